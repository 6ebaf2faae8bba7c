/-
  What WorldRuns needs besides of four texts.
-/
import Derived.Deep.RegionHeld3
import Derived.Deep.AppendLies
import Derived.Lib.SliceRun
import Derived.Deep.DeepAppendWide
import Derived.Test.YtoonnbhoiocoeaaGreatDoorQ18
import Derived.Test.YtoonnbhoiocoeaaGreatDoorQ24
import Derived.Test.YtoonnbhoiocoeaaGreatDoorQ28
import Derived.Test.YtoonnbhoiocoeaaGreatDoorQ04
import Derived.Test.YtoonnbhoiocoeaaGreatDoorQ10
import Derived.Test.YtoonnbhoiocoeaaGreatDoorQ32
import Derived.Test.YtoonnbhoiocoeaaGreatDoorQ20
import Derived.Test.YtoonnbhoiocoeaaGreatDoorQ03
import Derived.Test.YtoonnbhoiocoeaaGreatDoorQ01
set_option maxHeartbeats 40000000
set_option maxRecDepth 100000
set_option linter.unusedVariables false
namespace Go.Proofs.YtoonnbhoiocoeaaGreatDoor
open Go.RowKit Go.ChangeShapes Go.WideShapes Go.ChangeAt Go.Joins
open Go.RowKit
open Go.Lib (byteCells)
theorem ap:∀(l:List Hp) (w:Wd),dw w=0->dw (ff w l).1=0
 | [],_,h=>h
 |x::l,w,h=>by
  rw[sS]
  split
  .rename_i h0
   exact ap l _ (sD h h0)
  exact ap l _ h
theorem cj {α:Type}{l:List α}(h:l.length=4):∃a b c d,l=[a,b,c,d]:=by
 match l,h with
 | [a,b,c,d],_=>exact⟨a,b,c,d,rfl⟩
theorem co:Tryz.prog.cellsOf 31=1:=by kernel_rfl
theorem cv (x:Wd)(p:Pw)(la:Option Addr)(ln lc:Nat)(w:World)(hg:Gl w)(I:dE w p x)(few:p.n1+p.n2<=9223372036854775807)(kg:p.sn<=140737488355328)(h:dw x≠0):
  Calls Tryz.prog 23 #[p.val x.up,.slice la ln lc] w (xr w zD [] (dw x)):=by
 have c:=fun W g i=>FQ x p W g i few kg h
 have hd:decide (dw x=0)=false:=decide_eq_false h
 generalize dw x=E at*
 obtain⟨C,D,up,rd⟩:=x
 obtain⟨sa,sn,sG,a1,n1,c1,a2,n2,c2,ra,rn,rc⟩:=p
 simp only[Pw.val,ti] at*
 have BX:=(ag.laid w [.slice sa sn sG,.slice a1 n1 c1,.slice a2 n2 c2,.bool up,.slice ra rn rc] 30 _ rfl).alc (.cells #[.slice none 0 0,.slice none 0 0,.slice none 0 0,.bool false,.slice none 0 0] 30)
 have BR:=ag.laid (w.alloc (.cells #[.slice sa sn sG,.slice a1 n1 c1,.slice a2 n2 c2,.bool up,.slice ra rn rc] 30)) [.slice none 0 0,.slice none 0 0,.slice none 0 0,.bool false,.slice none 0 0] 30 (w.heap.size+1) (by simp)
 have bel:=newB (newB (Below.refl w.heap.size w) (.cells #[.slice sa sn sG,.slice a1 n1 c1,.slice a2 n2 c2,.bool up,.slice ra rn rc] 30)) (.cells #[.slice none 0 0,.slice none 0 0,.slice none 0 0,.bool false,.slice none 0 0] 30)
 replace I:=aa (I.keep bel (Nat.le_refl _))
 have gl:=hg.call bel
 have ip:w.heap.size<=w.heap.size+1:=Nat.le_succ _
 go_enter Tryz.func23,Tryz.ntmps23
 go_upto_region 1 with fail
 generalize World.alloc (World.alloc w _) _=w1 at*
 obtain⟨x0,x1,x2,x3,x4,xl⟩:=BX.c5
 go_wp2_with fail
 go_at_call 32
 refine(c _ gl I.out).mono ?_
 rintro e w2 ⟨rfl,b2⟩
 clear c x0 x1 x2 x3 x4 xl BX I gl
 have bq:=newB b2 (.cells #[.slice none 0 0,.slice none 0 0,.slice none 0 0,.bool false,.slice none 0 0] 30)
 replace BR:=BR.keep bq BR.lt
 replace bel:=ac bel bq
 clear bq b2
 go_upto_region 3 with fail
 generalize World.alloc w2 _=w3 at*
 obtain⟨r0,r1,r2,r3,r4,-⟩:=BR.c5
 obtain⟨f0,f1,f2,f3,f4⟩:=BR.f5
 have rl:=BR.lt
 replace BR:=aa BR
 replace bel:=aa bel
 go_wp2_with fail
 have B9:=fA BR.out (.slice none 0 0) (.slice none 0 0) (.slice none 0 0) (.bool false) (.slice none 0 0)
 have aq:=dP bel.out ip (.slice none 0 0) (.slice none 0 0) (.slice none 0 0) (.bool false) (.slice none 0 0)
 obtain⟨i0,i1,i2,i3,i4,-⟩:=B9.c5
 exact bodyPost_ret (v:=.tuple #[.agg #[.slice none 0 0,.slice none 0 0,.slice none 0 0,.bool false,.slice none 0 0],.slice none 0 0,.int .i64 E]) (by simp[results,Tryz.results23,go_sem,i0,i1,i2,i3,i4]) rfl ⟨ti,none,0,0,rfl,dE.nil _,aa rfl,Sl.ofNil _,aq⟩
theorem cc {H:Type}{enc:TypeId × Value->H}{W:World}(cs:List Value)(x:DataW H × List MemPlace)(m:Nat)(hl:cs.length=4)(h:DataW.trod enc Tryz.prog W 0 (fun _=>true) true m 33 cs=some x)(hw:iT 33 x.1):
  ∃y:dK,cs=y.cells/\be ec W y.a y.c y.r.e:=by
 obtain⟨c0,c1,c2,c3,rfl⟩:=cj hl
 obtain⟨y0,y1,y2,y3,n,rfl,_,h0,h1,h2,h3⟩:=trod_struct4 Tryz.underlying33 h
 simp only[AF,co,List.drop_zero,List.drop_succ_cons,List.take_succ_cons,List.take_zero] at h0 h1 h2 h3
 obtain⟨a0,e0,rfl,w0⟩:=DataW.trod_int Tryz.underlying3 h0
 obtain⟨a1,e1,rfl,w1⟩:=DataW.trod_int Tryz.underlying3 h1
 obtain⟨a2,e2,rfl,w2⟩:=DataW.trod_int Tryz.underlying3 h2
 obtain⟨ao,k,cap,e3⟩:=slice_form Tryz.underlying31 h3
 simp at e0 e1 e2 e3
 subst e0 e1 e2 e3
 have Qs:iT 31 y3.1:=by
  intro n hn
  refine hw n ?_
  simp[DataW.weights,DataW.weightsEach,Tryz.underlying33,hn]
 obtain⟨l,hl,s,_,_⟩:=ky (ao:=ao) (n:=k) (cap:=cap) ec (fun _=>True) Tryz.underlying31 (by kernel_rfl) (by decide) dq (fun cs x m=>NR cs x m) (by simpa[Value.cells] using h3) Qs
 subst hl
 exact⟨⟨⟨a0,a1,a2,l⟩,ao,cap⟩,rfl,s⟩
theorem bD {H:Type}{enc:TypeId × Value->H}{W:World}{ao:Option Addr}{n cap:Nat}{d:DataW H}{ps:List MemPlace}
  (h:DataW.Trod enc Tryz.prog W 0 (fun _=>true) true 59 (.slice ao n cap) d ps) (hw:iT 59 d):
  ∃l:List dK,l.length=n/\eK W ao cap l/\cap*48<=140737488351232:=by
 obtain⟨fuel,hf⟩:=h
 obtain⟨l,hl,s,g,r⟩:=ky (ao:=ao) (n:=n) (cap:=cap) dK.cells (fun y=>be ec W y.a y.c y.r.e) Tryz.underlying59 Le (by decide) dK.four (fun cs x m=>cc cs x m) (by simpa[Value.cells] using hf) hw
 rw[show Tryz.prog.bytesOf 33=48 by kernel_rfl] at r
 exact⟨l,hl,⟨s,g⟩,r⟩
def ae (n:Nat)(l rs:List Lr):Prop:=∀r∈rs,r.hd≠[]->∀ad,r.ha=some ad->n<=ad.block\/∃q∈l,q.hd≠[]/\∃a0,q.ha=some a0/\a0.block=ad.block
theorem ae.nil (n:Nat)(l:List Lr):ae n l []:=fun r h=>by cases h
theorem ae.self (n:Nat)(l:List Lr):ae n l l:=fun r h aF ad e=>.inr ⟨r,h,aF,ad,e,rfl⟩
theorem ae.set {n k:Nat}{l:List Lr}{x:Lr}(hx:x.hd≠[]->∀ad,x.ha=some ad->n<=ad.block\/∃q∈l,q.hd≠[]/\∃a0,q.ha=some a0/\a0.block=ad.block):ae n l (l.set k x):=by
 intro r hr aF ad e
 rcases List.mem_or_eq_of_mem_set hr with h|rfl
 .exact .inr ⟨r,h,aF,ad,e,rfl⟩
 exact hx aF ad e
theorem ae.put {n k:Nat}{l rs:List Lr}{x:Lr}(h:ae n l rs)(hx:∀ad,x.ha=some ad->n<=ad.block):ae n l (rs.set k x):=by
 intro r hr aF ad e
 rcases List.mem_or_eq_of_mem_set hr with h'|rfl
 .exact h r h' aF ad e
 exact .inl (hx ad e)
theorem ae.off {P:Nat->Prop}{n:Nat}{l rs:List Lr}(h:ae n l rs)(hP:∀q,P q->q<n)(k:∀r∈l,r.hd≠[]->∀q,P q->Off q r.ha):∀r∈rs,r.hd≠[]->∀q,P q->Off q r.ha:=by
 intro r hr aF q hq ad e eb
 rcases h r hr aF ad e with h1| ⟨r',h2,h3,a0,e1,e2⟩
 .have:=hP q hq
  omega
 exact k r' h2 h3 q hq a0 e1 (e2.trans eb)
theorem A2 (l:List Lr):∀v∈l.flatMap Lr.cells,v.oneCell'=true:=by
 intro v hv
 obtain⟨r,_,h⟩:=List.mem_flatMap.1 hv
 simp only[Lr.cells,List.mem_cons,List.not_mem_nil,or_false] at h
 rcases h with rfl|rfl<;>rfl
theorem qz (l:List Lb):∀v∈l.flatMap Lb.cells,v.oneCell'=true:=by
 intro v hv
 obtain⟨r,_,h⟩:=List.mem_flatMap.1 hv
 simp only[Lb.cells,List.mem_cons,List.not_mem_nil,or_false] at h
 rcases h with rfl|rfl|rfl|rfl<;>rfl
theorem rh (w:World)(x y:List Value)(t:TypeId):ag ((w.alloc (.cells x.toArray t)).alloc (.cells y.toArray t)) (w.heap.size+1) y t/\Below w.heap.size w ((w.alloc (.cells x.toArray t)).alloc (.cells y.toArray t)):=
 ⟨ag.laid _ y t _ (by simp),dN w _ _⟩
theorem CL (m:Nat)(ao:Option Addr)(cap:Nat)(s n:Int)(w:World)(h:dG s 0 3=false):
  Calls Tryz.prog 100 #[.agg #[.slice ao m cap],.int .i64 s,.int .i64 n] w fun e w'=>e=.returned (.tuple #[.agg #[.slice none 0 0],.int .i64 5])/\Below w.heap.size w w':=by
 have c:=fun W=>bG s 0 3 W
 unfold dG at h
 rw[h] at c
 clear h
 go_enter Tryz.func100,Tryz.ntmps100
 go_wp2_with fail
 go_at_call 36
 refine(c _).mono ?_
 rintro e w1 ⟨rfl,rfl⟩
 go_wp2_with fail
 exact bodyPost_ret (v:=.tuple #[.agg #[.slice none 0 0],.int .i64 5]) (by simp[results,Tryz.results100,go_sem]) rfl ⟨rfl,dN w _ _⟩
theorem Bu {w:World}{base:Nat}{e:TypeId}{v:Value}{xs:List Value}(h:w.ownsRow base e 2 v 4 xs):∃g cap,v=.slice (some ⟨g,0,none⟩) 4 cap/\base<=g/\g<w.heap.size:=by
 rcases h.2 with⟨rfl,h0⟩| ⟨g,cap,cur,rfl,hb,hg,_⟩
 .cases h0
 exact⟨g,cap,rfl,hb,(Array.getElem?_eq_some_iff.1 hg).1⟩
theorem yw {w:World}{base g cap:Nat}{e:TypeId}{l:List Lr}(h:w.ownsRow base e 2 (.slice (some ⟨g,0,none⟩) 4 cap) 4 (l.flatMap Lr.cells))(k:Nat)(hk:k<4)(r:Lr)(hr:l[k]? =some r):
  w.cell? ⟨g,k*2,none⟩=some (.slice r.ba r.bs.length r.bc)/\w.cell? ⟨g,k*2+1,none⟩=some (.slice r.ha r.hd.length r.hc):=by
 rw[h.cellAt (k*2) (by omega),h.cellAt (k*2+1) (by omega)]
 exact⟨flat_get Lr.two l k 0 r hr (by decide),flat_get Lr.two l k 1 r hr (by decide)⟩
theorem zj (l:List Lr)(ao:Option Addr)(cap:Nat)(k:Nat)(n:Int)(w:World)(hs:bL w ao cap l)(h4:l.length=4)(hk:k<4)(r:Lr)(hr:l[k]? =some r)(h:dG n 1 r.hd.length=false):
  Calls Tryz.prog 100 #[.agg #[.slice ao 4 cap],.int .i64 k,.int .i64 n] w fun e w'=>e=.returned (.tuple #[.agg #[.slice none 0 0],.int .i64 3])/\Below w.heap.size w w':=by
 have c:=fun W=>bG (k:Int) 0 3 W
 rw[decide_eq_true (show(0:Int)<=k/\(k:Int)<=3 by omega)] at c
 have c2:=fun W=>bG n 1 (r.hd.length:Int) W
 unfold dG at h
 rw[h] at c2
 have c3:=fun W (hW:be Lr.cells W ao cap l)=>JB ao cap (l.flatMap Lr.cells) 4 W hW.row (by have:=hs.sl.le;omega) hs.sl.nil (by rw[av Lr.two,h4]) (A2 l) (by omega)
 have rc:=fun W g c (h:World.ownsRow W (w.heap.size+2) 53 2 (.slice (some ⟨g,0,none⟩) 4 c) 4 (l.flatMap Lr.cells))=>yw h k hk r hr
 have s2:=fun o1 o2=>(hs.sl.alloc o1).alloc o2
 have fC:(k:Int)<4:=by omega
 generalize r.hd.length=m at*
 generalize r.bs.length=bn at*
 clear h hr h4 hs
 go_enter Tryz.func100,Tryz.ntmps100
 go_wp2_with fail
 go_at_call 36
 refine(c _).mono ?_
 rintro e w1 ⟨rfl,rfl⟩
 go_wp2_with fail
 have BR:=(rh w [.slice ao 4 cap] [.slice none 0 0] 24)
 go_at_call 129
 refine(c3 _ (s2 _ _)).mono ?_
 rintro e w1 ⟨v1,rfl,own,b1⟩
 obtain⟨BR,bel⟩:=BR
 replace BR:=BR.keep b1 BR.lt
 replace bel:=ac bel b1
 clear b1 s2 c3 c
 obtain⟨g,G,rfl,zn,QC⟩:=Bu own
 simp only[World.size_alloc] at own zn
 obtain⟨e0,e1⟩:=rc _ _ _ own
 have f0:=BR.free 0
 have d0:w1.cell? ⟨w.heap.size+1,0,none⟩=some (.slice none 0 0):=BR.cell 0
 have jF:=BR.lt
 go_wp2_with fail
 go_at_call 36
 refine(c2 _).mono ?_
 rintro e w2 ⟨rfl,rfl⟩
 go_wp2_with fail
 exact bodyPost_ret (v:=.tuple #[.agg #[.slice none 0 0],.int .i64 3]) (by simp[results,Tryz.results100,go_sem,d0,jF]) rfl ⟨rfl,ax (bel.setCell (by simp) _) _⟩
theorem Av (l:List Lr)(ao:Option Addr)(cap:Nat)(k:Nat)(q:Nat)(w:World)(hs:bL w ao cap l)(h4:l.length=4)(hk:k<4)(r:Lr)(hr:l[k]? =some r)(h:dG q 1 r.hd.length=true)(h8:8<=r.bs.length)(hb:r.bs.length<=8):
  Calls Tryz.prog 100 #[.agg #[.slice ao 4 cap],.int .i64 k,.int .i64 q] w fun e w'=>e=.returned (.tuple #[.agg #[.slice none 0 0],.int .i64 2])/\Below w.heap.size w w':=by
 have c:=fun W=>bG (k:Int) 0 3 W
 rw[decide_eq_true (show(0:Int)<=k/\(k:Int)<=3 by omega)] at c
 have c2:=fun W=>bG (q:Int) 1 (r.hd.length:Int) W
 unfold dG at h
 rw[h] at c2
 have c3:=fun W (hW:be Lr.cells W ao cap l)=>JB ao cap (l.flatMap Lr.cells) 4 W hW.row (by have:=hs.sl.le;omega) hs.sl.nil (by rw[av Lr.two,h4]) (A2 l) (by omega)
 have rc:=fun W g c (h:World.ownsRow W (w.heap.size+2) 53 2 (.slice (some ⟨g,0,none⟩) 4 c) 4 (l.flatMap Lr.cells))=>yw h k hk r hr
 have s2:=fun o1 o2=>(hs.sl.alloc o1).alloc o2
 have fC:(k:Int)<4:=by omega
 generalize r.hd.length=m at*
 generalize r.bs.length=bn at*
 have jW:(8:Int)<=bn:=by omega
 clear h hr h4 hs
 go_enter Tryz.func100,Tryz.ntmps100
 go_wp2_with fail
 go_at_call 36
 refine(c _).mono ?_
 rintro e w1 ⟨rfl,rfl⟩
 go_wp2_with fail
 have BR:=(rh w [.slice ao 4 cap] [.slice none 0 0] 24)
 go_at_call 129
 refine(c3 _ (s2 _ _)).mono ?_
 rintro e w1 ⟨v1,rfl,own,b1⟩
 obtain⟨BR,bel⟩:=BR
 replace BR:=BR.keep b1 BR.lt
 replace bel:=ac bel b1
 clear b1 s2 c3 c
 obtain⟨g,G,rfl,zn,QC⟩:=Bu own
 simp only[World.size_alloc] at own zn
 obtain⟨e0,e1⟩:=rc _ _ _ own
 have f0:=BR.free 0
 have d0:w1.cell? ⟨w.heap.size+1,0,none⟩=some (.slice none 0 0):=BR.cell 0
 have jF:=BR.lt
 go_wp2_with fail
 go_at_call 36
 refine(c2 _).mono ?_
 rintro e w2 ⟨rfl,rfl⟩
 go_wp2_with fail
 exact bodyPost_ret (v:=.tuple #[.agg #[.slice none 0 0],.int .i64 2]) (by simp[results,Tryz.results100,go_sem,d0,jF]) rfl ⟨rfl,ax (bel.setCell (by simp) _) _⟩
theorem rg {w:World}{base cF:Nat}{e:TypeId}{size n:Nat}{v:Value}{xs:List Value}(h:w.ownsRow base e size v n xs)(hb:cF<=base):w.ownsRow cF e size v n xs:=by
 refine⟨h.1,?_⟩
 rcases h.2 with h0| ⟨g,cap,cur,e1,h1,h2⟩
 .exact .inl h0
 exact .inr ⟨g,cap,cur,e1,Nat.le_trans hb h1,h2⟩
theorem Gk (l:List Lr)(ao:Option Addr)(cap:Nat)(k q:Nat)(w:World)(hs:bL w ao cap l)(h4:l.length=4)(hk:k<4)(r:Lr)(hr:l[k]? =some r)(hm:r.hd.length<=40)(h1:1<=q)(h2:q<=r.hd.length)(hb:r.bs.length<8):
  Calls Tryz.prog 100 #[.agg #[.slice ao 4 cap],.int .i64 k,.int .i64 q] w fun e w'=>
   ∃rs a' G,e=.returned (.tuple #[.agg #[.slice a' 4 G],.int .i64 0])/\rs.map Lr.rw=(l.map Lr.rw).set k ⟨r.bs.map Lb.b++[dC (r.hd.take q)],r.hd.drop q⟩/\bL w' a' G rs/\Below w.heap.size w w'/\ae w.heap.size l rs:=by
 have c:=fun W=>bG (k:Int) 0 3 W
 rw[decide_eq_true (show(0:Int)<=k/\(k:Int)<=3 by omega)] at c
 have c2:=fun W=>bG (q:Int) 1 (r.hd.length:Int) W
 rw[decide_eq_true (show(1:Int)<=q/\(q:Int)<=r.hd.length by omega)] at c2
 obtain⟨lb,lo,rfl,-⟩:=hs.where (by intro e;rw[e] at h4;simp at h4)
 have c3:=fun W (hW:be Lr.cells W (some ⟨lb,lo,none⟩) cap l)=>tQ ⟨lb,lo,none⟩ cap (l.flatMap Lr.cells) 4 W hW.row (by rw[av Lr.two,h4]) (by decide) (by decide)
 have s2:=fun o1 o2=>(hs.sl.alloc o1).alloc o2
 have gr:=hs.good r (List.mem_of_getElem? hr)
 have gl:=hs.good
 have c4:∀W,aV W r.ha r.hc r.hd->Calls Tryz.prog 131 #[.slice r.ha q r.hc] W fun e w'=>∃a' G,e=.returned (.tuple #[ej (dC (r.hd.take q)) a' G,.int .i64 (fk (r.hd.take q))])/\Sl w' a' G ((dC (r.hd.take q)).bits.map Value.bool)/\Below W.heap.size W w':=by
  intro W h
  have t:=uE r.ha r.hc (r.hd.take q) W (h.front q)
  rw[List.length_take,Nat.min_eq_left h2] at t
  exact t
 have lM:=qL (r.hd.take q)
 have TJ:r.hd.length<=r.hc:=gr.hd.le
 have Zz:=gr.hd.max
 obtain⟨bs,ba,bc,hd,ha,hc⟩:=r
 have SS:=List.mem_of_getElem? hr
 replace SS:=aa SS
 simp only at*
 generalize dC (hd.take q)=M at*
 generalize fk (hd.take q)=ME at*
 have fC:(k:Int)<4:=by omega
 obtain⟨m,em⟩:∃m,m=hd.length:=⟨_,rfl⟩
 obtain⟨bn,eb⟩:∃bn,bn=bs.length:=⟨_,rfl⟩
 rw[<-em] at c2 h2 hm TJ
 rw[<-eb] at hb
 have Dj:(bn:Int)<8:=by omega
 replace em:=aa em
 replace eb:=aa eb
 replace hr:=aa hr
 replace h4:=aa h4
 have gW:=fun W (hW:Below w.heap.size w W)=>gr.keep hW (Nat.le_refl _)
 obtain⟨yt,Et,rfl,j3⟩:=gr.hd.where (by intro e;have e':hd=[]:=e;have:=em.out;rw[e'] at this;simp at this;omega)
 have pt:=gr.hd.part q hd.length (by rw[<-em.out];exact h2) (Nat.le_refl _)
 simp only at pt
 rw[List.take_length] at pt
 clear gr hs
 go_enter Tryz.func100,Tryz.ntmps100
 go_wp2_with fail
 go_at_call 36
 refine(c _).mono ?_
 rintro e w1 ⟨rfl,rfl⟩
 go_wp2_with fail
 have BR:=(rh w [.slice (some ⟨lb,lo,none⟩) 4 cap] [.slice none 0 0] 24)
 go_at_call 129
 refine(c3 _ (s2 _ _)).mono ?_
 rintro e w1 ⟨g,G,L,rfl,B1,hL,hG,pT,zn,b1⟩
 have rows:dL w1 g G l:=⟨⟨L,B1,hL⟩,by rw[h4.out];exact hG,pT⟩
 obtain⟨BR,bel⟩:=BR
 replace BR:=BR.keep b1 BR.lt
 replace bel:=ac bel b1
 clear b1 s2 c3 c B1 hL L
 simp only[World.size_alloc] at zn
 obtain⟨e0,e1⟩:=rows.cells k _ hr.out
 simp only at e0 e1
 rw[<-eb.out] at e0
 rw[<-em.out] at e1
 have QC:=rows.lt
 go_wp2_with fail
 go_at_call 36
 refine(c2 _).mono ?_
 rintro e w2 ⟨rfl,rfl⟩
 clear c2
 go_wp2_with fail
 have B9:=ag.laid w1 [.slice ba bn bc,.slice (some ⟨yt,Et,none⟩) m hc] 53 _ rfl
 replace rows:=rows.alloc (.cells #[.slice ba bn bc,.slice (some ⟨yt,Et,none⟩) m hc] 53)
 replace BR:=BR.alc (.cells #[.slice ba bn bc,.slice (some ⟨yt,Et,none⟩) m hc] 53)
 replace bel:=ax bel (.cells #[.slice ba bn bc,.slice (some ⟨yt,Et,none⟩) m hc] 53)
 clear e0 e1
 generalize Oz:w1.heap.size=g9 at*
 generalize w1.alloc _=w2 at*
 clear Oz
 go_at_call 131
 refine(c4 _ (gW _ bel).hd).mono ?_
 rintro e w3 ⟨a3,G3,rfl,t3,b3⟩
 replace rows:=rows.call b3
 replace BR:=BR.keep b3 BR.lt
 replace B9:=B9.keep b3 B9.lt
 replace bel:=ac bel b3
 clear b3 c4
 unfold ej
 go_wp2_with fail
 have sw:=ag.laid w3 [.int .i64 M.n,.int .i64 M.fr,.int .i64 M.to,.slice a3 M.bits.length G3] 107 _ rfl
 have WX:=rows.lt
 replace rows:=rows.alloc (.cells #[.int .i64 M.n,.int .i64 M.fr,.int .i64 M.to,.slice a3 M.bits.length G3] 107)
 replace BR:=BR.alc (.cells #[.int .i64 M.n,.int .i64 M.fr,.int .i64 M.to,.slice a3 M.bits.length G3] 107)
 replace B9:=B9.alc (.cells #[.int .i64 M.n,.int .i64 M.fr,.int .i64 M.to,.slice a3 M.bits.length G3] 107)
 replace bel:=ax bel (.cells #[.int .i64 M.n,.int .i64 M.fr,.int .i64 M.to,.slice a3 M.bits.length G3] 107)
 replace t3:=t3.alloc (.cells #[.int .i64 M.n,.int .i64 M.fr,.int .i64 M.to,.slice a3 M.bits.length G3] 107)
 generalize Xi:w3.heap.size=g10 at*
 generalize w3.alloc _=w4 at*
 clear Xi
 obtain⟨i1,km,y0,y1,y2⟩:=info_parts x7
 have q0:w4.cell? ⟨g9,0,none⟩=some (.slice ba bn bc):=B9.cell 0
 have q1:w4.cell? ⟨g9,1,none⟩=some (.slice (some ⟨yt,Et,none⟩) m hc):=B9.cell 1
 have p0:w4.cell? ⟨g10,0,none⟩=some (.int .i64 M.n):=sw.cell 0
 have p1:w4.cell? ⟨g10,1,none⟩=some (.int .i64 M.fr):=sw.cell 1
 have p2:w4.cell? ⟨g10,2,none⟩=some (.int .i64 M.to):=sw.cell 2
 have p3:w4.cell? ⟨g10,3,none⟩=some (.slice a3 M.bits.length G3):=sw.cell 3
 have l9:=B9.lt
 have l10:=sw.lt
 have cB:∀W,Below w4.heap.size w4 W->Calls Tryz.prog 132 #[.slice ba bn bc] W fun e w'=>∃v',e=.returned v'/\w'.ownsRow w4.heap.size 107 4 v' bn (bs.flatMap Lb.cells)/\Below W.heap.size W w'/\Below w4.heap.size w4 w'/\v'.ownBlock≠some g9/\v'.ownBlock≠some g10/\g9<w'.heap.size/\g10<w'.heap.size/\w'.cell? ⟨g9,0,none⟩=some (.slice ba bn bc)/\w'.cell? ⟨g9,1,none⟩=some (.slice (some ⟨yt,Et,none⟩) m hc)/\w'.cell? ⟨g10,0,none⟩=some (.int .i64 M.n)/\w'.cell? ⟨g10,1,none⟩=some (.int .i64 M.fr)/\w'.cell? ⟨g10,2,none⟩=some (.int .i64 M.to)/\w'.cell? ⟨g10,3,none⟩=some (.slice a3 M.bits.length G3):=by
  intro W hW
  have gg:=(gW W (bel.trans (hW.mono bel.size))).bs
  refine(PZ ba bc (bs.flatMap Lb.cells) bn W gg.sl.row (by have:=gg.sl.le;rw[eb.out];exact this) gg.sl.nil (by rw[av Lb.four,eb.out]) (qz bs) (by omega)).mono ?_
  rintro e w' ⟨v',rfl,o',b'⟩
  have o2:=rg o' hW.size
  have bb:=hW.trans (b'.mono hW.size)
  refine⟨v',rfl,o2,b',bb,?_,?_,Nat.lt_of_lt_of_le l9 bb.size,Nat.lt_of_lt_of_le l10 bb.size,?_⟩
  .intro e;have:=(o2.lt g9 e).1;omega
  .intro e;have:=(o2.lt g10 e).1;omega
  have k9:=B9.keep bb l9
  have yZ:=sw.keep bb l10
  exact⟨k9.cell 0,k9.cell 1,yZ.cell 0,yZ.cell 1,yZ.cell 2,yZ.cell 3⟩
 have fc:∀u:Value,u∈([.int .i64 M.n,.int .i64 M.fr,.int .i64 M.to,.slice a3 M.bits.length G3]:List Value)->u.oneCell'=true:=by intro u hu;simp only[List.mem_cons,List.not_mem_nil,or_false] at hu;rcases hu with rfl|rfl|rfl|rfl<;>rfl
 have oJ:=rows.lt
 obtain⟨r0,r1⟩:=rows.cells k _ hr.out
 have OE:=rows.free (k*2)
 have Ie:=rows.free (k*2+1)
 have lR:=BR.lt
 have rR:w4.cell? ⟨w.heap.size+1,0,none⟩=some (.slice none 0 0):=BR.cell 0
 have fR:=BR.free 0
 have Xk:¬g=w.heap.size+1:=by omega
 have Uj:¬w.heap.size+1=g:=by omega
 have U8:¬g=g9:=by omega
 have To:¬g=g10:=by omega
 have iZ:(0:Int)<=q:=by omega
 have Dn:(0:Int)<=k:=by omega
 have fin:∀(g6 c6:Nat) (w6:World) (qF:Option Addr),aV w qF (hc-q) (hd.drop q)->(∀ad,qF=some ad->ad.block=yt)->w6.ownsRow w4.heap.size 107 4 (.slice (some ⟨g6,0,none⟩) (bn+1) c6) (bn+1) (bs.flatMap Lb.cells++[.int .i64 M.n,.int .i64 M.fr,.int .i64 M.to,.slice a3 M.bits.length G3])->Below w4.heap.size w4 w6->
   (l.set k ⟨bs++[⟨M,a3,G3⟩],some ⟨g6,0,none⟩,c6,hd.drop q,qF,hc-q⟩).map Lr.rw=(l.map Lr.rw).set k ⟨bs.map Lb.b++[M],hd.drop q⟩/\
   bL (((w6.setCell ⟨g,k*2,none⟩ (.slice (some ⟨g6,0,none⟩) (bn+1) c6)).setCell ⟨g,k*2+1,none⟩ (.slice qF (m-q) (hc-q))).setCell ⟨w.heap.size+1,0,none⟩ (.slice (some ⟨g,0,none⟩) 4 G)) (some ⟨g,0,none⟩) G (l.set k ⟨bs++[⟨M,a3,G3⟩],some ⟨g6,0,none⟩,c6,hd.drop q,qF,hc-q⟩)/\
   Below w.heap.size w (((w6.setCell ⟨g,k*2,none⟩ (.slice (some ⟨g6,0,none⟩) (bn+1) c6)).setCell ⟨g,k*2+1,none⟩ (.slice qF (m-q) (hc-q))).setCell ⟨w.heap.size+1,0,none⟩ (.slice (some ⟨g,0,none⟩) 4 G))/\ae w.heap.size l (l.set k ⟨bs++[⟨M,a3,G3⟩],some ⟨g6,0,none⟩,c6,hd.drop q,qF,hc-q⟩):=by
  intro g6 c6 w6 qF e2 Ia d8 eg
  obtain⟨x,hx⟩:∃x:Lr,x=⟨bs++[⟨M,a3,G3⟩],some ⟨g6,0,none⟩,c6,hd.drop q,qF,hc-q⟩:=⟨_,rfl⟩
  have UQ:((w6.setCell ⟨g,k*2,none⟩ (.slice (some ⟨g6,0,none⟩) (bn+1) c6)).setCell ⟨g,k*2+1,none⟩ (.slice qF (m-q) (hc-q))).setCell ⟨w.heap.size+1,0,none⟩ (.slice (some ⟨g,0,none⟩) 4 G)=wrote w6 g k x (w.heap.size+1) (.slice (some ⟨g,0,none⟩) 4 G):=by
   rw[hx]
   simp only[wrote,List.length_append,List.length_singleton,List.length_drop,<-eb.out,<-em.out]
  rw[UQ]
  have dD:=bel.trans (eg.mono bel.size)
  have b8:=um dD (g:=g) (gR:=w.heap.size+1) (by omega) (by omega) k x (.slice (some ⟨g,0,none⟩) 4 G)
  have yX:=rows.keep eg rows.lt
  have jZ:=BR.keep eg BR.lt
  have t6:=vN (t3.keep eg (Nat.le_refl _)) yX jZ (by intro v hv b e;simp at hv;subst hv;cases e) k x (.slice (some ⟨g,0,none⟩) 4 G)
  have nt:=y7 d8 oJ lR k x (.slice (some ⟨g,0,none⟩) 4 G)
  rw[show bs.flatMap Lb.cells++[.int .i64 M.n,.int .i64 M.fr,.int .i64 M.to,.slice a3 M.bits.length G3]=(bs++[(⟨M,a3,G3⟩:Lb)]).flatMap Lb.cells by rw[List.flatMap_append];rfl] at nt
  obtain⟨a9,c9,ev,Sx,_,_⟩:=be.ofOwn Lb.four (by decide) nt
  simp only[Value.slice.injEq,true_and] at ev
  obtain⟨rfl,rfl⟩:=ev
  have gx:x.Good (wrote w6 g k x (w.heap.size+1) (.slice (some ⟨g,0,none⟩) 4 G)):=by
   generalize wrote w6 g k x (w.heap.size+1) (.slice (some ⟨g,0,none⟩) 4 G)=w8 at*
   rw[hx]
   have gb:=(gW w8 b8).bs
   refine⟨⟨Sx,fun y hy=>?_⟩,?_,?_,?_⟩
   .rcases List.mem_append.1 hy with hy|hy
    .exact gb.good y hy
    simp at hy
    subst hy
    exact⟨t6,by simp only;omega⟩
   .exact e2.keep b8 (Nat.le_refl _)
   .simp only[List.length_append,List.length_singleton]
    rw[<-eb.out]
    omega
   simp only[List.length_drop]
   rw[<-em.out]
   omega
  refine⟨?_,?_,b8,ae.set (fun aF ad e=>.inr ⟨_,SS.out,fun h=>aF (by simp only at h⊢;rw[h];simp),⟨yt,Et,none⟩,rfl,(Ia ad e).symm⟩)⟩
  .rw[List.map_set]
   congr 1
   unfold Lr.rw
   simp
  rw[<-hx]
  exact vJ yX (by omega) k (by rw[h4.out];exact hk) x _ b8 gl gx
 by_cases sE:hc=q
 .rw[if_pos sE] at pt
  obtain rfl:q=m:=by omega
  obtain rfl:q=hc:=sE.symm
  clear sE
  rw[Nat.sub_self] at pt
  simp only[Nat.sub_self] at fin
  go_region_held3 (fun w'=>w'.cell? ⟨g9,0,none⟩=some (.slice ba bn bc)/\w'.cell? ⟨g9,1,none⟩=some (.slice (some ⟨yt,Et,none⟩) q q)/\w'.cell? ⟨g10,0,none⟩=some (.int .i64 M.n)/\w'.cell? ⟨g10,1,none⟩=some (.int .i64 M.fr)/\w'.cell? ⟨g10,2,none⟩=some (.int .i64 M.to)/\w'.cell? ⟨g10,3,none⟩=some (.slice a3 M.bits.length G3))
   (first
    |go_keep
    | (
      go_split_ands
      refine⟨?_,?_,?_,?_,?_,?_⟩
      ·(rw[dj.cell_far _ (by simp;omega) (Ne.symm n9)];assumption)
      ·(rw[dj.cell_far _ (by simp;omega) (Ne.symm n9)];assumption)
      ·(rw[dj.cell_far _ (by simp;omega) (Ne.symm n10)];assumption)
      ·(rw[dj.cell_far _ (by simp;omega) (Ne.symm n10)];assumption)
      ·(rw[dj.cell_far _ (by simp;omega) (Ne.symm n10)];assumption)
      (rw[dj.cell_far _ (by simp;omega) (Ne.symm n10)];assumption)))
   (first
    | (go_at_call 132;refine(cB _ ?_).mono ?_;(first|exact ak (Below.refl _ _)|exact ak (ax (Below.refl _ _) _));rintro e w5 ⟨v5,rfl,dM,b5,ki,n9,n10,Zm,Yb,z0,z1,z2,z3,z4,z5⟩)
    | ((refine step_append_lies _ (by rfl) (.tmp 47) (.tmp 49) 51 (by rfl) w4.heap.size 107 i1 (.agg #[.int .i64 0,.int .i64 0,.int .i64 0,.slice none 0 0]) 4 48 Tryz.underlying51 km y0 y1 y2 rfl (by decide) v5 bn _ (by rfl) (dM.alloc _) ⟨w5.heap.size,0,none⟩ 1 1 [.int .i64 M.n,.int .i64 M.fr,.int .i64 M.to,.slice a3 M.bits.length G3] (by rfl) (by rfl) (World.news_of_block (cs:=#[.int .i64 M.n,.int .i64 M.fr,.int .i64 M.to,.slice a3 M.bits.length G3]) (t:=107) (fr:=(0,0)) (heap_alloc_new w5 _)) fc (by decide) (by unfold maxLen;omega) (by omega) (by simp;exact Nat.le_succ_of_le ki.size) (w5.heap.size+1) (by simp) ?_;intro g6 c6 w6 d8 dj Kb K8;have eg:=aG (ax ki _) (dM.alloc _) dj (Nat.le_refl _) (ax ki _).size;have u0:=(eg.cell (p:=⟨g,k*2,none⟩) oJ).trans r0;have u1:=(eg.cell (p:=⟨g,k*2+1,none⟩) oJ).trans r1;have x0:=(eg.frozen (p:=⟨g,k*2,none⟩) oJ).trans OE;have x1:=(eg.frozen (p:=⟨g,k*2+1,none⟩) oJ).trans Ie;have j0:=(eg.cell (p:=⟨w.heap.size+1,0,none⟩) lR).trans rR;have j1:=(eg.frozen (p:=⟨w.heap.size+1,0,none⟩) lR).trans fR))
    | ((refine step_append_lies _ (by rfl) (.tmp 47) (.tmp 49) 51 (by rfl) w4.heap.size 107 i1 (.agg #[.int .i64 0,.int .i64 0,.int .i64 0,.slice none 0 0]) 4 48 Tryz.underlying51 km y0 y1 y2 rfl (by decide) v5 bn _ (by rfl) dM ⟨w4.heap.size,0,none⟩ 1 1 [.int .i64 M.n,.int .i64 M.fr,.int .i64 M.to,.slice a3 M.bits.length G3] (by rfl) (by rfl) (World.news_of_block (cs:=#[.int .i64 M.n,.int .i64 M.fr,.int .i64 M.to,.slice a3 M.bits.length G3]) (t:=107) (fr:=(0,0)) ((b5.block w4.heap.size (by simp)).trans (heap_alloc_new w4 _))) fc (by decide) (by unfold maxLen;omega) (by omega) ki.size w5.heap.size rfl ?_;intro g6 c6 w6 d8 dj Kb K8;have eg:=aG ki dM dj (Nat.le_refl _) ki.size;have u0:=(eg.cell (p:=⟨g,k*2,none⟩) oJ).trans r0;have u1:=(eg.cell (p:=⟨g,k*2+1,none⟩) oJ).trans r1;have x0:=(eg.frozen (p:=⟨g,k*2,none⟩) oJ).trans OE;have x1:=(eg.frozen (p:=⟨g,k*2+1,none⟩) oJ).trans Ie;have j0:=(eg.cell (p:=⟨w.heap.size+1,0,none⟩) lR).trans rR;have j1:=(eg.frozen (p:=⟨w.heap.size+1,0,none⟩) lR).trans fR)))
  all_goals go_wp2_with fail
  all_goals(
   have E:=fin _ _ _ _ pt (by rintro ad h;cases h;rfl) d8 eg
   obtain⟨E1,E2,E3⟩:=E
   exact bodyPost_ret (v:=.tuple #[.agg #[.slice (some ⟨g,0,none⟩) 4 G],.int .i64 0]) (by simp[results,Tryz.results100,go_sem,j0]) rfl ⟨_,_,_,rfl,E1,E2,E3⟩)
 have aa4:q<hc:=by omega
 rw[if_neg sE,Option.map_some,Addr.add_lit] at pt
 go_region_held3 (fun w'=>w'.cell? ⟨g9,0,none⟩=some (.slice ba bn bc)/\w'.cell? ⟨g9,1,none⟩=some (.slice (some ⟨yt,Et,none⟩) m hc)/\w'.cell? ⟨g10,0,none⟩=some (.int .i64 M.n)/\w'.cell? ⟨g10,1,none⟩=some (.int .i64 M.fr)/\w'.cell? ⟨g10,2,none⟩=some (.int .i64 M.to)/\w'.cell? ⟨g10,3,none⟩=some (.slice a3 M.bits.length G3))
  (first
   |go_keep
   | (
     go_split_ands
     refine⟨?_,?_,?_,?_,?_,?_⟩
     ·(rw[dj.cell_far _ (by simp;omega) (Ne.symm n9)];assumption)
     ·(rw[dj.cell_far _ (by simp;omega) (Ne.symm n9)];assumption)
     ·(rw[dj.cell_far _ (by simp;omega) (Ne.symm n10)];assumption)
     ·(rw[dj.cell_far _ (by simp;omega) (Ne.symm n10)];assumption)
     ·(rw[dj.cell_far _ (by simp;omega) (Ne.symm n10)];assumption)
     (rw[dj.cell_far _ (by simp;omega) (Ne.symm n10)];assumption)))
  (first
   | (go_at_call 132;refine(cB _ ?_).mono ?_;(first|exact ak (Below.refl _ _)|exact ak (ax (Below.refl _ _) _));rintro e w5 ⟨v5,rfl,dM,b5,ki,n9,n10,Zm,Yb,z0,z1,z2,z3,z4,z5⟩)
   | ((refine step_append_lies _ (by rfl) (.tmp 47) (.tmp 49) 51 (by rfl) w4.heap.size 107 i1 (.agg #[.int .i64 0,.int .i64 0,.int .i64 0,.slice none 0 0]) 4 48 Tryz.underlying51 km y0 y1 y2 rfl (by decide) v5 bn _ (by rfl) (dM.alloc _) ⟨w5.heap.size,0,none⟩ 1 1 [.int .i64 M.n,.int .i64 M.fr,.int .i64 M.to,.slice a3 M.bits.length G3] (by rfl) (by rfl) (World.news_of_block (cs:=#[.int .i64 M.n,.int .i64 M.fr,.int .i64 M.to,.slice a3 M.bits.length G3]) (t:=107) (fr:=(0,0)) (heap_alloc_new w5 _)) fc (by decide) (by unfold maxLen;omega) (by omega) (by simp;exact Nat.le_succ_of_le ki.size) (w5.heap.size+1) (by simp) ?_;intro g6 c6 w6 d8 dj Kb K8;have eg:=aG (ax ki _) (dM.alloc _) dj (Nat.le_refl _) (ax ki _).size;have u0:=(eg.cell (p:=⟨g,k*2,none⟩) oJ).trans r0;have u1:=(eg.cell (p:=⟨g,k*2+1,none⟩) oJ).trans r1;have x0:=(eg.frozen (p:=⟨g,k*2,none⟩) oJ).trans OE;have x1:=(eg.frozen (p:=⟨g,k*2+1,none⟩) oJ).trans Ie;have j0:=(eg.cell (p:=⟨w.heap.size+1,0,none⟩) lR).trans rR;have j1:=(eg.frozen (p:=⟨w.heap.size+1,0,none⟩) lR).trans fR))
   | ((refine step_append_lies _ (by rfl) (.tmp 47) (.tmp 49) 51 (by rfl) w4.heap.size 107 i1 (.agg #[.int .i64 0,.int .i64 0,.int .i64 0,.slice none 0 0]) 4 48 Tryz.underlying51 km y0 y1 y2 rfl (by decide) v5 bn _ (by rfl) dM ⟨w4.heap.size,0,none⟩ 1 1 [.int .i64 M.n,.int .i64 M.fr,.int .i64 M.to,.slice a3 M.bits.length G3] (by rfl) (by rfl) (World.news_of_block (cs:=#[.int .i64 M.n,.int .i64 M.fr,.int .i64 M.to,.slice a3 M.bits.length G3]) (t:=107) (fr:=(0,0)) ((b5.block w4.heap.size (by simp)).trans (heap_alloc_new w4 _))) fc (by decide) (by unfold maxLen;omega) (by omega) ki.size w5.heap.size rfl ?_;intro g6 c6 w6 d8 dj Kb K8;have eg:=aG ki dM dj (Nat.le_refl _) ki.size;have u0:=(eg.cell (p:=⟨g,k*2,none⟩) oJ).trans r0;have u1:=(eg.cell (p:=⟨g,k*2+1,none⟩) oJ).trans r1;have x0:=(eg.frozen (p:=⟨g,k*2,none⟩) oJ).trans OE;have x1:=(eg.frozen (p:=⟨g,k*2+1,none⟩) oJ).trans Ie;have j0:=(eg.cell (p:=⟨w.heap.size+1,0,none⟩) lR).trans rR;have j1:=(eg.frozen (p:=⟨w.heap.size+1,0,none⟩) lR).trans fR)))
 all_goals go_wp2_with fail
 all_goals(
  have E:=fin _ _ _ _ pt (by rintro ad h;cases h;rfl) d8 eg
  obtain⟨E1,E2,E3⟩:=E
  exact bodyPost_ret (v:=.tuple #[.agg #[.slice (some ⟨g,0,none⟩) 4 G],.int .i64 0]) (by simp[results,Tryz.results100,go_sem,j0]) rfl ⟨_,_,_,rfl,E1,E2,E3⟩)
theorem Mq:(Tryz.prog.info? 56).map (fun i=>(i.zero,i.size,i.bytes))=some (some (.agg #[.int .i64 0,.int .i64 0]),2,16):=by kernel_rfl
theorem Qk (ao:Option Addr)(cap:Nat)(C:List Value)(n:Nat)(w:World)(ew:Row w ao C)(fE:n<=cap)(jr:ao=none->cap=0)(hlen:C.length=n*2)(one:∀v∈C,v.oneCell'=true)(hl:n<=1000000000000):
  Calls Tryz.prog 130 #[.slice ao n cap] w fun e w'=>
   ∃v',e=.returned v'/\w'.ownsRow w.heap.size 56 2 v' n C/\Below w.heap.size w w':=by
 obtain⟨i0,hi,bK,bm,bQ⟩:=info_parts Mq
 have q:∀(w:World) (a:Option Addr) (n c n' c':Nat),(binOp .eql 42 (.slice a n c) (.slice none n' c')).run Tryz.prog w=.ok (.bool a.isNone) w:=fun w a n c n' c'=>Lib.run_eql_slice_nil w _ _ a n c n' c' Tryz.underlying42
 cases ao with
 |none=>
  obtain rfl:=jr rfl
  obtain rfl:n=0:=by omega
  obtain rfl:C=[]:=List.eq_nil_of_length_eq_zero hlen
  clear hlen
  go_enter Tryz.func130,Tryz.ntmps130
  go_wp2_with fail
  go_ret
  exact⟨_,rfl,World.ownsRow_nil _ _ _ _,Below.refl _ _⟩
 |some ad=>
  have fh:(w.alloc (.cells #[] 56)).ownsRow w.heap.size 56 2 (.slice (some ⟨w.heap.size,0,none⟩) 0 0) 0 []:=
   ⟨rfl,.inr ⟨w.heap.size,0,#[],rfl,Nat.le_refl _,heap_alloc_new w _,Nat.le_refl _,by decide,rfl,rfl⟩⟩
  have fO:=(Below.refl w.heap.size w).alloc (Nat.le_refl _) (Obj.cells #[] 56)
  have hs:=ew.alloc (.cells #[] 56)
  have eS:∀j u,C[j]? =some u->(w.alloc (.cells #[] 56)).cell? (ad.add j)=some u:=by
   intro j u hu
   obtain⟨b',lB,e,_,hc⟩:=hs.at (by intro e;rw[e] at hu;simp at hu)
   obtain rfl:=Option.some.inj e
   rw[Addr.add_lit]
   exact hc j u hu
  have bA:w.heap.size<=(w.alloc (.cells #[] 56)).heap.size:=by simp
  replace hlen:=aa hlen
  clear ew hs jr
  go_enter Tryz.func130,Tryz.ntmps130
  go_wp2_with (at_builtin;refine wpList_append_own_wide _ rfl (.tmp 5) (.tmp 6) 42 rfl w.heap.size 56 i0 (.agg #[.int .i64 0,.int .i64 0]) 2 16 Tryz.underlying42 hi bK bm bQ rfl (by decide) _ 0 _ rfl fh ad n cap C rfl hlen.out eS one (by unfold maxLen;omega) (by omega) bA ?_)
  intro v' w1 ez cz _
  have aY:=aG fO fh cz (Nat.le_refl _) bA
  obtain⟨a1,c1,rfl⟩:∃a1 c1,v'=.slice a1 n c1:=by
   rcases ez.2 with⟨rfl,h0⟩| ⟨g,cp,cur,rfl,_⟩
   .subst h0
    exact⟨_,_,rfl⟩
   exact⟨_,_,rfl⟩
  go_wp2_with fail
  go_ret
  exact⟨_,rfl,ez,aY⟩
end Go.Proofs.YtoonnbhoiocoeaaGreatDoor
