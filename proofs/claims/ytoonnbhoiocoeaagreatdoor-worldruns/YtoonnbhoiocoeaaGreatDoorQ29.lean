/-
  The closed fact 'watched': a reader sees what was there.
-/
import Derived.Test.YtoonnbhoiocoeaaGreatDoorQ28
set_option maxHeartbeats 40000000
set_option maxRecDepth 100000
set_option linter.unusedVariables false
namespace Go.Proofs.YtoonnbhoiocoeaaGreatDoor
open Go.RowKit
open Go.Lib (byteCells)
theorem AY (w:World)(l:List dK)(cs:Array Value)(hc:cs.toList=l.flatMap dK.cells)(t:TypeId)(n:Nat)(hn:n=w.heap.size)(cap:Nat)(hl:l.length=cap)(hm:cap<=9223372036854775807):be dK.cells (w.alloc (.cells cs t)) (some ⟨n,0,none⟩) cap l:=by
 have h:=Row.laid w cs.toList t n hn
 rw[Array.toArray_toList,hc] at h
 exact⟨h,by omega,hm,fun e=>by cases e⟩
theorem MS (p:Pw)(g g1 g2 g3:Nat)(W:World)(gl:Gl W)(I:dE W p iy)(S:eK W (some ⟨g,0,none⟩) 6 [⟨⟨1,0,0,[(1,5,10)]⟩,some ⟨g1,0,none⟩,1⟩,⟨⟨5,0,2,[]⟩,none,0⟩,⟨⟨1,0,0,[(1,6,12)]⟩,some ⟨g2,0,none⟩,1⟩,⟨⟨1,0,0,[(1,6,12)]⟩,some ⟨g3,0,none⟩,1⟩,⟨⟨2,1,2,[]⟩,none,0⟩,⟨⟨4,0,9,[]⟩,none,0⟩]):
  Calls Tryz.prog 23 #[p.val true,.slice (some ⟨g,0,none⟩) 6 6] W (xr W mL [0,0,0,7,0,0] 0):=by
 have c:=JP iy [⟨⟨1,0,0,[(1,5,10)]⟩,some ⟨g1,0,none⟩,1⟩,⟨⟨5,0,2,[]⟩,none,0⟩,⟨⟨1,0,0,[(1,6,12)]⟩,some ⟨g2,0,none⟩,1⟩,⟨⟨1,0,0,[(1,6,12)]⟩,some ⟨g3,0,none⟩,1⟩,⟨⟨2,1,2,[]⟩,none,0⟩,⟨⟨4,0,9,[]⟩,none,0⟩] p (some ⟨g,0,none⟩) 6 6 W gl I DK S (aa rfl)
 rw[if_neg (by simp)] at c
 have e:(ff iy QV).1=mL/\(ff iy QV).2=[0,0,0,7,0,0]:=⟨rfl,XY⟩
 rw[<-e.1,<-e.2]
 exact c
theorem Ny (p:Pw)(g g4:Nat)(W:World)(gl:Gl W)(I:dE W p mL)(S:eK W (some ⟨g,0,none⟩) 3 [⟨⟨7,0,0,[]⟩,none,0⟩,⟨⟨1,0,0,[(1,7,14)]⟩,some ⟨g4,0,none⟩,1⟩,⟨⟨8,0,0,[]⟩,none,0⟩]):
  Calls Tryz.prog 23 #[p.val true,.slice (some ⟨g,0,none⟩) 3 3] W (xr W uU [0,7,0] 0):=by
 have c:=JP mL [⟨⟨7,0,0,[]⟩,none,0⟩,⟨⟨1,0,0,[(1,7,14)]⟩,some ⟨g4,0,none⟩,1⟩,⟨⟨8,0,0,[]⟩,none,0⟩] p (some ⟨g,0,none⟩) 3 3 W gl I Rd.1 S (aa rfl)
 rw[if_neg (by simp),JV] at c
 have e:(ff mL PI).1=uU/\(ff mL PI).2=[0,7,0]:=⟨rfl,Yj⟩
 rw[<-e.1,<-e.2]
 exact c
theorem PQ (W:World)(g1 g2 g3:Nat)(n:Nat)(hn:n=W.heap.size)(s1:be ec W (some ⟨g1,0,none⟩) 1 [(1,5,10)])(s2:be ec W (some ⟨g2,0,none⟩) 1 [(1,6,12)])(s3:be ec W (some ⟨g3,0,none⟩) 1 [(1,6,12)]):
  eK (W.alloc (.cells #[.int .i64 1,.int .i64 0,.int .i64 0,.slice (some ⟨g1,0,none⟩) 1 1,.int .i64 5,.int .i64 0,.int .i64 2,.slice none 0 0,.int .i64 1,.int .i64 0,.int .i64 0,.slice (some ⟨g2,0,none⟩) 1 1,.int .i64 1,.int .i64 0,.int .i64 0,.slice (some ⟨g3,0,none⟩) 1 1,.int .i64 2,.int .i64 1,.int .i64 2,.slice none 0 0,.int .i64 4,.int .i64 0,.int .i64 9,.slice none 0 0] 33)) (some ⟨n,0,none⟩) 6 [⟨⟨1,0,0,[(1,5,10)]⟩,some ⟨g1,0,none⟩,1⟩,⟨⟨5,0,2,[]⟩,none,0⟩,⟨⟨1,0,0,[(1,6,12)]⟩,some ⟨g2,0,none⟩,1⟩,⟨⟨1,0,0,[(1,6,12)]⟩,some ⟨g3,0,none⟩,1⟩,⟨⟨2,1,2,[]⟩,none,0⟩,⟨⟨4,0,9,[]⟩,none,0⟩]:=by
 refine⟨AY W [⟨⟨1,0,0,[(1,5,10)]⟩,some ⟨g1,0,none⟩,1⟩,⟨⟨5,0,2,[]⟩,none,0⟩,⟨⟨1,0,0,[(1,6,12)]⟩,some ⟨g2,0,none⟩,1⟩,⟨⟨1,0,0,[(1,6,12)]⟩,some ⟨g3,0,none⟩,1⟩,⟨⟨2,1,2,[]⟩,none,0⟩,⟨⟨4,0,9,[]⟩,none,0⟩] #[.int .i64 1,.int .i64 0,.int .i64 0,.slice (some ⟨g1,0,none⟩) 1 1,.int .i64 5,.int .i64 0,.int .i64 2,.slice none 0 0,.int .i64 1,.int .i64 0,.int .i64 0,.slice (some ⟨g2,0,none⟩) 1 1,.int .i64 1,.int .i64 0,.int .i64 0,.slice (some ⟨g3,0,none⟩) 1 1,.int .i64 2,.int .i64 1,.int .i64 2,.slice none 0 0,.int .i64 4,.int .i64 0,.int .i64 9,.slice none 0 0] rfl 33 n hn 6 rfl (by decide),fun x hx=>?_⟩
 simp only[List.mem_cons,List.not_mem_nil,or_false] at hx
 rcases hx with rfl|rfl|rfl|rfl|rfl|rfl
 .exact s1.alloc _
 .exact be.ofNil ec _
 .exact s2.alloc _
 .exact s3.alloc _
 .exact be.ofNil ec _
 exact be.ofNil ec _
theorem QM (W:World)(g4:Nat)(n:Nat)(hn:n=W.heap.size)(s1:be ec W (some ⟨g4,0,none⟩) 1 [(1,7,14)]):
  eK (W.alloc (.cells #[.int .i64 7,.int .i64 0,.int .i64 0,.slice none 0 0,.int .i64 1,.int .i64 0,.int .i64 0,.slice (some ⟨g4,0,none⟩) 1 1,.int .i64 8,.int .i64 0,.int .i64 0,.slice none 0 0] 33)) (some ⟨n,0,none⟩) 3 [⟨⟨7,0,0,[]⟩,none,0⟩,⟨⟨1,0,0,[(1,7,14)]⟩,some ⟨g4,0,none⟩,1⟩,⟨⟨8,0,0,[]⟩,none,0⟩]:=by
 refine⟨AY W [⟨⟨7,0,0,[]⟩,none,0⟩,⟨⟨1,0,0,[(1,7,14)]⟩,some ⟨g4,0,none⟩,1⟩,⟨⟨8,0,0,[]⟩,none,0⟩] #[.int .i64 7,.int .i64 0,.int .i64 0,.slice none 0 0,.int .i64 1,.int .i64 0,.int .i64 0,.slice (some ⟨g4,0,none⟩) 1 1,.int .i64 8,.int .i64 0,.int .i64 0,.slice none 0 0] rfl 33 n hn 3 rfl (by decide),fun x hx=>?_⟩
 simp only[List.mem_cons,List.not_mem_nil,or_false] at hx
 rcases hx with rfl|rfl|rfl
 .exact be.ofNil ec _
 .exact s1.alloc _
 exact be.ofNil ec _
theorem xX (x:Wd)(r:Int)(l:List Pt)(E:Int)(he:kt x r 1=E)(hl:qA x r 1 0 100=l)(u:x.up=true)(f1:x.d.safe.length+x.d.wait.length<=1000)(f2:x.c.length<=1000)(n:Nat)(hn:l.length=n)(p:Pw)(W:World)(gl:Gl W)(I:dE W p x):
  Calls Tryz.prog 17 #[p.val true,.int .i64 r,.int .i64 1,.int .i64 0,.int .i64 100] W fun e w'=>∃a G,e=.returned (.tuple #[.slice a n G,.int .i64 E])/\aV w' a G l/\Below W.heap.size W w':=by
 have c:=GT x p r 1 0 100 W gl I (by rw[I.e1,I.e2];omega) (by rw[I.es];omega)
 rw[he,hl,u] at c
 refine c.mono ?_
 rintro e w' ⟨a,m,G,rfl,hm,o,b⟩
 have ik:=hm.out
 subst ik
 subst hn
 obtain⟨ao,cap,e,s,_,_⟩:=aV.ofOwn o
 simp only[Value.slice.injEq] at e
 obtain⟨rfl,_,rfl⟩:=e
 exact⟨a,G,rfl,s,b⟩
theorem QP (a:Option Addr)(G:Nat)(W:World)(I:cu W a G mL.c):
  Calls Tryz.prog 38 #[.agg #[.slice a 4 G],.int .i64 1] W fun e w'=>∃a' G',e=.returned (.tuple #[.slice a' 0 G',.int .i64 0])/\Below W.heap.size W w':=by
 have c:=Jm 1 I
 rw[Ro,Rq.1,Rq.2] at c
 refine c.mono ?_
 rintro e w' ⟨a',G',rfl,_,b⟩
 exact⟨a',G',rfl,b⟩
theorem M3 (l:List Int)(n:Nat)(hn:l.length=n)(hb:n<=1000)(a b:Option Addr)(c d:Nat)(W:World)(r1:Row W a (l.map (Value.int .i64)))(r2:Row W b (l.map (Value.int .i64))):
  Calls Tryz.prog 24 #[.slice a n c,.slice b n d] W fun e w'=>e=.returned (.bool true)/\Below W.heap.size W w':=by
 have k:=Fw a b c d l l W r1 r2 (by omega) (by omega)
 rw[hn] at k
 refine k.mono ?_
 rintro e w' ⟨rfl,q,rfl⟩
 exact⟨by simp,bt (Below.refl _ _) q⟩
theorem Py (a b:Option Addr)(c d:Nat)(W:World)(r1:aV W a c [(5,10)])(r2:aV W b d [(5,10)]):
  Calls Tryz.prog 21 #[.slice a 1 c,.slice b 1 d] W fun e w'=>e=.returned (.bool true)/\Below W.heap.size W w':=by
 have k:=yD a b c d [(5,10)] [(5,10)] W r1 r2 (by decide) (by decide)
 refine k.mono ?_
 rintro e w' ⟨rfl,q,rfl⟩
 exact⟨by simp,bt (Below.refl _ _) q⟩
theorem Ez (W:World)(l:List Int)(cs:Array Value)(hc:cs.toList=l.map (Value.int .i64))(t:TypeId):Row (W.alloc (.cells cs t)) (some ⟨W.heap.size,0,none⟩) (l.map (Value.int .i64)):=by
 have h:=Row.laid W cs.toList t W.heap.size rfl
 rw[Array.toArray_toList,hc] at h
 exact h
structure Tw (w W:World)(gW:Nat)(ss:Option Addr)(sG:Nat)(ra:Option Addr)(rG:Nat)(TK:Value):Prop where
 ex:∃(q:Pw) (ts:Option Addr) (tG:Nat),TK=.slice ts 3 tG/\ag W gW (q.cells true) 30/\dE W q uU/\Sl W ss sG (([0,0,0,7,0,0]:List Int).map (Value.int .i64))/\aV W ra rG [(5,10)]/\Sl W ts tG (([0,7,0]:List Int).map (Value.int .i64))/\Below w.heap.size w W
theorem Qx {w W:World}{gW:Nat}{ss:Option Addr}{sG:Nat}{ra:Option Addr}{rG:Nat}{a1 a2 a3 a4:Option Addr}{n1 n2 n3 n4 c1 c2 c3 c4:Nat}{u:Bool}(B:ag W gW [.slice a1 n1 c1,.slice a2 n2 c2,.slice a3 n3 c3,.bool u,.slice a4 n4 c4] 30)(hw:w.heap.size<=gW)
  (sa:Option Addr) (sn sH:Nat) (b1:Option Addr) (m1 k1:Nat) (b2:Option Addr) (m2 k2:Nat) (rb:Option Addr) (rm rk:Nat) (ts:Option Addr) (tG:Nat) (I:dE W ⟨sa,sn,sH,b1,m1,k1,b2,m2,k2,rb,rm,rk⟩ uU) (RS:Sl W ss sG (([0,0,0,7,0,0]:List Int).map (Value.int .i64))) (RP:aV W ra rG [(5,10)]) (RT:Sl W ts tG (([0,7,0]:List Int).map (Value.int .i64))) (bel:Below w.heap.size w W):
  Tw w (((((W.setCell ⟨gW,0,none⟩ (.slice sa sn sH)).setCell ⟨gW,1,none⟩ (.slice b1 m1 k1)).setCell ⟨gW,2,none⟩ (.slice b2 m2 k2)).setCell ⟨gW,3,none⟩ (.bool true)).setCell ⟨gW,4,none⟩ (.slice rb rm rk)) gW ss sG ra rG (.slice ts 3 tG):=by
 have g5:=pz (w:=W) (g:=gW) (.slice sa sn sH) (.slice b1 m1 k1) (.slice b2 m2 k2) (.bool true) (.slice rb rm rk)
 exact⟨_,ts,tG,rfl,fA B _ _ _ _ _,I.boxW (i6 Rd.2) B g5,uy RS B (by simp) g5,RP.off g5 (RP.row.offKind B (i:=0) (v:=.int .i64 5) rfl (by simp)),uy RT B (by simp) g5,dP bel hw _ _ _ _ _⟩
theorem Cf (w:World)(hg:Gl w):Calls Tryz.prog 10 #[] w fun e w'=>e=.returned (.bool true)/\Below w.heap.size w w':=by
 go_enter Tryz.func10,Tryz.ntmps10
 go_wp2_with fail
 go_at_call 14
 refine(Bz _).mono ?_
 rintro e w1 ⟨p,rfl,I,b1⟩
 go_wp2_with fail
 go_at_call 37
 refine(re 5 (by simp) _).mono ?_
 rintro e w2 ⟨g1,rfl,s1,b2⟩
 replace I:=I.call b2
 replace b1:=ac b1 b2
 clear b2
 go_wp2_with fail
 go_at_call 37
 refine(re 6 (by simp) _).mono ?_
 rintro e w3 ⟨g2,rfl,s2,b2⟩
 replace I:=I.call b2
 replace s1:=s1.call b2
 replace b1:=ac b1 b2
 clear b2
 go_wp2_with fail
 go_at_call 37
 refine(re 6 (by simp) _).mono ?_
 rintro e w4 ⟨g3,rfl,s3,b2⟩
 replace I:=I.call b2
 replace s1:=s1.call b2
 replace s2:=s2.call b2
 replace b1:=ac b1 b2
 clear b2
 have S:=PQ w4 g1 g2 g3 _ rfl s1 s2 s3
 replace I:=I.alloc (.cells #[.int .i64 1,.int .i64 0,.int .i64 0,.slice (some ⟨g1,0,none⟩) 1 1,.int .i64 5,.int .i64 0,.int .i64 2,.slice none 0 0,.int .i64 1,.int .i64 0,.int .i64 0,.slice (some ⟨g2,0,none⟩) 1 1,.int .i64 1,.int .i64 0,.int .i64 0,.slice (some ⟨g3,0,none⟩) 1 1,.int .i64 2,.int .i64 1,.int .i64 2,.slice none 0 0,.int .i64 4,.int .i64 0,.int .i64 9,.slice none 0 0] 33)
 have bel:=newB b1 (.cells #[.int .i64 1,.int .i64 0,.int .i64 0,.slice (some ⟨g1,0,none⟩) 1 1,.int .i64 5,.int .i64 0,.int .i64 2,.slice none 0 0,.int .i64 1,.int .i64 0,.int .i64 0,.slice (some ⟨g2,0,none⟩) 1 1,.int .i64 1,.int .i64 0,.int .i64 0,.slice (some ⟨g3,0,none⟩) 1 1,.int .i64 2,.int .i64 1,.int .i64 2,.slice none 0 0,.int .i64 4,.int .i64 0,.int .i64 9,.slice none 0 0] 33)
 have gl:=hg.call bel
 clear b1 s1 s2 s3
 go_wp2_with fail
 go_at_call 23
 refine(MS p _ g1 g2 g3 _ gl I S).mono ?_
 rintro e w5 ⟨q,ss,sn,sG,rfl,I5,Db,RS,b5⟩
 clear I S gl
 have Nr:=bel.size
 have b5s:=b5.size
 rw[JV]
 obtain⟨sa,un,uG,a1,n1,c1,a2,n2,c2,ra,rn,rc⟩:=q
 simp only[Pw.val] at*
 have BW:=ag.laid w5 [.slice sa un uG,.slice a1 n1 c1,.slice a2 n2 c2,.bool true,.slice ra rn rc] 30 _ rfl
 have bq:=newB b5 (.cells #[.slice sa un uG,.slice a1 n1 c1,.slice a2 n2 c2,.bool true,.slice ra rn rc] 30)
 replace bel:=ac bel bq
 replace I5:=I5.alloc (.cells #[.slice sa un uG,.slice a1 n1 c1,.slice a2 n2 c2,.bool true,.slice ra rn rc] 30)
 replace RS:=RS.alloc (.cells #[.slice sa un uG,.slice a1 n1 c1,.slice a2 n2 c2,.bool true,.slice ra rn rc] 30)
 obtain rfl:un=4:=I5.es.trans Ro
 have zY:=xX mL 2 [(5,10)] 0 Ru.1 Ru.2 JV ri.1 ri.2.1 1 rfl ⟨sa,4,uG,a1,n1,c1,a2,n2,c2,ra,rn,rc⟩
 have Ud:=xX mL 1 [] 7 WK UR JV ri.1 ri.2.1 0 rfl ⟨sa,4,uG,a1,n1,c1,a2,n2,c2,ra,rn,rc⟩
 simp only[Pw.val] at zY Ud
 have cA:=QP sa uG
 clear b5 bq
 go_upto_region 3 with fail
 have Yw:w.heap.size<=w5.heap.size:=Nat.le_of_lt_succ (Nat.lt_of_le_of_lt (Nat.le_trans Nr b5s) (Nat.lt_succ_self _))
 generalize w5.heap.size=gW at*
 generalize World.alloc w5 _=v at*
 obtain⟨x0,x1,x2,x3,x4,xl⟩:=BW.c5
 go_wp2_with fail
 go_at_call 17
 refine(zY _ (hg.call bel) I5).mono ?_
 rintro e v2 ⟨Vn,VS,rfl,RP,b⟩
 clear x0 x1 x2 x3 x4 xl
 replace BW:=BW.keep b BW.lt
 replace I5:=I5.call b
 replace RS:=RS.call b
 replace bel:=ac bel b
 clear b
 obtain⟨x0,x1,x2,x3,x4,xl⟩:=BW.c5
 go_wp2_with fail
 go_at_call 17
 refine(Ud _ (hg.call bel) I5).mono ?_
 rintro e v3 ⟨ra2,rG2,rfl,_,b⟩
 replace RP:=RP.call b
 clear x0 x1 x2 x3 x4 xl
 replace BW:=BW.keep b BW.lt
 replace I5:=I5.call b
 replace RS:=RS.call b
 replace bel:=ac bel b
 clear b
 obtain⟨x0,x1,x2,x3,x4,xl⟩:=BW.c5
 go_wp2_with fail
 go_at_call 38
 refine(cA _ I5.s).mono ?_
 rintro e v4 ⟨ra3,rG3,rfl,b⟩
 replace RP:=RP.call b
 clear x0 x1 x2 x3 x4 xl
 replace BW:=BW.keep b BW.lt
 replace RS:=RS.call b
 replace I5:=I5.call b
 replace bel:=ac bel b
 clear b zY Ud cA
 go_upto_region 6 with fail
 generalize v4=V at*
 have k0:Below V.heap.size V V.drew:=ak (Below.refl _ _)
 have kP:∀W,Below V.heap.size V W->Calls Tryz.prog 37 #[.int .i64 7] W fun e w'=>∃g,e=.returned (.agg #[.int .i64 1,.int .i64 0,.int .i64 0,.slice (some ⟨g,0,none⟩) 1 1])/\w'.cell? ⟨gW,0,none⟩=some (.slice sa 4 uG)/\w'.cell? ⟨gW,1,none⟩=some (.slice a1 n1 c1)/\w'.cell? ⟨gW,2,none⟩=some (.slice a2 n2 c2)/\w'.cell? ⟨gW,3,none⟩=some (.bool true)/\w'.cell? ⟨gW,4,none⟩=some (.slice ra rn rc)/\gW<w'.heap.size/\Hid (be ec w' (some ⟨g,0,none⟩) 1 [(1,7,14)]/\Below V.heap.size V w'):=by
  intro W h
  refine(re 7 (by simp) W).mono ?_
  rintro e w' ⟨g,rfl,s,b⟩
  have bb:=ac h b
  have B:=BW.keep bb BW.lt
  exact⟨g,rfl,B.cell 0,B.cell 1,B.cell 2,B.cell 3,B.cell 4,B.lt,aa ⟨s,bb⟩⟩
 have kR:∀g W,Hid (be ec W (some ⟨g,0,none⟩) 1 [(1,7,14)]/\Below V.heap.size V W)->Calls Tryz.prog 23 #[.agg #[.slice sa 4 uG,.slice a1 n1 c1,.slice a2 n2 c2,.bool true,.slice ra rn rc],.slice (some ⟨W.heap.size,0,none⟩) 3 3] (W.alloc (.cells #[.int .i64 7,.int .i64 0,.int .i64 0,.slice none 0 0,.int .i64 1,.int .i64 0,.int .i64 0,.slice (some ⟨g,0,none⟩) 1 1,.int .i64 8,.int .i64 0,.int .i64 0,.slice none 0 0] 33)) fun e w'=>∃(sb:Option Addr) (sm sH:Nat) (b1:Option Addr) (m1 k1:Nat) (b2:Option Addr) (m2 k2:Nat) (rb:Option Addr) (rm rk:Nat) (ts:Option Addr) (tG:Nat),e=.returned (.tuple #[.agg #[.slice sb sm sH,.slice b1 m1 k1,.slice b2 m2 k2,.bool true,.slice rb rm rk],.slice ts 3 tG,.int .i64 0])/\ag w' gW [.slice sa 4 uG,.slice a1 n1 c1,.slice a2 n2 c2,.bool true,.slice ra rn rc] 30/\Hid (Tw w (((((w'.setCell ⟨gW,0,none⟩ (.slice sb sm sH)).setCell ⟨gW,1,none⟩ (.slice b1 m1 k1)).setCell ⟨gW,2,none⟩ (.slice b2 m2 k2)).setCell ⟨gW,3,none⟩ (.bool true)).setCell ⟨gW,4,none⟩ (.slice rb rm rk)) gW ss sG Vn VS (.slice ts 3 tG)):=by
  intro g W hh
  have S:=QM W g _ rfl hh.out.1
  have bb:=newB hh.out.2 (.cells #[.int .i64 7,.int .i64 0,.int .i64 0,.slice none 0 0,.int .i64 1,.int .i64 0,.int .i64 0,.slice (some ⟨g,0,none⟩) 1 1,.int .i64 8,.int .i64 0,.int .i64 0,.slice none 0 0] 33)
  refine(Ny ⟨sa,4,uG,a1,n1,c1,a2,n2,c2,ra,rn,rc⟩ _ g _ ((hg.call bel).call bb) (I5.call bb) S).mono ?_
  rintro e w' ⟨q,ts,tn,tG,rfl,I6,ZK,RT,b6⟩
  have bc:=ac bb b6
  have ni:tn=3:=ZK.out
  subst ni
  rw[Mz]
  obtain⟨sb,sm,sH,b1,m1,k1,b2,m2,k2,rb,rm,rk⟩:=q
  have B:=BW.keep bc BW.lt
  exact⟨_,_,_,_,_,_,_,_,_,_,_,_,ts,tG,rfl,B,aa (Qx B Yw _ _ _ _ _ _ _ _ _ _ _ _ ts tG I6 (RS.call bc) (RP.call bc) RT (ac bel bc))⟩
 obtain⟨x0,x1,x2,x3,x4,xl⟩:=BW.c5
 replace BW:=aa BW
 replace I5:=aa I5
 replace RS:=aa RS
 replace RP:=aa RP
 replace bel:=aa bel
 go_cut [11,12] from 47 to 57 (fun TK s12 wx=>s12=.int .i64 0/\Hid (Tw w wx gW ss sG Vn VS TK))
 case first=>
  go_region_with
   (first
    | (go_at_call 37;refine(kP _ k0).mono ?_;rintro e wA ⟨g4,rfl,y0,y1,y2,y3,y4,yl,zA⟩)
    | (go_at_call 23;refine(kR _ _ zA).mono ?_;rintro e wB ⟨sb,sm,sH,b1,m1,k1,b2,m2,k2,rb,rm,rk,ts,tG,rfl,BB,hE⟩;have z0:=BB.cell 0;have z1:=BB.cell 1;have z2:=BB.cell 2;have z3:=BB.cell 3;have z4:=BB.cell 4;have f0:=BB.free 0;have f1:=BB.free 1;have f2:=BB.free 2;have f3:=BB.free 3;have f4:=BB.free 4;have zl:=BB.lt;clear BB))
  all_goals(
   go_wp2_with fail
   go_meet
   case rel=>exact⟨rfl,hE⟩)
 case rest=>
  obtain⟨rfl,hE⟩:=hcut
  obtain⟨q,ts,tG,rfl,pQ,I6,Dy,Du,RT,am⟩:=hE.out.ex
  clear hE kP kR k0 x0 x1 x2 x3 x4 xl BW I5 RS RP bel
  obtain⟨sb,sm,sH,b1,m1,k1,b2,m2,k2,rb,rm,rk⟩:=q
  simp only[Pw.cells] at pQ
  have Us:=xX uU 2 [] 7 W5.1 TI Mz ri.2.2.1 ri.2.2.2 0 rfl ⟨sb,sm,sH,b1,m1,k1,b2,m2,k2,rb,rm,rk⟩
  simp only[Pw.val] at Us
  obtain⟨x0,x1,x2,x3,x4,xl⟩:=pQ.c5
  go_wp2_with fail
  go_at_call 17
  refine(Us _ (hg.call am) I6).mono ?_
  rintro e v5 ⟨ra4,rG4,rfl,_,b⟩
  clear x0 x1 x2 x3 x4 xl
  replace pQ:=pQ.keep b pQ.lt
  replace Dy:=Dy.call b
  replace Du:=Du.call b
  replace RT:=RT.call b
  replace am:=ac am b
  clear b I6 Us
  obtain⟨x0,x1,x2,x3,x4,xl⟩:=pQ.c5
  have Xd:sn=6:=Db.out
  subst Xd
  go_wp2_with fail
  go_at_call 24
  have bn:=newB (Below.refl v5.heap.size v5) (.cells #[.int .i64 0,.int .i64 0,.int .i64 0,.int .i64 7,.int .i64 0,.int .i64 0] 34)
  refine(M3 [0,0,0,7,0,0] 6 rfl (by decide) _ _ _ _ _ (Dy.call bn).row (Ez v5 [0,0,0,7,0,0] _ rfl _)).mono ?_
  rintro e v6 ⟨rfl,b6⟩
  have b:=ac bn b6
  clear bn b6
  clear x0 x1 x2 x3 x4 xl
  replace pQ:=pQ.keep b pQ.lt
  replace Dy:=Dy.call b
  replace Du:=Du.call b
  replace RT:=RT.call b
  replace am:=ac am b
  clear b
  obtain⟨x0,x1,x2,x3,x4,xl⟩:=pQ.c5
  go_wp2_with fail
  go_at_call 24
  have bn:=newB (Below.refl v6.heap.size v6) (.cells #[.int .i64 0,.int .i64 7,.int .i64 0] 34)
  refine(M3 [0,7,0] 3 rfl (by decide) _ _ _ _ _ (RT.call bn).row (Ez v6 [0,7,0] _ rfl _)).mono ?_
  rintro e v7 ⟨rfl,b6⟩
  have b:=ac bn b6
  clear bn b6
  clear x0 x1 x2 x3 x4 xl
  replace pQ:=pQ.keep b pQ.lt
  replace Dy:=Dy.call b
  replace Du:=Du.call b
  replace RT:=RT.call b
  replace am:=ac am b
  clear b
  obtain⟨x0,x1,x2,x3,x4,xl⟩:=pQ.c5
  go_wp2_with fail
  go_at_call 21
  have bn:=newB (Below.refl v7.heap.size v7) (.cells #[.int .i64 5,.int .i64 10] 56)
  refine(Py _ _ _ _ _ (Du.call bn) (aV.laid v7 [(5,10)] _ rfl _ _ rfl 1 rfl (by decide))).mono ?_
  rintro e v8 ⟨rfl,b6⟩
  have b:=ac bn b6
  clear bn b6
  clear x0 x1 x2 x3 x4 xl
  replace pQ:=pQ.keep b pQ.lt
  replace Dy:=Dy.call b
  replace Du:=Du.call b
  replace RT:=RT.call b
  replace am:=ac am b
  clear b
  obtain⟨x0,x1,x2,x3,x4,xl⟩:=pQ.c5
  go_wp2_with fail
  go_ret
  exact⟨rfl,am⟩
theorem BT (a1 a2:Option Addr)(c1 c2:Nat)(l m:List Int)(w:World)(r1:Row w a1 (l.map (Value.int .i64)))(r2:Row w a2 (m.map (Value.int .i64)))(hl:l.length<=4611686018427387904)(hm:m.length<=4611686018427387904):
  Calls Tryz.prog 42 #[.slice a1 l.length c1,.slice a2 m.length c2] w fun e w'=>e=.returned (.bool (decide (l=m)))/\∃q,w'=w.drewN q:=by
 by_cases je:l.length=m.length
 .generalize hn:l.length=n at*
  have ik:=je.symm
  rw[ik] at hm⊢
  by_cases h0:n=0
  .subst h0
   obtain rfl:=List.eq_nil_of_length_eq_zero hn
   obtain rfl:=List.eq_nil_of_length_eq_zero ik
   clear hn ik je hl hm r1 r2
   go_enter Tryz.func42,Tryz.ntmps42
   go_wp2
   refine wp_loop_rounds 1 ?_
   rw[rounds_succ]
   go_wp2
   go_ret
   exact⟨rfl,0,rfl⟩
  obtain⟨b1,o1,rfl,-,k1⟩:=r1.at (by intro h;simp at h;subst h;simp at hn;omega)
  obtain⟨b2,o2,rfl,-,k2⟩:=r2.at (by intro h;simp at h;subst h;simp at ik;omega)
  have g1:=fun k hk=>DB k1 k hk
  have g2:=fun k hk=>DB k2 k hk
  clear k1 k2 r1 r2
  have HL:Hid (l.length=n):=hn
  have HM:Hid (m.length=n):=ik
  clear hn ik je
  go_enter Tryz.func42,Tryz.ntmps42
  go_wp2
  go_loopg [13] n (fun g Ib wr=>∃k q:Nat,k<=n/\n-k<=g/\Ib=.int .i64 k/\wr=w.drewN q/\Hid (∀j,j<k->l.getD j 0=m.getD j 0))
  case atStart=>exact⟨0,0,Nat.zero_le _,by omega,rfl,rfl,fun j hj=>absurd hj (Nat.not_lt_zero _)⟩
  case round=>
   obtain⟨k,q,hk,hg,rfl,rfl,A⟩:=hrel
   by_cases aE:k<n
   .have e1:=g1 k (by rw[HL.out];exact aE)
    have e2:=g2 k (by rw[HM.out];exact aE)
    clear g1 g2
    generalize hx:l.getD k 0=x at e1
    generalize hy:m.getD k 0=y at e2
    have B:Hid (l.getD k 0=x/\m.getD k 0=y):=⟨hx,hy⟩
    clear hx hy
    cases qi:(x==y) with
    |true=>
     obtain rfl:x=y:=by simpa using qi
     clear qi
     go_wp2_with fail
     go_region
     all_goals go_wp2
     all_goals go_roundg (n-(k+1))
     case measure=>omega
     case rel=>
      refine⟨k+1,q+1,by omega,by omega,by go_num,rfl,(show Hid _ from fun j hj=>?_)⟩
      by_cases e:j=k
      .subst e
       rw[B.out.1,B.out.2]
      .exact A.out j (by omega)
    |false=>
     go_wp2_with fail
     go_region
     all_goals go_wp2
     all_goals go_ret
     refine⟨?_,q+1,rfl⟩
     have aF:l≠m:=CZ (d:=0) (k:=k) (by rw[B.out.1,B.out.2];simpa using qi)
     simp[aF]
   have:k=n:=by omega
   subst this
   clear g1 g2
   go_wp2
   go_ret
   refine⟨?_,q,rfl⟩
   have he:l=m:=DM (d:=0) (HL.out.trans HM.out.symm) (fun j hj=>A.out j (by rw[<-HL.out];exact hj))
   simp[he]
 have JX:¬(l.length:Int)=(m.length:Int):=by omega
 have aF:l≠m:=fun e=>je (by rw[e])
 clear r1 r2
 have H:Hid (l≠m):=aF
 clear aF
 generalize l.length=x at*
 generalize m.length=y at*
 go_enter Tryz.func42,Tryz.ntmps42
 go_wp2
 go_ret
 refine⟨?_,0,rfl⟩
 simp[H.out]
def oO (x y:Wd):Bool:=bp x.c y.c&&(decide (x.d.safe=y.d.safe/\x.d.wait=y.d.wait)&&(decide (x.up=y.up)&&decide (x.rd=y.rd)))
def Ef:Value->Nat
 | .bool true=>1
 |_=>0
def oT (c:List Nat):List Int:=c.map fun(x:Nat)=>(x:Int)
theorem yF (c:List Nat):(oT c).length=c.length:=by simp[oT]
theorem Gj (c:List Nat)(j:Nat):(oT c).getD j 0=((c.getD j 0:Nat):Int):=by
 unfold oT
 by_cases h:j<c.length
 .simp[List.getD,h]
 simp[List.getD,h]
theorem Ih (f m:Nat)(h:0<f):∃g,f=g+1/\mi f m=m % 8::(if m / 8=0 then [] else mi g (m / 8)):=by
 cases f with
 |zero=>omega
 |succ g=>exact⟨g,rfl,rfl⟩
theorem QD (m:Bool)(d:Nat):[Value.bool m,.bool (decide ((4:Int)<=(d:Int))),.bool (decide ((2:Int)<=(d:Int) % 4)),.bool ((d:Int) % 2==1)]=(me m d).map Value.bool:=by
 have h1:decide ((4:Int)<=(d:Int))=decide (4<=d):=by
  by_cases h:4<=d
  .rw[decide_eq_true h,decide_eq_true (by omega)]
  rw[decide_eq_false h,decide_eq_false (by omega)]
 have h2:decide ((2:Int)<=(d:Int) % 4)=decide (2<=d % 4):=by
  by_cases h:2<=d % 4
  .rw[decide_eq_true h,decide_eq_true (by omega)]
  rw[decide_eq_false h,decide_eq_false (by omega)]
 have h3:((d:Int) % 2==1)=decide (d % 2=1):=by
  by_cases h:d % 2=1
  .rw[decide_eq_true h];simp;omega
  rw[decide_eq_false h];simp;omega
 rw[h1,h2,h3]
 rfl
theorem Ki (ao:Option Addr)(cap:Nat)(l:List Bool)(v:Int)(w:World)(hr:Sl w ao cap (l.map Value.bool))(hl:l.length<=140737488355160)(h:iK v=true):
  Calls Tryz.prog 197 #[.slice ao l.length cap,.int .i64 v] w fun e w'=>
   ∃a' G,e=.returned (.tuple #[.slice a' (l++code 8 (bj v)).length G,.int .i64 0])/\Sl w' a' G ((l++code 8 (bj v)).map Value.bool)/\Below w.heap.size w w':=by
 have jf:decide (-4000000<=v/\v<=4000000)=true:=h
 have hv:=of_decide_eq_true jf
 have h1:=hv.1
 have h2:=hv.2
 have Cg:=vw v h
 have HN:Hid ((v<0/\2*-v-1=(bj v:Int))\/(¬v<0/\2*v=(bj v:Int))):=by
  by_cases hn:v<0
  .exact .inl ⟨hn,by unfold bj;rw[if_pos hn];omega⟩
  exact .inr ⟨hn,by unfold bj;rw[if_neg hn];omega⟩
 rw[<-A6 8 (bj v) (by omega) (by decide)]
 clear hv h
 generalize bj v=N at*
 have TW:=ut 8 N
 have Af:=Be 8 N (by decide)
 have Wp:=Eo 8 N
 obtain⟨D,hD⟩:∃D,D=mi 8 N:=⟨_,rfl⟩
 rw[<-hD] at TW Wp Af⊢
 have HD:=aa hD
 clear hD
 obtain⟨i1,km,PX,Lk,ZO⟩:=info_parts NK
 obtain⟨i0,hi,bK,bm,bQ⟩:=info_parts oo
 by_cases hsg:v<0
 all_goals(
  go_enter Tryz.func197,Tryz.ntmps197
  go_wp2_with (go_at_call 36;refine(bG _ _ _ _).mono ?_;rintro e w' ⟨rfl,rfl⟩;rw[jf])
  go_loopw [6,7,8] (fun n d b wr=>∃(f m:Nat) (c:List Nat) (q:Bool),m<8 ^ f/\m<=8000000/\n=.int .i64 m/\b=.bool q/\wr.ownsRow w.heap.size 3 1 d c.length ((oT c).map (Value.int .i64))/\Below w.heap.size w wr/\Hid ((q=true->f=8/\c=[]/\m=N)/\(q=false->c++(if m=0 then [] else mi f m)=D))) (fun n _ b _=>2*(intOf n).toNat+Ef b)
  case atStart=>exact⟨8,N,[],true,by omega,Cg,congrArg (Value.int .i64) (by have:=HN.out;omega),rfl,⟨rfl,.inl ⟨rfl,rfl⟩⟩,Below.refl _ _,fun _=>⟨rfl,rfl,rfl⟩,fun h=>by cases h⟩
  case round=>
   obtain⟨f,m,c,q,z',kH,rfl,rfl,own,bel,HQ⟩:=hrel
   by_cases hgo:q=true\/0<m
   .have hf:0<f:=by
     rcases hgo with hq|hq
     .have:=(HQ.out.1 hq).1;omega
     cases f with
     |zero=>simp at z';omega
     |succ f=>omega
    have jj:c++mi f m=D:=by
     cases q with
     |true=>
      obtain⟨q1,q2,q3⟩:=HQ.out.1 rfl
      rw[q1,q2,q3,HD.out];rfl
     |false=>
      have h0:0<m:=by simpa using hgo
      have:=HQ.out.2 rfl
      rw[if_neg (by omega)] at this
      exact this
    obtain⟨g,rfl,hg⟩:=Ih f m hf
    have Zb:c.length<=8:=by rw[<-jj] at TW;rw[List.length_append] at TW;omega
    rw[hg,List.append_cons] at jj
    have HC:=aa jj
    clear jj hg HQ hf
    have VZ:m / 8<8 ^ g:=by
     rw[Nat.pow_succ] at z'
     exact Nat.div_lt_of_lt_mul (by rw[Nat.mul_comm];exact z')
    have HM:=aa VZ
    clear z' VZ
    obtain⟨a7,c7,rfl,t7,n7⟩:=pd own
    have J0:=bel.size
    have OI:q=true\/(q=false/\(0:Int)<(m:Int)):=by
     cases q with
     |true=>exact .inl rfl
     |false=>exact .inr ⟨rfl,by have:0<m:=(by simpa using hgo);omega⟩
    have ST:2*(m / 8)<2*m+(if q=true then 1 else 0):=by
     rcases OI with rfl| ⟨rfl,h0⟩
     .simp;omega
     simp;omega
    clear hgo
    rcases OI with rfl| ⟨rfl,h0⟩
    all_goals(
     go_wp2_with (at_builtin;refine bE _ rfl (.tmp 28) (.tmp 31) 28 rfl w.heap.size 3 i1 (.int .i64 0) 1 8 Tryz.underlying28 km PX Lk ZO rfl (by decide) _ c.length _ rfl own 1 _ _ rfl rfl (by simp[Value.oneCell']) (by decide) (by unfold maxLen;omega) (by omega) J0 ?_)
     intro v' w1 ez cz DO
     have aY:=aG bel own cz (Nat.le_refl _) J0
     have eV:w1.ownsRow w.heap.size 3 1 v' (c++[m % 8]).length ((oT (c++[m % 8])).map (Value.int .i64)):=by
      rw[List.length_append]
      simpa[oT] using ez
     clear ez own cz DO bel t7 n7 J0
     obtain⟨a8,c8,rfl,t8,n8⟩:=pd eV
     go_wp2_with fail
     go_roundw
     case rel=>first
      |exact⟨g,m / 8,c++[m % 8],false,HM.out,by omega,by go_num,rfl,eV,aY,aa ⟨fun h=>absurd h (by decide),fun _=>HC.out⟩⟩
      |exact⟨_,_,_,_,_,_,_,_,_,_,_,_,_,_,_,⟨g,m / 8,c++[m % 8],false,HM.out,by omega,by go_num,rfl,eV,aY,aa ⟨fun h=>absurd h (by decide),fun _=>HC.out⟩⟩,rfl⟩
     case measure=>simp[intOf,Ef] at ST⊢;omega)
   have hq:q=false:=by
    cases q with
    |true=>exact absurd (.inl rfl) hgo
    |false=>rfl
   subst hq
   obtain rfl:m=0:=by
    have:¬0<m:=fun h=>hgo (.inr h)
    omega
   have hc:=HQ.out.2 rfl
   rw[if_pos rfl,List.append_nil] at hc
   subst hc
   clear HQ hgo z' kH
   rename World=>w2
   obtain⟨a7,c7,rfl,t7,n7⟩:=pd own
   have wU:=hr.keep bel (Nat.le_refl _)
   obtain⟨b7,o7,rfl,hb7,_⟩:=t7.row.at (by intro e;rw[e] at n7;simp at n7;omega)
   clear own n7 hr
   go_wp2_with (go_at_call 226;refine(Ja ao cap l w2 wU (by omega)).mono ?_;rintro e w1 ⟨v1,rfl,ez,aY⟩)
   clear wU
   go_loopw [9,39] (fun o i wl=>∃(j:Nat) (X:List Bool),j<=c.length/\X.length=l.length+4*j/\i=.int .i64 j/\wl.ownsRow w2.heap.size 4 1 o X.length (X.map Value.bool)/\Below w2.heap.size w2 wl/\Hid (X++enc (c.drop j)=l++enc c)) (fun _ i _=>c.length-(intOf i).toNat)
   case atStart=>exact⟨0,l,Nat.zero_le _,by omega,rfl,ez,aY,rfl⟩
   case round=>
    clear ez aY
    obtain⟨j,X,hj,hX,rfl,tI,ei,HX⟩:=hrel
    obtain⟨a9,c9,rfl,t9,n9⟩:=pd tI
    have hXb:X.length<=l.length+32:=by omega
    have HL:=aa hX
    clear hX n9
    by_cases aE:j<c.length
    .have hc:=(t7.keep ei (Nat.le_refl _)).int j (by rw[yF];exact aE)
     rw[Gj] at hc
     have hdd:c.getD j 0<8:=Wp _ (by rw[List.getD_eq_getElem?_getD,List.getElem?_eq_getElem aE];exact List.getElem_mem aE)
     have DW:c.drop j=c.getD j 0::c.drop (j+1):=by
      rw[List.drop_eq_getElem_cons aE,List.getD_eq_getElem?_getD,List.getElem?_eq_getElem aE];rfl
     have Pd:=HX.out
     rw[DW,enc,<-List.append_assoc] at Pd
     have O7:decide (0<(c.drop (j+1)).length)=decide ((j:Int)<(c.length:Int)-1):=by
      rw[List.length_drop]
      by_cases h:0<c.length-(j+1)
      .rw[decide_eq_true h,decide_eq_true (by omega)]
      rw[decide_eq_false h,decide_eq_false (by omega)]
     rw[O7] at Pd
     have HY:=aa Pd
     clear HX Pd DW O7
     generalize c.getD j 0=d at*
     have J0:=ei.size
     have JF:(j:Int)<(c.length:Int):=by omega
     go_wp2_with (at_builtin;refine bE _ rfl (.tmp 44) (.tmp 58) 105 rfl w2.heap.size 4 i0 (.bool false) 1 1 Tryz.underlying105 hi bK bm bQ rfl (by decide) _ X.length _ rfl tI 4 _ _ rfl rfl (by simp[Value.oneCell']) (by decide) (by unfold maxLen;omega) (by omega) J0 ?_)
     intro v' w3 eF ji Sz
     have aC:=aG ei tI ji (Nat.le_refl _) J0
     have jR:w3.ownsRow w2.heap.size 4 1 v' (X++me (decide ((j:Int)<(c.length:Int)-1)) d).length ((X++me (decide ((j:Int)<(c.length:Int)-1)) d).map Value.bool):=by
      rw[List.map_append,<-QD,List.length_append,fW]
      exact eF
     have TE:Hid ((X++me (decide ((j:Int)<(c.length:Int)-1)) d).length=l.length+4*(j+1)):=by
      show _=_
      have:=HL.out
      rw[List.length_append,fW];omega
     generalize X++me (decide ((j:Int)<(c.length:Int)-1)) d=Y at*
     clear eF ji Sz tI ei t9 hc HL
     obtain⟨a10,c10,rfl,t10,n10⟩:=pd jR
     clear n10
     go_wp2_with fail
     go_roundw
     case rel=>exact⟨j+1,Y,by omega,TE.out,by go_num,jR,aC,HY⟩
     case measure=>simp[intOf];omega
    obtain rfl:j=c.length:=by omega
    have hY:=HX.out
    rw[List.drop_length,enc,List.append_nil] at hY
    clear HX HL
    subst hY
    clear t7
    go_wp2_with fail
    go_ret2
    exact⟨a9,c9,by simp,t9,ac bel ei⟩)
theorem IJ (ao:Option Addr)(cap:Nat)(l:List Bool)(v:Int)(w:World)(hr:Sl w ao cap (l.map Value.bool))(hl:l.length<=140737488355160):
  Calls Tryz.prog 197 #[.slice ao l.length cap,.int .i64 v] w fun e w'=>
   ∃a' G,e=.returned (.tuple #[.slice a' (zo l v).length G,.int .i64 (FN v)])/\Sl w' a' G ((zo l v).map Value.bool)/\Below w.heap.size w w':=by
 cases h:iK v with
 |false=>
  have jf:decide (-4000000<=v/\v<=4000000)=false:=h
  have e1:zo l v=[]:=by simp[zo,h]
  have e2:FN v=3:=by simp[FN,h]
  rw[e1,e2]
  clear e1 e2
  go_enter Tryz.func197,Tryz.ntmps197
  go_wp2_with (go_at_call 36;refine(bG _ _ _ _).mono ?_;rintro e w' ⟨rfl,rfl⟩;rw[jf])
  go_ret2
  exact⟨none,0,rfl,Sl.ofNil _,Below.refl _ _⟩
 |true=>
  refine(Ki ao cap l v w hr hl h).mono ?_
  rintro e' w' ⟨a',G,rfl,hs,bel⟩
  exact⟨a',G,by simp[zo,FN,h],by simpa[zo,h] using hs,bel⟩
end Go.Proofs.YtoonnbhoiocoeaaGreatDoor
