/-
  The closed fact 'watched': a reader sees what was there.
-/
import Derived.Deep.Cut
import Derived.Deep.RegionHeld3
import Derived.Deep.CutRange
import Derived.Test.YtoonnbhoiocoeaaGreatDoorP28
import Derived.Test.YtoonnbhoiocoeaaGreatDoorP25
import Derived.Test.YtoonnbhoiocoeaaGreatDoorP27
import Derived.Test.YtoonnbhoiocoeaaGreatDoorP01
import Derived.Test.YtoonnbhoiocoeaaGreatDoorP24
import Derived.Test.YtoonnbhoiocoeaaGreatDoorP18
import Derived.Test.YtoonnbhoiocoeaaGreatDoorP10
import Derived.Test.YtoonnbhoiocoeaaGreatDoorP03
import Derived.Test.YtoonnbhoiocoeaaGreatDoorP26
import Derived.Test.YtoonnbhoiocoeaaGreatDoorP20
set_option maxHeartbeats 40000000
set_option maxRecDepth 100000
set_option linter.unusedVariables false
namespace Go.Proofs.YtoonnbhoiocoeaaGreatDoor
open Go.RowKit
open Go.Lib (byteCells)
theorem zQ (w:World)(l:List bF)(cs:Array Value)(hc:cs.toList=l.flatMap bF.cells)(t:TypeId)(n:Nat)(hn:n=w.heap.size)(cap:Nat)(hl:l.length=cap)(hm:cap<=9223372036854775807):aY bF.cells (w.alloc (.cells cs t)) (some ⟨n,0,none⟩) cap l:=by
 have h:=Row.laid w cs.toList t n hn
 rw[Array.toArray_toList,hc] at h
 exact⟨h,by omega,hm,fun e=>by cases e⟩
theorem MJ (p:Pw)(g g1 g2 g3:Nat)(W:World)(gl:Gl W)(I:ej W p f7)(S:dI W (some ⟨g,0,none⟩) 6 [⟨⟨1,0,0,[(1,5,10)]⟩,some ⟨g1,0,none⟩,1⟩,⟨⟨5,0,2,[]⟩,none,0⟩,⟨⟨1,0,0,[(1,6,12)]⟩,some ⟨g2,0,none⟩,1⟩,⟨⟨1,0,0,[(1,6,12)]⟩,some ⟨g3,0,none⟩,1⟩,⟨⟨2,1,2,[]⟩,none,0⟩,⟨⟨4,0,9,[]⟩,none,0⟩]):
  Calls Tryz.prog 23 #[p.val true,.slice (some ⟨g,0,none⟩) 6 6] W (qU W ms [0,0,0,7,0,0] 0):=by
 have c:=Cc f7 [⟨⟨1,0,0,[(1,5,10)]⟩,some ⟨g1,0,none⟩,1⟩,⟨⟨5,0,2,[]⟩,none,0⟩,⟨⟨1,0,0,[(1,6,12)]⟩,some ⟨g2,0,none⟩,1⟩,⟨⟨1,0,0,[(1,6,12)]⟩,some ⟨g3,0,none⟩,1⟩,⟨⟨2,1,2,[]⟩,none,0⟩,⟨⟨4,0,9,[]⟩,none,0⟩] p (some ⟨g,0,none⟩) 6 6 W gl I we S (hide rfl)
 rw[if_neg (by simp)] at c
 have e:(ez f7 Oo).1=ms/\(ez f7 Oo).2=[0,0,0,7,0,0]:=⟨rfl,Vz⟩
 rw[<-e.1,<-e.2]
 exact c
theorem Nl (p:Pw)(g g4:Nat)(W:World)(gl:Gl W)(I:ej W p ms)(S:dI W (some ⟨g,0,none⟩) 3 [⟨⟨7,0,0,[]⟩,none,0⟩,⟨⟨1,0,0,[(1,7,14)]⟩,some ⟨g4,0,none⟩,1⟩,⟨⟨8,0,0,[]⟩,none,0⟩]):
  Calls Tryz.prog 23 #[p.val true,.slice (some ⟨g,0,none⟩) 3 3] W (qU W uU [0,7,0] 0):=by
 have c:=Cc ms [⟨⟨7,0,0,[]⟩,none,0⟩,⟨⟨1,0,0,[(1,7,14)]⟩,some ⟨g4,0,none⟩,1⟩,⟨⟨8,0,0,[]⟩,none,0⟩] p (some ⟨g,0,none⟩) 3 3 W gl I QE.1 S (hide rfl)
 rw[if_neg (by simp),Iv] at c
 have e:(ez ms Qa).1=uU/\(ez ms Qa).2=[0,7,0]:=⟨rfl,U9⟩
 rw[<-e.1,<-e.2]
 exact c
theorem PG (W:World)(g1 g2 g3:Nat)(n:Nat)(hn:n=W.heap.size)(s1:aY ec W (some ⟨g1,0,none⟩) 1 [(1,5,10)])(s2:aY ec W (some ⟨g2,0,none⟩) 1 [(1,6,12)])(s3:aY ec W (some ⟨g3,0,none⟩) 1 [(1,6,12)]):
  dI (W.alloc (.cells #[.int .i64 1,.int .i64 0,.int .i64 0,.slice (some ⟨g1,0,none⟩) 1 1,.int .i64 5,.int .i64 0,.int .i64 2,.slice none 0 0,.int .i64 1,.int .i64 0,.int .i64 0,.slice (some ⟨g2,0,none⟩) 1 1,.int .i64 1,.int .i64 0,.int .i64 0,.slice (some ⟨g3,0,none⟩) 1 1,.int .i64 2,.int .i64 1,.int .i64 2,.slice none 0 0,.int .i64 4,.int .i64 0,.int .i64 9,.slice none 0 0] 33)) (some ⟨n,0,none⟩) 6 [⟨⟨1,0,0,[(1,5,10)]⟩,some ⟨g1,0,none⟩,1⟩,⟨⟨5,0,2,[]⟩,none,0⟩,⟨⟨1,0,0,[(1,6,12)]⟩,some ⟨g2,0,none⟩,1⟩,⟨⟨1,0,0,[(1,6,12)]⟩,some ⟨g3,0,none⟩,1⟩,⟨⟨2,1,2,[]⟩,none,0⟩,⟨⟨4,0,9,[]⟩,none,0⟩]:=by
 refine⟨zQ W [⟨⟨1,0,0,[(1,5,10)]⟩,some ⟨g1,0,none⟩,1⟩,⟨⟨5,0,2,[]⟩,none,0⟩,⟨⟨1,0,0,[(1,6,12)]⟩,some ⟨g2,0,none⟩,1⟩,⟨⟨1,0,0,[(1,6,12)]⟩,some ⟨g3,0,none⟩,1⟩,⟨⟨2,1,2,[]⟩,none,0⟩,⟨⟨4,0,9,[]⟩,none,0⟩] #[.int .i64 1,.int .i64 0,.int .i64 0,.slice (some ⟨g1,0,none⟩) 1 1,.int .i64 5,.int .i64 0,.int .i64 2,.slice none 0 0,.int .i64 1,.int .i64 0,.int .i64 0,.slice (some ⟨g2,0,none⟩) 1 1,.int .i64 1,.int .i64 0,.int .i64 0,.slice (some ⟨g3,0,none⟩) 1 1,.int .i64 2,.int .i64 1,.int .i64 2,.slice none 0 0,.int .i64 4,.int .i64 0,.int .i64 9,.slice none 0 0] rfl 33 n hn 6 rfl (by decide),fun x hx=>?_⟩
 simp only[List.mem_cons,List.not_mem_nil,or_false] at hx
 rcases hx with rfl|rfl|rfl|rfl|rfl|rfl
 .exact s1.alloc _
 .exact aY.ofNil ec _
 .exact s2.alloc _
 .exact s3.alloc _
 .exact aY.ofNil ec _
 .exact aY.ofNil ec _
theorem Ow (W:World)(g4:Nat)(n:Nat)(hn:n=W.heap.size)(s1:aY ec W (some ⟨g4,0,none⟩) 1 [(1,7,14)]):
  dI (W.alloc (.cells #[.int .i64 7,.int .i64 0,.int .i64 0,.slice none 0 0,.int .i64 1,.int .i64 0,.int .i64 0,.slice (some ⟨g4,0,none⟩) 1 1,.int .i64 8,.int .i64 0,.int .i64 0,.slice none 0 0] 33)) (some ⟨n,0,none⟩) 3 [⟨⟨7,0,0,[]⟩,none,0⟩,⟨⟨1,0,0,[(1,7,14)]⟩,some ⟨g4,0,none⟩,1⟩,⟨⟨8,0,0,[]⟩,none,0⟩]:=by
 refine⟨zQ W [⟨⟨7,0,0,[]⟩,none,0⟩,⟨⟨1,0,0,[(1,7,14)]⟩,some ⟨g4,0,none⟩,1⟩,⟨⟨8,0,0,[]⟩,none,0⟩] #[.int .i64 7,.int .i64 0,.int .i64 0,.slice none 0 0,.int .i64 1,.int .i64 0,.int .i64 0,.slice (some ⟨g4,0,none⟩) 1 1,.int .i64 8,.int .i64 0,.int .i64 0,.slice none 0 0] rfl 33 n hn 3 rfl (by decide),fun x hx=>?_⟩
 simp only[List.mem_cons,List.not_mem_nil,or_false] at hx
 rcases hx with rfl|rfl|rfl
 .exact aY.ofNil ec _
 .exact s1.alloc _
 .exact aY.ofNil ec _
theorem xe (x:Wd)(r:Int)(l:List Pt)(E:Int)(he:jB x r 1=E)(hl:mz x r 1 0 100=l)(u:x.up=true)(f1:x.d.safe.length+x.d.wait.length<=1000)(f2:x.c.length<=1000)(n:Nat)(hn:l.length=n)(p:Pw)(W:World)(gl:Gl W)(I:ej W p x):
  Calls Tryz.prog 17 #[p.val true,.int .i64 r,.int .i64 1,.int .i64 0,.int .i64 100] W fun e w'=>∃a G,e=.returned (.tuple #[.slice a n G,.int .i64 E])/\aI w' a G l/\Below W.heap.size W w':=by
 have c:=yr x p r 1 0 100 W gl I (by rw[I.e1,I.e2];omega) (by rw[I.es];omega)
 rw[he,hl,u] at c
 refine c.mono ?_
 rintro e w' ⟨a,m,G,rfl,hm,o,b⟩
 have jf:=hm.out
 subst jf
 subst hn
 obtain⟨ao,cap,e,s,_,_⟩:=aI.ofOwn o
 simp only[Value.slice.injEq] at e
 obtain⟨rfl,_,rfl⟩:=e
 exact⟨a,G,rfl,s,b⟩
theorem Pc (a:Option Addr)(G:Nat)(W:World)(I:dC W a G ms.c):
  Calls Tryz.prog 38 #[.agg #[.slice a 4 G],.int .i64 1] W fun e w'=>∃a' G',e=.returned (.tuple #[.slice a' 0 G',.int .i64 0])/\Below W.heap.size W w':=by
 have c:=Bp 1 I
 rw[Qk,Qo.1,Qo.2] at c
 refine c.mono ?_
 rintro e w' ⟨a',G',rfl,_,b⟩
 exact⟨a',G',rfl,b⟩
theorem K4 (l:List Int)(n:Nat)(hn:l.length=n)(hb:n<=1000)(a b:Option Addr)(c d:Nat)(W:World)(r1:Row W a (l.map (Value.int .i64)))(r2:Row W b (l.map (Value.int .i64))):
  Calls Tryz.prog 24 #[.slice a n c,.slice b n d] W fun e w'=>e=.returned (.bool true)/\Below W.heap.size W w':=by
 have k:=DT a b c d l l W r1 r2 (by omega) (by omega)
 rw[hn] at k
 refine k.mono ?_
 rintro e w' ⟨rfl,q,rfl⟩
 exact⟨by simp,bj (Below.refl _ _) q⟩
theorem O8 (a b:Option Addr)(c d:Nat)(W:World)(r1:aI W a c [(5,10)])(r2:aI W b d [(5,10)]):
  Calls Tryz.prog 21 #[.slice a 1 c,.slice b 1 d] W fun e w'=>e=.returned (.bool true)/\Below W.heap.size W w':=by
 have k:=oG a b c d [(5,10)] [(5,10)] W r1 r2 (by decide) (by decide)
 refine k.mono ?_
 rintro e w' ⟨rfl,q,rfl⟩
 exact⟨by simp,bj (Below.refl _ _) q⟩
theorem Ee (W:World)(l:List Int)(cs:Array Value)(hc:cs.toList=l.map (Value.int .i64))(t:TypeId):Row (W.alloc (.cells cs t)) (some ⟨W.heap.size,0,none⟩) (l.map (Value.int .i64)):=by
 have h:=Row.laid W cs.toList t W.heap.size rfl
 rw[Array.toArray_toList,hc] at h
 exact h
structure Sz (w W:World)(gW:Nat)(ss:Option Addr)(sG:Nat)(ra:Option Addr)(rG:Nat)(Rb:Value):Prop where
 ex:∃(q:Pw) (ts:Option Addr) (tG:Nat),Rb=.slice ts 3 tG/\ac W gW (q.cells true) 30/\ej W q uU/\Sl W ss sG (([0,0,0,7,0,0]:List Int).map (Value.int .i64))/\aI W ra rG [(5,10)]/\Sl W ts tG (([0,7,0]:List Int).map (Value.int .i64))/\Below w.heap.size w W
theorem Qf {w W:World}{gW:Nat}{ss:Option Addr}{sG:Nat}{ra:Option Addr}{rG:Nat}{a1 a2 a3 a4:Option Addr}{n1 n2 n3 n4 c1 c2 c3 c4:Nat}{u:Bool}(B:ac W gW [.slice a1 n1 c1,.slice a2 n2 c2,.slice a3 n3 c3,.bool u,.slice a4 n4 c4] 30)(hw:w.heap.size<=gW)
  (sa:Option Addr) (sn sH:Nat) (b1:Option Addr) (m1 k1:Nat) (b2:Option Addr) (m2 k2:Nat) (rb:Option Addr) (rm rk:Nat) (ts:Option Addr) (tG:Nat) (I:ej W ⟨sa,sn,sH,b1,m1,k1,b2,m2,k2,rb,rm,rk⟩ uU) (RS:Sl W ss sG (([0,0,0,7,0,0]:List Int).map (Value.int .i64))) (RP:aI W ra rG [(5,10)]) (RT:Sl W ts tG (([0,7,0]:List Int).map (Value.int .i64))) (bel:Below w.heap.size w W):
  Sz w (((((W.setCell ⟨gW,0,none⟩ (.slice sa sn sH)).setCell ⟨gW,1,none⟩ (.slice b1 m1 k1)).setCell ⟨gW,2,none⟩ (.slice b2 m2 k2)).setCell ⟨gW,3,none⟩ (.bool true)).setCell ⟨gW,4,none⟩ (.slice rb rm rk)) gW ss sG ra rG (.slice ts 3 tG):=by
 have g5:=BU (w:=W) (g:=gW) (.slice sa sn sH) (.slice b1 m1 k1) (.slice b2 m2 k2) (.bool true) (.slice rb rm rk)
 exact⟨_,ts,tG,rfl,qq B _ _ _ _ _,I.boxW (jV QE.2) B g5,tL RS B (by simp) g5,RP.off g5 (RP.row.offKind B (i:=0) (v:=.int .i64 5) rfl (by simp)),tL RT B (by simp) g5,jW bel hw _ _ _ _ _⟩
theorem dP (w:World)(hg:Gl w):Calls Tryz.prog 10 #[] w fun e w'=>e=.returned (.bool true)/\Below w.heap.size w w':=by
 go_enter Tryz.func10,Tryz.ntmps10
 go_wp2_with fail
 go_at_call 14
 refine(ur _).mono ?_
 rintro e w1 ⟨p,rfl,I,b1⟩
 go_wp2_with fail
 go_at_call 37
 refine(qX 5 (by simp) _).mono ?_
 rintro e w2 ⟨g1,rfl,s1,b2⟩
 replace I:=I.call b2
 replace b1:=aa b1 b2
 clear b2
 go_wp2_with fail
 go_at_call 37
 refine(qX 6 (by simp) _).mono ?_
 rintro e w3 ⟨g2,rfl,s2,b2⟩
 replace I:=I.call b2
 replace s1:=s1.call b2
 replace b1:=aa b1 b2
 clear b2
 go_wp2_with fail
 go_at_call 37
 refine(qX 6 (by simp) _).mono ?_
 rintro e w4 ⟨g3,rfl,s3,b2⟩
 replace I:=I.call b2
 replace s1:=s1.call b2
 replace s2:=s2.call b2
 replace b1:=aa b1 b2
 clear b2
 have S:=PG w4 g1 g2 g3 _ rfl s1 s2 s3
 replace I:=I.alloc (.cells #[.int .i64 1,.int .i64 0,.int .i64 0,.slice (some ⟨g1,0,none⟩) 1 1,.int .i64 5,.int .i64 0,.int .i64 2,.slice none 0 0,.int .i64 1,.int .i64 0,.int .i64 0,.slice (some ⟨g2,0,none⟩) 1 1,.int .i64 1,.int .i64 0,.int .i64 0,.slice (some ⟨g3,0,none⟩) 1 1,.int .i64 2,.int .i64 1,.int .i64 2,.slice none 0 0,.int .i64 4,.int .i64 0,.int .i64 9,.slice none 0 0] 33)
 have bel:=newB b1 (.cells #[.int .i64 1,.int .i64 0,.int .i64 0,.slice (some ⟨g1,0,none⟩) 1 1,.int .i64 5,.int .i64 0,.int .i64 2,.slice none 0 0,.int .i64 1,.int .i64 0,.int .i64 0,.slice (some ⟨g2,0,none⟩) 1 1,.int .i64 1,.int .i64 0,.int .i64 0,.slice (some ⟨g3,0,none⟩) 1 1,.int .i64 2,.int .i64 1,.int .i64 2,.slice none 0 0,.int .i64 4,.int .i64 0,.int .i64 9,.slice none 0 0] 33)
 have gl:=hg.call bel
 clear b1 s1 s2 s3
 go_wp2_with fail
 go_at_call 23
 refine(MJ p _ g1 g2 g3 _ gl I S).mono ?_
 rintro e w5 ⟨q,ss,sn,sG,rfl,I5,Cr,RS,b5⟩
 clear I S gl
 have NM:=bel.size
 have Zg:=b5.size
 rw[Iv]
 obtain⟨sa,un,uG,a1,n1,c1,a2,n2,c2,ra,rn,rc⟩:=q
 simp only[Pw.val] at*
 have BW:=ac.laid w5 [.slice sa un uG,.slice a1 n1 c1,.slice a2 n2 c2,.bool true,.slice ra rn rc] 30 _ rfl
 have bq:=newB b5 (.cells #[.slice sa un uG,.slice a1 n1 c1,.slice a2 n2 c2,.bool true,.slice ra rn rc] 30)
 replace bel:=aa bel bq
 replace I5:=I5.alloc (.cells #[.slice sa un uG,.slice a1 n1 c1,.slice a2 n2 c2,.bool true,.slice ra rn rc] 30)
 replace RS:=RS.alloc (.cells #[.slice sa un uG,.slice a1 n1 c1,.slice a2 n2 c2,.bool true,.slice ra rn rc] 30)
 obtain rfl:un=4:=I5.es.trans Qk
 have zp:=xe ms 2 [(5,10)] 0 Qz.1 Qz.2 Iv qO.1 qO.2.1 1 rfl ⟨sa,4,uG,a1,n1,c1,a2,n2,c2,ra,rn,rc⟩
 have QN:=xe ms 1 [] 7 Wz TD Iv qO.1 qO.2.1 0 rfl ⟨sa,4,uG,a1,n1,c1,a2,n2,c2,ra,rn,rc⟩
 simp only[Pw.val] at zp QN
 have cA:=Pc sa uG
 clear b5 bq
 go_upto_region 3 with fail
 have Us:w.heap.size<=w5.heap.size:=Nat.le_of_lt_succ (Nat.lt_of_le_of_lt (Nat.le_trans NM Zg) (Nat.lt_succ_self _))
 generalize w5.heap.size=gW at*
 generalize World.alloc w5 _=v at*
 have x0:=BW.cell 0
 have x1:=BW.cell 1
 have x2:=BW.cell 2
 have x3:=BW.cell 3
 have x4:=BW.cell 4
 have xl:=BW.lt
 go_wp2_with fail
 go_at_call 17
 refine(zp _ (hg.call bel) I5).mono ?_
 rintro e v2 ⟨TY,Wn,rfl,RP,b⟩
 clear x0 x1 x2 x3 x4 xl
 replace BW:=BW.keep b BW.lt
 replace I5:=I5.call b
 replace RS:=RS.call b
 replace bel:=aa bel b
 clear b
 have x0:=BW.cell 0
 have x1:=BW.cell 1
 have x2:=BW.cell 2
 have x3:=BW.cell 3
 have x4:=BW.cell 4
 have xl:=BW.lt
 go_wp2_with fail
 go_at_call 17
 refine(QN _ (hg.call bel) I5).mono ?_
 rintro e v3 ⟨ra2,rG2,rfl,_,b⟩
 replace RP:=RP.call b
 clear x0 x1 x2 x3 x4 xl
 replace BW:=BW.keep b BW.lt
 replace I5:=I5.call b
 replace RS:=RS.call b
 replace bel:=aa bel b
 clear b
 have x0:=BW.cell 0
 have x1:=BW.cell 1
 have x2:=BW.cell 2
 have x3:=BW.cell 3
 have x4:=BW.cell 4
 have xl:=BW.lt
 go_wp2_with fail
 go_at_call 38
 refine(cA _ I5.s).mono ?_
 rintro e v4 ⟨ra3,rG3,rfl,b⟩
 replace RP:=RP.call b
 clear x0 x1 x2 x3 x4 xl
 replace BW:=BW.keep b BW.lt
 replace RS:=RS.call b
 replace I5:=I5.call b
 replace bel:=aa bel b
 clear b zp QN cA
 go_upto_region 6 with fail
 generalize v4=V at*
 have k0:Below V.heap.size V V.drew:=ai (Below.refl _ _)
 have kP:∀W,Below V.heap.size V W->Calls Tryz.prog 37 #[.int .i64 7] W fun e w'=>∃g,e=.returned (.agg #[.int .i64 1,.int .i64 0,.int .i64 0,.slice (some ⟨g,0,none⟩) 1 1])/\w'.cell? ⟨gW,0,none⟩=some (.slice sa 4 uG)/\w'.cell? ⟨gW,1,none⟩=some (.slice a1 n1 c1)/\w'.cell? ⟨gW,2,none⟩=some (.slice a2 n2 c2)/\w'.cell? ⟨gW,3,none⟩=some (.bool true)/\w'.cell? ⟨gW,4,none⟩=some (.slice ra rn rc)/\gW<w'.heap.size/\Hid (aY ec w' (some ⟨g,0,none⟩) 1 [(1,7,14)]/\Below V.heap.size V w'):=by
  intro W h
  refine(qX 7 (by simp) W).mono ?_
  rintro e w' ⟨g,rfl,s,b⟩
  have bb:=aa h b
  have B:=BW.keep bb BW.lt
  exact⟨g,rfl,B.cell 0,B.cell 1,B.cell 2,B.cell 3,B.cell 4,B.lt,hide ⟨s,bb⟩⟩
 have kR:∀g W,Hid (aY ec W (some ⟨g,0,none⟩) 1 [(1,7,14)]/\Below V.heap.size V W)->Calls Tryz.prog 23 #[.agg #[.slice sa 4 uG,.slice a1 n1 c1,.slice a2 n2 c2,.bool true,.slice ra rn rc],.slice (some ⟨W.heap.size,0,none⟩) 3 3] (W.alloc (.cells #[.int .i64 7,.int .i64 0,.int .i64 0,.slice none 0 0,.int .i64 1,.int .i64 0,.int .i64 0,.slice (some ⟨g,0,none⟩) 1 1,.int .i64 8,.int .i64 0,.int .i64 0,.slice none 0 0] 33)) fun e w'=>∃(sb:Option Addr) (sm sH:Nat) (b1:Option Addr) (m1 k1:Nat) (b2:Option Addr) (m2 k2:Nat) (rb:Option Addr) (rm rk:Nat) (ts:Option Addr) (tG:Nat),e=.returned (.tuple #[.agg #[.slice sb sm sH,.slice b1 m1 k1,.slice b2 m2 k2,.bool true,.slice rb rm rk],.slice ts 3 tG,.int .i64 0])/\ac w' gW [.slice sa 4 uG,.slice a1 n1 c1,.slice a2 n2 c2,.bool true,.slice ra rn rc] 30/\Hid (Sz w (((((w'.setCell ⟨gW,0,none⟩ (.slice sb sm sH)).setCell ⟨gW,1,none⟩ (.slice b1 m1 k1)).setCell ⟨gW,2,none⟩ (.slice b2 m2 k2)).setCell ⟨gW,3,none⟩ (.bool true)).setCell ⟨gW,4,none⟩ (.slice rb rm rk)) gW ss sG TY Wn (.slice ts 3 tG)):=by
  intro g W hh
  have S:=Ow W g _ rfl hh.out.1
  have bb:=newB hh.out.2 (.cells #[.int .i64 7,.int .i64 0,.int .i64 0,.slice none 0 0,.int .i64 1,.int .i64 0,.int .i64 0,.slice (some ⟨g,0,none⟩) 1 1,.int .i64 8,.int .i64 0,.int .i64 0,.slice none 0 0] 33)
  refine(Nl ⟨sa,4,uG,a1,n1,c1,a2,n2,c2,ra,rn,rc⟩ _ g _ ((hg.call bel).call bb) (I5.call bb) S).mono ?_
  rintro e w' ⟨q,ts,tn,tG,rfl,I6,Xg,RT,b6⟩
  have bc:=aa bb b6
  have fD:tn=3:=Xg.out
  subst fD
  rw[Nv]
  obtain⟨sb,sm,sH,b1,m1,k1,b2,m2,k2,rb,rm,rk⟩:=q
  have B:=BW.keep bc BW.lt
  exact⟨_,_,_,_,_,_,_,_,_,_,_,_,ts,tG,rfl,B,hide (Qf B Us _ _ _ _ _ _ _ _ _ _ _ _ ts tG I6 (RS.call bc) (RP.call bc) RT (aa bel bc))⟩
 have x0:=BW.cell 0
 have x1:=BW.cell 1
 have x2:=BW.cell 2
 have x3:=BW.cell 3
 have x4:=BW.cell 4
 have xl:=BW.lt
 replace BW:=hide BW
 replace I5:=hide I5
 replace RS:=hide RS
 replace RP:=hide RP
 replace bel:=hide bel
 go_cut [11,12] from 47 to 57 (fun Rb Y1 wx=>Y1=.int .i64 0/\Hid (Sz w wx gW ss sG TY Wn Rb))
 case first=>
  go_region_with
   (first
    | (go_at_call 37;refine(kP _ k0).mono ?_;rintro e wA ⟨g4,rfl,y0,y1,y2,y3,y4,yl,zA⟩)
    | (go_at_call 23;refine(kR _ _ zA).mono ?_;rintro e wB ⟨sb,sm,sH,b1,m1,k1,b2,m2,k2,rb,rm,rk,ts,tG,rfl,BB,hE⟩;have z0:=BB.cell 0;have z1:=BB.cell 1;have z2:=BB.cell 2;have z3:=BB.cell 3;have z4:=BB.cell 4;have f0:=BB.free 0;have f1:=BB.free 1;have f2:=BB.free 2;have f3:=BB.free 3;have f4:=BB.free 4;have zl:=BB.lt;clear BB))
  all_goals(
   go_wp2_with fail
   go_meet
   case rel=>exact⟨rfl,hE⟩)
 case rest=>
  obtain⟨rfl,hE⟩:=hcut
  obtain⟨q,ts,tG,rfl,f',I6,AV,AM,RT,al⟩:=hE.out.ex
  clear hE kP kR k0 x0 x1 x2 x3 x4 xl BW I5 RS RP bel
  obtain⟨sb,sm,sH,b1,m1,k1,b2,m2,k2,rb,rm,rk⟩:=q
  simp only[Pw.cells] at f'
  have Ru:=xe uU 2 [] 7 VT.1 RK Nv qO.2.2.1 qO.2.2.2 0 rfl ⟨sb,sm,sH,b1,m1,k1,b2,m2,k2,rb,rm,rk⟩
  simp only[Pw.val] at Ru
  have x0:=f'.cell 0
  have x1:=f'.cell 1
  have x2:=f'.cell 2
  have x3:=f'.cell 3
  have x4:=f'.cell 4
  have xl:=f'.lt
  go_wp2_with fail
  go_at_call 17
  refine(Ru _ (hg.call al) I6).mono ?_
  rintro e v5 ⟨ra4,rG4,rfl,_,b⟩
  clear x0 x1 x2 x3 x4 xl
  replace f':=f'.keep b f'.lt
  replace AV:=AV.call b
  replace AM:=AM.call b
  replace RT:=RT.call b
  replace al:=aa al b
  clear b I6 Ru
  have x0:=f'.cell 0
  have x1:=f'.cell 1
  have x2:=f'.cell 2
  have x3:=f'.cell 3
  have x4:=f'.cell 4
  have xl:=f'.lt
  have Vj:sn=6:=Cr.out
  subst Vj
  go_wp2_with fail
  go_at_call 24
  have bn:=newB (Below.refl v5.heap.size v5) (.cells #[.int .i64 0,.int .i64 0,.int .i64 0,.int .i64 7,.int .i64 0,.int .i64 0] 34)
  refine(K4 [0,0,0,7,0,0] 6 rfl (by decide) _ _ _ _ _ (AV.call bn).row (Ee v5 [0,0,0,7,0,0] _ rfl _)).mono ?_
  rintro e v6 ⟨rfl,b6⟩
  have b:=aa bn b6
  clear bn b6
  clear x0 x1 x2 x3 x4 xl
  replace f':=f'.keep b f'.lt
  replace AV:=AV.call b
  replace AM:=AM.call b
  replace RT:=RT.call b
  replace al:=aa al b
  clear b
  have x0:=f'.cell 0
  have x1:=f'.cell 1
  have x2:=f'.cell 2
  have x3:=f'.cell 3
  have x4:=f'.cell 4
  have xl:=f'.lt
  go_wp2_with fail
  go_at_call 24
  have bn:=newB (Below.refl v6.heap.size v6) (.cells #[.int .i64 0,.int .i64 7,.int .i64 0] 34)
  refine(K4 [0,7,0] 3 rfl (by decide) _ _ _ _ _ (RT.call bn).row (Ee v6 [0,7,0] _ rfl _)).mono ?_
  rintro e v7 ⟨rfl,b6⟩
  have b:=aa bn b6
  clear bn b6
  clear x0 x1 x2 x3 x4 xl
  replace f':=f'.keep b f'.lt
  replace AV:=AV.call b
  replace AM:=AM.call b
  replace RT:=RT.call b
  replace al:=aa al b
  clear b
  have x0:=f'.cell 0
  have x1:=f'.cell 1
  have x2:=f'.cell 2
  have x3:=f'.cell 3
  have x4:=f'.cell 4
  have xl:=f'.lt
  go_wp2_with fail
  go_at_call 21
  have bn:=newB (Below.refl v7.heap.size v7) (.cells #[.int .i64 5,.int .i64 10] 56)
  refine(O8 _ _ _ _ _ (AM.call bn) (aI.laid v7 [(5,10)] _ rfl _ _ rfl 1 rfl (by decide))).mono ?_
  rintro e v8 ⟨rfl,b6⟩
  have b:=aa bn b6
  clear bn b6
  clear x0 x1 x2 x3 x4 xl
  replace f':=f'.keep b f'.lt
  replace AV:=AV.call b
  replace AM:=AM.call b
  replace RT:=RT.call b
  replace al:=aa al b
  clear b
  have x0:=f'.cell 0
  have x1:=f'.cell 1
  have x2:=f'.cell 2
  have x3:=f'.cell 3
  have x4:=f'.cell 4
  have xl:=f'.lt
  go_wp2_with fail
  go_ret
  exact⟨rfl,al⟩
end Go.Proofs.YtoonnbhoiocoeaaGreatDoor
namespace Go.Proofs.YtoonnbhoiocoeaaGreatDoor
open Go.RowKit
open Go.Lib (byteCells)
theorem Q8 (x:Wd)(y:Hp)(p:Pw)(ea:Option Addr)(en eC:Nat)(w:World)(hg:Gl w)(I:ej w p x)(h:cu x=0)(s3:aY ec w ea eC y.e)(h3:Hid (en=y.e.length)):
  Calls Tryz.prog 8 #[p.val x.up,.agg #[.int .i64 y.k,.int .i64 y.s,.int .i64 y.n,.slice ea en eC]] w (Qq w (dr x y) (ci x y)):=by
 have c:=fun W g i=>xu x p W g i h
 unfold Lk at c
 have uN:=hide (fun e:ci x y=0=>sc h e)
 have Dt:Hid (ci x y≠0->dr x y=NS):=hide (fun e=>if_pos e)
 obtain⟨HE,eK⟩:∃HE,HE=ci x y:=⟨_,rfl⟩
 obtain⟨Z,hZ⟩:∃Z,Z=dr x y:=⟨_,rfl⟩
 have cH:=fun V g h' p' sq B gl s=>vi (Q:=fun _=>False) y g h' p' sq x V B (fun _ h=>h.elim) gl ea en eC s h3
 rw[<-eK,<-hZ] at cH uN Dt⊢
 replace eK:=hide eK
 replace hZ:=hide hZ
 obtain⟨K,S,N,L⟩:=y
 simp only at*
 obtain⟨U,hU⟩:∃U,U=x.up:=⟨_,rfl⟩
 rw[<-hU] at c⊢
 replace hU:=hide hU
 obtain⟨sa,sn,sG,a1,n1,c1,a2,n2,c2,ra,rn,rc⟩:=p
 simp only[Pw.val] at*
 have BX:=((ac.laid w [.slice sa sn sG,.slice a1 n1 c1,.slice a2 n2 c2,.bool U,.slice ra rn rc] 30 _ rfl).alc (.cells #[.int .i64 K,.int .i64 S,.int .i64 N,.slice ea en eC] 33)).alc (.cells #[.slice none 0 0,.slice none 0 0,.slice none 0 0,.bool false,.slice none 0 0] 30)
 have BY:=(ac.laid (w.alloc (.cells #[.slice sa sn sG,.slice a1 n1 c1,.slice a2 n2 c2,.bool U,.slice ra rn rc] 30)) [.int .i64 K,.int .i64 S,.int .i64 N,.slice ea en eC] 33 (w.heap.size+1) (by simp)).alc (.cells #[.slice none 0 0,.slice none 0 0,.slice none 0 0,.bool false,.slice none 0 0] 30)
 have BR:=ac.laid ((w.alloc (.cells #[.slice sa sn sG,.slice a1 n1 c1,.slice a2 n2 c2,.bool U,.slice ra rn rc] 30)).alloc (.cells #[.int .i64 K,.int .i64 S,.int .i64 N,.slice ea en eC] 33)) [.slice none 0 0,.slice none 0 0,.slice none 0 0,.bool false,.slice none 0 0] 30 (w.heap.size+1+1) (by simp)
 have bel:=pC w (.cells #[.slice sa sn sG,.slice a1 n1 c1,.slice a2 n2 c2,.bool U,.slice ra rn rc] 30) (.cells #[.int .i64 K,.int .i64 S,.int .i64 N,.slice ea en eC] 33) (.cells #[.slice none 0 0,.slice none 0 0,.slice none 0 0,.bool false,.slice none 0 0] 30)
 replace I:=hide (I.keep bel (Nat.le_refl _))
 replace s3:=s3.keep bel (Nat.le_refl _)
 have gl:=hg.call bel
 obtain⟨gR,kG⟩:∃gR,gR=w.heap.size+1+1:=⟨_,rfl⟩
 rw[<-kG] at BR
 have mU:w.heap.size<=gR:=by omega
 go_enter Tryz.func8,Tryz.ntmps8
 go_upto_region 1 with fail
 rw[<-kG]
 generalize World.alloc (World.alloc (World.alloc w _) _) _=w1 at*
 clear kG
 have x0:=BX.cell 0
 have x1:=BX.cell 1
 have x2:=BX.cell 2
 have x3:=BX.cell 3
 have x4:=BX.cell 4
 have xl:=BX.lt
 go_wp2_with fail
 go_at_call 32
 refine(c _ gl I.out).mono ?_
 rintro e w2 ⟨h',⟨sb,sm,sH,b1,m1,k1,b2,m2,k2,rb,rm,rk⟩,ys,he,V,hh,bb⟩
 simp only at he
 subst he
 clear c x0 x1 x2 x3 x4 xl BX I
 have HF:=BR.lt
 have LH:=bb.size
 have WB:=V.box
 simp only[Pw.cells,<-hU.out] at WB
 have bq:=newB bb (.cells #[.slice sb sm sH,.slice b1 m1 k1,.slice b2 m2 k2,.bool U,.slice rb rm rk] 30)
 replace BY:=BY.keep bq BY.lt
 replace BR:=BR.keep bq BR.lt
 replace s3:=s3.call bq
 replace gl:=gl.call bq
 have lg:gR<w2.heap.size:=Nat.lt_of_lt_of_le HF LH
 replace bel:=aa bel bq
 have lh:gR<h':=by omega
 clear bq bb V hh HF LH
 go_upto_region 4 with fail
 generalize w2.heap.size=g at*
 generalize World.alloc w2 _=w3 at*
 have y0:=BY.cell 0
 have y1:=BY.cell 1
 have y2:=BY.cell 2
 have y3:=BY.cell 3
 have yl:=BY.lt
 have NX:=cH w3 g h' _ ys WB gl s3
 replace WB:=hide WB
 go_wp2_with fail
 go_at_call 33
 refine NX.mono ?_
 rintro e w4 ⟨rfl,h2,⟨uV,uA,uz,d1,o1,e1,d2,o2,e2,us,uv,uY⟩,Pj,mA,gr,MR⟩
 clear y0 y1 y2 y3 yl cH NX WB
 replace BR:=BR.gb2 gr (by omega) (by omega)
 have aC:Below w.heap.size w w4:=bel.trans (gr.from (by omega) (by omega) bel.size)
 replace bel:=aC
 clear aC BY gl s3 gr MR
 have DC:¬g=gR:=by omega
 have Ef:¬gR=g:=by omega
 clear lg lh h
 by_cases hz:HE=0
 .subst hz
  rw[if_pos rfl] at mA
  have WV:=uN.out rfl
  have pz:=mA.blk
  simp only[Pw.cells] at pz
  obtain⟨ZU,wY⟩:∃U,U=Z.up:=⟨_,rfl⟩
  rw[<-wY] at pz
  have r0:=BR.cell 0
  have r1:=BR.cell 1
  have r2:=BR.cell 2
  have r3:=BR.cell 3
  have r4:=BR.cell 4
  have f0:=BR.free 0
  have f1:=BR.free 1
  have f2:=BR.free 2
  have f3:=BR.free 3
  have f4:=BR.free 4
  have rl:=BR.lt
  have g0:=pz.cell 0
  have g1:=pz.cell 1
  have g2:=pz.cell 2
  have g3:=pz.cell 3
  have g4:=pz.cell 4
  have gl:=pz.lt
  replace BR:=hide BR
  replace bel:=hide bel
  replace mA:=hide mA
  replace wY:=hide wY
  clear pz uN WV Dt
  go_wp2_with fail
  have B9:=qq BR.out (.slice uV uA uz) (.slice d1 o1 e1) (.slice d2 o2 e2) (.bool ZU) (.slice us uv uY)
  have aq:=jW bel.out mU (.slice uV uA uz) (.slice d1 o1 e1) (.slice d2 o2 e2) (.bool ZU) (.slice us uv uY)
  have PM:=ak (ak (ak (ak (ak (au w4 (some (gR))) 0 (.slice uV uA uz)) 1 (.slice d1 o1 e1)) 2 (.slice d2 o2 e2)) 3 (.bool ZU)) 4 (.slice us uv uY)
  have W9:=hide (iG.wrote (Q:=fun _=>False) (W':=((((w4.setCell ⟨gR,0,none⟩ (.slice uV uA uz)).setCell ⟨gR,1,none⟩ (.slice d1 o1 e1)).setCell ⟨gR,2,none⟩ (.slice d2 o2 e2)).setCell ⟨gR,3,none⟩ (.bool ZU)).setCell ⟨gR,4,none⟩ (.slice us uv uY)) BR.out PM (by rw[<-wY.out];exact B9) mA.out.is mA.out.so mA.out.right mA.out.ra mA.out.rb mA.out.ry mA.out.rm).is
  have i0:=B9.cell 0
  have i1:=B9.cell 1
  have i2:=B9.cell 2
  have i3:=B9.cell 3
  have i4:=B9.cell 4
  exact bodyPost_ret (v:=.tuple #[.agg #[.slice uV uA uz,.slice d1 o1 e1,.slice d2 o2 e2,.bool ZU,.slice us uv uY],.int .i64 0]) (by simp[results,Tryz.results8,go_sem,i0,i1,i2,i3,i4]) rfl ⟨⟨uV,uA,uz,d1,o1,e1,d2,o2,e2,us,uv,uY⟩,by rw[<-wY.out];rfl,W9.out,aq⟩
 .have vE:decide (HE=0)=false:=decide_eq_false hz
  have Yi:Hid (Z=NS):=hide (Dt.out hz)
  clear mA uN Dt
  have r0:=BR.cell 0
  have r1:=BR.cell 1
  have r2:=BR.cell 2
  have r3:=BR.cell 3
  have r4:=BR.cell 4
  have f0:=BR.free 0
  have f1:=BR.free 1
  have f2:=BR.free 2
  have f3:=BR.free 3
  have f4:=BR.free 4
  have rl:=BR.lt
  replace BR:=hide BR
  replace bel:=hide bel
  go_wp2_with fail
  have B9:=qq BR.out (.slice none 0 0) (.slice none 0 0) (.slice none 0 0) (.bool false) (.slice none 0 0)
  have aq:=jW bel.out mU (.slice none 0 0) (.slice none 0 0) (.slice none 0 0) (.bool false) (.slice none 0 0)
  have i0:=B9.cell 0
  have i1:=B9.cell 1
  have i2:=B9.cell 2
  have i3:=B9.cell 3
  have i4:=B9.cell 4
  rw[Yi.out]
  exact bodyPost_ret (v:=.tuple #[.agg #[.slice none 0 0,.slice none 0 0,.slice none 0 0,.bool false,.slice none 0 0],.int .i64 HE]) (by simp[results,Tryz.results8,go_sem,i0,i1,i2,i3,i4]) rfl ⟨Sh,rfl,ej.nil _,aq⟩
end Go.Proofs.YtoonnbhoiocoeaaGreatDoor
namespace Go.Proofs.YtoonnbhoiocoeaaGreatDoor
open Go.RowKit
end Go.Proofs.YtoonnbhoiocoeaaGreatDoor
namespace Go.Proofs.YtoonnbhoiocoeaaGreatDoor
open Go.RowKit
open Go.Lib (byteCells)
end Go.Proofs.YtoonnbhoiocoeaaGreatDoor
namespace Go.Proofs.YtoonnbhoiocoeaaGreatDoor
open Go.RowKit
theorem Ps (k n:Int)(w:World)(hn:1<=n)(O0:n<=1152921504606846976):
  Calls Tryz.prog 28 #[.int .i64 k,.int .i64 n] w fun e w'=>e=.returned (.int .i64 (k % n))/\w=w':=by
 go_enter Tryz.func28,Tryz.ntmps28
 go_wp2
 .have h:k.tmod n<0:=by assumption
  go_ret
  have e:=Jb hn h
  have b1:=Int.emod_nonneg k (show n≠0 by omega)
  have b2:=Int.emod_lt_of_pos k (show 0<n by omega)
  exact⟨ij (by rw[e];unfold wrap64;omega),rfl⟩
 .have h:0<=k.tmod n:=by assumption
  go_ret
  exact⟨ij (MF hn h),rfl⟩
end Go.Proofs.YtoonnbhoiocoeaaGreatDoor
namespace Go.Proofs.YtoonnbhoiocoeaaGreatDoor
open Go.RowKit
open Go.Lib (byteCells)
theorem kz {w:World}{base n:Nat}{a:Option Addr}{G:Nat}{l:List Pt}(o:w.ownsRow base 56 2 (.slice a n G) n (am l)):aI w a G l:=by
 obtain⟨a3,G3,e3,s3,_,_⟩:=aI.ofOwn o
 simp only[Value.slice.injEq,true_and] at e3
 obtain⟨rfl,rfl⟩:=e3
 exact s3
theorem Rz {a1 a2:Option Addr}{c1 c2 n m:Nat}{l:List Pt}{w:World}(hl:l.length<=4611686018427387904)(r1:aI w a1 c1 l)(r2:aI w a2 c2 l)(hn:Hid (n=l.length))(hm:Hid (m=l.length)):
  Calls Tryz.prog 21 #[.slice a1 n c1,.slice a2 m c2] w fun e w'=>e=.returned (.bool true)/\Below w.heap.size w w':=by
 obtain rfl:=hn.out
 obtain rfl:=hm.out
 refine(oG a1 a2 c1 c2 l l w r1 r2 hl hl).mono ?_
 rintro e w' ⟨rfl,q,rfl⟩
 exact⟨by simp,bj (Below.refl _ _) q⟩
end Go.Proofs.YtoonnbhoiocoeaaGreatDoor
namespace Go.Proofs.YtoonnbhoiocoeaaGreatDoor
open Go.RowKit
def Fm:Value->Nat
 | .bool true=>1
 |_=>0
def pd (c:List Nat):List Int:=c.map fun(x:Nat)=>(x:Int)
theorem xq (c:List Nat):(pd c).length=c.length:=by simp[pd]
theorem DK (c:List Nat)(j:Nat):(pd c).getD j 0=((c.getD j 0:Nat):Int):=by
 unfold pd
 by_cases h:j<c.length
 .simp[List.getD,h]
 .simp[List.getD,h]
theorem GT (f m:Nat)(h:0<f):∃g,f=g+1/\lF f m=m % 8::(if m / 8=0 then [] else lF g (m / 8)):=by
 cases f with
 |zero=>omega
 |succ g=>exact⟨g,rfl,rfl⟩
theorem Oc (m:Bool)(d:Nat):[Value.bool m,.bool (decide ((4:Int)<=(d:Int))),.bool (decide ((2:Int)<=(d:Int) % 4)),.bool ((d:Int) % 2==1)]=(lk m d).map Value.bool:=by
 have h1:decide ((4:Int)<=(d:Int))=decide (4<=d):=by
  by_cases h:4<=d
  .rw[decide_eq_true h,decide_eq_true (by omega)]
  .rw[decide_eq_false h,decide_eq_false (by omega)]
 have h2:decide ((2:Int)<=(d:Int) % 4)=decide (2<=d % 4):=by
  by_cases h:2<=d % 4
  .rw[decide_eq_true h,decide_eq_true (by omega)]
  .rw[decide_eq_false h,decide_eq_false (by omega)]
 have h3:((d:Int) % 2==1)=decide (d % 2=1):=by
  by_cases h:d % 2=1
  .rw[decide_eq_true h];simp;omega
  .rw[decide_eq_false h];simp;omega
 rw[h1,h2,h3]
 rfl
theorem JR (ao:Option Addr)(cap:Nat)(l:List Bool)(v:Int)(w:World)(hr:Sl w ao cap (l.map Value.bool))(hl:l.length<=140737488355160)(h:iM v=true):
  Calls Tryz.prog 197 #[.slice ao l.length cap,.int .i64 v] w fun e w'=>
   ∃a' G,e=.returned (.tuple #[.slice a' (l++code 8 (bd v)).length G,.int .i64 0])/\Sl w' a' G ((l++code 8 (bd v)).map Value.bool)/\Below w.heap.size w w':=by
 have pM:decide (-4000000<=v/\v<=4000000)=true:=h
 have hv:=of_decide_eq_true pM
 have h1:=hv.1
 have h2:=hv.2
 have Bj:=uD v h
 have HN:Hid ((v<0/\2*-v-1=(bd v:Int))\/(¬v<0/\2*v=(bd v:Int))):=by
  by_cases hn:v<0
  .exact .inl ⟨hn,by unfold bd;rw[if_pos hn];omega⟩
  .exact .inr ⟨hn,by unfold bd;rw[if_neg hn];omega⟩
 rw[<-AB 8 (bd v) (by omega) (by decide)]
 clear hv h
 generalize bd v=N at*
 have RO:=tZ 8 N
 have zM:=zW 8 N (by decide)
 have VL:=EQ 8 N
 obtain⟨D,hD⟩:∃D,D=lF 8 N:=⟨_,rfl⟩
 rw[<-hD] at RO VL zM⊢
 have HD:=hide hD
 clear hD
 obtain⟨i1,ma,Pm,I',Ya⟩:=info_parts Le
 obtain⟨i0,hi,bU,bi,bk⟩:=info_parts oz
 by_cases hsg:v<0
 all_goals(
  go_enter Tryz.func197,Tryz.ntmps197
  go_wp2_with (go_at_call 36;refine(cm _ _ _ _).mono ?_;rintro e w' ⟨rfl,rfl⟩;rw[pM])
  go_loopw [6,7,8] (fun n d b wr=>∃(f m:Nat) (c:List Nat) (q:Bool),m<8 ^ f/\m<=8000000/\n=.int .i64 m/\b=.bool q/\wr.ownsRow w.heap.size 3 1 d c.length ((pd c).map (Value.int .i64))/\Below w.heap.size w wr/\Hid ((q=true->f=8/\c=[]/\m=N)/\(q=false->c++(if m=0 then [] else lF f m)=D))) (fun n _ b _=>2*(intOf n).toNat+Fm b)
  case atStart=>exact⟨8,N,[],true,by omega,Bj,congrArg (Value.int .i64) (by have:=HN.out;omega),rfl,⟨rfl,.inl ⟨rfl,rfl⟩⟩,Below.refl _ _,fun _=>⟨rfl,rfl,rfl⟩,fun h=>by cases h⟩
  case round=>
   obtain⟨f,m,c,q,LP,mS,rfl,rfl,own,bel,HQ⟩:=hrel
   by_cases hgo:q=true\/0<m
   .have hf:0<f:=by
     rcases hgo with hq|hq
     .have:=(HQ.out.1 hq).1;omega
     .cases f with
      |zero=>simp at LP;omega
      |succ f=>omega
    have jh:c++lF f m=D:=by
     cases q with
     |true=>
      obtain⟨q1,q2,q3⟩:=HQ.out.1 rfl
      rw[q1,q2,q3,HD.out];rfl
     |false=>
      have h0:0<m:=by simpa using hgo
      have:=HQ.out.2 rfl
      rw[if_neg (by omega)] at this
      exact this
    obtain⟨g,rfl,hg⟩:=GT f m hf
    have Y6:c.length<=8:=by rw[<-jh] at RO;rw[List.length_append] at RO;omega
    rw[hg,List.append_cons] at jh
    have HC:=hide jh
    clear jh hg HQ hf
    have VG:m / 8<8 ^ g:=by
     rw[Nat.pow_succ] at LP
     exact Nat.div_lt_of_lt_mul (by rw[Nat.mul_comm];exact LP)
    have HM:=hide VG
    clear LP VG
    obtain⟨a7,c7,rfl,t7,n7⟩:=pH own
    have sj:=bel.size
    have KV:q=true\/(q=false/\(0:Int)<(m:Int)):=by
     cases q with
     |true=>exact .inl rfl
     |false=>exact .inr ⟨rfl,by have:0<m:=(by simpa using hgo);omega⟩
    have Rf:2*(m / 8)<2*m+(if q=true then 1 else 0):=by
     rcases KV with rfl| ⟨rfl,h0⟩
     .simp;omega
     .simp;omega
    clear hgo
    rcases KV with rfl| ⟨rfl,h0⟩
    all_goals(
     go_wp2_with (at_builtin;refine aW _ rfl (.tmp 28) (.tmp 31) 28 rfl w.heap.size 3 i1 (.int .i64 0) 1 8 Tryz.underlying28 ma Pm I' Ya rfl (by decide) _ c.length _ rfl own 1 _ _ rfl rfl (by simp[Value.oneCell']) (by decide) (by unfold maxLen;omega) (by omega) sj ?_)
     intro v' w1 eB cY Ch
     have aU:=aH bel own cY (Nat.le_refl _) sj
     have eM:w1.ownsRow w.heap.size 3 1 v' (c++[m % 8]).length ((pd (c++[m % 8])).map (Value.int .i64)):=by
      rw[List.length_append]
      simpa[pd] using eB
     clear eB own cY Ch bel t7 n7 sj
     obtain⟨a8,c8,rfl,t8,n8⟩:=pH eM
     go_wp2_with fail
     go_roundw
     case rel=>first
      |exact⟨g,m / 8,c++[m % 8],false,HM.out,by omega,by go_num,rfl,eM,aU,hide ⟨fun h=>absurd h (by decide),fun _=>HC.out⟩⟩
      |exact⟨_,_,_,_,_,_,_,_,_,_,_,_,_,_,_,⟨g,m / 8,c++[m % 8],false,HM.out,by omega,by go_num,rfl,eM,aU,hide ⟨fun h=>absurd h (by decide),fun _=>HC.out⟩⟩,rfl⟩
     case measure=>simp[intOf,Fm] at Rf⊢;omega)
   .have hq:q=false:=by
     cases q with
     |true=>exact absurd (.inl rfl) hgo
     |false=>rfl
    subst hq
    obtain rfl:m=0:=by
     have:¬0<m:=fun h=>hgo (.inr h)
     omega
    have hc:=HQ.out.2 rfl
    rw[if_pos rfl,List.append_nil] at hc
    subst hc
    clear HQ hgo LP mS
    rename World=>w2
    obtain⟨a7,c7,rfl,t7,n7⟩:=pH own
    have vS:=hr.keep bel (Nat.le_refl _)
    obtain⟨b7,o7,rfl,hb7,_⟩:=t7.row.at (by intro e;rw[e] at n7;simp at n7;omega)
    clear own n7 hr
    go_wp2_with (go_at_call 226;refine(FT ao cap l w2 vS (by omega)).mono ?_;rintro e w1 ⟨v1,rfl,eB,aU⟩)
    clear vS
    go_loopw [9,39] (fun o i wl=>∃(j:Nat) (X:List Bool),j<=c.length/\X.length=l.length+4*j/\i=.int .i64 j/\wl.ownsRow w2.heap.size 4 1 o X.length (X.map Value.bool)/\Below w2.heap.size w2 wl/\Hid (X++enc (c.drop j)=l++enc c)) (fun _ i _=>c.length-(intOf i).toNat)
    case atStart=>exact⟨0,l,Nat.zero_le _,by omega,rfl,eB,aU,rfl⟩
    case round=>
     clear eB aU
     obtain⟨j,X,hj,hX,rfl,tz,ef,HX⟩:=hrel
     obtain⟨a9,c9,rfl,t9,n9⟩:=pH tz
     have hXb:X.length<=l.length+32:=by omega
     have HL:=hide hX
     clear hX n9
     by_cases az:j<c.length
     .have hc:=(t7.keep ef (Nat.le_refl _)).int j (by rw[xq];exact az)
      rw[DK] at hc
      have hdd:c.getD j 0<8:=VL _ (by rw[List.getD_eq_getElem?_getD,List.getElem?_eq_getElem az];exact List.getElem_mem az)
      have Cd:c.drop j=c.getD j 0::c.drop (j+1):=by
       rw[List.drop_eq_getElem_cons az,List.getD_eq_getElem?_getD,List.getElem?_eq_getElem az];rfl
      have PX:=HX.out
      rw[Cd,enc,<-List.append_assoc] at PX
      have M9:decide (0<(c.drop (j+1)).length)=decide ((j:Int)<(c.length:Int)-1):=by
       rw[List.length_drop]
       by_cases h:0<c.length-(j+1)
       .rw[decide_eq_true h,decide_eq_true (by omega)]
       .rw[decide_eq_false h,decide_eq_false (by omega)]
      rw[M9] at PX
      have HY:=hide PX
      clear HX PX Cd M9
      generalize c.getD j 0=d at*
      have sj:=ef.size
      have ID:(j:Int)<(c.length:Int):=by omega
      go_wp2_with (at_builtin;refine aW _ rfl (.tmp 44) (.tmp 58) 105 rfl w2.heap.size 4 i0 (.bool false) 1 1 Tryz.underlying105 hi bU bi bk rfl (by decide) _ X.length _ rfl tz 4 _ _ rfl rfl (by simp[Value.oneCell']) (by decide) (by unfold maxLen;omega) (by omega) sj ?_)
      intro v' w3 eN ji Tn
      have ay:=aH ef tz ji (Nat.le_refl _) sj
      have jI:w3.ownsRow w2.heap.size 4 1 v' (X++lk (decide ((j:Int)<(c.length:Int)-1)) d).length ((X++lk (decide ((j:Int)<(c.length:Int)-1)) d).map Value.bool):=by
       rw[List.map_append,<-Oc,List.length_append,fT]
       exact eN
      have Rr:Hid ((X++lk (decide ((j:Int)<(c.length:Int)-1)) d).length=l.length+4*(j+1)):=by
       show _=_
       have:=HL.out
       rw[List.length_append,fT];omega
      generalize X++lk (decide ((j:Int)<(c.length:Int)-1)) d=Y at*
      clear eN ji Tn tz ef t9 hc HL
      obtain⟨a10,c10,rfl,t10,n10⟩:=pH jI
      clear n10
      go_wp2_with fail
      go_roundw
      case rel=>exact⟨j+1,Y,by omega,Rr.out,by go_num,jI,ay,HY⟩
      case measure=>simp[intOf];omega
     .obtain rfl:j=c.length:=by omega
      have hY:=HX.out
      rw[List.drop_length,enc,List.append_nil] at hY
      clear HX HL
      subst hY
      clear t7
      go_wp2_with fail
      go_ret2
      exact⟨a9,c9,by simp,t9,aa bel ef⟩)
theorem Gv (ao:Option Addr)(cap:Nat)(l:List Bool)(v:Int)(w:World)(hr:Sl w ao cap (l.map Value.bool))(hl:l.length<=140737488355160):
  Calls Tryz.prog 197 #[.slice ao l.length cap,.int .i64 v] w fun e w'=>
   ∃a' G,e=.returned (.tuple #[.slice a' (yj l v).length G,.int .i64 (Dg v)])/\Sl w' a' G ((yj l v).map Value.bool)/\Below w.heap.size w w':=by
 cases h:iM v with
 |false=>
  have pM:decide (-4000000<=v/\v<=4000000)=false:=h
  have e1:yj l v=[]:=by simp[yj,h]
  have e2:Dg v=3:=by simp[Dg,h]
  rw[e1,e2]
  clear e1 e2
  go_enter Tryz.func197,Tryz.ntmps197
  go_wp2_with (go_at_call 36;refine(cm _ _ _ _).mono ?_;rintro e w' ⟨rfl,rfl⟩;rw[pM])
  go_ret2
  exact⟨none,0,rfl,Sl.ofNil _,Below.refl _ _⟩
 |true=>
  refine(JR ao cap l v w hr hl h).mono ?_
  rintro e' w' ⟨a',G,rfl,hs,bel⟩
  exact⟨a',G,by simp[yj,Dg,h],by simpa[yj,h] using hs,bel⟩
end Go.Proofs.YtoonnbhoiocoeaaGreatDoor
