/-
  world.write and world.tear: a record's work, when the record is safe; the power goes in the midst of one.
-/
import Derived.Deep.Cut
import Derived.Deep.CutRange
import Derived.Lib.MinMax
import Derived.Test.YtoonnbhoiocoeaaGreatDoorP26
set_option maxHeartbeats 40000000
set_option maxRecDepth 100000
set_option linter.unusedVariables false
namespace Go.Proofs.YtoonnbhoiocoeaaGreatDoor
open Go.RowKit
open Go.Lib (byteCells)
def iO (base:Nat)(x:Wd)(r:Rc)(a':Option Addr)(n' G':Nat)(b1:Option Addr)(m1 k1:Nat)(b2:Option Addr)(m2 k2:Nat)(w':World):Prop:=
 iA x r=0->n'=4/\fa base w' a' G' (dW x.c r)/\m1=(dj x.d r).safe.length/\m2=(dj x.d r).wait.length/\Sl w' b1 k1 (byteCells (dj x.d r).safe)/\Sl w' b2 k2 (byteCells (dj x.d r).wait)
theorem qt {x:Wd}{r:Rc}(h:iA x r=0):cd x.c r=0/\fq x.d r=0:=by
 unfold iA at h
 by_cases h1:cd x.c r=0
 .rw[if_neg (by simp[h1])] at h
  exact⟨h1,h⟩
 .rw[if_pos h1] at h
  exact absurd h h1
section
variable {base:Nat} {x:Wd} {r:Rc} {a':Option Addr} {n' G':Nat} {b1:Option Addr} {m1 k1:Nat} {b2:Option Addr} {m2 k2:Nat} {w':World}
theorem iO.call {w2:World}(h:iO base x r a' n' G' b1 m1 k1 b2 m2 k2 w')(hb:Below w'.heap.size w' w2):iO base x r a' n' G' b1 m1 k1 b2 m2 k2 w2:=fun e=>
 have q:=h e
 ⟨q.1,q.2.1.call hb,q.2.2.1,q.2.2.2.1,q.2.2.2.2.1.call hb,q.2.2.2.2.2.call hb⟩
theorem iO.alloc (h:iO base x r a' n' G' b1 m1 k1 b2 m2 k2 w')(o:Obj):iO base x r a' n' G' b1 m1 k1 b2 m2 k2 (w'.alloc o):=
 h.call ((Below.refl _ _).alloc (Nat.le_refl _) o)
theorem iO.down {base':Nat}(h:iO base x r a' n' G' b1 m1 k1 b2 m2 k2 w')(hb:base'<=base):iO base' x r a' n' G' b1 m1 k1 b2 m2 k2 w':=fun e=>
 have q:=h e
 ⟨q.1,q.2.1.down hb,q.2.2⟩
theorem iO.setS {g:Nat}{q1:Option Addr}{q2 q3:Nat}(h:iO base x r a' n' G' b1 m1 k1 b2 m2 k2 w')(B:ac w' g [.slice q1 q2 q3] 24)(u:Value):iO base x r a' n' G' b1 m1 k1 b2 m2 k2 (w'.setCell ⟨g,0,none⟩ u):=fun e=>
 have q:=h e
 have gr:=ak (au w' (some g)) 0 u
 ⟨q.1,q.2.1.boxed B u,q.2.2.1,q.2.2.2.1,dU q.2.2.2.2.1 B (by simp) gr,dU q.2.2.2.2.2 B (by simp) gr⟩
theorem iO.setD {g i:Nat}{q1 q4:Option Addr}{q2 q3 q5 q6:Nat}(h:iO base x r a' n' G' b1 m1 k1 b2 m2 k2 w')(B:ac w' g [.slice q1 q2 q3,.slice q4 q5 q6] 27)(u:Value):iO base x r a' n' G' b1 m1 k1 b2 m2 k2 (w'.setCell ⟨g,i,none⟩ u):=fun e=>
 have q:=h e
 have gr:=ak (au w' (some g)) i u
 ⟨q.1,q.2.1.setD (bL (jH (qt e).1)) B,q.2.2.1,q.2.2.2.1,dU q.2.2.2.2.1 B (by simp) gr,dU q.2.2.2.2.2 B (by simp) gr⟩
def Ig (base:Nat)(v:World)(x:Wd)(r:Rc)(EA:Int)(s5 s6 s7:Value)(wx:World):Prop:=
 ∃(bS bD:Nat) (a':Option Addr) (n' G':Nat) (b1:Option Addr) (m1 k1:Nat) (b2:Option Addr) (m2 k2:Nat),s5=.pointer (some ⟨bS,0,none⟩)/\s6=.pointer (some ⟨bD,0,none⟩)/\s7=.int .i64 EA/\ac wx bS [.slice a' n' G'] 24/\ac wx bD [.slice b1 m1 k1,.slice b2 m2 k2] 27/\Hid (iO base x r a' n' G' b1 m1 k1 b2 m2 k2 wx)/\base<=bS/\base<=bD/\Below base v wx
variable {v:World} {EA:Int}
theorem QF (h:iO base x r a' n' G' b1 m1 k1 b2 m2 k2 w')(hb:Below base v w')(hs:base<=w'.heap.size):
  Ig base v x r EA (.pointer (some ⟨w'.heap.size,0,none⟩)) (.pointer (some ⟨w'.heap.size+1,0,none⟩)) (.int .i64 EA) ((w'.alloc (.cells #[.slice a' n' G'] 24)).alloc (.cells #[.slice b1 m1 k1,.slice b2 m2 k2] 27)):=
 ⟨_,_,a',n',G',b1,m1,k1,b2,m2,k2,rfl,rfl,rfl,(ac.laid w' [.slice a' n' G'] _ _ rfl).alc _,ac.laid (w'.alloc _) [.slice b1 m1 k1,.slice b2 m2 k2] _ _ (by simp),hide ((h.alloc _).alloc _),hs,by omega,(hb.alloc hs _).alloc (by simp;omega) _⟩
theorem Qw (h:iO base x r a' n' G' b1 m1 k1 b2 m2 k2 w')(hb:Below base v w')(hs:base<=w'.heap.size):
  Ig base v x r EA (.pointer (some ⟨w'.heap.size+1,0,none⟩)) (.pointer (some ⟨w'.heap.size,0,none⟩)) (.int .i64 EA) ((w'.alloc (.cells #[.slice b1 m1 k1,.slice b2 m2 k2] 27)).alloc (.cells #[.slice a' n' G'] 24)):=
 ⟨_,_,a',n',G',b1,m1,k1,b2,m2,k2,rfl,rfl,rfl,ac.laid (w'.alloc _) [.slice a' n' G'] _ _ (by simp),(ac.laid w' [.slice b1 m1 k1,.slice b2 m2 k2] _ _ rfl).alc _,hide ((h.alloc _).alloc _),by omega,hs,(hb.alloc hs _).alloc (by simp;omega) _⟩
theorem QI {q:Nat}(h:iO base x r a' n' G' b1 m1 k1 b2 m2 k2 w')(hb:Below base v w')(hs:base<=w'.heap.size)(R:ac w' q [.slice none 0 0] 24)(hq:base<=q):
  Ig base v x r EA (.pointer (some ⟨q,0,none⟩)) (.pointer (some ⟨w'.heap.size,0,none⟩)) (.int .i64 EA) ((w'.setCell ⟨q,0,none⟩ (.slice a' n' G')).alloc (.cells #[.slice b1 m1 k1,.slice b2 m2 k2] 27)):=
 ⟨_,_,a',n',G',b1,m1,k1,b2,m2,k2,rfl,rfl,rfl,(R.set 0 _).alc _,ac.laid _ [.slice b1 m1 k1,.slice b2 m2 k2] _ _ (by simp),hide ((h.setS R _).alloc _),hq,hs,(hb.setCell (p:=⟨q,0,none⟩) hq _).alloc (by simpa using hs) _⟩
theorem It {q q':Nat}(h:iO base x r a' n' G' b1 m1 k1 b2 m2 k2 w')(hb:Below base v w')(R:ac w' q [.slice none 0 0] 24)(R':ac w' q' [.slice none 0 0,.slice none 0 0] 27)(hq:base<=q)(i7:base<=q')(aF:q≠q'):
  Ig base v x r EA (.pointer (some ⟨q,0,none⟩)) (.pointer (some ⟨q',0,none⟩)) (.int .i64 EA) (((w'.setCell ⟨q,0,none⟩ (.slice a' n' G')).setCell ⟨q',0,none⟩ (.slice b1 m1 k1)).setCell ⟨q',1,none⟩ (.slice b2 m2 k2)):=
 have R2:=R'.other 0 (.slice a' n' G') aF
 ⟨_,_,a',n',G',b1,m1,k1,b2,m2,k2,rfl,rfl,rfl,((R.set 0 (.slice a' n' G')).other 0 _ aF.symm).other 1 _ aF.symm,jl R2 _ _,hide (((h.setS R (.slice a' n' G')).setD R2 (i:=0) (.slice b1 m1 k1)).setD (R2.set 0 (.slice b1 m1 k1)) (i:=1) _),hq,i7,d8 (hb.setCell (p:=⟨q,0,none⟩) hq _) i7 _ _⟩
theorem Qm {q:Nat}(h:iO base x r a' n' G' b1 m1 k1 b2 m2 k2 w')(hb:Below base v w')(hs:base<=w'.heap.size)(R:ac w' q [.slice none 0 0,.slice none 0 0] 27)(hq:base<=q):
  Ig base v x r EA (.pointer (some ⟨w'.heap.size,0,none⟩)) (.pointer (some ⟨q,0,none⟩)) (.int .i64 EA) (((w'.setCell ⟨q,0,none⟩ (.slice b1 m1 k1)).setCell ⟨q,1,none⟩ (.slice b2 m2 k2)).alloc (.cells #[.slice a' n' G'] 24)):=
 ⟨_,_,a',n',G',b1,m1,k1,b2,m2,k2,rfl,rfl,rfl,ac.laid _ [.slice a' n' G'] _ _ (by simp),(jl R _ _).alc _,hide (((h.setD R (i:=0) (.slice b1 m1 k1)).setD (R.set 0 (.slice b1 m1 k1)) (i:=1) _).alloc _),hs,hq,(d8 hb hq _ _).alloc (by simpa using hs) _⟩
end
theorem JN {x:Wd}{y:Hp}(hk:1<=y.k/\y.k<=4)(h:ci x y=0):dr x y=⟨dW x.c (aO y),lu (dj x.d (aO y)),x.up,x.rd⟩:=by
 unfold dr
 rw[if_neg (by simp[h]),if_neg (by omega),if_neg (by omega),if_neg (by omega),if_neg (by omega),if_neg (by omega)]
theorem xP {x:Wd}{y:Hp}(hk:(1<=y.k/\y.k<=4)\/y.k=9)(hu:x.up=true):ci x y=if iA x (aO y)≠0 then iA x (aO y) else if y.k=9 then 0 else jX (dj x.d (aO y)):=by
 rw[Ey hk hu]
 unfold iA
 by_cases h1:cd x.c (aO y)=0
 .simp only[h1,ne_eq,not_true_eq_false,if_false]
 .simp[h1]
theorem Er {Q:Nat->Prop}(y:Hp)(hk:1<=y.k/\y.k<=4)(g h:Nat)(p:Pw)(ys:List Int)(x:Wd)(W:World)(B:iG Q W g h p ys x)(hQ:∀q,Q q->q<W.heap.size)(hu:x.up=true)(hg:Gl W)(ea:Option Addr)(en eC:Nat)(s3:aY ec W ea eC (aO y).e)(h3:Hid (en=(aO y).e.length)):
  Calls Tryz.prog 74 #[.pointer (some ⟨g,0,none⟩),.agg #[.int .i64 (aO y).k,.int .i64 (aO y).s,.int .i64 (aO y).n,.slice ea en eC]] W (nO Q g h W (ci x y) (if ci x y=0 then dr x y else x)):=by
 have hE:=hide (xP (.inl hk) hu)
 have hM:=hide (fun e:ci x y=0=>JN hk e)
 have uN:=hide (fun e:ci x y=0=>sc B.right e)
 have QO:=hide (show¬y.k=9 by omega)
 replace hQ:=hide hQ
 obtain⟨Z,hZ⟩:∃Z,Z=(if ci x y=0 then dr x y else x):=⟨_,rfl⟩
 rw[<-hZ]
 obtain⟨HE,eK⟩:∃HE,HE=ci x y:=⟨_,rfl⟩
 rw[<-eK]
 replace hZ:=hide hZ
 replace eK:=hide eK
 obtain⟨r,hr⟩:∃r,r=aO y:=⟨_,rfl⟩
 rw[<-hr] at s3 h3⊢
 replace hE:=hE.out
 replace hM:=hM.out
 rw[<-hr] at hE hM
 rw[if_neg QO.out] at hE
 replace hE:=hide hE
 replace hM:=hide hM
 replace uN:=uN.out
 have cA:=fun V gl I s=>xV x r p ea en eC V gl I B.right s h3
 obtain⟨C,D,up,rd⟩:=x
 simp only at hu
 subst hu
 replace uN:=hide uN
 obtain⟨sa,sn,sG,a1,n1,c1,a2,n2,c2,ra,rn,rc⟩:=p
 simp only[Pw.val] at cA
 have BQ:=ac.laid W [.int .i64 r.k,.int .i64 r.s,.int .i64 r.n,.slice ea en eC] 73 _ rfl
 have bel:=newB (Below.refl W.heap.size W) (.cells #[.int .i64 r.k,.int .i64 r.s,.int .i64 r.n,.slice ea en eC] 73)
 replace B:=B.call bel
 replace s3:=s3.call bel
 have gl:=hg.call bel
 obtain⟨K,S,N,L⟩:=r
 replace hr:=hide hr
 go_enter Tryz.func74,Tryz.ntmps74
 go_upto_region 1 with fail
 generalize hv:World.alloc W _=v at*
 have x0:v.cell? ⟨g,0,none⟩=some (.slice sa sn sG):=B.blk.cell 0
 have x1:v.cell? ⟨g,1,none⟩=some (.slice a1 n1 c1):=B.blk.cell 1
 have x2:v.cell? ⟨g,2,none⟩=some (.slice a2 n2 c2):=B.blk.cell 2
 have x3:v.cell? ⟨g,3,none⟩=some (.bool true):=B.blk.cell 3
 have x4:v.cell? ⟨g,4,none⟩=some (.slice ra rn rc):=B.blk.cell 4
 have z0:v.cell? ⟨W.heap.size,0,none⟩=some (.int .i64 K):=BQ.cell 0
 have z1:v.cell? ⟨W.heap.size,1,none⟩=some (.int .i64 S):=BQ.cell 1
 have z2:v.cell? ⟨W.heap.size,2,none⟩=some (.int .i64 N):=BQ.cell 2
 have z3:v.cell? ⟨W.heap.size,3,none⟩=some (.slice ea en eC):=BQ.cell 3
 have cells:∀V,Below v.heap.size v V->V.cell? ⟨g,0,none⟩=some (.slice sa sn sG)/\V.cell? ⟨g,1,none⟩=some (.slice a1 n1 c1)/\V.cell? ⟨g,2,none⟩=some (.slice a2 n2 c2)/\V.cell? ⟨g,3,none⟩=some (.bool true)/\V.cell? ⟨g,4,none⟩=some (.slice ra rn rc)/\V.cell? ⟨W.heap.size,0,none⟩=some (.int .i64 K)/\V.cell? ⟨W.heap.size,1,none⟩=some (.int .i64 S)/\V.cell? ⟨W.heap.size,2,none⟩=some (.int .i64 N)/\V.cell? ⟨W.heap.size,3,none⟩=some (.slice ea en eC):=fun V hV=>
  ⟨(B.call hV).blk.cell 0,(B.call hV).blk.cell 1,(B.call hV).blk.cell 2,(B.call hV).blk.cell 3,(B.call hV).blk.cell 4,(BQ.keep hV BQ.lt).cell 0,(BQ.keep hV BQ.lt).cell 1,(BQ.keep hV BQ.lt).cell 2,(BQ.keep hV BQ.lt).cell 3⟩
 have kA:∀V,Below v.heap.size v V->Calls Tryz.prog 107 #[.agg #[.slice sa sn sG,.slice a1 n1 c1,.slice a2 n2 c2,.bool true,.slice ra rn rc],.agg #[.int .i64 K,.int .i64 S,.int .i64 N,.slice ea en eC]] V fun e w'=>∃(a':Option Addr) (n' G':Nat) (b1:Option Addr) (m1 k1:Nat) (b2:Option Addr) (m2 k2:Nat),e=.returned (.tuple #[.agg #[.slice a' n' G'],.agg #[.slice b1 m1 k1,.slice b2 m2 k2],.int .i64 (iA ⟨C,D,true,rd⟩ ⟨K,S,N,L⟩)])/\
   w'.cell? ⟨g,0,none⟩=some (.slice sa sn sG)/\w'.cell? ⟨g,1,none⟩=some (.slice a1 n1 c1)/\w'.cell? ⟨g,2,none⟩=some (.slice a2 n2 c2)/\w'.cell? ⟨g,3,none⟩=some (.bool true)/\w'.cell? ⟨g,4,none⟩=some (.slice ra rn rc)/\w'.cell? ⟨W.heap.size,0,none⟩=some (.int .i64 K)/\w'.cell? ⟨W.heap.size,1,none⟩=some (.int .i64 S)/\w'.cell? ⟨W.heap.size,2,none⟩=some (.int .i64 N)/\w'.cell? ⟨W.heap.size,3,none⟩=some (.slice ea en eC)/\
   Hid (iO V.heap.size ⟨C,D,true,rd⟩ ⟨K,S,N,L⟩ a' n' G' b1 m1 k1 b2 m2 k2 w')/\Below V.heap.size V w'/\Below v.heap.size v w':=by
  intro V hV
  refine(cA V (gl.call hV) (B.call hV).is (s3.call hV)).mono ?_
  rintro e w' ⟨a',n',G',b1,m1,k1,b2,m2,k2,rfl,hA,b⟩
  obtain⟨q0,q1,q2,q3,q4,q5,q6,q7,q8⟩:=cells w' (aa hV b)
  exact⟨a',n',G',b1,m1,k1,b2,m2,k2,rfl,q0,q1,q2,q3,q4,q5,q6,q7,q8,hA,b,aa hV b⟩
 have k0:Below v.heap.size v v.drew:=ai (Below.refl _ _)
 generalize ka:iA ⟨C,D,true,rd⟩ ⟨K,S,N,L⟩=EA at*
 have lg:g<v.heap.size:=B.blk.lt
 have lq:W.heap.size<v.heap.size:=BQ.lt
 have TF:¬g=v.heap.size:=by omega
 have MW:¬v.heap.size=g:=by omega
 have DC:¬W.heap.size=v.heap.size:=by omega
 have L':¬v.heap.size=W.heap.size:=by omega
 have Ef:¬g=v.heap.size+1:=by omega
 have Nf:¬v.heap.size+1=g:=by omega
 have JE:¬W.heap.size=v.heap.size+1:=by omega
 have Mv:¬v.heap.size+1=W.heap.size:=by omega
 have Q2:ac (v.alloc (.cells #[.slice none 0 0] 24)).drew v.heap.size [.slice none 0 0] 24:=ac.laid v [.slice none 0 0] _ _ rfl
 have Q3:ac (v.alloc (.cells #[.slice none 0 0,.slice none 0 0] 27)).drew v.heap.size [.slice none 0 0,.slice none 0 0] 27:=ac.laid v [.slice none 0 0,.slice none 0 0] _ _ rfl
 have Q4:ac ((v.alloc (.cells #[.slice none 0 0] 24)).alloc (.cells #[.slice none 0 0,.slice none 0 0] 27)).drew v.heap.size [.slice none 0 0] 24:=(ac.laid v [.slice none 0 0] _ _ rfl).alc (.cells #[.slice none 0 0,.slice none 0 0] 27)
 have Q4':ac ((v.alloc (.cells #[.slice none 0 0] 24)).alloc (.cells #[.slice none 0 0,.slice none 0 0] 27)).drew (v.heap.size+1) [.slice none 0 0,.slice none 0 0] 27:=ac.laid (v.alloc (.cells #[.slice none 0 0] 24)) [.slice none 0 0,.slice none 0 0] _ _ (by simp)
 have Q5:ac ((v.alloc (.cells #[.slice none 0 0,.slice none 0 0] 27)).alloc (.cells #[.slice none 0 0] 24)).drew v.heap.size [.slice none 0 0,.slice none 0 0] 27:=(ac.laid v [.slice none 0 0,.slice none 0 0] _ _ rfl).alc (.cells #[.slice none 0 0] 24)
 have Q5':ac ((v.alloc (.cells #[.slice none 0 0,.slice none 0 0] 27)).alloc (.cells #[.slice none 0 0] 24)).drew (v.heap.size+1) [.slice none 0 0] 24:=ac.laid (v.alloc (.cells #[.slice none 0 0,.slice none 0 0] 27)) [.slice none 0 0] _ _ (by simp)
 replace ka:=hide ka
 replace hv:=hide hv
 replace B:=hide B
 replace bel:=hide bel
 replace s3:=hide s3
 clear cells cA BQ
 replace gl:=hide gl
 go_cut [5,6,7] from 8 to 16 (fun s5 s6 s7 wx=>Ig v.heap.size v ⟨C,D,true,rd⟩ ⟨K,S,N,L⟩ EA s5 s6 s7 wx)
 case first=>
  go_region_held3 (fun w'=>w'.cell? ⟨g,0,none⟩=some (.slice sa sn sG)/\w'.cell? ⟨g,1,none⟩=some (.slice a1 n1 c1)/\w'.cell? ⟨g,2,none⟩=some (.slice a2 n2 c2)/\w'.cell? ⟨g,3,none⟩=some (.bool true)/\w'.cell? ⟨g,4,none⟩=some (.slice ra rn rc)/\w'.cell? ⟨W.heap.size,0,none⟩=some (.int .i64 K)/\w'.cell? ⟨W.heap.size,1,none⟩=some (.int .i64 S)/\w'.cell? ⟨W.heap.size,2,none⟩=some (.int .i64 N)/\w'.cell? ⟨W.heap.size,3,none⟩=some (.slice ea en eC)) (go_keep)
   (first
    | (go_at_call 107;refine(kA _ (by first|exact k0|exact ai (newB (Below.refl _ _) _)|exact ai (newB (newB (Below.refl _ _) _) _))).mono ?_;rintro e w4 ⟨a',n',G',b1,m1,k1,b2,m2,k2,rfl,q0,q1,q2,q3,q4,q5,q6,q7,q8,hA,b4,zA⟩;have gz:=zA.size;have o0:¬g=w4.heap.size:=by {omega};have o0':¬w4.heap.size=g:=by {omega};have o1:¬W.heap.size=w4.heap.size:=by {omega};have o1':¬w4.heap.size=W.heap.size:=by {omega};have o2:¬g=w4.heap.size+1:=by {omega};have o2':¬w4.heap.size+1=g:=by {omega};have o3:¬W.heap.size=w4.heap.size+1:=by {omega};have o3':¬w4.heap.size+1=W.heap.size:=by {omega};(first| (have R1:=Q2.keep b4 Q2.lt;have c0:=R1.cell 0;have Gh:=R1.free 0;have cl:=R1.lt;have u1:¬v.heap.size=w4.heap.size:=by {omega};have A8:¬w4.heap.size=v.heap.size:=by {omega})| (have R1:=Q3.keep b4 Q3.lt;have c0:=R1.cell 0;have Gh:=R1.free 0;have cl:=R1.lt;have c1:=R1.cell 1;have Q0:=R1.free 1;have u1:¬v.heap.size=w4.heap.size:=by {omega};have A8:¬w4.heap.size=v.heap.size:=by {omega})| (have R1:=Q4.keep b4 Q4.lt;have R2:=Q4'.keep b4 Q4'.lt;have c0:=R1.cell 0;have Gh:=R1.free 0;have cl:=R1.lt;have d0:=R2.cell 0;have Rt:=R2.free 0;have dl:=R2.lt;have d1:=R2.cell 1;have YE:=R2.free 1;have u1:¬v.heap.size=v.heap.size+1:=by {omega};have A8:¬v.heap.size+1=v.heap.size:=by {omega})| (have R1:=Q5.keep b4 Q5.lt;have R2:=Q5'.keep b4 Q5'.lt;have c0:=R1.cell 0;have Gh:=R1.free 0;have cl:=R1.lt;have c1:=R1.cell 1;have Q0:=R1.free 1;have d0:=R2.cell 0;have Rt:=R2.free 0;have dl:=R2.lt;have u1:¬v.heap.size=v.heap.size+1:=by {omega};have A8:¬v.heap.size+1=v.heap.size:=by {omega})|skip)))
  all_goals(
   go_wp2_with fail
   go_meet
   case rel=>
    have j6:=hA.out.down (base':=v.heap.size) (by first|exact Nat.le_refl _|exact(ai (newB (Below.refl v.heap.size v) _)).size|exact(ai (newB (newB (Below.refl v.heap.size v) _) _)).size)
    first
     |exact QF j6 zA zA.size
     |exact Qw j6 zA zA.size
     |exact QI j6 zA zA.size R1 (Nat.le_refl _)
     |exact Qm j6 zA zA.size R1 (Nat.le_refl _)
     |exact It j6 zA R1 R2 (Nat.le_refl _) (Nat.le_succ _) u1
     |exact It j6 zA R2 R1 (Nat.le_succ _) (Nat.le_refl _) A8)
 case rest=>
  obtain⟨bS,bD,a',n',G',b1,m1,k1,b2,m2,k2,rfl,rfl,rfl,BS,BD,hA,lS,lD,hcut⟩:=hcut
  have B0:=hide B.out
  have de:=hide bel.out
  have az:Hid (h<v.heap.size):=hide B.out.rb.lt
  replace B:=B.out.call hcut
  replace bel:=aa bel.out hcut
  replace gl:=gl.out.call hcut
  clear x0 x1 x2 x3 x4 z0 z1 z2 z3 kA k0 Q2 Q3 Q4 Q4' Q5 Q5' TF MW DC L' Ef Nf JE Mv s3
  have kX:=hE.out
  have j5:=eK.out.trans kX
  clear kX
  have kX:=j5
  clear j5
  by_cases hz:EA=0
  .obtain⟨rfl,IN,q1,q2,T1,T2⟩:=hA.out (ka.out.trans hz)
   obtain⟨Kz,zM⟩:=qt (ka.out.trans hz)
   rw[if_neg (fun e=>e hz)] at kX
   subst hz
   simp only at q1 q2 T1 T2 IN Kz zM
   have DO:=wh (oD zM).2.2.2
   have cS:=fun V gl s t=>Jn (dj D ⟨K,S,N,L⟩) b1 b2 k1 k2 m1 m2 V gl s t q1 q2 (by rw[q1,q2];exact Nat.le_trans DO (by decide))
   have h4:=hide (bL (jH Kz))
   replace kX:=hide kX
   replace q1:=hide q1
   replace q2:=hide q2
   clear hA Kz zM DO hE ka
   have d0:=BD.cell 0
   have d1:=BD.cell 1
   have dl:=BD.lt
   go_wp2_with fail
   go_at_call 109
   refine(cS _ gl T1 T2).mono ?_
   rintro e w5 ⟨r1,r2,i1,i2,j1,j2,rfl,ma,vG,t1,t2,b5⟩
   replace ma:=hide ma
   replace vG:=hide vG
   clear d0 d1 dl cS T1 T2 q1 q2 gl
   replace BS:=BS.keep b5 BS.lt
   replace BD:=BD.keep b5 BD.lt
   replace IN:=IN.call b5
   replace hcut:=hcut.trans (b5.mono hcut.size)
   replace B:=B.call b5
   have QP:=h
   clear QP b5
   generalize hSE:jX (dj D ⟨K,S,N,L⟩)=SE at*
   generalize hSD:lu (dj D ⟨K,S,N,L⟩)=SD at*
   have d0:=BD.cell 0
   have d1:=BD.cell 1
   have f0:=BD.free 0
   have f1:=BD.free 1
   have dl:=BD.lt
   have yU:Below v.heap.size v ((w5.setCell ⟨bD,0,none⟩ (.slice r1 i1 j1)).setCell ⟨bD,1,none⟩ (.slice r2 i2 j2)):=d8 hcut lD _ _
   have B9:=B0.out.call yU
   have IX:=(IN.setD h4.out BD (i:=0) (u:=.slice r1 i1 j1)).setD h4.out (BD.set 0 (.slice r1 i1 j1)) (i:=1) (u:=.slice r2 i2 j2)
   have xG:=ak (ak (au w5 (some bD)) 0 (.slice r1 i1 j1)) 1 (.slice r2 i2 j2)
   have T1:=dU t1 BD (by simp) xG
   have T2:=dU t2 BD (by simp) xG
   have D9:=jl BD (.slice r1 i1 j1) (.slice r2 i2 j2)
   have m8:Hid (Below W.heap.size W ((w5.setCell ⟨bD,0,none⟩ (.slice r1 i1 j1)).setCell ⟨bD,1,none⟩ (.slice r2 i2 j2))):=hide (de.out.trans (yU.mono de.out.size))
   by_cases Lf:bS=bD
   .subst Lf
    exact absurd (bY BS BD) (by decide)
   have S9:ac ((w5.setCell ⟨bD,0,none⟩ (.slice r1 i1 j1)).setCell ⟨bD,1,none⟩ (.slice r2 i2 j2)) bS [.slice a' 4 G'] 24:=(BS.other 0 _ (fun e=>Lf e.symm)).other 1 _ (fun e=>Lf e.symm)
   replace T1:=hide T1
   replace T2:=hide T2
   replace IX:=hide IX
   replace yU:=hide yU
   clear IN t1 t2 xG BS BD B hcut
   by_cases hs:SE=0
   .subst hs
    go_upto_region 7 with fail
    clear d0 d1 f0 f1 dl
    generalize World.setCell (World.setCell w5 _ _) _ _=w9 at*
    have s0:=S9.cell 0
    have sl:=S9.lt
    have d0:=D9.cell 0
    have d1:=D9.cell 1
    have dl:=D9.lt
    have x0:w9.cell? ⟨g,0,none⟩=some (.slice sa sn sG):=B9.blk.cell 0
    have x1:w9.cell? ⟨g,1,none⟩=some (.slice a1 n1 c1):=B9.blk.cell 1
    have x2:w9.cell? ⟨g,2,none⟩=some (.slice a2 n2 c2):=B9.blk.cell 2
    have g0:=B9.blk.free 0
    have g1:=B9.blk.free 1
    have g2:=B9.blk.free 2
    have W6:=B9.blk.lt
    have DC:¬g=bS:=by omega
    have Ef:¬bS=g:=by omega
    have JE:¬g=bD:=by omega
    have Zk:¬bD=g:=by omega
    have gr:=ak (ak (ak (au w9 (some g)) 0 (.slice a' 4 G')) 1 (.slice r1 i1 j1)) 2 (.slice r2 i2 j2)
    have BB:=((B9.blk.set 0 (.slice a' 4 G')).set 1 (.slice r1 i1 j1)).set 2 (.slice r2 i2 j2)
    have fY:HE=0:=kX.out
    have hm:=hM.out (eK.out.symm.trans fY)
    have jM:=uN.out (eK.out.symm.trans fY)
    rw[hm] at jM
    have WB:=hide (iG.wrote (Q:=Q) (h:=h) (p:=⟨a',4,G',r1,i1,j1,r2,i2,j2,ra,rn,rc⟩) (ys:=ys) (x:=⟨dW C ⟨K,S,N,L⟩,SD,true,rd⟩) B9.blk gr BB
     ⟨h4.out.symm,ma.out,vG.out,B9.is.er,IX.out.is,T1.out,T2.out,B9.is.r⟩ (IX.out.off (fun q hq=>hq.elim (fun e=>by rw[e];exact az.out) (fun e=>Nat.lt_of_lt_of_le (hQ.out q e) de.out.size))) jM B9.ra B9.rb B9.ry B9.rm)
    have gb:=hide ((gp.below (g:=g) (h:=h) m8.out).trans (gp.box gr) (.inl rfl))
    replace hm:=hide hm
    replace fY:=hide fY
    clear gr BB B9 S9 D9 IX T1 T2 jM kX uN hM
    go_region
    all_goals(
     go_wp2_with fail
     go_ret
     rw[hZ.out,if_pos (eK.out.symm.trans fY.out),hm.out,fY.out]
     exact⟨rfl,h,_,ys,WB.out.call (ai (Below.refl _ _)),gb.out.call (ai (Below.refl _ _)),.inl rfl⟩)
   .have oJ:decide (SE=0)=false:=decide_eq_false hs
    have fY:Hid (HE=SE):=hide kX.out
    clear kX uN hM S9 D9 IX T1 T2
    replace B9:=hide B9
    go_wp2_with fail
    go_ret
    rw[hZ.out,if_neg (fun e=>hs (fY.out.symm.trans (eK.out.trans e))),fY.out]
    exact⟨rfl,h,_,ys,B9.out,gp.below m8.out,.inl rfl⟩
  .rw[if_pos hz] at kX
   have vE:decide (EA=0)=false:=decide_eq_false hz
   have fY:Hid (HE=EA):=hide kX
   replace B:=hide B
   replace bel:=hide bel
   clear hE kX uN hM hA BS BD
   go_wp2_with fail
   go_ret
   rw[hZ.out,if_neg (fun e=>hz (fY.out.symm.trans (eK.out.trans e))),fY.out]
   exact⟨rfl,h,_,ys,B.out,gp.below bel.out,.inl rfl⟩
end Go.Proofs.YtoonnbhoiocoeaaGreatDoor
namespace Go.Proofs.YtoonnbhoiocoeaaGreatDoor
open Go.RowKit
open Go.Lib (byteCells)
theorem Kt (n:Int)(l:List UInt8)(k:Nat)(hk:min (max n 0) (l.length:Int)=k):l.take n.toNat=l.take k:=by
 by_cases h:n.toNat<=l.length
 .have:n.toNat=k:=by omega
  rw[this]
 .rw[List.take_of_length_le (by omega),List.take_of_length_le (by omega)]
theorem Kw {Q:Nat->Prop}(y:Hp)(hk:y.k=9)(g h:Nat)(p:Pw)(ys:List Int)(x:Wd)(W:World)(B:iG Q W g h p ys x)(hu:x.up=true)(hg:Gl W)(ea:Option Addr)(en eC:Nat)(s3:aY ec W ea eC (aO y).e)(h3:Hid (en=(aO y).e.length)):
  Calls Tryz.prog 72 #[.pointer (some ⟨g,0,none⟩),.agg #[.int .i64 (aO y).k,.int .i64 (aO y).s,.int .i64 (aO y).n,.slice ea en eC],.int .i64 y.n] W (nO Q g h W (ci x y) (if ci x y=0 then dr x y else x)):=by
 have hE:=hide (xP (.inr hk) hu)
 have hM:=hide (fun e:ci x y=0=>(uK hk e).1)
 obtain⟨Z,hZ⟩:∃Z,Z=(if ci x y=0 then dr x y else x):=⟨_,rfl⟩
 rw[<-hZ]
 obtain⟨HE,eK⟩:∃HE,HE=ci x y:=⟨_,rfl⟩
 rw[<-eK]
 replace hZ:=hide hZ
 replace eK:=hide eK
 obtain⟨Yn,OS⟩:∃Yn,Yn=y.n:=⟨_,rfl⟩
 rw[<-OS]
 replace OS:=hide OS
 have QO:=hide hk
 obtain⟨r,hr⟩:∃r,r=aO y:=⟨_,rfl⟩
 rw[<-hr] at s3 h3⊢
 replace hE:=hE.out
 replace hM:=hM.out
 rw[<-hr] at hE hM
 rw[if_pos QO.out] at hE
 replace hE:=hide hE
 replace hM:=hide hM
 clear hk
 have cA:=fun V gl I s=>xV x r p ea en eC V gl I B.right s h3
 obtain⟨C,D,up,rd⟩:=x
 simp only at hu
 subst hu
 obtain⟨sa,sn,sG,a1,n1,c1,a2,n2,c2,ra,rn,rc⟩:=p
 simp only[Pw.val] at cA
 have BQ:=ac.laid W [.int .i64 r.k,.int .i64 r.s,.int .i64 r.n,.slice ea en eC] 73 _ rfl
 have bel:=newB (Below.refl W.heap.size W) (.cells #[.int .i64 r.k,.int .i64 r.s,.int .i64 r.n,.slice ea en eC] 73)
 replace B:=B.call bel
 replace s3:=s3.call bel
 have gl:=hg.call bel
 obtain⟨K,S,N,L⟩:=r
 replace hr:=hide hr
 go_enter Tryz.func72,Tryz.ntmps72
 go_upto_region 1 with fail
 generalize hv:World.alloc W _=v at*
 have x0:v.cell? ⟨g,0,none⟩=some (.slice sa sn sG):=B.blk.cell 0
 have x1:v.cell? ⟨g,1,none⟩=some (.slice a1 n1 c1):=B.blk.cell 1
 have x2:v.cell? ⟨g,2,none⟩=some (.slice a2 n2 c2):=B.blk.cell 2
 have x3:v.cell? ⟨g,3,none⟩=some (.bool true):=B.blk.cell 3
 have x4:v.cell? ⟨g,4,none⟩=some (.slice ra rn rc):=B.blk.cell 4
 have z0:v.cell? ⟨W.heap.size,0,none⟩=some (.int .i64 K):=BQ.cell 0
 have z1:v.cell? ⟨W.heap.size,1,none⟩=some (.int .i64 S):=BQ.cell 1
 have z2:v.cell? ⟨W.heap.size,2,none⟩=some (.int .i64 N):=BQ.cell 2
 have z3:v.cell? ⟨W.heap.size,3,none⟩=some (.slice ea en eC):=BQ.cell 3
 have cells:∀V,Below v.heap.size v V->V.cell? ⟨g,0,none⟩=some (.slice sa sn sG)/\V.cell? ⟨g,1,none⟩=some (.slice a1 n1 c1)/\V.cell? ⟨g,2,none⟩=some (.slice a2 n2 c2)/\V.cell? ⟨g,3,none⟩=some (.bool true)/\V.cell? ⟨g,4,none⟩=some (.slice ra rn rc)/\V.cell? ⟨W.heap.size,0,none⟩=some (.int .i64 K)/\V.cell? ⟨W.heap.size,1,none⟩=some (.int .i64 S)/\V.cell? ⟨W.heap.size,2,none⟩=some (.int .i64 N)/\V.cell? ⟨W.heap.size,3,none⟩=some (.slice ea en eC):=fun V hV=>
  ⟨(B.call hV).blk.cell 0,(B.call hV).blk.cell 1,(B.call hV).blk.cell 2,(B.call hV).blk.cell 3,(B.call hV).blk.cell 4,(BQ.keep hV BQ.lt).cell 0,(BQ.keep hV BQ.lt).cell 1,(BQ.keep hV BQ.lt).cell 2,(BQ.keep hV BQ.lt).cell 3⟩
 have kA:∀V,Below v.heap.size v V->Calls Tryz.prog 107 #[.agg #[.slice sa sn sG,.slice a1 n1 c1,.slice a2 n2 c2,.bool true,.slice ra rn rc],.agg #[.int .i64 K,.int .i64 S,.int .i64 N,.slice ea en eC]] V fun e w'=>∃(a':Option Addr) (n' G':Nat) (b1:Option Addr) (m1 k1:Nat) (b2:Option Addr) (m2 k2:Nat),e=.returned (.tuple #[.agg #[.slice a' n' G'],.agg #[.slice b1 m1 k1,.slice b2 m2 k2],.int .i64 (iA ⟨C,D,true,rd⟩ ⟨K,S,N,L⟩)])/\
   w'.cell? ⟨g,0,none⟩=some (.slice sa sn sG)/\w'.cell? ⟨g,1,none⟩=some (.slice a1 n1 c1)/\w'.cell? ⟨g,2,none⟩=some (.slice a2 n2 c2)/\w'.cell? ⟨g,3,none⟩=some (.bool true)/\w'.cell? ⟨g,4,none⟩=some (.slice ra rn rc)/\w'.cell? ⟨W.heap.size,0,none⟩=some (.int .i64 K)/\w'.cell? ⟨W.heap.size,1,none⟩=some (.int .i64 S)/\w'.cell? ⟨W.heap.size,2,none⟩=some (.int .i64 N)/\w'.cell? ⟨W.heap.size,3,none⟩=some (.slice ea en eC)/\
   Hid (iO V.heap.size ⟨C,D,true,rd⟩ ⟨K,S,N,L⟩ a' n' G' b1 m1 k1 b2 m2 k2 w')/\Below V.heap.size V w'/\Below v.heap.size v w':=by
  intro V hV
  refine(cA V (gl.call hV) (B.call hV).is (s3.call hV)).mono ?_
  rintro e w' ⟨a',n',G',b1,m1,k1,b2,m2,k2,rfl,hA,b⟩
  obtain⟨q0,q1,q2,q3,q4,q5,q6,q7,q8⟩:=cells w' (aa hV b)
  exact⟨a',n',G',b1,m1,k1,b2,m2,k2,rfl,q0,q1,q2,q3,q4,q5,q6,q7,q8,hA,b,aa hV b⟩
 have k0:Below v.heap.size v v.drew:=ai (Below.refl _ _)
 generalize ka:iA ⟨C,D,true,rd⟩ ⟨K,S,N,L⟩=EA at*
 have lg:g<v.heap.size:=B.blk.lt
 have lq:W.heap.size<v.heap.size:=BQ.lt
 have TF:¬g=v.heap.size:=by omega
 have MW:¬v.heap.size=g:=by omega
 have DC:¬W.heap.size=v.heap.size:=by omega
 have L':¬v.heap.size=W.heap.size:=by omega
 have Ef:¬g=v.heap.size+1:=by omega
 have Nf:¬v.heap.size+1=g:=by omega
 have JE:¬W.heap.size=v.heap.size+1:=by omega
 have Mv:¬v.heap.size+1=W.heap.size:=by omega
 have Q2:ac (v.alloc (.cells #[.slice none 0 0] 24)).drew v.heap.size [.slice none 0 0] 24:=ac.laid v [.slice none 0 0] _ _ rfl
 have Q3:ac (v.alloc (.cells #[.slice none 0 0,.slice none 0 0] 27)).drew v.heap.size [.slice none 0 0,.slice none 0 0] 27:=ac.laid v [.slice none 0 0,.slice none 0 0] _ _ rfl
 have Q4:ac ((v.alloc (.cells #[.slice none 0 0] 24)).alloc (.cells #[.slice none 0 0,.slice none 0 0] 27)).drew v.heap.size [.slice none 0 0] 24:=(ac.laid v [.slice none 0 0] _ _ rfl).alc (.cells #[.slice none 0 0,.slice none 0 0] 27)
 have Q4':ac ((v.alloc (.cells #[.slice none 0 0] 24)).alloc (.cells #[.slice none 0 0,.slice none 0 0] 27)).drew (v.heap.size+1) [.slice none 0 0,.slice none 0 0] 27:=ac.laid (v.alloc (.cells #[.slice none 0 0] 24)) [.slice none 0 0,.slice none 0 0] _ _ (by simp)
 have Q5:ac ((v.alloc (.cells #[.slice none 0 0,.slice none 0 0] 27)).alloc (.cells #[.slice none 0 0] 24)).drew v.heap.size [.slice none 0 0,.slice none 0 0] 27:=(ac.laid v [.slice none 0 0,.slice none 0 0] _ _ rfl).alc (.cells #[.slice none 0 0] 24)
 have Q5':ac ((v.alloc (.cells #[.slice none 0 0,.slice none 0 0] 27)).alloc (.cells #[.slice none 0 0] 24)).drew (v.heap.size+1) [.slice none 0 0] 24:=ac.laid (v.alloc (.cells #[.slice none 0 0,.slice none 0 0] 27)) [.slice none 0 0] _ _ (by simp)
 replace ka:=hide ka
 replace hv:=hide hv
 replace B:=hide B
 replace bel:=hide bel
 replace s3:=hide s3
 clear cells cA BQ
 replace gl:=hide gl
 go_cut [7,8,9] from 10 to 18 (fun s5 s6 s7 wx=>Ig v.heap.size v ⟨C,D,true,rd⟩ ⟨K,S,N,L⟩ EA s5 s6 s7 wx)
 case first=>
  go_region_held3 (fun w'=>w'.cell? ⟨g,0,none⟩=some (.slice sa sn sG)/\w'.cell? ⟨g,1,none⟩=some (.slice a1 n1 c1)/\w'.cell? ⟨g,2,none⟩=some (.slice a2 n2 c2)/\w'.cell? ⟨g,3,none⟩=some (.bool true)/\w'.cell? ⟨g,4,none⟩=some (.slice ra rn rc)/\w'.cell? ⟨W.heap.size,0,none⟩=some (.int .i64 K)/\w'.cell? ⟨W.heap.size,1,none⟩=some (.int .i64 S)/\w'.cell? ⟨W.heap.size,2,none⟩=some (.int .i64 N)/\w'.cell? ⟨W.heap.size,3,none⟩=some (.slice ea en eC)) (go_keep)
   (first
    | (go_at_call 107;refine(kA _ (by first|exact k0|exact ai (newB (Below.refl _ _) _)|exact ai (newB (newB (Below.refl _ _) _) _))).mono ?_;rintro e w4 ⟨a',n',G',b1,m1,k1,b2,m2,k2,rfl,q0,q1,q2,q3,q4,q5,q6,q7,q8,hA,b4,zA⟩;have gz:=zA.size;have o0:¬g=w4.heap.size:=by {omega};have o0':¬w4.heap.size=g:=by {omega};have o1:¬W.heap.size=w4.heap.size:=by {omega};have o1':¬w4.heap.size=W.heap.size:=by {omega};have o2:¬g=w4.heap.size+1:=by {omega};have o2':¬w4.heap.size+1=g:=by {omega};have o3:¬W.heap.size=w4.heap.size+1:=by {omega};have o3':¬w4.heap.size+1=W.heap.size:=by {omega};(first| (have R1:=Q2.keep b4 Q2.lt;have c0:=R1.cell 0;have Gh:=R1.free 0;have cl:=R1.lt;have u1:¬v.heap.size=w4.heap.size:=by {omega};have A8:¬w4.heap.size=v.heap.size:=by {omega})| (have R1:=Q3.keep b4 Q3.lt;have c0:=R1.cell 0;have Gh:=R1.free 0;have cl:=R1.lt;have c1:=R1.cell 1;have Q0:=R1.free 1;have u1:¬v.heap.size=w4.heap.size:=by {omega};have A8:¬w4.heap.size=v.heap.size:=by {omega})| (have R1:=Q4.keep b4 Q4.lt;have R2:=Q4'.keep b4 Q4'.lt;have c0:=R1.cell 0;have Gh:=R1.free 0;have cl:=R1.lt;have d0:=R2.cell 0;have Rt:=R2.free 0;have dl:=R2.lt;have d1:=R2.cell 1;have YE:=R2.free 1;have u1:¬v.heap.size=v.heap.size+1:=by {omega};have A8:¬v.heap.size+1=v.heap.size:=by {omega})| (have R1:=Q5.keep b4 Q5.lt;have R2:=Q5'.keep b4 Q5'.lt;have c0:=R1.cell 0;have Gh:=R1.free 0;have cl:=R1.lt;have c1:=R1.cell 1;have Q0:=R1.free 1;have d0:=R2.cell 0;have Rt:=R2.free 0;have dl:=R2.lt;have u1:¬v.heap.size=v.heap.size+1:=by {omega};have A8:¬v.heap.size+1=v.heap.size:=by {omega})|skip)))
  all_goals(
   go_wp2_with fail
   go_meet
   case rel=>
    have j6:=hA.out.down (base':=v.heap.size) (by first|exact Nat.le_refl _|exact(ai (newB (Below.refl v.heap.size v) _)).size|exact(ai (newB (newB (Below.refl v.heap.size v) _) _)).size)
    first
     |exact QF j6 zA zA.size
     |exact Qw j6 zA zA.size
     |exact QI j6 zA zA.size R1 (Nat.le_refl _)
     |exact Qm j6 zA zA.size R1 (Nat.le_refl _)
     |exact It j6 zA R1 R2 (Nat.le_refl _) (Nat.le_succ _) u1
     |exact It j6 zA R2 R1 (Nat.le_succ _) (Nat.le_refl _) A8)
 case rest=>
  obtain⟨bS,bD,a',n',G',b1,m1,k1,b2,m2,k2,rfl,rfl,rfl,BS,BD,hA,lS,lD,hcut⟩:=hcut
  have B0:=hide B.out
  have de:=hide bel.out
  have az:Hid (h<v.heap.size):=hide B.out.rb.lt
  replace B:=B.out.call hcut
  replace bel:=aa bel.out hcut
  replace gl:=gl.out.call hcut
  clear x0 x1 x2 x3 x4 z0 z1 z2 z3 kA k0 Q2 Q3 Q4 Q4' Q5 Q5' TF MW DC L' Ef Nf JE Mv s3
  have j5:=eK.out.trans hE.out
  have kX:=j5
  clear j5
  by_cases hz:EA=0
  .obtain⟨rfl,IN,q1,q2,T1,T2⟩:=hA.out (ka.out.trans hz)
   obtain⟨Kz,zM⟩:=qt (ka.out.trans hz)
   rw[if_neg (fun e=>e hz)] at kX
   subst hz
   simp only at q1 q2 T1 T2 IN Kz zM
   have PC:=(oD zM).2.2.2
   have UM:(dj D ⟨K,S,N,L⟩).safe=D.safe:=by rw[(oD zM).2.2.1]
   have DO:=wh PC
   generalize Zy:dj D ⟨K,S,N,L⟩=DP at*
   obtain⟨M,Ot⟩:∃M:Int,M=max Yn 0:=⟨_,rfl⟩
   obtain⟨k,OJ⟩:∃k:Nat,min M (m2:Int)=k:=⟨(min M (m2:Int)).toNat,by omega⟩
   have hmax:∀(ts:Array TypeId) (t:TypeId) (V:World),(Builtin.max_ ts t #[.int .i64 Yn,.int .i64 0]).run Tryz.prog V=.ok (.int .i64 M) V:=by
    intro ts t V
    rw[Lib.run_max_ints,Ot]
   have kx:∀(ts:Array TypeId) (t:TypeId) (V:World),(Builtin.min_ ts t #[.int .i64 M,.int .i64 (m2:Int)]).run Tryz.prog V=.ok (.int .i64 (k:Int)) V:=by
    intro ts t V
    rw[Lib.run_min_ints,OJ]
   have Tl:l6 DP k=0:=by
    unfold l6
    rw[if_neg (by simp[PC]),if_neg (by omega)]
   have Wk:qY DP k=⟨DP.safe,DP.wait.take k⟩:=by
    unfold qY
    rw[if_pos Tl,Int.toNat_natCast]
   have vY:DP.wait.take Yn.toNat=DP.wait.take k:=Kt Yn DP.wait k (by rw[<-q2,<-Ot];exact OJ)
   have cS:=fun V gl s t=>Ib DP k b1 b2 k1 k2 m1 m2 V gl s t q1 q2 (by rw[q1,q2];exact Nat.le_trans DO (by decide))
   rw[Tl,Wk] at cS
   have rj:=yD PC k
   have fY:HE=0:=kX
   have hm:=hM.out (eK.out.symm.trans fY)
   have mS:dr ⟨C,D,true,rd⟩ y=⟨dg,⟨DP.safe,DP.wait.take k⟩,false,iw⟩:=by
    rw[hm,UM,<-vY,OS.out]
   replace hm:=mS
   clear mS
   replace hm:=hide hm
   replace fY:=hide fY
   replace q1:=hide q1
   replace q2:=hide q2
   replace rj:=hide rj
   replace Ot:=hide Ot
   replace OJ:=hide OJ
   clear hA Kz zM DO hE ka kX hM PC UM Tl Wk vY Zy
   have d0:=BD.cell 0
   have d1:=BD.cell 1
   have dl:=BD.lt
   go_wp2_with fail
   go_at_call 108
   refine(cS _ gl T1 T2).mono ?_
   rintro e w5 ⟨r1,r2,i1,i2,j1,j2,rfl,ma,vG,t1,t2,b5⟩
   replace ma:=hide ma
   replace vG:=hide vG
   clear d0 d1 dl cS T1 T2 q1 q2 gl IN kx hmax
   replace BD:=BD.keep b5 BD.lt
   replace hcut:=hcut.trans (b5.mono hcut.size)
   clear b5 B BS bel
   generalize DP.wait.take k=WT at*
   generalize DP.safe=SF at*
   have d0:=BD.cell 0
   have d1:=BD.cell 1
   have f0:=BD.free 0
   have f1:=BD.free 1
   have dl:=BD.lt
   have yU:Below v.heap.size v ((w5.setCell ⟨bD,0,none⟩ (.slice r1 i1 j1)).setCell ⟨bD,1,none⟩ (.slice r2 i2 j2)):=d8 hcut lD _ _
   have B9:=(B0.out.call yU).blk
   have xG:=ak (ak (au w5 (some bD)) 0 (.slice r1 i1 j1)) 1 (.slice r2 i2 j2)
   have T1:=dU t1 BD (by simp) xG
   have T2:=dU t2 BD (by simp) xG
   have D9:=jl BD (.slice r1 i1 j1) (.slice r2 i2 j2)
   have m8:Hid (Below W.heap.size W ((w5.setCell ⟨bD,0,none⟩ (.slice r1 i1 j1)).setCell ⟨bD,1,none⟩ (.slice r2 i2 j2))):=hide (de.out.trans (yU.mono de.out.size))
   replace yU:=hide yU
   clear xG t1 t2 BD hcut
   go_upto_region 7 with fail
   clear d0 d1 f0 f1 dl
   generalize World.setCell (World.setCell w5 _ _) _ _=w9 at*
   have d0:=D9.cell 0
   have d1:=D9.cell 1
   have dl:=D9.lt
   have x1:w9.cell? ⟨g,1,none⟩=some (.slice a1 n1 c1):=B9.cell 1
   have x2:w9.cell? ⟨g,2,none⟩=some (.slice a2 n2 c2):=B9.cell 2
   have g1:=B9.free 1
   have g2:=B9.free 2
   have W6:=B9.lt
   have BB:=(B9.set 1 (.slice r1 i1 j1)).set 2 (.slice r2 i2 j2)
   have gr:=ak (ak (au w9 (some g)) 1 (.slice r1 i1 j1)) 2 (.slice r2 i2 j2)
   have U1:=dU T1 B9 (by simp[Pw.cells]) gr
   have U2:=dU T2 B9 (by simp[Pw.cells]) gr
   have gb:=hide ((gp.below (g:=g) (h:=h) m8.out).trans (gp.box gr) (.inl rfl))
   have cL:=tp Q g ⟨sa,sn,sG,r1,i1,j1,r2,i2,j2,ra,rn,rc⟩ true ⟨SF,WT⟩ ((w9.setCell ⟨g,1,none⟩ (.slice r1 i1 j1)).setCell ⟨g,2,none⟩ (.slice r2 i2 j2)) BB ma.out vG.out U1 U2 rj.out
   clear T1 T2 D9 BB gr U1 U2 B9 ma vG yU m8
   replace az:=az.out
   have Xy:Hid (W.heap.size<=w9.heap.size):=hide (by have:=gb.out.size;simpa using this)
   go_wp2_with fail
   go_at_call 70
   refine cL.mono ?_
   rintro e w10 ⟨rfl,h',p',sq,WB,grow,hh⟩
   replace WB:=hide WB
   have gb2:=hide (gb.out.trans (gp.box (h:=h) grow) (.inl rfl))
   have MR:Hid (W.heap.size<=h'):=hide (by have:=Xy.out;simp at hh;omega)
   clear grow hh cL
   go_wp2_with fail
   go_ret
   rw[hZ.out,if_pos (eK.out.symm.trans fY.out),hm.out,fY.out]
   exact⟨rfl,h',p',sq,WB.out,gb2.out,.inr MR.out⟩
  .rw[if_pos hz] at kX
   have vE:decide (EA=0)=false:=decide_eq_false hz
   have fY:Hid (HE=EA):=hide kX
   replace B:=hide B
   replace bel:=hide bel
   clear hE kX hM hA BS BD
   go_wp2_with fail
   go_ret
   rw[hZ.out,if_neg (fun e=>hz (fY.out.symm.trans (eK.out.trans e))),fY.out]
   exact⟨rfl,h,_,ys,B.out,gp.below bel.out,.inl rfl⟩
end Go.Proofs.YtoonnbhoiocoeaaGreatDoor
namespace Go.Proofs.YtoonnbhoiocoeaaGreatDoor
open Go.RowKit
open Go.Lib (byteCells)
theorem vQ {Q:Nat->Prop}(n:Int)(g h:Nat)(p:Pw)(ys:List Int)(x:Wd)(W:World)(B:iG Q W g h p ys x)(hg:Gl W)(hr:gA n=true->cu ⟨x.c,x.d,x.up,x.rd.set n.toNat ((ax x.d).length:Int)⟩=0):
  Calls Tryz.prog 68 #[.pointer (some ⟨g,0,none⟩),.int .i64 n] W (nO Q g h W (if gA n=true then 0 else 5) (if gA n=true then⟨x.c,x.d,x.up,x.rd.set n.toNat ((ax x.d).length:Int)⟩ else x)):=by
 obtain⟨k1,_,_⟩:=mI B.is B.right
 have cR:=fun V gl s t=>i6 x.d p.a1 p.a2 p.c1 p.c2 p.n1 p.n2 V gl s t B.is.e1 B.is.e2 (by omega)
 rw[(dQ B.right).1] at cR
 obtain⟨RL,oN⟩:∃RL:Int,RL=((ax x.d).length:Int):=⟨_,rfl⟩
 rw[<-oN] at hr⊢
 have cS:=fun V (Bv:iG Q V g h p ys x)=>pW n RL g h p ys x V Bv hr
 generalize(if gA n=true then(0:Int) else 5)=E at*
 generalize(if gA n=true then(⟨x.c,x.d,x.up,x.rd.set n.toNat RL⟩:Wd) else x)=Z at*
 have x1:W.cell? ⟨g,1,none⟩=some (.slice p.a1 p.n1 p.c1):=B.blk.cell 1
 have x2:W.cell? ⟨g,2,none⟩=some (.slice p.a2 p.n2 p.c2):=B.blk.cell 2
 have xl:=B.blk.lt
 have S1:=B.is.s1
 have S2:=B.is.s2
 replace B:=hide B
 replace oN:=hide oN
 clear hr k1
 go_enter Tryz.func68,Tryz.ntmps68
 go_wp2_with fail
 go_at_call 31
 refine((cR _ hg S1 S2).mono fun _ _ h=>h.laid).mono ?_
 rintro e w2 ⟨r1,i1,j1,r2,i2,j2,a3,n3,G3,l3,rfl,DR,LR,fD,pS,b2⟩
 have Ez:Hid ((n3:Int)=RL):=hide (by rw[oN.out,<-pS.out,List.length_map,fD.out])
 have B2:=hide (B.out.call b2)
 have gb:=hide (gp.below (g:=g) (h:=h) b2)
 have dz:=hide b2.size
 clear DR LR fD pS x1 x2 xl S1 S2 cR b2 B
 go_upto_region 4 with fail
 generalize World.alloc w2 _=w3 at*
 obtain⟨N3,UT⟩:∃N:Int,N=n3:=⟨_,rfl⟩
 have hN:N3=RL:=UT.trans Ez.out
 have WX:=cS w3 B2.out
 rw[<-Ez.out] at WX
 clear hN UT N3 cS
 go_wp2_with fail
 go_at_call 69
 refine WX.mono ?_
 rintro e w4 ⟨rfl,h',p',sq,WB,gr,hh⟩
 have gb2:=hide (gb.out.trans gr (.inl rfl))
 have MR:Hid (h'=h\/W.heap.size<=h'):=hide (hh.imp id (fun e=>Nat.le_trans dz.out e))
 replace WB:=hide WB
 clear gr hh
 go_wp2_with fail
 go_ret
 exact⟨rfl,h',p',sq,WB.out,gb2.out,MR.out⟩
theorem GO {x:Wd}{y:Hp}(hr:cu x=0)(hk:y.k=8)(hu:x.up=false):ci x y=bP (ax x.d)/\(ci x y=0->dr x y=⟨aZ (ax x.d),gu x.d,true,x.rd⟩/\cu ⟨aZ (ax x.d),gu x.d,true,x.rd⟩=0):=by
 refine⟨?_,fun h=>?_⟩
 .unfold ci
  rw[if_neg (fun h=>h ⟨by omega,by omega⟩),if_neg (fun h=>h (by rw[hu];exact(decide_eq_false (by omega)).symm)),if_neg (by omega),if_neg (by omega),if_pos hk]
 .obtain⟨_,_,e,r,_⟩:=uB hr hk h
  exact⟨e,by rw[<-e];exact r⟩
theorem Kp {Q:Nat->Prop}(y:Hp)(hk:y.k=8)(g h:Nat)(p:Pw)(ys:List Int)(x:Wd)(W:World)(B:iG Q W g h p ys x)(hQ:∀q,Q q->q<W.heap.size)(hu:x.up=false)(hg:Gl W):
  Calls Tryz.prog 71 #[.pointer (some ⟨g,0,none⟩)] W (nO Q g h W (ci x y) (if ci x y=0 then dr x y else x)):=by
 obtain⟨hE,hM⟩:=GO B.right hk hu
 obtain⟨Z,hZ⟩:∃Z,Z=(if ci x y=0 then dr x y else x):=⟨_,rfl⟩
 rw[<-hZ]
 obtain⟨HE,eK⟩:∃HE,HE=ci x y:=⟨_,rfl⟩
 rw[<-eK]
 replace hZ:=hide hZ
 replace eK:=hide eK
 replace hE:=hide hE
 replace hM:=hide hM
 replace hQ:=hide hQ
 obtain⟨k1,k2,_⟩:=mI B.is B.right
 have cR:=fun V gl s t=>i6 x.d p.a1 p.a2 p.c1 p.c2 p.n1 p.n2 V gl s t B.is.e1 B.is.e2 (by omega)
 rw[(dQ B.right).1] at cR
 clear k1 k2 hk
 obtain⟨C,D,up,rd⟩:=x
 simp only at hu
 subst hu
 obtain⟨sa,sn,sG,a1,n1,c1,a2,n2,c2,ra,rn,rc⟩:=p
 have x1:W.cell? ⟨g,1,none⟩=some (.slice a1 n1 c1):=B.blk.cell 1
 have x2:W.cell? ⟨g,2,none⟩=some (.slice a2 n2 c2):=B.blk.cell 2
 have xl:=B.blk.lt
 have S1:Sl W a1 c1 (byteCells D.safe):=B.is.s1
 have S2:Sl W a2 c2 (byteCells D.wait):=B.is.s2
 simp only at cR
 have B0:=hide B
 replace B:=hide B
 go_enter Tryz.func71,Tryz.ntmps71
 go_wp2_with fail
 go_at_call 31
 refine((cR _ hg S1 S2).mono fun _ _ h=>h.laid).mono ?_
 rintro e w2 ⟨r1,i1,j1,r2,i2,j2,a3,n3,G3,l3,rfl,DR,LR,fD,pS,b2⟩
 replace B:=hide (B.out.call b2)
 clear x1 x2 xl S1 S2 cR
 obtain⟨dn,dp⟩:∃d,Hid (d=(aZ (l3.map (·.r))).length):=⟨_,hide rfl⟩
 have cP:=fun V s=>kZ l3 a3 n3 G3 dn V s fD dp
 rw[pS.out] at cP dp
 have bel:=hide b2
 clear b2 fD pS
 go_upto_region 4 with fail
 generalize w2.heap.size=gD at*
 generalize World.alloc w2 _=w3 at*
 go_wp2_with fail
 go_at_call 54
 refine((cP _ LR).mono fun _ _ h=>xj h).mono ?_
 rintro e w4 ⟨aS,GS,rfl,BS,IN,b4,ZX⟩
 clear cP LR
 have az:Hid (h<w3.heap.size):=hide B.out.rb.lt
 have W4:Hid (W.heap.size<=w3.heap.size):=hide bel.out.size
 replace B:=hide (B.out.call b4)
 replace DR:=DR.call b4
 have m8:=hide (aa bel.out b4)
 clear bel b4
 by_cases hz:bP (ax D)=0
 .obtain rfl:dn=4:=by rw[dp.out];exact bL (fp hz)
  have h4:=hide (bL (fp hz))
  have fY:HE=0:=eK.out.trans (hE.out.trans hz)
  obtain⟨hm,jM⟩:=hM.out (hE.out.trans hz)
  rw[hz]
  replace hm:=hide hm
  replace jM:=hide jM
  replace fY:=hide fY
  clear hz hM hE
  go_upto_region 7 with fail
  generalize w4.heap.size=gS at*
  generalize World.alloc w4 _=w5 at*
  obtain⟨PB,kY,kW,T1,T2⟩:=DR
  have B5:=B.out
  have DC:¬g=gD:=by
   intro e
   subst e
   exact absurd (bY B5.blk PB) (by decide)
  have Ef:¬gD=g:=fun e=>DC e.symm
  have JE:¬g=gS:=by
   intro e
   subst e
   exact absurd (bY B5.blk BS) (by decide)
  have Zk:¬gS=g:=fun e=>JE e.symm
  have s0:w5.cell? ⟨gS,0,none⟩=some (.slice aS 4 GS):=BS.cell 0
  have sl:=BS.lt
  have d0:w5.cell? ⟨gD,0,none⟩=some (.slice r1 i1 j1):=PB.cell 0
  have d1:w5.cell? ⟨gD,1,none⟩=some (.slice r2 i2 j2):=PB.cell 1
  have dl:=PB.lt
  have x0:w5.cell? ⟨g,0,none⟩=some (.slice sa sn sG):=B5.blk.cell 0
  have x1:w5.cell? ⟨g,1,none⟩=some (.slice a1 n1 c1):=B5.blk.cell 1
  have x2:w5.cell? ⟨g,2,none⟩=some (.slice a2 n2 c2):=B5.blk.cell 2
  have x3:w5.cell? ⟨g,3,none⟩=some (.bool false):=B5.blk.cell 3
  have g0:=B5.blk.free 0
  have g1:=B5.blk.free 1
  have g2:=B5.blk.free 2
  have g3:=B5.blk.free 3
  have W6:=B5.blk.lt
  have gr:=ak (ak (ak (ak (au w5 (some g)) 0 (.slice aS 4 GS)) 1 (.slice r1 i1 j1)) 2 (.slice r2 i2 j2)) 3 (.bool true)
  have BB:=(((B5.blk.set 0 (.slice aS 4 GS)).set 1 (.slice r1 i1 j1)).set 2 (.slice r2 i2 j2)).set 3 (.bool true)
  have WB:=hide (iG.wrote (Q:=Q) (h:=h) (p:=⟨aS,4,GS,r1,i1,j1,r2,i2,j2,ra,rn,rc⟩) (ys:=ys) (x:=⟨aZ (ax D),gu D,true,rd⟩) B5.blk gr BB
   ⟨h4.out.symm,kY,kW,B5.is.er,IN.is,T1,T2,B5.is.r⟩ (IN.off (fun q hq=>hq.elim (fun e=>by rw[e];exact az.out) (fun e=>Nat.lt_of_lt_of_le (hQ.out q e) W4.out))) jM.out B5.ra B5.rb B5.ry B5.rm)
  have gb:=hide ((gp.below (g:=g) (h:=h) m8.out).trans (gp.box gr) (.inl rfl))
  clear gr BB B5 BS PB kY kW T1 T2 IN B jM
  go_region
  all_goals(
   go_wp2_with fail
   go_ret
   rw[hZ.out,if_pos (eK.out.symm.trans fY.out),hm.out,fY.out]
   exact⟨rfl,h,_,ys,WB.out.call (ai (Below.refl _ _)),gb.out.call (ai (Below.refl _ _)),.inl rfl⟩)
 .have vE:decide (bP (ax D)=0)=false:=decide_eq_false hz
  have fY:Hid (HE=bP (ax D)):=hide (eK.out.trans hE.out)
  clear hM hE BS DR IN
  generalize bP (ax D)=E at*
  go_upto_region 6 with fail
  generalize World.alloc w4 _=w5 at*
  go_wp2_with fail
  go_ret
  rw[hZ.out,if_neg (fun e=>hz (fY.out.symm.trans (eK.out.trans e))),fY.out]
  exact⟨rfl,h,_,ys,B.out,gp.below m8.out,.inl rfl⟩
end Go.Proofs.YtoonnbhoiocoeaaGreatDoor
namespace Go.Proofs.YtoonnbhoiocoeaaGreatDoor
open Go.RowKit
open Go.Lib (byteCells)
theorem IM {x:Wd}{y:Hp}(hr:cu x=0)(hu:x.up=true)(hk:y.k=5\/y.k=6):
  ci x y=(if gA y.n=true then 0 else 5)/\(if ci x y=0 then dr x y else x)=(if gA y.n=true then⟨x.c,x.d,x.up,x.rd.set y.n.toNat (if y.k=5 then((ax x.d).length:Int) else-1)⟩ else x)/\(gA y.n=true->cu ⟨x.c,x.d,x.up,x.rd.set y.n.toNat (if y.k=5 then((ax x.d).length:Int) else-1)⟩=0):=by
 have e:ci x y=if gA y.n=true then 0 else 5:=by
  unfold ci
  rw[if_neg (fun h=>h ⟨by omega,by omega⟩),if_neg (fun h=>h (by rw[hu];exact(decide_eq_true (by omega)).symm)),if_pos hk]
  unfold gA
  by_cases h:0<=y.n/\y.n<=2
  .rw[if_pos h,if_pos (decide_eq_true h)]
  .rw[if_neg h,if_neg (by simp[h])]
 refine⟨e,?_,fun h=>?_⟩
 .rw[e]
  by_cases h:gA y.n=true
  .rw[if_pos h,if_pos rfl,if_pos h]
   obtain⟨_,_,_,w,_⟩:=nk hr hk (by rw[e,if_pos h])
   rw[w,hu]
  .rw[if_neg h,if_neg (by decide),if_neg h]
 .obtain⟨_,_,_,w,r⟩:=nk hr hk (by rw[e,if_pos h])
  rw[w] at r
  rw[hu]
  exact r
theorem Og {x:Wd}{y:Hp}(hu:x.up=true)(hk:y.k=7):ci x y=0/\dr x y=⟨dg,x.d,false,iw⟩:=by
 have e:ci x y=0:=by
  unfold ci
  rw[if_neg (fun h=>h ⟨by omega,by omega⟩),if_neg (fun h=>h (by rw[hu];exact(decide_eq_true (by omega)).symm)),if_neg (by omega),if_pos hk]
 refine⟨e,?_⟩
 unfold dr
 rw[if_neg (by simp[e]),if_neg (by omega),if_neg (by omega),if_pos hk]
theorem Kf {x:Wd}{y:Hp}(hk:y.k<1\/9<y.k):ci x y=4:=by
 unfold ci
 rw[if_pos (by omega)]
theorem Ko {x:Wd}{y:Hp}(hk:1<=y.k/\y.k<=9)(h:x.up=decide (y.k=8)):ci x y=7:=by
 unfold ci
 rw[if_neg (fun q=>q hk),if_pos (by rw[h];by_cases e:y.k=8<;>simp[e])]
theorem nO.pre {Q:Nat->Prop}{g h:Nat}{W W1:World}{E:Int}{Z:Wd}{e:Ending}{w':World}(bel:Below W.heap.size W W1)(d:nO Q g h W1 E Z e w'):nO Q g h W E Z e w':=by
 obtain⟨he,h',p',sq,WB,gr,hh⟩:=d
 exact⟨he,h',p',sq,WB,(gp.below bel).trans gr (.inl rfl),hh.imp id (fun q=>Nat.le_trans bel.size q)⟩
theorem vi {Q:Nat->Prop}(y:Hp)(g h:Nat)(p:Pw)(ys:List Int)(x:Wd)(W:World)(B:iG Q W g h p ys x)(hQ:∀q,Q q->q<W.heap.size)(hg:Gl W)(ea:Option Addr)(en eC:Nat)(s3:aY ec W ea eC y.e)(h3:Hid (en=y.e.length)):
  Calls Tryz.prog 33 #[.pointer (some ⟨g,0,none⟩),.agg #[.int .i64 y.k,.int .i64 y.s,.int .i64 y.n,.slice ea en eC]] W (nO Q g h W (ci x y) (if ci x y=0 then dr x y else x)):=by
 have BY:=ac.laid W [.int .i64 y.k,.int .i64 y.s,.int .i64 y.n,.slice ea en eC] 33 _ rfl
 have bel:=newB (Below.refl W.heap.size W) (.cells #[.int .i64 y.k,.int .i64 y.s,.int .i64 y.n,.slice ea en eC] 33)
 replace hQ:=hide hQ
 have VR:W.heap.size≠g:=by have:=B.blk.lt;omega
 have Wp:W.heap.size≠h:=by have:=B.rb.lt;omega
 replace B:=B.call bel
 replace s3:=s3.call bel
 have gl:=hg.call bel
 obtain⟨Z,hZ⟩:∃Z,Z=(if ci x y=0 then dr x y else x):=⟨_,rfl⟩
 rw[<-hZ]
 obtain⟨HE,eK⟩:∃HE,HE=ci x y:=⟨_,rfl⟩
 rw[<-eK]
 have nI:HE≠0->Z=x:=fun q=>by rw[hZ,if_neg (by rw[<-eK];exact q)]
 have EB:(W.alloc (.cells #[.int .i64 y.k,.int .i64 y.s,.int .i64 y.n,.slice ea en eC] 33)).cell? ⟨g,3,none⟩=some (.bool x.up):=B.blk.cell 3
 have gbl:=B.blk.lt
 by_cases h1:y.k<1\/9<y.k
 .have e4:=eK.trans (Kf (x:=x) h1)
  have eZ:=hide (nI (by rw[e4];decide))
  have Lq:=hide (show nO Q g h W 4 x (.returned (.int .i64 4)) (W.alloc (.cells #[.int .i64 y.k,.int .i64 y.s,.int .i64 y.n,.slice ea en eC] 33)) from⟨rfl,h,p,ys,B,gp.below bel,.inl rfl⟩)
  subst e4
  clear eK hZ nI B s3 gl
  obtain⟨K,S,N,L⟩:=y
  simp only at*
  by_cases ha:K<1
  .clear h1
   go_enter Tryz.func33,Tryz.ntmps33
   go_wp2_with fail
   go_ret
   rw[eZ.out]
   exact Lq.out
  .have hb:9<K:=by omega
   clear h1
   go_enter Tryz.func33,Tryz.ntmps33
   go_wp2_with fail
   go_ret
   rw[eZ.out]
   exact Lq.out
 .have ha:¬y.k<1:=by omega
  have hb:¬9<y.k:=by omega
  by_cases hl:x.up=decide (y.k=8)
  .have e7:=eK.trans (Ko (x:=x) (y:=y) (by omega) hl)
   have eZ:=hide (nI (by rw[e7];decide))
   have Lq:=hide (show nO Q g h W 7 x (.returned (.int .i64 7)) ((W.alloc (.cells #[.int .i64 y.k,.int .i64 y.s,.int .i64 y.n,.slice ea en eC] 33)).drew) from⟨rfl,h,p,ys,B.call (ai (Below.refl _ _)),gp.below (ai bel),.inl rfl⟩)
   subst e7
   rw[hl] at EB
   clear eK hZ nI B s3 gl hl h1
   obtain⟨K,S,N,L⟩:=y
   simp only at*
   by_cases h8:K=8
   .subst h8
    rw[decide_eq_true rfl] at EB
    go_enter Tryz.func33,Tryz.ntmps33
    go_upto_region 3 with fail
    generalize World.alloc W _=v at*
    have y0:v.cell? ⟨W.heap.size,0,none⟩=some (.int .i64 8):=BY.cell 0
    have yl:=BY.lt
    go_wp2_with fail
    go_region
    all_goals(
     go_wp2_with fail
     go_ret
     rw[eZ.out]
     exact Lq.out)
   .have r9:(K==8)=false:=by simpa using h8
    have Wt:decide (K=8)=false:=decide_eq_false h8
    rw[Wt] at EB
    go_enter Tryz.func33,Tryz.ntmps33
    go_upto_region 3 with fail
    generalize World.alloc W _=v at*
    have y0:v.cell? ⟨W.heap.size,0,none⟩=some (.int .i64 K):=BY.cell 0
    have yl:=BY.lt
    go_wp2_with fail
    go_region
    all_goals(
     go_wp2_with fail
     go_ret
     rw[eZ.out]
     exact Lq.out)
  .obtain⟨K,S,N,L⟩:=y
   simp only at*
   by_cases h8:K=8
   .subst h8
    have hu:x.up=false:=by cases hx:x.up with|false=>rfl|true=>exact absurd (hx.trans (decide_eq_true rfl).symm) hl
    rw[hu] at EB
    clear hl
    go_enter Tryz.func33,Tryz.ntmps33
    go_upto_region 3 with fail
    generalize World.alloc W _=v at*
    have y0:v.cell? ⟨W.heap.size,0,none⟩=some (.int .i64 8):=BY.cell 0
    have y1:v.cell? ⟨W.heap.size,1,none⟩=some (.int .i64 S):=BY.cell 1
    have y2:v.cell? ⟨W.heap.size,2,none⟩=some (.int .i64 N):=BY.cell 2
    have y3:v.cell? ⟨W.heap.size,3,none⟩=some (.slice ea en eC):=BY.cell 3
    have yl:=BY.lt
    have Bd:=B.call (ai (Below.refl v.heap.size v))
    have xd:=gl.call (ai (Below.refl v.heap.size v))
    have oe:=ai bel
    have EF:=s3.call (ai (Below.refl v.heap.size v))
    have cC:Calls Tryz.prog 71 #[.pointer (some ⟨g,0,none⟩)] v.drew (nO Q g h v.drew HE Z):=by
     rw[eK,hZ]
     exact Kp ⟨8,S,N,L⟩ rfl g h p ys x v.drew Bd (fun q e=>Nat.lt_of_lt_of_le (hQ.out q e) oe.size) hu xd
    replace hZ:=hide hZ
    replace eK:=hide eK
    clear nI B s3 gl bel
    go_wp2_with fail
    go_region
    all_goals(
     go_wp2_with fail
     go_at_call 71
     refine cC.mono ?_
     rintro e w4 hD
     have qj:=hD.pre oe
     clear hD
     obtain⟨rfl,pu⟩:=qj
     replace pu:=hide pu
     clear cC
     go_wp2_with fail
     go_ret
     exact⟨rfl,pu.out⟩)
   .have hu:x.up=true:=by cases hx:x.up with|true=>rfl|false=>exact absurd (hx.trans (decide_eq_false h8).symm) hl
    have r9:(K==8)=false:=by simpa using h8
    have Wt:decide (K=8)=false:=decide_eq_false h8
    rw[hu] at EB
    clear hl
    by_cases h5:K=5
    .subst h5
     obtain⟨q1,q2,q3⟩:=IM (y:=⟨5,S,N,L⟩) B.right hu (.inl rfl)
     rw[if_pos rfl] at q2 q3
     go_enter Tryz.func33,Tryz.ntmps33
     go_upto_region 3 with fail
     generalize World.alloc W _=v at*
     have y0:v.cell? ⟨W.heap.size,0,none⟩=some (.int .i64 5):=BY.cell 0
     have y1:v.cell? ⟨W.heap.size,1,none⟩=some (.int .i64 S):=BY.cell 1
     have y2:v.cell? ⟨W.heap.size,2,none⟩=some (.int .i64 N):=BY.cell 2
     have y3:v.cell? ⟨W.heap.size,3,none⟩=some (.slice ea en eC):=BY.cell 3
     have yl:=BY.lt
     have Bd:=B.call (ai (Below.refl v.heap.size v))
     have xd:=gl.call (ai (Below.refl v.heap.size v))
     have oe:=ai bel
     have EF:=s3.call (ai (Below.refl v.heap.size v))
     have cC:Calls Tryz.prog 68 #[.pointer (some ⟨g,0,none⟩),.int .i64 N] v.drew (nO Q g h v.drew HE Z):=by
      rw[eK,hZ,q2,q1]
      exact vQ N g h p ys x v.drew Bd xd q3
     clear q1 q2 q3
     replace hZ:=hide hZ
     replace eK:=hide eK
     clear nI B s3 gl bel
     go_wp2_with fail
     go_region
     all_goals(
      go_wp2_with fail
      go_at_call 68
      refine cC.mono ?_
      rintro e w4 hD
      have qj:=hD.pre oe
      clear hD
      obtain⟨rfl,pu⟩:=qj
      replace pu:=hide pu
      clear cC
      go_wp2_with fail
      go_ret
      exact⟨rfl,pu.out⟩)
    by_cases h6:K=6
    .subst h6
     obtain⟨q1,q2,q3⟩:=IM (y:=⟨6,S,N,L⟩) B.right hu (.inr rfl)
     rw[if_neg (show¬(⟨6,S,N,L⟩:Hp).k=5 by show¬(6:Int)=5;decide)] at q2 q3
     go_enter Tryz.func33,Tryz.ntmps33
     go_upto_region 3 with fail
     generalize World.alloc W _=v at*
     have y0:v.cell? ⟨W.heap.size,0,none⟩=some (.int .i64 6):=BY.cell 0
     have y1:v.cell? ⟨W.heap.size,1,none⟩=some (.int .i64 S):=BY.cell 1
     have y2:v.cell? ⟨W.heap.size,2,none⟩=some (.int .i64 N):=BY.cell 2
     have y3:v.cell? ⟨W.heap.size,3,none⟩=some (.slice ea en eC):=BY.cell 3
     have yl:=BY.lt
     have Bd:=B.call (ai (Below.refl v.heap.size v))
     have xd:=gl.call (ai (Below.refl v.heap.size v))
     have oe:=ai bel
     have EF:=s3.call (ai (Below.refl v.heap.size v))
     have cC:Calls Tryz.prog 69 #[.pointer (some ⟨g,0,none⟩),.int .i64 N,.int .i64 (-1)] v.drew (nO Q g h v.drew HE Z):=by
      rw[eK,hZ,q2,q1]
      exact pW N (-1) g h p ys x v.drew Bd q3
     clear q1 q2 q3
     replace hZ:=hide hZ
     replace eK:=hide eK
     clear nI B s3 gl bel
     go_wp2_with fail
     go_region
     all_goals(
      go_wp2_with fail
      go_at_call 69
      refine cC.mono ?_
      rintro e w4 hD
      have qj:=hD.pre oe
      clear hD
      obtain⟨rfl,pu⟩:=qj
      replace pu:=hide pu
      clear cC
      go_wp2_with fail
      go_ret
      exact⟨rfl,pu.out⟩)
    by_cases h7:K=7
    .subst h7
     obtain⟨q1,q2⟩:=Og (y:=⟨7,S,N,L⟩) hu rfl
     have eH:HE=0:=eK.trans q1
     have eZ:=hide (show Z=⟨dg,x.d,false,iw⟩ by rw[hZ,if_pos q1,q2])
     go_enter Tryz.func33,Tryz.ntmps33
     go_upto_region 3 with fail
     generalize World.alloc W _=v at*
     have y0:v.cell? ⟨W.heap.size,0,none⟩=some (.int .i64 7):=BY.cell 0
     have y1:v.cell? ⟨W.heap.size,1,none⟩=some (.int .i64 S):=BY.cell 1
     have y2:v.cell? ⟨W.heap.size,2,none⟩=some (.int .i64 N):=BY.cell 2
     have y3:v.cell? ⟨W.heap.size,3,none⟩=some (.slice ea en eC):=BY.cell 3
     have yl:=BY.lt
     have Bd:=B.call (ai (Below.refl v.heap.size v))
     have xd:=gl.call (ai (Below.refl v.heap.size v))
     have oe:=ai bel
     have EF:=s3.call (ai (Below.refl v.heap.size v))
     have cC:=tp Q g p x.up x.d v.drew Bd.blk Bd.is.e1 Bd.is.e2 Bd.is.s1 Bd.is.s2 (dQ Bd.right).1
     subst eH
     clear hZ eK nI B s3 gl bel q1 q2
     go_wp2_with fail
     go_region
     all_goals(
      go_wp2_with fail
      go_at_call 70
      refine cC.mono ?_
      rintro e w4 ⟨rfl,h',p',sq,WB,gr,hh⟩
      have pu:=hide (nO.pre oe (show nO Q g h v.drew 0 ⟨dg,x.d,false,iw⟩ (.returned (.int .i64 0)) w4 from⟨rfl,h',p',sq,WB,gp.box gr,.inr hh⟩))
      clear cC WB gr hh
      go_wp2_with fail
      go_ret
      rw[eZ.out]
      exact pu.out)
    have n5:(K==5)=false:=by simpa using h5
    have n6:(K==6)=false:=by simpa using h6
    have n7:(K==7)=false:=by simpa using h7
    have d5:decide (K=5)=false:=decide_eq_false h5
    have d6:decide (K=6)=false:=decide_eq_false h6
    have d7:decide (K=7)=false:=decide_eq_false h7
    by_cases h9:K=9
    .subst h9
     go_enter Tryz.func33,Tryz.ntmps33
     go_upto_region 3 with fail
     generalize World.alloc W _=v at*
     have y0:v.cell? ⟨W.heap.size,0,none⟩=some (.int .i64 9):=BY.cell 0
     have y1:v.cell? ⟨W.heap.size,1,none⟩=some (.int .i64 S):=BY.cell 1
     have y2:v.cell? ⟨W.heap.size,2,none⟩=some (.int .i64 N):=BY.cell 2
     have y3:v.cell? ⟨W.heap.size,3,none⟩=some (.slice ea en eC):=BY.cell 3
     have yl:=BY.lt
     have Bd:=B.call (ai (Below.refl v.heap.size v))
     have xd:=gl.call (ai (Below.refl v.heap.size v))
     have oe:=ai bel
     have EF:=s3.call (ai (Below.refl v.heap.size v))
     have cR:=fun V s=>rB ⟨9,S,N,L⟩ ea en eC V s h3
     unfold Cx at cR
     have cells:∀V,gp g h v.drew V->V.cell? ⟨W.heap.size,0,none⟩=some (.int .i64 9)/\V.cell? ⟨W.heap.size,1,none⟩=some (.int .i64 S)/\V.cell? ⟨W.heap.size,2,none⟩=some (.int .i64 N)/\V.cell? ⟨W.heap.size,3,none⟩=some (.slice ea en eC):=fun V hV=>
      have q:=ac.gb2 (W:=v.drew) (BY.keep (ai (Below.refl v.heap.size v)) BY.lt) hV VR Wp
      ⟨q.cell 0,q.cell 1,q.cell 2,q.cell 3⟩
     have kR:∀V,Below v.drew.heap.size v.drew V->Calls Tryz.prog 73 #[.agg #[.int .i64 9,.int .i64 S,.int .i64 N,.slice ea en eC]] V fun e w'=>∃(a:Option Addr) (n c:Nat),e=.returned (.agg #[.int .i64 (aO ⟨9,S,N,L⟩).k,.int .i64 (aO ⟨9,S,N,L⟩).s,.int .i64 (aO ⟨9,S,N,L⟩).n,.slice a n c])/\
       w'.cell? ⟨W.heap.size,0,none⟩=some (.int .i64 9)/\w'.cell? ⟨W.heap.size,1,none⟩=some (.int .i64 S)/\w'.cell? ⟨W.heap.size,2,none⟩=some (.int .i64 N)/\w'.cell? ⟨W.heap.size,3,none⟩=some (.slice ea en eC)/\
       Hid (n=(aO ⟨9,S,N,L⟩).e.length)/\aY ec w' a c (aO ⟨9,S,N,L⟩).e/\Below v.drew.heap.size v.drew w':=by
      intro V hV
      refine(cR V (EF.call hV)).mono ?_
      rintro e w' ⟨a,n,c,rfl,hn,s,b⟩
      obtain⟨c0,c1,c2,c3⟩:=cells w' (gp.below (aa hV b))
      exact⟨a,n,c,rfl,c0,c1,c2,c3,hn,s,aa hV b⟩
     have kT:∀V (a:Option Addr) (n c:Nat),Below v.drew.heap.size v.drew V->aY ec V a c (aO ⟨9,S,N,L⟩).e->Hid (n=(aO ⟨9,S,N,L⟩).e.length)->Calls Tryz.prog 72 #[.pointer (some ⟨g,0,none⟩),.agg #[.int .i64 (aO ⟨9,S,N,L⟩).k,.int .i64 (aO ⟨9,S,N,L⟩).s,.int .i64 (aO ⟨9,S,N,L⟩).n,.slice a n c],.int .i64 N] V fun e w'=>e=.returned (.int .i64 HE)/\
       w'.cell? ⟨W.heap.size,0,none⟩=some (.int .i64 9)/\w'.cell? ⟨W.heap.size,1,none⟩=some (.int .i64 S)/\w'.cell? ⟨W.heap.size,2,none⟩=some (.int .i64 N)/\w'.cell? ⟨W.heap.size,3,none⟩=some (.slice ea en eC)/\
       Hid (nO Q g h v.drew HE Z (.returned (.int .i64 HE)) w'):=by
      intro V a n c hV s hn
      have t:=Kw ⟨9,S,N,L⟩ rfl g h p ys x V (Bd.call hV) hu (xd.call hV) a n c s hn
      rw[<-hZ,<-eK] at t
      refine t.mono ?_
      rintro e w' hD
      have qj:=nO.pre hV hD
      obtain⟨rfl,h',p',sq,WB,gr,hh⟩:=qj
      obtain⟨c0,c1,c2,c3⟩:=cells w' gr
      exact⟨rfl,c0,c1,c2,c3,hide ⟨rfl,h',p',sq,WB,gr,hh⟩⟩
     have k0:Below v.drew.heap.size v.drew v.drew.drew:=ai (Below.refl _ _)
     generalize aO ⟨9,S,N,L⟩=R at*
     replace hZ:=hide hZ
     replace eK:=hide eK
     replace cells:=hide cells
     clear nI B s3 gl bel cR Bd EF xd
     go_wp2_with fail
     go_region
     all_goals(
      go_wp2_with fail
      go_region_held3 (fun w'=>w'.cell? ⟨W.heap.size,0,none⟩=some (.int .i64 9)/\w'.cell? ⟨W.heap.size,1,none⟩=some (.int .i64 S)/\w'.cell? ⟨W.heap.size,2,none⟩=some (.int .i64 N)/\w'.cell? ⟨W.heap.size,3,none⟩=some (.slice ea en eC)) (go_keep)
       (first
        | (go_at_call 72;refine(kT _ _ _ _ zA sA hA).mono ?_;rintro e wB ⟨rfl,r0,r1,r2,r3,hD⟩)
        | (go_at_call 73;refine(kR _ k0).mono ?_;rintro e wA ⟨a,n,c,rfl,q0,q1,q2,q3,hA,sA,zA⟩))
      all_goals(
       have pu:=hide (nO.pre oe hD.out)
       clear hD
       go_wp2_with fail
       go_ret
       exact pu.out))
    .have n9:(K==9)=false:=by simpa using h9
     have d9:decide (K=9)=false:=decide_eq_false h9
     go_enter Tryz.func33,Tryz.ntmps33
     go_upto_region 3 with fail
     generalize World.alloc W _=v at*
     have y0:v.cell? ⟨W.heap.size,0,none⟩=some (.int .i64 K):=BY.cell 0
     have y1:v.cell? ⟨W.heap.size,1,none⟩=some (.int .i64 S):=BY.cell 1
     have y2:v.cell? ⟨W.heap.size,2,none⟩=some (.int .i64 N):=BY.cell 2
     have y3:v.cell? ⟨W.heap.size,3,none⟩=some (.slice ea en eC):=BY.cell 3
     have yl:=BY.lt
     have Bd:=B.call (ai (Below.refl v.heap.size v))
     have xd:=gl.call (ai (Below.refl v.heap.size v))
     have oe:=ai bel
     have EF:=s3.call (ai (Below.refl v.heap.size v))
     have cR:=fun V s=>rB ⟨K,S,N,L⟩ ea en eC V s h3
     unfold Cx at cR
     have cW:∀V (a:Option Addr) (n c:Nat),Below v.drew.heap.size v.drew V->aY ec V a c (aO ⟨K,S,N,L⟩).e->Hid (n=(aO ⟨K,S,N,L⟩).e.length)->Calls Tryz.prog 74 #[.pointer (some ⟨g,0,none⟩),.agg #[.int .i64 (aO ⟨K,S,N,L⟩).k,.int .i64 (aO ⟨K,S,N,L⟩).s,.int .i64 (aO ⟨K,S,N,L⟩).n,.slice a n c]] V (nO Q g h V HE Z):=by
      intro V a n c hV s hn
      rw[eK,hZ]
      exact Er ⟨K,S,N,L⟩ (by show 1<=K/\K<=4;omega) g h p ys x V (Bd.call hV) (fun q e=>Nat.lt_of_lt_of_le (hQ.out q e) (Nat.le_trans oe.size hV.size)) hu (xd.call hV) a n c s hn
     generalize aO ⟨K,S,N,L⟩=R at*
     replace hZ:=hide hZ
     replace eK:=hide eK
     clear nI B s3 gl bel h1 Bd xd
     go_wp2_with fail
     go_region
     all_goals(
      go_wp2_with fail
      go_at_call 73
      refine(cR _ EF).mono ?_
      rintro e w4 ⟨a,n,c,rfl,hn,sR,b4⟩
      clear cR
      go_wp2_with fail
      go_at_call 74
      refine(cW _ a n c b4 sR hn).mono ?_
      rintro e w5 hD
      have qj:=nO.pre (aa oe b4) hD
      clear hD
      obtain⟨rfl,pu⟩:=qj
      replace pu:=hide pu
      clear cW sR b4
      go_wp2_with fail
      go_ret
      exact⟨rfl,pu.out⟩)
end Go.Proofs.YtoonnbhoiocoeaaGreatDoor
