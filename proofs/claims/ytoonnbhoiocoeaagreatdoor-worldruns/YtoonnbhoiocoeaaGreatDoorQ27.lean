/-
  world.write and world.tear: a record's work, when the record is safe; the power goes in the midst of one.
-/
import Derived.Test.YtoonnbhoiocoeaaGreatDoorQ26
set_option maxHeartbeats 40000000
set_option maxRecDepth 100000
set_option linter.unusedVariables false
namespace Go.Proofs.YtoonnbhoiocoeaaGreatDoor
open Go.RowKit
open Go.Lib (byteCells)
def iS (base:Nat)(x:Wd)(r:Rc)(a':Option Addr)(n' G':Nat)(b1:Option Addr)(m1 k1:Nat)(b2:Option Addr)(m2 k2:Nat)(w':World):Prop:=
 iB x r=0->n'=4/\eP base w' a' G' (dH x.c r)/\m1=(cU x.d r).safe.length/\m2=(cU x.d r).wait.length/\Sl w' b1 k1 (byteCells (cU x.d r).safe)/\Sl w' b2 k2 (byteCells (cU x.d r).wait)
theorem qp {x:Wd}{r:Rc}(h:iB x r=0):bJ x.c r=0/\dX x.d r=0:=by
 unfold iB at h
 by_cases h1:bJ x.c r=0
 .rw[if_neg (by simp[h1])] at h
  exact⟨h1,h⟩
 rw[if_pos h1] at h
 exact absurd h h1
section
variable {base:Nat} {x:Wd} {r:Rc} {a':Option Addr} {n' G':Nat} {b1:Option Addr} {m1 k1:Nat} {b2:Option Addr} {m2 k2:Nat} {w':World}
theorem iS.call {w2:World}(h:iS base x r a' n' G' b1 m1 k1 b2 m2 k2 w')(hb:Below w'.heap.size w' w2):iS base x r a' n' G' b1 m1 k1 b2 m2 k2 w2:=fun e=>
 have q:=h e
 ⟨q.1,q.2.1.call hb,q.2.2.1,q.2.2.2.1,q.2.2.2.2.1.call hb,q.2.2.2.2.2.call hb⟩
theorem iS.alloc (h:iS base x r a' n' G' b1 m1 k1 b2 m2 k2 w')(o:Obj):iS base x r a' n' G' b1 m1 k1 b2 m2 k2 (w'.alloc o):=
 h.call ((Below.refl _ _).alloc (Nat.le_refl _) o)
theorem iS.down {base':Nat}(h:iS base x r a' n' G' b1 m1 k1 b2 m2 k2 w')(hb:base'<=base):iS base' x r a' n' G' b1 m1 k1 b2 m2 k2 w':=fun e=>
 have q:=h e
 ⟨q.1,q.2.1.down hb,q.2.2⟩
theorem iS.setS {g:Nat}{q1:Option Addr}{q2 q3:Nat}(h:iS base x r a' n' G' b1 m1 k1 b2 m2 k2 w')(B:ag w' g [.slice q1 q2 q3] 24)(u:Value):iS base x r a' n' G' b1 m1 k1 b2 m2 k2 (w'.setCell ⟨g,0,none⟩ u):=fun e=>
 have q:=h e
 have gr:=al (au w' (some g)) 0 u
 ⟨q.1,q.2.1.boxed B u,q.2.2.1,q.2.2.2.1,dA q.2.2.2.2.1 B (by simp) gr,dA q.2.2.2.2.2 B (by simp) gr⟩
theorem iS.setD {g i:Nat}{q1 q4:Option Addr}{q2 q3 q5 q6:Nat}(h:iS base x r a' n' G' b1 m1 k1 b2 m2 k2 w')(B:ag w' g [.slice q1 q2 q3,.slice q4 q5 q6] 27)(u:Value):iS base x r a' n' G' b1 m1 k1 b2 m2 k2 (w'.setCell ⟨g,i,none⟩ u):=fun e=>
 have q:=h e
 have gr:=al (au w' (some g)) i u
 ⟨q.1,q.2.1.setD (bZ (gV (qp e).1)) B,q.2.2.1,q.2.2.2.1,dA q.2.2.2.2.1 B (by simp) gr,dA q.2.2.2.2.2 B (by simp) gr⟩
def IC (base:Nat)(v:World)(x:Wd)(r:Rc)(EA:Int)(s5 s6 s7:Value)(wx:World):Prop:=
 ∃(bS bD:Nat) (a':Option Addr) (n' G':Nat) (b1:Option Addr) (m1 k1:Nat) (b2:Option Addr) (m2 k2:Nat),s5=.pointer (some ⟨bS,0,none⟩)/\s6=.pointer (some ⟨bD,0,none⟩)/\s7=.int .i64 EA/\ag wx bS [.slice a' n' G'] 24/\ag wx bD [.slice b1 m1 k1,.slice b2 m2 k2] 27/\Hid (iS base x r a' n' G' b1 m1 k1 b2 m2 k2 wx)/\base<=bS/\base<=bD/\Below base v wx
variable {v:World} {EA:Int}
theorem Rs (h:iS base x r a' n' G' b1 m1 k1 b2 m2 k2 w')(hb:Below base v w')(hs:base<=w'.heap.size):
  IC base v x r EA (.pointer (some ⟨w'.heap.size,0,none⟩)) (.pointer (some ⟨w'.heap.size+1,0,none⟩)) (.int .i64 EA) ((w'.alloc (.cells #[.slice a' n' G'] 24)).alloc (.cells #[.slice b1 m1 k1,.slice b2 m2 k2] 27)):=
 ⟨_,_,a',n',G',b1,m1,k1,b2,m2,k2,rfl,rfl,rfl,(ag.laid w' [.slice a' n' G'] _ _ rfl).alc _,ag.laid (w'.alloc _) [.slice b1 m1 k1,.slice b2 m2 k2] _ _ (by simp),aa ((h.alloc _).alloc _),hs,by omega,(hb.alloc hs _).alloc (by simp;omega) _⟩
theorem Rk (h:iS base x r a' n' G' b1 m1 k1 b2 m2 k2 w')(hb:Below base v w')(hs:base<=w'.heap.size):
  IC base v x r EA (.pointer (some ⟨w'.heap.size+1,0,none⟩)) (.pointer (some ⟨w'.heap.size,0,none⟩)) (.int .i64 EA) ((w'.alloc (.cells #[.slice b1 m1 k1,.slice b2 m2 k2] 27)).alloc (.cells #[.slice a' n' G'] 24)):=
 ⟨_,_,a',n',G',b1,m1,k1,b2,m2,k2,rfl,rfl,rfl,ag.laid (w'.alloc _) [.slice a' n' G'] _ _ (by simp),(ag.laid w' [.slice b1 m1 k1,.slice b2 m2 k2] _ _ rfl).alc _,aa ((h.alloc _).alloc _),by omega,hs,(hb.alloc hs _).alloc (by simp;omega) _⟩
theorem RA {q:Nat}(h:iS base x r a' n' G' b1 m1 k1 b2 m2 k2 w')(hb:Below base v w')(hs:base<=w'.heap.size)(R:ag w' q [.slice none 0 0] 24)(hq:base<=q):
  IC base v x r EA (.pointer (some ⟨q,0,none⟩)) (.pointer (some ⟨w'.heap.size,0,none⟩)) (.int .i64 EA) ((w'.setCell ⟨q,0,none⟩ (.slice a' n' G')).alloc (.cells #[.slice b1 m1 k1,.slice b2 m2 k2] 27)):=
 ⟨_,_,a',n',G',b1,m1,k1,b2,m2,k2,rfl,rfl,rfl,(R.set 0 _).alc _,ag.laid _ [.slice b1 m1 k1,.slice b2 m2 k2] _ _ (by simp),aa ((h.setS R _).alloc _),hq,hs,(hb.setCell (p:=⟨q,0,none⟩) hq _).alloc (by simpa using hs) _⟩
theorem Ju {q q':Nat}(h:iS base x r a' n' G' b1 m1 k1 b2 m2 k2 w')(hb:Below base v w')(R:ag w' q [.slice none 0 0] 24)(R':ag w' q' [.slice none 0 0,.slice none 0 0] 27)(hq:base<=q)(iZ:base<=q')(aF:q≠q'):
  IC base v x r EA (.pointer (some ⟨q,0,none⟩)) (.pointer (some ⟨q',0,none⟩)) (.int .i64 EA) (((w'.setCell ⟨q,0,none⟩ (.slice a' n' G')).setCell ⟨q',0,none⟩ (.slice b1 m1 k1)).setCell ⟨q',1,none⟩ (.slice b2 m2 k2)):=
 have R2:=R'.other 0 (.slice a' n' G') aF
 ⟨_,_,a',n',G',b1,m1,k1,b2,m2,k2,rfl,rfl,rfl,((R.set 0 (.slice a' n' G')).other 0 _ aF.symm).other 1 _ aF.symm,fZ R2 _ _,aa (((h.setS R (.slice a' n' G')).setD R2 (i:=0) (.slice b1 m1 k1)).setD (R2.set 0 (.slice b1 m1 k1)) (i:=1) _),hq,iZ,dt (hb.setCell (p:=⟨q,0,none⟩) hq _) iZ _ _⟩
theorem Rx {q:Nat}(h:iS base x r a' n' G' b1 m1 k1 b2 m2 k2 w')(hb:Below base v w')(hs:base<=w'.heap.size)(R:ag w' q [.slice none 0 0,.slice none 0 0] 27)(hq:base<=q):
  IC base v x r EA (.pointer (some ⟨w'.heap.size,0,none⟩)) (.pointer (some ⟨q,0,none⟩)) (.int .i64 EA) (((w'.setCell ⟨q,0,none⟩ (.slice b1 m1 k1)).setCell ⟨q,1,none⟩ (.slice b2 m2 k2)).alloc (.cells #[.slice a' n' G'] 24)):=
 ⟨_,_,a',n',G',b1,m1,k1,b2,m2,k2,rfl,rfl,rfl,ag.laid _ [.slice a' n' G'] _ _ (by simp),(fZ R _ _).alc _,aa (((h.setD R (i:=0) (.slice b1 m1 k1)).setD (R.set 0 (.slice b1 m1 k1)) (i:=1) _).alloc _),hs,hq,(dt hb hq _ _).alloc (by simpa using hs) _⟩
end
theorem Bg {x:Wd}{y:Hp}(hk:1<=y.k/\y.k<=4)(h:bR x y=0):dz x y=⟨dH x.c (aK y),iJ (cU x.d (aK y)),x.up,x.rd⟩:=by
 unfold dz
 rw[if_neg (by simp[h]),if_neg (by omega),if_neg (by omega),if_neg (by omega),if_neg (by omega),if_neg (by omega)]
theorem xx {x:Wd}{y:Hp}(hk:(1<=y.k/\y.k<=4)\/y.k=9)(hu:x.up=true):bR x y=if iB x (aK y)≠0 then iB x (aK y) else if y.k=9 then 0 else gk (cU x.d (aK y)):=by
 rw[yq hk hu]
 unfold iB
 by_cases h1:bJ x.c (aK y)=0
 .simp only[h1,ne_eq,not_true_eq_false,if_false]
 simp[h1]
theorem FI {Q:Nat->Prop}(y:Hp)(hk:1<=y.k/\y.k<=4)(g h:Nat)(p:Pw)(ys:List Int)(x:Wd)(W:World)(B:ix Q W g h p ys x)(hQ:∀q,Q q->q<W.heap.size)(hu:x.up=true)(hg:Gl W)(ea:Option Addr)(en eC:Nat)(s3:be ec W ea eC (aK y).e)(h3:Hid (en=(aK y).e.length)):
  Calls Tryz.prog 74 #[.pointer (some ⟨g,0,none⟩),.agg #[.int .i64 (aK y).k,.int .i64 (aK y).s,.int .i64 (aK y).n,.slice ea en eC]] W (nY Q g h W (bR x y) (if bR x y=0 then dz x y else x)):=by
 have hE:=aa (xx (.inl hk) hu)
 have hM:=aa (fun e:bR x y=0=>Bg hk e)
 have uV:=aa (fun e:bR x y=0=>sD B.right e)
 have RG:=aa (show¬y.k=9 by omega)
 replace hQ:=aa hQ
 obtain⟨Z,hZ⟩:∃Z,Z=(if bR x y=0 then dz x y else x):=⟨_,rfl⟩
 rw[<-hZ]
 obtain⟨HE,dO⟩:∃HE,HE=bR x y:=⟨_,rfl⟩
 rw[<-dO]
 replace hZ:=aa hZ
 replace dO:=aa dO
 obtain⟨r,hr⟩:∃r,r=aK y:=⟨_,rfl⟩
 rw[<-hr] at s3 h3⊢
 replace hE:=hE.out
 replace hM:=hM.out
 rw[<-hr] at hE hM
 rw[if_neg RG.out] at hE
 replace hE:=aa hE
 replace hM:=aa hM
 replace uV:=uV.out
 have cA:=fun V gl I s=>zi x r p ea en eC V gl I B.right s h3
 obtain⟨C,D,up,rd⟩:=x
 simp only at hu
 subst hu
 replace uV:=aa uV
 obtain⟨sa,sn,sG,a1,n1,c1,a2,n2,c2,ra,rn,rc⟩:=p
 simp only[Pw.val] at cA
 have BQ:=ag.laid W [.int .i64 r.k,.int .i64 r.s,.int .i64 r.n,.slice ea en eC] 73 _ rfl
 have bel:=newB (Below.refl W.heap.size W) (.cells #[.int .i64 r.k,.int .i64 r.s,.int .i64 r.n,.slice ea en eC] 73)
 replace B:=B.call bel
 replace s3:=s3.call bel
 have gl:=hg.call bel
 obtain⟨K,S,N,L⟩:=r
 replace hr:=aa hr
 go_enter Tryz.func74,Tryz.ntmps74
 go_upto_region 1 with fail
 generalize hv:World.alloc W _=v at*
 have x0:v.cell? ⟨g,0,none⟩=some (.slice sa sn sG):=B.blk.cell 0
 have x1:v.cell? ⟨g,1,none⟩=some (.slice a1 n1 c1):=B.blk.cell 1
 have x2:v.cell? ⟨g,2,none⟩=some (.slice a2 n2 c2):=B.blk.cell 2
 have x3:v.cell? ⟨g,3,none⟩=some (.bool true):=B.blk.cell 3
 have x4:v.cell? ⟨g,4,none⟩=some (.slice ra rn rc):=B.blk.cell 4
 have z0:v.cell? ⟨W.heap.size,0,none⟩=some (.int .i64 K):=BQ.cell 0
 have z1:v.cell? ⟨W.heap.size,1,none⟩=some (.int .i64 S):=BQ.cell 1
 have z2:v.cell? ⟨W.heap.size,2,none⟩=some (.int .i64 N):=BQ.cell 2
 have z3:v.cell? ⟨W.heap.size,3,none⟩=some (.slice ea en eC):=BQ.cell 3
 have cells:∀V,Below v.heap.size v V->V.cell? ⟨g,0,none⟩=some (.slice sa sn sG)/\V.cell? ⟨g,1,none⟩=some (.slice a1 n1 c1)/\V.cell? ⟨g,2,none⟩=some (.slice a2 n2 c2)/\V.cell? ⟨g,3,none⟩=some (.bool true)/\V.cell? ⟨g,4,none⟩=some (.slice ra rn rc)/\V.cell? ⟨W.heap.size,0,none⟩=some (.int .i64 K)/\V.cell? ⟨W.heap.size,1,none⟩=some (.int .i64 S)/\V.cell? ⟨W.heap.size,2,none⟩=some (.int .i64 N)/\V.cell? ⟨W.heap.size,3,none⟩=some (.slice ea en eC):=fun V hV=>
  ⟨(B.call hV).blk.cell 0,(B.call hV).blk.cell 1,(B.call hV).blk.cell 2,(B.call hV).blk.cell 3,(B.call hV).blk.cell 4,(BQ.keep hV BQ.lt).cell 0,(BQ.keep hV BQ.lt).cell 1,(BQ.keep hV BQ.lt).cell 2,(BQ.keep hV BQ.lt).cell 3⟩
 have kA:∀V,Below v.heap.size v V->Calls Tryz.prog 107 #[.agg #[.slice sa sn sG,.slice a1 n1 c1,.slice a2 n2 c2,.bool true,.slice ra rn rc],.agg #[.int .i64 K,.int .i64 S,.int .i64 N,.slice ea en eC]] V fun e w'=>∃(a':Option Addr) (n' G':Nat) (b1:Option Addr) (m1 k1:Nat) (b2:Option Addr) (m2 k2:Nat),e=.returned (.tuple #[.agg #[.slice a' n' G'],.agg #[.slice b1 m1 k1,.slice b2 m2 k2],.int .i64 (iB ⟨C,D,true,rd⟩ ⟨K,S,N,L⟩)])/\
   w'.cell? ⟨g,0,none⟩=some (.slice sa sn sG)/\w'.cell? ⟨g,1,none⟩=some (.slice a1 n1 c1)/\w'.cell? ⟨g,2,none⟩=some (.slice a2 n2 c2)/\w'.cell? ⟨g,3,none⟩=some (.bool true)/\w'.cell? ⟨g,4,none⟩=some (.slice ra rn rc)/\w'.cell? ⟨W.heap.size,0,none⟩=some (.int .i64 K)/\w'.cell? ⟨W.heap.size,1,none⟩=some (.int .i64 S)/\w'.cell? ⟨W.heap.size,2,none⟩=some (.int .i64 N)/\w'.cell? ⟨W.heap.size,3,none⟩=some (.slice ea en eC)/\
   Hid (iS V.heap.size ⟨C,D,true,rd⟩ ⟨K,S,N,L⟩ a' n' G' b1 m1 k1 b2 m2 k2 w')/\Below V.heap.size V w'/\Below v.heap.size v w':=by
  intro V hV
  refine(cA V (gl.call hV) (B.call hV).is (s3.call hV)).mono ?_
  rintro e w' ⟨a',n',G',b1,m1,k1,b2,m2,k2,rfl,hA,b⟩
  obtain⟨q0,q1,q2,q3,q4,q5,q6,q7,q8⟩:=cells w' (ac hV b)
  exact⟨a',n',G',b1,m1,k1,b2,m2,k2,rfl,q0,q1,q2,q3,q4,q5,q6,q7,q8,hA,b,ac hV b⟩
 have k0:Below v.heap.size v v.drew:=ak (Below.refl _ _)
 generalize f7:iB ⟨C,D,true,rd⟩ ⟨K,S,N,L⟩=EA at*
 have lg:g<v.heap.size:=B.blk.lt
 have lq:W.heap.size<v.heap.size:=BQ.lt
 have RQ:¬g=v.heap.size:=by omega
 have Mp:¬v.heap.size=g:=by omega
 have E':¬W.heap.size=v.heap.size:=by omega
 have Ok:¬v.heap.size=W.heap.size:=by omega
 have GH:¬g=v.heap.size+1:=by omega
 have OX:¬v.heap.size+1=g:=by omega
 have KB:¬W.heap.size=v.heap.size+1:=by omega
 have Mf:¬v.heap.size+1=W.heap.size:=by omega
 have Q2:ag (v.alloc (.cells #[.slice none 0 0] 24)).drew v.heap.size [.slice none 0 0] 24:=ag.laid v [.slice none 0 0] _ _ rfl
 have Q3:ag (v.alloc (.cells #[.slice none 0 0,.slice none 0 0] 27)).drew v.heap.size [.slice none 0 0,.slice none 0 0] 27:=ag.laid v [.slice none 0 0,.slice none 0 0] _ _ rfl
 have Q4:ag ((v.alloc (.cells #[.slice none 0 0] 24)).alloc (.cells #[.slice none 0 0,.slice none 0 0] 27)).drew v.heap.size [.slice none 0 0] 24:=(ag.laid v [.slice none 0 0] _ _ rfl).alc (.cells #[.slice none 0 0,.slice none 0 0] 27)
 have Q4':ag ((v.alloc (.cells #[.slice none 0 0] 24)).alloc (.cells #[.slice none 0 0,.slice none 0 0] 27)).drew (v.heap.size+1) [.slice none 0 0,.slice none 0 0] 27:=ag.laid (v.alloc (.cells #[.slice none 0 0] 24)) [.slice none 0 0,.slice none 0 0] _ _ (by simp)
 have Q5:ag ((v.alloc (.cells #[.slice none 0 0,.slice none 0 0] 27)).alloc (.cells #[.slice none 0 0] 24)).drew v.heap.size [.slice none 0 0,.slice none 0 0] 27:=(ag.laid v [.slice none 0 0,.slice none 0 0] _ _ rfl).alc (.cells #[.slice none 0 0] 24)
 have Q5':ag ((v.alloc (.cells #[.slice none 0 0,.slice none 0 0] 27)).alloc (.cells #[.slice none 0 0] 24)).drew (v.heap.size+1) [.slice none 0 0] 24:=ag.laid (v.alloc (.cells #[.slice none 0 0,.slice none 0 0] 27)) [.slice none 0 0] _ _ (by simp)
 replace f7:=aa f7
 replace hv:=aa hv
 replace B:=aa B
 replace bel:=aa bel
 replace s3:=aa s3
 clear cells cA BQ
 replace gl:=aa gl
 go_cut [5,6,7] from 8 to 16 (fun s5 s6 s7 wx=>IC v.heap.size v ⟨C,D,true,rd⟩ ⟨K,S,N,L⟩ EA s5 s6 s7 wx)
 case first=>
  go_region_held3 (fun w'=>w'.cell? ⟨g,0,none⟩=some (.slice sa sn sG)/\w'.cell? ⟨g,1,none⟩=some (.slice a1 n1 c1)/\w'.cell? ⟨g,2,none⟩=some (.slice a2 n2 c2)/\w'.cell? ⟨g,3,none⟩=some (.bool true)/\w'.cell? ⟨g,4,none⟩=some (.slice ra rn rc)/\w'.cell? ⟨W.heap.size,0,none⟩=some (.int .i64 K)/\w'.cell? ⟨W.heap.size,1,none⟩=some (.int .i64 S)/\w'.cell? ⟨W.heap.size,2,none⟩=some (.int .i64 N)/\w'.cell? ⟨W.heap.size,3,none⟩=some (.slice ea en eC)) (go_keep)
   (first
    | (go_at_call 107;refine(kA _ (by first|exact k0|exact ak (newB (Below.refl _ _) _)|exact ak (newB (newB (Below.refl _ _) _) _))).mono ?_;rintro e w4 ⟨a',n',G',b1,m1,k1,b2,m2,k2,rfl,q0,q1,q2,q3,q4,q5,q6,q7,q8,hA,b4,zA⟩;have gz:=zA.size;have o0:¬g=w4.heap.size:=by {omega};have o0':¬w4.heap.size=g:=by {omega};have o1:¬W.heap.size=w4.heap.size:=by {omega};have o1':¬w4.heap.size=W.heap.size:=by {omega};have o2:¬g=w4.heap.size+1:=by {omega};have o2':¬w4.heap.size+1=g:=by {omega};have o3:¬W.heap.size=w4.heap.size+1:=by {omega};have o3':¬w4.heap.size+1=W.heap.size:=by {omega};(first| (have R1:=Q2.keep b4 Q2.lt;have c0:=R1.cell 0;have Io:=R1.free 0;have cl:=R1.lt;have u1:¬v.heap.size=w4.heap.size:=by {omega};have Cv:¬w4.heap.size=v.heap.size:=by {omega})| (have R1:=Q3.keep b4 Q3.lt;have c0:=R1.cell 0;have Io:=R1.free 0;have cl:=R1.lt;have c1:=R1.cell 1;have Uf:=R1.free 1;have u1:¬v.heap.size=w4.heap.size:=by {omega};have Cv:¬w4.heap.size=v.heap.size:=by {omega})| (have R1:=Q4.keep b4 Q4.lt;have R2:=Q4'.keep b4 Q4'.lt;have c0:=R1.cell 0;have Io:=R1.free 0;have cl:=R1.lt;have d0:=R2.cell 0;have UV:=R2.free 0;have dl:=R2.lt;have d1:=R2.cell 1;have YB:=R2.free 1;have u1:¬v.heap.size=v.heap.size+1:=by {omega};have Cv:¬v.heap.size+1=v.heap.size:=by {omega})| (have R1:=Q5.keep b4 Q5.lt;have R2:=Q5'.keep b4 Q5'.lt;have c0:=R1.cell 0;have Io:=R1.free 0;have cl:=R1.lt;have c1:=R1.cell 1;have Uf:=R1.free 1;have d0:=R2.cell 0;have UV:=R2.free 0;have dl:=R2.lt;have u1:¬v.heap.size=v.heap.size+1:=by {omega};have Cv:¬v.heap.size+1=v.heap.size:=by {omega})|skip)))
  all_goals(
   go_wp2_with fail
   go_meet
   case rel=>
    have kh:=hA.out.down (base':=v.heap.size) (by first|exact Nat.le_refl _|exact(ak (newB (Below.refl v.heap.size v) _)).size|exact(ak (newB (newB (Below.refl v.heap.size v) _) _)).size)
    first
     |exact Rs kh zA zA.size
     |exact Rk kh zA zA.size
     |exact RA kh zA zA.size R1 (Nat.le_refl _)
     |exact Rx kh zA zA.size R1 (Nat.le_refl _)
     |exact Ju kh zA R1 R2 (Nat.le_refl _) (Nat.le_succ _) u1
     |exact Ju kh zA R2 R1 (Nat.le_succ _) (Nat.le_refl _) Cv)
 case rest=>
  obtain⟨bS,bD,a',n',G',b1,m1,k1,b2,m2,k2,rfl,rfl,rfl,BS,BD,hA,lS,lD,hcut⟩:=hcut
  have B0:=aa B.out
  have cq:=aa bel.out
  have aE:Hid (h<v.heap.size):=aa B.out.rb.lt
  replace B:=B.out.call hcut
  replace bel:=ac bel.out hcut
  replace gl:=gl.out.call hcut
  clear x0 x1 x2 x3 x4 z0 z1 z2 z3 kA k0 Q2 Q3 Q4 Q4' Q5 Q5' RQ Mp E' Ok GH OX KB Mf s3
  have ll:=hE.out
  have kG:=dO.out.trans ll
  clear ll
  have ll:=kG
  clear kG
  by_cases hz:EA=0
  .obtain⟨rfl,IN,q1,q2,T1,T2⟩:=hA.out (f7.out.trans hz)
   obtain⟨J5,Af⟩:=qp (f7.out.trans hz)
   rw[if_neg (fun e=>e hz)] at ll
   subst hz
   simp only at q1 q2 T1 T2 IN J5 Af
   have F':=rq (mD Af).2.2.2
   have cS:=fun V gl s t=>Ld (cU D ⟨K,S,N,L⟩) b1 b2 k1 k2 m1 m2 V gl s t q1 q2 (by rw[q1,q2];exact Nat.le_trans F' (by decide))
   have h4:=aa (bZ (gV J5))
   replace ll:=aa ll
   replace q1:=aa q1
   replace q2:=aa q2
   clear hA J5 Af F' hE f7
   obtain⟨d0,d1,dl⟩:=BD.c2
   go_wp2_with fail
   go_at_call 109
   refine(cS _ gl T1 T2).mono ?_
   rintro e w5 ⟨r1,r2,i1,i2,j1,j2,rfl,km,rT,t1,t2,b5⟩
   replace km:=aa km
   replace rT:=aa rT
   clear d0 d1 dl cS T1 T2 q1 q2 gl
   replace BS:=BS.keep b5 BS.lt
   replace BD:=BD.keep b5 BD.lt
   replace IN:=IN.call b5
   replace hcut:=hcut.trans (b5.mono hcut.size)
   replace B:=B.call b5
   have Tx:=h
   clear Tx b5
   generalize hSE:gk (cU D ⟨K,S,N,L⟩)=SE at*
   generalize hSD:iJ (cU D ⟨K,S,N,L⟩)=SD at*
   have d0:=BD.cell 0
   have d1:=BD.cell 1
   have f0:=BD.free 0
   have f1:=BD.free 1
   have dl:=BD.lt
   have Ab:Below v.heap.size v ((w5.setCell ⟨bD,0,none⟩ (.slice r1 i1 j1)).setCell ⟨bD,1,none⟩ (.slice r2 i2 j2)):=dt hcut lD _ _
   have B9:=B0.out.call Ab
   have J6:=(IN.setD h4.out BD (i:=0) (u:=.slice r1 i1 j1)).setD h4.out (BD.set 0 (.slice r1 i1 j1)) (i:=1) (u:=.slice r2 i2 j2)
   have yh:=al (al (au w5 (some bD)) 0 (.slice r1 i1 j1)) 1 (.slice r2 i2 j2)
   have T1:=dA t1 BD (by simp) yh
   have T2:=dA t2 BD (by simp) yh
   have D9:=fZ BD (.slice r1 i1 j1) (.slice r2 i2 j2)
   have qd:Hid (Below W.heap.size W ((w5.setCell ⟨bD,0,none⟩ (.slice r1 i1 j1)).setCell ⟨bD,1,none⟩ (.slice r2 i2 j2))):=aa (cq.out.trans (Ab.mono cq.out.size))
   by_cases Mr:bS=bD
   .subst Mr
    exact absurd (bV BS BD) (by decide)
   have S9:ag ((w5.setCell ⟨bD,0,none⟩ (.slice r1 i1 j1)).setCell ⟨bD,1,none⟩ (.slice r2 i2 j2)) bS [.slice a' 4 G'] 24:=(BS.other 0 _ (fun e=>Mr e.symm)).other 1 _ (fun e=>Mr e.symm)
   replace T1:=aa T1
   replace T2:=aa T2
   replace J6:=aa J6
   replace Ab:=aa Ab
   clear IN t1 t2 yh BS BD B hcut
   by_cases hs:SE=0
   .subst hs
    go_upto_region 7 with fail
    clear d0 d1 f0 f1 dl
    generalize World.setCell (World.setCell w5 _ _) _ _=w9 at*
    have s0:=S9.cell 0
    have sl:=S9.lt
    obtain⟨d0,d1,dl⟩:=D9.c2
    have x0:w9.cell? ⟨g,0,none⟩=some (.slice sa sn sG):=B9.blk.cell 0
    have x1:w9.cell? ⟨g,1,none⟩=some (.slice a1 n1 c1):=B9.blk.cell 1
    have x2:w9.cell? ⟨g,2,none⟩=some (.slice a2 n2 c2):=B9.blk.cell 2
    obtain⟨g0,g1,g2⟩:=B9.blk.f3
    have Vt:=B9.blk.lt
    have E':¬g=bS:=by omega
    have GH:¬bS=g:=by omega
    have KB:¬g=bD:=by omega
    have Zk:¬bD=g:=by omega
    have gr:=al (al (al (au w9 (some g)) 0 (.slice a' 4 G')) 1 (.slice r1 i1 j1)) 2 (.slice r2 i2 j2)
    have BB:=((B9.blk.set 0 (.slice a' 4 G')).set 1 (.slice r1 i1 j1)).set 2 (.slice r2 i2 j2)
    have fP:HE=0:=ll.out
    have hm:=hM.out (dO.out.symm.trans fP)
    have rL:=uV.out (dO.out.symm.trans fP)
    rw[hm] at rL
    have WB:=aa (ix.wrote (Q:=Q) (h:=h) (p:=⟨a',4,G',r1,i1,j1,r2,i2,j2,ra,rn,rc⟩) (ys:=ys) (x:=⟨dH C ⟨K,S,N,L⟩,SD,true,rd⟩) B9.blk gr BB
     ⟨h4.out.symm,km.out,rT.out,B9.is.er,J6.out.is,T1.out,T2.out,B9.is.r⟩ (J6.out.off (fun q hq=>hq.elim (fun e=>by rw[e];exact aE.out) (fun e=>Nat.lt_of_lt_of_le (hQ.out q e) cq.out.size))) rL B9.ra B9.rb B9.ry B9.rm)
    have gb:=aa ((gq.below (g:=g) (h:=h) qd.out).trans (gq.box gr) (.inl rfl))
    replace hm:=aa hm
    replace fP:=aa fP
    clear gr BB B9 S9 D9 J6 T1 T2 rL ll uV hM
    go_region
    all_goals(
     go_wp2_with fail
     go_ret
     rw[hZ.out,if_pos (dO.out.symm.trans fP.out),hm.out,fP.out]
     exact⟨rfl,h,_,ys,WB.out.call (ak (Below.refl _ _)),gb.out.call (ak (Below.refl _ _)),.inl rfl⟩)
   have rP:decide (SE=0)=false:=decide_eq_false hs
   have fP:Hid (HE=SE):=aa ll.out
   clear ll uV hM S9 D9 J6 T1 T2
   replace B9:=aa B9
   go_wp2_with fail
   go_ret
   rw[hZ.out,if_neg (fun e=>hs (fP.out.symm.trans (dO.out.trans e))),fP.out]
   exact⟨rfl,h,_,ys,B9.out,gq.below qd.out,.inl rfl⟩
  rw[if_pos hz] at ll
  have xj:decide (EA=0)=false:=decide_eq_false hz
  have fP:Hid (HE=EA):=aa ll
  replace B:=aa B
  replace bel:=aa bel
  clear hE ll uV hM hA BS BD
  go_wp2_with fail
  go_ret
  rw[hZ.out,if_neg (fun e=>hz (fP.out.symm.trans (dO.out.trans e))),fP.out]
  exact⟨rfl,h,_,ys,B.out,gq.below bel.out,.inl rfl⟩
theorem A8 (n:Int)(l:List UInt8)(k:Nat)(hk:min (max n 0) (l.length:Int)=k):l.take n.toNat=l.take k:=by
 by_cases h:n.toNat<=l.length
 .have:n.toNat=k:=by omega
  rw[this]
 rw[List.take_of_length_le (by omega),List.take_of_length_le (by omega)]
theorem Lp {Q:Nat->Prop}(y:Hp)(hk:y.k=9)(g h:Nat)(p:Pw)(ys:List Int)(x:Wd)(W:World)(B:ix Q W g h p ys x)(hu:x.up=true)(hg:Gl W)(ea:Option Addr)(en eC:Nat)(s3:be ec W ea eC (aK y).e)(h3:Hid (en=(aK y).e.length)):
  Calls Tryz.prog 72 #[.pointer (some ⟨g,0,none⟩),.agg #[.int .i64 (aK y).k,.int .i64 (aK y).s,.int .i64 (aK y).n,.slice ea en eC],.int .i64 y.n] W (nY Q g h W (bR x y) (if bR x y=0 then dz x y else x)):=by
 have hE:=aa (xx (.inr hk) hu)
 have hM:=aa (fun e:bR x y=0=>(uZ hk e).1)
 obtain⟨Z,hZ⟩:∃Z,Z=(if bR x y=0 then dz x y else x):=⟨_,rfl⟩
 rw[<-hZ]
 obtain⟨HE,dO⟩:∃HE,HE=bR x y:=⟨_,rfl⟩
 rw[<-dO]
 replace hZ:=aa hZ
 replace dO:=aa dO
 obtain⟨Yn,Qy⟩:∃Yn,Yn=y.n:=⟨_,rfl⟩
 rw[<-Qy]
 replace Qy:=aa Qy
 have RG:=aa hk
 obtain⟨r,hr⟩:∃r,r=aK y:=⟨_,rfl⟩
 rw[<-hr] at s3 h3⊢
 replace hE:=hE.out
 replace hM:=hM.out
 rw[<-hr] at hE hM
 rw[if_pos RG.out] at hE
 replace hE:=aa hE
 replace hM:=aa hM
 clear hk
 have cA:=fun V gl I s=>zi x r p ea en eC V gl I B.right s h3
 obtain⟨C,D,up,rd⟩:=x
 simp only at hu
 subst hu
 obtain⟨sa,sn,sG,a1,n1,c1,a2,n2,c2,ra,rn,rc⟩:=p
 simp only[Pw.val] at cA
 have BQ:=ag.laid W [.int .i64 r.k,.int .i64 r.s,.int .i64 r.n,.slice ea en eC] 73 _ rfl
 have bel:=newB (Below.refl W.heap.size W) (.cells #[.int .i64 r.k,.int .i64 r.s,.int .i64 r.n,.slice ea en eC] 73)
 replace B:=B.call bel
 replace s3:=s3.call bel
 have gl:=hg.call bel
 obtain⟨K,S,N,L⟩:=r
 replace hr:=aa hr
 go_enter Tryz.func72,Tryz.ntmps72
 go_upto_region 1 with fail
 generalize hv:World.alloc W _=v at*
 have x0:v.cell? ⟨g,0,none⟩=some (.slice sa sn sG):=B.blk.cell 0
 have x1:v.cell? ⟨g,1,none⟩=some (.slice a1 n1 c1):=B.blk.cell 1
 have x2:v.cell? ⟨g,2,none⟩=some (.slice a2 n2 c2):=B.blk.cell 2
 have x3:v.cell? ⟨g,3,none⟩=some (.bool true):=B.blk.cell 3
 have x4:v.cell? ⟨g,4,none⟩=some (.slice ra rn rc):=B.blk.cell 4
 have z0:v.cell? ⟨W.heap.size,0,none⟩=some (.int .i64 K):=BQ.cell 0
 have z1:v.cell? ⟨W.heap.size,1,none⟩=some (.int .i64 S):=BQ.cell 1
 have z2:v.cell? ⟨W.heap.size,2,none⟩=some (.int .i64 N):=BQ.cell 2
 have z3:v.cell? ⟨W.heap.size,3,none⟩=some (.slice ea en eC):=BQ.cell 3
 have cells:∀V,Below v.heap.size v V->V.cell? ⟨g,0,none⟩=some (.slice sa sn sG)/\V.cell? ⟨g,1,none⟩=some (.slice a1 n1 c1)/\V.cell? ⟨g,2,none⟩=some (.slice a2 n2 c2)/\V.cell? ⟨g,3,none⟩=some (.bool true)/\V.cell? ⟨g,4,none⟩=some (.slice ra rn rc)/\V.cell? ⟨W.heap.size,0,none⟩=some (.int .i64 K)/\V.cell? ⟨W.heap.size,1,none⟩=some (.int .i64 S)/\V.cell? ⟨W.heap.size,2,none⟩=some (.int .i64 N)/\V.cell? ⟨W.heap.size,3,none⟩=some (.slice ea en eC):=fun V hV=>
  ⟨(B.call hV).blk.cell 0,(B.call hV).blk.cell 1,(B.call hV).blk.cell 2,(B.call hV).blk.cell 3,(B.call hV).blk.cell 4,(BQ.keep hV BQ.lt).cell 0,(BQ.keep hV BQ.lt).cell 1,(BQ.keep hV BQ.lt).cell 2,(BQ.keep hV BQ.lt).cell 3⟩
 have kA:∀V,Below v.heap.size v V->Calls Tryz.prog 107 #[.agg #[.slice sa sn sG,.slice a1 n1 c1,.slice a2 n2 c2,.bool true,.slice ra rn rc],.agg #[.int .i64 K,.int .i64 S,.int .i64 N,.slice ea en eC]] V fun e w'=>∃(a':Option Addr) (n' G':Nat) (b1:Option Addr) (m1 k1:Nat) (b2:Option Addr) (m2 k2:Nat),e=.returned (.tuple #[.agg #[.slice a' n' G'],.agg #[.slice b1 m1 k1,.slice b2 m2 k2],.int .i64 (iB ⟨C,D,true,rd⟩ ⟨K,S,N,L⟩)])/\
   w'.cell? ⟨g,0,none⟩=some (.slice sa sn sG)/\w'.cell? ⟨g,1,none⟩=some (.slice a1 n1 c1)/\w'.cell? ⟨g,2,none⟩=some (.slice a2 n2 c2)/\w'.cell? ⟨g,3,none⟩=some (.bool true)/\w'.cell? ⟨g,4,none⟩=some (.slice ra rn rc)/\w'.cell? ⟨W.heap.size,0,none⟩=some (.int .i64 K)/\w'.cell? ⟨W.heap.size,1,none⟩=some (.int .i64 S)/\w'.cell? ⟨W.heap.size,2,none⟩=some (.int .i64 N)/\w'.cell? ⟨W.heap.size,3,none⟩=some (.slice ea en eC)/\
   Hid (iS V.heap.size ⟨C,D,true,rd⟩ ⟨K,S,N,L⟩ a' n' G' b1 m1 k1 b2 m2 k2 w')/\Below V.heap.size V w'/\Below v.heap.size v w':=by
  intro V hV
  refine(cA V (gl.call hV) (B.call hV).is (s3.call hV)).mono ?_
  rintro e w' ⟨a',n',G',b1,m1,k1,b2,m2,k2,rfl,hA,b⟩
  obtain⟨q0,q1,q2,q3,q4,q5,q6,q7,q8⟩:=cells w' (ac hV b)
  exact⟨a',n',G',b1,m1,k1,b2,m2,k2,rfl,q0,q1,q2,q3,q4,q5,q6,q7,q8,hA,b,ac hV b⟩
 have k0:Below v.heap.size v v.drew:=ak (Below.refl _ _)
 generalize f7:iB ⟨C,D,true,rd⟩ ⟨K,S,N,L⟩=EA at*
 have lg:g<v.heap.size:=B.blk.lt
 have lq:W.heap.size<v.heap.size:=BQ.lt
 have RQ:¬g=v.heap.size:=by omega
 have Mp:¬v.heap.size=g:=by omega
 have E':¬W.heap.size=v.heap.size:=by omega
 have Ok:¬v.heap.size=W.heap.size:=by omega
 have GH:¬g=v.heap.size+1:=by omega
 have OX:¬v.heap.size+1=g:=by omega
 have KB:¬W.heap.size=v.heap.size+1:=by omega
 have Mf:¬v.heap.size+1=W.heap.size:=by omega
 have Q2:ag (v.alloc (.cells #[.slice none 0 0] 24)).drew v.heap.size [.slice none 0 0] 24:=ag.laid v [.slice none 0 0] _ _ rfl
 have Q3:ag (v.alloc (.cells #[.slice none 0 0,.slice none 0 0] 27)).drew v.heap.size [.slice none 0 0,.slice none 0 0] 27:=ag.laid v [.slice none 0 0,.slice none 0 0] _ _ rfl
 have Q4:ag ((v.alloc (.cells #[.slice none 0 0] 24)).alloc (.cells #[.slice none 0 0,.slice none 0 0] 27)).drew v.heap.size [.slice none 0 0] 24:=(ag.laid v [.slice none 0 0] _ _ rfl).alc (.cells #[.slice none 0 0,.slice none 0 0] 27)
 have Q4':ag ((v.alloc (.cells #[.slice none 0 0] 24)).alloc (.cells #[.slice none 0 0,.slice none 0 0] 27)).drew (v.heap.size+1) [.slice none 0 0,.slice none 0 0] 27:=ag.laid (v.alloc (.cells #[.slice none 0 0] 24)) [.slice none 0 0,.slice none 0 0] _ _ (by simp)
 have Q5:ag ((v.alloc (.cells #[.slice none 0 0,.slice none 0 0] 27)).alloc (.cells #[.slice none 0 0] 24)).drew v.heap.size [.slice none 0 0,.slice none 0 0] 27:=(ag.laid v [.slice none 0 0,.slice none 0 0] _ _ rfl).alc (.cells #[.slice none 0 0] 24)
 have Q5':ag ((v.alloc (.cells #[.slice none 0 0,.slice none 0 0] 27)).alloc (.cells #[.slice none 0 0] 24)).drew (v.heap.size+1) [.slice none 0 0] 24:=ag.laid (v.alloc (.cells #[.slice none 0 0,.slice none 0 0] 27)) [.slice none 0 0] _ _ (by simp)
 replace f7:=aa f7
 replace hv:=aa hv
 replace B:=aa B
 replace bel:=aa bel
 replace s3:=aa s3
 clear cells cA BQ
 replace gl:=aa gl
 go_cut [7,8,9] from 10 to 18 (fun s5 s6 s7 wx=>IC v.heap.size v ⟨C,D,true,rd⟩ ⟨K,S,N,L⟩ EA s5 s6 s7 wx)
 case first=>
  go_region_held3 (fun w'=>w'.cell? ⟨g,0,none⟩=some (.slice sa sn sG)/\w'.cell? ⟨g,1,none⟩=some (.slice a1 n1 c1)/\w'.cell? ⟨g,2,none⟩=some (.slice a2 n2 c2)/\w'.cell? ⟨g,3,none⟩=some (.bool true)/\w'.cell? ⟨g,4,none⟩=some (.slice ra rn rc)/\w'.cell? ⟨W.heap.size,0,none⟩=some (.int .i64 K)/\w'.cell? ⟨W.heap.size,1,none⟩=some (.int .i64 S)/\w'.cell? ⟨W.heap.size,2,none⟩=some (.int .i64 N)/\w'.cell? ⟨W.heap.size,3,none⟩=some (.slice ea en eC)) (go_keep)
   (first
    | (go_at_call 107;refine(kA _ (by first|exact k0|exact ak (newB (Below.refl _ _) _)|exact ak (newB (newB (Below.refl _ _) _) _))).mono ?_;rintro e w4 ⟨a',n',G',b1,m1,k1,b2,m2,k2,rfl,q0,q1,q2,q3,q4,q5,q6,q7,q8,hA,b4,zA⟩;have gz:=zA.size;have o0:¬g=w4.heap.size:=by {omega};have o0':¬w4.heap.size=g:=by {omega};have o1:¬W.heap.size=w4.heap.size:=by {omega};have o1':¬w4.heap.size=W.heap.size:=by {omega};have o2:¬g=w4.heap.size+1:=by {omega};have o2':¬w4.heap.size+1=g:=by {omega};have o3:¬W.heap.size=w4.heap.size+1:=by {omega};have o3':¬w4.heap.size+1=W.heap.size:=by {omega};(first| (have R1:=Q2.keep b4 Q2.lt;have c0:=R1.cell 0;have Io:=R1.free 0;have cl:=R1.lt;have u1:¬v.heap.size=w4.heap.size:=by {omega};have Cv:¬w4.heap.size=v.heap.size:=by {omega})| (have R1:=Q3.keep b4 Q3.lt;have c0:=R1.cell 0;have Io:=R1.free 0;have cl:=R1.lt;have c1:=R1.cell 1;have Uf:=R1.free 1;have u1:¬v.heap.size=w4.heap.size:=by {omega};have Cv:¬w4.heap.size=v.heap.size:=by {omega})| (have R1:=Q4.keep b4 Q4.lt;have R2:=Q4'.keep b4 Q4'.lt;have c0:=R1.cell 0;have Io:=R1.free 0;have cl:=R1.lt;have d0:=R2.cell 0;have UV:=R2.free 0;have dl:=R2.lt;have d1:=R2.cell 1;have YB:=R2.free 1;have u1:¬v.heap.size=v.heap.size+1:=by {omega};have Cv:¬v.heap.size+1=v.heap.size:=by {omega})| (have R1:=Q5.keep b4 Q5.lt;have R2:=Q5'.keep b4 Q5'.lt;have c0:=R1.cell 0;have Io:=R1.free 0;have cl:=R1.lt;have c1:=R1.cell 1;have Uf:=R1.free 1;have d0:=R2.cell 0;have UV:=R2.free 0;have dl:=R2.lt;have u1:¬v.heap.size=v.heap.size+1:=by {omega};have Cv:¬v.heap.size+1=v.heap.size:=by {omega})|skip)))
  all_goals(
   go_wp2_with fail
   go_meet
   case rel=>
    have kh:=hA.out.down (base':=v.heap.size) (by first|exact Nat.le_refl _|exact(ak (newB (Below.refl v.heap.size v) _)).size|exact(ak (newB (newB (Below.refl v.heap.size v) _) _)).size)
    first
     |exact Rs kh zA zA.size
     |exact Rk kh zA zA.size
     |exact RA kh zA zA.size R1 (Nat.le_refl _)
     |exact Rx kh zA zA.size R1 (Nat.le_refl _)
     |exact Ju kh zA R1 R2 (Nat.le_refl _) (Nat.le_succ _) u1
     |exact Ju kh zA R2 R1 (Nat.le_succ _) (Nat.le_refl _) Cv)
 case rest=>
  obtain⟨bS,bD,a',n',G',b1,m1,k1,b2,m2,k2,rfl,rfl,rfl,BS,BD,hA,lS,lD,hcut⟩:=hcut
  have B0:=aa B.out
  have cq:=aa bel.out
  have aE:Hid (h<v.heap.size):=aa B.out.rb.lt
  replace B:=B.out.call hcut
  replace bel:=ac bel.out hcut
  replace gl:=gl.out.call hcut
  clear x0 x1 x2 x3 x4 z0 z1 z2 z3 kA k0 Q2 Q3 Q4 Q4' Q5 Q5' RQ Mp E' Ok GH OX KB Mf s3
  have kG:=dO.out.trans hE.out
  have ll:=kG
  clear kG
  by_cases hz:EA=0
  .obtain⟨rfl,IN,q1,q2,T1,T2⟩:=hA.out (f7.out.trans hz)
   obtain⟨J5,Af⟩:=qp (f7.out.trans hz)
   rw[if_neg (fun e=>e hz)] at ll
   subst hz
   simp only at q1 q2 T1 T2 IN J5 Af
   have Eh:=(mD Af).2.2.2
   have WZ:(cU D ⟨K,S,N,L⟩).safe=D.safe:=by rw[(mD Af).2.2.1]
   have F':=rq Eh
   generalize Y1:cU D ⟨K,S,N,L⟩=DP at*
   obtain⟨M,PD⟩:∃M:Int,M=max Yn 0:=⟨_,rfl⟩
   obtain⟨k,qD⟩:∃k:Nat,min M (m2:Int)=k:=⟨(min M (m2:Int)).toNat,by omega⟩
   have hmax:∀(ts:Array TypeId) (t:TypeId) (V:World),(Builtin.max_ ts t #[.int .i64 Yn,.int .i64 0]).run Tryz.prog V=.ok (.int .i64 M) V:=by
    intro ts t V
    rw[Lib.run_max_ints,PD]
   have kp:∀(ts:Array TypeId) (t:TypeId) (V:World),(Builtin.min_ ts t #[.int .i64 M,.int .i64 (m2:Int)]).run Tryz.prog V=.ok (.int .i64 (k:Int)) V:=by
    intro ts t V
    rw[Lib.run_min_ints,qD]
   have UH:ml DP k=0:=by
    unfold ml
    rw[if_neg (by simp[Eh]),if_neg (by omega)]
   have X5:rv DP k=⟨DP.safe,DP.wait.take k⟩:=by
    unfold rv
    rw[if_pos UH,Int.toNat_natCast]
   have sJ:DP.wait.take Yn.toNat=DP.wait.take k:=A8 Yn DP.wait k (by rw[<-q2,<-PD];exact qD)
   have cS:=fun V gl s t=>Gu DP k b1 b2 k1 k2 m1 m2 V gl s t q1 q2 (by rw[q1,q2];exact Nat.le_trans F' (by decide))
   rw[UH,X5] at cS
   have rS:=EM Eh k
   have fP:HE=0:=ll
   have hm:=hM.out (dO.out.symm.trans fP)
   have kH:dz ⟨C,D,true,rd⟩ y=⟨dm,⟨DP.safe,DP.wait.take k⟩,false,fJ⟩:=by
    rw[hm,WZ,<-sJ,Qy.out]
   replace hm:=kH
   clear kH
   replace hm:=aa hm
   replace fP:=aa fP
   replace q1:=aa q1
   replace q2:=aa q2
   replace rS:=aa rS
   replace PD:=aa PD
   replace qD:=aa qD
   clear hA J5 Af F' hE f7 ll hM Eh WZ UH X5 sJ Y1
   obtain⟨d0,d1,dl⟩:=BD.c2
   go_wp2_with fail
   go_at_call 108
   refine(cS _ gl T1 T2).mono ?_
   rintro e w5 ⟨r1,r2,i1,i2,j1,j2,rfl,km,rT,t1,t2,b5⟩
   replace km:=aa km
   replace rT:=aa rT
   clear d0 d1 dl cS T1 T2 q1 q2 gl IN kp hmax
   replace BD:=BD.keep b5 BD.lt
   replace hcut:=hcut.trans (b5.mono hcut.size)
   clear b5 B BS bel
   generalize DP.wait.take k=WT at*
   generalize DP.safe=SF at*
   have d0:=BD.cell 0
   have d1:=BD.cell 1
   have f0:=BD.free 0
   have f1:=BD.free 1
   have dl:=BD.lt
   have Ab:Below v.heap.size v ((w5.setCell ⟨bD,0,none⟩ (.slice r1 i1 j1)).setCell ⟨bD,1,none⟩ (.slice r2 i2 j2)):=dt hcut lD _ _
   have B9:=(B0.out.call Ab).blk
   have yh:=al (al (au w5 (some bD)) 0 (.slice r1 i1 j1)) 1 (.slice r2 i2 j2)
   have T1:=dA t1 BD (by simp) yh
   have T2:=dA t2 BD (by simp) yh
   have D9:=fZ BD (.slice r1 i1 j1) (.slice r2 i2 j2)
   have qd:Hid (Below W.heap.size W ((w5.setCell ⟨bD,0,none⟩ (.slice r1 i1 j1)).setCell ⟨bD,1,none⟩ (.slice r2 i2 j2))):=aa (cq.out.trans (Ab.mono cq.out.size))
   replace Ab:=aa Ab
   clear yh t1 t2 BD hcut
   go_upto_region 7 with fail
   clear d0 d1 f0 f1 dl
   generalize World.setCell (World.setCell w5 _ _) _ _=w9 at*
   obtain⟨d0,d1,dl⟩:=D9.c2
   have x1:w9.cell? ⟨g,1,none⟩=some (.slice a1 n1 c1):=B9.cell 1
   have x2:w9.cell? ⟨g,2,none⟩=some (.slice a2 n2 c2):=B9.cell 2
   have g1:=B9.free 1
   have g2:=B9.free 2
   have Vt:=B9.lt
   have BB:=(B9.set 1 (.slice r1 i1 j1)).set 2 (.slice r2 i2 j2)
   have gr:=al (al (au w9 (some g)) 1 (.slice r1 i1 j1)) 2 (.slice r2 i2 j2)
   have U1:=dA T1 B9 (by simp[Pw.cells]) gr
   have U2:=dA T2 B9 (by simp[Pw.cells]) gr
   have gb:=aa ((gq.below (g:=g) (h:=h) qd.out).trans (gq.box gr) (.inl rfl))
   have cL:=tK Q g ⟨sa,sn,sG,r1,i1,j1,r2,i2,j2,ra,rn,rc⟩ true ⟨SF,WT⟩ ((w9.setCell ⟨g,1,none⟩ (.slice r1 i1 j1)).setCell ⟨g,2,none⟩ (.slice r2 i2 j2)) BB km.out rT.out U1 U2 rS.out
   clear T1 T2 D9 BB gr U1 U2 B9 km rT Ab qd
   replace aE:=aE.out
   have lW0:Hid (W.heap.size<=w9.heap.size):=aa (by have:=gb.out.size;simpa using this)
   go_wp2_with fail
   go_at_call 70
   refine cL.mono ?_
   rintro e w10 ⟨rfl,h',p',tF,WB,grow,hh⟩
   replace WB:=aa WB
   have gb2:=aa (gb.out.trans (gq.box (h:=h) grow) (.inl rfl))
   have Mm:Hid (W.heap.size<=h'):=aa (by have:=lW0.out;simp at hh;omega)
   clear grow hh cL
   go_wp2_with fail
   go_ret
   rw[hZ.out,if_pos (dO.out.symm.trans fP.out),hm.out,fP.out]
   exact⟨rfl,h',p',tF,WB.out,gb2.out,.inr Mm.out⟩
  rw[if_pos hz] at ll
  have xj:decide (EA=0)=false:=decide_eq_false hz
  have fP:Hid (HE=EA):=aa ll
  replace B:=aa B
  replace bel:=aa bel
  clear hE ll hM hA BS BD
  go_wp2_with fail
  go_ret
  rw[hZ.out,if_neg (fun e=>hz (fP.out.symm.trans (dO.out.trans e))),fP.out]
  exact⟨rfl,h,_,ys,B.out,gq.below bel.out,.inl rfl⟩
theorem wG {Q:Nat->Prop}(n:Int)(g h:Nat)(p:Pw)(ys:List Int)(x:Wd)(W:World)(B:ix Q W g h p ys x)(hg:Gl W)(hr:fK n=true->dw ⟨x.c,x.d,x.up,x.rd.set n.toNat ((aO x.d).length:Int)⟩=0):
  Calls Tryz.prog 68 #[.pointer (some ⟨g,0,none⟩),.int .i64 n] W (nY Q g h W (if fK n=true then 0 else 5) (if fK n=true then⟨x.c,x.d,x.up,x.rd.set n.toNat ((aO x.d).length:Int)⟩ else x)):=by
 obtain⟨k1,_,_⟩:=ph B.is B.right
 have cR:=fun V gl s t=>ms x.d p.a1 p.a2 p.c1 p.c2 p.n1 p.n2 V gl s t B.is.e1 B.is.e2 (by omega)
 rw[(fi B.right).1] at cR
 obtain⟨RL,xB⟩:∃RL:Int,RL=((aO x.d).length:Int):=⟨_,rfl⟩
 rw[<-xB] at hr⊢
 have cS:=fun V (Bv:ix Q V g h p ys x)=>qH n RL g h p ys x V Bv hr
 generalize(if fK n=true then(0:Int) else 5)=E at*
 generalize(if fK n=true then(⟨x.c,x.d,x.up,x.rd.set n.toNat RL⟩:Wd) else x)=Z at*
 have x1:W.cell? ⟨g,1,none⟩=some (.slice p.a1 p.n1 p.c1):=B.blk.cell 1
 have x2:W.cell? ⟨g,2,none⟩=some (.slice p.a2 p.n2 p.c2):=B.blk.cell 2
 have xl:=B.blk.lt
 have S1:=B.is.s1
 have S2:=B.is.s2
 replace B:=aa B
 replace xB:=aa xB
 clear hr k1
 go_enter Tryz.func68,Tryz.ntmps68
 go_wp2_with fail
 go_at_call 31
 refine((cR _ hg S1 S2).mono fun _ _ h=>h.laid).mono ?_
 rintro e w2 ⟨r1,i1,j1,r2,i2,j2,a3,n3,G3,l3,rfl,DR,LR,ni,qP,b2⟩
 have Qe:Hid ((n3:Int)=RL):=aa (by rw[xB.out,<-qP.out,List.length_map,ni.out])
 have B2:=aa (B.out.call b2)
 have gb:=aa (gq.below (g:=g) (h:=h) b2)
 have dW:=aa b2.size
 clear DR LR ni qP x1 x2 xl S1 S2 cR b2 B
 go_upto_region 4 with fail
 generalize World.alloc w2 _=w3 at*
 obtain⟨N3,Wc⟩:∃N:Int,N=n3:=⟨_,rfl⟩
 have hN:N3=RL:=Wc.trans Qe.out
 have Wm:=cS w3 B2.out
 rw[<-Qe.out] at Wm
 clear hN Wc N3 cS
 go_wp2_with fail
 go_at_call 69
 refine Wm.mono ?_
 rintro e w4 ⟨rfl,h',p',tF,WB,gr,hh⟩
 have gb2:=aa (gb.out.trans gr (.inl rfl))
 have Mm:Hid (h'=h\/W.heap.size<=h'):=aa (hh.imp id (fun e=>Nat.le_trans dW.out e))
 replace WB:=aa WB
 clear gr hh
 go_wp2_with fail
 go_ret
 exact⟨rfl,h',p',tF,WB.out,gb2.out,Mm.out⟩
theorem xw {x:Wd}{y:Hp}(hr:dw x=0)(hk:y.k=8)(hu:x.up=false):bR x y=du (aO x.d)/\(bR x y=0->dz x y=⟨cd (aO x.d),fQ x.d,true,x.rd⟩/\dw ⟨cd (aO x.d),fQ x.d,true,x.rd⟩=0):=by
 refine⟨?_,fun h=>?_⟩
 .unfold bR
  rw[if_neg (fun h=>h ⟨by omega,by omega⟩),if_neg (fun h=>h (by rw[hu];exact(decide_eq_false (by omega)).symm)),if_neg (by omega),if_neg (by omega),if_pos hk]
 obtain⟨_,_,e,r,_⟩:=AM hr hk h
 exact⟨e,by rw[<-e];exact r⟩
theorem K4 {Q:Nat->Prop}(y:Hp)(hk:y.k=8)(g h:Nat)(p:Pw)(ys:List Int)(x:Wd)(W:World)(B:ix Q W g h p ys x)(hQ:∀q,Q q->q<W.heap.size)(hu:x.up=false)(hg:Gl W):
  Calls Tryz.prog 71 #[.pointer (some ⟨g,0,none⟩)] W (nY Q g h W (bR x y) (if bR x y=0 then dz x y else x)):=by
 obtain⟨hE,hM⟩:=xw B.right hk hu
 obtain⟨Z,hZ⟩:∃Z,Z=(if bR x y=0 then dz x y else x):=⟨_,rfl⟩
 rw[<-hZ]
 obtain⟨HE,dO⟩:∃HE,HE=bR x y:=⟨_,rfl⟩
 rw[<-dO]
 replace hZ:=aa hZ
 replace dO:=aa dO
 replace hE:=aa hE
 replace hM:=aa hM
 replace hQ:=aa hQ
 obtain⟨k1,k2,_⟩:=ph B.is B.right
 have cR:=fun V gl s t=>ms x.d p.a1 p.a2 p.c1 p.c2 p.n1 p.n2 V gl s t B.is.e1 B.is.e2 (by omega)
 rw[(fi B.right).1] at cR
 clear k1 k2 hk
 obtain⟨C,D,up,rd⟩:=x
 simp only at hu
 subst hu
 obtain⟨sa,sn,sG,a1,n1,c1,a2,n2,c2,ra,rn,rc⟩:=p
 have x1:W.cell? ⟨g,1,none⟩=some (.slice a1 n1 c1):=B.blk.cell 1
 have x2:W.cell? ⟨g,2,none⟩=some (.slice a2 n2 c2):=B.blk.cell 2
 have xl:=B.blk.lt
 have S1:Sl W a1 c1 (byteCells D.safe):=B.is.s1
 have S2:Sl W a2 c2 (byteCells D.wait):=B.is.s2
 simp only at cR
 have B0:=aa B
 replace B:=aa B
 go_enter Tryz.func71,Tryz.ntmps71
 go_wp2_with fail
 go_at_call 31
 refine((cR _ hg S1 S2).mono fun _ _ h=>h.laid).mono ?_
 rintro e w2 ⟨r1,i1,j1,r2,i2,j2,a3,n3,G3,l3,rfl,DR,LR,ni,qP,b2⟩
 replace B:=aa (B.out.call b2)
 clear x1 x2 xl S1 S2 cR
 obtain⟨dn,ck⟩:∃d,Hid (d=(cd (l3.map (·.r))).length):=⟨_,aa rfl⟩
 have cP:=fun V s=>nz l3 a3 n3 G3 dn V s ni ck
 rw[qP.out] at cP ck
 have bel:=aa b2
 clear b2 ni qP
 go_upto_region 4 with fail
 generalize w2.heap.size=gD at*
 generalize World.alloc w2 _=w3 at*
 go_wp2_with fail
 go_at_call 54
 refine((cP _ LR).mono fun _ _ h=>xG h).mono ?_
 rintro e w4 ⟨aS,GS,rfl,BS,IN,b4,aaZ⟩
 clear cP LR
 have aE:Hid (h<w3.heap.size):=aa B.out.rb.lt
 have Vg:Hid (W.heap.size<=w3.heap.size):=aa bel.out.size
 replace B:=aa (B.out.call b4)
 replace DR:=DR.call b4
 have qd:=aa (ac bel.out b4)
 clear bel b4
 by_cases hz:du (aO D)=0
 .obtain rfl:dn=4:=by rw[ck.out];exact bZ (fV hz)
  have h4:=aa (bZ (fV hz))
  have fP:HE=0:=dO.out.trans (hE.out.trans hz)
  obtain⟨hm,rL⟩:=hM.out (hE.out.trans hz)
  rw[hz]
  replace hm:=aa hm
  replace rL:=aa rL
  replace fP:=aa fP
  clear hz hM hE
  go_upto_region 7 with fail
  generalize w4.heap.size=gS at*
  generalize World.alloc w4 _=w5 at*
  obtain⟨PB,pG,pA,T1,T2⟩:=DR
  have B5:=B.out
  have E':¬g=gD:=by
   intro e
   subst e
   exact absurd (bV B5.blk PB) (by decide)
  have GH:¬gD=g:=fun e=>E' e.symm
  have KB:¬g=gS:=by
   intro e
   subst e
   exact absurd (bV B5.blk BS) (by decide)
  have Zk:¬gS=g:=fun e=>KB e.symm
  have s0:w5.cell? ⟨gS,0,none⟩=some (.slice aS 4 GS):=BS.cell 0
  have sl:=BS.lt
  have d0:w5.cell? ⟨gD,0,none⟩=some (.slice r1 i1 j1):=PB.cell 0
  have d1:w5.cell? ⟨gD,1,none⟩=some (.slice r2 i2 j2):=PB.cell 1
  have dl:=PB.lt
  have x0:w5.cell? ⟨g,0,none⟩=some (.slice sa sn sG):=B5.blk.cell 0
  have x1:w5.cell? ⟨g,1,none⟩=some (.slice a1 n1 c1):=B5.blk.cell 1
  have x2:w5.cell? ⟨g,2,none⟩=some (.slice a2 n2 c2):=B5.blk.cell 2
  have x3:w5.cell? ⟨g,3,none⟩=some (.bool false):=B5.blk.cell 3
  obtain⟨g0,g1,g2,g3⟩:=B5.blk.f4
  have Vt:=B5.blk.lt
  have gr:=al (al (al (al (au w5 (some g)) 0 (.slice aS 4 GS)) 1 (.slice r1 i1 j1)) 2 (.slice r2 i2 j2)) 3 (.bool true)
  have BB:=(((B5.blk.set 0 (.slice aS 4 GS)).set 1 (.slice r1 i1 j1)).set 2 (.slice r2 i2 j2)).set 3 (.bool true)
  have WB:=aa (ix.wrote (Q:=Q) (h:=h) (p:=⟨aS,4,GS,r1,i1,j1,r2,i2,j2,ra,rn,rc⟩) (ys:=ys) (x:=⟨cd (aO D),fQ D,true,rd⟩) B5.blk gr BB
   ⟨h4.out.symm,pG,pA,B5.is.er,IN.is,T1,T2,B5.is.r⟩ (IN.off (fun q hq=>hq.elim (fun e=>by rw[e];exact aE.out) (fun e=>Nat.lt_of_lt_of_le (hQ.out q e) Vg.out))) rL.out B5.ra B5.rb B5.ry B5.rm)
  have gb:=aa ((gq.below (g:=g) (h:=h) qd.out).trans (gq.box gr) (.inl rfl))
  clear gr BB B5 BS PB pG pA T1 T2 IN B rL
  go_region
  all_goals(
   go_wp2_with fail
   go_ret
   rw[hZ.out,if_pos (dO.out.symm.trans fP.out),hm.out,fP.out]
   exact⟨rfl,h,_,ys,WB.out.call (ak (Below.refl _ _)),gb.out.call (ak (Below.refl _ _)),.inl rfl⟩)
 have xj:decide (du (aO D)=0)=false:=decide_eq_false hz
 have fP:Hid (HE=du (aO D)):=aa (dO.out.trans hE.out)
 clear hM hE BS DR IN
 generalize du (aO D)=E at*
 go_upto_region 6 with fail
 generalize World.alloc w4 _=w5 at*
 go_wp2_with fail
 go_ret
 rw[hZ.out,if_neg (fun e=>hz (fP.out.symm.trans (dO.out.trans e))),fP.out]
 exact⟨rfl,h,_,ys,B.out,gq.below qd.out,.inl rfl⟩
theorem us {x:Wd}{y:Hp}(hr:dw x=0)(hu:x.up=true)(hk:y.k=5\/y.k=6):
  bR x y=(if fK y.n=true then 0 else 5)/\(if bR x y=0 then dz x y else x)=(if fK y.n=true then⟨x.c,x.d,x.up,x.rd.set y.n.toNat (if y.k=5 then((aO x.d).length:Int) else-1)⟩ else x)/\(fK y.n=true->dw ⟨x.c,x.d,x.up,x.rd.set y.n.toNat (if y.k=5 then((aO x.d).length:Int) else-1)⟩=0):=by
 have e:bR x y=if fK y.n=true then 0 else 5:=by
  unfold bR
  rw[if_neg (fun h=>h ⟨by omega,by omega⟩),if_neg (fun h=>h (by rw[hu];exact(decide_eq_true (by omega)).symm)),if_pos hk]
  unfold fK
  by_cases h:0<=y.n/\y.n<=2
  .rw[if_pos h,if_pos (decide_eq_true h)]
  rw[if_neg h,if_neg (by simp[h])]
 refine⟨e,?_,fun h=>?_⟩
 .rw[e]
  by_cases h:fK y.n=true
  .rw[if_pos h,if_pos rfl,if_pos h]
   obtain⟨_,_,_,w,_⟩:=lF hr hk (by rw[e,if_pos h])
   rw[w,hu]
  rw[if_neg h,if_neg (by decide),if_neg h]
 obtain⟨_,_,_,w,r⟩:=lF hr hk (by rw[e,if_pos h])
 rw[w] at r
 rw[hu]
 exact r
theorem Jq {x:Wd}{y:Hp}(hu:x.up=true)(hk:y.k=7):bR x y=0/\dz x y=⟨dm,x.d,false,fJ⟩:=by
 have e:bR x y=0:=by
  unfold bR
  rw[if_neg (fun h=>h ⟨by omega,by omega⟩),if_neg (fun h=>h (by rw[hu];exact(decide_eq_true (by omega)).symm)),if_neg (by omega),if_pos hk]
 refine⟨e,?_⟩
 unfold dz
 rw[if_neg (by simp[e]),if_neg (by omega),if_neg (by omega),if_pos hk]
theorem AK {x:Wd}{y:Hp}(hk:y.k<1\/9<y.k):bR x y=4:=by
 unfold bR
 rw[if_pos (by omega)]
theorem AL {x:Wd}{y:Hp}(hk:1<=y.k/\y.k<=9)(h:x.up=decide (y.k=8)):bR x y=7:=by
 unfold bR
 rw[if_neg (fun q=>q hk),if_pos (by rw[h];by_cases e:y.k=8<;>simp[e])]
theorem nY.pre {Q:Nat->Prop}{g h:Nat}{W W1:World}{E:Int}{Z:Wd}{e:Ending}{w':World}(bel:Below W.heap.size W W1)(d:nY Q g h W1 E Z e w'):nY Q g h W E Z e w':=by
 obtain⟨he,h',p',tF,WB,gr,hh⟩:=d
 exact⟨he,h',p',tF,WB,(gq.below bel).trans gr (.inl rfl),hh.imp id (fun q=>Nat.le_trans bel.size q)⟩
theorem vU {Q:Nat->Prop}(y:Hp)(g h:Nat)(p:Pw)(ys:List Int)(x:Wd)(W:World)(B:ix Q W g h p ys x)(hQ:∀q,Q q->q<W.heap.size)(hg:Gl W)(ea:Option Addr)(en eC:Nat)(s3:be ec W ea eC y.e)(h3:Hid (en=y.e.length)):
  Calls Tryz.prog 33 #[.pointer (some ⟨g,0,none⟩),.agg #[.int .i64 y.k,.int .i64 y.s,.int .i64 y.n,.slice ea en eC]] W (nY Q g h W (bR x y) (if bR x y=0 then dz x y else x)):=by
 have BY:=ag.laid W [.int .i64 y.k,.int .i64 y.s,.int .i64 y.n,.slice ea en eC] 33 _ rfl
 have bel:=newB (Below.refl W.heap.size W) (.cells #[.int .i64 y.k,.int .i64 y.s,.int .i64 y.n,.slice ea en eC] 33)
 replace hQ:=aa hQ
 have Xc:W.heap.size≠g:=by have:=B.blk.lt;omega
 have Ve:W.heap.size≠h:=by have:=B.rb.lt;omega
 replace B:=B.call bel
 replace s3:=s3.call bel
 have gl:=hg.call bel
 obtain⟨Z,hZ⟩:∃Z,Z=(if bR x y=0 then dz x y else x):=⟨_,rfl⟩
 rw[<-hZ]
 obtain⟨HE,dO⟩:∃HE,HE=bR x y:=⟨_,rfl⟩
 rw[<-dO]
 have nS:HE≠0->Z=x:=fun q=>by rw[hZ,if_neg (by rw[<-dO];exact q)]
 have FL:(W.alloc (.cells #[.int .i64 y.k,.int .i64 y.s,.int .i64 y.n,.slice ea en eC] 33)).cell? ⟨g,3,none⟩=some (.bool x.up):=B.blk.cell 3
 have gbl:=B.blk.lt
 by_cases h1:y.k<1\/9<y.k
 .have e4:=dO.trans (AK (x:=x) h1)
  have eZ:=aa (nS (by rw[e4];decide))
  have M':=aa (show nY Q g h W 4 x (.returned (.int .i64 4)) (W.alloc (.cells #[.int .i64 y.k,.int .i64 y.s,.int .i64 y.n,.slice ea en eC] 33)) from⟨rfl,h,p,ys,B,gq.below bel,.inl rfl⟩)
  subst e4
  clear dO hZ nS B s3 gl
  obtain⟨K,S,N,L⟩:=y
  simp only at*
  by_cases ha:K<1
  .clear h1
   go_enter Tryz.func33,Tryz.ntmps33
   go_wp2_with fail
   go_ret
   rw[eZ.out]
   exact M'.out
  have hb:9<K:=by omega
  clear h1
  go_enter Tryz.func33,Tryz.ntmps33
  go_wp2_with fail
  go_ret
  rw[eZ.out]
  exact M'.out
 have ha:¬y.k<1:=by omega
 have hb:¬9<y.k:=by omega
 by_cases hl:x.up=decide (y.k=8)
 .have e7:=dO.trans (AL (x:=x) (y:=y) (by omega) hl)
  have eZ:=aa (nS (by rw[e7];decide))
  have M':=aa (show nY Q g h W 7 x (.returned (.int .i64 7)) ((W.alloc (.cells #[.int .i64 y.k,.int .i64 y.s,.int .i64 y.n,.slice ea en eC] 33)).drew) from⟨rfl,h,p,ys,B.call (ak (Below.refl _ _)),gq.below (ak bel),.inl rfl⟩)
  subst e7
  rw[hl] at FL
  clear dO hZ nS B s3 gl hl h1
  obtain⟨K,S,N,L⟩:=y
  simp only at*
  by_cases h8:K=8
  .subst h8
   rw[decide_eq_true rfl] at FL
   go_enter Tryz.func33,Tryz.ntmps33
   go_upto_region 3 with fail
   generalize World.alloc W _=v at*
   have y0:v.cell? ⟨W.heap.size,0,none⟩=some (.int .i64 8):=BY.cell 0
   have yl:=BY.lt
   go_wp2_with fail
   go_region
   all_goals(
    go_wp2_with fail
    go_ret
    rw[eZ.out]
    exact M'.out)
  have jW:(K==8)=false:=by simpa using h8
  have VD:decide (K=8)=false:=decide_eq_false h8
  rw[VD] at FL
  go_enter Tryz.func33,Tryz.ntmps33
  go_upto_region 3 with fail
  generalize World.alloc W _=v at*
  have y0:v.cell? ⟨W.heap.size,0,none⟩=some (.int .i64 K):=BY.cell 0
  have yl:=BY.lt
  go_wp2_with fail
  go_region
  all_goals(
   go_wp2_with fail
   go_ret
   rw[eZ.out]
   exact M'.out)
 obtain⟨K,S,N,L⟩:=y
 simp only at*
 by_cases h8:K=8
 .subst h8
  have hu:x.up=false:=by cases hx:x.up with|false=>rfl|true=>exact absurd (hx.trans (decide_eq_true rfl).symm) hl
  rw[hu] at FL
  clear hl
  go_enter Tryz.func33,Tryz.ntmps33
  go_upto_region 3 with fail
  generalize World.alloc W _=v at*
  have y0:v.cell? ⟨W.heap.size,0,none⟩=some (.int .i64 8):=BY.cell 0
  have y1:v.cell? ⟨W.heap.size,1,none⟩=some (.int .i64 S):=BY.cell 1
  have y2:v.cell? ⟨W.heap.size,2,none⟩=some (.int .i64 N):=BY.cell 2
  have y3:v.cell? ⟨W.heap.size,3,none⟩=some (.slice ea en eC):=BY.cell 3
  have yl:=BY.lt
  have Bd:=B.call (ak (Below.refl v.heap.size v))
  have zv:=gl.call (ak (Below.refl v.heap.size v))
  have oe:=ak bel
  have Fg:=s3.call (ak (Below.refl v.heap.size v))
  have cC:Calls Tryz.prog 71 #[.pointer (some ⟨g,0,none⟩)] v.drew (nY Q g h v.drew HE Z):=by
   rw[dO,hZ]
   exact K4 ⟨8,S,N,L⟩ rfl g h p ys x v.drew Bd (fun q e=>Nat.lt_of_lt_of_le (hQ.out q e) oe.size) hu zv
  replace hZ:=aa hZ
  replace dO:=aa dO
  clear nS B s3 gl bel
  go_wp2_with fail
  go_region
  all_goals(
   go_wp2_with fail
   go_at_call 71
   refine cC.mono ?_
   rintro e w4 hD
   have k':=hD.pre oe
   clear hD
   obtain⟨rfl,pE⟩:=k'
   replace pE:=aa pE
   clear cC
   go_wp2_with fail
   go_ret
   exact⟨rfl,pE.out⟩)
 have hu:x.up=true:=by cases hx:x.up with|true=>rfl|false=>exact absurd (hx.trans (decide_eq_false h8).symm) hl
 have jW:(K==8)=false:=by simpa using h8
 have VD:decide (K=8)=false:=decide_eq_false h8
 rw[hu] at FL
 clear hl
 by_cases h5:K=5
 .subst h5
  obtain⟨q1,q2,q3⟩:=us (y:=⟨5,S,N,L⟩) B.right hu (.inl rfl)
  rw[if_pos rfl] at q2 q3
  go_enter Tryz.func33,Tryz.ntmps33
  go_upto_region 3 with fail
  generalize World.alloc W _=v at*
  have y0:v.cell? ⟨W.heap.size,0,none⟩=some (.int .i64 5):=BY.cell 0
  have y1:v.cell? ⟨W.heap.size,1,none⟩=some (.int .i64 S):=BY.cell 1
  have y2:v.cell? ⟨W.heap.size,2,none⟩=some (.int .i64 N):=BY.cell 2
  have y3:v.cell? ⟨W.heap.size,3,none⟩=some (.slice ea en eC):=BY.cell 3
  have yl:=BY.lt
  have Bd:=B.call (ak (Below.refl v.heap.size v))
  have zv:=gl.call (ak (Below.refl v.heap.size v))
  have oe:=ak bel
  have Fg:=s3.call (ak (Below.refl v.heap.size v))
  have cC:Calls Tryz.prog 68 #[.pointer (some ⟨g,0,none⟩),.int .i64 N] v.drew (nY Q g h v.drew HE Z):=by
   rw[dO,hZ,q2,q1]
   exact wG N g h p ys x v.drew Bd zv q3
  clear q1 q2 q3
  replace hZ:=aa hZ
  replace dO:=aa dO
  clear nS B s3 gl bel
  go_wp2_with fail
  go_region
  all_goals(
   go_wp2_with fail
   go_at_call 68
   refine cC.mono ?_
   rintro e w4 hD
   have k':=hD.pre oe
   clear hD
   obtain⟨rfl,pE⟩:=k'
   replace pE:=aa pE
   clear cC
   go_wp2_with fail
   go_ret
   exact⟨rfl,pE.out⟩)
 by_cases h6:K=6
 .subst h6
  obtain⟨q1,q2,q3⟩:=us (y:=⟨6,S,N,L⟩) B.right hu (.inr rfl)
  rw[if_neg (show¬(⟨6,S,N,L⟩:Hp).k=5 by show¬(6:Int)=5;decide)] at q2 q3
  go_enter Tryz.func33,Tryz.ntmps33
  go_upto_region 3 with fail
  generalize World.alloc W _=v at*
  have y0:v.cell? ⟨W.heap.size,0,none⟩=some (.int .i64 6):=BY.cell 0
  have y1:v.cell? ⟨W.heap.size,1,none⟩=some (.int .i64 S):=BY.cell 1
  have y2:v.cell? ⟨W.heap.size,2,none⟩=some (.int .i64 N):=BY.cell 2
  have y3:v.cell? ⟨W.heap.size,3,none⟩=some (.slice ea en eC):=BY.cell 3
  have yl:=BY.lt
  have Bd:=B.call (ak (Below.refl v.heap.size v))
  have zv:=gl.call (ak (Below.refl v.heap.size v))
  have oe:=ak bel
  have Fg:=s3.call (ak (Below.refl v.heap.size v))
  have cC:Calls Tryz.prog 69 #[.pointer (some ⟨g,0,none⟩),.int .i64 N,.int .i64 (-1)] v.drew (nY Q g h v.drew HE Z):=by
   rw[dO,hZ,q2,q1]
   exact qH N (-1) g h p ys x v.drew Bd q3
  clear q1 q2 q3
  replace hZ:=aa hZ
  replace dO:=aa dO
  clear nS B s3 gl bel
  go_wp2_with fail
  go_region
  all_goals(
   go_wp2_with fail
   go_at_call 69
   refine cC.mono ?_
   rintro e w4 hD
   have k':=hD.pre oe
   clear hD
   obtain⟨rfl,pE⟩:=k'
   replace pE:=aa pE
   clear cC
   go_wp2_with fail
   go_ret
   exact⟨rfl,pE.out⟩)
 by_cases h7:K=7
 .subst h7
  obtain⟨q1,q2⟩:=Jq (y:=⟨7,S,N,L⟩) hu rfl
  have eH:HE=0:=dO.trans q1
  have eZ:=aa (show Z=⟨dm,x.d,false,fJ⟩ by rw[hZ,if_pos q1,q2])
  go_enter Tryz.func33,Tryz.ntmps33
  go_upto_region 3 with fail
  generalize World.alloc W _=v at*
  have y0:v.cell? ⟨W.heap.size,0,none⟩=some (.int .i64 7):=BY.cell 0
  have y1:v.cell? ⟨W.heap.size,1,none⟩=some (.int .i64 S):=BY.cell 1
  have y2:v.cell? ⟨W.heap.size,2,none⟩=some (.int .i64 N):=BY.cell 2
  have y3:v.cell? ⟨W.heap.size,3,none⟩=some (.slice ea en eC):=BY.cell 3
  have yl:=BY.lt
  have Bd:=B.call (ak (Below.refl v.heap.size v))
  have zv:=gl.call (ak (Below.refl v.heap.size v))
  have oe:=ak bel
  have Fg:=s3.call (ak (Below.refl v.heap.size v))
  have cC:=tK Q g p x.up x.d v.drew Bd.blk Bd.is.e1 Bd.is.e2 Bd.is.s1 Bd.is.s2 (fi Bd.right).1
  subst eH
  clear hZ dO nS B s3 gl bel q1 q2
  go_wp2_with fail
  go_region
  all_goals(
   go_wp2_with fail
   go_at_call 70
   refine cC.mono ?_
   rintro e w4 ⟨rfl,h',p',tF,WB,gr,hh⟩
   have pE:=aa (nY.pre oe (show nY Q g h v.drew 0 ⟨dm,x.d,false,fJ⟩ (.returned (.int .i64 0)) w4 from⟨rfl,h',p',tF,WB,gq.box gr,.inr hh⟩))
   clear cC WB gr hh
   go_wp2_with fail
   go_ret
   rw[eZ.out]
   exact pE.out)
 have n5:(K==5)=false:=by simpa using h5
 have n6:(K==6)=false:=by simpa using h6
 have n7:(K==7)=false:=by simpa using h7
 have d5:decide (K=5)=false:=decide_eq_false h5
 have d6:decide (K=6)=false:=decide_eq_false h6
 have d7:decide (K=7)=false:=decide_eq_false h7
 by_cases h9:K=9
 .subst h9
  go_enter Tryz.func33,Tryz.ntmps33
  go_upto_region 3 with fail
  generalize World.alloc W _=v at*
  have y0:v.cell? ⟨W.heap.size,0,none⟩=some (.int .i64 9):=BY.cell 0
  have y1:v.cell? ⟨W.heap.size,1,none⟩=some (.int .i64 S):=BY.cell 1
  have y2:v.cell? ⟨W.heap.size,2,none⟩=some (.int .i64 N):=BY.cell 2
  have y3:v.cell? ⟨W.heap.size,3,none⟩=some (.slice ea en eC):=BY.cell 3
  have yl:=BY.lt
  have Bd:=B.call (ak (Below.refl v.heap.size v))
  have zv:=gl.call (ak (Below.refl v.heap.size v))
  have oe:=ak bel
  have Fg:=s3.call (ak (Below.refl v.heap.size v))
  have cR:=fun V s=>rU ⟨9,S,N,L⟩ ea en eC V s h3
  unfold DH at cR
  have cells:∀V,gq g h v.drew V->V.cell? ⟨W.heap.size,0,none⟩=some (.int .i64 9)/\V.cell? ⟨W.heap.size,1,none⟩=some (.int .i64 S)/\V.cell? ⟨W.heap.size,2,none⟩=some (.int .i64 N)/\V.cell? ⟨W.heap.size,3,none⟩=some (.slice ea en eC):=fun V hV=>
   have q:=ag.gb2 (W:=v.drew) (BY.keep (ak (Below.refl v.heap.size v)) BY.lt) hV Xc Ve
   ⟨q.cell 0,q.cell 1,q.cell 2,q.cell 3⟩
  have kR:∀V,Below v.drew.heap.size v.drew V->Calls Tryz.prog 73 #[.agg #[.int .i64 9,.int .i64 S,.int .i64 N,.slice ea en eC]] V fun e w'=>∃(a:Option Addr) (n c:Nat),e=.returned (.agg #[.int .i64 (aK ⟨9,S,N,L⟩).k,.int .i64 (aK ⟨9,S,N,L⟩).s,.int .i64 (aK ⟨9,S,N,L⟩).n,.slice a n c])/\
    w'.cell? ⟨W.heap.size,0,none⟩=some (.int .i64 9)/\w'.cell? ⟨W.heap.size,1,none⟩=some (.int .i64 S)/\w'.cell? ⟨W.heap.size,2,none⟩=some (.int .i64 N)/\w'.cell? ⟨W.heap.size,3,none⟩=some (.slice ea en eC)/\
    Hid (n=(aK ⟨9,S,N,L⟩).e.length)/\be ec w' a c (aK ⟨9,S,N,L⟩).e/\Below v.drew.heap.size v.drew w':=by
   intro V hV
   refine(cR V (Fg.call hV)).mono ?_
   rintro e w' ⟨a,n,c,rfl,hn,s,b⟩
   obtain⟨c0,c1,c2,c3⟩:=cells w' (gq.below (ac hV b))
   exact⟨a,n,c,rfl,c0,c1,c2,c3,hn,s,ac hV b⟩
  have kT:∀V (a:Option Addr) (n c:Nat),Below v.drew.heap.size v.drew V->be ec V a c (aK ⟨9,S,N,L⟩).e->Hid (n=(aK ⟨9,S,N,L⟩).e.length)->Calls Tryz.prog 72 #[.pointer (some ⟨g,0,none⟩),.agg #[.int .i64 (aK ⟨9,S,N,L⟩).k,.int .i64 (aK ⟨9,S,N,L⟩).s,.int .i64 (aK ⟨9,S,N,L⟩).n,.slice a n c],.int .i64 N] V fun e w'=>e=.returned (.int .i64 HE)/\
    w'.cell? ⟨W.heap.size,0,none⟩=some (.int .i64 9)/\w'.cell? ⟨W.heap.size,1,none⟩=some (.int .i64 S)/\w'.cell? ⟨W.heap.size,2,none⟩=some (.int .i64 N)/\w'.cell? ⟨W.heap.size,3,none⟩=some (.slice ea en eC)/\
    Hid (nY Q g h v.drew HE Z (.returned (.int .i64 HE)) w'):=by
   intro V a n c hV s hn
   have t:=Lp ⟨9,S,N,L⟩ rfl g h p ys x V (Bd.call hV) hu (zv.call hV) a n c s hn
   rw[<-hZ,<-dO] at t
   refine t.mono ?_
   rintro e w' hD
   have k':=nY.pre hV hD
   obtain⟨rfl,h',p',tF,WB,gr,hh⟩:=k'
   obtain⟨c0,c1,c2,c3⟩:=cells w' gr
   exact⟨rfl,c0,c1,c2,c3,aa ⟨rfl,h',p',tF,WB,gr,hh⟩⟩
  have k0:Below v.drew.heap.size v.drew v.drew.drew:=ak (Below.refl _ _)
  generalize aK ⟨9,S,N,L⟩=R at*
  replace hZ:=aa hZ
  replace dO:=aa dO
  replace cells:=aa cells
  clear nS B s3 gl bel cR Bd Fg zv
  go_wp2_with fail
  go_region
  all_goals(
   go_wp2_with fail
   go_region_held3 (fun w'=>w'.cell? ⟨W.heap.size,0,none⟩=some (.int .i64 9)/\w'.cell? ⟨W.heap.size,1,none⟩=some (.int .i64 S)/\w'.cell? ⟨W.heap.size,2,none⟩=some (.int .i64 N)/\w'.cell? ⟨W.heap.size,3,none⟩=some (.slice ea en eC)) (go_keep)
    (first
     | (go_at_call 72;refine(kT _ _ _ _ zA sA hA).mono ?_;rintro e wB ⟨rfl,r0,r1,r2,r3,hD⟩)
     | (go_at_call 73;refine(kR _ k0).mono ?_;rintro e wA ⟨a,n,c,rfl,q0,q1,q2,q3,hA,sA,zA⟩))
   all_goals(
    have pE:=aa (nY.pre oe hD.out)
    clear hD
    go_wp2_with fail
    go_ret
    exact pE.out))
 have n9:(K==9)=false:=by simpa using h9
 have d9:decide (K=9)=false:=decide_eq_false h9
 go_enter Tryz.func33,Tryz.ntmps33
 go_upto_region 3 with fail
 generalize World.alloc W _=v at*
 have y0:v.cell? ⟨W.heap.size,0,none⟩=some (.int .i64 K):=BY.cell 0
 have y1:v.cell? ⟨W.heap.size,1,none⟩=some (.int .i64 S):=BY.cell 1
 have y2:v.cell? ⟨W.heap.size,2,none⟩=some (.int .i64 N):=BY.cell 2
 have y3:v.cell? ⟨W.heap.size,3,none⟩=some (.slice ea en eC):=BY.cell 3
 have yl:=BY.lt
 have Bd:=B.call (ak (Below.refl v.heap.size v))
 have zv:=gl.call (ak (Below.refl v.heap.size v))
 have oe:=ak bel
 have Fg:=s3.call (ak (Below.refl v.heap.size v))
 have cR:=fun V s=>rU ⟨K,S,N,L⟩ ea en eC V s h3
 unfold DH at cR
 have cW:∀V (a:Option Addr) (n c:Nat),Below v.drew.heap.size v.drew V->be ec V a c (aK ⟨K,S,N,L⟩).e->Hid (n=(aK ⟨K,S,N,L⟩).e.length)->Calls Tryz.prog 74 #[.pointer (some ⟨g,0,none⟩),.agg #[.int .i64 (aK ⟨K,S,N,L⟩).k,.int .i64 (aK ⟨K,S,N,L⟩).s,.int .i64 (aK ⟨K,S,N,L⟩).n,.slice a n c]] V (nY Q g h V HE Z):=by
  intro V a n c hV s hn
  rw[dO,hZ]
  exact FI ⟨K,S,N,L⟩ (by show 1<=K/\K<=4;omega) g h p ys x V (Bd.call hV) (fun q e=>Nat.lt_of_lt_of_le (hQ.out q e) (Nat.le_trans oe.size hV.size)) hu (zv.call hV) a n c s hn
 generalize aK ⟨K,S,N,L⟩=R at*
 replace hZ:=aa hZ
 replace dO:=aa dO
 clear nS B s3 gl bel h1 Bd zv
 go_wp2_with fail
 go_region
 all_goals(
  go_wp2_with fail
  go_at_call 73
  refine(cR _ Fg).mono ?_
  rintro e w4 ⟨a,n,c,rfl,hn,sR,b4⟩
  clear cR
  go_wp2_with fail
  go_at_call 74
  refine(cW _ a n c b4 sR hn).mono ?_
  rintro e w5 hD
  have k':=nY.pre (ac oe b4) hD
  clear hD
  obtain⟨rfl,pE⟩:=k'
  replace pE:=aa pE
  clear cW sR b4
  go_wp2_with fail
  go_ret
  exact⟨rfl,pE.out⟩)
end Go.Proofs.YtoonnbhoiocoeaaGreatDoor
