/-
  shelf.Merge: what it answers of a shelf, whatever it is.
-/
import Derived.Test.YtoonnbhoiocoeaaGreatDoorQ16
set_option maxHeartbeats 40000000
set_option maxRecDepth 100000
set_option linter.unusedVariables false
namespace Go.Proofs.YtoonnbhoiocoeaaGreatDoor
open Go.RowKit
theorem Ai (n:Int)(cb g k m bc:Nat)(ba:Option Addr)(W:World)(d0:W.cell? ⟨cb,0,none⟩=some (.int .i64 n))(d1:W.cell? ⟨g,k*2,none⟩=some (.slice ba m bc))(few:m<=8)(h:dG n 0 ((m:Int)-2)=false):
  Calls Tryz.prog 156 #[.pointer (some ⟨g,k*2,none⟩),.pointer (some ⟨cb,0,none⟩)] W fun e W'=>e=.returned (.int .i64 3)/\∃q,W'=W.drewN q:=by
 have u:IntKind.i64.wrap ((m:Int)-1)=(m:Int)-1:=by rw[IntKind.wrap_i64];omega
 by_cases h0:n<0
 .clear h
  go_enter Tryz.func156,Tryz.ntmps156
  go_wp2_with fail
  go_quiet (fail)
  go_wp2_with fail
  go_ret
  exact⟨rfl,_,rfl⟩
 have h1:(m:Int)-1<=n:=by unfold dG at h;simp at h;omega
 clear h
 go_enter Tryz.func156,Tryz.ntmps156
 go_wp2_with fail
 go_quiet (fail)
 go_wp2_with fail
 go_ret
 exact⟨rfl,_,rfl⟩
theorem Je {α:Type}(l:List α)(q:Nat)(m:α)(h:q+1<l.length):(l.set q m).eraseIdx (q+1)=l.take q++m::l.drop (q+2):=by
 rw[List.eraseIdx_eq_take_drop_succ,List.take_add_one,List.take_set_of_le (Nat.le_refl _),List.getElem?_set_self (by omega),List.drop_set_of_lt (by omega),List.append_assoc]
 rfl
theorem GZ (q:Nat)(cb:Nat)(l:List Rw)(base box g k p:Nat)(rs:List Lr)(r:Lr)(x y:Lb)(W:World)(hR:eY l)(C:bv l base box g rs W)(hr:rs[k]? =some r)(Bc:ag W cb [.int .i64 q] 3)(hp:r.bs.length=p+1)(f1:p<8)(h2:q<p)(hx:r.bs[q]? =some x)(hy:r.bs[q+1]? =some y):
  Calls Tryz.prog 156 #[.pointer (some ⟨g,k*2,none⟩),.pointer (some ⟨cb,0,none⟩)] W (Does (eA x.b y.b) (l.set k ⟨(r.bs.take q).map Lb.b++eO x.b y.b::(r.bs.drop (q+2)).map Lb.b,r.hd⟩) base box g W):=by
 have oR:=C.own.each r (List.mem_of_getElem? hr)
 obtain⟨bg,eb,lo,-⟩:=oR.bs
 have tP:=oR.bc
 have gx:=oR.good x (List.mem_of_getElem? hx)
 have gy:=oR.good y (List.mem_of_getElem? hy)
 have c4:=fun W hx hy=>Hm x.b y.b x.a y.a x.c y.c W hx hy gx.good.few gy.good.few
 have lM:=ur x.b y.b
 obtain⟨e0,-⟩:=C.own.at k r hr
 have d0:W.cell? ⟨cb,0,none⟩=some (.int .i64 q):=Bc.cell 0
 rw[eb,tP,hp] at e0
 have i1:¬(q:Int)<0:=by omega
 have i2:¬(p:Int)<=q:=by omega
 have i3:¬(p:Int)+1-1<=q:=by omega
 have u1:IntKind.i64.wrap ((p:Int)+1-1)=p:=by rw[IntKind.wrap_i64];omega
 have u2:IntKind.i64.wrap (p:Int)=p:=by rw[IntKind.wrap_i64];omega
 have u3:IntKind.i64.wrap ((q:Int)+1)=(q:Int)+1:=by rw[IntKind.wrap_i64];omega
 have u4:IntKind.i64.wrap ((q:Int)+2)=(q:Int)+2:=by rw[IntKind.wrap_i64];omega
 have same:=C.same
 have lL:rs.length=4:=by rw[<-hR.four,<-C.same,List.length_map]
 generalize eO x.b y.b=M at*
 generalize eA x.b y.b=E at*
 unfold ej at c4
 replace hp:=aa hp
 replace tP:=aa tP
 replace eb:=aa eb
 replace hr:=aa hr
 replace hx:=aa hx
 replace hy:=aa hy
 replace C:=aa C
 replace hR:=aa hR
 replace same:=aa same
 replace lL:=aa lL
 clear oR gx gy
 go_enter Tryz.func156,Tryz.ntmps156
 go_wp2_with fail
 go_quiet (fail)
 have C2:=aa (C.out.call (bt (Below.refl W.heap.size W) nq))
 have am:=bt (Below.refl base W) nq
 have wL:ag (W.drewN nq) cb [.int .i64 q] 3:=Bc
 have jJ:=C2.out.base
 clear e0 d0 C Bc
 generalize W.drewN nq=w2 at*
 have e0:w2.cell? ⟨g,k*2,none⟩=some (.slice (some ⟨bg,0,none⟩) (p+1) (p+1)):=by rw[(C2.out.own.at k r hr.out).1,eb.out,tP.out,hp.out]
 have d0:w2.cell? ⟨cb,0,none⟩=some (.int .i64 q):=wL.cell 0
 have Qd:=C2.out.own.each r (List.mem_of_getElem? hr.out)
 obtain⟨iz,FX,-,B2⟩:=Qd.bs
 obtain rfl:iz=bg:=by rw[eb.out] at FX;simpa using FX.symm
 have a0:w2.cell? ⟨iz,q*4,none⟩=some (.int .i64 x.b.n):=by rw[B2.cell];exact flat_get Lb.four _ q 0 _ hx.out (by decide)
 have a1:w2.cell? ⟨iz,q*4+1,none⟩=some (.int .i64 x.b.fr):=by rw[B2.cell];exact flat_get Lb.four _ q 1 _ hx.out (by decide)
 have a2:w2.cell? ⟨iz,q*4+2,none⟩=some (.int .i64 x.b.to):=by rw[B2.cell];exact flat_get Lb.four _ q 2 _ hx.out (by decide)
 have a3:w2.cell? ⟨iz,q*4+3,none⟩=some (.slice x.a x.b.bits.length x.c):=by rw[B2.cell];exact flat_get Lb.four _ q 3 _ hx.out (by decide)
 have b0:w2.cell? ⟨iz,(q+1)*4,none⟩=some (.int .i64 y.b.n):=by rw[B2.cell];exact flat_get Lb.four _ (q+1) 0 _ hy.out (by decide)
 have b1:w2.cell? ⟨iz,(q+1)*4+1,none⟩=some (.int .i64 y.b.fr):=by rw[B2.cell];exact flat_get Lb.four _ (q+1) 1 _ hy.out (by decide)
 have b2:w2.cell? ⟨iz,(q+1)*4+2,none⟩=some (.int .i64 y.b.to):=by rw[B2.cell];exact flat_get Lb.four _ (q+1) 2 _ hy.out (by decide)
 have b3:w2.cell? ⟨iz,(q+1)*4+3,none⟩=some (.slice y.a y.b.bits.length y.c):=by rw[B2.cell];exact flat_get Lb.four _ (q+1) 3 _ hy.out (by decide)
 have lg:=C2.out.own.rows.lt
 have lc:=wL.lt
 have lb:=B2.lt
 have j1:(q:Int)<(p:Int)+1:=by omega
 have j2:(q:Int)+1<(p:Int)+1:=by omega
 have j3:(0:Int)<=(q:Int)+1:=by omega
 have j4:((q:Int)+1).toNat=q+1:=by omega
 have XQ:x.Good w2:=(Qd.good x (List.mem_of_getElem? hx.out)).good
 have WW:y.Good w2:=(Qd.good y (List.mem_of_getElem? hy.out)).good
 have cM:∀W,Below w2.heap.size w2 W->Calls Tryz.prog 157 #[.agg #[.int .i64 x.b.n,.int .i64 x.b.fr,.int .i64 x.b.to,.slice x.a x.b.bits.length x.c],.agg #[.int .i64 y.b.n,.int .i64 y.b.fr,.int .i64 y.b.to,.slice y.a y.b.bits.length y.c]] W fun e w'=>∃a' G,e=.returned (.tuple #[.agg #[.int .i64 M.n,.int .i64 M.fr,.int .i64 M.to,.slice a' M.bits.length G],.int .i64 E])/\Sl w' a' G (M.bits.map Value.bool)/\Below W.heap.size W w'/\Below w2.heap.size w2 w'/\w'.cell? ⟨g,k*2,none⟩=some (.slice (some ⟨iz,0,none⟩) (p+1) (p+1))/\w'.cell? ⟨cb,0,none⟩=some (.int .i64 q)/\w'.cell? ⟨iz,q*4,none⟩=some (.int .i64 x.b.n)/\w'.cell? ⟨iz,q*4+1,none⟩=some (.int .i64 x.b.fr)/\w'.cell? ⟨iz,q*4+2,none⟩=some (.int .i64 x.b.to)/\w'.cell? ⟨iz,q*4+3,none⟩=some (.slice x.a x.b.bits.length x.c)/\w'.cell? ⟨iz,(q+1)*4,none⟩=some (.int .i64 y.b.n)/\w'.cell? ⟨iz,(q+1)*4+1,none⟩=some (.int .i64 y.b.fr)/\w'.cell? ⟨iz,(q+1)*4+2,none⟩=some (.int .i64 y.b.to)/\w'.cell? ⟨iz,(q+1)*4+3,none⟩=some (.slice y.a y.b.bits.length y.c):=by
  intro W hW
  refine(c4 W (XQ.keep hW (Nat.le_refl _)).bits (WW.keep hW (Nat.le_refl _)).bits).mono ?_
  rintro e w' ⟨a',G,rfl,s',b'⟩
  have bb:=hW.trans (b'.mono hW.size)
  have G':=C2.out.own.rows.keep bb lg
  have Z9:=wL.keep bb lc
  have B':=B2.keep bb lb
  refine⟨a',G,rfl,s',b',bb,?_,Z9.cell 0,?_,?_,?_,?_,?_,?_,?_,?_⟩
  .rw[G'.cell,<-C2.out.own.rows.cell];exact e0
  .rw[B'.cell,<-B2.cell];exact a0
  .rw[B'.cell,<-B2.cell];exact a1
  .rw[B'.cell,<-B2.cell];exact a2
  .rw[B'.cell,<-B2.cell];exact a3
  .rw[B'.cell,<-B2.cell];exact b0
  .rw[B'.cell,<-B2.cell];exact b1
  .rw[B'.cell,<-B2.cell];exact b2
  rw[B'.cell,<-B2.cell];exact b3
 have PF:¬g=w2.heap.size:=by omega
 have Pi:¬cb=w2.heap.size:=by omega
 have UP:¬iz=w2.heap.size:=by omega
 have UK:¬w2.heap.size=g:=by omega
 have Z4:¬w2.heap.size=cb:=by omega
 have Y5:¬w2.heap.size=iz:=by omega
 clear Qd B2 FX XQ WW c4
 go_upto_region 3 with fail
 go_cut [4,5] from 6 to 58 (fun s4 s5 wx=>∃(x4:Nat) (a5:Option Addr) (G5:Nat),s4=.pointer (some ⟨x4,0,none⟩)/\s5=.int .i64 E/\ag wx x4 [.int .i64 M.n,.int .i64 M.fr,.int .i64 M.to,.slice a5 M.bits.length G5] 107/\Hid (Sl wx a5 G5 (M.bits.map Value.bool))/\Below w2.heap.size w2 wx)
 case first=>
  go_region_held3 (fun w'=>w'.cell? ⟨g,k*2,none⟩=some (.slice (some ⟨iz,0,none⟩) (p+1) (p+1))/\w'.cell? ⟨cb,0,none⟩=some (.int .i64 q)/\w'.cell? ⟨iz,q*4,none⟩=some (.int .i64 x.b.n)/\w'.cell? ⟨iz,q*4+1,none⟩=some (.int .i64 x.b.fr)/\w'.cell? ⟨iz,q*4+2,none⟩=some (.int .i64 x.b.to)/\w'.cell? ⟨iz,q*4+3,none⟩=some (.slice x.a x.b.bits.length x.c)/\w'.cell? ⟨iz,(q+1)*4,none⟩=some (.int .i64 y.b.n)/\w'.cell? ⟨iz,(q+1)*4+1,none⟩=some (.int .i64 y.b.fr)/\w'.cell? ⟨iz,(q+1)*4+2,none⟩=some (.int .i64 y.b.to)/\w'.cell? ⟨iz,(q+1)*4+3,none⟩=some (.slice y.a y.b.bits.length y.c)) (go_keep)
   (first
    | (go_at_call 157;refine(cM _ ?_).mono ?_;exact ak (Below.refl _ _);rintro e w5 ⟨a5,G5,rfl,s5,b5,ki,z0,z1,z2,z3,z4,z5,z6,z7,z8,z9⟩)
    | (go_at_call 157;refine(cM _ ?_).mono ?_;exact ak (ax (Below.refl _ _) _);rintro e w5 ⟨a5,G5,rfl,s5,b5,ki,z0,z1,z2,z3,z4,z5,z6,z7,z8,z9⟩;have A5:=(ag.laid w2 [.int .i64 0,.int .i64 0,.int .i64 0,.slice none 0 0] 107 _ rfl).drewS.keep b5 (by simp);have u0:w5.cell? ⟨w2.heap.size,0,none⟩=some (.int .i64 0):=A5.cell 0;have u5:w5.cell? ⟨w2.heap.size,1,none⟩=some (.int .i64 0):=A5.cell 1;have u6:w5.cell? ⟨w2.heap.size,2,none⟩=some (.int .i64 0):=A5.cell 2;have u7:w5.cell? ⟨w2.heap.size,3,none⟩=some (.slice none 0 0):=A5.cell 3;have v0:=A5.free 0;have v1:=A5.free 1;have v2:=A5.free 2;have v3:=A5.free 3))
  all_goals(
   go_wp2_with fail
   go_meet
   case rel=>
    first
     |exact⟨_,a5,G5,rfl,rfl,A5.put4 _ _ _ _,s5.put4 A5 _ _ _ _,ic ki (Nat.le_refl _) _ _ _ _⟩
     |exact⟨_,a5,G5,rfl,rfl,ag.laid w5 [.int .i64 M.n,.int .i64 M.fr,.int .i64 M.to,.slice a5 M.bits.length G5] 107 _ rfl,s5.alloc _,ax ki _⟩)
 case rest=>
  obtain⟨x4,a5,G5,rfl,rfl,X,s5,b5⟩:=hcut
  have C5:=C2.out.call b5
  have IB:=wL.keep b5 wL.lt
  have br:Below base W wc:=am.trans (b5.mono jJ)
  have TH:=C5.base
  clear e0 d0 C2 wL cM lg lc b5 am a0 a1 a2 a3 b0 b1 b2 b3 lb PF Pi UP UK Z4 Y5
  by_cases hE:E=0
  .subst hE
   have Ae:=C5.own.each r (List.mem_of_getElem? hr.out)
   obtain⟨m9,Ta,-,B5⟩:=Ae.bs
   obtain rfl:m9=iz:=by rw[eb.out] at Ta;simpa using Ta.symm
   have e0:wc.cell? ⟨g,k*2,none⟩=some (.slice (some ⟨m9,0,none⟩) (p+1) (p+1)):=by rw[(C5.own.at k r hr.out).1,eb.out,tP.out,hp.out]
   have d0:wc.cell? ⟨cb,0,none⟩=some (.int .i64 q):=IB.cell 0
   have x0:wc.cell? ⟨x4,0,none⟩=some (.int .i64 M.n):=X.cell 0
   have x1:wc.cell? ⟨x4,1,none⟩=some (.int .i64 M.fr):=X.cell 1
   have x2:wc.cell? ⟨x4,2,none⟩=some (.int .i64 M.to):=X.cell 2
   have x3:wc.cell? ⟨x4,3,none⟩=some (.slice a5 M.bits.length G5):=X.cell 3
   have a0:wc.cell? ⟨m9,q*4,none⟩=some (.int .i64 x.b.n):=by rw[B5.cell];exact flat_get Lb.four _ q 0 _ hx.out (by decide)
   have a1:wc.cell? ⟨m9,q*4+1,none⟩=some (.int .i64 x.b.fr):=by rw[B5.cell];exact flat_get Lb.four _ q 1 _ hx.out (by decide)
   have a2:wc.cell? ⟨m9,q*4+2,none⟩=some (.int .i64 x.b.to):=by rw[B5.cell];exact flat_get Lb.four _ q 2 _ hx.out (by decide)
   have a3:wc.cell? ⟨m9,q*4+3,none⟩=some (.slice x.a x.b.bits.length x.c):=by rw[B5.cell];exact flat_get Lb.four _ q 3 _ hx.out (by decide)
   have f0:=B5.free (q*4)
   have Xu:=B5.free (q*4+1)
   have f2:=B5.free (q*4+2)
   have f3:=B5.free (q*4+3)
   obtain⟨B6,Aw⟩:=ag.setB (w:=wc.drew) B5 q (by rw[hp.out];omega) ⟨M,a5,G5⟩
   have ng:∀j,some m9=some j->j≠g:=by
    intro j e
    obtain rfl:=Option.some.inj e
    rintro rfl
    exact absurd (bV B5 C5.own.rows) (by decide)
   have nc:∀j,some m9=some j->j≠cb:=by
    intro j e
    obtain rfl:=Option.some.inj e
    rintro rfl
    exact absurd (bV B5 IB) (by decide)
   have G6:=ag.grown (w:=wc.drew) C5.own.rows Aw ng
   have Qb:=ag.grown (w:=wc.drew) IB Aw nc
   have JS:wc.grownBy (setB wc.drew m9 q ⟨M,a5,G5⟩) (some m9):=ey (eU (ak (Below.refl _ _))) Aw
   replace B6:=aa B6
   replace G6:=aa G6
   replace Qb:=aa Qb
   replace JS:=aa JS
   replace C5:=aa C5
   replace Ae:=aa Ae
   replace ng:=aa ng
   replace nc:=aa nc
   clear Aw Ta
   have JR:((r.bs.set q ⟨M,a5,G5⟩).eraseIdx (q+1)).length=p:=by rw[List.length_eraseIdx,List.length_set,hp.out,if_pos (by omega)];omega
   have Oy:∀z∈(r.bs.set q ⟨M,a5,G5⟩).eraseIdx (q+1),z.Good wc:=by
    intro z hz
    rcases List.mem_or_eq_of_mem_set (List.mem_of_mem_eraseIdx hz) with h|rfl
    .exact(Ae.out.good z h).good
    exact⟨s5.out,by show M.bits.length<=_;omega⟩
   have hf:=(C5.out.fin hR.out).good
   have MP:=Je r.bs q ⟨M,a5,G5⟩ (by rw[hp.out];omega)
   replace JR:=aa JR
   replace Oy:=aa Oy
   replace hf:=aa hf
   replace MP:=aa MP
   go_upto_region 6 with fail
   rename World=>wq
   go_cut [] from 6 to 58 (fun wx=>wx=setB wq.drew m9 q ⟨M,a5,G5⟩)
   case first=>
    go_region
    all_goals(
     go_wp2_with fail
     go_meet
     case rel=>rfl)
   case rest=>
    have B7:ag wc m9 ((r.bs.set q ⟨M,a5,G5⟩).flatMap Lb.cells) 107:=by rw[hcut];exact B6.out
    have G7:ag wc g (rs.flatMap Lr.cells) 53:=by rw[hcut];exact G6.out
    have Wh:ag wc cb [.int .i64 q] 3:=by rw[hcut];exact Qb.out
    have Nd:wq.grownBy wc (some m9):=by rw[hcut];exact JS.out
    have c7:∀V,ag V m9 ((r.bs.set q ⟨M,a5,G5⟩).flatMap Lb.cells) 107->Calls Tryz.prog 158 #[.slice (some ⟨m9,0,none⟩) (p+1) (p+1),.int .i64 ((q:Int)+1),.int .i64 ((q:Int)+2)] V fun e V'=>
      e=.returned (.slice (some ⟨m9,0,none⟩) p (p+1))/\ag V' m9 (((r.bs.set q ⟨M,a5,G5⟩).eraseIdx (q+1)++[qq]).flatMap Lb.cells) 107/\V.grownBy V' (some m9):=by
     intro V h
     have t:=EW (r.bs.set q ⟨M,a5,G5⟩) m9 (q+1) p V h (by omega) (by rw[List.length_set];exact hp.out) f1
     rw[show((q+1:Nat):Int)=(q:Int)+1 by omega,show((q+1+1:Nat):Int)=(q:Int)+2 by omega] at t
     exact t
    have e6:wc.cell? ⟨g,k*2,none⟩=some (.slice (some ⟨m9,0,none⟩) (p+1) (p+1)):=by rw[G7.cell,<-C5.out.own.rows.cell];exact e0
    have d6:wc.cell? ⟨cb,0,none⟩=some (.int .i64 q):=Wh.cell 0
    clear hcut B6 G6 Qb JS a0 a1 a2 a3 f0 Xu f2 f3 x0 x1 x2 x3 d0
    replace B7:=aa B7
    replace G7:=aa G7
    clear Wh
    go_wp2_with fail
    go_region_with (go_at_call 158;refine(c7 _ ?_).mono ?_;exact B7.out;rintro e w8 ⟨rfl,B8,Si⟩;have G8:=ag.grown (w:=wc.drew) G7.out Si ng.out;have e8:w8.cell? ⟨g,k*2,none⟩=some (.slice (some ⟨m9,0,none⟩) (p+1) (p+1)):=by {rw[G8.cell,<-C5.out.own.rows.cell];exact e0};have f8:=G8.free (k*2))
    all_goals(
     obtain⟨F,O,b⟩:=C5.out.cut hr.out eb.out (n:=p+1) hp.out.symm (ey Nd (ey (eU (ak (Below.refl _ _))) Si)) B8 Oy.out (by rw[JR.out];omega) (by omega) hf.out
     rw[JR.out] at F O b
     have mp:(rs.set k ⟨(r.bs.set q ⟨M,a5,G5⟩).eraseIdx (q+1),some ⟨m9,0,none⟩,p+1,r.hd,r.ha,r.hc⟩).map Lr.rw=l.set k ⟨(r.bs.take q).map Lb.b++M::(r.bs.drop (q+2)).map Lb.b,r.hd⟩:=by
      rw[List.map_set,same.out]
      congr 1
      unfold Lr.rw
      simp only[MP.out,List.map_append,List.map_cons]
     replace F:=aa F
     replace O:=aa O
     replace b:=aa b
     replace mp:=aa mp
     clear B8 Si G8
     go_wp2_with fail
     go_ret
     exact⟨rfl,br.trans b.out,fun _=>⟨_,F.out,⟨by rw[List.length_set];exact lL.out,C5.out.hdLo.set _ _ (fun ad e=>C5.out.hdLo r (List.mem_of_getElem? hr.out) ad e)⟩,mp.out,O.out⟩⟩)
  have kG:(E==0)=false:=by simpa using hE
  clear C5
  go_wp2_with fail
  go_ret
  exact⟨rfl,br,fun h=>absurd h hE⟩
end Go.Proofs.YtoonnbhoiocoeaaGreatDoor
