/-
  disk.Put: what it answers; nothing that was there is written.
-/
import Derived.Lib.ConvBytes
import Derived.Deep.CutBlock
import Derived.Test.YtoonnbhoiocoeaaGreatDoorQ19
set_option maxHeartbeats 40000000
set_option maxRecDepth 100000
set_option linter.unusedVariables false
namespace Go.Proofs.YtoonnbhoiocoeaaGreatDoor
open Go.RowKit
open Go.Lib (byteCells)
theorem JA (W:World)(T:ByteArray)(h:T.size<=1000000):Sl (Lib.bytesWorld W 5 T) (some ⟨W.heap.size,0,none⟩) (grownCap W T.size 0 5) (byteCells (bytes T)):=by
 refine⟨.inr ⟨W.heap.size,0,rfl,by rw[Lib.bytesWorld_size];omega,fun j u hu=>?_⟩,?_,?_,fun h=>by cases h⟩
 .have hj:j<T.size:=by
   have:=(List.getElem?_eq_some_iff.1 hu).1
   rw[Lib.byteCells_length,dB] at this
   exact this
  rw[Nat.zero_add,Lib.bytesWorld_cell W 5 T j hj,<-hu]
  simp[byteCells,bytes,List.getD,hj]
 .rw[Lib.byteCells_length,dB]
  exact grownCap_ge _ _ _ _
 have:=grownCap_le_maxLen W T.size 0 5 (by unfold maxLen;omega)
 unfold maxLen at this
 exact this
structure Jz (w w5:World)(D X n1 n2:Nat)(s1 s2:Value)(TL:ByteArray)(L1 L2:List UInt8)(d:Nat->Bool)(V:Nat->Value)(W:World):Prop where
 bel:d 9=false->Below w5.heap.size w5 W
 v0:d 0=true->V 0=.pointer (some ⟨D,0,none⟩)
 v1:d 1=true->V 1=s1
 v3:d 3=true->V 3=.pointer (some ⟨D,1,none⟩)
 v4:d 4=true->V 4=s2
 v5:d 5=true->V 5=.string TL
 v2:d 2=true->∃gJ,V 2=.slice (some ⟨gJ,0,none⟩) n1 n1/\w5.heap.size<=gJ/\ag W gJ (byteCells L1) 5
 v6:d 6=true->d 9=false->∃ad cap,V 6=.slice ad TL.size cap/\Sl W ad cap (byteCells (bytes TL))
 v7:d 7=true->∃gK,V 7=.slice (some ⟨gK,0,none⟩) (n2+TL.size) (n2+TL.size)/\w5.heap.size<=gK/\ag W gK (byteCells L2) 5
 v8:d 8=true->V 8=.agg #[V 2,V 7]
 fin:d 9=true->ag W X [V 2,V 7] 27/\Below w.heap.size w W
def PJ (D:Nat)(s1 s2:Value)(TL:ByteArray):Nat->Value->Prop
 |0,v=>v=.pointer (some ⟨D,0,none⟩)
 |1,v=>v=s1
 |3,v=>v=.pointer (some ⟨D,1,none⟩)
 |4,v=>v=s2
 |5,v=>v=.string TL
 |_,_=>True
theorem vX {A:Act}{lo n:Nat}{V:Nat->Value}(dd:Nat)(hd:dd<lo\/lo+n<=dd)(v:Value):(pV A lo n V).put (some dd) v=pV (A.put (some dd) v) lo n V:=by
 unfold pV Act.put
 simp only[Act.mk.injEq,and_true]
 apply Array.ext_getElem?
 intro k
 rw[Array.getElem?_setIfInBounds,Array.getElem?_mapIdx,Array.getElem?_mapIdx,Array.size_mapIdx,Array.getElem?_setIfInBounds]
 by_cases hk:dd=k
 .subst hk
  rw[if_pos rfl,if_pos rfl]
  by_cases hs:dd<A.tmps.size
  .rw[if_pos hs]
   simp only[Option.map_some]
   rw[if_neg (by omega)]
  rw[if_neg hs]
  rfl
 rw[if_neg hk,if_neg hk]
theorem bh {V:Nat->Value}{i k:Nat}{v:Value}(h:k≠i):bH V i v k=V k:=if_neg h
theorem Jz.pure {w w5:World}{D X n1 n2:Nat}{s1 s2:Value}{TL:ByteArray}{L1 L2:List UInt8}{d:Nat->Bool}{V:Nat->Value}{W:World}(h:Jz w w5 D X n1 n2 s1 s2 TL L1 L2 d V W)(i:Nat)(h2:i≠2)(h6:i≠6)(h7:i≠7)(h8:i≠8)(h9:i≠9)(v:Value)(hv:PJ D s1 s2 TL i v):
  Jz w w5 D X n1 n2 s1 s2 TL L1 L2 (fun k=>k==i||d k) (bH V i v) W:=by
 have e:∀k,k≠i->(k==i||d k)=d k:=fun k hk=>by simp[hk]
 have one:∀k,(∀u,PJ D s1 s2 TL k u->True)->(k==i||d k)=true->(d k=true->PJ D s1 s2 TL k (V k))->PJ D s1 s2 TL k (bH V i v k):=by
  intro k _ hk hd
  by_cases Up:k=i
  .subst Up
   unfold bH
   rw[if_pos rfl]
   exact hv
  rw[e k Up] at hk
  rw[bh Up]
  exact hd hk
 refine⟨?_,?_,?_,?_,?_,?_,?_,?_,?_,?_,?_⟩
 .intro h';simp only[e 9 (Ne.symm h9)] at h';exact h.bel h'
 .intro h';exact one 0 (fun _ _=>trivial) h' h.v0
 .intro h';exact one 1 (fun _ _=>trivial) h' h.v1
 .intro h';exact one 3 (fun _ _=>trivial) h' h.v3
 .intro h';exact one 4 (fun _ _=>trivial) h' h.v4
 .intro h';exact one 5 (fun _ _=>trivial) h' h.v5
 .intro h';simp only[e 2 (Ne.symm h2)] at h';rw[bh (Ne.symm h2)];exact h.v2 h'
 .intro h' QW;simp only[e 6 (Ne.symm h6)] at h';simp only[e 9 (Ne.symm h9)] at QW;rw[bh (Ne.symm h6)];exact h.v6 h' QW
 .intro h';simp only[e 7 (Ne.symm h7)] at h';rw[bh (Ne.symm h7)];exact h.v7 h'
 .intro h';simp only[e 8 (Ne.symm h8)] at h';rw[bh (Ne.symm h8),bh (Ne.symm h2),bh (Ne.symm h7)];exact h.v8 h'
 intro h';simp only[e 9 (Ne.symm h9)] at h';rw[bh (Ne.symm h2),bh (Ne.symm h7)];exact h.fin h'
theorem LD (d:Dk)(r:Rc)(a1 a2 a3:Option Addr)(c1 c2 c3 n1 n2 n3:Nat)(w:World)(hg:Gl w)(s1:Sl w a1 c1 (byteCells d.safe))(s2:Sl w a2 c2 (byteCells d.wait))(s3:be ec w a3 c3 r.e)(h1:n1=d.safe.length)(h2:n2=d.wait.length)(h3:n3=r.e.length)(few:n1+n2<=9223372036854775807):
  Calls Tryz.prog 138 #[.agg #[.slice a1 n1 c1,.slice a2 n2 c2],.agg #[.int .i64 r.k,.int .i64 r.s,.int .i64 r.n,.slice a3 n3 c3]] w (JT w (cU d r) (dX d r)):=by
 have cC:=fun W g s=>ny d a1 a2 c1 c2 n1 n2 W g s h1 h2 few
 have cP:=fun W g s=>KX r a3 c3 n3 W g s h3
 have cZ:=fun W=>Bj a1 a2 c1 c2 n1 n2 W few
 have B1:=((ag.laid w [.slice a1 n1 c1,.slice a2 n2 c2] 27 _ rfl).alc (.cells #[.int .i64 r.k,.int .i64 r.s,.int .i64 r.n,.slice a3 n3 c3] 73)).alc (.cells #[.slice none 0 0,.slice none 0 0] 27)
 have B3:=(ag.laid (w.alloc (.cells #[.slice a1 n1 c1,.slice a2 n2 c2] 27)) [.int .i64 r.k,.int .i64 r.s,.int .i64 r.n,.slice a3 n3 c3] 73 (w.heap.size+1) (by simp)).alc (.cells #[.slice none 0 0,.slice none 0 0] 27)
 have B2:=ag.laid ((w.alloc (.cells #[.slice a1 n1 c1,.slice a2 n2 c2] 27)).alloc (.cells #[.int .i64 r.k,.int .i64 r.s,.int .i64 r.n,.slice a3 n3 c3] 73)) [.slice none 0 0,.slice none 0 0] 27 (w.heap.size+1+1) (by simp)
 have bel:=newB (newB (newB (Below.refl w.heap.size w) (.cells #[.slice a1 n1 c1,.slice a2 n2 c2] 27)) (.cells #[.int .i64 r.k,.int .i64 r.s,.int .i64 r.n,.slice a3 n3 c3] 73)) (.cells #[.slice none 0 0,.slice none 0 0] 27)
 have S1:=s1.keep bel (Nat.le_refl _)
 have S2:=s2.keep bel (Nat.le_refl _)
 have S3:=s3.keep bel (Nat.le_refl _)
 have g:=hg.call bel
 obtain⟨x0,x1,l1⟩:=B1.c2
 by_cases h0:cy d=0
 .have qj:n1+n2<=60000:=by
   have:=h0
   unfold cy at this
   split at this
   .cases this
   rw[h1,h2];omega
  rw[h0] at cC
  by_cases mz:aP r=0
  .have UF:(bY r).length<=60000:=by have:=(sV mz).2;omega
   have hE:dX d r=if 60000<n1+n2+((bY r).length+1) then 2 else 0:=by
    unfold dX
    rw[if_neg (by simp[h0]),if_neg (by simp[mz]),h1,h2]
   have xe:dX d r≠0->cU d r=ox:=fun h=>if_neg h
   have xi:dX d r=0->cU d r=⟨d.safe,d.wait++(bY r++[10])⟩:=fun h=>if_pos h
   rw[mz] at cP
   generalize dX d r=E at*
   generalize cU d r=D at*
   generalize bY r=T at*
   obtain⟨TX,xR⟩:∃TX,TX=(⟨T.toArray⟩:ByteArray):=⟨_,rfl⟩
   rw[<-xR] at cP
   have Hx:TX.size=T.length:=by rw[xR];simp[ByteArray.size]
   have Xn:TX.size+1<=9223372036854775807:=by omega
   obtain⟨K,s',m',l⟩:=r
   simp only at*
   replace h1:=aa h1
   replace h2:=aa h2
   replace h3:=aa h3
   replace Hx:=aa Hx
   replace xR:=aa xR
   replace hE:=aa hE
   go_enter Tryz.func138,Tryz.ntmps138
   go_wp2_with fail
   generalize World.alloc (World.alloc (World.alloc w _) _) _=w2 at*
   go_at_call 139
   refine(cC _ g S1).mono ?_
   rintro e w3 ⟨rfl,b3⟩
   clear x0 x1 l1
   replace B1:=B1.keep b3 B1.lt
   replace B2:=B2.keep b3 B2.lt
   replace B3:=B3.keep b3 B3.lt
   replace S1:=S1.call b3
   replace S2:=S2.call b3
   replace S3:=S3.call b3
   replace g:=g.call b3
   replace bel:=ac bel b3
   obtain⟨y0,y1,y2,y3,ly⟩:=B3.c4
   go_wp2_with fail
   go_at_call 174
   refine(cP _ g S3).mono ?_
   rintro e w4 ⟨rfl,b4⟩
   clear y0 y1 y2 y3 ly
   replace B1:=B1.keep b4 B1.lt
   replace B2:=B2.keep b4 B2.lt
   replace S1:=S1.call b4
   replace S2:=S2.call b4
   replace g:=g.call b4
   replace bel:=ac bel b4
   obtain⟨x0,x1,l1⟩:=B1.c2
   go_upto_region 8 with fail
   have pM:bytes (TX++(⟨#[10]⟩:ByteArray))=T++[10]:=by
    rw[xR.out]
    simp[bytes]
   have qu:(TX++(⟨#[10]⟩:ByteArray)).size=T.length+1:=by
    rw[<-dB,pM]
    simp
   generalize TX++(⟨#[10]⟩:ByteArray)=TL at*
   obtain⟨M,hM⟩:∃M,M=n1+n2+(T.length+1):=⟨_,rfl⟩
   have YT:IntKind.i64.wrap (((n1+n2:Nat):Int)+(TL.size:Int))=(M:Int):=by rw[IntKind.wrap_i64,qu];omega
   have XO:((n1+n2:Nat):Int)+(TL.size:Int)=(M:Int):=by rw[qu];omega
   have hMw:wrap64 (M:Int)=(M:Int):=by unfold wrap64;omega
   rw[<-hM] at hE
   obtain⟨N,hN⟩:∃N,N=n1+n2:=⟨_,rfl⟩
   rw[<-hN] at YT XO cZ
   replace pM:=aa pM
   replace qu:=aa qu
   replace hN:=aa hN
   replace hM:=aa hM
   go_wp2_with fail
   go_at_call 104
   refine(cZ _).mono ?_
   rintro e w5 ⟨rfl,b5⟩
   clear x0 x1 l1
   replace B1:=B1.keep b5 B1.lt
   replace B2:=B2.keep b5 B2.lt
   replace S1:=S1.call b5
   replace S2:=S2.call b5
   replace bel:=ac bel b5
   by_cases hm:60000<M
   .have ik:(60000:Int)<M:=by omega
    obtain rfl:E=2:=by rw[hE.out,if_pos hm]
    obtain rfl:=xe (by decide)
    have y0:=B2.cell 0
    have y1:=B2.cell 1
    have f0:=B2.free 0
    have f1:=B2.free 1
    have l2:=B2.lt
    go_wp2_with fail
    have B9:=fZ B2 (.slice none 0 0) (.slice none 0 0)
    have aq:=dt bel (Nat.le_trans (Nat.le_succ _) (Nat.le_succ _)) (.slice none 0 0) (.slice none 0 0)
    have i0:=B9.cell 0
    have i1:=B9.cell 1
    exact bodyPost_ret (v:=.tuple #[.agg #[.slice none 0 0,.slice none 0 0],.int .i64 2]) (by simp[results,Tryz.results138,go_sem,i0,i1]) rfl (ID aq)
   have ik:¬(60000:Int)<M:=by omega
   obtain rfl:E=0:=by rw[hE.out,if_neg hm]
   obtain rfl:=xi rfl
   have OP:TL.size<=60000:=by have:=qu.out;have:=hM.out;omega
   have Vs:n2+TL.size<=1000000:=by omega
   have hlen:TL.size=(bytes TL).length:=(dB TL).symm
   have cJ:=fun W s=>mB a1 none c1 0 n1 0 d.safe [] W s (Sl.ofNil _) h1.out rfl (by omega)
   have cK:=fun ad cap W s t=>mB a2 ad c2 cap n2 TL.size d.wait (bytes TL) W s t h2.out hlen Vs
   simp only[List.append_nil,Nat.add_zero] at cJ
   rw[pM.out] at cK
   have nd:=fun W=>Lib.run_convert_string_bytes (P:=Tryz.prog) W 9 25 5 TL Tryz.underlying9 Tryz.underlying25 Tryz.underlying5
   have EJ:n2+TL.size=(d.wait++(T++[10])).length:=by
    have h5:=qu.out
    have h6:=h2.out
    simp only[List.length_append,List.length_cons,List.length_nil]
    omega
   have x0:w5.cell? ⟨w.heap.size,0,none⟩=some (.slice a1 n1 c1):=B1.cell 0
   have x1:w5.cell? ⟨w.heap.size,1,none⟩=some (.slice a2 n2 c2):=B1.cell 1
   have l1:=B1.lt
   have k0:Below w5.heap.size w5 w5.drew:=ak (Below.refl _ _)
   have tC:=fun W=>JA W TL (by omega)
   have l2:=B2.lt
   replace hlen:=aa hlen
   replace EJ:=aa EJ
   clear cC cP cZ
   go_upto_region 10 with fail
   refine named (fun A0 lu=>?_)
   have GX:A0.eval (.tmp 2)=.pointer (some ⟨w.heap.size,0,none⟩):=by rw[lu];rfl
   have MV:A0.eval (.tmp 4)=.pointer (some ⟨w.heap.size+1+1,0,none⟩):=by rw[lu];rfl
   have UZ:A0.eval (.tmp 7)=.string TL:=by rw[lu];rfl
   have L7:A0.put (some 5) (.int .i64 0)=A0:=by rw[lu];rfl
   have nj:33+9<=A0.tmps.size:=by rw[lu];simp
   replace lu:=aa lu
   refine mY (by kernel_rfl) (by kernel_rfl) (fun d' a' W'=>∃V,a'=pV A0 33 9 V/\Jz w w5 w.heap.size (w.heap.size+1+1) n1 n2 (.slice a1 n1 c1) (.slice a2 n2 c2) TL d.safe (d.wait++(T++[10])) d' V W') ?step ?fin ?start
   case start=>
    refine⟨fun i=>A0.eval (.tmp (33+i)),(xE _ _ _).symm,?_⟩
    exact⟨fun _=>k0,fun h=>Bool.noConfusion h,fun h=>Bool.noConfusion h,fun h=>Bool.noConfusion h,fun h=>Bool.noConfusion h,fun h=>Bool.noConfusion h,fun h=>Bool.noConfusion h,fun h=>Bool.noConfusion h,fun h=>Bool.noConfusion h,fun h=>Bool.noConfusion h,fun h=>Bool.noConfusion h⟩
   case fin=>
    intro d' a' W' aU inv
    obtain⟨V,rfl,I⟩:=inv
    obtain⟨gJ,e2,lJ,BJ⟩:=I.v2 (aU 2 (by decide))
    obtain⟨gK,e7,lK,BK⟩:=I.v7 (aU 7 (by decide))
    obtain⟨Jc,Jw⟩:=I.fin (aU 9 (by decide))
    rw[e2,e7] at Jc
    rw[<-rt,lu.out]
    simp only[si,Nat.reduceAdd]
    generalize V 0=V0
    generalize V 1=V1
    generalize V 2=V2
    generalize V 3=V3
    generalize V 4=V4
    generalize V 5=V5
    generalize V 6=V6
    generalize V 7=V7
    generalize V 8=V8
    clear GX MV L7 UZ nj nd cJ cK tC I
    go_wp2_with fail
    have i0:=Jc.cell 0
    have i1:=Jc.cell 1
    exact bodyPost_ret (v:=.tuple #[.agg #[.slice (some ⟨gJ,0,none⟩) n1 n1,.slice (some ⟨gK,0,none⟩) (n2+TL.size) (n2+TL.size)],.int .i64 0]) (by simp[results,Tryz.results138,go_sem,i0,i1]) rfl ⟨_,_,n1,n2+TL.size,n1,n2+TL.size,rfl,h1.out,EJ.out,ol BJ h1.out (by omega),ol BK EJ.out (by omega),Jw,(fun ad e=>by cases e;exact⟨_,BJ⟩),(fun ad e=>by cases e;exact⟨_,BK⟩)⟩
   case step=>
    intro i o d' a' W' tg ho hd aU down inv K' hK
    obtain⟨V,ha,I⟩:=inv
    have key:i=0\/i=1\/i=2\/i=3\/i=4\/i=5\/i=6\/i=7\/i=8\/i=9\/i=10:=by
     have:i<11:=tg
     omega
    clear tg
    have od:∀(q dd:Nat),dd=33+q->q<9->a'.eval (.tmp dd)=V q:=fun q dd h1 h2=>by rw[ha];exact iM q dd h1 h2 nj
    have ua:∀(dd:Nat),dd<33\/42<=dd->a'.eval (.tmp dd)=A0.eval (.tmp dd):=fun dd h=>by rw[ha];exact oV dd h
    rcases key with rfl|rfl|rfl|rfl|rfl|rfl|rfl|rfl|rfl|rfl|rfl
    .obtain rfl:=Option.some.inj ho
     refine aR (d:=33) (v:=.pointer (some ⟨w.heap.size,0,none⟩)) (W':=W') rfl rfl (fun ρ aX=>?_) (hK _ _ ⟨bH V 0 _,by rw[ha];exact dr 0 33 rfl (by decide) _,I.pure 0 (by decide) (by decide) (by decide) (by decide) (by decide) _ rfl⟩)
     have q2:ρ (.tmp 2)=.pointer (some ⟨w.heap.size,0,none⟩):=by rw[aX,ua 2 (by decide),GX]
     have qc:∀v,ρ (.const v)=v:=fun v=>by rw[aX];rfl
     clear aX
     go_simp
    .obtain rfl:=Option.some.inj ho
     have Zn:d' 2=false:=no down 2 _ rfl ⟨1,.data⟩ (by simp) rfl hd
     have jW:d' 8=false:=no down 8 _ rfl ⟨2,.data⟩ (by simp) rfl Zn
     have jy:d' 9=false:=no down 9 _ rfl ⟨8,.data⟩ (by simp) rfl jW
     have cB:=B1.keep (I.bel jy) B1.lt
     have cc:W'.cell? ⟨w.heap.size,0,none⟩=some (.slice a1 n1 c1):=cB.cell 0
     have lc:=cB.lt
     refine aR (d:=34) (v:=.slice a1 n1 c1) (W':=W') rfl rfl (fun ρ aX=>?_) (hK _ _ ⟨bH V 1 _,by rw[ha];exact dr 1 34 rfl (by decide) _,I.pure 1 (by decide) (by decide) (by decide) (by decide) (by decide) _ rfl⟩)
     have q0:ρ (.tmp 33)=.pointer (some ⟨w.heap.size,0,none⟩):=by rw[aX,od 0 33 rfl (by decide)];exact I.v0 (aU ⟨0,.data⟩ (by simp) rfl)
     have qc:∀v,ρ (.const v)=v:=fun v=>by rw[aX];rfl
     clear aX
     go_simp
    .obtain rfl:=Option.some.inj ho
     have jW:d' 8=false:=no down 8 _ rfl ⟨2,.data⟩ (by simp) rfl hd
     have jy:d' 9=false:=no down 9 _ rfl ⟨8,.data⟩ (by simp) rfl jW
     have qw:d' 7=false:=no down 7 _ rfl ⟨2,.chain⟩ (by simp) rfl hd
     have bW:=I.bel jy
     refine p5 (by rfl) 66 (.tmp 34) (.const (.slice none 0 0)) 25 25 (by rfl) (.slice a1 n1 c1) (.slice none 0 0) ?_ (by rfl) (by go_simp) (cJ W' (S1.call bW)) (by rintro e w' ⟨rfl,_⟩;exact⟨_,rfl⟩) ?_
     .rw[od 1 34 rfl (by decide)]
      exact I.v1 (aU ⟨1,.data⟩ (by simp) rfl)
     rintro u w9 ⟨eu,BJ,b9⟩
     obtain rfl:=Ending.returned.inj eu
     refine hK _ _ ⟨bH V 2 _,by rw[ha];exact dr 2 35 rfl (by decide) _,?_⟩
     exact⟨fun _=>ac bW b9,fun h=>by rw[bh (by decide)];exact I.v0 (by simpa using h),fun h=>by rw[bh (by decide)];exact I.v1 (by simpa using h),fun h=>by rw[bh (by decide)];exact I.v3 (by simpa using h),fun h=>by rw[bh (by decide)];exact I.v4 (by simpa using h),fun h=>by rw[bh (by decide)];exact I.v5 (by simpa using h),
      fun _=>⟨W'.heap.size,rfl,bW.size,BJ⟩,
      fun h h'=>by
       rw[bh (by decide)]
       obtain⟨ad,cap,e6,s6⟩:=I.v6 (by simpa using h) jy
       exact⟨ad,cap,e6,s6.call b9⟩,
      fun h=>by simp[qw] at h,fun h=>by simp[jW] at h,fun h=>by simp[jy] at h⟩
    .obtain rfl:=Option.some.inj ho
     refine aR (d:=36) (v:=.pointer (some ⟨w.heap.size,1,none⟩)) (W':=W') rfl rfl (fun ρ aX=>?_) (hK _ _ ⟨bH V 3 _,by rw[ha];exact dr 3 36 rfl (by decide) _,I.pure 3 (by decide) (by decide) (by decide) (by decide) (by decide) _ rfl⟩)
     have q2:ρ (.tmp 2)=.pointer (some ⟨w.heap.size,0,none⟩):=by rw[aX,ua 2 (by decide),GX]
     have qc:∀v,ρ (.const v)=v:=fun v=>by rw[aX];rfl
     clear aX
     go_simp
    .obtain rfl:=Option.some.inj ho
     have qw:d' 7=false:=no down 7 _ rfl ⟨4,.data⟩ (by simp) rfl hd
     have jW:d' 8=false:=no down 8 _ rfl ⟨7,.data⟩ (by simp) rfl qw
     have jy:d' 9=false:=no down 9 _ rfl ⟨8,.data⟩ (by simp) rfl jW
     have cB:=B1.keep (I.bel jy) B1.lt
     have cc:W'.cell? ⟨w.heap.size,1,none⟩=some (.slice a2 n2 c2):=cB.cell 1
     have lc:=cB.lt
     refine aR (d:=37) (v:=.slice a2 n2 c2) (W':=W') rfl rfl (fun ρ aX=>?_) (hK _ _ ⟨bH V 4 _,by rw[ha];exact dr 4 37 rfl (by decide) _,I.pure 4 (by decide) (by decide) (by decide) (by decide) (by decide) _ rfl⟩)
     have q0:ρ (.tmp 36)=.pointer (some ⟨w.heap.size,1,none⟩):=by rw[aX,od 3 36 rfl (by decide)];exact I.v3 (aU ⟨3,.data⟩ (by simp) rfl)
     have qc:∀v,ρ (.const v)=v:=fun v=>by rw[aX];rfl
     clear aX
     go_simp
    .obtain rfl:=Option.some.inj ho
     refine aR (d:=38) (v:=.string TL) (W':=W') rfl rfl (fun ρ aX=>?_) (hK _ _ ⟨bH V 5 _,by rw[ha];exact dr 5 38 rfl (by decide) _,I.pure 5 (by decide) (by decide) (by decide) (by decide) (by decide) _ rfl⟩)
     have q7:ρ (.tmp 7)=.string TL:=by rw[aX,ua 7 (by decide),UZ]
     have qc:∀v,ρ (.const v)=v:=fun v=>by rw[aX];rfl
     clear aX
     go_simp
    .obtain rfl:=Option.some.inj ho
     have qw:d' 7=false:=no down 7 _ rfl ⟨6,.data⟩ (by simp) rfl hd
     have jW:d' 8=false:=no down 8 _ rfl ⟨7,.data⟩ (by simp) rfl qw
     have jy:d' 9=false:=no down 9 _ rfl ⟨8,.data⟩ (by simp) rfl jW
     have bW:=I.bel jy
     have b9:=Lib.bytesWorld_below W' 5 TL
     refine aR (d:=39) (v:=.slice (some ⟨W'.heap.size,0,none⟩) TL.size (grownCap W' TL.size 0 5)) (W':=Lib.bytesWorld W' 5 TL) rfl rfl (fun ρ aX=>?_) (hK _ _ ⟨bH V 6 _,by rw[ha];exact dr 6 39 rfl (by decide) _,?_⟩)
     .have q5:ρ (.tmp 38)=.string TL:=by rw[aX,od 5 38 rfl (by decide)];exact I.v5 (aU ⟨5,.data⟩ (by simp) rfl)
      clear aX
      have hc:=nd W'
      simp[execOp,q5,hc,Result.andThen]
     exact⟨fun _=>ac bW b9,fun h=>by rw[bh (by decide)];exact I.v0 (by simpa using h),fun h=>by rw[bh (by decide)];exact I.v1 (by simpa using h),fun h=>by rw[bh (by decide)];exact I.v3 (by simpa using h),fun h=>by rw[bh (by decide)];exact I.v4 (by simpa using h),fun h=>by rw[bh (by decide)];exact I.v5 (by simpa using h),
      fun h=>by
       rw[bh (by decide)]
       obtain⟨gJ,e2,lJ,BJ⟩:=I.v2 (by simpa using h)
       exact⟨gJ,e2,lJ,BJ.keep b9 BJ.lt⟩,
      fun _ _=>⟨_,_,rfl,tC W'⟩,
      fun h=>by simp[qw] at h,fun h=>by simp[jW] at h,fun h=>by simp[jy] at h⟩
    .obtain rfl:=Option.some.inj ho
     have jW:d' 8=false:=no down 8 _ rfl ⟨7,.data⟩ (by simp) rfl hd
     have jy:d' 9=false:=no down 9 _ rfl ⟨8,.data⟩ (by simp) rfl jW
     have bW:=I.bel jy
     obtain⟨ad,cap,e6,s6⟩:=I.v6 (aU ⟨6,.data⟩ (by simp) rfl) jy
     refine p5 (by rfl) 66 (.tmp 37) (.tmp 39) 25 25 (by rfl) (.slice a2 n2 c2) (.slice ad TL.size cap) ?_ ?_ (by go_simp) (cK ad cap W' (S2.call bW) (by rw[<-pM.out];exact s6)) (by rintro e w' ⟨rfl,_⟩;exact⟨_,rfl⟩) ?_
     .rw[od 4 37 rfl (by decide)]
      exact I.v4 (aU ⟨4,.data⟩ (by simp) rfl)
     .rw[od 6 39 rfl (by decide)]
      exact e6
     rintro u w9 ⟨eu,BJ,b9⟩
     obtain rfl:=Ending.returned.inj eu
     refine hK _ _ ⟨bH V 7 _,by rw[ha];exact dr 7 40 rfl (by decide) _,?_⟩
     exact⟨fun _=>ac bW b9,fun h=>by rw[bh (by decide)];exact I.v0 (by simpa using h),fun h=>by rw[bh (by decide)];exact I.v1 (by simpa using h),fun h=>by rw[bh (by decide)];exact I.v3 (by simpa using h),fun h=>by rw[bh (by decide)];exact I.v4 (by simpa using h),fun h=>by rw[bh (by decide)];exact I.v5 (by simpa using h),
      fun h=>by
       rw[bh (by decide)]
       obtain⟨gJ,e2,lJ,BJ⟩:=I.v2 (by simpa using h)
       exact⟨gJ,e2,lJ,BJ.keep b9 BJ.lt⟩,
      fun h h'=>by
       rw[bh (by decide)]
       exact⟨ad,cap,e6,s6.call b9⟩,
      fun _=>⟨W'.heap.size,rfl,bW.size,BJ⟩,fun h=>by simp[jW] at h,fun h=>by simp[jy] at h⟩
    .obtain rfl:=Option.some.inj ho
     have jy:d' 9=false:=no down 9 _ rfl ⟨8,.data⟩ (by simp) rfl hd
     obtain⟨gJ,e2,lJ,BJ⟩:=I.v2 (aU ⟨2,.data⟩ (by simp) rfl)
     obtain⟨gK,e7,lK,BK⟩:=I.v7 (aU ⟨7,.data⟩ (by simp) rfl)
     refine aR (d:=41) (v:=.agg #[V 2,V 7]) (W':=W') rfl rfl (fun ρ aX=>?_) (hK _ _ ⟨bH V 8 _,by rw[ha];exact dr 8 41 rfl (by decide) _,?_⟩)
     .have q2:ρ (.tmp 35)=.slice (some ⟨gJ,0,none⟩) n1 n1:=by rw[aX,od 2 35 rfl (by decide)];exact e2
      have q7:ρ (.tmp 40)=.slice (some ⟨gK,0,none⟩) (n2+TL.size) (n2+TL.size):=by rw[aX,od 7 40 rfl (by decide)];exact e7
      rw[e2,e7]
      clear aX
      go_simp
     exact⟨fun _=>I.bel jy,fun h=>by rw[bh (by decide)];exact I.v0 (by simpa using h),fun h=>by rw[bh (by decide)];exact I.v1 (by simpa using h),fun h=>by rw[bh (by decide)];exact I.v3 (by simpa using h),fun h=>by rw[bh (by decide)];exact I.v4 (by simpa using h),fun h=>by rw[bh (by decide)];exact I.v5 (by simpa using h),
      fun h=>by rw[bh (by decide)];exact I.v2 (by simpa using h),
      fun h h'=>by rw[bh (by decide)];exact I.v6 (by simpa using h) jy,
      fun h=>by rw[bh (by decide)];exact I.v7 (by simpa using h),
      fun _=>by simp[bH],fun h=>by simp[jy] at h⟩
    .obtain rfl:=Option.some.inj ho
     have bW:=I.bel hd
     obtain⟨gJ,e2,lJ,BJ⟩:=I.v2 (aU ⟨2,.phase⟩ (by simp) rfl)
     obtain⟨gK,e7,lK,BK⟩:=I.v7 (aU ⟨7,.chain⟩ (by simp) rfl)
     have e8:=I.v8 (aU ⟨8,.data⟩ (by simp) rfl)
     have BX:=B2.keep bW B2.lt
     refine step_skip (n:=.skip) (W':=(W'.setCell ⟨w.heap.size+1+1,0,none⟩ (V 2)).setCell ⟨w.heap.size+1+1,1,none⟩ (V 7)) rfl rfl (.inl rfl) (fun ρ aX=>?_) (hK _ _ ⟨V,ha,?_⟩)
     .have q4:ρ (.tmp 4)=.pointer (some ⟨w.heap.size+1+1,0,none⟩):=by rw[aX,ua 4 (by decide),MV]
      have q8:ρ (.tmp 41)=.agg #[.slice (some ⟨gJ,0,none⟩) n1 n1,.slice (some ⟨gK,0,none⟩) (n2+TL.size) (n2+TL.size)]:=by rw[aX,od 8 41 rfl (by decide),e8,e2,e7]
      rw[e2,e7]
      have z0:=BX.cell 0
      have z1:=BX.cell 1
      have f0:=BX.free 0
      have f1:=BX.free 1
      have lz:=BX.lt
      clear aX
      go_simp
     have Wn:w.heap.size+1+1≠gJ:=by omega
     have VM:w.heap.size+1+1≠gK:=by omega
     exact⟨fun h=>by simp at h,fun h=>I.v0 (by simpa using h),fun h=>I.v1 (by simpa using h),fun h=>I.v3 (by simpa using h),fun h=>I.v4 (by simpa using h),fun h=>I.v5 (by simpa using h),
      fun h=>⟨gJ,e2,lJ,(BJ.other 0 _ Wn).other 1 _ Wn⟩,fun _ h=>by simp at h,fun h=>⟨gK,e7,lK,(BK.other 0 _ VM).other 1 _ VM⟩,fun _=>e8,
      fun _=>⟨fZ BX _ _,dt (bel.trans (bW.mono bel.size)) (Nat.le_trans (Nat.le_succ _) (Nat.le_succ _)) _ _⟩⟩
    obtain rfl:=Option.some.inj ho
    refine aR (d:=5) (v:=.int .i64 0) (W':=W') rfl rfl (fun ρ aX=>?_) (hK _ _ ⟨V,?_,?_⟩)
    .have qc:∀v,ρ (.const v)=v:=fun v=>by rw[aX];rfl
     clear aX
     go_simp
    .rw[ha,vX 5 (by decide),L7]
    have e:∀k,k≠10->(k==10||d' k)=d' k:=fun k hk=>by simp[hk]
    exact⟨fun h=>I.bel (by simpa using h),fun h=>I.v0 (by simpa using h),fun h=>I.v1 (by simpa using h),fun h=>I.v3 (by simpa using h),fun h=>I.v4 (by simpa using h),fun h=>I.v5 (by simpa using h),fun h=>I.v2 (by simpa using h),fun h h'=>I.v6 (by simpa using h) (by simpa using h'),fun h=>I.v7 (by simpa using h),fun h=>I.v8 (by simpa using h),fun h=>I.fin (by simpa using h)⟩
  have hE:dX d r=aP r:=by unfold dX;rw[if_neg (by simp[h0]),if_pos mz]
  have hD:cU d r=ox:=if_neg (by rw[hE];exact mz)
  rw[hE,hD]
  have hd:decide (aP r=0)=false:=decide_eq_false mz
  clear hE hD
  generalize aP r=E at*
  generalize(⟨(bY r).toArray⟩:ByteArray)=TX at*
  obtain⟨K,s',m',l⟩:=r
  simp only at*
  replace h1:=aa h1
  replace h2:=aa h2
  replace h3:=aa h3
  go_enter Tryz.func138,Tryz.ntmps138
  go_wp2_with fail
  generalize World.alloc (World.alloc (World.alloc w _) _) _=w2 at*
  go_at_call 139
  refine(cC _ g S1).mono ?_
  rintro e w3 ⟨rfl,b3⟩
  clear x0 x1 l1
  replace B2:=B2.keep b3 B2.lt
  replace B3:=B3.keep b3 B3.lt
  replace S3:=S3.call b3
  replace g:=g.call b3
  replace bel:=ac bel b3
  obtain⟨z0,z1,z2,z3,lz⟩:=B3.c4
  go_wp2_with fail
  go_at_call 174
  refine(cP _ g S3).mono ?_
  rintro e w4 ⟨rfl,b4⟩
  clear z0 z1 z2 z3 lz
  replace B2:=B2.keep b4 B2.lt
  replace bel:=ac bel b4
  have y0:=B2.cell 0
  have y1:=B2.cell 1
  have f0:=B2.free 0
  have f1:=B2.free 1
  have l2:=B2.lt
  go_wp2_with fail
  have B9:=fZ B2 (.slice none 0 0) (.slice none 0 0)
  have aq:=dt bel (Nat.le_trans (Nat.le_succ _) (Nat.le_succ _)) (.slice none 0 0) (.slice none 0 0)
  have i0:=B9.cell 0
  have i1:=B9.cell 1
  exact bodyPost_ret (v:=.tuple #[.agg #[.slice none 0 0,.slice none 0 0],.int .i64 E]) (by simp[results,Tryz.results138,go_sem,i0,i1]) rfl (ID aq)
 have hE:dX d r=cy d:=if_pos h0
 have hD:cU d r=ox:=if_neg (by rw[hE];exact h0)
 rw[hE,hD]
 have hd:decide (cy d=0)=false:=decide_eq_false h0
 clear hE hD
 generalize cy d=E at*
 obtain⟨K,s',m',l⟩:=r
 simp only at*
 replace h1:=aa h1
 replace h2:=aa h2
 replace h3:=aa h3
 go_enter Tryz.func138,Tryz.ntmps138
 go_wp2_with fail
 generalize World.alloc (World.alloc (World.alloc w _) _) _=w2 at*
 go_at_call 139
 refine(cC _ g S1).mono ?_
 rintro e w3 ⟨rfl,b3⟩
 clear x0 x1 l1
 replace B2:=B2.keep b3 B2.lt
 replace bel:=ac bel b3
 have y0:=B2.cell 0
 have y1:=B2.cell 1
 have f0:=B2.free 0
 have f1:=B2.free 1
 have l2:=B2.lt
 go_wp2_with fail
 have B9:=fZ B2 (.slice none 0 0) (.slice none 0 0)
 have aq:=dt bel (Nat.le_trans (Nat.le_succ _) (Nat.le_succ _)) (.slice none 0 0) (.slice none 0 0)
 have i0:=B9.cell 0
 have i1:=B9.cell 1
 exact bodyPost_ret (v:=.tuple #[.agg #[.slice none 0 0,.slice none 0 0],.int .i64 E]) (by simp[results,Tryz.results138,go_sem,i0,i1]) rfl (ID aq)
theorem Kp (d:Dk)(r:Rc)(a1 a2 a3:Option Addr)(c1 c2 c3 n1 n2 n3:Nat)(w:World)(hg:Gl w)(s1:Sl w a1 c1 (byteCells d.safe))(s2:Sl w a2 c2 (byteCells d.wait))(s3:be ec w a3 c3 r.e)(h1:n1=d.safe.length)(h2:n2=d.wait.length)(h3:n3=r.e.length)(few:n1+n2<=9223372036854775807):
  Calls Tryz.prog 138 #[.agg #[.slice a1 n1 c1,.slice a2 n2 c2],.agg #[.int .i64 r.k,.int .i64 r.s,.int .i64 r.n,.slice a3 n3 c3]] w (yd w (cU d r) (dX d r)):=
 (LD d r a1 a2 a3 c1 c2 c3 n1 n2 n3 w hg s1 s2 s3 h1 h2 h3 few).mono fun _ _ h=>h.d
theorem MH {a b c:World}{row:Option Nat}(h:a.grownBy b row)(k:b.grownBy c row):a.grownBy c row:=
 ⟨k.os.trans h.os,k.tape.trans h.tape,k.output.trans h.output,Nat.le_trans h.size k.size,fun j hj aF=>(k.block j (Nat.lt_of_lt_of_le hj h.size) aF).trans (h.block j hj aF)⟩
theorem OC {a b:World}{row:Option Nat}(h:Below a.heap.size a b):a.grownBy b row:=⟨h.os,h.tape,h.output,h.size,fun k hk _=>h.block k hk⟩
theorem eK.call {w w':World}{a:Option Addr}{cap:Nat}{l:List dK}(h:eK w a cap l)(hb:Below w.heap.size w w'):eK w' a cap l:=h.keep hb (Nat.le_refl _)
structure Nc (w:World)(g:Nat)(a1:Option Addr)(n1 c1:Nat)(a2:Option Addr)(n2 c2:Nat)(d:Dk):Prop where
 blk:ag w g [.slice a1 n1 c1,.slice a2 n2 c2] 27
 e1:n1=d.safe.length
 e2:n2=d.wait.length
 s1:Sl w a1 c1 (byteCells d.safe)
 s2:Sl w a2 c2 (byteCells d.wait)
theorem Nc.call {w w':World}{g:Nat}{a1:Option Addr}{n1 c1:Nat}{a2:Option Addr}{n2 c2:Nat}{d:Dk}(h:Nc w g a1 n1 c1 a2 n2 c2 d)(hb:Below w.heap.size w w'):Nc w' g a1 n1 c1 a2 n2 c2 d:=
 ⟨h.blk.keep hb h.blk.lt,h.e1,h.e2,h.s1.call hb,h.s2.call hb⟩
theorem Sl.takeU {w:World}{a:Option Addr}{cap:Nat}{l:List UInt8}(S:Sl w a cap (byteCells l))(k:Nat):Sl w a cap (byteCells (l.take k)):=by
 have e:byteCells (l.take k)=(byteCells l).take k:=by simp[byteCells,List.map_take]
 obtain⟨hr,h1,h2,h3⟩:=S
 refine⟨?_,by rw[e,List.length_take];omega,h2,h3⟩
 rcases hr with h| ⟨b,off,ea,hb,hc⟩
 .exact .inl (by rw[e,h];simp)
 refine .inr ⟨b,off,ea,hb,fun j u hu=>hc j u ?_⟩
 rw[e,List.getElem?_take] at hu
 split at hu
 .exact hu
 cases hu
theorem Gu (d:Dk)(n:Int)(a1 a2:Option Addr)(c1 c2 n1 n2:Nat)(w:World)(hg:Gl w)(s1:Sl w a1 c1 (byteCells d.safe))(s2:Sl w a2 c2 (byteCells d.wait))(h1:n1=d.safe.length)(h2:n2=d.wait.length)(few:n1+n2<=9223372036854775807):
  Calls Tryz.prog 108 #[.agg #[.slice a1 n1 c1,.slice a2 n2 c2],.int .i64 n] w (yd w (rv d n) (ml d n)):=by
 have cC:=fun W g s=>ny d a1 a2 c1 c2 n1 n2 W g s h1 h2 few
 have B1:=(ag.laid w [.slice a1 n1 c1,.slice a2 n2 c2] 27 _ rfl).alc (.cells #[.slice none 0 0,.slice none 0 0] 27)
 have B2:=ag.laid (w.alloc (.cells #[.slice a1 n1 c1,.slice a2 n2 c2] 27)) [.slice none 0 0,.slice none 0 0] 27 (w.heap.size+1) (by simp)
 have bel:=newB (newB (Below.refl w.heap.size w) (.cells #[.slice a1 n1 c1,.slice a2 n2 c2] 27)) (.cells #[.slice none 0 0,.slice none 0 0] 27)
 have S1:=s1.keep bel (Nat.le_refl _)
 have S2:=s2.keep bel (Nat.le_refl _)
 have g:=hg.call bel
 by_cases h0:cy d=0
 .have qj:n1+n2<=60000:=by
   have:=h0
   unfold cy at this
   split at this
   .cases this
   rw[h1,h2];omega
  rw[h0] at cC
  by_cases hn:n<0\/(n2:Int)<n
  .have hE:ml d n=3:=by unfold ml;rw[if_neg (by simp[h0]),<-h2,if_pos hn]
   have hD:rv d n=ox:=if_neg (by rw[hE];decide)
   rw[hE,hD]
   clear hE hD h0
   replace h1:=aa h1
   replace h2:=aa h2
   obtain⟨x0,x1,l1⟩:=B1.c2
   by_cases hn0:n<0
   .have rS:decide (n<0)=true:=decide_eq_true hn0
    clear hn
    go_enter Tryz.func108,Tryz.ntmps108
    go_wp2_with fail
    generalize World.alloc (World.alloc w _) _=w2 at*
    go_at_call 139
    refine(cC _ g S1).mono ?_
    rintro e w3 ⟨rfl,b3⟩
    clear x0 x1 l1
    replace B1:=B1.keep b3 B1.lt
    replace B2:=B2.keep b3 B2.lt
    replace bel:=ac bel b3
    obtain⟨x0,x1,l1⟩:=B1.c2
    have y0:=B2.cell 0
    have y1:=B2.cell 1
    have f0:=B2.free 0
    have f1:=B2.free 1
    have l2:=B2.lt
    go_wp2_with fail
    have B9:=fZ B2 (.slice none 0 0) (.slice none 0 0)
    have aq:=dt bel (Nat.le_succ _) (.slice none 0 0) (.slice none 0 0)
    have i0:=B9.cell 0
    have i1:=B9.cell 1
    exact bodyPost_ret (v:=.tuple #[.agg #[.slice none 0 0,.slice none 0 0],.int .i64 3]) (by simp[results,Tryz.results108,go_sem,i0,i1]) rfl (wt aq)
   have rS:decide (n<0)=false:=decide_eq_false hn0
   have yO:(n2:Int)<n:=hn.resolve_left hn0
   have rM:decide ((n2:Int)<n)=true:=decide_eq_true yO
   clear hn
   go_enter Tryz.func108,Tryz.ntmps108
   go_wp2_with fail
   generalize World.alloc (World.alloc w _) _=w2 at*
   go_at_call 139
   refine(cC _ g S1).mono ?_
   rintro e w3 ⟨rfl,b3⟩
   clear x0 x1 l1
   replace B1:=B1.keep b3 B1.lt
   replace B2:=B2.keep b3 B2.lt
   replace bel:=ac bel b3
   obtain⟨x0,x1,l1⟩:=B1.c2
   have y0:=B2.cell 0
   have y1:=B2.cell 1
   have f0:=B2.free 0
   have f1:=B2.free 1
   have l2:=B2.lt
   go_wp2_with fail
   have B9:=fZ B2 (.slice none 0 0) (.slice none 0 0)
   have aq:=dt bel (Nat.le_succ _) (.slice none 0 0) (.slice none 0 0)
   have i0:=B9.cell 0
   have i1:=B9.cell 1
   exact bodyPost_ret (v:=.tuple #[.agg #[.slice none 0 0,.slice none 0 0],.int .i64 3]) (by simp[results,Tryz.results108,go_sem,i0,i1]) rfl (wt aq)
  have hE:ml d n=0:=by unfold ml;rw[if_neg (by simp[h0]),<-h2,if_neg hn]
  have hD:rv d n=⟨d.safe,d.wait.take n.toNat⟩:=if_pos hE
  rw[hE,hD]
  obtain⟨k,rfl⟩:∃k:Nat,n=k:=⟨n.toNat,by omega⟩
  rw[Int.toNat_natCast]
  have hk:k<=n2:=by omega
  have dy:k=(d.wait.take k).length:=by rw[List.length_take];omega
  have cJ:=fun W s=>mB a1 none c1 0 n1 0 d.safe [] W s (Sl.ofNil _) h1 rfl (by omega)
  have cK:=fun W s=>mB a2 none c2 0 k 0 (d.wait.take k) [] W s (Sl.ofNil _) dy rfl (by omega)
  simp only[List.append_nil,Nat.add_zero] at cJ cK
  have mg:n2<=c2:=by have:=s2.le;rw[Lib.byteCells_length] at this;omega
  have rS:decide ((k:Int)<0)=false:=decide_eq_false (by omega)
  have rM:decide ((n2:Int)<k)=false:=decide_eq_false (by omega)
  have ES:¬(n2:Int)<k:=by omega
  clear hE hD h0 hn
  replace h1:=aa h1
  replace h2:=aa h2
  replace dy:=aa dy
  obtain⟨x0,x1,l1⟩:=B1.c2
  go_enter Tryz.func108,Tryz.ntmps108
  go_wp2_with fail
  generalize World.alloc (World.alloc w _) _=w2 at*
  go_at_call 139
  refine(cC _ g S1).mono ?_
  rintro e w3 ⟨rfl,b3⟩
  clear x0 x1 l1
  replace B1:=B1.keep b3 B1.lt
  replace B2:=B2.keep b3 B2.lt
  replace S1:=S1.call b3
  replace S2:=S2.call b3
  replace bel:=ac bel b3
  have x0:w3.cell? ⟨w.heap.size,0,none⟩=some (.slice a1 n1 c1):=B1.cell 0
  have x1:w3.cell? ⟨w.heap.size,1,none⟩=some (.slice a2 n2 c2):=B1.cell 1
  have l1:=B1.lt
  have kJ:∀W,Below w3.heap.size w3 W->Calls Tryz.prog 66 #[.slice a1 n1 c1,.slice none 0 0] W fun e w'=>e=.returned (.slice (some ⟨W.heap.size,0,none⟩) n1 n1)/\w'.cell? ⟨w.heap.size,0,none⟩=some (.slice a1 n1 c1)/\w'.cell? ⟨w.heap.size,1,none⟩=some (.slice a2 n2 c2)/\ag w' W.heap.size (byteCells d.safe) 5/\Below w3.heap.size w3 w':=by
   intro W h
   refine(cJ W (S1.call h)).mono ?_
   rintro e w' ⟨rfl,BJ,b⟩
   have bb:=ac h b
   exact⟨rfl,(B1.keep bb B1.lt).cell 0,(B1.keep bb B1.lt).cell 1,BJ,bb⟩
  have kK:∀W,Below w3.heap.size w3 W->Calls Tryz.prog 66 #[.slice a2 k c2,.slice none 0 0] W fun e w'=>e=.returned (.slice (some ⟨W.heap.size,0,none⟩) k k)/\w'.cell? ⟨w.heap.size,0,none⟩=some (.slice a1 n1 c1)/\w'.cell? ⟨w.heap.size,1,none⟩=some (.slice a2 n2 c2)/\w'.cell? ⟨w.heap.size+1,0,none⟩=some (.slice none 0 0)/\w'.cell? ⟨w.heap.size+1,1,none⟩=some (.slice none 0 0)/\w'.frozen? ⟨w.heap.size+1,0,none⟩=false/\w'.frozen? ⟨w.heap.size+1,1,none⟩=false/\w.heap.size+1<w'.heap.size/\ag w' W.heap.size (byteCells (d.wait.take k)) 5/\Below W.heap.size W w'/\Below w3.heap.size w3 w':=by
   intro W h
   refine(cK W ((S2.call h).takeU k)).mono ?_
   rintro e w' ⟨rfl,BJ,b⟩
   have bb:=ac h b
   have qg:=B2.keep bb B2.lt
   exact⟨rfl,(B1.keep bb B1.lt).cell 0,(B1.keep bb B1.lt).cell 1,qg.cell 0,qg.cell 1,qg.free 0,qg.free 1,qg.lt,BJ,b,bb⟩
  have k0:Below w3.heap.size w3 w3.drew:=ak (Below.refl _ _)
  have hkc:k<=c2:=by omega
  clear cC cJ cK
  go_upto_region 6 with fail
  go_region_held3 (fun w'=>w'.cell? ⟨w.heap.size,0,none⟩=some (.slice a1 n1 c1)/\w'.cell? ⟨w.heap.size,1,none⟩=some (.slice a2 n2 c2)) (go_keep)
   (first
    | (go_at_call 66;refine(kK _ zA).mono ?_;rintro e wB ⟨rfl,p0,p1,q0,q1,VG,XL,lq,SX,bB,zB⟩)
    | (go_at_call 66;refine(kJ _ k0).mono ?_;rintro e wA ⟨rfl,z0,z1,BA,zA⟩))
  all_goals(
   go_wp2_with fail
   have l2:=B2.lt
   have lA:=zA.size
   have B9:=fZ (B2.keep zB B2.lt) (.slice (some ⟨w3.heap.size,0,none⟩) n1 n1) (.slice (some ⟨wA.heap.size,0,none⟩) k k)
   have aq:=dt (ac bel zB) (Nat.le_succ _) (.slice (some ⟨w3.heap.size,0,none⟩) n1 n1) (.slice (some ⟨wA.heap.size,0,none⟩) k k)
   have J1:ag wB w3.heap.size (byteCells d.safe) 5:=BA.keep bB BA.lt
   have T1:=((J1.other (g':=w.heap.size+1) 0 (.slice (some ⟨w3.heap.size,0,none⟩) n1 n1) (by omega)).other (g':=w.heap.size+1) 1 (.slice (some ⟨wA.heap.size,0,none⟩) k k) (by omega))
   have T2:=((SX.other (g':=w.heap.size+1) 0 (.slice (some ⟨w3.heap.size,0,none⟩) n1 n1) (by omega)).other (g':=w.heap.size+1) 1 (.slice (some ⟨wA.heap.size,0,none⟩) k k) (by omega))
   have i0:=B9.cell 0
   have i1:=B9.cell 1
   exact bodyPost_ret (v:=.tuple #[.agg #[.slice (some ⟨w3.heap.size,0,none⟩) n1 n1,.slice (some ⟨wA.heap.size,0,none⟩) k k],.int .i64 0]) (by simp[results,Tryz.results108,go_sem,i0,i1]) rfl ⟨_,_,n1,k,n1,k,rfl,h1.out,dy.out,ol T1 h1.out (by omega),ol T2 dy.out (by omega),aq⟩)
 have hE:ml d n=cy d:=if_pos h0
 have hD:rv d n=ox:=if_neg (by rw[hE];exact h0)
 rw[hE,hD]
 have hd:decide (cy d=0)=false:=decide_eq_false h0
 generalize cy d=E at*
 replace h1:=aa h1
 replace h2:=aa h2
 clear hE hD
 obtain⟨x0,x1,l1⟩:=B1.c2
 go_enter Tryz.func108,Tryz.ntmps108
 go_wp2_with fail
 generalize World.alloc (World.alloc w _) _=w2 at*
 go_at_call 139
 refine(cC _ g S1).mono ?_
 rintro e w3 ⟨rfl,b3⟩
 replace B2:=B2.keep b3 B2.lt
 replace bel:=ac bel b3
 have y0:=B2.cell 0
 have y1:=B2.cell 1
 have f0:=B2.free 0
 have f1:=B2.free 1
 have l2:=B2.lt
 go_wp2_with fail
 have B9:=fZ B2 (.slice none 0 0) (.slice none 0 0)
 have aq:=dt bel (Nat.le_succ _) (.slice none 0 0) (.slice none 0 0)
 have i0:=B9.cell 0
 have i1:=B9.cell 1
 exact bodyPost_ret (v:=.tuple #[.agg #[.slice none 0 0,.slice none 0 0],.int .i64 E]) (by simp[results,Tryz.results108,go_sem,i0,i1]) rfl (wt aq)
def NQ (w:World)(D:Dk)(L:List Rc)(E:Int)(e:Ending)(w':World):Prop:=
 ∃(a1 a2 a3:Option Addr) (n1 n2 c1 c2 n3 G3:Nat) (l:List dK),e=.returned (.tuple #[.agg #[.slice a1 n1 c1,.slice a2 n2 c2],.slice a3 n3 G3,.int .i64 E])/\n1=D.safe.length/\n2=D.wait.length/\Sl w' a1 c1 (byteCells D.safe)/\Sl w' a2 c2 (byteCells D.wait)/\fX w.heap.size w' a3 n3 G3 l/\l.map (·.r)=L/\Below w.heap.size w w'
theorem fX.set2 {base:Nat}{w:World}{a:Option Addr}{n G g:Nat}{l:List dK}{c0 c1:Value}(h:fX base w a n G l)(B:ag w g [c0,c1] 27)(u0 u1:Value):fX base ((w.setCell ⟨g,0,none⟩ u0).setCell ⟨g,1,none⟩ u1) a n G l:=by
 have one:∀ {e:TypeId} {size m:Nat} {v:Value} {xs:List Value},e≠27->w.ownsRow base e size v m xs->((w.setCell ⟨g,0,none⟩ u0).setCell ⟨g,1,none⟩ u1).ownsRow base e size v m xs:=by
  intro e size m v xs he o
  have aF:v.ownBlock≠some g:=by
   rcases o.2 with⟨rfl,_⟩| ⟨g1,c1,Fn,rfl,_,h1,_⟩
   .intro e;cases e
   intro e'
   have e1:g1=g:=by simpa[Value.ownBlock] using e'
   subst e1
   have h2:=h1.symm.trans B
   simp only[Option.some.injEq,Obj.cells.injEq] at h2
   exact he h2.2.1
  exact ownsRow_setCell_other (ownsRow_setCell_other o (a:=⟨g,0,none⟩) aF u0) (a:=⟨g,1,none⟩) aF u1
 exact⟨h.len,one (by decide) h.row,fun x hx=>one (by decide) (h.own x hx)⟩
theorem uA:∀(n k:Nat) (l:List UInt8),l.length<=n->(tail k l).2.length<=l.length
 |0,k,l,h=>by
  obtain rfl:=List.length_eq_zero_iff.1 (Nat.le_zero.1 h)
  rw[ee (by rw[oB];simp)]
  exact Nat.le_refl _
 |n+1,k,l,h=>by
  by_cases hs:k<60/\fF l=0
  .rw[kz hs]
   have:=gu hs.2
   have:=uA n (k+1) (f6 l) (by omega)
   simp only
   omega
  rw[ee hs]
  exact Nat.le_refl _
theorem Un (n1 n2:Nat)(rest:ByteArray)(safe wait KP t2:List UInt8)(h1:n1=safe.length)(h2:n2=wait.length)(wZ:KP=wait.take (n2-t2.length))(hr:bytes rest=t2)(fE:t2.length<=wait.length)(few:n1+n2<=60000):
  ∃m:Nat,IntKind.i64.wrap ((n2:Int)-(rest.size:Int))=(m:Int)/\(n2:Int)-(rest.size:Int)=(m:Int)/\wrap64 (m:Int)=(m:Int)/\m<=n2/\KP=wait.take m/\m=KP.length/\n1+m=(safe++KP).length:=by
 have hs:rest.size=t2.length:=by rw[<-hr,dB]
 refine⟨n2-t2.length,?_,?_,?_,Nat.sub_le _ _,wZ,?_,?_⟩
 .rw[hs,IntKind.wrap_i64];omega
 .rw[hs];omega
 .unfold wrap64;omega
 .rw[wZ,List.length_take];omega
 rw[wZ,List.length_append,List.length_take];omega
theorem ms (d:Dk)(a1 a2:Option Addr)(c1 c2 n1 n2:Nat)(w:World)(hg:Gl w)(s1:Sl w a1 c1 (byteCells d.safe))(s2:Sl w a2 c2 (byteCells d.wait))(h1:n1=d.safe.length)(h2:n2=d.wait.length)(few:n1+n2<=9223372036854775807):
  Calls Tryz.prog 31 #[.agg #[.slice a1 n1 c1,.slice a2 n2 c2]] w (NQ w (fQ d) (aO d) (cy d)):=by
 have cC:=fun W g s=>AQ d a1 a2 c1 c2 n1 n2 W g s h1 h2 few
 have B1:=(ag.laid w [.slice a1 n1 c1,.slice a2 n2 c2] 27 _ rfl).alc (.cells #[.slice none 0 0,.slice none 0 0] 27)
 have B2:=ag.laid (w.alloc (.cells #[.slice a1 n1 c1,.slice a2 n2 c2] 27)) [.slice none 0 0,.slice none 0 0] 27 (w.heap.size+1) (by simp)
 have bel:=newB (newB (Below.refl w.heap.size w) (.cells #[.slice a1 n1 c1,.slice a2 n2 c2] 27)) (.cells #[.slice none 0 0,.slice none 0 0] 27)
 have dW:w.heap.size<=((w.alloc (.cells #[.slice a1 n1 c1,.slice a2 n2 c2] 27)).alloc (.cells #[.slice none 0 0,.slice none 0 0] 27)).heap.size:=bel.size
 have S1:=s1.keep bel (Nat.le_refl _)
 have S2:=s2.keep bel (Nat.le_refl _)
 have g:=hg.call bel
 obtain⟨x0,x1,l1⟩:=B1.c2
 by_cases h0:cy d=0
 .have qj:n1+n2<=60000:=by
   have:=h0
   unfold cy at this
   split at this
   .cases this
   rw[h1,h2];omega
  have hD:fQ d=⟨d.safe++kept d,[]⟩:=if_pos h0
  have hL:aO d=jk d++(tail (jk d).length d.wait).1:=if_pos h0
  have wZ:kept d=d.wait.take (n2-(tail (jk d).length d.wait).2.length):=by unfold kept;rw[h2]
  have nd:=fun(W:World) (S:Sl W a2 c2 (byteCells d.wait))=>qk S h2
  rw[hD,hL,h0]
  rw[h0] at cC
  obtain⟨i0,hi,bK,bm,bQ⟩:=info_parts oi
  have tX:=DC d
  generalize kept d=KP at*
  generalize jk d=L0 at*
  generalize zw:tail L0.length d.wait=TL at*
  clear hD hL h0
  replace h1:=aa h1
  replace h2:=aa h2
  replace wZ:=aa wZ
  replace zw:=aa zw
  go_enter Tryz.func31,Tryz.ntmps31
  go_wp2_with fail
  generalize World.alloc (World.alloc w _) _=w2 at*
  go_at_call 64
  refine(cC _ g S1).mono ?_
  rintro e w3 ⟨a3,n3,G3,l3,rfl,R3,qP,b3⟩
  clear x0 x1 l1
  replace B1:=B1.keep b3 B1.lt
  replace B2:=B2.keep b3 B2.lt
  replace S1:=S1.call b3
  replace S2:=S2.call b3
  replace g:=g.call b3
  replace bel:=ac bel b3
  replace R3:=R3.down dW
  have x0:w3.cell? ⟨w.heap.size,0,none⟩=some (.slice a1 n1 c1):=B1.cell 0
  have x1:w3.cell? ⟨w.heap.size,1,none⟩=some (.slice a2 n2 c2):=B1.cell 1
  have l1:=B1.lt
  have Rp:=nd w3 S2
  have ni:n3=L0.length:=by rw[R3.len,<-qP,List.length_map]
  have tS:n3<=60:=by rw[ni];exact tX
  replace qP:=aa qP
  replace ni:=aa ni
  go_upto_block 0 with fail
  go_cut [5,7,8,9,10] from 24 to 39 (fun s5 s7 s8 s9 s10 wx=>∃(rest:ByteArray) (k G:Nat) (ao:Option Addr) (l:List dK),s5=.slice ao k G/\s7=.string rest/\fX w.heap.size wx ao k G l/\Hid (l.map (·.r)=L0++TL.1)/\Hid (bytes rest=TL.2)/\ag wx w.heap.size [.slice a1 n1 c1,.slice a2 n2 c2] 27/\ag wx (w.heap.size+1) [.slice none 0 0,.slice none 0 0] 27/\Below w.heap.size w wx)
  case first=>
   go_wp2_with fail
   go_loopw [5,7] (fun s5 s7 wr=>∃(rest:ByteArray) (k G:Nat) (ao:Option Addr) (l:List dK) (more:List Rc),s5=.slice ao k G/\s7=.string rest/\fX w.heap.size wr ao k G l/\k<=60/\rest.size<=60000/\Hid (l.map (·.r)=L0++more)/\Hid (TL=(more++(tail k (bytes rest)).1,(tail k (bytes rest)).2))/\ag wr w.heap.size [.slice a1 n1 c1,.slice a2 n2 c2] 27/\ag wr (w.heap.size+1) [.slice none 0 0,.slice none 0 0] 27/\Below w.heap.size w wr) (fun _ s7 _=>JE s7)
   case atStart=>exact⟨_,n3,G3,a3,l3,[],rfl,rfl,R3,tS,by show(iv d.wait).size<=_;rw[ir];have:=h2.out;omega,by show _=_;rw[qP.out,List.append_nil],by show _=_;rw[<-zw.out,show bytes ⟨d.wait.toArray⟩=d.wait from jM _,ni.out];rfl,B1,B2,bel⟩
   case round=>
    clear x0 x1 l1 B1 B2 bel Rp
    obtain⟨rest,k,G,ao,l,more,rfl,rfl,R,hk,hr,hm,ht,B1,B2,uD⟩:=hrel
    by_cases Sc:k<60
    .have XD:(k:Int)<60:=by omega
     have cF:=fun W g=>xI rest W g hr
     have gr:=hg.call uD
     have N8:fF (bytes rest)≠0->TL=(more,bytes rest):=by
      intro h
      rw[ht.out,ee (fun h'=>h h'.2),List.append_nil]
     have hstep:fF (bytes rest)=0->TL=(more++[lv (bytes rest)]++(tail (k+1) (f6 (bytes rest))).1,(tail (k+1) (f6 (bytes rest))).2):=by
      intro h
      rw[ht.out,kz ⟨Sc,h⟩]
      simp
     have aE:fF (bytes rest)=0->(iv (f6 (bytes rest))).size<rest.size:=by
      intro h
      rw[ir,<-dB rest]
      exact gu h
     have L6:bytes (iv (f6 (bytes rest)))=f6 (bytes rest):=jM _
     obtain⟨PB,Hh⟩:∃PB,PB=iv (f6 (bytes rest)):=⟨_,rfl⟩
     rw[<-L6] at hstep
     rw[<-Hh] at hstep aE
     simp only[<-Hh] at cF
     clear Hh L6
     generalize lv (bytes rest)=PR at*
     generalize fF (bytes rest)=PE at*
     obtain⟨K,s',m',es⟩:=PR
     simp only at*
     obtain⟨ln,eG⟩:∃ln,ln=es.length:=⟨_,rfl⟩
     rw[<-eG] at cF
     replace eG:=aa eG
     go_wp2_with fail
     go_at_call 65
     refine(cF _ gr).mono ?_
     rintro e w4 ⟨a4,G4,rfl,o4,b4⟩
     have ay:=ac uD b4
     have R4:=R.call b4
     have BX:=ag.laid w4 [.int .i64 K,.int .i64 s',.int .i64 m',.slice a4 ln G4] 73 _ rfl
     have bq:=newB (Below.refl w4.heap.size w4) (.cells #[.int .i64 K,.int .i64 s',.int .i64 m',.slice a4 ln G4] 73)
     have br:=ac ay bq
     have R5:=R4.call bq
     replace B1:=(B1.keep b4 B1.lt).keep bq (Nat.lt_of_lt_of_le B1.lt b4.size)
     replace B2:=(B2.keep b4 B2.lt).keep bq (Nat.lt_of_lt_of_le B2.lt b4.size)
     have o5:=j6 (o4.alloc (.cells #[.int .i64 K,.int .i64 s',.int .i64 m',.slice a4 ln G4] 73)) uD.size
     by_cases sN:PE=0
     .subst sN
      have nU:=aa (hstep rfl)
      have JF:=aE rfl
      clear hstep N8 aE
      go_upto_region 8 with fail
      generalize w4.heap.size=gX at*
      generalize w4.alloc _=w5 at*
      obtain⟨y0,y1,y2,y3,lX⟩:=BX.c4
      go_wp2_with (at_builtin;refine bE w5 rfl (.tmp 35) (.tmp 37) 45 rfl w.heap.size 73 i0 _ 4 48 Tryz.underlying45 hi bK bm bQ rfl (by decide) (.slice ao k G) k _ (by rfl) R5.row 1 #[.int .i64 K,.int .i64 s',.int .i64 m',.slice a4 ln G4] 73 (by rfl) (by rfl) (by simp[Value.oneCell']) (by decide) (by unfold maxLen;omega) (by omega) br.size ?_)
      intro v7 w7 jw iP yJ
      have lH:=aG br R5.row iP (Nat.le_refl _) br.size
      have ZH:=B1.grown iP (fun q e h=>mM R5.row B1 (by decide) (by rw[e,h]))
      have Ze:=B2.grown iP (fun q e h=>mM R5.row B2 (by decide) (by rw[e,h]))
      obtain⟨a8,G8,rfl,R8⟩:=R5.snoc (x:=⟨⟨K,s',m',es⟩,a4,G4⟩) (by show World.ownsRow _ _ _ _ (.slice a4 es.length G4) es.length _;rw[<-eG.out];exact o5) (by unfold dK.cells;simp only;rw[<-eG.out];exact jw) iP
      go_wp2_with fail
      go_roundw
      case rel=>exact⟨PB,k+1,G8,a8,l++[⟨⟨K,s',m',es⟩,a4,G4⟩],more++[⟨K,s',m',es⟩],rfl,rfl,R8,by omega,by omega,by show _=_;rw[List.map_append,hm.out,List.append_assoc];rfl,nU,ZH,Ze,lH⟩
      case measure=>exact JF
     have hd:decide (PE=0)=false:=decide_eq_false sN
     have nU:=N8 sN
     go_upto_region 7 with fail
     generalize w4.alloc _=w5 at*
     go_wp2_with fail
     go_meet
     case rel=>exact⟨rest,k,G,ao,l,rfl,rfl,R5,by show _=_;rw[hm.out,nU],by show _=_;rw[nU],B1,B2,br⟩
    have XD:¬(k:Int)<60:=by omega
    have nU:TL=(more,bytes rest):=by
     rw[ht.out,ee (fun h'=>Sc h'.1),List.append_nil]
    go_wp2_with fail
    go_meet
    case rel=>exact⟨rest,k,G,ao,l,rfl,rfl,R,by show _=_;rw[hm.out,nU],by show _=_;rw[nU],B1,B2,uD⟩
  case rest=>
   clear x0 x1 l1 B1 B2 bel Rp cC S1 S2 g R3
   obtain⟨rest,k,G,ao,l,rfl,rfl,R,hm,VK,B1,B2,bel⟩:=hcut
   obtain⟨m,VP,aaC,Xj,T8,xz,Qc,om⟩:=Un n1 n2 rest d.safe d.wait KP TL.2 h1.out h2.out wZ.out VK.out (by rw[<-zw.out];exact uA d.wait.length L0.length d.wait (Nat.le_refl _)) qj
   have je:n1+m<=1000000:=Nat.le_trans (Nat.add_le_add_left T8 n1) (Nat.le_trans qj (by decide))
   have S1:=s1.keep bel (Nat.le_refl _)
   have S2:=s2.keep bel (Nat.le_refl _)
   have cJ:=fun W s t=>mB a1 a2 c1 c2 n1 m d.safe KP W s t h1.out Qc je
   have x0:wc.cell? ⟨w.heap.size,0,none⟩=some (.slice a1 n1 c1):=B1.cell 0
   have x1:wc.cell? ⟨w.heap.size,1,none⟩=some (.slice a2 n2 c2):=B1.cell 1
   have l1:=B1.lt
   have kJ:∀W,Below wc.heap.size wc W->Calls Tryz.prog 66 #[.slice a1 n1 c1,.slice a2 m c2] W fun e w'=>e=.returned (.slice (some ⟨W.heap.size,0,none⟩) (n1+m) (n1+m))/\w'.cell? ⟨w.heap.size,0,none⟩=some (.slice a1 n1 c1)/\w'.cell? ⟨w.heap.size,1,none⟩=some (.slice a2 n2 c2)/\w'.cell? ⟨w.heap.size+1,0,none⟩=some (.slice none 0 0)/\w'.cell? ⟨w.heap.size+1,1,none⟩=some (.slice none 0 0)/\w'.frozen? ⟨w.heap.size+1,0,none⟩=false/\w'.frozen? ⟨w.heap.size+1,1,none⟩=false/\w.heap.size+1<w'.heap.size/\ag w' W.heap.size (byteCells (d.safe++KP)) 5/\Below wc.heap.size wc w':=by
    intro W h
    refine(cJ W (S1.call h) (xz▸(S2.call h).takeU m)).mono ?_
    rintro e w' ⟨rfl,BJ,b⟩
    have bb:=ac h b
    have qg:=B2.keep bb B2.lt
    exact⟨rfl,(B1.keep bb B1.lt).cell 0,(B1.keep bb B1.lt).cell 1,qg.cell 0,qg.cell 1,qg.free 0,qg.free 1,qg.lt,BJ,bb⟩
   have k0:Below wc.heap.size wc wc.drew:=ak (Below.refl _ _)
   have mg:n2<=c2:=by have:=s2.le;rw[Lib.byteCells_length,<-h2.out] at this;exact this
   have Zx:m<=c2:=Nat.le_trans T8 mg
   have aaw:(m:Int)<=c2:=Int.ofNat_le.2 Zx
   clear few qj tX ni tS qP nd wZ
   have RY:¬w.heap.size+1=w.heap.size:=by omega
   replace Qc:=aa Qc
   replace om:=aa om
   replace xz:=aa xz
   clear cJ
   go_upto_region 10 with fail
   go_region_held3 (fun w'=>w'.cell? ⟨w.heap.size,0,none⟩=some (.slice a1 n1 c1)/\w'.cell? ⟨w.heap.size,1,none⟩=some (.slice a2 n2 c2)) (go_keep)
    (first
     | (go_at_call 66;refine(kJ _ k0).mono ?_;rintro e wB ⟨rfl,p0,p1,q0,q1,VG,XL,lq,SX,zB⟩))
   all_goals(
    go_wp2_with fail
    have l2:=B2.lt
    have B9:=fZ (B2.keep zB B2.lt) (.slice (some ⟨wc.heap.size,0,none⟩) (n1+m) (n1+m)) (.slice none 0 0)
    have aq:=dt (ac bel zB) (Nat.le_succ _) (.slice (some ⟨wc.heap.size,0,none⟩) (n1+m) (n1+m)) (.slice none 0 0)
    have T1:ag _ wc.heap.size _ _:=((SX.other (g':=w.heap.size+1) 0 (.slice (some ⟨wc.heap.size,0,none⟩) (n1+m) (n1+m)) (by show _≠wc.heap.size;omega)).other (g':=w.heap.size+1) 1 (.slice none 0 0) (by show _≠wc.heap.size;omega))
    have R9:=(R.call zB).set2 (B2.keep zB B2.lt) (.slice (some ⟨wc.heap.size,0,none⟩) (n1+m) (n1+m)) (.slice none 0 0)
    have i0:=B9.cell 0
    have i1:=B9.cell 1
    exact bodyPost_ret (v:=.tuple #[.agg #[.slice (some ⟨wc.heap.size,0,none⟩) (n1+m) (n1+m),.slice none 0 0],.slice ao k G,.int .i64 0]) (by simp[results,Tryz.results31,go_sem,i0,i1]) rfl ⟨_,none,_,n1+m,0,n1+m,0,k,G,l,rfl,om.out,rfl,ol T1 om.out je,Sl.ofNil _,R9,hm.out,aq⟩)
 have hD:fQ d=ox:=if_neg h0
 have hL:aO d=[]:=if_neg h0
 rw[hD,hL]
 have hd:decide (cy d=0)=false:=decide_eq_false h0
 generalize cy d=E at*
 replace h1:=aa h1
 replace h2:=aa h2
 clear hD hL
 go_enter Tryz.func31,Tryz.ntmps31
 go_wp2_with fail
 generalize World.alloc (World.alloc w _) _=w2 at*
 go_at_call 64
 refine(cC _ g S1).mono ?_
 rintro e w3 ⟨a3,n3,G3,l3,rfl,R3,qP,b3⟩
 clear x0 x1 l1
 replace B2:=B2.keep b3 B2.lt
 replace bel:=ac bel b3
 have y0:=B2.cell 0
 have y1:=B2.cell 1
 have f0:=B2.free 0
 have f1:=B2.free 1
 have l2:=B2.lt
 go_wp2_with fail
 have B9:=fZ B2 (.slice none 0 0) (.slice none 0 0)
 have aq:=dt bel (Nat.le_succ _) (.slice none 0 0) (.slice none 0 0)
 have i0:=B9.cell 0
 have i1:=B9.cell 1
 exact bodyPost_ret (v:=.tuple #[.agg #[.slice none 0 0,.slice none 0 0],.slice none 0 0,.int .i64 E]) (by simp[results,Tryz.results31,go_sem,i0,i1]) rfl ⟨none,none,none,0,0,0,0,0,0,[],rfl,rfl,rfl,Sl.ofNil _,Sl.ofNil _,fX.nil _ _,rfl,aq⟩
open Go.Lib (index splitK count)
def pm:List UInt8->List (List UInt8)
 | []=>[[]]
 |c::r=>if c=10 then [10]::pm r else(c::(pm r).headD [])::(pm r).tail
theorem Qm (l:List UInt8):pm l≠[]:=by
 cases l with
 |nil=>simp[pm]
 |cons c r=>unfold pm;split<;>simp
theorem vu:∀l:List UInt8,(∀c∈l,c≠10)->pm l=[l]
 | [],_=>rfl
 |c::r,h=>by
  rw[pm,if_neg (h c List.mem_cons_self),vu r (fun x hx=>h x (List.mem_cons_of_mem _ hx))]
  rfl
theorem vj:∀(p q:List UInt8),(∀c∈p,c≠10)->pm (p++10::q)=(p++[10])::pm q
 | [],q,_=>by rw[List.nil_append,pm,if_pos rfl];rfl
 |c::r,q,h=>by
  rw[List.cons_append,pm,if_neg (h c List.mem_cons_self),vj r q (fun x hx=>h x (List.mem_cons_of_mem _ hx))]
  rfl
theorem IK:∀(n:Nat) (l:List UInt8),l.length<=n->splitK [10] 1 (count l [10]) l=pm l:=by
 intro n
 induction n with
 |zero=>
  intro l h
  obtain rfl:=List.length_eq_zero_iff.1 (Nat.le_zero.1 h)
  rw[Lib.count_miss rfl]
  rfl
 |succ n ih=>
  intro l h
  rcases qe 10 l with⟨h1,h2⟩| ⟨p,q,rfl,h2,h3⟩
  .rw[Lib.count_miss h1,vu l h2]
   rfl
  have hd:(p++10::q).drop (p.length+1)=q:=by
   rw[show p.length+1=(p++[10]).length by simp,show p++10::q=(p++[10])++q by simp,List.drop_left]
  have ht:(p++10::q).take (p.length+1)=p++[10]:=by
   rw[show p.length+1=(p++[10]).length by simp,show p++10::q=(p++[10])++q by simp,List.take_left]
  rw[Lib.count_hit (by simp) h3,Nat.add_comm 1,splitK,h3,vj p q h2]
  have aF:((p.length:Int)==-1)=false:=by simp
  rw[aF]
  simp only[Bool.false_eq_true,if_false,Int.toNat_natCast,List.length_cons,List.length_nil,Nat.zero_add]
  rw[hd,ht,ih q (by simp at h;omega)]
theorem Eg (s:ByteArray):(Lib.splitB ⟨#[10]⟩ 1 (Lib.countB s ⟨#[10]⟩) s).map bytes=pm (bytes s):=by
 have h:=Lib.splitB_data ⟨#[10]⟩ 1 (Lib.countB s ⟨#[10]⟩) s
 exact h.trans (IK _ (bytes s) (Nat.le_refl _))
theorem LB (l:List UInt8):pm l=if rD l=true then(mS l++[10])::pm (pH l) else [l]:=by
 rcases jP l with⟨h1,h2,h3,h4⟩| ⟨h1,h2,h3⟩
 .rw[h1,if_neg (by decide),vu l h4]
 rw[h1,if_pos rfl]
 conv=>lhs;rw[h2]
 exact vj _ _ h3
theorem sP:∀(n k:Nat) (l:List UInt8),l.length<=n->k<=60->(scan k l).1=(tail k l).1
 |0,k,l,h,hk=>by
  obtain rfl:=List.length_eq_zero_iff.1 (Nat.le_zero.1 h)
  rw[jc,ee (by rw[oB];simp)]
 |n+1,k,l,h,hk=>by
  by_cases h0:l=[]
  .subst h0
   rw[jc,ee (by rw[oB];simp)]
  by_cases h1:fF l=0
  .by_cases h2:k=60
   .subst h2
    rw[kw h0 h1,ee (by simp)]
   have:=gu h1
   rw[kX h0 h1 h2,kz ⟨by omega,h1⟩]
   simp only
   rw[sP n (k+1) (f6 l) (by omega) (by omega)]
  rw[mC h0 h1,ee (fun h=>h1 h.2)]
open Go.Lib (index cut)
theorem QZ (l:List UInt8):sp l=(cut l [32]).1::(if(cut l [32]).2.2=true then sp (cut l [32]).2.1 else []):=by
 unfold cut
 rcases mr l with⟨h1,h2⟩| ⟨p,q,rfl,h2,h3⟩
 .rw[h1,if_neg (by decide)]
  simp[ux l h2]
 rw[h3,if_pos (by omega)]
 have hd:(p++32::q).drop (p.length+1)=q:=by
  rw[show p.length+1=(p++[32]).length by simp,show p++32::q=(p++[32])++q by simp,List.drop_left]
 simp only[Int.toNat_natCast,List.length_cons,List.length_nil,Nat.zero_add,List.take_left,hd,if_true]
 exact ug p q h2
theorem KC (l:List UInt8):(cut l [32]).1.length<=l.length/\(cut l [32]).2.1.length<=l.length/\((cut l [32]).2.2=true->(cut l [32]).2.1.length<l.length):=by
 unfold cut
 rcases mr l with⟨h1,h2⟩| ⟨p,q,rfl,h2,h3⟩
 .rw[h1,if_neg (by decide)]
  simp
 rw[h3,if_pos (by omega)]
 simp only[Int.toNat_natCast,List.length_cons,List.length_nil,Nat.zero_add,List.length_take,List.length_drop,List.length_append]
 omega
theorem bG (n a b:Int)(w:World):
  Calls Tryz.prog 36 #[.int .i64 n,.int .i64 a,.int .i64 b] w fun e w'=>e=.returned (.bool (decide (a<=n/\n<=b)))/\w=w':=by
 by_cases h1:a<=n
 .by_cases h2:n<=b
  .have e:decide (a<=n/\n<=b)=true:=by simp[h1,h2]
   rw[e]
   clear e
   go_enter Tryz.func36,Tryz.ntmps36
   go_wp2
   go_ret
   exact⟨rfl,rfl⟩
  have e:decide (a<=n/\n<=b)=false:=by simp[h2]
  rw[e]
  clear e
  go_enter Tryz.func36,Tryz.ntmps36
  go_wp2
  go_ret
  exact⟨rfl,rfl⟩
 have e:decide (a<=n/\n<=b)=false:=by simp[h1]
 rw[e]
 clear e
 go_enter Tryz.func36,Tryz.ntmps36
 go_wp2
 go_ret
 exact⟨rfl,rfl⟩
end Go.Proofs.YtoonnbhoiocoeaaGreatDoor
