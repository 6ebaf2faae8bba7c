/-
  disk.Put: what it answers; nothing that was there is written.
-/
import Derived.Lib.ConvBytes
import Derived.Deep.CutBlock
import Derived.Lib.Split
import Derived.Lib.IndexMore
import Derived.Test.YtoonnbhoiocoeaaGreatDoorP19
import Derived.Test.YtoonnbhoiocoeaaGreatDoorP06
import Derived.Test.YtoonnbhoiocoeaaGreatDoorP09
import Derived.Test.YtoonnbhoiocoeaaGreatDoorP05
import Derived.Test.YtoonnbhoiocoeaaGreatDoorP07
import Derived.Test.YtoonnbhoiocoeaaGreatDoorP01
set_option maxHeartbeats 40000000
set_option maxRecDepth 100000
set_option linter.unusedVariables false
namespace Go.Proofs.YtoonnbhoiocoeaaGreatDoor
open Go.RowKit
open Go.Lib (byteCells)
theorem PL (W:World)(T:ByteArray)(h:T.size<=1000000):Sl (Lib.bytesWorld W 5 T) (some ⟨W.heap.size,0,none⟩) (grownCap W T.size 0 5) (byteCells (bytes T)):=by
 refine⟨.inr ⟨W.heap.size,0,rfl,by rw[Lib.bytesWorld_size];omega,fun j u hu=>?_⟩,?_,?_,fun h=>by cases h⟩
 .have hj:j<T.size:=by
   have:=(List.getElem?_eq_some_iff.1 hu).1
   rw[Lib.byteCells_length,dM] at this
   exact this
  rw[Nat.zero_add,Lib.bytesWorld_cell W 5 T j hj,<-hu]
  simp[byteCells,bytes,List.getD,hj]
 .rw[Lib.byteCells_length,dM]
  exact grownCap_ge _ _ _ _
 .have:=grownCap_le_maxLen W T.size 0 5 (by unfold maxLen;omega)
  unfold maxLen at this
  exact this
structure Iw (w w5:World)(D X n1 n2:Nat)(s1 s2:Value)(TL:ByteArray)(L1 L2:List UInt8)(d:Nat->Bool)(V:Nat->Value)(W:World):Prop where
 bel:d 9=false->Below w5.heap.size w5 W
 v0:d 0=true->V 0=.pointer (some ⟨D,0,none⟩)
 v1:d 1=true->V 1=s1
 v3:d 3=true->V 3=.pointer (some ⟨D,1,none⟩)
 v4:d 4=true->V 4=s2
 v5:d 5=true->V 5=.string TL
 v2:d 2=true->∃gJ,V 2=.slice (some ⟨gJ,0,none⟩) n1 n1/\w5.heap.size<=gJ/\ac W gJ (byteCells L1) 5
 v6:d 6=true->d 9=false->∃ad cap,V 6=.slice ad TL.size cap/\Sl W ad cap (byteCells (bytes TL))
 v7:d 7=true->∃gK,V 7=.slice (some ⟨gK,0,none⟩) (n2+TL.size) (n2+TL.size)/\w5.heap.size<=gK/\ac W gK (byteCells L2) 5
 v8:d 8=true->V 8=.agg #[V 2,V 7]
 fin:d 9=true->ac W X [V 2,V 7] 27/\Below w.heap.size w W
def OZ (D:Nat)(s1 s2:Value)(TL:ByteArray):Nat->Value->Prop
 |0,v=>v=.pointer (some ⟨D,0,none⟩)
 |1,v=>v=s1
 |3,v=>v=.pointer (some ⟨D,1,none⟩)
 |4,v=>v=s2
 |5,v=>v=.string TL
 |_,_=>True
theorem Dh {A:Act}{lo n:Nat}{V:Nat->Value}(dd:Nat)(hd:dd<lo\/lo+n<=dd)(v:Value):(pV A lo n V).put (some dd) v=pV (A.put (some dd) v) lo n V:=by
 unfold pV Act.put
 simp only[Act.mk.injEq,and_true]
 apply Array.ext_getElem?
 intro k
 rw[Array.getElem?_setIfInBounds,Array.getElem?_mapIdx,Array.getElem?_mapIdx,Array.size_mapIdx,Array.getElem?_setIfInBounds]
 by_cases hk:dd=k
 .subst hk
  rw[if_pos rfl,if_pos rfl]
  by_cases hs:dd<A.tmps.size
  .rw[if_pos hs]
   simp only[Option.map_some]
   rw[if_neg (by omega)]
  .rw[if_neg hs]
   rfl
 .rw[if_neg hk,if_neg hk]
theorem bz {V:Nat->Value}{i k:Nat}{v:Value}(h:k≠i):df V i v k=V k:=if_neg h
theorem Iw.pure {w w5:World}{D X n1 n2:Nat}{s1 s2:Value}{TL:ByteArray}{L1 L2:List UInt8}{d:Nat->Bool}{V:Nat->Value}{W:World}(h:Iw w w5 D X n1 n2 s1 s2 TL L1 L2 d V W)(i:Nat)(h2:i≠2)(h6:i≠6)(h7:i≠7)(h8:i≠8)(h9:i≠9)(v:Value)(hv:OZ D s1 s2 TL i v):
  Iw w w5 D X n1 n2 s1 s2 TL L1 L2 (fun k=>k==i||d k) (df V i v) W:=by
 have e:∀k,k≠i->(k==i||d k)=d k:=fun k hk=>by simp[hk]
 have one:∀k,(∀u,OZ D s1 s2 TL k u->True)->(k==i||d k)=true->(d k=true->OZ D s1 s2 TL k (V k))->OZ D s1 s2 TL k (df V i v k):=by
  intro k _ hk hd
  by_cases Sk:k=i
  .subst Sk
   unfold df
   rw[if_pos rfl]
   exact hv
  .rw[e k Sk] at hk
   rw[bz Sk]
   exact hd hk
 refine⟨?_,?_,?_,?_,?_,?_,?_,?_,?_,?_,?_⟩
 .intro h';simp only[e 9 (Ne.symm h9)] at h';exact h.bel h'
 .intro h';exact one 0 (fun _ _=>trivial) h' h.v0
 .intro h';exact one 1 (fun _ _=>trivial) h' h.v1
 .intro h';exact one 3 (fun _ _=>trivial) h' h.v3
 .intro h';exact one 4 (fun _ _=>trivial) h' h.v4
 .intro h';exact one 5 (fun _ _=>trivial) h' h.v5
 .intro h';simp only[e 2 (Ne.symm h2)] at h';rw[bz (Ne.symm h2)];exact h.v2 h'
 .intro h' Py;simp only[e 6 (Ne.symm h6)] at h';simp only[e 9 (Ne.symm h9)] at Py;rw[bz (Ne.symm h6)];exact h.v6 h' Py
 .intro h';simp only[e 7 (Ne.symm h7)] at h';rw[bz (Ne.symm h7)];exact h.v7 h'
 .intro h';simp only[e 8 (Ne.symm h8)] at h';rw[bz (Ne.symm h8),bz (Ne.symm h2),bz (Ne.symm h7)];exact h.v8 h'
 .intro h';simp only[e 9 (Ne.symm h9)] at h';rw[bz (Ne.symm h2),bz (Ne.symm h7)];exact h.fin h'
theorem KN (d:Dk)(r:Rc)(a1 a2 a3:Option Addr)(c1 c2 c3 n1 n2 n3:Nat)(w:World)(hg:Gl w)(s1:Sl w a1 c1 (byteCells d.safe))(s2:Sl w a2 c2 (byteCells d.wait))(s3:aY ec w a3 c3 r.e)(h1:n1=d.safe.length)(h2:n2=d.wait.length)(h3:n3=r.e.length)(few:n1+n2<=9223372036854775807):
  Calls Tryz.prog 138 #[.agg #[.slice a1 n1 c1,.slice a2 n2 c2],.agg #[.int .i64 r.k,.int .i64 r.s,.int .i64 r.n,.slice a3 n3 c3]] w (IR w (dj d r) (fq d r)):=by
 have cC:=fun W g s=>nd d a1 a2 c1 c2 n1 n2 W g s h1 h2 few
 have cP:=fun W g s=>JK r a3 c3 n3 W g s h3
 have cZ:=fun W=>Al a1 a2 c1 c2 n1 n2 W few
 have B1:=((ac.laid w [.slice a1 n1 c1,.slice a2 n2 c2] 27 _ rfl).alc (.cells #[.int .i64 r.k,.int .i64 r.s,.int .i64 r.n,.slice a3 n3 c3] 73)).alc (.cells #[.slice none 0 0,.slice none 0 0] 27)
 have B3:=(ac.laid (w.alloc (.cells #[.slice a1 n1 c1,.slice a2 n2 c2] 27)) [.int .i64 r.k,.int .i64 r.s,.int .i64 r.n,.slice a3 n3 c3] 73 (w.heap.size+1) (by simp)).alc (.cells #[.slice none 0 0,.slice none 0 0] 27)
 have B2:=ac.laid ((w.alloc (.cells #[.slice a1 n1 c1,.slice a2 n2 c2] 27)).alloc (.cells #[.int .i64 r.k,.int .i64 r.s,.int .i64 r.n,.slice a3 n3 c3] 73)) [.slice none 0 0,.slice none 0 0] 27 (w.heap.size+1+1) (by simp)
 have bel:=newB (newB (newB (Below.refl w.heap.size w) (.cells #[.slice a1 n1 c1,.slice a2 n2 c2] 27)) (.cells #[.int .i64 r.k,.int .i64 r.s,.int .i64 r.n,.slice a3 n3 c3] 73)) (.cells #[.slice none 0 0,.slice none 0 0] 27)
 have S1:=s1.keep bel (Nat.le_refl _)
 have S2:=s2.keep bel (Nat.le_refl _)
 have S3:=s3.keep bel (Nat.le_refl _)
 have g:=hg.call bel
 have x0:=B1.cell 0
 have x1:=B1.cell 1
 have l1:=B1.lt
 by_cases h0:cT d=0
 .have ti:n1+n2<=60000:=by
   have:=h0
   unfold cT at this
   split at this
   .cases this
   .rw[h1,h2];omega
  rw[h0] at cC
  by_cases qr:aV r=0
  .have hTl:(dh r).length<=60000:=by have:=(x8 qr).2;omega
   have hE:fq d r=if 60000<n1+n2+((dh r).length+1) then 2 else 0:=by
    unfold fq
    rw[if_neg (by simp[h0]),if_neg (by simp[qr]),h1,h2]
   have ue:fq d r≠0->dj d r=pZ:=fun h=>if_neg h
   have KZ:fq d r=0->dj d r=⟨d.safe,d.wait++(dh r++[10])⟩:=fun h=>if_pos h
   rw[qr] at cP
   generalize fq d r=E at*
   generalize dj d r=D at*
   generalize dh r=T at*
   obtain⟨TX,N4⟩:∃TX,TX=(⟨T.toArray⟩:ByteArray):=⟨_,rfl⟩
   rw[<-N4] at cP
   have W5:TX.size=T.length:=by rw[N4];simp[ByteArray.size]
   have ZD:TX.size+1<=9223372036854775807:=by omega
   obtain⟨K,s',m',l⟩:=r
   simp only at*
   replace h1:=hide h1
   replace h2:=hide h2
   replace h3:=hide h3
   replace W5:=hide W5
   replace N4:=hide N4
   replace hE:=hide hE
   go_enter Tryz.func138,Tryz.ntmps138
   go_wp2_with fail
   generalize World.alloc (World.alloc (World.alloc w _) _) _=w2 at*
   go_at_call 139
   refine(cC _ g S1).mono ?_
   rintro e w3 ⟨rfl,b3⟩
   clear x0 x1 l1
   replace B1:=B1.keep b3 B1.lt
   replace B2:=B2.keep b3 B2.lt
   replace B3:=B3.keep b3 B3.lt
   replace S1:=S1.call b3
   replace S2:=S2.call b3
   replace S3:=S3.call b3
   replace g:=g.call b3
   replace bel:=aa bel b3
   have y0:=B3.cell 0
   have y1:=B3.cell 1
   have y2:=B3.cell 2
   have y3:=B3.cell 3
   have ly:=B3.lt
   go_wp2_with fail
   go_at_call 174
   refine(cP _ g S3).mono ?_
   rintro e w4 ⟨rfl,b4⟩
   clear y0 y1 y2 y3 ly
   replace B1:=B1.keep b4 B1.lt
   replace B2:=B2.keep b4 B2.lt
   replace S1:=S1.call b4
   replace S2:=S2.call b4
   replace g:=g.call b4
   replace bel:=aa bel b4
   have x0:=B1.cell 0
   have x1:=B1.cell 1
   have l1:=B1.lt
   go_upto_region 8 with fail
   have EY:bytes (TX++(⟨#[10]⟩:ByteArray))=T++[10]:=by
    rw[N4.out]
    simp[bytes]
   have Ao:(TX++(⟨#[10]⟩:ByteArray)).size=T.length+1:=by
    rw[<-dM,EY]
    simp
   generalize TX++(⟨#[10]⟩:ByteArray)=TL at*
   obtain⟨M,hM⟩:∃M,M=n1+n2+(T.length+1):=⟨_,rfl⟩
   have Yo:IntKind.i64.wrap (((n1+n2:Nat):Int)+(TL.size:Int))=(M:Int):=by rw[IntKind.wrap_i64,Ao];omega
   have Vw:((n1+n2:Nat):Int)+(TL.size:Int)=(M:Int):=by rw[Ao];omega
   have hMw:wrap64 (M:Int)=(M:Int):=by unfold wrap64;omega
   rw[<-hM] at hE
   obtain⟨N,hN⟩:∃N,N=n1+n2:=⟨_,rfl⟩
   rw[<-hN] at Yo Vw cZ
   replace EY:=hide EY
   replace Ao:=hide Ao
   replace hN:=hide hN
   replace hM:=hide hM
   go_wp2_with fail
   go_at_call 104
   refine(cZ _).mono ?_
   rintro e w5 ⟨rfl,b5⟩
   clear x0 x1 l1
   replace B1:=B1.keep b5 B1.lt
   replace B2:=B2.keep b5 B2.lt
   replace S1:=S1.call b5
   replace S2:=S2.call b5
   replace bel:=aa bel b5
   by_cases hm:60000<M
   .have jf:(60000:Int)<M:=by omega
    obtain rfl:E=2:=by rw[hE.out,if_pos hm]
    obtain rfl:=ue (by decide)
    have y0:=B2.cell 0
    have y1:=B2.cell 1
    have f0:=B2.free 0
    have f1:=B2.free 1
    have l2:=B2.lt
    go_wp2_with fail
    have B9:=jl B2 (.slice none 0 0) (.slice none 0 0)
    have aq:=d8 bel (Nat.le_trans (Nat.le_succ _) (Nat.le_succ _)) (.slice none 0 0) (.slice none 0 0)
    have i0:=B9.cell 0
    have i1:=B9.cell 1
    exact bodyPost_ret (v:=.tuple #[.agg #[.slice none 0 0,.slice none 0 0],.int .i64 2]) (by simp[results,Tryz.results138,go_sem,i0,i1]) rfl (He aq)
   .have jf:¬(60000:Int)<M:=by omega
    obtain rfl:E=0:=by rw[hE.out,if_neg hm]
    obtain rfl:=KZ rfl
    have ZK:TL.size<=60000:=by have:=Ao.out;have:=hM.out;omega
    have WH:n2+TL.size<=1000000:=by omega
    have aw:TL.size=(bytes TL).length:=(dM TL).symm
    have cJ:=fun W s=>ml a1 none c1 0 n1 0 d.safe [] W s (Sl.ofNil _) h1.out rfl (by omega)
    have cK:=fun ad cap W s t=>ml a2 ad c2 cap n2 TL.size d.wait (bytes TL) W s t h2.out aw WH
    simp only[List.append_nil,Nat.add_zero] at cJ
    rw[EY.out] at cK
    have pE:=fun W=>Lib.run_convert_string_bytes (P:=Tryz.prog) W 9 25 5 TL Tryz.underlying9 Tryz.underlying25 Tryz.underlying5
    have On:n2+TL.size=(d.wait++(T++[10])).length:=by
     have h5:=Ao.out
     have h6:=h2.out
     simp only[List.length_append,List.length_cons,List.length_nil]
     omega
    have x0:w5.cell? ⟨w.heap.size,0,none⟩=some (.slice a1 n1 c1):=B1.cell 0
    have x1:w5.cell? ⟨w.heap.size,1,none⟩=some (.slice a2 n2 c2):=B1.cell 1
    have l1:=B1.lt
    have k0:Below w5.heap.size w5 w5.drew:=ai (Below.refl _ _)
    have tC:=fun W=>PL W TL (by omega)
    have l2:=B2.lt
    replace aw:=hide aw
    replace On:=hide On
    clear cC cP cZ
    go_upto_region 10 with fail
    refine named (fun A0 nS=>?_)
    have Rg:A0.eval (.tmp 2)=.pointer (some ⟨w.heap.size,0,none⟩):=by rw[nS];rfl
    have Uj:A0.eval (.tmp 4)=.pointer (some ⟨w.heap.size+1+1,0,none⟩):=by rw[nS];rfl
    have VI:A0.eval (.tmp 7)=.string TL:=by rw[nS];rfl
    have WO:A0.put (some 5) (.int .i64 0)=A0:=by rw[nS];rfl
    have oS:33+9<=A0.tmps.size:=by rw[nS];simp
    replace nS:=hide nS
    refine qh (by kernel_rfl) (by kernel_rfl) (fun d' a' W'=>∃V,a'=pV A0 33 9 V/\Iw w w5 w.heap.size (w.heap.size+1+1) n1 n2 (.slice a1 n1 c1) (.slice a2 n2 c2) TL d.safe (d.wait++(T++[10])) d' V W') ?step ?fin ?start
    case start=>
     refine⟨fun i=>A0.eval (.tmp (33+i)),(Fq _ _ _).symm,?_⟩
     exact⟨fun _=>k0,fun h=>Bool.noConfusion h,fun h=>Bool.noConfusion h,fun h=>Bool.noConfusion h,fun h=>Bool.noConfusion h,fun h=>Bool.noConfusion h,fun h=>Bool.noConfusion h,fun h=>Bool.noConfusion h,fun h=>Bool.noConfusion h,fun h=>Bool.noConfusion h,fun h=>Bool.noConfusion h⟩
    case fin=>
     intro d' a' W' bh inv
     obtain⟨V,rfl,I⟩:=inv
     obtain⟨gJ,e2,lJ,BJ⟩:=I.v2 (bh 2 (by decide))
     obtain⟨gK,e7,lK,BK⟩:=I.v7 (bh 7 (by decide))
     obtain⟨Ss,TZ⟩:=I.fin (bh 9 (by decide))
     rw[e2,e7] at Ss
     rw[<-uk,nS.out]
     simp only[uR,Nat.reduceAdd]
     generalize V 0=V0
     generalize V 1=V1
     generalize V 2=V2
     generalize V 3=V3
     generalize V 4=V4
     generalize V 5=V5
     generalize V 6=V6
     generalize V 7=V7
     generalize V 8=V8
     clear Rg Uj WO VI oS pE cJ cK tC I
     go_wp2_with fail
     have i0:=Ss.cell 0
     have i1:=Ss.cell 1
     exact bodyPost_ret (v:=.tuple #[.agg #[.slice (some ⟨gJ,0,none⟩) n1 n1,.slice (some ⟨gK,0,none⟩) (n2+TL.size) (n2+TL.size)],.int .i64 0]) (by simp[results,Tryz.results138,go_sem,i0,i1]) rfl ⟨_,_,n1,n2+TL.size,n1,n2+TL.size,rfl,h1.out,On.out,nY BJ h1.out (by omega),nY BK On.out (by omega),TZ,(fun ad e=>by cases e;exact⟨_,BJ⟩),(fun ad e=>by cases e;exact⟨_,BK⟩)⟩
    case step=>
     intro i o d' a' W' vT ho hd bh down inv K' hK
     obtain⟨V,ha,I⟩:=inv
     have key:i=0\/i=1\/i=2\/i=3\/i=4\/i=5\/i=6\/i=7\/i=8\/i=9\/i=10:=by
      have:i<11:=vT
      omega
     clear vT
     have AZ:∀(q dd:Nat),dd=33+q->q<9->a'.eval (.tmp dd)=V q:=fun q dd h1 h2=>by rw[ha];exact jb q dd h1 h2 oS
     have Iu:∀(dd:Nat),dd<33\/42<=dd->a'.eval (.tmp dd)=A0.eval (.tmp dd):=fun dd h=>by rw[ha];exact qP dd h
     rcases key with rfl|rfl|rfl|rfl|rfl|rfl|rfl|rfl|rfl|rfl|rfl
     .obtain rfl:=Option.some.inj ho
      refine bQ (d:=33) (v:=.pointer (some ⟨w.heap.size,0,none⟩)) (W':=W') rfl rfl (fun ρ cx=>?_) (hK _ _ ⟨df V 0 _,by rw[ha];exact eD 0 33 rfl (by decide) _,I.pure 0 (by decide) (by decide) (by decide) (by decide) (by decide) _ rfl⟩)
      have q2:ρ (.tmp 2)=.pointer (some ⟨w.heap.size,0,none⟩):=by rw[cx,Iu 2 (by decide),Rg]
      have qc:∀v,ρ (.const v)=v:=fun v=>by rw[cx];rfl
      clear cx
      go_simp
     .obtain rfl:=Option.some.inj ho
      have Ok:d' 2=false:=no down 2 _ rfl ⟨1,.data⟩ (by simp) rfl hd
      have r9:d' 8=false:=no down 8 _ rfl ⟨2,.data⟩ (by simp) rfl Ok
      have pP:d' 9=false:=no down 9 _ rfl ⟨8,.data⟩ (by simp) rfl r9
      have cB:=B1.keep (I.bel pP) B1.lt
      have cc:W'.cell? ⟨w.heap.size,0,none⟩=some (.slice a1 n1 c1):=cB.cell 0
      have lc:=cB.lt
      refine bQ (d:=34) (v:=.slice a1 n1 c1) (W':=W') rfl rfl (fun ρ cx=>?_) (hK _ _ ⟨df V 1 _,by rw[ha];exact eD 1 34 rfl (by decide) _,I.pure 1 (by decide) (by decide) (by decide) (by decide) (by decide) _ rfl⟩)
      have q0:ρ (.tmp 33)=.pointer (some ⟨w.heap.size,0,none⟩):=by rw[cx,AZ 0 33 rfl (by decide)];exact I.v0 (bh ⟨0,.data⟩ (by simp) rfl)
      have qc:∀v,ρ (.const v)=v:=fun v=>by rw[cx];rfl
      clear cx
      go_simp
     .obtain rfl:=Option.some.inj ho
      have r9:d' 8=false:=no down 8 _ rfl ⟨2,.data⟩ (by simp) rfl hd
      have pP:d' 9=false:=no down 9 _ rfl ⟨8,.data⟩ (by simp) rfl r9
      have KO:d' 7=false:=no down 7 _ rfl ⟨2,.chain⟩ (by simp) rfl hd
      have bW:=I.bel pP
      refine pX (by rfl) 66 (.tmp 34) (.const (.slice none 0 0)) 25 25 (by rfl) (.slice a1 n1 c1) (.slice none 0 0) ?_ (by rfl) (by go_simp) (cJ W' (S1.call bW)) (by rintro e w' ⟨rfl,_⟩;exact⟨_,rfl⟩) ?_
      .rw[AZ 1 34 rfl (by decide)]
       exact I.v1 (bh ⟨1,.data⟩ (by simp) rfl)
      rintro u w9 ⟨eu,BJ,b9⟩
      obtain rfl:=Ending.returned.inj eu
      refine hK _ _ ⟨df V 2 _,by rw[ha];exact eD 2 35 rfl (by decide) _,?_⟩
      exact⟨fun _=>aa bW b9,fun h=>by rw[bz (by decide)];exact I.v0 (by simpa using h),fun h=>by rw[bz (by decide)];exact I.v1 (by simpa using h),fun h=>by rw[bz (by decide)];exact I.v3 (by simpa using h),fun h=>by rw[bz (by decide)];exact I.v4 (by simpa using h),fun h=>by rw[bz (by decide)];exact I.v5 (by simpa using h),
       fun _=>⟨W'.heap.size,rfl,bW.size,BJ⟩,
       fun h h'=>by
        rw[bz (by decide)]
        obtain⟨ad,cap,e6,s6⟩:=I.v6 (by simpa using h) pP
        exact⟨ad,cap,e6,s6.call b9⟩,
       fun h=>by simp[KO] at h,fun h=>by simp[r9] at h,fun h=>by simp[pP] at h⟩
     .obtain rfl:=Option.some.inj ho
      refine bQ (d:=36) (v:=.pointer (some ⟨w.heap.size,1,none⟩)) (W':=W') rfl rfl (fun ρ cx=>?_) (hK _ _ ⟨df V 3 _,by rw[ha];exact eD 3 36 rfl (by decide) _,I.pure 3 (by decide) (by decide) (by decide) (by decide) (by decide) _ rfl⟩)
      have q2:ρ (.tmp 2)=.pointer (some ⟨w.heap.size,0,none⟩):=by rw[cx,Iu 2 (by decide),Rg]
      have qc:∀v,ρ (.const v)=v:=fun v=>by rw[cx];rfl
      clear cx
      go_simp
     .obtain rfl:=Option.some.inj ho
      have KO:d' 7=false:=no down 7 _ rfl ⟨4,.data⟩ (by simp) rfl hd
      have r9:d' 8=false:=no down 8 _ rfl ⟨7,.data⟩ (by simp) rfl KO
      have pP:d' 9=false:=no down 9 _ rfl ⟨8,.data⟩ (by simp) rfl r9
      have cB:=B1.keep (I.bel pP) B1.lt
      have cc:W'.cell? ⟨w.heap.size,1,none⟩=some (.slice a2 n2 c2):=cB.cell 1
      have lc:=cB.lt
      refine bQ (d:=37) (v:=.slice a2 n2 c2) (W':=W') rfl rfl (fun ρ cx=>?_) (hK _ _ ⟨df V 4 _,by rw[ha];exact eD 4 37 rfl (by decide) _,I.pure 4 (by decide) (by decide) (by decide) (by decide) (by decide) _ rfl⟩)
      have q0:ρ (.tmp 36)=.pointer (some ⟨w.heap.size,1,none⟩):=by rw[cx,AZ 3 36 rfl (by decide)];exact I.v3 (bh ⟨3,.data⟩ (by simp) rfl)
      have qc:∀v,ρ (.const v)=v:=fun v=>by rw[cx];rfl
      clear cx
      go_simp
     .obtain rfl:=Option.some.inj ho
      refine bQ (d:=38) (v:=.string TL) (W':=W') rfl rfl (fun ρ cx=>?_) (hK _ _ ⟨df V 5 _,by rw[ha];exact eD 5 38 rfl (by decide) _,I.pure 5 (by decide) (by decide) (by decide) (by decide) (by decide) _ rfl⟩)
      have q7:ρ (.tmp 7)=.string TL:=by rw[cx,Iu 7 (by decide),VI]
      have qc:∀v,ρ (.const v)=v:=fun v=>by rw[cx];rfl
      clear cx
      go_simp
     .obtain rfl:=Option.some.inj ho
      have KO:d' 7=false:=no down 7 _ rfl ⟨6,.data⟩ (by simp) rfl hd
      have r9:d' 8=false:=no down 8 _ rfl ⟨7,.data⟩ (by simp) rfl KO
      have pP:d' 9=false:=no down 9 _ rfl ⟨8,.data⟩ (by simp) rfl r9
      have bW:=I.bel pP
      have b9:=Lib.bytesWorld_below W' 5 TL
      refine bQ (d:=39) (v:=.slice (some ⟨W'.heap.size,0,none⟩) TL.size (grownCap W' TL.size 0 5)) (W':=Lib.bytesWorld W' 5 TL) rfl rfl (fun ρ cx=>?_) (hK _ _ ⟨df V 6 _,by rw[ha];exact eD 6 39 rfl (by decide) _,?_⟩)
      .have q5:ρ (.tmp 38)=.string TL:=by rw[cx,AZ 5 38 rfl (by decide)];exact I.v5 (bh ⟨5,.data⟩ (by simp) rfl)
       clear cx
       have hc:=pE W'
       simp[execOp,q5,hc,Result.andThen]
      .exact⟨fun _=>aa bW b9,fun h=>by rw[bz (by decide)];exact I.v0 (by simpa using h),fun h=>by rw[bz (by decide)];exact I.v1 (by simpa using h),fun h=>by rw[bz (by decide)];exact I.v3 (by simpa using h),fun h=>by rw[bz (by decide)];exact I.v4 (by simpa using h),fun h=>by rw[bz (by decide)];exact I.v5 (by simpa using h),
        fun h=>by
         rw[bz (by decide)]
         obtain⟨gJ,e2,lJ,BJ⟩:=I.v2 (by simpa using h)
         exact⟨gJ,e2,lJ,BJ.keep b9 BJ.lt⟩,
        fun _ _=>⟨_,_,rfl,tC W'⟩,
        fun h=>by simp[KO] at h,fun h=>by simp[r9] at h,fun h=>by simp[pP] at h⟩
     .obtain rfl:=Option.some.inj ho
      have r9:d' 8=false:=no down 8 _ rfl ⟨7,.data⟩ (by simp) rfl hd
      have pP:d' 9=false:=no down 9 _ rfl ⟨8,.data⟩ (by simp) rfl r9
      have bW:=I.bel pP
      obtain⟨ad,cap,e6,s6⟩:=I.v6 (bh ⟨6,.data⟩ (by simp) rfl) pP
      refine pX (by rfl) 66 (.tmp 37) (.tmp 39) 25 25 (by rfl) (.slice a2 n2 c2) (.slice ad TL.size cap) ?_ ?_ (by go_simp) (cK ad cap W' (S2.call bW) (by rw[<-EY.out];exact s6)) (by rintro e w' ⟨rfl,_⟩;exact⟨_,rfl⟩) ?_
      .rw[AZ 4 37 rfl (by decide)]
       exact I.v4 (bh ⟨4,.data⟩ (by simp) rfl)
      .rw[AZ 6 39 rfl (by decide)]
       exact e6
      rintro u w9 ⟨eu,BJ,b9⟩
      obtain rfl:=Ending.returned.inj eu
      refine hK _ _ ⟨df V 7 _,by rw[ha];exact eD 7 40 rfl (by decide) _,?_⟩
      exact⟨fun _=>aa bW b9,fun h=>by rw[bz (by decide)];exact I.v0 (by simpa using h),fun h=>by rw[bz (by decide)];exact I.v1 (by simpa using h),fun h=>by rw[bz (by decide)];exact I.v3 (by simpa using h),fun h=>by rw[bz (by decide)];exact I.v4 (by simpa using h),fun h=>by rw[bz (by decide)];exact I.v5 (by simpa using h),
       fun h=>by
        rw[bz (by decide)]
        obtain⟨gJ,e2,lJ,BJ⟩:=I.v2 (by simpa using h)
        exact⟨gJ,e2,lJ,BJ.keep b9 BJ.lt⟩,
       fun h h'=>by
        rw[bz (by decide)]
        exact⟨ad,cap,e6,s6.call b9⟩,
       fun _=>⟨W'.heap.size,rfl,bW.size,BJ⟩,fun h=>by simp[r9] at h,fun h=>by simp[pP] at h⟩
     .obtain rfl:=Option.some.inj ho
      have pP:d' 9=false:=no down 9 _ rfl ⟨8,.data⟩ (by simp) rfl hd
      obtain⟨gJ,e2,lJ,BJ⟩:=I.v2 (bh ⟨2,.data⟩ (by simp) rfl)
      obtain⟨gK,e7,lK,BK⟩:=I.v7 (bh ⟨7,.data⟩ (by simp) rfl)
      refine bQ (d:=41) (v:=.agg #[V 2,V 7]) (W':=W') rfl rfl (fun ρ cx=>?_) (hK _ _ ⟨df V 8 _,by rw[ha];exact eD 8 41 rfl (by decide) _,?_⟩)
      .have q2:ρ (.tmp 35)=.slice (some ⟨gJ,0,none⟩) n1 n1:=by rw[cx,AZ 2 35 rfl (by decide)];exact e2
       have q7:ρ (.tmp 40)=.slice (some ⟨gK,0,none⟩) (n2+TL.size) (n2+TL.size):=by rw[cx,AZ 7 40 rfl (by decide)];exact e7
       rw[e2,e7]
       clear cx
       go_simp
      .exact⟨fun _=>I.bel pP,fun h=>by rw[bz (by decide)];exact I.v0 (by simpa using h),fun h=>by rw[bz (by decide)];exact I.v1 (by simpa using h),fun h=>by rw[bz (by decide)];exact I.v3 (by simpa using h),fun h=>by rw[bz (by decide)];exact I.v4 (by simpa using h),fun h=>by rw[bz (by decide)];exact I.v5 (by simpa using h),
        fun h=>by rw[bz (by decide)];exact I.v2 (by simpa using h),
        fun h h'=>by rw[bz (by decide)];exact I.v6 (by simpa using h) pP,
        fun h=>by rw[bz (by decide)];exact I.v7 (by simpa using h),
        fun _=>by simp[df],fun h=>by simp[pP] at h⟩
     .obtain rfl:=Option.some.inj ho
      have bW:=I.bel hd
      obtain⟨gJ,e2,lJ,BJ⟩:=I.v2 (bh ⟨2,.phase⟩ (by simp) rfl)
      obtain⟨gK,e7,lK,BK⟩:=I.v7 (bh ⟨7,.chain⟩ (by simp) rfl)
      have e8:=I.v8 (bh ⟨8,.data⟩ (by simp) rfl)
      have BX:=B2.keep bW B2.lt
      refine step_skip (n:=.skip) (W':=(W'.setCell ⟨w.heap.size+1+1,0,none⟩ (V 2)).setCell ⟨w.heap.size+1+1,1,none⟩ (V 7)) rfl rfl (.inl rfl) (fun ρ cx=>?_) (hK _ _ ⟨V,ha,?_⟩)
      .have q4:ρ (.tmp 4)=.pointer (some ⟨w.heap.size+1+1,0,none⟩):=by rw[cx,Iu 4 (by decide),Uj]
       have q8:ρ (.tmp 41)=.agg #[.slice (some ⟨gJ,0,none⟩) n1 n1,.slice (some ⟨gK,0,none⟩) (n2+TL.size) (n2+TL.size)]:=by rw[cx,AZ 8 41 rfl (by decide),e8,e2,e7]
       rw[e2,e7]
       have z0:=BX.cell 0
       have z1:=BX.cell 1
       have f0:=BX.free 0
       have f1:=BX.free 1
       have lz:=BX.lt
       clear cx
       go_simp
      .have Vs:w.heap.size+1+1≠gJ:=by omega
       have Ww:w.heap.size+1+1≠gK:=by omega
       exact⟨fun h=>by simp at h,fun h=>I.v0 (by simpa using h),fun h=>I.v1 (by simpa using h),fun h=>I.v3 (by simpa using h),fun h=>I.v4 (by simpa using h),fun h=>I.v5 (by simpa using h),
        fun h=>⟨gJ,e2,lJ,(BJ.other 0 _ Vs).other 1 _ Vs⟩,fun _ h=>by simp at h,fun h=>⟨gK,e7,lK,(BK.other 0 _ Ww).other 1 _ Ww⟩,fun _=>e8,
        fun _=>⟨jl BX _ _,d8 (bel.trans (bW.mono bel.size)) (Nat.le_trans (Nat.le_succ _) (Nat.le_succ _)) _ _⟩⟩
     .obtain rfl:=Option.some.inj ho
      refine bQ (d:=5) (v:=.int .i64 0) (W':=W') rfl rfl (fun ρ cx=>?_) (hK _ _ ⟨V,?_,?_⟩)
      .have qc:∀v,ρ (.const v)=v:=fun v=>by rw[cx];rfl
       clear cx
       go_simp
      .rw[ha,Dh 5 (by decide),WO]
      .have e:∀k,k≠10->(k==10||d' k)=d' k:=fun k hk=>by simp[hk]
       exact⟨fun h=>I.bel (by simpa using h),fun h=>I.v0 (by simpa using h),fun h=>I.v1 (by simpa using h),fun h=>I.v3 (by simpa using h),fun h=>I.v4 (by simpa using h),fun h=>I.v5 (by simpa using h),fun h=>I.v2 (by simpa using h),fun h h'=>I.v6 (by simpa using h) (by simpa using h'),fun h=>I.v7 (by simpa using h),fun h=>I.v8 (by simpa using h),fun h=>I.fin (by simpa using h)⟩
  .have hE:fq d r=aV r:=by unfold fq;rw[if_neg (by simp[h0]),if_pos qr]
   have hD:dj d r=pZ:=if_neg (by rw[hE];exact qr)
   rw[hE,hD]
   have hd:decide (aV r=0)=false:=decide_eq_false qr
   clear hE hD
   generalize aV r=E at*
   generalize(⟨(dh r).toArray⟩:ByteArray)=TX at*
   obtain⟨K,s',m',l⟩:=r
   simp only at*
   replace h1:=hide h1
   replace h2:=hide h2
   replace h3:=hide h3
   go_enter Tryz.func138,Tryz.ntmps138
   go_wp2_with fail
   generalize World.alloc (World.alloc (World.alloc w _) _) _=w2 at*
   go_at_call 139
   refine(cC _ g S1).mono ?_
   rintro e w3 ⟨rfl,b3⟩
   clear x0 x1 l1
   replace B2:=B2.keep b3 B2.lt
   replace B3:=B3.keep b3 B3.lt
   replace S3:=S3.call b3
   replace g:=g.call b3
   replace bel:=aa bel b3
   have z0:=B3.cell 0
   have z1:=B3.cell 1
   have z2:=B3.cell 2
   have z3:=B3.cell 3
   have lz:=B3.lt
   go_wp2_with fail
   go_at_call 174
   refine(cP _ g S3).mono ?_
   rintro e w4 ⟨rfl,b4⟩
   clear z0 z1 z2 z3 lz
   replace B2:=B2.keep b4 B2.lt
   replace bel:=aa bel b4
   have y0:=B2.cell 0
   have y1:=B2.cell 1
   have f0:=B2.free 0
   have f1:=B2.free 1
   have l2:=B2.lt
   go_wp2_with fail
   have B9:=jl B2 (.slice none 0 0) (.slice none 0 0)
   have aq:=d8 bel (Nat.le_trans (Nat.le_succ _) (Nat.le_succ _)) (.slice none 0 0) (.slice none 0 0)
   have i0:=B9.cell 0
   have i1:=B9.cell 1
   exact bodyPost_ret (v:=.tuple #[.agg #[.slice none 0 0,.slice none 0 0],.int .i64 E]) (by simp[results,Tryz.results138,go_sem,i0,i1]) rfl (He aq)
 .have hE:fq d r=cT d:=if_pos h0
  have hD:dj d r=pZ:=if_neg (by rw[hE];exact h0)
  rw[hE,hD]
  have hd:decide (cT d=0)=false:=decide_eq_false h0
  clear hE hD
  generalize cT d=E at*
  obtain⟨K,s',m',l⟩:=r
  simp only at*
  replace h1:=hide h1
  replace h2:=hide h2
  replace h3:=hide h3
  go_enter Tryz.func138,Tryz.ntmps138
  go_wp2_with fail
  generalize World.alloc (World.alloc (World.alloc w _) _) _=w2 at*
  go_at_call 139
  refine(cC _ g S1).mono ?_
  rintro e w3 ⟨rfl,b3⟩
  clear x0 x1 l1
  replace B2:=B2.keep b3 B2.lt
  replace bel:=aa bel b3
  have y0:=B2.cell 0
  have y1:=B2.cell 1
  have f0:=B2.free 0
  have f1:=B2.free 1
  have l2:=B2.lt
  go_wp2_with fail
  have B9:=jl B2 (.slice none 0 0) (.slice none 0 0)
  have aq:=d8 bel (Nat.le_trans (Nat.le_succ _) (Nat.le_succ _)) (.slice none 0 0) (.slice none 0 0)
  have i0:=B9.cell 0
  have i1:=B9.cell 1
  exact bodyPost_ret (v:=.tuple #[.agg #[.slice none 0 0,.slice none 0 0],.int .i64 E]) (by simp[results,Tryz.results138,go_sem,i0,i1]) rfl (He aq)
theorem J7 (d:Dk)(r:Rc)(a1 a2 a3:Option Addr)(c1 c2 c3 n1 n2 n3:Nat)(w:World)(hg:Gl w)(s1:Sl w a1 c1 (byteCells d.safe))(s2:Sl w a2 c2 (byteCells d.wait))(s3:aY ec w a3 c3 r.e)(h1:n1=d.safe.length)(h2:n2=d.wait.length)(h3:n3=r.e.length)(few:n1+n2<=9223372036854775807):
  Calls Tryz.prog 138 #[.agg #[.slice a1 n1 c1,.slice a2 n2 c2],.agg #[.int .i64 r.k,.int .i64 r.s,.int .i64 r.n,.slice a3 n3 c3]] w (Dp w (dj d r) (fq d r)):=
 (KN d r a1 a2 a3 c1 c2 c3 n1 n2 n3 w hg s1 s2 s3 h1 h2 h3 few).mono fun _ _ h=>h.d
end Go.Proofs.YtoonnbhoiocoeaaGreatDoor
namespace Go.Proofs.YtoonnbhoiocoeaaGreatDoor
open Go.RowKit
open Go.Lib (byteCells)
theorem NT {a b c:World}{row:Option Nat}(h:a.grownBy b row)(k:b.grownBy c row):a.grownBy c row:=
 ⟨k.os.trans h.os,k.tape.trans h.tape,k.output.trans h.output,Nat.le_trans h.size k.size,fun j hj aF=>(k.block j (Nat.lt_of_lt_of_le hj h.size) aF).trans (h.block j hj aF)⟩
theorem NY {a b:World}{row:Option Nat}(h:Below a.heap.size a b):a.grownBy b row:=⟨h.os,h.tape,h.output,h.size,fun k hk _=>h.block k hk⟩
theorem dI.call {w w':World}{a:Option Addr}{cap:Nat}{l:List bF}(h:dI w a cap l)(hb:Below w.heap.size w w'):dI w' a cap l:=h.keep hb (Nat.le_refl _)
structure Lp (w:World)(g:Nat)(a1:Option Addr)(n1 c1:Nat)(a2:Option Addr)(n2 c2:Nat)(d:Dk):Prop where
 blk:ac w g [.slice a1 n1 c1,.slice a2 n2 c2] 27
 e1:n1=d.safe.length
 e2:n2=d.wait.length
 s1:Sl w a1 c1 (byteCells d.safe)
 s2:Sl w a2 c2 (byteCells d.wait)
theorem Lp.call {w w':World}{g:Nat}{a1:Option Addr}{n1 c1:Nat}{a2:Option Addr}{n2 c2:Nat}{d:Dk}(h:Lp w g a1 n1 c1 a2 n2 c2 d)(hb:Below w.heap.size w w'):Lp w' g a1 n1 c1 a2 n2 c2 d:=
 ⟨h.blk.keep hb h.blk.lt,h.e1,h.e2,h.s1.call hb,h.s2.call hb⟩
end Go.Proofs.YtoonnbhoiocoeaaGreatDoor
namespace Go.Proofs.YtoonnbhoiocoeaaGreatDoor
open Go.RowKit
open Go.Lib (byteCells)
theorem Sl.takeU {w:World}{a:Option Addr}{cap:Nat}{l:List UInt8}(S:Sl w a cap (byteCells l))(k:Nat):Sl w a cap (byteCells (l.take k)):=by
 have e:byteCells (l.take k)=(byteCells l).take k:=by simp[byteCells,List.map_take]
 obtain⟨hr,h1,h2,h3⟩:=S
 refine⟨?_,by rw[e,List.length_take];omega,h2,h3⟩
 rcases hr with h| ⟨b,off,ea,hb,hc⟩
 .exact .inl (by rw[e,h];simp)
 .refine .inr ⟨b,off,ea,hb,fun j u hu=>hc j u ?_⟩
  rw[e,List.getElem?_take] at hu
  split at hu
  .exact hu
  .cases hu
theorem Ib (d:Dk)(n:Int)(a1 a2:Option Addr)(c1 c2 n1 n2:Nat)(w:World)(hg:Gl w)(s1:Sl w a1 c1 (byteCells d.safe))(s2:Sl w a2 c2 (byteCells d.wait))(h1:n1=d.safe.length)(h2:n2=d.wait.length)(few:n1+n2<=9223372036854775807):
  Calls Tryz.prog 108 #[.agg #[.slice a1 n1 c1,.slice a2 n2 c2],.int .i64 n] w (Dp w (qY d n) (l6 d n)):=by
 have cC:=fun W g s=>nd d a1 a2 c1 c2 n1 n2 W g s h1 h2 few
 have B1:=(ac.laid w [.slice a1 n1 c1,.slice a2 n2 c2] 27 _ rfl).alc (.cells #[.slice none 0 0,.slice none 0 0] 27)
 have B2:=ac.laid (w.alloc (.cells #[.slice a1 n1 c1,.slice a2 n2 c2] 27)) [.slice none 0 0,.slice none 0 0] 27 (w.heap.size+1) (by simp)
 have bel:=newB (newB (Below.refl w.heap.size w) (.cells #[.slice a1 n1 c1,.slice a2 n2 c2] 27)) (.cells #[.slice none 0 0,.slice none 0 0] 27)
 have S1:=s1.keep bel (Nat.le_refl _)
 have S2:=s2.keep bel (Nat.le_refl _)
 have g:=hg.call bel
 by_cases h0:cT d=0
 .have ti:n1+n2<=60000:=by
   have:=h0
   unfold cT at this
   split at this
   .cases this
   .rw[h1,h2];omega
  rw[h0] at cC
  by_cases hn:n<0\/(n2:Int)<n
  .have hE:l6 d n=3:=by unfold l6;rw[if_neg (by simp[h0]),<-h2,if_pos hn]
   have hD:qY d n=pZ:=if_neg (by rw[hE];decide)
   rw[hE,hD]
   clear hE hD h0
   replace h1:=hide h1
   replace h2:=hide h2
   have x0:=B1.cell 0
   have x1:=B1.cell 1
   have l1:=B1.lt
   by_cases hn0:n<0
   .have rj:decide (n<0)=true:=decide_eq_true hn0
    clear hn
    go_enter Tryz.func108,Tryz.ntmps108
    go_wp2_with fail
    generalize World.alloc (World.alloc w _) _=w2 at*
    go_at_call 139
    refine(cC _ g S1).mono ?_
    rintro e w3 ⟨rfl,b3⟩
    clear x0 x1 l1
    replace B1:=B1.keep b3 B1.lt
    replace B2:=B2.keep b3 B2.lt
    replace bel:=aa bel b3
    have x0:=B1.cell 0
    have x1:=B1.cell 1
    have l1:=B1.lt
    have y0:=B2.cell 0
    have y1:=B2.cell 1
    have f0:=B2.free 0
    have f1:=B2.free 1
    have l2:=B2.lt
    go_wp2_with fail
    have B9:=jl B2 (.slice none 0 0) (.slice none 0 0)
    have aq:=d8 bel (Nat.le_succ _) (.slice none 0 0) (.slice none 0 0)
    have i0:=B9.cell 0
    have i1:=B9.cell 1
    exact bodyPost_ret (v:=.tuple #[.agg #[.slice none 0 0,.slice none 0 0],.int .i64 3]) (by simp[results,Tryz.results108,go_sem,i0,i1]) rfl (D5 aq)
   .have rj:decide (n<0)=false:=decide_eq_false hn0
    have O0:(n2:Int)<n:=hn.resolve_left hn0
    have rf:decide ((n2:Int)<n)=true:=decide_eq_true O0
    clear hn
    go_enter Tryz.func108,Tryz.ntmps108
    go_wp2_with fail
    generalize World.alloc (World.alloc w _) _=w2 at*
    go_at_call 139
    refine(cC _ g S1).mono ?_
    rintro e w3 ⟨rfl,b3⟩
    clear x0 x1 l1
    replace B1:=B1.keep b3 B1.lt
    replace B2:=B2.keep b3 B2.lt
    replace bel:=aa bel b3
    have x0:=B1.cell 0
    have x1:=B1.cell 1
    have l1:=B1.lt
    have y0:=B2.cell 0
    have y1:=B2.cell 1
    have f0:=B2.free 0
    have f1:=B2.free 1
    have l2:=B2.lt
    go_wp2_with fail
    have B9:=jl B2 (.slice none 0 0) (.slice none 0 0)
    have aq:=d8 bel (Nat.le_succ _) (.slice none 0 0) (.slice none 0 0)
    have i0:=B9.cell 0
    have i1:=B9.cell 1
    exact bodyPost_ret (v:=.tuple #[.agg #[.slice none 0 0,.slice none 0 0],.int .i64 3]) (by simp[results,Tryz.results108,go_sem,i0,i1]) rfl (D5 aq)
  .have hE:l6 d n=0:=by unfold l6;rw[if_neg (by simp[h0]),<-h2,if_neg hn]
   have hD:qY d n=⟨d.safe,d.wait.take n.toNat⟩:=if_pos hE
   rw[hE,hD]
   obtain⟨k,rfl⟩:∃k:Nat,n=k:=⟨n.toNat,by omega⟩
   rw[Int.toNat_natCast]
   have hk:k<=n2:=by omega
   have cy:k=(d.wait.take k).length:=by rw[List.length_take];omega
   have cJ:=fun W s=>ml a1 none c1 0 n1 0 d.safe [] W s (Sl.ofNil _) h1 rfl (by omega)
   have cK:=fun W s=>ml a2 none c2 0 k 0 (d.wait.take k) [] W s (Sl.ofNil _) cy rfl (by omega)
   simp only[List.append_nil,Nat.add_zero] at cJ cK
   have lE:n2<=c2:=by have:=s2.le;rw[Lib.byteCells_length] at this;omega
   have rj:decide ((k:Int)<0)=false:=decide_eq_false (by omega)
   have rf:decide ((n2:Int)<k)=false:=decide_eq_false (by omega)
   have Ox:¬(n2:Int)<k:=by omega
   clear hE hD h0 hn
   replace h1:=hide h1
   replace h2:=hide h2
   replace cy:=hide cy
   have x0:=B1.cell 0
   have x1:=B1.cell 1
   have l1:=B1.lt
   go_enter Tryz.func108,Tryz.ntmps108
   go_wp2_with fail
   generalize World.alloc (World.alloc w _) _=w2 at*
   go_at_call 139
   refine(cC _ g S1).mono ?_
   rintro e w3 ⟨rfl,b3⟩
   clear x0 x1 l1
   replace B1:=B1.keep b3 B1.lt
   replace B2:=B2.keep b3 B2.lt
   replace S1:=S1.call b3
   replace S2:=S2.call b3
   replace bel:=aa bel b3
   have x0:w3.cell? ⟨w.heap.size,0,none⟩=some (.slice a1 n1 c1):=B1.cell 0
   have x1:w3.cell? ⟨w.heap.size,1,none⟩=some (.slice a2 n2 c2):=B1.cell 1
   have l1:=B1.lt
   have kJ:∀W,Below w3.heap.size w3 W->Calls Tryz.prog 66 #[.slice a1 n1 c1,.slice none 0 0] W fun e w'=>e=.returned (.slice (some ⟨W.heap.size,0,none⟩) n1 n1)/\w'.cell? ⟨w.heap.size,0,none⟩=some (.slice a1 n1 c1)/\w'.cell? ⟨w.heap.size,1,none⟩=some (.slice a2 n2 c2)/\ac w' W.heap.size (byteCells d.safe) 5/\Below w3.heap.size w3 w':=by
    intro W h
    refine(cJ W (S1.call h)).mono ?_
    rintro e w' ⟨rfl,BJ,b⟩
    have bb:=aa h b
    exact⟨rfl,(B1.keep bb B1.lt).cell 0,(B1.keep bb B1.lt).cell 1,BJ,bb⟩
   have kK:∀W,Below w3.heap.size w3 W->Calls Tryz.prog 66 #[.slice a2 k c2,.slice none 0 0] W fun e w'=>e=.returned (.slice (some ⟨W.heap.size,0,none⟩) k k)/\w'.cell? ⟨w.heap.size,0,none⟩=some (.slice a1 n1 c1)/\w'.cell? ⟨w.heap.size,1,none⟩=some (.slice a2 n2 c2)/\w'.cell? ⟨w.heap.size+1,0,none⟩=some (.slice none 0 0)/\w'.cell? ⟨w.heap.size+1,1,none⟩=some (.slice none 0 0)/\w'.frozen? ⟨w.heap.size+1,0,none⟩=false/\w'.frozen? ⟨w.heap.size+1,1,none⟩=false/\w.heap.size+1<w'.heap.size/\ac w' W.heap.size (byteCells (d.wait.take k)) 5/\Below W.heap.size W w'/\Below w3.heap.size w3 w':=by
    intro W h
    refine(cK W ((S2.call h).takeU k)).mono ?_
    rintro e w' ⟨rfl,BJ,b⟩
    have bb:=aa h b
    have pU:=B2.keep bb B2.lt
    exact⟨rfl,(B1.keep bb B1.lt).cell 0,(B1.keep bb B1.lt).cell 1,pU.cell 0,pU.cell 1,pU.free 0,pU.free 1,pU.lt,BJ,b,bb⟩
   have k0:Below w3.heap.size w3 w3.drew:=ai (Below.refl _ _)
   have YX:k<=c2:=by omega
   clear cC cJ cK
   go_upto_region 6 with fail
   go_region_held3 (fun w'=>w'.cell? ⟨w.heap.size,0,none⟩=some (.slice a1 n1 c1)/\w'.cell? ⟨w.heap.size,1,none⟩=some (.slice a2 n2 c2)) (go_keep)
    (first
     | (go_at_call 66;refine(kK _ zA).mono ?_;rintro e wB ⟨rfl,p0,p1,q0,q1,VN,VF,lq,Th,bB,zB⟩)
     | (go_at_call 66;refine(kJ _ k0).mono ?_;rintro e wA ⟨rfl,z0,z1,BA,zA⟩))
   all_goals(
    go_wp2_with fail
    have l2:=B2.lt
    have lA:=zA.size
    have B9:=jl (B2.keep zB B2.lt) (.slice (some ⟨w3.heap.size,0,none⟩) n1 n1) (.slice (some ⟨wA.heap.size,0,none⟩) k k)
    have aq:=d8 (aa bel zB) (Nat.le_succ _) (.slice (some ⟨w3.heap.size,0,none⟩) n1 n1) (.slice (some ⟨wA.heap.size,0,none⟩) k k)
    have J1:ac wB w3.heap.size (byteCells d.safe) 5:=BA.keep bB BA.lt
    have T1:=((J1.other (g':=w.heap.size+1) 0 (.slice (some ⟨w3.heap.size,0,none⟩) n1 n1) (by omega)).other (g':=w.heap.size+1) 1 (.slice (some ⟨wA.heap.size,0,none⟩) k k) (by omega))
    have T2:=((Th.other (g':=w.heap.size+1) 0 (.slice (some ⟨w3.heap.size,0,none⟩) n1 n1) (by omega)).other (g':=w.heap.size+1) 1 (.slice (some ⟨wA.heap.size,0,none⟩) k k) (by omega))
    have i0:=B9.cell 0
    have i1:=B9.cell 1
    exact bodyPost_ret (v:=.tuple #[.agg #[.slice (some ⟨w3.heap.size,0,none⟩) n1 n1,.slice (some ⟨wA.heap.size,0,none⟩) k k],.int .i64 0]) (by simp[results,Tryz.results108,go_sem,i0,i1]) rfl ⟨_,_,n1,k,n1,k,rfl,h1.out,cy.out,nY T1 h1.out (by omega),nY T2 cy.out (by omega),aq⟩)
 .have hE:l6 d n=cT d:=if_pos h0
  have hD:qY d n=pZ:=if_neg (by rw[hE];exact h0)
  rw[hE,hD]
  have hd:decide (cT d=0)=false:=decide_eq_false h0
  generalize cT d=E at*
  replace h1:=hide h1
  replace h2:=hide h2
  clear hE hD
  have x0:=B1.cell 0
  have x1:=B1.cell 1
  have l1:=B1.lt
  go_enter Tryz.func108,Tryz.ntmps108
  go_wp2_with fail
  generalize World.alloc (World.alloc w _) _=w2 at*
  go_at_call 139
  refine(cC _ g S1).mono ?_
  rintro e w3 ⟨rfl,b3⟩
  replace B2:=B2.keep b3 B2.lt
  replace bel:=aa bel b3
  have y0:=B2.cell 0
  have y1:=B2.cell 1
  have f0:=B2.free 0
  have f1:=B2.free 1
  have l2:=B2.lt
  go_wp2_with fail
  have B9:=jl B2 (.slice none 0 0) (.slice none 0 0)
  have aq:=d8 bel (Nat.le_succ _) (.slice none 0 0) (.slice none 0 0)
  have i0:=B9.cell 0
  have i1:=B9.cell 1
  exact bodyPost_ret (v:=.tuple #[.agg #[.slice none 0 0,.slice none 0 0],.int .i64 E]) (by simp[results,Tryz.results108,go_sem,i0,i1]) rfl (D5 aq)
end Go.Proofs.YtoonnbhoiocoeaaGreatDoor
namespace Go.Proofs.YtoonnbhoiocoeaaGreatDoor
open Go.RowKit
open Go.Lib (byteCells)
def Ml (w:World)(D:Dk)(L:List Rc)(E:Int)(e:Ending)(w':World):Prop:=
 ∃(a1 a2 a3:Option Addr) (n1 n2 c1 c2 n3 G3:Nat) (l:List bF),e=.returned (.tuple #[.agg #[.slice a1 n1 c1,.slice a2 n2 c2],.slice a3 n3 G3,.int .i64 E])/\n1=D.safe.length/\n2=D.wait.length/\Sl w' a1 c1 (byteCells D.safe)/\Sl w' a2 c2 (byteCells D.wait)/\fU w.heap.size w' a3 n3 G3 l/\l.map (·.r)=L/\Below w.heap.size w w'
theorem fU.set2 {base:Nat}{w:World}{a:Option Addr}{n G g:Nat}{l:List bF}{c0 c1:Value}(h:fU base w a n G l)(B:ac w g [c0,c1] 27)(u0 u1:Value):fU base ((w.setCell ⟨g,0,none⟩ u0).setCell ⟨g,1,none⟩ u1) a n G l:=by
 have one:∀ {e:TypeId} {size m:Nat} {v:Value} {xs:List Value},e≠27->w.ownsRow base e size v m xs->((w.setCell ⟨g,0,none⟩ u0).setCell ⟨g,1,none⟩ u1).ownsRow base e size v m xs:=by
  intro e size m v xs he o
  have aF:v.ownBlock≠some g:=by
   rcases o.2 with⟨rfl,_⟩| ⟨g1,c1,Dw,rfl,_,h1,_⟩
   .intro e;cases e
   .intro e'
    have e1:g1=g:=by simpa[Value.ownBlock] using e'
    subst e1
    have h2:=h1.symm.trans B
    simp only[Option.some.injEq,Obj.cells.injEq] at h2
    exact he h2.2.1
  exact ownsRow_setCell_other (ownsRow_setCell_other o (a:=⟨g,0,none⟩) aF u0) (a:=⟨g,1,none⟩) aF u1
 exact⟨h.len,one (by decide) h.row,fun x hx=>one (by decide) (h.own x hx)⟩
theorem tH:∀(n k:Nat) (l:List UInt8),l.length<=n->(tail k l).2.length<=l.length
 |0,k,l,h=>by
  obtain rfl:=List.length_eq_zero_iff.1 (Nat.le_zero.1 h)
  rw[dL (by rw[oy];simp)]
  exact Nat.le_refl _
 |n+1,k,l,h=>by
  by_cases hs:k<60/\fJ l=0
  .rw[ke hs]
   have:=gE hs.2
   have:=tH n (k+1) (ge l) (by omega)
   simp only
   omega
  .rw[dL hs]
   exact Nat.le_refl _
theorem Re (n1 n2:Nat)(rest:ByteArray)(safe wait KP t2:List UInt8)(h1:n1=safe.length)(h2:n2=wait.length)(vO:KP=wait.take (n2-t2.length))(hr:bytes rest=t2)(fF:t2.length<=wait.length)(few:n1+n2<=60000):
  ∃m:Nat,IntKind.i64.wrap ((n2:Int)-(rest.size:Int))=(m:Int)/\(n2:Int)-(rest.size:Int)=(m:Int)/\wrap64 (m:Int)=(m:Int)/\m<=n2/\KP=wait.take m/\m=KP.length/\n1+m=(safe++KP).length:=by
 have hs:rest.size=t2.length:=by rw[<-hr,dM]
 refine⟨n2-t2.length,?_,?_,?_,Nat.sub_le _ _,vO,?_,?_⟩
 .rw[hs,IntKind.wrap_i64];omega
 .rw[hs];omega
 .unfold wrap64;omega
 .rw[vO,List.length_take];omega
 .rw[vO,List.length_append,List.length_take];omega
theorem i6 (d:Dk)(a1 a2:Option Addr)(c1 c2 n1 n2:Nat)(w:World)(hg:Gl w)(s1:Sl w a1 c1 (byteCells d.safe))(s2:Sl w a2 c2 (byteCells d.wait))(h1:n1=d.safe.length)(h2:n2=d.wait.length)(few:n1+n2<=9223372036854775807):
  Calls Tryz.prog 31 #[.agg #[.slice a1 n1 c1,.slice a2 n2 c2]] w (Ml w (gu d) (ax d) (cT d)):=by
 have cC:=fun W g s=>An d a1 a2 c1 c2 n1 n2 W g s h1 h2 few
 have B1:=(ac.laid w [.slice a1 n1 c1,.slice a2 n2 c2] 27 _ rfl).alc (.cells #[.slice none 0 0,.slice none 0 0] 27)
 have B2:=ac.laid (w.alloc (.cells #[.slice a1 n1 c1,.slice a2 n2 c2] 27)) [.slice none 0 0,.slice none 0 0] 27 (w.heap.size+1) (by simp)
 have bel:=newB (newB (Below.refl w.heap.size w) (.cells #[.slice a1 n1 c1,.slice a2 n2 c2] 27)) (.cells #[.slice none 0 0,.slice none 0 0] 27)
 have dz:w.heap.size<=((w.alloc (.cells #[.slice a1 n1 c1,.slice a2 n2 c2] 27)).alloc (.cells #[.slice none 0 0,.slice none 0 0] 27)).heap.size:=bel.size
 have S1:=s1.keep bel (Nat.le_refl _)
 have S2:=s2.keep bel (Nat.le_refl _)
 have g:=hg.call bel
 have x0:=B1.cell 0
 have x1:=B1.cell 1
 have l1:=B1.lt
 by_cases h0:cT d=0
 .have ti:n1+n2<=60000:=by
   have:=h0
   unfold cT at this
   split at this
   .cases this
   .rw[h1,h2];omega
  have hD:gu d=⟨d.safe++kept d,[]⟩:=if_pos h0
  have hL:ax d=iN d++(tail (iN d).length d.wait).1:=if_pos h0
  have vO:kept d=d.wait.take (n2-(tail (iN d).length d.wait).2.length):=by unfold kept;rw[h2]
  have pE:=fun(W:World) (S:Sl W a2 c2 (byteCells d.wait))=>p9 S h2
  rw[hD,hL,h0]
  rw[h0] at cC
  obtain⟨i0,hi,bU,bi,bk⟩:=info_parts od
  have tK:=CO d
  generalize kept d=KP at*
  generalize iN d=L0 at*
  generalize D6:tail L0.length d.wait=TL at*
  clear hD hL h0
  replace h1:=hide h1
  replace h2:=hide h2
  replace vO:=hide vO
  replace D6:=hide D6
  go_enter Tryz.func31,Tryz.ntmps31
  go_wp2_with fail
  generalize World.alloc (World.alloc w _) _=w2 at*
  go_at_call 64
  refine(cC _ g S1).mono ?_
  rintro e w3 ⟨a3,n3,G3,l3,rfl,R3,pS,b3⟩
  clear x0 x1 l1
  replace B1:=B1.keep b3 B1.lt
  replace B2:=B2.keep b3 B2.lt
  replace S1:=S1.call b3
  replace S2:=S2.call b3
  replace g:=g.call b3
  replace bel:=aa bel b3
  replace R3:=R3.down dz
  have x0:w3.cell? ⟨w.heap.size,0,none⟩=some (.slice a1 n1 c1):=B1.cell 0
  have x1:w3.cell? ⟨w.heap.size,1,none⟩=some (.slice a2 n2 c2):=B1.cell 1
  have l1:=B1.lt
  have Qt:=pE w3 S2
  have fD:n3=L0.length:=by rw[R3.len,<-pS,List.length_map]
  have kw:n3<=60:=by rw[fD];exact tK
  replace pS:=hide pS
  replace fD:=hide fD
  go_upto_block 0 with fail
  go_cut [5,7,8,9,10] from 24 to 39 (fun s5 s7 s8 s9 Xk wx=>∃(rest:ByteArray) (k G:Nat) (ao:Option Addr) (l:List bF),s5=.slice ao k G/\s7=.string rest/\fU w.heap.size wx ao k G l/\Hid (l.map (·.r)=L0++TL.1)/\Hid (bytes rest=TL.2)/\ac wx w.heap.size [.slice a1 n1 c1,.slice a2 n2 c2] 27/\ac wx (w.heap.size+1) [.slice none 0 0,.slice none 0 0] 27/\Below w.heap.size w wx)
  case first=>
   go_wp2_with fail
   go_loopw [5,7] (fun s5 s7 wr=>∃(rest:ByteArray) (k G:Nat) (ao:Option Addr) (l:List bF) (more:List Rc),s5=.slice ao k G/\s7=.string rest/\fU w.heap.size wr ao k G l/\k<=60/\rest.size<=60000/\Hid (l.map (·.r)=L0++more)/\Hid (TL=(more++(tail k (bytes rest)).1,(tail k (bytes rest)).2))/\ac wr w.heap.size [.slice a1 n1 c1,.slice a2 n2 c2] 27/\ac wr (w.heap.size+1) [.slice none 0 0,.slice none 0 0] 27/\Below w.heap.size w wr) (fun _ s7 _=>Iz s7)
   case atStart=>exact⟨_,n3,G3,a3,l3,[],rfl,rfl,R3,kw,by show(iz d.wait).size<=_;rw[io];have:=h2.out;omega,by show _=_;rw[pS.out,List.append_nil],by show _=_;rw[<-D6.out,show bytes ⟨d.wait.toArray⟩=d.wait from ju _,fD.out];rfl,B1,B2,bel⟩
   case round=>
    clear x0 x1 l1 B1 B2 bel Qt
    obtain⟨rest,k,G,ao,l,more,rfl,rfl,R,hk,hr,hm,ht,B1,B2,tY⟩:=hrel
    by_cases Sn:k<60
    .have Xe:(k:Int)<60:=by omega
     have cF:=fun W g=>ym rest W g hr
     have gr:=hg.call tY
     have Mq:fJ (bytes rest)≠0->TL=(more,bytes rest):=by
      intro h
      rw[ht.out,dL (fun h'=>h h'.2),List.append_nil]
     have fe:fJ (bytes rest)=0->TL=(more++[kt (bytes rest)]++(tail (k+1) (ge (bytes rest))).1,(tail (k+1) (ge (bytes rest))).2):=by
      intro h
      rw[ht.out,ke ⟨Sn,h⟩]
      simp
     have az:fJ (bytes rest)=0->(iz (ge (bytes rest))).size<rest.size:=by
      intro h
      rw[io,<-dM rest]
      exact gE h
     have K5:bytes (iz (ge (bytes rest)))=ge (bytes rest):=ju _
     obtain⟨PB,F7⟩:∃PB,PB=iz (ge (bytes rest)):=⟨_,rfl⟩
     rw[<-K5] at fe
     rw[<-F7] at fe az
     simp only[<-F7] at cF
     clear F7 K5
     generalize kt (bytes rest)=PR at*
     generalize fJ (bytes rest)=PE at*
     obtain⟨K,s',m',es⟩:=PR
     simp only at*
     obtain⟨ln,dK⟩:∃ln,ln=es.length:=⟨_,rfl⟩
     rw[<-dK] at cF
     replace dK:=hide dK
     go_wp2_with fail
     go_at_call 65
     refine(cF _ gr).mono ?_
     rintro e w4 ⟨a4,G4,rfl,o4,b4⟩
     have aC:=aa tY b4
     have R4:=R.call b4
     have BX:=ac.laid w4 [.int .i64 K,.int .i64 s',.int .i64 m',.slice a4 ln G4] 73 _ rfl
     have bq:=newB (Below.refl w4.heap.size w4) (.cells #[.int .i64 K,.int .i64 s',.int .i64 m',.slice a4 ln G4] 73)
     have bE:=aa aC bq
     have R5:=R4.call bq
     replace B1:=(B1.keep b4 B1.lt).keep bq (Nat.lt_of_lt_of_le B1.lt b4.size)
     replace B2:=(B2.keep b4 B2.lt).keep bq (Nat.lt_of_lt_of_le B2.lt b4.size)
     have o5:=jO (o4.alloc (.cells #[.int .i64 K,.int .i64 s',.int .i64 m',.slice a4 ln G4] 73)) tY.size
     by_cases rK:PE=0
     .subst rK
      have nx:=hide (fe rfl)
      have ID:=az rfl
      clear fe Mq az
      go_upto_region 8 with fail
      generalize w4.heap.size=gX at*
      generalize w4.alloc _=w5 at*
      have y0:=BX.cell 0
      have y1:=BX.cell 1
      have y2:=BX.cell 2
      have y3:=BX.cell 3
      have lX:=BX.lt
      go_wp2_with (at_builtin;refine aW w5 rfl (.tmp 35) (.tmp 37) 45 rfl w.heap.size 73 i0 _ 4 48 Tryz.underlying45 hi bU bi bk rfl (by decide) (.slice ao k G) k _ (by rfl) R5.row 1 #[.int .i64 K,.int .i64 s',.int .i64 m',.slice a4 ln G4] 73 (by rfl) (by rfl) (by simp[Value.oneCell']) (by decide) (by unfold maxLen;omega) (by omega) bE.size ?_)
      intro v7 w7 jo iP xA
      have k7:=aH bE R5.row iP (Nat.le_refl _) bE.size
      have YK:=B1.grown iP (fun q e h=>nH R5.row B1 (by decide) (by rw[e,h]))
      have Yy:=B2.grown iP (fun q e h=>nH R5.row B2 (by decide) (by rw[e,h]))
      obtain⟨a8,G8,rfl,R8⟩:=R5.snoc (x:=⟨⟨K,s',m',es⟩,a4,G4⟩) (by show World.ownsRow _ _ _ _ (.slice a4 es.length G4) es.length _;rw[<-dK.out];exact o5) (by unfold bF.cells;simp only;rw[<-dK.out];exact jo) iP
      go_wp2_with fail
      go_roundw
      case rel=>exact⟨PB,k+1,G8,a8,l++[⟨⟨K,s',m',es⟩,a4,G4⟩],more++[⟨K,s',m',es⟩],rfl,rfl,R8,by omega,by omega,by show _=_;rw[List.map_append,hm.out,List.append_assoc];rfl,nx,YK,Yy,k7⟩
      case measure=>exact ID
     .have hd:decide (PE=0)=false:=decide_eq_false rK
      have nx:=Mq rK
      go_upto_region 7 with fail
      generalize w4.alloc _=w5 at*
      go_wp2_with fail
      go_meet
      case rel=>exact⟨rest,k,G,ao,l,rfl,rfl,R5,by show _=_;rw[hm.out,nx],by show _=_;rw[nx],B1,B2,bE⟩
    .have Xe:¬(k:Int)<60:=by omega
     have nx:TL=(more,bytes rest):=by
      rw[ht.out,dL (fun h'=>Sn h'.1),List.append_nil]
     go_wp2_with fail
     go_meet
     case rel=>exact⟨rest,k,G,ao,l,rfl,rfl,R,by show _=_;rw[hm.out,nx],by show _=_;rw[nx],B1,B2,tY⟩
  case rest=>
   clear x0 x1 l1 B1 B2 bel Qt cC S1 S2 g R3
   obtain⟨rest,k,G,ao,l,rfl,rfl,R,hm,Ur,B1,B2,bel⟩:=hcut
   obtain⟨m,UZ,ZV,Vy,Tp,xh,N8,tS⟩:=Re n1 n2 rest d.safe d.wait KP TL.2 h1.out h2.out vO.out Ur.out (by rw[<-D6.out];exact tH d.wait.length L0.length d.wait (Nat.le_refl _)) ti
   have kE:n1+m<=1000000:=Nat.le_trans (Nat.add_le_add_left Tp n1) (Nat.le_trans ti (by decide))
   have S1:=s1.keep bel (Nat.le_refl _)
   have S2:=s2.keep bel (Nat.le_refl _)
   have cJ:=fun W s t=>ml a1 a2 c1 c2 n1 m d.safe KP W s t h1.out N8 kE
   have x0:wc.cell? ⟨w.heap.size,0,none⟩=some (.slice a1 n1 c1):=B1.cell 0
   have x1:wc.cell? ⟨w.heap.size,1,none⟩=some (.slice a2 n2 c2):=B1.cell 1
   have l1:=B1.lt
   have kJ:∀W,Below wc.heap.size wc W->Calls Tryz.prog 66 #[.slice a1 n1 c1,.slice a2 m c2] W fun e w'=>e=.returned (.slice (some ⟨W.heap.size,0,none⟩) (n1+m) (n1+m))/\w'.cell? ⟨w.heap.size,0,none⟩=some (.slice a1 n1 c1)/\w'.cell? ⟨w.heap.size,1,none⟩=some (.slice a2 n2 c2)/\w'.cell? ⟨w.heap.size+1,0,none⟩=some (.slice none 0 0)/\w'.cell? ⟨w.heap.size+1,1,none⟩=some (.slice none 0 0)/\w'.frozen? ⟨w.heap.size+1,0,none⟩=false/\w'.frozen? ⟨w.heap.size+1,1,none⟩=false/\w.heap.size+1<w'.heap.size/\ac w' W.heap.size (byteCells (d.safe++KP)) 5/\Below wc.heap.size wc w':=by
    intro W h
    refine(cJ W (S1.call h) (xh▸(S2.call h).takeU m)).mono ?_
    rintro e w' ⟨rfl,BJ,b⟩
    have bb:=aa h b
    have pU:=B2.keep bb B2.lt
    exact⟨rfl,(B1.keep bb B1.lt).cell 0,(B1.keep bb B1.lt).cell 1,pU.cell 0,pU.cell 1,pU.free 0,pU.free 1,pU.lt,BJ,bb⟩
   have k0:Below wc.heap.size wc wc.drew:=ai (Below.refl _ _)
   have lE:n2<=c2:=by have:=s2.le;rw[Lib.byteCells_length,<-h2.out] at this;exact this
   have YQ:m<=c2:=Nat.le_trans Tp lE
   have ZL:(m:Int)<=c2:=Int.ofNat_le.2 YQ
   clear few ti tK fD kw pS pE vO
   have SA:¬w.heap.size+1=w.heap.size:=by omega
   replace N8:=hide N8
   replace tS:=hide tS
   replace xh:=hide xh
   clear cJ
   go_upto_region 10 with fail
   go_region_held3 (fun w'=>w'.cell? ⟨w.heap.size,0,none⟩=some (.slice a1 n1 c1)/\w'.cell? ⟨w.heap.size,1,none⟩=some (.slice a2 n2 c2)) (go_keep)
    (first
     | (go_at_call 66;refine(kJ _ k0).mono ?_;rintro e wB ⟨rfl,p0,p1,q0,q1,VN,VF,lq,Th,zB⟩))
   all_goals(
    go_wp2_with fail
    have l2:=B2.lt
    have B9:=jl (B2.keep zB B2.lt) (.slice (some ⟨wc.heap.size,0,none⟩) (n1+m) (n1+m)) (.slice none 0 0)
    have aq:=d8 (aa bel zB) (Nat.le_succ _) (.slice (some ⟨wc.heap.size,0,none⟩) (n1+m) (n1+m)) (.slice none 0 0)
    have T1:ac _ wc.heap.size _ _:=((Th.other (g':=w.heap.size+1) 0 (.slice (some ⟨wc.heap.size,0,none⟩) (n1+m) (n1+m)) (by show _≠wc.heap.size;omega)).other (g':=w.heap.size+1) 1 (.slice none 0 0) (by show _≠wc.heap.size;omega))
    have R9:=(R.call zB).set2 (B2.keep zB B2.lt) (.slice (some ⟨wc.heap.size,0,none⟩) (n1+m) (n1+m)) (.slice none 0 0)
    have i0:=B9.cell 0
    have i1:=B9.cell 1
    exact bodyPost_ret (v:=.tuple #[.agg #[.slice (some ⟨wc.heap.size,0,none⟩) (n1+m) (n1+m),.slice none 0 0],.slice ao k G,.int .i64 0]) (by simp[results,Tryz.results31,go_sem,i0,i1]) rfl ⟨_,none,_,n1+m,0,n1+m,0,k,G,l,rfl,tS.out,rfl,nY T1 tS.out kE,Sl.ofNil _,R9,hm.out,aq⟩)
 .have hD:gu d=pZ:=if_neg h0
  have hL:ax d=[]:=if_neg h0
  rw[hD,hL]
  have hd:decide (cT d=0)=false:=decide_eq_false h0
  generalize cT d=E at*
  replace h1:=hide h1
  replace h2:=hide h2
  clear hD hL
  go_enter Tryz.func31,Tryz.ntmps31
  go_wp2_with fail
  generalize World.alloc (World.alloc w _) _=w2 at*
  go_at_call 64
  refine(cC _ g S1).mono ?_
  rintro e w3 ⟨a3,n3,G3,l3,rfl,R3,pS,b3⟩
  clear x0 x1 l1
  replace B2:=B2.keep b3 B2.lt
  replace bel:=aa bel b3
  have y0:=B2.cell 0
  have y1:=B2.cell 1
  have f0:=B2.free 0
  have f1:=B2.free 1
  have l2:=B2.lt
  go_wp2_with fail
  have B9:=jl B2 (.slice none 0 0) (.slice none 0 0)
  have aq:=d8 bel (Nat.le_succ _) (.slice none 0 0) (.slice none 0 0)
  have i0:=B9.cell 0
  have i1:=B9.cell 1
  exact bodyPost_ret (v:=.tuple #[.agg #[.slice none 0 0,.slice none 0 0],.slice none 0 0,.int .i64 E]) (by simp[results,Tryz.results31,go_sem,i0,i1]) rfl ⟨none,none,none,0,0,0,0,0,0,[],rfl,rfl,rfl,Sl.ofNil _,Sl.ofNil _,fU.nil _ _,rfl,aq⟩
end Go.Proofs.YtoonnbhoiocoeaaGreatDoor
namespace Go.Proofs.YtoonnbhoiocoeaaGreatDoor
open Go.Lib (index splitK count)
def pa:List UInt8->List (List UInt8)
 | []=>[[]]
 |c::r=>if c=10 then [10]::pa r else(c::(pa r).headD [])::(pa r).tail
theorem P8 (l:List UInt8):pa l≠[]:=by
 cases l with
 |nil=>simp[pa]
 |cons c r=>unfold pa;split<;>simp
theorem uW:∀l:List UInt8,(∀c∈l,c≠10)->pa l=[l]
 | [],_=>rfl
 |c::r,h=>by
  rw[pa,if_neg (h c List.mem_cons_self),uW r (fun x hx=>h x (List.mem_cons_of_mem _ hx))]
  rfl
theorem ul:∀(p q:List UInt8),(∀c∈p,c≠10)->pa (p++10::q)=(p++[10])::pa q
 | [],q,_=>by rw[List.nil_append,pa,if_pos rfl];rfl
 |c::r,q,h=>by
  rw[List.cons_append,pa,if_neg (h c List.mem_cons_self),ul r q (fun x hx=>h x (List.mem_cons_of_mem _ hx))]
  rfl
theorem Gd:∀(n:Nat) (l:List UInt8),l.length<=n->splitK [10] 1 (count l [10]) l=pa l:=by
 intro n
 induction n with
 |zero=>
  intro l h
  obtain rfl:=List.length_eq_zero_iff.1 (Nat.le_zero.1 h)
  rw[Lib.count_miss rfl]
  rfl
 |succ n ih=>
  intro l h
  rcases p8 10 l with⟨h1,h2⟩| ⟨p,q,rfl,h2,h3⟩
  .rw[Lib.count_miss h1,uW l h2]
   rfl
  .have hd:(p++10::q).drop (p.length+1)=q:=by
    rw[show p.length+1=(p++[10]).length by simp,show p++10::q=(p++[10])++q by simp,List.drop_left]
   have ht:(p++10::q).take (p.length+1)=p++[10]:=by
    rw[show p.length+1=(p++[10]).length by simp,show p++10::q=(p++[10])++q by simp,List.take_left]
   rw[Lib.count_hit (by simp) h3,Nat.add_comm 1,splitK,h3,ul p q h2]
   have aF:((p.length:Int)==-1)=false:=by simp
   rw[aF]
   simp only[Bool.false_eq_true,if_false,Int.toNat_natCast,List.length_cons,List.length_nil,Nat.zero_add]
   rw[hd,ht,ih q (by simp at h;omega)]
theorem DJ (s:ByteArray):(Lib.splitB ⟨#[10]⟩ 1 (Lib.countB s ⟨#[10]⟩) s).map bytes=pa (bytes s):=by
 have h:=Lib.splitB_data ⟨#[10]⟩ 1 (Lib.countB s ⟨#[10]⟩) s
 exact h.trans (Gd _ (bytes s) (Nat.le_refl _))
theorem JS (l:List UInt8):pa l=if re l=true then(mK l++[10])::pa (pv l) else [l]:=by
 rcases jG l with⟨h1,h2,h3,h4⟩| ⟨h1,h2,h3⟩
 .rw[h1,if_neg (by decide),uW l h4]
 .rw[h1,if_pos rfl]
  conv=>lhs;rw[h2]
  exact ul _ _ h3
theorem rP:∀(n k:Nat) (l:List UInt8),l.length<=n->k<=60->(scan k l).1=(tail k l).1
 |0,k,l,h,hk=>by
  obtain rfl:=List.length_eq_zero_iff.1 (Nat.le_zero.1 h)
  rw[iT,dL (by rw[oy];simp)]
 |n+1,k,l,h,hk=>by
  by_cases h0:l=[]
  .subst h0
   rw[iT,dL (by rw[oy];simp)]
  by_cases h1:fJ l=0
  .by_cases h2:k=60
   .subst h2
    rw[kh h0 h1,dL (by simp)]
   .have:=gE h1
    rw[ki h0 h1 h2,ke ⟨by omega,h1⟩]
    simp only
    rw[rP n (k+1) (ge l) (by omega) (by omega)]
  .rw[mj h0 h1,dL (fun h=>h1 h.2)]
end Go.Proofs.YtoonnbhoiocoeaaGreatDoor
namespace Go.Proofs.YtoonnbhoiocoeaaGreatDoor
open Go.Lib (index cut)
theorem OB (l:List UInt8):sp l=(cut l [32]).1::(if(cut l [32]).2.2=true then sp (cut l [32]).2.1 else []):=by
 unfold cut
 rcases lV l with⟨h1,h2⟩| ⟨p,q,rfl,h2,h3⟩
 .rw[h1,if_neg (by decide)]
  simp[tj l h2]
 .rw[h3,if_pos (by omega)]
  have hd:(p++32::q).drop (p.length+1)=q:=by
   rw[show p.length+1=(p++[32]).length by simp,show p++32::q=(p++[32])++q by simp,List.drop_left]
  simp only[Int.toNat_natCast,List.length_cons,List.length_nil,Nat.zero_add,List.take_left,hd,if_true]
  exact sU p q h2
theorem J' (l:List UInt8):(cut l [32]).1.length<=l.length/\(cut l [32]).2.1.length<=l.length/\((cut l [32]).2.2=true->(cut l [32]).2.1.length<l.length):=by
 unfold cut
 rcases lV l with⟨h1,h2⟩| ⟨p,q,rfl,h2,h3⟩
 .rw[h1,if_neg (by decide)]
  simp
 .rw[h3,if_pos (by omega)]
  simp only[Int.toNat_natCast,List.length_cons,List.length_nil,Nat.zero_add,List.length_take,List.length_drop,List.length_append]
  omega
end Go.Proofs.YtoonnbhoiocoeaaGreatDoor
namespace Go.Proofs.YtoonnbhoiocoeaaGreatDoor
open Go.RowKit
theorem cm (n a b:Int)(w:World):
  Calls Tryz.prog 36 #[.int .i64 n,.int .i64 a,.int .i64 b] w fun e w'=>e=.returned (.bool (decide (a<=n/\n<=b)))/\w=w':=by
 by_cases h1:a<=n
 .by_cases h2:n<=b
  .have e:decide (a<=n/\n<=b)=true:=by simp[h1,h2]
   rw[e]
   clear e
   go_enter Tryz.func36,Tryz.ntmps36
   go_wp2
   go_ret
   exact⟨rfl,rfl⟩
  .have e:decide (a<=n/\n<=b)=false:=by simp[h2]
   rw[e]
   clear e
   go_enter Tryz.func36,Tryz.ntmps36
   go_wp2
   go_ret
   exact⟨rfl,rfl⟩
 .have e:decide (a<=n/\n<=b)=false:=by simp[h1]
  rw[e]
  clear e
  go_enter Tryz.func36,Tryz.ntmps36
  go_wp2
  go_ret
  exact⟨rfl,rfl⟩
end Go.Proofs.YtoonnbhoiocoeaaGreatDoor
