/-
  The reference's PutOn, of a right disk.
-/
import Derived.Test.YtoonnbhoiocoeaaGreatDoorQ23
set_option maxHeartbeats 40000000
set_option maxRecDepth 100000
set_option linter.unusedVariables false
namespace Go.Proofs.YtoonnbhoiocoeaaGreatDoor
open Go.RowKit
open Go.Lib (byteCells)
def ZE (D g:Nat)(s1 s2:Value)(TX TL:ByteArray)(cp:Nat):Nat->Value->Prop
 |0,v=>v=.pointer (some ⟨D,0,none⟩)
 |1,v=>v=s1
 |2,v=>v=.pointer (some ⟨D,1,none⟩)
 |3,v=>v=s2
 |4,v=>v=.string TX
 |5,v=>v=.string TL
 |6,v=>v=.slice (some ⟨g,0,none⟩) TL.size cp
 |7,v=>v=.slice (some ⟨g+1,0,none⟩) 2 2
 |_,_=>True
structure JL (w w5 Wa Wb:World)(X M:Nat)(pv:Nat->Value->Prop)(L2:List UInt8)(d:Nat->Bool)(V:Nat->Value)(W:World):Prop where
 w0:d 6=false->d 7=false->d 8=false->d 10=false->W=w5.drew
 w6:d 6=true->d 7=false->d 8=false->d 10=false->W=Wa
 w7:d 7=true->d 8=false->d 10=false->W=Wb
 bel:d 10=false->Below w5.heap.size w5 W
 vals:∀i,d i=true->pv i (V i)
 v8:d 8=true->∃ao G,V 8=.slice ao M G/\Sl W ao G (byteCells L2)
 v9:d 9=true->V 9=.agg #[V 1,V 8]
 fin:d 10=true->ag W X [V 1,V 8] 27/\Below w.heap.size w W
theorem JL.pure {w w5 Wa Wb:World}{X M:Nat}{pv:Nat->Value->Prop}{L2:List UInt8}{d:Nat->Bool}{V:Nat->Value}{W:World}(h:JL w w5 Wa Wb X M pv L2 d V W)(i:Nat)(h6:i≠6)(h7:i≠7)(h8:i≠8)(h9:i≠9)(uY:i≠10)(h1:i=1->d 9=false/\d 10=false)(v:Value)(hv:pv i v):
  JL w w5 Wa Wb X M pv L2 (fun k=>k==i||d k) (bH V i v) W:=by
 have e:∀k,k≠i->(k==i||d k)=d k:=fun k hk=>by simp[hk]
 have e6:=e 6 (Ne.symm h6)
 have e7:=e 7 (Ne.symm h7)
 have e8:=e 8 (Ne.symm h8)
 have e9:=e 9 (Ne.symm h9)
 have NJ:=e 10 (Ne.symm uY)
 refine⟨?_,?_,?_,?_,aZ h.vals i v hv,?_,?_,?_⟩
 .intro a b c f;simp only[e6,e7,e8,NJ] at a b c f;exact h.w0 a b c f
 .intro a b c f;simp only[e6,e7,e8,NJ] at a b c f;exact h.w6 a b c f
 .intro a b c;simp only[e7,e8,NJ] at a b c;exact h.w7 a b c
 .intro a;simp only[NJ] at a;exact h.bel a
 .intro a;simp only[e8] at a;rw[bh (Ne.symm h8)];exact h.v8 a
 .intro a
  simp only[e9] at a
  by_cases hi:i=1
  .rw[(h1 hi).1] at a;cases a
  rw[bh (Ne.symm h9),bh (Ne.symm h8),bh (Ne.symm hi)];exact h.v9 a
 intro a
 simp only[NJ] at a
 by_cases hi:i=1
 .rw[(h1 hi).2] at a;cases a
 rw[bh (Ne.symm h8),bh (Ne.symm hi)];exact h.fin a
theorem Wg (n1 n2 tx t tl wl:Nat)(h1:tx=t)(h2:tl=t+1)(few:n1+n2<=60000)(ht:t<=60000)(hw:wl=n2+(t+1)):
  ∃N N1 M:Nat,(n1:Int)+(n2:Int)=(N:Int)/\(N:Int)+(tx:Int)=(N1:Int)/\(N1:Int)+1=(M:Int)/\wrap64 (N:Int)=(N:Int)/\wrap64 (N1:Int)=(N1:Int)/\wrap64 (M:Int)=(M:Int)/\n1+n2+(t+1)=M/\n2+tl=wl/\(M<=60000->n2+tl<=1000000)/\tl<=1000000:=by
 refine⟨n1+n2,n1+n2+tx,n1+n2+tx+1,by omega,by omega,by omega,by unfold wrap64;omega,by unfold wrap64;omega,by unfold wrap64;omega,by omega,by omega,by omega,by omega⟩
theorem LW (d:Dk)(r:Rc)(a1 a2 a3:Option Addr)(c1 c2 c3 n1 n2 n3:Nat)(w:World)(hg:Gl w)(s1:Sl w a1 c1 (byteCells d.safe))(s2:Sl w a2 c2 (byteCells d.wait))(s3:be ec w a3 c3 r.e)(h1:n1=d.safe.length)(h2:n2=d.wait.length)(h3:n3=r.e.length)(h0:cy d=0):
  Calls Tryz.prog 51 #[.agg #[.slice a1 n1 c1,.slice a2 n2 c2],.agg #[.int .i64 r.k,.int .i64 r.s,.int .i64 r.n,.slice a3 n3 c3]] w (yd w (cU d r) (dX d r)):=by
 have cP:=fun W g s=>Lw r a3 c3 n3 W g s h3
 have B1:=((ag.laid w [.slice a1 n1 c1,.slice a2 n2 c2] 27 _ rfl).alc (.cells #[.int .i64 r.k,.int .i64 r.s,.int .i64 r.n,.slice a3 n3 c3] 73)).alc (.cells #[.slice none 0 0,.slice none 0 0] 27)
 have B3:=(ag.laid (w.alloc (.cells #[.slice a1 n1 c1,.slice a2 n2 c2] 27)) [.int .i64 r.k,.int .i64 r.s,.int .i64 r.n,.slice a3 n3 c3] 73 (w.heap.size+1) (by simp)).alc (.cells #[.slice none 0 0,.slice none 0 0] 27)
 have B2:=ag.laid ((w.alloc (.cells #[.slice a1 n1 c1,.slice a2 n2 c2] 27)).alloc (.cells #[.int .i64 r.k,.int .i64 r.s,.int .i64 r.n,.slice a3 n3 c3] 73)) [.slice none 0 0,.slice none 0 0] 27 (w.heap.size+1+1) (by simp)
 have bel:=newB (newB (newB (Below.refl w.heap.size w) (.cells #[.slice a1 n1 c1,.slice a2 n2 c2] 27)) (.cells #[.int .i64 r.k,.int .i64 r.s,.int .i64 r.n,.slice a3 n3 c3] 73)) (.cells #[.slice none 0 0,.slice none 0 0] 27)
 have S1:=s1.keep bel (Nat.le_refl _)
 have S2:=s2.keep bel (Nat.le_refl _)
 have S3:=s3.keep bel (Nat.le_refl _)
 have g:=hg.call bel
 have hf:=rq h0
 have qj:n1+n2<=60000:=by rw[h1,h2];exact hf
 by_cases mz:aP r=0
 .have UF:(bY r).length<=60000:=(sV mz).2
  have hE:dX d r=if 60000<n1+n2+((bY r).length+1) then 2 else 0:=by
   unfold dX
   rw[if_neg (by simp[h0]),if_neg (by simp[mz]),h1,h2]
  have xe:dX d r≠0->cU d r=ox:=fun h=>if_neg h
  have xi:dX d r=0->cU d r=⟨d.safe,d.wait++(bY r++[10])⟩:=fun h=>if_pos h
  rw[mz] at cP
  generalize dX d r=E at*
  generalize cU d r=D at*
  generalize bY r=T at*
  obtain⟨TX,xR⟩:∃TX,TX=(⟨T.toArray⟩:ByteArray):=⟨_,rfl⟩
  rw[<-xR] at cP
  have Hx:TX.size=T.length:=by rw[xR];simp[ByteArray.size]
  have Xn:TX.size+1<=9223372036854775807:=by rw[Hx];exact Nat.le_trans (Nat.succ_le_succ UF) (by decide)
  obtain⟨K,s',m',l⟩:=r
  simp only at*
  have pM:bytes (TX++(⟨#[10]⟩:ByteArray))=T++[10]:=by
   rw[xR]
   simp[bytes]
  have qu:(TX++(⟨#[10]⟩:ByteArray)).size=T.length+1:=by
   rw[<-dB,pM]
   simp
  obtain⟨TL,zw⟩:∃TL,TX++(⟨#[10]⟩:ByteArray)=TL:=⟨_,rfl⟩
  rw[zw] at pM qu
  obtain⟨N,N1,M,q1,q2,q3,u1,u2,u3,UT,EJ,OP,VR⟩:=Wg n1 n2 TX.size T.length TL.size (d.wait++(T++[10])).length Hx qu qj UF (by rw[List.length_append,List.length_append,h2];rfl)
  rw[UT] at hE
  have hlen:TL.size=(bytes TL).length:=(dB TL).symm
  have tC:∀W:World,TL.size<=1000000->Sl (Lib.bytesWorld W 5 TL) (some ⟨W.heap.size,0,none⟩) (grownCap W TL.size 0 5) (byteCells (bytes TL)):=fun W h=>JA W TL h
  have cJ:=fun B cp W e0 e1 s t hB hm=>xO B a2 (some ⟨B-1,0,none⟩) c2 cp n2 TL.size d.wait (bytes TL) W e0 e1 s t h2 hlen (OP hm) hB
  rw[pM] at cJ
  replace h1:=aa h1
  replace h2:=aa h2
  replace h3:=aa h3
  replace Hx:=aa Hx
  replace xR:=aa xR
  replace hE:=aa hE
  replace pM:=aa pM
  replace qu:=aa qu
  replace UT:=aa UT
  replace EJ:=aa EJ
  replace hlen:=aa hlen
  clear mz hf h0
  obtain⟨y0,y1,y2,y3,ly⟩:=B3.c4
  go_enter Tryz.func51,Tryz.ntmps51
  go_wp2_with fail
  generalize World.alloc (World.alloc (World.alloc w _) _) _=w2 at*
  go_at_call 89
  refine(cP _ g S3).mono ?_
  rintro e w5 ⟨rfl,b5⟩
  clear y0 y1 y2 y3 ly cP
  replace B1:=B1.keep b5 B1.lt
  replace B2:=B2.keep b5 B2.lt
  replace S1:=S1.call b5
  replace S2:=S2.call b5
  replace bel:=ac bel b5
  obtain⟨x0,x1,l1⟩:=B1.c2
  by_cases hm:60000<M
  .have ik:(60000:Int)<M:=Int.ofNat_lt.2 hm
   obtain rfl:E=2:=by rw[hE.out,if_pos hm]
   obtain rfl:=xe (by decide)
   have y0:=B2.cell 0
   have y1:=B2.cell 1
   have f0:=B2.free 0
   have f1:=B2.free 1
   have l2:=B2.lt
   clear xe xi cJ tC
   go_wp2_with fail
   have B9:=fZ B2 (.slice none 0 0) (.slice none 0 0)
   have aq:=dt bel (Nat.le_trans (Nat.le_succ _) (Nat.le_succ _)) (.slice none 0 0) (.slice none 0 0)
   have i0:=B9.cell 0
   have i1:=B9.cell 1
   exact bodyPost_ret (v:=.tuple #[.agg #[.slice none 0 0,.slice none 0 0],.int .i64 2]) (by simp[results,Tryz.results51,go_sem,i0,i1]) rfl (wt aq)
  have ik:¬(60000:Int)<M:=fun h=>hm (Int.ofNat_lt.1 h)
  obtain rfl:E=0:=by rw[hE.out,if_neg hm]
  obtain rfl:=xi rfl
  have nd:=fun W=>Lib.run_convert_string_bytes (P:=Tryz.prog) W 9 25 5 TL Tryz.underlying9 Tryz.underlying25 Tryz.underlying5
  have k0:Below w5.heap.size w5 w5.drew:=ak (Below.refl _ _)
  have kA:Below w5.heap.size w5 (Lib.bytesWorld w5.drew 5 TL):=ac k0 (Lib.bytesWorld_below w5.drew 5 TL)
  have Xm:(Lib.bytesWorld w5.drew 5 TL).heap.size=w5.heap.size+1:=Lib.bytesWorld_size _ _ _
  have tA:=tC w5.drew VR
  obtain⟨cp,Vp⟩:∃cp,cp=grownCap w5.drew TL.size 0 5:=⟨_,rfl⟩
  have MQ:=nd w5.drew
  rw[<-Vp] at tA MQ
  have ZI:Sl (Lib.bytesWorld w5.drew 5 TL) (some ⟨w5.heap.size,0,none⟩) cp (byteCells (bytes TL)):=tA
  generalize Lib.bytesWorld w5.drew 5 TL=WA at*
  have BC:=ag.laid WA [.slice a2 n2 c2,.slice (some ⟨w5.heap.size,0,none⟩) TL.size cp] 25 (w5.heap.size+1) Xm.symm
  have kB:=newB kA (.cells #[.slice a2 n2 c2,.slice (some ⟨w5.heap.size,0,none⟩) TL.size cp] 25)
  have tB:=ZI.alloc (.cells #[.slice a2 n2 c2,.slice (some ⟨w5.heap.size,0,none⟩) TL.size cp] 25)
  rw[pM.out] at tB
  have VI:=cJ (w5.heap.size+1) cp _ (BC.cell 0) (BC.cell 1) (S2.call kB) tB BC.lt (Nat.le_of_not_lt hm)
  clear nd tC cJ tA Vp
  have l2:=B2.lt
  have WV:n2+TL.size<=1000000:=OP (Nat.le_of_not_lt hm)
  go_upto_region 6 with fail
  refine named (fun A0 lu=>?_)
  have GX:A0.eval (.tmp 2)=.pointer (some ⟨w.heap.size,0,none⟩):=by rw[lu];rfl
  have MV:A0.eval (.tmp 4)=.pointer (some ⟨w.heap.size+1+1,0,none⟩):=by rw[lu];rfl
  have VL:A0.eval (.tmp 6)=.string TX:=by rw[lu];rfl
  have L7:A0.put (some 5) (.int .i64 0)=A0:=by rw[lu];rfl
  have nj:30+10<=A0.tmps.size:=by rw[lu];simp
  replace lu:=aa lu
  refine mY (by kernel_rfl) (by kernel_rfl) (fun d' a' W'=>∃V,a'=pV A0 30 10 V/\JL w w5 WA (WA.alloc (.cells #[.slice a2 n2 c2,.slice (some ⟨w5.heap.size,0,none⟩) TL.size cp] 25)) (w.heap.size+1+1) (n2+TL.size) (ZE w.heap.size w5.heap.size (.slice a1 n1 c1) (.slice a2 n2 c2) TX TL cp) (d.wait++(T++[10])) d' V W') ?step ?fin ?start
  case start=>
   refine⟨fun i=>A0.eval (.tmp (30+i)),(xE _ _ _).symm,?_⟩
   exact⟨fun _ _ _ _=>rfl,fun h=>Bool.noConfusion h,fun h=>Bool.noConfusion h,fun _=>k0,fun i h=>Bool.noConfusion h,fun h=>Bool.noConfusion h,fun h=>Bool.noConfusion h,fun h=>Bool.noConfusion h⟩
  case fin=>
   intro d' a' W' aU inv
   obtain⟨V,rfl,I⟩:=inv
   obtain⟨ao,G,e8,s8⟩:=I.v8 (aU 8 (by decide))
   have e1:V 1=.slice a1 n1 c1:=I.vals 1 (aU 1 (by decide))
   obtain⟨Jc,Jw⟩:=I.fin (aU 10 (by decide))
   rw[e1,e8] at Jc
   rw[<-rt,lu.out]
   simp only[si,Nat.reduceAdd]
   generalize V 0=V0
   generalize V 1=V1
   generalize V 2=V2
   generalize V 3=V3
   generalize V 4=V4
   generalize V 5=V5
   generalize V 6=V6
   generalize V 7=V7
   generalize V 8=V8
   generalize V 9=V9
   clear GX MV L7 VL nj MQ VI I
   go_wp2_with fail
   have i0:=Jc.cell 0
   have i1:=Jc.cell 1
   exact bodyPost_ret (v:=.tuple #[.agg #[.slice a1 n1 c1,.slice ao (n2+TL.size) G],.int .i64 0]) (by simp[results,Tryz.results51,go_sem,i0,i1]) rfl ⟨_,_,n1,n2+TL.size,c1,G,rfl,h1.out,EJ.out,s1.keep Jw (Nat.le_refl _),s8,Jw⟩
  case step=>
   intro i o d' a' W' tg ho hd aU down inv K' hK
   obtain⟨V,ha,I⟩:=inv
   have key:i=0\/i=1\/i=2\/i=3\/i=4\/i=5\/i=6\/i=7\/i=8\/i=9\/i=10\/i=11:=by
    have:i<12:=tg
    omega
   clear tg
   have od:∀(q dd:Nat),dd=30+q->q<10->a'.eval (.tmp dd)=V q:=fun q dd h1 h2=>by rw[ha];exact iM q dd h1 h2 nj
   have ua:∀(dd:Nat),dd<30\/40<=dd->a'.eval (.tmp dd)=A0.eval (.tmp dd):=fun dd h=>by rw[ha];exact oV dd h
   rcases key with rfl|rfl|rfl|rfl|rfl|rfl|rfl|rfl|rfl|rfl|rfl|rfl
   .obtain rfl:=Option.some.inj ho
    refine aR (d:=30) (v:=.pointer (some ⟨w.heap.size,0,none⟩)) (W':=W') rfl rfl (fun ρ aX=>?_) (hK _ _ ⟨bH V 0 _,by rw[ha];exact dr 0 30 rfl (by decide) _,I.pure 0 (by decide) (by decide) (by decide) (by decide) (by decide) (fun h=>absurd h (by decide)) _ rfl⟩)
    have p2:ρ (.tmp 2)=.pointer (some ⟨w.heap.size,0,none⟩):=by rw[aX,ua 2 (by decide),GX]
    have qc:∀v,ρ (.const v)=v:=fun v=>by rw[aX];rfl
    clear aX
    go_simp
   .obtain rfl:=Option.some.inj ho
    have jy:d' 9=false:=no down 9 _ rfl ⟨1,.data⟩ (by simp) rfl hd
    have jz:d' 10=false:=no down 10 _ rfl ⟨9,.data⟩ (by simp) rfl jy
    have cB:=B1.keep (I.bel jz) B1.lt
    have cc:W'.cell? ⟨w.heap.size,0,none⟩=some (.slice a1 n1 c1):=cB.cell 0
    have lc:=cB.lt
    refine aR (d:=31) (v:=.slice a1 n1 c1) (W':=W') rfl rfl (fun ρ aX=>?_) (hK _ _ ⟨bH V 1 _,by rw[ha];exact dr 1 31 rfl (by decide) _,I.pure 1 (by decide) (by decide) (by decide) (by decide) (by decide) (fun _=>⟨jy,jz⟩) _ rfl⟩)
    have q0:ρ (.tmp 30)=.pointer (some ⟨w.heap.size,0,none⟩):=by rw[aX,od 0 30 rfl (by decide)];exact I.vals 0 (aU ⟨0,.data⟩ (by simp) rfl)
    have qc:∀v,ρ (.const v)=v:=fun v=>by rw[aX];rfl
    clear aX
    go_simp
   .obtain rfl:=Option.some.inj ho
    refine aR (d:=32) (v:=.pointer (some ⟨w.heap.size,1,none⟩)) (W':=W') rfl rfl (fun ρ aX=>?_) (hK _ _ ⟨bH V 2 _,by rw[ha];exact dr 2 32 rfl (by decide) _,I.pure 2 (by decide) (by decide) (by decide) (by decide) (by decide) (fun h=>absurd h (by decide)) _ rfl⟩)
    have p2:ρ (.tmp 2)=.pointer (some ⟨w.heap.size,0,none⟩):=by rw[aX,ua 2 (by decide),GX]
    have qc:∀v,ρ (.const v)=v:=fun v=>by rw[aX];rfl
    clear aX
    go_simp
   .obtain rfl:=Option.some.inj ho
    have qw:d' 7=false:=no down 7 _ rfl ⟨3,.data⟩ (by simp) rfl hd
    have jW:d' 8=false:=no down 8 _ rfl ⟨7,.data⟩ (by simp) rfl qw
    have jy:d' 9=false:=no down 9 _ rfl ⟨8,.data⟩ (by simp) rfl jW
    have jz:d' 10=false:=no down 10 _ rfl ⟨9,.data⟩ (by simp) rfl jy
    have cB:=B1.keep (I.bel jz) B1.lt
    have cc:W'.cell? ⟨w.heap.size,1,none⟩=some (.slice a2 n2 c2):=cB.cell 1
    have lc:=cB.lt
    refine aR (d:=33) (v:=.slice a2 n2 c2) (W':=W') rfl rfl (fun ρ aX=>?_) (hK _ _ ⟨bH V 3 _,by rw[ha];exact dr 3 33 rfl (by decide) _,I.pure 3 (by decide) (by decide) (by decide) (by decide) (by decide) (fun h=>absurd h (by decide)) _ rfl⟩)
    have q2:ρ (.tmp 32)=.pointer (some ⟨w.heap.size,1,none⟩):=by rw[aX,od 2 32 rfl (by decide)];exact I.vals 2 (aU ⟨2,.data⟩ (by simp) rfl)
    have qc:∀v,ρ (.const v)=v:=fun v=>by rw[aX];rfl
    clear aX
    go_simp
   .obtain rfl:=Option.some.inj ho
    refine aR (d:=34) (v:=.string TX) (W':=W') rfl rfl (fun ρ aX=>?_) (hK _ _ ⟨bH V 4 _,by rw[ha];exact dr 4 34 rfl (by decide) _,I.pure 4 (by decide) (by decide) (by decide) (by decide) (by decide) (fun h=>absurd h (by decide)) _ rfl⟩)
    have p6:ρ (.tmp 6)=.string TX:=by rw[aX,ua 6 (by decide),VL]
    have qc:∀v,ρ (.const v)=v:=fun v=>by rw[aX];rfl
    clear aX
    go_simp
   .obtain rfl:=Option.some.inj ho
    refine aR (d:=35) (v:=.string TL) (W':=W') rfl rfl (fun ρ aX=>?_) (hK _ _ ⟨bH V 5 _,by rw[ha];exact dr 5 35 rfl (by decide) _,I.pure 5 (by decide) (by decide) (by decide) (by decide) (by decide) (fun h=>absurd h (by decide)) _ rfl⟩)
    have q4:ρ (.tmp 34)=.string TX:=by rw[aX,od 4 34 rfl (by decide)];exact I.vals 4 (aU ⟨4,.data⟩ (by simp) rfl)
    have qc:∀v,ρ (.const v)=v:=fun v=>by rw[aX];rfl
    clear aX
    go_simp
   .obtain rfl:=Option.some.inj ho
    have qw:d' 7=false:=no down 7 _ rfl ⟨6,.data⟩ (by simp) rfl hd
    have jW:d' 8=false:=no down 8 _ rfl ⟨7,.data⟩ (by simp) rfl qw
    have jy:d' 9=false:=no down 9 _ rfl ⟨8,.data⟩ (by simp) rfl jW
    have jz:d' 10=false:=no down 10 _ rfl ⟨9,.data⟩ (by simp) rfl jy
    obtain rfl:=I.w0 hd qw jW jz
    refine aR (d:=36) (v:=.slice (some ⟨w5.heap.size,0,none⟩) TL.size cp) (W':=WA) rfl rfl (fun ρ aX=>?_) (hK _ _ ⟨bH V 6 _,by rw[ha];exact dr 6 36 rfl (by decide) _,?_⟩)
    .have q5:ρ (.tmp 35)=.string TL:=by rw[aX,od 5 35 rfl (by decide)];exact I.vals 5 (aU ⟨5,.data⟩ (by simp) rfl)
     clear aX
     simp[execOp,q5,MQ,Result.andThen]
    exact⟨fun h=>by simp at h,fun _ _ _ _=>rfl,fun h=>by simp[qw] at h,fun _=>kA,aZ I.vals 6 _ rfl,fun h=>by simp[jW] at h,fun h=>by simp[jy] at h,fun h=>by simp[jz] at h⟩
   .obtain rfl:=Option.some.inj ho
    have Ig:d' 6=true:=aU ⟨6,.data⟩ (by simp) rfl
    have jW:d' 8=false:=no down 8 _ rfl ⟨7,.data⟩ (by simp) rfl hd
    have jy:d' 9=false:=no down 9 _ rfl ⟨8,.data⟩ (by simp) rfl jW
    have jz:d' 10=false:=no down 10 _ rfl ⟨9,.data⟩ (by simp) rfl jy
    obtain rfl:=I.w6 Ig hd jW jz
    refine aR (d:=37) (v:=.slice (some ⟨w5.heap.size+1,0,none⟩) 2 2) (W':=W'.alloc (.cells #[.slice a2 n2 c2,.slice (some ⟨w5.heap.size,0,none⟩) TL.size cp] 25)) rfl rfl (fun ρ aX=>?_) (hK _ _ ⟨bH V 7 _,by rw[ha];exact dr 7 37 rfl (by decide) _,?_⟩)
    .have sk:ρ (.tmp 33)=.slice a2 n2 c2:=by rw[aX,od 3 33 rfl (by decide)];exact I.vals 3 (aU ⟨3,.data⟩ (by simp) rfl)
     have q6':ρ (.tmp 36)=.slice (some ⟨w5.heap.size,0,none⟩) TL.size cp:=by rw[aX,od 6 36 rfl (by decide)];exact I.vals 6 Ig
     clear aX
     rw[<-Xm]
     go_simp
    exact⟨fun _ h=>by simp at h,fun _ h=>by simp at h,fun _ _ _=>rfl,fun _=>kB,aZ I.vals 7 _ rfl,fun h=>by simp[jW] at h,fun h=>by simp[jy] at h,fun h=>by simp[jz] at h⟩
   .obtain rfl:=Option.some.inj ho
    have qw:d' 7=true:=aU ⟨7,.data⟩ (by simp) rfl
    have jy:d' 9=false:=no down 9 _ rfl ⟨8,.data⟩ (by simp) rfl hd
    have jz:d' 10=false:=no down 10 _ rfl ⟨9,.data⟩ (by simp) rfl jy
    obtain rfl:=I.w7 qw hd jz
    refine nR (by rfl) 57 (.tmp 37) 141 (by rfl) (.slice (some ⟨w5.heap.size+1,0,none⟩) 2 2) ?_ (by go_simp) VI (by rintro e w' ⟨ao,G,rfl,_⟩;exact⟨_,rfl⟩) ?_
    .rw[od 7 37 rfl (by decide)]
     exact I.vals 7 qw
    rintro u w9 ⟨ao,G,eu,s9,b9⟩
    obtain rfl:=Ending.returned.inj eu
    refine hK _ _ ⟨bH V 8 _,by rw[ha];exact dr 8 38 rfl (by decide) _,?_⟩
    exact⟨fun _ h=>by simp[qw] at h,fun _ h=>by simp[qw] at h,fun _ h=>by simp at h,fun _=>ac kB b9,aZ I.vals 8 _ trivial,fun _=>⟨ao,G,rfl,s9⟩,fun h=>by simp[jy] at h,fun h=>by simp[jz] at h⟩
   .obtain rfl:=Option.some.inj ho
    have jz:d' 10=false:=no down 10 _ rfl ⟨9,.data⟩ (by simp) rfl hd
    have jW:d' 8=true:=aU ⟨8,.data⟩ (by simp) rfl
    obtain⟨ao,G,e8,s8⟩:=I.v8 jW
    have e1:V 1=.slice a1 n1 c1:=I.vals 1 (aU ⟨1,.data⟩ (by simp) rfl)
    refine aR (d:=39) (v:=.agg #[V 1,V 8]) (W':=W') rfl rfl (fun ρ aX=>?_) (hK _ _ ⟨bH V 9 _,by rw[ha];exact dr 9 39 rfl (by decide) _,?_⟩)
    .have tc:ρ (.tmp 31)=.slice a1 n1 c1:=by rw[aX,od 1 31 rfl (by decide)];exact e1
     have q8':ρ (.tmp 38)=.slice ao (n2+TL.size) G:=by rw[aX,od 8 38 rfl (by decide)];exact e8
     rw[e1,e8]
     clear aX
     go_simp
    exact⟨fun a b c f=>I.w0 (by simpa using a) (by simpa using b) (by simpa using c) jz,fun a b c f=>I.w6 (by simpa using a) (by simpa using b) (by simpa using c) jz,fun a b c=>I.w7 (by simpa using a) (by simpa using b) jz,fun _=>I.bel jz,aZ I.vals 9 _ trivial,fun h=>by rw[bh (by decide)];exact I.v8 jW,fun _=>by simp[bH],fun h=>by simp[jz] at h⟩
   .obtain rfl:=Option.some.inj ho
    have bW:=I.bel hd
    have jW:d' 8=true:=aU ⟨8,.chain⟩ (by simp) rfl
    obtain⟨ao,G,e8,s8⟩:=I.v8 jW
    have e1:V 1=.slice a1 n1 c1:=I.vals 1 (aU ⟨1,.phase⟩ (by simp) rfl)
    have e9:=I.v9 (aU ⟨9,.data⟩ (by simp) rfl)
    have BX:=B2.keep bW B2.lt
    refine step_skip (n:=.skip) (W':=(W'.setCell ⟨w.heap.size+1+1,0,none⟩ (V 1)).setCell ⟨w.heap.size+1+1,1,none⟩ (V 8)) rfl rfl (.inl rfl) (fun ρ aX=>?_) (hK _ _ ⟨V,ha,?_⟩)
    .have AC:ρ (.tmp 4)=.pointer (some ⟨w.heap.size+1+1,0,none⟩):=by rw[aX,ua 4 (by decide),MV]
     have q9':ρ (.tmp 39)=.agg #[.slice a1 n1 c1,.slice ao (n2+TL.size) G]:=by rw[aX,od 9 39 rfl (by decide),e9,e1,e8]
     rw[e1,e8]
     have z0:=BX.cell 0
     have z1:=BX.cell 1
     have f0:=BX.free 0
     have f1:=BX.free 1
     have lz:=BX.lt
     clear aX
     go_simp
    have S9:=jB (i:=1) (jB (i:=0) s8 BX (eJ _ _ _ _ _ _) (V 1)) (BX.set 0 (V 1)) (by rw[e1];exact eJ _ _ _ _ _ _) (V 8)
    exact⟨fun _ _ _ h=>by simp at h,fun _ _ _ h=>by simp at h,fun _ _ h=>by simp at h,fun h=>by simp at h,fun k hk=>by
     by_cases e:k=10
     .subst e;trivial
     exact I.vals k (by simpa[e] using hk),fun _=>⟨ao,G,e8,S9⟩,fun _=>e9,fun _=>⟨fZ BX _ _,dt (bel.trans (bW.mono bel.size)) (Nat.le_trans (Nat.le_succ _) (Nat.le_succ _)) _ _⟩⟩
   obtain rfl:=Option.some.inj ho
   refine aR (d:=5) (v:=.int .i64 0) (W':=W') rfl rfl (fun ρ aX=>?_) (hK _ _ ⟨V,?_,?_⟩)
   .have qc:∀v,ρ (.const v)=v:=fun v=>by rw[aX];rfl
    clear aX
    go_simp
   .rw[ha,vX 5 (by decide),L7]
   exact⟨fun a b c f=>I.w0 (by simpa using a) (by simpa using b) (by simpa using c) (by simpa using f),fun a b c f=>I.w6 (by simpa using a) (by simpa using b) (by simpa using c) (by simpa using f),fun a b c=>I.w7 (by simpa using a) (by simpa using b) (by simpa using c),fun a=>I.bel (by simpa using a),fun k hk=>by
    by_cases e:k=11
    .subst e;trivial
    exact I.vals k (by simpa[e] using hk),fun h=>I.v8 (by simpa using h),fun h=>I.v9 (by simpa using h),fun h=>I.fin (by simpa using h)⟩
 have hE:dX d r=aP r:=by unfold dX;rw[if_neg (by simp[h0]),if_pos mz]
 have hD:cU d r=ox:=if_neg (by rw[hE];exact mz)
 rw[hE,hD]
 have hd:decide (aP r=0)=false:=decide_eq_false mz
 clear hE hD
 generalize aP r=E at*
 generalize(⟨(bY r).toArray⟩:ByteArray)=TX at*
 obtain⟨K,s',m',l⟩:=r
 simp only at*
 replace h1:=aa h1
 replace h2:=aa h2
 replace h3:=aa h3
 obtain⟨y0,y1,y2,y3,ly⟩:=B3.c4
 go_enter Tryz.func51,Tryz.ntmps51
 go_wp2_with fail
 generalize World.alloc (World.alloc (World.alloc w _) _) _=w2 at*
 go_at_call 89
 refine(cP _ g S3).mono ?_
 rintro e w4 ⟨rfl,b4⟩
 clear y0 y1 y2 y3 ly
 replace B2:=B2.keep b4 B2.lt
 replace bel:=ac bel b4
 have y0:=B2.cell 0
 have y1:=B2.cell 1
 have f0:=B2.free 0
 have f1:=B2.free 1
 have l2:=B2.lt
 go_wp2_with fail
 have B9:=fZ B2 (.slice none 0 0) (.slice none 0 0)
 have aq:=dt bel (Nat.le_trans (Nat.le_succ _) (Nat.le_succ _)) (.slice none 0 0) (.slice none 0 0)
 have i0:=B9.cell 0
 have i1:=B9.cell 1
 exact bodyPost_ret (v:=.tuple #[.agg #[.slice none 0 0,.slice none 0 0],.int .i64 E]) (by simp[results,Tryz.results51,go_sem,i0,i1]) rfl (wt aq)
def SZ (W:World)(D:Dk)(L:List Rc)(E:Int)(e:Ending)(w':World):Prop:=
 ∃(a1:Option Addr) (n1 c1:Nat) (a2:Option Addr) (n2 c2:Nat) (a3:Option Addr) (n3 G3:Nat) (l:List dK),e=.returned (.tuple #[.agg #[.slice a1 n1 c1,.slice a2 n2 c2],.slice a3 n3 G3,.int .i64 E])/\
  Nc (w'.alloc (.cells #[.slice a1 n1 c1,.slice a2 n2 c2] 27)) w'.heap.size a1 n1 c1 a2 n2 c2 D/\eK (w'.alloc (.cells #[.slice a1 n1 c1,.slice a2 n2 c2] 27)) a3 G3 l/\Hid (n3=l.length)/\Hid (l.map (·.r)=L)/\Below W.heap.size W (w'.alloc (.cells #[.slice a1 n1 c1,.slice a2 n2 c2] 27))
theorem NQ.laid {W w':World}{D:Dk}{L:List Rc}{E:Int}{e:Ending}(h:NQ W D L E e w'):SZ W D L E e w':=by
 obtain⟨a1,a2,a3,n1,n2,c1,c2,n3,G3,l,he,h1,h2,s1,s2,R,hl,b⟩:=h
 exact⟨a1,n1,c1,a2,n2,c2,a3,n3,G3,l,he,⟨ag.laid w' [.slice a1 n1 c1,.slice a2 n2 c2] _ _ rfl,h1,h2,s1.alloc _,s2.alloc _⟩,R.sl.call (newB (Below.refl _ _) _),R.len,hl,newB b _⟩
variable {W:World} {g:Nat} {a1:Option Addr} {n1 c1:Nat} {a2:Option Addr} {n2 c2:Nat} {d:Dk}
theorem JB (ao:Option Addr)(cap:Nat)(C:List Value)(n:Nat)(w:World)(ew:Row w ao C)(fE:n<=cap)(jr:ao=none->cap=0)(hlen:C.length=n*2)(one:∀v∈C,v.oneCell'=true)(hl:n<=1000000000000):
  Calls Tryz.prog 129 #[.slice ao n cap] w fun e w'=>
   ∃v',e=.returned v'/\w'.ownsRow w.heap.size 53 2 v' n C/\Below w.heap.size w w':=by
 obtain⟨i0,hi,bK,bm,bQ⟩:=info_parts xL
 have q:∀(w:World) (a:Option Addr) (n c n' c':Nat),(binOp .eql 22 (.slice a n c) (.slice none n' c')).run Tryz.prog w=.ok (.bool a.isNone) w:=fun w a n c n' c'=>Lib.run_eql_slice_nil w _ _ a n c n' c' Tryz.underlying22
 cases ao with
 |none=>
  obtain rfl:=jr rfl
  obtain rfl:n=0:=by omega
  obtain rfl:C=[]:=List.eq_nil_of_length_eq_zero hlen
  clear hlen
  go_enter Tryz.func129,Tryz.ntmps129
  go_wp2_with fail
  go_ret
  exact⟨_,rfl,World.ownsRow_nil _ _ _ _,Below.refl _ _⟩
 |some ad=>
  have fh:(w.alloc (.cells #[] 53)).ownsRow w.heap.size 53 2 (.slice (some ⟨w.heap.size,0,none⟩) 0 0) 0 []:=
   ⟨rfl,.inr ⟨w.heap.size,0,#[],rfl,Nat.le_refl _,heap_alloc_new w _,Nat.le_refl _,by decide,rfl,rfl⟩⟩
  have fO:=(Below.refl w.heap.size w).alloc (Nat.le_refl _) (Obj.cells #[] 53)
  have hs:=ew.alloc (.cells #[] 53)
  have eS:∀j u,C[j]? =some u->(w.alloc (.cells #[] 53)).cell? (ad.add j)=some u:=by
   intro j u hu
   obtain⟨b',lB,e,_,hc⟩:=hs.at (by intro e;rw[e] at hu;simp at hu)
   obtain rfl:=Option.some.inj e
   rw[Addr.add_lit]
   exact hc j u hu
  have bA:w.heap.size<=(w.alloc (.cells #[] 53)).heap.size:=by simp
  replace hlen:=aa hlen
  clear ew hs jr
  go_enter Tryz.func129,Tryz.ntmps129
  go_wp2_with (at_builtin;refine wpList_append_own_wide _ rfl (.tmp 5) (.tmp 6) 22 rfl w.heap.size 53 i0 (.agg #[.slice none 0 0,.slice none 0 0]) 2 48 Tryz.underlying22 hi bK bm bQ rfl (by decide) _ 0 _ rfl fh ad n cap C rfl hlen.out eS one (by unfold maxLen;omega) (by omega) bA ?_)
  intro v' w1 ez cz _
  have aY:=aG fO fh cz (Nat.le_refl _) bA
  obtain⟨a1,c1,rfl⟩:∃a1 c1,v'=.slice a1 n c1:=by
   rcases ez.2 with⟨rfl,h0⟩| ⟨g,cp,cur,rfl,_⟩
   .subst h0
    exact⟨_,_,rfl⟩
   exact⟨_,_,rfl⟩
  go_wp2_with fail
  go_ret
  exact⟨_,rfl,ez,aY⟩
theorem lk {P:Program}(w:World){ops:Array Oper}{rest:List Oper}{o:Oper}{a:Act}{Q:Exit->Act->World->Prop}(vt:o.guard=none)(s x:Operand)(t:TypeId)
  (ho:o.op=.call {callee:=.builtin .append,args:=#[s,x],argTypes:=#[t,t]})
  (e:TypeId) (i:TypeInfo) (z:Value) (ht:P.underlying t=some (.slice e)) (hi:P.info? e=some i) (hz:i.zero=some z) (J3:z.cells.size=i.size) (dW:0<i.size)
  (b:Addr) (hs:a.eval s=.slice (some b) 0 0)
  (ad:Addr) (m c:Nat) (news:List Value) (hx:a.eval x=.slice (some ad) m c) (hl:news.length=m*i.size) (mb:∀j u,news[j]? =some u->w.cell? (ad.add j)=some u)
  (hm:0<m) (IH:m<=maxLen) (qX:m*i.bytes<=140737488355328)
  (h:∀G L w',ag w' w.heap.size (news++L) e->(∀v∈L,v∈z.cells.toList)->news.length+L.length=G*i.size->m<=G->G<=maxLen->w.grownBy w' none->wpList P ops Q rest (a.put o.dst (.slice (some ⟨w.heap.size,0,none⟩) m G)) w'):wpList P ops Q (o::rest) a w:=by
 refine wpList_plain vt fun K hK=>?_
 have VY:((0+m:Nat):Int)<=9223372036854775807:=by unfold maxLen at IH;omega
 have j5:=run_append_grow (P:=P) w t o.type e i z ht hi hz b 0 0 [] (by simp) (by simp) ad m c news hl mb (by omega) VY (growslice_fits (by omega) (by rw[Nat.zero_add];exact qX))
 have P4:=grownCap_ge w (0+m) 0 e
 have tj:grownCap w (0+m) 0 e<=maxLen:=grownCap_le_maxLen w (0+m) 0 e (by rw[Nat.zero_add];exact IH)
 rw[Nat.zero_add] at j5 P4 tj
 unfold Oper.wp
 simp only[execOp,ho,resolve,invoke,builtin,Sem.run_bind,Sem.run_pure,Result.andThen_ok,List.map_toArray,List.map_cons,List.map_nil,hs,hx,j5]
 refine hK _ _ (h _ (Builtin.zeroCells z.cells (grownCap w m 0 e-m)).toList _ ?_ ?_ ?_ P4 tj ⟨rfl,rfl,rfl,by simp,fun k hk _=>heap_alloc_old w.drew _ hk⟩)
 .unfold ag
  have hn:=heap_alloc_new w.drew (.cells (([]:List Value).toArray++news.toArray++Builtin.zeroCells z.cells (grownCap w m 0 e-m)) e)
  rw[show w.drew.heap.size=w.heap.size from rfl] at hn
  rw[hn]
  congr 2
  apply Array.toList_inj.1
  simp
 .intro v hv
  simp only[Builtin.zeroCells,Array.toList_map,List.mem_map] at hv
  obtain⟨j,_,rfl⟩:=hv
  have hj:j % z.cells.size<z.cells.size:=Nat.mod_lt _ (by omega)
  rw[getElem!_pos z.cells _ hj]
  exact Array.getElem_mem_toList hj
 rw[hl,Array.length_toList,size_zeroCells,J3,<-Nat.add_mul]
 congr 1
 omega
theorem tQ (ad:Addr)(cap:Nat)(C:List Value)(n:Nat)(w:World)(ew:Row w (some ad) C)(hlen:C.length=n*2)(hn:0<n)(hl:n<=1000000000000):
  Calls Tryz.prog 129 #[.slice (some ad) n cap] w fun e w'=>
   ∃g G L,e=.returned (.slice (some ⟨g,0,none⟩) n G)/\ag w' g (C++L) 53/\(∀v∈L,v=.slice none 0 0)/\n<=G/\G<=9223372036854775807/\w.heap.size<=g/\Below w.heap.size w w':=by
 obtain⟨i0,hi,bK,bm,bQ⟩:=info_parts xL
 have q:∀(w:World) (a:Option Addr) (n c n' c':Nat),(binOp .eql 22 (.slice a n c) (.slice none n' c')).run Tryz.prog w=.ok (.bool a.isNone) w:=fun w a n c n' c'=>Lib.run_eql_slice_nil w _ _ a n c n' c' Tryz.underlying22
 have fO:=(Below.refl w.heap.size w).alloc (Nat.le_refl _) (Obj.cells #[] 53)
 have hs:=ew.alloc (.cells #[] 53)
 have eS:∀j u,C[j]? =some u->(w.alloc (.cells #[] 53)).cell? (ad.add j)=some u:=by
  intro j u hu
  obtain⟨b',lB,e,_,hc⟩:=hs.at (by intro e;rw[e] at hu;simp at hu)
  obtain rfl:=Option.some.inj e
  rw[Addr.add_lit]
  exact hc j u hu
 have e1:C.length=n*i0.size:=by rw[bm];exact hlen
 have e2:(Value.agg #[.slice none 0 0,.slice none 0 0]).cells.size=i0.size:=by rw[bm];rfl
 have e3:n*i0.bytes<=140737488355328:=by rw[bQ];omega
 replace hlen:=aa hlen
 replace e1:=aa e1
 replace e2:=aa e2
 clear ew hs
 go_enter Tryz.func129,Tryz.ntmps129
 go_wp2_with (at_builtin;refine lk _ rfl (.tmp 5) (.tmp 6) 22 rfl 53 i0 (.agg #[.slice none 0 0,.slice none 0 0]) Tryz.underlying22 hi bK e2.out (by rw[bm];decide) ⟨w.heap.size,0,none⟩ rfl ad n cap C rfl e1.out eS hn (by unfold maxLen;omega) e3 ?_)
 intro G L w1 B1 hL _ hG pT cz
 have aY:Below w.heap.size w w1:=fO.grown cz (by simp) (fun k h=>by cases h)
 go_wp2_with fail
 go_ret
 refine⟨_,G,L,rfl,B1,?_,hG,by unfold maxLen at pT;exact pT,by simp,aY⟩
 intro v hv
 have:=hL v hv
 simpa[Value.cells] using this
theorem Kx (w:World):Calls Tryz.prog 143 #[.int .u64 1,.int .u64 3] w fun e w'=>e=.returned (.tuple #[.int .u64 0,.int .u64 3])/\w'=w:=by
 go_enter Tryz.func143,Tryz.ntmps143
 go_wp2_with fail
 have e1:bits BinOp.and IntKind.u64 1 4294967295=1:=by kernel_rfl
 have e3:bits BinOp.and IntKind.u64 3 4294967295=3:=by kernel_rfl
 exact bodyPost_ret (v:=.tuple #[.int .u64 0,.int .u64 3]) (by simp[results,Tryz.results143,go_sem,e1,e3];kernel_rfl) rfl ⟨rfl,rfl⟩
theorem Px (w:World):Calls Tryz.prog 115 #[.int .u64 1,.int .u64 3] w fun e w'=>e=.returned (.tuple #[.int .u64 0,.int .u64 3])/\w'=w:=by
 have c:=fun W=>Kx W
 go_enter Tryz.func115,Tryz.ntmps115
 go_wp2_with fail
 go_at_call 143
 refine(c _).mono ?_
 rintro e w2 ⟨rfl,rfl⟩
 go_wp2_with fail
 exact bodyPost_ret (v:=.tuple #[.int .u64 0,.int .u64 3]) (by simp[results,Tryz.results115,go_sem]) rfl ⟨rfl,rfl⟩
theorem Js:(Tryz.prog.info? 3).map (fun i=>(i.zero,i.size,i.bytes))=some (some (.int .i64 0),1,8):=by kernel_rfl
theorem GI:(Tryz.prog.info? 3).map (·.size)=some 1:=by kernel_rfl
theorem MT (b:Nat)(w:World)(B:ag w b [.int .i64 (-1)] 3):
  Calls Tryz.prog 87 #[.slice (some ⟨b,0,none⟩) 1 1,.int .i64 3] w fun e w'=>∃g,e=.returned (.slice (some ⟨g,0,none⟩) 3 3)/\ag w' g [.int .i64 (-1),.int .i64 (-1),.int .i64 (-1)] 3/\w.heap.size<=g/\Below w.heap.size w w':=by
 obtain⟨i0,hi,bK,bm,bQ⟩:=info_parts Js
 have c:=fun W=>Px W
 have lb:=B.lt
 go_enter Tryz.func87,Tryz.ntmps87
 go_wp2_with fail
 go_at_call 115
 refine(c _).mono ?_
 rintro e w2 ⟨rfl,rfl⟩
 go_wp2_with (at_make;refine wpList_make_full _ rfl (.tmp 29) (.tmp 29) 28 rfl w2.heap.size 3 i0 (.int .i64 0) 1 Tryz.underlying28 hi bK bm _ _ _ _ 3 rfl rfl rfl rfl (by rw[bQ];omega) (by unfold maxLen;omega) (Nat.le_refl _) ?_)
 intro w3 own grow
 have bel:Below w2.heap.size w2 w3:=(Below.refl _ _).grown grow (Nat.le_refl _) (fun k h=>by cases h)
 obtain⟨L,hL,BL⟩:=pq own
 have BB:=B.keep bel lb
 clear own grow
 generalize hg:w2.heap.size=g at*
 match L,hL with
 | [u0,u1,u2],_=>
  have jq:∀j v,[Value.int .i64 (-1)][j]? =some v->w3.cell? ((⟨b,0,none⟩:Addr).add j)=some v:=by
   intro j v hv
   rw[Addr.add_lit,Nat.zero_add,BB.cell]
   exact hv
  go_wp2_with (refine wpList_copy_splice rfl (.tmp 31) (.tmp 32) 28 28 rfl 3 Tryz.underlying28 GI _ _ 3 3 1 1 rfl rfl g 0 [u0,u1,u2] 3 BL [.int .i64 (-1)] rfl (fun _=>⟨rfl,_,rfl,jq⟩) (by simp) (by simp[Value.oneCell']) g w2 bel (Nat.le_refl _) ?_)
  intro w4 h4 ay
  have B4:ag w4 g [.int .i64 (-1),u1,u2] 3:=h4.out
  clear h4 jq BL BB bel
  go_wp2_with fail
  refine wp_loop_rounds 3 ?_
  rw[rounds_succ]
  have dZ:∀j v,[Value.int .i64 (-1)][j]? =some v->w4.cell? ((⟨g,0,none⟩:Addr).add j)=some v:=by
   intro j v hv
   rw[Addr.add_lit,Nat.zero_add,B4.cell]
   match j,hv with
   |0,hv=>exact hv
   |j+1,hv=>simp at hv
  go_wp2_with fail
  have VT:ag w4.drew g [.int .i64 (-1),u1,u2] 3:=B4
  have fc:∀v∈[Value.int .i64 (-1)],v.oneCell'=true:=by simp[Value.oneCell']
  have dY:1+[Value.int .i64 (-1)].length<=[Value.int .i64 (-1),u1,u2].length:=by simp
  have kp:[Value.int .i64 (-1)].length=Nat.min 1 2:=by simp
  go_region_law (refine step_copy_splice (by rfl) (.tmp 41) (.tmp 44) 28 28 (by rfl) 3 Tryz.underlying28 GI (some ⟨g,1,none⟩) (some ⟨g,0,none⟩) 2 2 1 3 (by go_simp) (by go_simp) g 1 [.int .i64 (-1),u1,u2] 3 VT [.int .i64 (-1)] kp (fun _=>⟨rfl,_,rfl,dZ⟩) dY fc g w2 (ak ay) (Nat.le_refl _) ?_;intro w5 h5 br)
  all_goals(
   have B5:ag w5 g [.int .i64 (-1),.int .i64 (-1),u2] 3:=h5.out
   clear h5 dZ VT B4 ay fc dY kp
   go_wp2_with fail
   rw[rounds_succ]
   have ij:∀j v,[Value.int .i64 (-1)][j]? =some v->w5.cell? ((⟨g,0,none⟩:Addr).add j)=some v:=by
    intro j v hv
    rw[Addr.add_lit,Nat.zero_add,B5.cell]
    match j,hv with
    |0,hv=>exact hv
    |j+1,hv=>simp at hv
   have fc:∀v∈[Value.int .i64 (-1)],v.oneCell'=true:=by simp[Value.oneCell']
   have dY:2+[Value.int .i64 (-1)].length<=[Value.int .i64 (-1),.int .i64 (-1),u2].length:=by simp
   have kp:[Value.int .i64 (-1)].length=Nat.min 2 1:=by simp
   have Ya:ag w5.drew g [.int .i64 (-1),.int .i64 (-1),u2] 3:=B5
   go_wp2_with fail
   go_region_law (refine step_copy_splice (by rfl) (.tmp 41) (.tmp 44) 28 28 (by rfl) 3 Tryz.underlying28 GI (some ⟨g,2,none⟩) (some ⟨g,0,none⟩) 1 1 2 3 (by go_simp) (by go_simp) g 2 [.int .i64 (-1),.int .i64 (-1),u2] 3 Ya [.int .i64 (-1)] kp (fun _=>⟨rfl,_,rfl,ij⟩) dY fc g w2 (ak br) (Nat.le_refl _) ?_;intro w6 h6 dD)
   all_goals(
    have B6:ag w6 g [.int .i64 (-1),.int .i64 (-1),.int .i64 (-1)] 3:=h6.out
    clear h6 ij Ya B5 br fc dY kp
    go_wp2_with fail
    rw[rounds_succ]
    go_wp2_with fail
    go_ret
    exact⟨g,rfl,B6,by omega,by rw[hg];exact dD⟩))
theorem qJ (w:World):
  Calls Tryz.prog 45 #[] w fun e w'=>∃g,e=.returned (.slice (some ⟨g,0,none⟩) 3 3)/\ag w' g [.int .i64 (-1),.int .i64 (-1),.int .i64 (-1)] 3/\w.heap.size<=g/\Below w.heap.size w w':=by
 have B:=ag.laid w [.int .i64 (-1)] 3 _ rfl
 have bel:=(Below.refl w.heap.size w).alloc (Nat.le_refl _) (.cells #[.int .i64 (-1)] 3)
 have c:=fun W h=>MT w.heap.size W h
 go_enter Tryz.func45,Tryz.ntmps45
 go_wp2_with fail
 go_at_call 87
 refine(c _ B).mono ?_
 rintro e w2 ⟨g,rfl,BG,hg,b2⟩
 go_wp2_with fail
 go_ret
 exact⟨g,rfl,BG,Nat.le_trans bel.size hg,ac bel b2⟩
structure Pw where
 sa:Option Addr
 sn:Nat
 sG:Nat
 a1:Option Addr
 n1:Nat
 c1:Nat
 a2:Option Addr
 n2:Nat
 c2:Nat
 ra:Option Addr
 rn:Nat
 rc:Nat
def Pw.cells (p:Pw)(up:Bool):List Value:=[.slice p.sa p.sn p.sG,.slice p.a1 p.n1 p.c1,.slice p.a2 p.n2 p.c2,.bool up,.slice p.ra p.rn p.rc]
def Pw.val (p:Pw)(up:Bool):Value:=.agg #[.slice p.sa p.sn p.sG,.slice p.a1 p.n1 p.c1,.slice p.a2 p.n2 p.c2,.bool up,.slice p.ra p.rn p.rc]
def ti:Pw:=⟨none,0,0,none,0,0,none,0,0,none,0,0⟩
structure dE (W:World)(p:Pw)(x:Wd):Prop where
 es:p.sn=x.c.length
 e1:p.n1=x.d.safe.length
 e2:p.n2=x.d.wait.length
 er:p.rn=x.rd.length
 s:cu W p.sa p.sG x.c
 s1:Sl W p.a1 p.c1 (byteCells x.d.safe)
 s2:Sl W p.a2 p.c2 (byteCells x.d.wait)
 r:Sl W p.ra p.rc (x.rd.map (Value.int .i64))
theorem dE.keep {W W':World}{p:Pw}{x:Wd}{B:Nat}(h:dE W p x)(hb:Below B W W')(hB:W.heap.size<=B):dE W' p x:=
 ⟨h.es,h.e1,h.e2,h.er,h.s.keep hb hB,h.s1.keep hb hB,h.s2.keep hb hB,h.r.keep hb hB⟩
theorem dE.call {W W':World}{p:Pw}{x:Wd}(h:dE W p x)(hb:Below W.heap.size W W'):dE W' p x:=h.keep hb (Nat.le_refl _)
theorem dE.alloc {W:World}{p:Pw}{x:Wd}(h:dE W p x)(o:Obj):dE (W.alloc o) p x:=h.call ((Below.refl _ _).alloc (Nat.le_refl _) o)
theorem dE.nil (W:World):dE W ti zD:=⟨rfl,rfl,rfl,rfl,cu.none W,Sl.ofNil W,Sl.ofNil W,Sl.ofNil W⟩
theorem Row.offLong {w:World}{ao:Option Addr}{g:Nat}{cs ds:List Value}{t:TypeId}(h:Row w ao cs)(B:ag w g ds t)(hl:ds.length<cs.length):Off g ao:=by
 obtain⟨b,off,rfl,hb,hc⟩:=h.at (by intro e;rw[e] at hl;simp at hl)
 intro ad e
 cases e
 intro e
 have e:b=g:=e
 subst e
 have h0:=hc (cs.length-1) _ (List.getElem?_eq_getElem (by omega))
 rw[B.cell] at h0
 have:=(List.getElem?_eq_some_iff.1 h0).1
 omega
theorem Row.offKind {w:World}{ao:Option Addr}{g:Nat}{cs ds:List Value}{t:TypeId}(h:Row w ao cs)(B:ag w g ds t){i:Nat}{v:Value}(hv:cs[i]? =some v)(hn:v∉ds):Off g ao:=by
 obtain⟨b,off,rfl,hb,hc⟩:=h.at (by intro e;rw[e] at hv;simp at hv)
 intro ad e
 cases e
 intro e
 have e:b=g:=e
 subst e
 have h0:=hc i _ hv
 rw[B.cell] at h0
 exact hn (List.mem_of_getElem? h0)
theorem Row.offBools {w:World}{ao:Option Addr}{g:Nat}{cs:List Value}{t:TypeId}{a1 a2 a3 a4:Option Addr}{n1 n2 n3 n4 c1 c2 c3 c4:Nat}{u b0 b1:Bool}(h:Row w ao cs)(B:ag w g [.slice a1 n1 c1,.slice a2 n2 c2,.slice a3 n3 c3,.bool u,.slice a4 n4 c4] t)(h0:cs[0]? =some (.bool b0))(h1:cs[1]? =some (.bool b1)):Off g ao:=by
 obtain⟨b,off,rfl,hb,hc⟩:=h.at (by intro e;rw[e] at h0;simp at h0)
 intro ad e
 cases e
 intro e
 have e:b=g:=e
 subst e
 have k0:=hc 0 _ h0
 have k1:=hc 1 _ h1
 rw[B.cell] at k0 k1
 match off,k0,k1 with
 |0,k0,_=>simp at k0
 |1,k0,_=>simp at k0
 |2,k0,_=>simp at k0
 |3,_,k1=>simp at k1
 |4,k0,_=>simp at k0
 |n+5,k0,_=>simp at k0
theorem E8 {b:Bk}(h:bP b=0):8<=b.bits.length:=by
 unfold bP at h
 split at h
 .rename_i hu
  split at h
  .rename_i hf
   obtain⟨k1,k2,k3⟩:=unpack_pack hu
   unfold ku at hf
   have sg:=(of_decide_eq_true hf).1
   obtain⟨c,e,e1,_⟩:=Pk k1 0
   rw[k2] at e
   rw[e,List.length_append]
   omega
  cases h
 rename_i hu
 exact absurd h hu
theorem bL.boxW {w w':World}{a:Option Addr}{G g:Nat}{rs:List Lr}{t:TypeId}{a1 a2 a3 a4:Option Addr}{n1 n2 n3 n4 c1 c2 c3 c4:Nat}{u:Bool}(h:bL w a G rs)(hz:az (rs.map Lr.rw)=0)(B:ag w g [.slice a1 n1 c1,.slice a2 n2 c2,.slice a3 n3 c3,.bool u,.slice a4 n4 c4] t)(hg:w.grownBy w' (some g)):bL w' a G rs:=by
 have h4:=bZ hz
 rw[List.length_map] at h4
 have hl:=av Lr.two rs
 refine⟨⟨h.sl.row.off hg (h.sl.row.offLong B (by rw[hl,h4];simp)),h.sl.le,h.sl.max,h.sl.nil⟩,fun r hr=>?_⟩
 have good:=h.good r hr
 have ew:=(jN hz).2 r.rw (List.mem_map.2 ⟨r,hr,rfl⟩)
 refine⟨⟨⟨?_,good.bs.sl.le,good.bs.sl.max,good.bs.sl.nil⟩,fun x hx=>?_⟩,⟨?_,good.hd.le,good.hd.max,good.hd.nil⟩,good.few,good.hfew⟩
 .by_cases hb:r.bs=[]
  .rw[hb];exact .inl rfl
  obtain⟨y,q,hy⟩:=List.exists_cons_of_ne_nil hb
  exact good.bs.sl.row.off hg (good.bs.sl.row.offKind B (i:=0) (v:=.int .i64 y.b.n) (by rw[hy];rfl) (by simp))
 .have gx:=good.bs.good x hx
  have hp:bP x.b=0:=mW (ig ew).2.1 x.b (List.mem_map.2 ⟨x,hx,rfl⟩)
  have h8:=E8 hp
  refine⟨gx.bits.off hg ?_,gx.few⟩
  match hbits:x.b.bits,h8 with
  |b0::b1::q,_=>
   have:=gx.bits.row
   rw[hbits] at this
   exact this.offBools B (b0:=b0) (b1:=b1) rfl rfl
 by_cases hb:r.hd=[]
 .rw[hb];exact .inl rfl
 obtain⟨y,q,hy⟩:=List.exists_cons_of_ne_nil hb
 exact good.hd.row.off hg (good.hd.row.offKind B (i:=0) (v:=.int .i64 y.1) (by rw[hy];rfl) (by simp))
structure jA (P:Nat->Prop)(W:World)(a:Option Addr)(G:Nat)(C:List Rw):Prop where
 ex:∃rs:List Lr,rs.map Lr.rw=C/\bL W a G rs/\∀r∈rs,r.hd≠[]->∀q,P q->Off q r.ha
theorem jA.is {P:Nat->Prop}{W:World}{a:Option Addr}{G:Nat}{C:List Rw}(k:jA P W a G C):cu W a G C:=by
 obtain⟨rs,e,s,_⟩:=k.ex
 exact⟨rs,e,s⟩
theorem jA.call {P:Nat->Prop}{W W':World}{a:Option Addr}{G:Nat}{C:List Rw}(k:jA P W a G C)(hb:Below W.heap.size W W'):jA P W' a G C:=by
 obtain⟨rs,e,s,o⟩:=k.ex
 exact⟨rs,e,s.call hb,o⟩
theorem Fp {W:World}{r:Lr}(g:r.Good W)(aF:r.hd≠[]){q:Nat}(hq:W.heap.size<=q):Off q r.ha:=by
 intro ad ea
 obtain⟨b,off,e2,hb,_⟩:=g.hd.row.at (by intro e;cases hr:r.hd with|nil=>exact aF hr|cons p l=>rw[hr] at e;cases e)
 rw[e2] at ea
 obtain rfl:=Option.some.inj ea
 show b≠q
 omega
theorem cu.old {P:Nat->Prop}{W:World}{a:Option Addr}{G:Nat}{C:List Rw}(k:cu W a G C)(hP:∀q,P q->W.heap.size<=q):jA P W a G C:=by
 obtain⟨rs,e,s⟩:=k.ex
 exact⟨rs,e,s,fun r hr aF q hq=>Fp (s.good r hr) aF (hP q hq)⟩
theorem jA.more {P P':Nat->Prop}{W:World}{a:Option Addr}{G:Nat}{C:List Rw}(k:jA P W a G C)(hP:∀q,P' q->P q\/W.heap.size<=q):jA P' W a G C:=by
 obtain⟨rs,e,s,o⟩:=k.ex
 exact⟨rs,e,s,fun r hr aF q hq=>(hP q hq).elim (o r hr aF q) (Fp (s.good r hr) aF)⟩
theorem eP.off {base:Nat}{P:Nat->Prop}{W:World}{a:Option Addr}{G:Nat}{C:List Rw}(k:eP base W a G C)(hP:∀q,P q->q<base):jA P W a G C:=by
 obtain⟨rs,e,s,l⟩:=k.ex
 exact⟨rs,e,s,fun r hr _ q hq ad ea=>by have:=l r hr ad ea;have:=hP q hq;omega⟩
theorem cu.fresh {P:Nat->Prop}{W:World}{a:Option Addr}{G:Nat}(k:cu W a G dm):jA P W a G dm:=by
 obtain⟨rs,e,s⟩:=k.ex
 refine⟨rs,e,s,fun r hr aF=>absurd ?_ aF⟩
 have hm:r.rw∈dm:=by rw[<-e];exact List.mem_map.2 ⟨r,hr,rfl⟩
 simp only[dm,List.mem_cons,List.not_mem_nil,or_false,or_self] at hm
 have:=congrArg Rw.head hm
 exact this
theorem jA.boxW {P:Nat->Prop}{w w':World}{a:Option Addr}{G g:Nat}{C:List Rw}{t:TypeId}{a1 a2 a3 a4:Option Addr}{n1 n2 n3 n4 c1 c2 c3 c4:Nat}{u:Bool}(k:jA P w a G C)(hz:az C=0)(B:ag w g [.slice a1 n1 c1,.slice a2 n2 c2,.slice a3 n3 c3,.bool u,.slice a4 n4 c4] t)(hg:w.grownBy w' (some g)):jA P w' a G C:=by
 obtain⟨rs,rfl,s,o⟩:=k.ex
 exact⟨rs,rfl,s.boxW hz B hg,o⟩
theorem mF {ys:List Int}{v:Value}(h:∀n,v≠.int .i64 n):v∉ys.map (Value.int .i64):=by
 intro hm
 obtain⟨n,_,e⟩:=List.mem_map.1 hm
 exact h n e.symm
theorem jA.readers {P:Nat->Prop}{h:Nat}{w w':World}{a:Option Addr}{G:Nat}{C:List Rw}{ys:List Int}{t:TypeId}(k:jA P w a G C)(hp:P h)(B:ag w h (ys.map (Value.int .i64)) t)(hg:w.grownBy w' (some h)):jA P w' a G C:=by
 obtain⟨rs,rfl,s,o⟩:=k.ex
 refine⟨rs,rfl,⟨⟨?_,s.sl.le,s.sl.max,s.sl.nil⟩,fun r hr=>?_⟩,o⟩
 .by_cases hr:rs=[]
  .rw[hr];exact .inl rfl
  obtain⟨y,q,hy⟩:=List.exists_cons_of_ne_nil hr
  exact s.sl.row.off hg (s.sl.row.offKind B (i:=0) (v:=.slice y.ba y.bs.length y.bc) (by rw[hy];rfl) (mF (fun _ e=>by cases e)))
 have good:=s.good r hr
 refine⟨⟨⟨?_,good.bs.sl.le,good.bs.sl.max,good.bs.sl.nil⟩,fun x hx=>?_⟩,⟨?_,good.hd.le,good.hd.max,good.hd.nil⟩,good.few,good.hfew⟩
 .by_cases hb:r.bs=[]
  .rw[hb];exact .inl rfl
  obtain⟨y,q,hy⟩:=List.exists_cons_of_ne_nil hb
  exact good.bs.sl.row.off hg (good.bs.sl.row.offKind B (i:=3) (v:=.slice y.a y.b.bits.length y.c) (by rw[hy];rfl) (mF (fun _ e=>by cases e)))
 .have gx:=good.bs.good x hx
  refine⟨?_,gx.few⟩
  by_cases hb:x.b.bits=[]
  .rw[hb];exact⟨.inl rfl,by have:=gx.bits.le;rw[hb] at this;exact this,gx.bits.max,gx.bits.nil⟩
  obtain⟨y,q,hy⟩:=List.exists_cons_of_ne_nil hb
  exact gx.bits.off hg (gx.bits.row.offKind B (i:=0) (v:=.bool y) (by rw[hy];rfl) (mF (fun _ e=>by cases e)))
 by_cases hb:r.hd=[]
 .rw[hb];exact .inl rfl
 exact good.hd.row.off hg (o r hr hb h hp)
theorem dA {w w':World}{a:Option Addr}{cap g:Nat}{l:List UInt8}{ds:List Value}{t:TypeId}(S:Sl w a cap (byteCells l))(B:ag w g ds t)(hk:∀n,Value.int .u8 n∉ds)(hg:w.grownBy w' (some g)):Sl w' a cap (byteCells l):=by
 cases l with
 |nil=>exact⟨.inl rfl,S.le,S.max,S.nil⟩
 |cons b r=>exact S.off hg (S.row.offKind B (i:=0) (v:=.int .u8 b.toNat) rfl (hk _))
theorem uy {w w':World}{a:Option Addr}{cap g:Nat}{l:List Int}{ds:List Value}{t:TypeId}(S:Sl w a cap (l.map (Value.int .i64)))(B:ag w g ds t)(hk:∀n,Value.int .i64 n∉ds)(hg:w.grownBy w' (some g)):Sl w' a cap (l.map (Value.int .i64)):=by
 cases l with
 |nil=>exact⟨.inl rfl,S.le,S.max,S.nil⟩
 |cons b r=>exact S.off hg (S.row.offKind B (i:=0) (v:=.int .i64 b) rfl (hk _))
structure ix (Q:Nat->Prop)(W:World)(g h:Nat)(p:Pw)(ys:List Int)(x:Wd):Prop where
 blk:ag W g (p.cells x.up) 30
 is:dE W p x
 so:jA (fun q=>q=h\/Q q) W p.sa p.sG x.c
 right:dw x=0
 ra:p.ra=some ⟨h,0,none⟩
 rb:ag W h (ys.map (Value.int .i64)) 3
 ry:ys.take 3=x.rd
 rm:3<=p.rc
theorem ix.call {Q:Nat->Prop}{W W':World}{g h:Nat}{p:Pw}{ys:List Int}{x:Wd}(k:ix Q W g h p ys x)(hb:Below W.heap.size W W'):ix Q W' g h p ys x:=
 ⟨k.blk.keep hb k.blk.lt,k.is.call hb,k.so.call hb,k.right,k.ra,k.rb.keep hb k.rb.lt,k.ry,k.rm⟩
theorem i6 {x:Wd}(h:dw x=0):az x.c=0:=by
 obtain⟨_,_,h3,h4,_,_⟩:=fi h
 rw[h4]
 exact fV h3
theorem ix.ne {Q:Nat->Prop}{W:World}{g h:Nat}{p:Pw}{ys:List Int}{x:Wd}(k:ix Q W g h p ys x):g≠h:=by
 intro e
 subst e
 exact absurd (bV k.blk k.rb) (by decide)
theorem ix.wrote {Q:Nat->Prop}{W W':World}{g h:Nat}{p:Pw}{ys:List Int}{x:Wd}{a1 a2 a3 a4:Option Addr}{n1 n2 n3 n4 c1 c2 c3 c4:Nat}{u:Bool}(B:ag W g [.slice a1 n1 c1,.slice a2 n2 c2,.slice a3 n3 c3,.bool u,.slice a4 n4 c4] 30)(hg:W.grownBy W' (some g))(B':ag W' g (p.cells x.up) 30)
  (is:dE W p x) (so:jA (fun q=>q=h\/Q q) W p.sa p.sG x.c) (right:dw x=0) (ra:p.ra=some ⟨h,0,none⟩) (rb:ag W h (ys.map (Value.int .i64)) 3) (ry:ys.take 3=x.rd) (rm:3<=p.rc):ix Q W' g h p ys x:=by
 have hz:=i6 right
 have EX:=so.boxW hz B hg
 refine⟨B',⟨is.es,is.e1,is.e2,is.er,EX.is,dA is.s1 B (by simp) hg,dA is.s2 B (by simp) hg,uy is.r B (by simp) hg⟩,EX,right,ra,?_,ry,rm⟩
 exact rb.grown hg (fun k e=>by
  obtain rfl:=Option.some.inj e
  intro e
  subst e
  exact absurd (bV B rb) (by decide))
theorem ix.reader {Q:Nat->Prop}{W:World}{g h:Nat}{p:Pw}{ys:List Int}{x:Wd}(k:ix Q W g h p ys x)(i:Nat)(v:Int)(hr:dw ⟨x.c,x.d,x.up,x.rd.set i v⟩=0):ix Q (W.setCell ⟨h,i,none⟩ (.int .i64 v)) g h p (ys.set i v) ⟨x.c,x.d,x.up,x.rd.set i v⟩:=by
 have hg:W.grownBy (W.setCell ⟨h,i,none⟩ (.int .i64 v)) (some h):=al (au W (some h)) _ _
 have B:=k.rb
 have EX:=k.so.readers (.inl rfl) B hg
 have Tz:=B.set i (.int .i64 v)
 rw[<-List.map_set] at Tz
 have Az:(ys.set i v).take 3=x.rd.set i v:=by rw[List.take_set,k.ry]
 refine⟨k.blk.other i _ k.ne.symm,⟨k.is.es,k.is.e1,k.is.e2,by rw[List.length_set];exact k.is.er,EX.is,dA k.is.s1 B (fun n=>mF (fun _ e=>by cases e)) hg,dA k.is.s2 B (fun n=>mF (fun _ e=>by cases e)) hg,?_⟩,EX,hr,k.ra,Tz,Az,k.rm⟩
 have xA:=k.is.r
 refine⟨?_,by have:=xA.le;rw[List.length_map] at this⊢;rw[List.length_set];exact this,xA.max,xA.nil⟩
 rw[k.ra]
 refine Tz.row 0 _ (fun j u hu=>?_)
 rw[Nat.zero_add]
 rw[<-Az,List.map_take,List.getElem?_take] at hu
 split at hu
 .exact hu
 cases hu
theorem ix.said {Q:Nat->Prop}{W:World}{g h s i:Nat}{p:Pw}{ys zs:List Int}{x:Wd}{t:TypeId}{v:Int}(k:ix Q W g h p ys x)(hs:Q s)(B:ag W s (zs.map (Value.int .i64)) t)(ht:t≠3)(ht2:t≠30):ix Q (W.setCell ⟨s,i,none⟩ (.int .i64 v)) g h p ys x:=by
 have hg:W.grownBy (W.setCell ⟨s,i,none⟩ (.int .i64 v)) (some s):=al (au W (some s)) _ _
 have EX:=k.so.readers (.inr hs) B hg
 have ns:s≠h:=by
  intro e
  subst e
  exact ht (bV B k.rb)
 have ng:s≠g:=by
  intro e
  subst e
  exact ht2 (bV B k.blk)
 refine⟨k.blk.other i _ ng,⟨k.is.es,k.is.e1,k.is.e2,k.is.er,EX.is,dA k.is.s1 B (fun n=>mF (fun _ e=>by cases e)) hg,dA k.is.s2 B (fun n=>mF (fun _ e=>by cases e)) hg,?_⟩,EX,k.right,k.ra,k.rb.other i _ ns,k.ry,k.rm⟩
 refine k.is.r.off hg ?_
 rw[k.ra]
 intro ad e
 obtain rfl:=Option.some.inj e
 exact fun e=>ns e.symm
theorem ix.more {Q Q':Nat->Prop}{W:World}{g h:Nat}{p:Pw}{ys:List Int}{x:Wd}(k:ix Q W g h p ys x)(hQ:∀q,Q' q->Q q\/W.heap.size<=q):ix Q' W g h p ys x:=
 ⟨k.blk,k.is,k.so.more (fun q hq=>hq.elim (fun e=>.inl (.inl e)) (fun e=>(hQ q e).elim (fun e=>.inl (.inr e)) .inr)),k.right,k.ra,k.rb,k.ry,k.rm⟩
structure gq (g h:Nat)(W W':World):Prop where
 os:W'.os=W.os
 tape:W'.tape=W.tape
 output:W'.output=W.output
 size:W.heap.size<=W'.heap.size
 block:∀k,k<W.heap.size->k≠g->k≠h->W'.heap[k]? =W.heap[k]?
theorem gq.refl (g h:Nat)(W:World):gq g h W W:=⟨rfl,rfl,rfl,Nat.le_refl _,fun _ _ _ _=>rfl⟩
theorem gq.trans {g h h1:Nat}{a b c:World}(k:gq g h a b)(q:gq g h1 b c)(hh:h1=h\/a.heap.size<=h1):gq g h a c:=
 ⟨q.os.trans k.os,q.tape.trans k.tape,q.output.trans k.output,Nat.le_trans k.size q.size,fun j hj XU h2=>(q.block j (Nat.lt_of_lt_of_le hj k.size) XU (by omega)).trans (k.block j hj XU h2)⟩
theorem gq.below {g h:Nat}{a b:World}(k:Below a.heap.size a b):gq g h a b:=⟨k.os,k.tape,k.output,k.size,fun j hj _ _=>k.block j hj⟩
theorem gq.call {g h:Nat}{a b c:World}(k:gq g h a b)(q:Below b.heap.size b c):gq g h a c:=k.trans (gq.below q) (.inl rfl)
theorem gq.box {g h:Nat}{a b:World}(k:a.grownBy b (some g)):gq g h a b:=⟨k.os,k.tape,k.output,k.size,fun j hj h1 _=>k.block j hj (fun e=>h1 (Option.some.inj e))⟩
theorem gq.rds {g h:Nat}{a b:World}(k:a.grownBy b (some h)):gq g h a b:=⟨k.os,k.tape,k.output,k.size,fun j hj _ h1=>k.block j hj (fun e=>h1 (Option.some.inj e))⟩
theorem gq.from {g h base:Nat}{a b:World}(k:gq g h a b)(hg:base<=g)(hh:base<=h)(hb:base<=a.heap.size):Below base a b:=
 ⟨k.os,k.tape,k.output,k.size,fun j hj=>k.block j (by omega) (by omega) (by omega)⟩
theorem ag.gb2 {W W':World}{g h q:Nat}{cs:List Value}{t:TypeId}(B:ag W q cs t)(k:gq g h W W')(hg:q≠g)(hh:q≠h):ag W' q cs t:=
 (k.block q B.lt hg hh).trans B
open Go.RowKit Go.ChangeShapes Go.WideShapes Go.ChangeAt Go.Joins
def D' (z:Int):List Value:=[.int .i64 z]
theorem PK (l:List Int):l.flatMap D'=l.map (Value.int .i64):=by
 induction l with
 |nil=>rfl
 |cons b r ih=>rw[List.flatMap_cons,ih];rfl
theorem H3 {w:World}{a:Option Addr}{cap:Nat}{l:List Int}(h:be D' w a cap l):Sl w a cap (l.map (Value.int .i64)):=by
 obtain⟨h1,h2,h3,h4⟩:=h
 rw[PK] at h1
 exact⟨h1,by rw[List.length_map];exact h2,h3,h4⟩
theorem Fl {H:Type}{enc:TypeId × Value->H}{W:World}(cs:List Value)(x:DataW H × List MemPlace)(m:Nat)(hl:cs.length=1)(h:DataW.trod enc Tryz.prog W 0 (fun _=>true) true m 3 cs=some x)(_:iT 3 x.1):
  ∃y:Int,cs=D' y/\True:=by
 match cs,hl with
 | [c],_=>
  obtain⟨z,m7,_,hw⟩:=DataW.trod_int Tryz.underlying3 h
  simp at m7
  subst m7
  exact⟨z,rfl,trivial⟩
theorem Fh:Tryz.prog.cellsOf 30=5:=by kernel_rfl
theorem Ly:Tryz.prog.cellsOf 22=1:=by kernel_rfl
theorem C4:Tryz.prog.cellsOf 24=1:=by kernel_rfl
theorem Ei:Tryz.prog.cellsOf 28=1:=by kernel_rfl
theorem Cy:Tryz.prog.cellsOf 25=1:=by kernel_rfl
theorem vZ {H:Type}{enc:TypeId × Value->H}{W:World}{r:Reach}{b0:Nat}{v:Value}{d:DataW H}{p:List MemPlace}(hv:Value.okWide Tryz.prog W r b0 30 v)
  (h:DataW.Trod enc Tryz.prog W 0 (fun _=>true) true 30 v d p) (hw:iT 30 d):
  ∃(x:Wd) (q:Pw),v=q.val x.up/\dE W q x/\q.n1+q.n2<=9223372036854775807/\q.sn<=140737488355328/\q.rn<=140737488355328:=by
 obtain⟨cs,rfl,hs⟩:=okWide_struct Tryz.underlying30 hv
 rw[Fh] at hs
 obtain⟨c0,c1,c2,c3,c4,rfl⟩:∃c0 c1 c2 c3 c4,cs=#[c0,c1,c2,c3,c4]:=by
  obtain⟨l⟩:=cs
  match l,hs with
  | [c0,c1,c2,c3,c4],_=>exact⟨c0,c1,c2,c3,c4,rfl⟩
 obtain⟨fuel,hf⟩:=h
 obtain⟨y0,y1,y2,y3,n,hx,_,h0,h1,h2,h3⟩:=trod_struct4 Tryz.underlying30 hf
 simp only[C4,I',tJ,Ei,Value.cells,List.drop_zero,List.drop_succ_cons,List.take_succ_cons,List.take_zero] at h0 h1 h2 h3
 simp only[Prod.mk.injEq] at hx
 obtain⟨rfl,_⟩:=hx
 obtain⟨z0,m0,pS,_,i0⟩:=trod_struct1 Tryz.underlying24 h0
 obtain⟨z1,z2,m1,Lt,_,i1,i2⟩:=trod_struct2 Tryz.underlying27 h1
 simp only[Ly,Cy,List.drop_zero,List.drop_succ_cons,List.take_succ_cons,List.take_zero] at i0 i1 i2
 obtain⟨u,eu,_⟩:=DataW.trod_bool Tryz.underlying4 h2
 obtain⟨a0,n0,k0,e0⟩:=slice_form Tryz.underlying22 i0
 obtain⟨a1,n1,k1,e1⟩:=slice_form Tryz.underlying25 i1
 obtain⟨a2,n2,k2,e2⟩:=slice_form Tryz.underlying25 i2
 obtain⟨a3,n3,k3,e3⟩:=slice_form Tryz.underlying28 h3
 simp at eu e0 e1 e2 e3
 subst eu e0 e1 e2 e3
 subst pS Lt
 have w0:iT 22 z0.1:=fun z hz=>hw z (by simp[DataW.weights,DataW.weightsEach,Tryz.underlying30,Tryz.underlying24,hz])
 have w1:iT 25 z1.1:=fun z hz=>hw z (by simp[DataW.weights,DataW.weightsEach,Tryz.underlying30,Tryz.underlying27,hz])
 have w2:iT 25 z2.1:=fun z hz=>hw z (by simp[DataW.weights,DataW.weightsEach,Tryz.underlying30,Tryz.underlying27,hz])
 have w3:iT 28 y3.1:=fun z hz=>hw z (by simp[DataW.weights,DataW.weightsEach,Tryz.underlying30,hz])
 obtain⟨rs,rfl,sr,gr,rr⟩:=ky (ao:=a0) (n:=n0) (cap:=k0) Lr.cells (fun y=>y.Good W) Tryz.underlying22 Ev (by decide) Lr.two (fun cs x m=>Ns cs x m) i0 w0
 obtain⟨l1,rfl,s1,_,r1⟩:=ky (ao:=a1) (n:=n1) (cap:=k1) vd (fun _=>True) Tryz.underlying25 (by kernel_rfl) (by decide) (fun _=>rfl) (fun cs x m=>zd cs x m) i1 w1
 obtain⟨l2,rfl,s2,_,r2⟩:=ky (ao:=a2) (n:=n2) (cap:=k2) vd (fun _=>True) Tryz.underlying25 (by kernel_rfl) (by decide) (fun _=>rfl) (fun cs x m=>zd cs x m) i2 w2
 obtain⟨l3,rfl,s3,_,r3⟩:=ky (ao:=a3) (n:=n3) (cap:=k3) D' (fun _=>True) Tryz.underlying28 AF (by decide) (fun _=>rfl) (fun cs x m=>Fl cs x m) h3 w3
 rw[QS] at r1 r2
 rw[show Tryz.prog.bytesOf 53=48 by kernel_rfl] at rr
 rw[show Tryz.prog.bytesOf 3=8 by kernel_rfl] at r3
 have t0:=sr.le
 have t1:=s1.le
 have t2:=s2.le
 have t3:=s3.le
 exact⟨⟨rs.map Lr.rw,⟨l1,l2⟩,u,l3⟩,⟨a0,rs.length,k0,a1,l1.length,k1,a2,l2.length,k2,a3,l3.length,k3⟩,rfl,⟨by simp,rfl,rfl,rfl,⟨rs,rfl,⟨sr,gr⟩⟩,x8 s1,x8 s2,H3 s3⟩,by simp only;omega,by simp only;omega,by simp only;omega⟩
end Go.Proofs.YtoonnbhoiocoeaaGreatDoor
