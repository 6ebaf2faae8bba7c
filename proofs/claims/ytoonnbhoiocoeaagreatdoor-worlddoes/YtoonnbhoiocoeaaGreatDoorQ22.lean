/-
  The reference's RecRead: the record of a text, or what is wrong with it.
-/
import Derived.Lib.ParseIntBTie
import Derived.Test.YtoonnbhoiocoeaaGreatDoorQ21
set_option maxHeartbeats 40000000
set_option maxRecDepth 100000
set_option linter.unusedVariables false
namespace Go.Proofs.YtoonnbhoiocoeaaGreatDoor
open Go.RowKit
def P3 (l:List UInt8):ByteArray:=⟨l.toArray⟩
theorem m4 (l:List UInt8):bytes (P3 l)=l:=by simp[bytes,P3]
theorem nF (b:ByteArray):(bytes b).length=b.size:=Array.length_toList
def leftOf:Value->Value->Nat
 | .string b,.bool true=>b.size+1
 |_,_=>0
theorem Ej (s:ByteArray)(w:World)(hg:Gl w)(hs:s.size<=100000):
  Calls Tryz.prog 105 #[.string s,.string ⟨#[32]⟩] w fun e w'=>∃(t r:ByteArray) (m:Bool),e=.returned (.tuple #[.string t,.string r,.bool m])/\sp (bytes s)=bytes t::(if m=true then sp (bytes r) else [])/\t.size<=s.size/\r.size<=s.size/\(m=true->r.size<s.size)/\Below w.heap.size w w':=by
 obtain⟨mx,LF⟩:=hg.max
 refine(Tryz.strings_Cut s ⟨#[32]⟩ mx w (by omega) LF).mono ?_
 rintro e w' ⟨rfl,q,rfl⟩
 have h1:=QZ (bytes s)
 obtain⟨h2,h3,h4⟩:=KC (bytes s)
 rw[nF] at h2 h3 h4
 refine⟨P3 (Lib.cut (bytes s) [32]).1,P3 (Lib.cut (bytes s) [32]).2.1,(Lib.cut (bytes s) [32]).2.2,rfl,?_,?_,?_,?_,bt (Below.refl _ _) q⟩
 .rw[m4,m4]
  exact h1
 .rw[<-nF,m4];exact h2
 .rw[<-nF,m4];exact h3
 intro h
 rw[<-nF,m4];exact h4 h
def Izo:Option Rc->Rc
 |none=>lr
 |some r=>if aP r=0 then r else lr
def Rm:Option Rc->Int
 |none=>1
 |some r=>aP r
theorem E7 (s:ByteArray)(hs:s.size<=60000):dJ s=Izo (hI (sp (bytes s))):=by
 unfold dJ
 rw[if_neg (by omega),qT]
 cases hI (sp (bytes s))<;>rfl
theorem Fy (s:ByteArray)(hs:s.size<=60000):im s=Rm (hI (sp (bytes s))):=by
 unfold im
 rw[if_neg (by omega),qT]
 cases hI (sp (bytes s))<;>rfl
def Tr (R g o:Nat)(s7 v0 v1:Value)(q:Nat)(e0 e1 e2:Int):Nat->Value->Prop
 |0,v=>v=.pointer (some ⟨R,3,none⟩)
 |1,v=>v=v0
 |2,v=>v=s7
 |3,v=>v=.pointer (some ⟨g,o,none⟩)
 |4,v=>v=.int .i64 e0
 |5,v=>v=s7
 |6,v=>v=.pointer (some ⟨g,o+1,none⟩)
 |7,v=>v=.int .i64 e1
 |8,v=>v=s7
 |9,v=>v=.pointer (some ⟨g,o+2,none⟩)
 |10,v=>v=.int .i64 e2
 |11,v=>v=.agg #[.int .i64 e0,.int .i64 e1,.int .i64 e2]
 |12,v=>v=.slice (some ⟨q,0,none⟩) 1 1
 |13,v=>v=v1
 |14,v=>v=.pointer (some ⟨R,3,none⟩)
 |_,_=>True
def sF (Wd Wa w1 wF:World)(d:Nat->Bool):World:=if d 15 then wF else if d 13 then w1 else if d 12 then Wa else Wd
theorem fD (Wd Wa w1 wF:World)(d:Nat->Bool)(i:Nat)(h1:i≠12)(h2:i≠13)(h3:i≠15):sF Wd Wa w1 wF (fun k=>k==i||d k)=sF Wd Wa w1 wF d:=by
 unfold sF
 simp[Ne.symm h1,Ne.symm h2,Ne.symm h3]
def lenOf:Value->Nat
 | .slice _ n _=>n
 |_=>0
theorem K1 (s:ByteArray)(w:World)(hg:Gl w)(hs:s.size<=60000):
  Calls Tryz.prog 95 #[.string s] w fun e w'=>∃a' G,e=.returned (.tuple #[.agg #[.int .i64 (dJ s).k,.int .i64 (dJ s).s,.int .i64 (dJ s).n,.slice a' (dJ s).e.length G],.int .i64 (im s)])/\w'.ownsRow w.heap.size 75 3 (.slice a' (dJ s).e.length G) (dJ s).e.length ((dJ s).e.flatMap ec)/\Below w.heap.size w w':=by
 have BX:=ag.laid w [.int .i64 0,.int .i64 0,.int .i64 0,.slice none 0 0] 73 _ rfl
 have ei:Below w.heap.size w (w.alloc (.cells #[.int .i64 0,.int .i64 0,.int .i64 0,.slice none 0 0] 73)):=(Below.refl _ _).alloc (Nat.le_refl _) _
 have g1:=hg.alloc (.cells #[.int .i64 0,.int .i64 0,.int .i64 0,.slice none 0 0] 73)
 have hR:dJ s=Izo (hI (sp (bytes s))):=E7 s hs
 have hE:im s=Rm (hI (sp (bytes s))):=Fy s hs
 generalize dJ s=PR at*
 generalize im s=PE at*
 obtain⟨i0,hi,bK,bm,bQ⟩:=info_parts Ho
 go_enter Tryz.func95,Tryz.ntmps95
 go_wp2_with fail
 generalize w.alloc _=w1 at*
 go_at_call 105
 refine(Ej s w1 g1 (by omega)).mono ?_
 rintro e w2 ⟨wd,rs,mo,rfl,m5,k1,k2,k3,b2⟩
 have W4:wd.size<=60000:=by omega
 have Jk:rs.size<=60000:=by omega
 have ib:=BX.keep b2 BX.lt
 have am:=ac ei b2
 have gw:=hg.call am
 rw[m5] at hR hE
 clear m5 k1 k2 k3 b2 BX ei g1
 obtain⟨WS,NG⟩:∃WS,WS=if mo=true then sp (bytes rs) else []:=⟨_,rfl⟩
 rw[<-NG] at hR hE
 replace NG:=aa NG
 have jT:bu WS=none->PR=lr/\PE=1:=by
  intro h
  rw[hR,hE]
  simp only[hI,h,Option.bind_none]
  exact⟨rfl,rfl⟩
 replace hR:=aa hR
 replace hE:=aa hE
 go_upto_block 0 with fail
 go_cut [5,6,7,8,9,10] from 19 to 43 (fun s5 s6 s7 s8 s9 s10 wx=>∃(vs:List Int) (ao:Option Addr) (G k:Nat),s7=.slice ao k G/\Hid (k=vs.length)/\k<=60001/\Hid (bu WS=some vs)/\wx.ownsRow w2.heap.size 3 1 (.slice ao k G) k (vs.map (Value.int .i64))/\Below w2.heap.size w2 wx)
 case first=>
  go_wp2_with fail
  go_loopw [5,6,7] (fun s5 s6 s7 wr=>∃(r:ByteArray) (m:Bool) (dn:List (List UInt8)) (vs:List Int) (ao:Option Addr) (G k:Nat),s5=.string r/\s6=.bool m/\s7=.slice ao k G/\Hid (WS=dn++(if m=true then sp (bytes r) else []))/\Hid (bu dn=some vs)/\Hid (k=vs.length)/\k+leftOf (.string r) (.bool m)<=60001/\r.size<=60000/\wr.ownsRow w2.heap.size 3 1 (.slice ao k G) k (vs.map (Value.int .i64))/\Below w2.heap.size w2 wr) (fun s5 s6 _ _=>leftOf s5 s6)
  case atStart=>exact⟨rs,mo,[],[],none,0,0,rfl,rfl,rfl,NG,aa rfl,aa rfl,by cases mo<;>simp[leftOf]<;>omega,Jk,World.ownsRow_nil _ _ _ _,Below.refl _ _⟩
  case round=>
   obtain⟨r,m,dn,vs,ao,G,k,rfl,rfl,rfl,ck,pg,hk,X',hr,own,bel⟩:=hrel
   cases m with
   |false=>
    go_wp2_with fail
    go_meet
    case rel=>exact⟨vs,ao,G,k,rfl,hk,by omega,by
     have:=ck.out
     rw[if_neg (by decide),List.append_nil] at this
     rw[this]
     exact pg,own,bel⟩
   |true=>
    have Ol:Hid (WS=dn++sp (bytes r)):=ck
    clear ck
    have gr:=gw.call bel
    have aal:k+(r.size+1)<=60001:=X'
    go_wp2_with fail
    go_at_call 105
    refine(Ej r wr gr (by omega)).mono ?_
    rintro e w4 ⟨t,r',m',rfl,m5,k1,k2,k3,b4⟩
    have ay:=ac bel b4
    have jR:=dx own b4
    have g4:=gw.call ay
    have sL:dQ (bytes t)=none->PR=lr/\PE=1:=fun h=>jT (by
     rw[Ol.out,m5]
     exact sc _ _ _ h)
    have pj:∀v,dQ (bytes t)=some v->Hid (bu (dn++[bytes t])=some (vs++[v])):=by
     intro v h
     rw[qm _ _ _ pg.out,h]
     exact aa rfl
    have XF:Hid (WS=(dn++[bytes t])++(if m'=true then sp (bytes r') else [])):=by
     have:=Ol.out
     rw[m5] at this
     rw[this]
     simp[Hid]
    have Vf:k+1+leftOf (.string r') (.bool m')<=60001:=by
     cases m'
     .simp[leftOf];omega
     have:=k3 rfl
     simp[leftOf];omega
    have Rf:leftOf (.string r') (.bool m')<leftOf (.string r) (.bool true):=by
     cases m'
     .simp[leftOf]
     have:=k3 rfl
     simp[leftOf];omega
    clear m5 k3 X' Ol jT
    cases jY:Lib.atoiAll t.data.toList with
    |«syntax»=>
     obtain⟨te,pe,he⟩:=g4.syn
     have ye:=aa (sL (by unfold dQ bytes;rw[jY]))
     rw[<-Lib.parseIntB_64] at jY
     replace jY:=aa jY
     clear sL pj
     go_wp2_with fail
     go_at_call 127
     refine(Tryz.strconv_ParseInt_10_at64_syntax t (by omega) jY.out _ _ he (.inr ⟨_,_,rfl⟩)).mono ?_
     rintro e w5 ⟨N,rfl,-,-,b5⟩
     have br:=ac ay b5
     have BB:=ib.keep (br) ib.lt
     have fM:Below w.heap.size w w5:=am.trans ((br).mono am.size)
     obtain⟨rfl,rfl⟩:=ye.out
     obtain⟨r0,r1,r2,r3,-⟩:=BB.c4
     obtain⟨f0,f1,f2,f3⟩:=BB.f4
     have lR:=BB.lt
     go_wp2_with fail
     have B9:=dU BB (.int .i64 0) (.int .i64 0) (.int .i64 0) (.slice none 0 0)
     have aq:=bI fM (Nat.le_refl _) (.int .i64 0) (.int .i64 0) (.int .i64 0) (.slice none 0 0)
     obtain⟨i0,i1,i2,i3,-⟩:=B9.c4
     exact bodyPost_ret (v:=.tuple #[.agg #[.int .i64 0,.int .i64 0,.int .i64 0,.slice none 0 0],.int .i64 1]) (by simp[results,Tryz.results95,go_sem,i0,i1,i2,i3]) rfl ⟨none,0,rfl,World.ownsRow_nil _ _ _ _,aq⟩
    |range=>
     obtain⟨te,pe,he⟩:=g4.rng
     have ye:=aa (sL (by unfold dQ bytes;rw[jY]))
     rw[<-Lib.parseIntB_64] at jY
     replace jY:=aa jY
     clear sL pj
     go_wp2_with fail
     go_at_call 127
     refine(Tryz.strconv_ParseInt_10_at64_range t (by omega) jY.out _ _ he (.inr ⟨_,_,rfl⟩)).mono ?_
     rintro e w5 ⟨N,rfl,-,-,b5⟩
     have br:=ac ay b5
     have BB:=ib.keep (br) ib.lt
     have fM:Below w.heap.size w w5:=am.trans ((br).mono am.size)
     obtain⟨rfl,rfl⟩:=ye.out
     obtain⟨r0,r1,r2,r3,-⟩:=BB.c4
     obtain⟨f0,f1,f2,f3⟩:=BB.f4
     have lR:=BB.lt
     go_wp2_with fail
     have B9:=dU BB (.int .i64 0) (.int .i64 0) (.int .i64 0) (.slice none 0 0)
     have aq:=bI fM (Nat.le_refl _) (.int .i64 0) (.int .i64 0) (.int .i64 0) (.slice none 0 0)
     obtain⟨i0,i1,i2,i3,-⟩:=B9.c4
     exact bodyPost_ret (v:=.tuple #[.agg #[.int .i64 0,.int .i64 0,.int .i64 0,.slice none 0 0],.int .i64 1]) (by simp[results,Tryz.results95,go_sem,i0,i1,i2,i3]) rfl ⟨none,0,rfl,World.ownsRow_nil _ _ _ _,aq⟩
    |ok v=>
     obtain⟨v0,v1⟩:=Lib.atoiAll_bounds jY
     have pr:dQ (bytes t)=if Lib.itoa v=bytes t then some v else none:=by unfold dQ bytes;rw[jY]
     rw[<-Lib.parseIntB_64] at jY
     replace jY:=aa jY
     go_wp2_with fail
     go_at_call 127
     refine(Tryz.strconv_ParseInt_10_at64_ok t (by omega) v jY.out _).mono ?_
     rintro e w5 ⟨rfl,Vi⟩
     have b5:Below w4.heap.size w4 w5:=by
      rcases Vi with rfl| ⟨t,rfl⟩
      .exact Below.refl _ _
      exact Lib.bytesWorld_below _ _ _
     have br:=ac ay b5
     have dM:=dx jR b5
     have g5:=g4.call b5
     clear Vi b5
     go_wp2_with fail
     go_at_call 128
     refine(Tryz.strconv_FormatInt_10 v v0 v1 _ g5.tab).mono ?_
     rintro e w6 ⟨rfl,q,os,We⟩
     have b6:Below w5.heap.size w5 w6:=by rw[We];exact Lib.below_grow _ _ (Nat.le_refl _) _ _
     have dD:=ac br b6
     have d8:=dx dM b6
     clear We b6 br dM g5 jR ay g4
     by_cases heq:(⟨(Lib.itoa v).toArray⟩:ByteArray)=t
     .have KH:=pj v (by rw[pr,if_pos (jU.1 heq)])
      clear pr sL pj
      go_wp2_with (at_builtin;refine bE w6 rfl (.tmp 40) (.tmp 42) 28 rfl w2.heap.size 3 i0 _ 1 8 Tryz.underlying28 hi bK bm bQ rfl (by decide) (.slice ao k G) k _ (by rfl) d8 1 #[.int .i64 v] 3 (by rfl) (by rfl) (by simp[Value.oneCell']) (by decide) (by unfold maxLen;omega) (by omega) dD.size ?_)
      intro v7 w7 jw iP yJ
      have lH:=aG dD d8 iP (Nat.le_refl _) dD.size
      have nt:w7.ownsRow w2.heap.size 3 1 v7 (k+1) ((vs++[v]).map (Value.int .i64)):=by rw[List.map_append];exact jw
      obtain⟨g7,G7,rfl⟩:∃g7 G7,v7=.slice (some ⟨g7,0,none⟩) (k+1) G7:=by
       rcases nt.2 with⟨_,h⟩| ⟨g,cap,cur,h,_⟩
       .omega
       exact⟨_,_,h⟩
      go_wp2_with fail
      go_roundw
      case rel=>exact⟨r',m',dn++[bytes t],vs++[v],some ⟨g7,0,none⟩,G7,k+1,rfl,rfl,rfl,XF,KH,by rw[hk.out,List.length_append];exact aa rfl,Vf,by omega,nt,lH⟩
      case measure=>exact Rf
     have ye:=aa (sL (by rw[pr,if_neg (fun h=>heq (jU.2 h))]))
     have aF:(Lib.itoa v==t.toList)=false:=by
      rw[beq_eq_false_iff_ne]
      intro h
      exact heq (jU.2 (by rw[h];exact ai t))
     clear pr sL pj
     have BB:=ib.keep (dD) ib.lt
     have fM:Below w.heap.size w w6:=am.trans ((dD).mono am.size)
     obtain⟨rfl,rfl⟩:=ye.out
     obtain⟨r0,r1,r2,r3,-⟩:=BB.c4
     obtain⟨f0,f1,f2,f3⟩:=BB.f4
     have lR:=BB.lt
     go_wp2_with fail
     have B9:=dU BB (.int .i64 0) (.int .i64 0) (.int .i64 0) (.slice none 0 0)
     have aq:=bI fM (Nat.le_refl _) (.int .i64 0) (.int .i64 0) (.int .i64 0) (.slice none 0 0)
     obtain⟨i0,i1,i2,i3,-⟩:=B9.c4
     exact bodyPost_ret (v:=.tuple #[.agg #[.int .i64 0,.int .i64 0,.int .i64 0,.slice none 0 0],.int .i64 1]) (by simp[results,Tryz.results95,go_sem,i0,i1,i2,i3]) rfl ⟨none,0,rfl,World.ownsRow_nil _ _ _ _,aq⟩
 case rest=>
  obtain⟨vs,ao,G,k,rfl,hk,Sc,pg,own,tH⟩:=hcut
  clear NG jT
  have bz:hI (bytes wd::WS)=(if bytes wd=fS/\vs.length % 3=0 then some ⟨1,0,0,fq vs⟩ else if bytes wd=jm/\vs.length=2 then some ⟨2,vs.getD 0 0,vs.getD 1 0,[]⟩ else if bytes wd=f'/\vs.length=2 then some ⟨3,vs.getD 0 0,vs.getD 1 0,[]⟩ else if bytes wd=jo/\vs.length=1 then some ⟨4,0,vs.getD 0 0,[]⟩ else none):=by
   simp only[hI,pg.out,Option.bind_some]
  rw[<-hk.out] at bz
  have BR:=ag.laid wc [.int .i64 0,.int .i64 0,.int .i64 0,.slice none 0 0] 73 _ rfl
  have aC:=newB tH (.cells #[.int .i64 0,.int .i64 0,.int .i64 0,.slice none 0 0] 73)
  have eF:=own.alloc (.cells #[.int .i64 0,.int .i64 0,.int .i64 0,.slice none 0 0] 73)
  have lc:w2.heap.size<=wc.heap.size:=tH.size
  go_upto_block 2 with fail
  clear own tH
  generalize wc.heap.size=R at*
  generalize wc.alloc _=w3 at*
  have BB:=ib.keep aC ib.lt
  have fM:Below w.heap.size w w3:=am.trans (aC.mono am.size)
  have lX:=ib.lt
  go_cut [7] from 44 to 116 (fun s7 wx=>∃(r:Rc) (a':Option Addr) (G' ln:Nat),Hid (hI (bytes wd::WS)=some r)/\ln=r.e.length/\ag wx R [.int .i64 r.k,.int .i64 r.s,.int .i64 r.n,.slice a' ln G'] 73/\wx.ownsRow w.heap.size 75 3 (.slice a' ln G') ln (r.e.flatMap ec)/\ag wx w.heap.size [.int .i64 0,.int .i64 0,.int .i64 0,.slice none 0 0] 73/\Below w.heap.size w wx)
  case first=>
   by_cases kB:bytes wd=fS
   .by_cases m3:k % 3=0
    .rw[if_pos ⟨kB,m3⟩] at bz
     have bB:(wd.toList==[98,97,116,99,104])=true:=by rw[ai,kB];rfl
     have bS:(wd.toList==[115,101,97,108])=false:=by rw[ai,kB];rfl
     have bM:(wd.toList==[109,101,114,103,101])=false:=by rw[ai,kB];rfl
     have bD:(wd.toList==[100,114,111,112])=false:=by rw[ai,kB];rfl
     have t3:(k:Int).tmod 3=0:=by rw[Int.tmod_eq_emod_of_nonneg (by omega)];omega
     obtain⟨mm,jX⟩:∃mm,k=mm*3:=⟨k / 3,by omega⟩
     have Qz:=mA mm vs (by rw[<-hk.out];exact jX)
     replace Qz:=aa Qz
     replace bz:=aa bz
     clear hR hE
     have r0:=BR.cell 0
     have f0:=BR.free 0
     have lR:=BR.lt
     have RI:w.heap.size<=R:=Nat.le_trans am.size lc
     have DV:=BR.set 0 (.int .i64 1)
     have QE:=BB.other (g':=R) 0 (.int .i64 1) (by omega)
     have Dd:=ownsRow_setCell_other eF (a:=⟨R,0,none⟩) (mM eF BR (by decide)) (.int .i64 1)
     have Ni:=fM.setCell (p:=⟨R,0,none⟩) RI (.int .i64 1)
     go_wp2_with fail
     clear BR BB eF fM aC r0 f0 lR t3 m3 bB bS bM bD kB
     generalize w3.setCell _ _=w4 at*
     obtain⟨j0,pf⟩:∃i,Tryz.prog.info? 75=some i/\i.zero=some (.agg #[.int .i64 0,.int .i64 0,.int .i64 0])/\i.size=3/\i.bytes=24:=by
      obtain⟨i,h1,h2,h3,h4⟩:=info_parts OQ
      exact⟨i,h1,h2,h3,h4⟩
     obtain⟨EL,Ft,TD,SP⟩:=pf
     obtain⟨g,hg⟩:∃g,0<k->ao=some ⟨g,0,none⟩:=by
      rcases Dd.2 with⟨_,h⟩| ⟨g,cap,cur,h,_⟩
      .exact⟨0,fun h'=>by omega⟩
      simp only[Value.slice.injEq,true_and] at h
      exact⟨g,fun _=>h.1⟩
     have XE:k<=G/\G<=9223372036854775807:=by
      have h:=jS Dd
      have h1:=h.le
      have h2:=h.max
      rw[List.length_map,<-hk.out] at h1
      exact⟨h1,h2⟩
     replace jX:=aa jX
     go_loopw [7] (fun s7 wr=>∃(j kj cj:Nat) (aj:Option Addr) (ae:Option Addr) (Ge:Nat),kj+j*3=k/\s7=.slice aj kj cj/\(0<kj->aj=some ⟨g,j*3,none⟩)/\kj<=cj/\cj<=9223372036854775807/\
       ag wr R [.int .i64 1,.int .i64 0,.int .i64 0,.slice ae j Ge] 73/\wr.ownsRow w.heap.size 75 3 (.slice ae j Ge) j (((List.range j).map (ent vs)).flatMap ec)/\wr.ownsRow w2.heap.size 3 1 (.slice ao k G) k (vs.map (Value.int .i64))/\
       ag wr w.heap.size [.int .i64 0,.int .i64 0,.int .i64 0,.slice none 0 0] 73/\Below w.heap.size w wr) (fun s7 _=>lenOf s7)
     case atStart=>exact⟨0,k,G,ao,none,0,by omega,rfl,by rw[Nat.zero_mul];exact hg,XE.1,XE.2,DV,World.ownsRow_nil _ _ _ _,Dd,QE,Ni⟩
     case round=>
      clear DV QE Dd Ni
      obtain⟨j,kj,cj,aj,ae,Ge,hkj,rfl,YJ,hkc,tj,BR,oE,oI,BB,bel⟩:=hrel
      by_cases hp:0<kj
      .obtain rfl:=YJ hp
       obtain rfl:=hg (by omega)
       have h3k:3<=kj:=by have:=jX.out;omega
       obtain⟨b9,o9,e9,lg,fH⟩:=(jS oI).row.at (by intro h;have:=congrArg List.length h;rw[List.length_map,<-hk.out] at this;simp at this;omega)
       simp only[Option.some.injEq,Addr.mk.injEq,and_true] at e9
       obtain⟨rfl,rfl⟩:=e9
       have hc:∀q,q<k->wr.cell? ⟨g,q,none⟩=some (.int .i64 (vs.getD q 0)):=by
        intro q hq
        have iZ:q<vs.length:=by rw[<-hk.out];exact hq
        have:=fH q (.int .i64 (vs.getD q 0)) (by rw[List.getElem?_map,List.getElem?_eq_getElem iZ];simp[List.getD,iZ])
        rw[Nat.zero_add] at this
        exact this
       have c0:=hc (j*3) (by omega)
       have c1:=hc (j*3+1) (by omega)
       have c2:=hc (j*3+2) (by omega)
       have pL:ent vs j=(vs.getD (j*3) 0,vs.getD (j*3+1) 0,vs.getD (j*3+2) 0):=rfl
       generalize vs.getD (j*3) 0=e0 at*
       generalize vs.getD (j*3+1) 0=e1 at*
       generalize vs.getD (j*3+2) 0=e2 at*
       have hT:((List.range j).map (ent vs)).flatMap ec++[.int .i64 e0,.int .i64 e1,.int .i64 e2]=((List.range (j+1)).map (ent vs)).flatMap ec:=by
        rw[List.range_succ,List.map_append,List.flatMap_append]
        simp[pL,ec]
       have lR:=BR.lt
       have lZ:=BB.lt
       have bD:Below wr.heap.size wr wr.drew:=ak (Below.refl _ _)
       have bA:=newB bD (.cells #[.int .i64 e0,.int .i64 e1,.int .i64 e2] 75)
       have oA:=(dx oE bD).alloc (.cells #[.int .i64 e0,.int .i64 e1,.int .i64 e2] 75)
       obtain⟨g7,G7,w1',j5,ez,cz,-,Hc⟩:=run_append_lies (P:=Tryz.prog) (wr.drew.alloc (.cells #[.int .i64 e0,.int .i64 e1,.int .i64 e2] 75)) 31 31 w.heap.size 75 j0 _ 3 24 Tryz.underlying31 EL Ft TD SP rfl (by decide) (.slice ae j Ge) j _ oA ⟨wr.heap.size,0,none⟩ 1 1 [.int .i64 e0,.int .i64 e1,.int .i64 e2] rfl (World.news_of_block (cs:=#[.int .i64 e0,.int .i64 e1,.int .i64 e2]) (t:=75) (fr:=(0,0)) (heap_alloc_new wr.drew _)) (by simp[Value.oneCell']) (by decide) (by unfold maxLen;omega) (by omega) (Nat.le_trans bel.size bA.size) _ rfl
       have DV:=(BR.keep bA lR).grown cz (fun q e h=>mM oA (BR.keep bA lR) (by decide) (by rw[e,h]))
       have QE:=(BB.keep bA lZ).grown cz (fun q e h=>mM oA (BB.keep bA lZ) (by decide) (by rw[e,h]))
       have Yc:=rj (dx oI bA) cz (xN (dx oI bA) oA (by decide))
       have b1:=aG (ac bel bA) oA cz (Nat.le_refl _) (Nat.le_trans bel.size bA.size)
       have ma:=DV.set 3 (.slice (some ⟨g7,0,none⟩) (j+1) G7)
       have Yt:=QE.other (g':=R) 3 (.slice (some ⟨g7,0,none⟩) (j+1) G7) (by omega)
       have YW:=ownsRow_setCell_other Yc (a:=⟨R,3,none⟩) (mM Yc DV (by decide)) (.slice (some ⟨g7,0,none⟩) (j+1) G7)
       have U':=ownsRow_setCell_other ez (a:=⟨R,3,none⟩) (mM ez DV (by decide)) (.slice (some ⟨g7,0,none⟩) (j+1) G7)
       rw[hT] at U'
       have b2:=b1.setCell (p:=⟨R,3,none⟩) RI (.slice (some ⟨g7,0,none⟩) (j+1) G7)
       have rc:=BR.cell 3
       have XC:=(BR.keep bA lR).cell 3
       have Ie:w1'.frozen? ⟨R,3,none⟩=false:=DV.free 3
       have Z1:=DV.cell 3
       have Ji:=DV.lt
       generalize UU:w1'.setCell ⟨R,3,none⟩ (.slice (some ⟨g7,0,none⟩) (j+1) G7)=wF at*
       replace UU:=aa UU
       replace hT:=aa hT
       go_upto_region 15 with fail
       refine named (fun A0 lu=>?_)
       have a7:A0.eval (.tmp 7)=.slice (some ⟨g,j*3,none⟩) kj cj:=by rw[lu];rfl
       have Ts:A0.eval (.tmp 11)=.pointer (some ⟨R,0,none⟩):=by rw[lu];rfl
       have nj:58+15<=A0.tmps.size:=by rw[lu];simp
       replace lu:=aa lu
       have i0':(0:Int)<kj:=by omega
       have i1':(1:Int)<kj:=by omega
       have i2':(2:Int)<kj:=by omega
       have n1':1<kj:=by omega
       have n2':2<kj:=by omega
       refine mY (by kernel_rfl) (by kernel_rfl) (fun d a' W'=>∃V,a'=pV A0 58 15 V/\(∀i,d i=true->Tr R g (j*3) (.slice (some ⟨g,j*3,none⟩) kj cj) (.slice ae j Ge) (.slice (some ⟨g7,0,none⟩) (j+1) G7) wr.heap.size e0 e1 e2 i (V i))/\W'=sF wr.drew (wr.drew.alloc (.cells #[.int .i64 e0,.int .i64 e1,.int .i64 e2] 75)) w1' wF d) ?step ?fin ?start
       case start=>exact⟨fun i=>A0.eval (.tmp (58+i)),(xE _ _ _).symm,fun _ h=>Bool.noConfusion h,rfl⟩
       case fin=>
        intro d a' W' aU inv
        obtain⟨V,rfl,_,hW⟩:=inv
        have qR:d 15=true:=aU 15 (by decide)
        unfold sF at hW
        rw[if_pos qR] at hW
        subst hW
        rw[<-rt,lu.out]
        simp only[si,Nat.reduceAdd]
        generalize V 0=V0
        generalize V 1=V1
        generalize V 2=V2
        generalize V 3=V3
        generalize V 4=V4
        generalize V 5=V5
        generalize V 6=V6
        generalize V 7=V7
        generalize V 8=V8
        generalize V 9=V9
        generalize V 10=V10
        generalize V 11=V11
        generalize V 12=V12
        generalize V 13=V13
        generalize V 14=V14
        clear a7 Ts nj hc c0 c1 c2 fH rc XC Ie Z1
        have aag:(3:Int)<=kj:=by omega
        go_wp2_with fail
        exact⟨⟨j+1,kj-3,cj-3,_,some ⟨g7,0,none⟩,G7,by omega,rfl,fun h=>by rw[if_neg (by omega),Nat.succ_mul],by omega,by omega,ma,U',YW,Yt,b2⟩,by simp only[lenOf];omega⟩
       case step=>
        intro i o d a' W' tg ho hd aU down inv K' hK
        obtain⟨V,ha,hv,hW⟩:=inv
        have HW:=aa hW
        clear hW
        have key:i=0\/i=1\/i=2\/i=3\/i=4\/i=5\/i=6\/i=7\/i=8\/i=9\/i=10\/i=11\/i=12\/i=13\/i=14\/i=15:=by
         have:i<16:=tg
         omega
        clear tg
        rcases key with rfl|rfl|rfl|rfl|rfl|rfl|rfl|rfl|rfl|rfl|rfl|rfl|rfl|rfl|rfl|rfl
        .obtain rfl:=Option.some.inj ho
         refine aR (d:=58) (v:=.pointer (some ⟨R,3,none⟩)) (W':=W') rfl rfl (fun ρ aX=>?_) (hK _ _ ⟨bH V 0 _,by rw[ha];exact dr 0 58 rfl (by decide) _,aZ hv 0 _ rfl,by rw[HW.out,fD _ _ _ _ _ _ (by decide) (by decide) (by decide)]⟩)
         have MZ:ρ (.tmp 11)=.pointer (some ⟨R,0,none⟩):=by rw[aX,ha];exact(oV 11 (by decide)).trans Ts
         have qc:∀v,ρ (.const v)=v:=fun v=>by rw[aX];rfl
         clear aX
         go_simp
        .obtain rfl:=Option.some.inj ho
         have jp:d 13=false:=no down 13 _ rfl ⟨1,.data⟩ (by simp) rfl hd
         have qR:d 15=false:=no down 15 _ rfl ⟨13,.data⟩ (by simp) rfl jp
         have tu:W'.cell? ⟨R,3,none⟩=some (.slice ae j Ge):=by
          rw[HW.out]
          unfold sF
          rw[qR,jp]
          cases d 12
          .exact rc
          exact XC
         have Po:=World.block_lt_of_cell? _ _ tu
         refine aR (d:=59) (v:=.slice ae j Ge) (W':=W') rfl rfl (fun ρ aX=>?_) (hK _ _ ⟨bH V 1 _,by rw[ha];exact dr 1 59 rfl (by decide) _,aZ hv 1 _ rfl,by rw[HW.out,fD _ _ _ _ _ _ (by decide) (by decide) (by decide)]⟩)
         have q0:ρ (.tmp 58)=.pointer (some ⟨R,3,none⟩):=by rw[aX,ha];exact(iM 0 58 rfl (by decide) nj).trans (hv 0 (aU ⟨0,.data⟩ (by simp) rfl))
         have qc:∀v,ρ (.const v)=v:=fun v=>by rw[aX];rfl
         clear aX
         go_simp
        .obtain rfl:=Option.some.inj ho
         refine aR (d:=60) (v:=.slice (some ⟨g,j*3,none⟩) kj cj) (W':=W') rfl rfl (fun ρ aX=>?_) (hK _ _ ⟨bH V 2 _,by rw[ha];exact dr 2 60 rfl (by decide) _,aZ hv 2 _ rfl,by rw[HW.out,fD _ _ _ _ _ _ (by decide) (by decide) (by decide)]⟩)
         have q7:ρ (.tmp 7)=.slice (some ⟨g,j*3,none⟩) kj cj:=by rw[aX,ha];exact(oV 7 (by decide)).trans a7
         have qc:∀v,ρ (.const v)=v:=fun v=>by rw[aX];rfl
         clear aX
         go_simp
        .obtain rfl:=Option.some.inj ho
         refine aR (d:=61) (v:=.pointer (some ⟨g,j*3,none⟩)) (W':=W') rfl rfl (fun ρ aX=>?_) (hK _ _ ⟨bH V 3 _,by rw[ha];exact dr 3 61 rfl (by decide) _,aZ hv 3 _ rfl,by rw[HW.out,fD _ _ _ _ _ _ (by decide) (by decide) (by decide)]⟩)
         have q2:ρ (.tmp 60)=.slice (some ⟨g,j*3,none⟩) kj cj:=by rw[aX,ha];exact(iM 2 60 rfl (by decide) nj).trans (hv 2 (aU ⟨2,.data⟩ (by simp) rfl))
         have qc:∀v,ρ (.const v)=v:=fun v=>by rw[aX];rfl
         clear aX
         go_simp
        .obtain rfl:=Option.some.inj ho
         have rE:d 11=false:=no down 11 _ rfl ⟨4,.data⟩ (by simp) rfl hd
         have jL:d 12=false:=no down 12 _ rfl ⟨11,.data⟩ (by simp) rfl rE
         have jp:d 13=false:=no down 13 _ rfl ⟨12,.data⟩ (by simp) rfl jL
         have qR:d 15=false:=no down 15 _ rfl ⟨13,.data⟩ (by simp) rfl jp
         have tu:W'.cell? ⟨g,j*3,none⟩=some (.int .i64 e0):=by
          rw[HW.out]
          unfold sF
          rw[qR,jp,jL]
          exact c0
         have Po:=World.block_lt_of_cell? _ _ tu
         refine aR (d:=62) (v:=.int .i64 e0) (W':=W') rfl rfl (fun ρ aX=>?_) (hK _ _ ⟨bH V 4 _,by rw[ha];exact dr 4 62 rfl (by decide) _,aZ hv 4 _ rfl,by rw[HW.out,fD _ _ _ _ _ _ (by decide) (by decide) (by decide)]⟩)
         have q3:ρ (.tmp 61)=.pointer (some ⟨g,j*3,none⟩):=by rw[aX,ha];exact(iM 3 61 rfl (by decide) nj).trans (hv 3 (aU ⟨3,.data⟩ (by simp) rfl))
         have qc:∀v,ρ (.const v)=v:=fun v=>by rw[aX];rfl
         clear aX
         go_simp
        .obtain rfl:=Option.some.inj ho
         refine aR (d:=63) (v:=.slice (some ⟨g,j*3,none⟩) kj cj) (W':=W') rfl rfl (fun ρ aX=>?_) (hK _ _ ⟨bH V 5 _,by rw[ha];exact dr 5 63 rfl (by decide) _,aZ hv 5 _ rfl,by rw[HW.out,fD _ _ _ _ _ _ (by decide) (by decide) (by decide)]⟩)
         have q7:ρ (.tmp 7)=.slice (some ⟨g,j*3,none⟩) kj cj:=by rw[aX,ha];exact(oV 7 (by decide)).trans a7
         have qc:∀v,ρ (.const v)=v:=fun v=>by rw[aX];rfl
         clear aX
         go_simp
        .obtain rfl:=Option.some.inj ho
         refine aR (d:=64) (v:=.pointer (some ⟨g,j*3+1,none⟩)) (W':=W') rfl rfl (fun ρ aX=>?_) (hK _ _ ⟨bH V 6 _,by rw[ha];exact dr 6 64 rfl (by decide) _,aZ hv 6 _ rfl,by rw[HW.out,fD _ _ _ _ _ _ (by decide) (by decide) (by decide)]⟩)
         have q5:ρ (.tmp 63)=.slice (some ⟨g,j*3,none⟩) kj cj:=by rw[aX,ha];exact(iM 5 63 rfl (by decide) nj).trans (hv 5 (aU ⟨5,.data⟩ (by simp) rfl))
         have qc:∀v,ρ (.const v)=v:=fun v=>by rw[aX];rfl
         clear aX
         go_simp
        .obtain rfl:=Option.some.inj ho
         have rE:d 11=false:=no down 11 _ rfl ⟨7,.data⟩ (by simp) rfl hd
         have jL:d 12=false:=no down 12 _ rfl ⟨11,.data⟩ (by simp) rfl rE
         have jp:d 13=false:=no down 13 _ rfl ⟨12,.data⟩ (by simp) rfl jL
         have qR:d 15=false:=no down 15 _ rfl ⟨13,.data⟩ (by simp) rfl jp
         have tu:W'.cell? ⟨g,j*3+1,none⟩=some (.int .i64 e1):=by
          rw[HW.out]
          unfold sF
          rw[qR,jp,jL]
          exact c1
         have Po:=World.block_lt_of_cell? _ _ tu
         refine aR (d:=65) (v:=.int .i64 e1) (W':=W') rfl rfl (fun ρ aX=>?_) (hK _ _ ⟨bH V 7 _,by rw[ha];exact dr 7 65 rfl (by decide) _,aZ hv 7 _ rfl,by rw[HW.out,fD _ _ _ _ _ _ (by decide) (by decide) (by decide)]⟩)
         have q6:ρ (.tmp 64)=.pointer (some ⟨g,j*3+1,none⟩):=by rw[aX,ha];exact(iM 6 64 rfl (by decide) nj).trans (hv 6 (aU ⟨6,.data⟩ (by simp) rfl))
         have qc:∀v,ρ (.const v)=v:=fun v=>by rw[aX];rfl
         clear aX
         go_simp
        .obtain rfl:=Option.some.inj ho
         refine aR (d:=66) (v:=.slice (some ⟨g,j*3,none⟩) kj cj) (W':=W') rfl rfl (fun ρ aX=>?_) (hK _ _ ⟨bH V 8 _,by rw[ha];exact dr 8 66 rfl (by decide) _,aZ hv 8 _ rfl,by rw[HW.out,fD _ _ _ _ _ _ (by decide) (by decide) (by decide)]⟩)
         have q7:ρ (.tmp 7)=.slice (some ⟨g,j*3,none⟩) kj cj:=by rw[aX,ha];exact(oV 7 (by decide)).trans a7
         have qc:∀v,ρ (.const v)=v:=fun v=>by rw[aX];rfl
         clear aX
         go_simp
        .obtain rfl:=Option.some.inj ho
         refine aR (d:=67) (v:=.pointer (some ⟨g,j*3+2,none⟩)) (W':=W') rfl rfl (fun ρ aX=>?_) (hK _ _ ⟨bH V 9 _,by rw[ha];exact dr 9 67 rfl (by decide) _,aZ hv 9 _ rfl,by rw[HW.out,fD _ _ _ _ _ _ (by decide) (by decide) (by decide)]⟩)
         have q8:ρ (.tmp 66)=.slice (some ⟨g,j*3,none⟩) kj cj:=by rw[aX,ha];exact(iM 8 66 rfl (by decide) nj).trans (hv 8 (aU ⟨8,.data⟩ (by simp) rfl))
         have qc:∀v,ρ (.const v)=v:=fun v=>by rw[aX];rfl
         clear aX
         go_simp
        .obtain rfl:=Option.some.inj ho
         have rE:d 11=false:=no down 11 _ rfl ⟨10,.data⟩ (by simp) rfl hd
         have jL:d 12=false:=no down 12 _ rfl ⟨11,.data⟩ (by simp) rfl rE
         have jp:d 13=false:=no down 13 _ rfl ⟨12,.data⟩ (by simp) rfl jL
         have qR:d 15=false:=no down 15 _ rfl ⟨13,.data⟩ (by simp) rfl jp
         have tu:W'.cell? ⟨g,j*3+2,none⟩=some (.int .i64 e2):=by
          rw[HW.out]
          unfold sF
          rw[qR,jp,jL]
          exact c2
         have Po:=World.block_lt_of_cell? _ _ tu
         refine aR (d:=68) (v:=.int .i64 e2) (W':=W') rfl rfl (fun ρ aX=>?_) (hK _ _ ⟨bH V 10 _,by rw[ha];exact dr 10 68 rfl (by decide) _,aZ hv 10 _ rfl,by rw[HW.out,fD _ _ _ _ _ _ (by decide) (by decide) (by decide)]⟩)
         have q9:ρ (.tmp 67)=.pointer (some ⟨g,j*3+2,none⟩):=by rw[aX,ha];exact(iM 9 67 rfl (by decide) nj).trans (hv 9 (aU ⟨9,.data⟩ (by simp) rfl))
         have qc:∀v,ρ (.const v)=v:=fun v=>by rw[aX];rfl
         clear aX
         go_simp
        .obtain rfl:=Option.some.inj ho
         refine aR (d:=69) (v:=.agg #[.int .i64 e0,.int .i64 e1,.int .i64 e2]) (W':=W') rfl rfl (fun ρ aX=>?_) (hK _ _ ⟨bH V 11 _,by rw[ha];exact dr 11 69 rfl (by decide) _,aZ hv 11 _ rfl,by rw[HW.out,fD _ _ _ _ _ _ (by decide) (by decide) (by decide)]⟩)
         have q4:ρ (.tmp 62)=.int .i64 e0:=by rw[aX,ha];exact(iM 4 62 rfl (by decide) nj).trans (hv 4 (aU ⟨4,.data⟩ (by simp) rfl))
         have q7:ρ (.tmp 65)=.int .i64 e1:=by rw[aX,ha];exact(iM 7 65 rfl (by decide) nj).trans (hv 7 (aU ⟨7,.data⟩ (by simp) rfl))
         have Q7:ρ (.tmp 68)=.int .i64 e2:=by rw[aX,ha];exact(iM 10 68 rfl (by decide) nj).trans (hv 10 (aU ⟨10,.data⟩ (by simp) rfl))
         have qc:∀v,ρ (.const v)=v:=fun v=>by rw[aX];rfl
         clear aX
         go_simp
        .obtain rfl:=Option.some.inj ho
         have jp:d 13=false:=no down 13 _ rfl ⟨12,.data⟩ (by simp) rfl hd
         have qR:d 15=false:=no down 15 _ rfl ⟨13,.data⟩ (by simp) rfl jp
         obtain rfl:W'=wr.drew:=by
          rw[HW.out]
          unfold sF
          rw[qR,jp,hd]
          rfl
         refine aR (d:=70) (v:=.slice (some ⟨wr.heap.size,0,none⟩) 1 1) (W':=wr.drew.alloc (.cells #[.int .i64 e0,.int .i64 e1,.int .i64 e2] 75)) rfl rfl (fun ρ aX=>?_) (hK _ _ ⟨bH V 12 _,by rw[ha];exact dr 12 70 rfl (by decide) _,aZ hv 12 _ rfl,by unfold sF;simp[jp,qR]⟩)
         have MZ:ρ (.tmp 69)=.agg #[.int .i64 e0,.int .i64 e1,.int .i64 e2]:=by rw[aX,ha];exact(iM 11 69 rfl (by decide) nj).trans (hv 11 (aU ⟨11,.data⟩ (by simp) rfl))
         have qc:∀v,ρ (.const v)=v:=fun v=>by rw[aX];rfl
         clear aX
         go_simp
        .obtain rfl:=Option.some.inj ho
         have qR:d 15=false:=no down 15 _ rfl ⟨13,.data⟩ (by simp) rfl hd
         have jL:d 12=true:=aU ⟨12,.data⟩ (by simp) rfl
         obtain rfl:W'=wr.drew.alloc (.cells #[.int .i64 e0,.int .i64 e1,.int .i64 e2] 75):=by
          rw[HW.out]
          unfold sF
          rw[qR,hd,jL]
          rfl
         have q1:a'.eval (.tmp 59)=.slice ae j Ge:=by rw[ha];exact(iM 1 59 rfl (by decide) nj).trans (hv 1 (aU ⟨1,.data⟩ (by simp) rfl))
         have Qu:a'.eval (.tmp 70)=.slice (some ⟨wr.heap.size,0,none⟩) 1 1:=by rw[ha];exact(iM 12 70 rfl (by decide) nj).trans (hv 12 (aU ⟨12,.data⟩ (by simp) rfl))
         rw[if_pos (by rfl)]
         refine Lib.wp_append_run _ (.tmp 59) (.tmp 70) _ _ rfl (.slice ae j Ge) (.slice (some ⟨wr.heap.size,0,none⟩) 1 1) q1 Qu _ _ j5 ?_
         exact hK _ _ ⟨bH V 13 _,by rw[ha];exact dr 13 71 rfl (by decide) _,aZ hv 13 _ rfl,by unfold sF;simp[qR]⟩
        .obtain rfl:=Option.some.inj ho
         refine aR (d:=72) (v:=.pointer (some ⟨R,3,none⟩)) (W':=W') rfl rfl (fun ρ aX=>?_) (hK _ _ ⟨bH V 14 _,by rw[ha];exact dr 14 72 rfl (by decide) _,aZ hv 14 _ rfl,by rw[HW.out,fD _ _ _ _ _ _ (by decide) (by decide) (by decide)]⟩)
         have MZ:ρ (.tmp 11)=.pointer (some ⟨R,0,none⟩):=by rw[aX,ha];exact(oV 11 (by decide)).trans Ts
         have qc:∀v,ρ (.const v)=v:=fun v=>by rw[aX];rfl
         clear aX
         go_simp
        obtain rfl:=Option.some.inj ho
        have jp:d 13=true:=aU ⟨13,.data⟩ (by simp) rfl
        obtain rfl:W'=w1':=by
         rw[HW.out]
         unfold sF
         rw[hd,jp]
         rfl
        refine step_skip (n:=.skip) (W':=wF) rfl rfl (.inl rfl) (fun ρ aX=>?_) (hK _ _ ⟨V,ha,fun k hk=>by
         by_cases e:k=15
         .subst e;trivial
         exact hv k (by simpa[e] using hk),by unfold sF;simp⟩)
        have q13:ρ (.tmp 71)=.slice (some ⟨g7,0,none⟩) (j+1) G7:=by rw[aX,ha];exact(iM 13 71 rfl (by decide) nj).trans (hv 13 (aU ⟨13,.data⟩ (by simp) rfl))
        have q14:ρ (.tmp 72)=.pointer (some ⟨R,3,none⟩):=by rw[aX,ha];exact(iM 14 72 rfl (by decide) nj).trans (hv 14 (aU ⟨14,.data⟩ (by simp) rfl))
        clear aX
        rw[<-UU.out]
        go_simp
      obtain rfl:kj=0:=by omega
      have TN:j=mm:=by have:=jX.out;omega
      subst TN
      rw[Qz.out] at oE
      have eG:j=(fq vs).length:=by rw[<-Qz.out];simp
      go_wp2_with fail
      go_meet
      case rel=>exact⟨⟨1,0,0,fq vs⟩,ae,Ge,j,bz,eG,BR,oE,BB,bel⟩
    rw[if_neg (fun h=>m3 h.2),if_neg (fun h=>by rw[kB] at h;exact absurd h.1 (by decide)),if_neg (fun h=>by rw[kB] at h;exact absurd h.1 (by decide)),if_neg (fun h=>by rw[kB] at h;exact absurd h.1 (by decide))] at bz
    have m3':¬(k:Int).tmod 3=0:=by rw[Int.tmod_eq_emod_of_nonneg (by omega)];omega
    have bB:(wd.toList==[98,97,116,99,104])=true:=by rw[ai,kB];rfl
    have bS:(wd.toList==[115,101,97,108])=false:=by rw[ai,kB];rfl
    have bM:(wd.toList==[109,101,114,103,101])=false:=by rw[ai,kB];rfl
    have bD:(wd.toList==[100,114,111,112])=false:=by rw[ai,kB];rfl
    obtain⟨rfl,rfl⟩:PR=lr/\PE=1:=by rw[hR.out,hE.out,bz];exact⟨rfl,rfl⟩
    clear bz hR hE
    obtain⟨r0,r1,r2,r3,-⟩:=BB.c4
    obtain⟨f0,f1,f2,f3⟩:=BB.f4
    have lR:=BB.lt
    go_wp2_with fail
    have B9:=dU BB (.int .i64 0) (.int .i64 0) (.int .i64 0) (.slice none 0 0)
    have aq:=bI fM (Nat.le_refl _) (.int .i64 0) (.int .i64 0) (.int .i64 0) (.slice none 0 0)
    obtain⟨i0,i1,i2,i3,-⟩:=B9.c4
    exact bodyPost_ret (v:=.tuple #[.agg #[.int .i64 0,.int .i64 0,.int .i64 0,.slice none 0 0],.int .i64 1]) (by simp[results,Tryz.results95,go_sem,i0,i1,i2,i3]) rfl ⟨none,0,rfl,World.ownsRow_nil _ _ _ _,aq⟩
   rw[if_neg (fun h=>kB h.1)] at bz
   by_cases kS:bytes wd=jm
   .by_cases mg:k=2
    .subst mg
     rw[if_pos ⟨kS,rfl⟩] at bz
     obtain⟨v0,v1,rfl⟩:∃v0 v1,vs=[v0,v1]:=by
      match vs,hk.out with
      | [a,b],_=>exact⟨a,b,rfl⟩
     have bB:(wd.toList==[98,97,116,99,104])=false:=by rw[ai,kS];rfl
     have bS:(wd.toList==[115,101,97,108])=true:=by rw[ai,kS];rfl
     have bM:(wd.toList==[109,101,114,103,101])=false:=by rw[ai,kS];rfl
     have bD:(wd.toList==[100,114,111,112])=false:=by rw[ai,kS];rfl
     replace bz:=aa bz
     obtain⟨gv,ov,rfl,Yk,rN⟩:=(jS eF).row.at (by simp)
     have n0:=rN 0 _ rfl
     have n1:=rN 1 _ rfl
     simp only[Nat.add_zero] at n0
     obtain⟨r0,r1,r2,r3,-⟩:=BR.c4
     obtain⟨f0,f1,f2,f3⟩:=BR.f4
     have lR:=BR.lt
     clear rN
     have Tt:¬gv=R:=fun h=>mM eF BR (by decide) (by rw[h];rfl)
     have Xl:¬R=gv:=fun h=>Tt h.symm
     go_upto_region 18 with fail
     go_region_held3 (fun w'=>w'.cell? ⟨gv,ov,none⟩=some (.int .i64 v0)/\w'.cell? ⟨gv,ov+1,none⟩=some (.int .i64 v1)) (go_keep) (fail)
     all_goals go_wp2_with fail
     all_goals go_meet
     case rel=>
      exact⟨⟨2,v0,v1,[]⟩,none,0,0,bz,rfl,dU BR (.int .i64 2) (.int .i64 v0) (.int .i64 v1) (.slice none 0 0),World.ownsRow_nil _ _ _ _,(((BB.other 0 _ (by omega)).other 1 _ (by omega)).other 2 _ (by omega)).other 3 _ (by omega),bI (ak fM) (Nat.le_trans am.size lc) (.int .i64 2) (.int .i64 v0) (.int .i64 v1) (.slice none 0 0)⟩
    rw[if_neg (fun h=>mg h.2),if_neg (fun h=>by rw[kS] at h;exact absurd h.1 (by decide)),if_neg (fun h=>by rw[kS] at h;exact absurd h.1 (by decide))] at bz
    have WH:¬(k:Int)=2:=by omega
    have bB:(wd.toList==[98,97,116,99,104])=false:=by rw[ai,kS];rfl
    have bS:(wd.toList==[115,101,97,108])=true:=by rw[ai,kS];rfl
    have bM:(wd.toList==[109,101,114,103,101])=false:=by rw[ai,kS];rfl
    have bD:(wd.toList==[100,114,111,112])=false:=by rw[ai,kS];rfl
    obtain⟨rfl,rfl⟩:PR=lr/\PE=1:=by rw[hR.out,hE.out,bz];exact⟨rfl,rfl⟩
    clear bz hR hE
    obtain⟨r0,r1,r2,r3,-⟩:=BB.c4
    obtain⟨f0,f1,f2,f3⟩:=BB.f4
    have lR:=BB.lt
    go_wp2_with fail
    have B9:=dU BB (.int .i64 0) (.int .i64 0) (.int .i64 0) (.slice none 0 0)
    have aq:=bI fM (Nat.le_refl _) (.int .i64 0) (.int .i64 0) (.int .i64 0) (.slice none 0 0)
    obtain⟨i0,i1,i2,i3,-⟩:=B9.c4
    exact bodyPost_ret (v:=.tuple #[.agg #[.int .i64 0,.int .i64 0,.int .i64 0,.slice none 0 0],.int .i64 1]) (by simp[results,Tryz.results95,go_sem,i0,i1,i2,i3]) rfl ⟨none,0,rfl,World.ownsRow_nil _ _ _ _,aq⟩
   rw[if_neg (fun h=>kS h.1)] at bz
   by_cases kM:bytes wd=f'
   .by_cases mg:k=2
    .subst mg
     rw[if_pos ⟨kM,rfl⟩] at bz
     obtain⟨v0,v1,rfl⟩:∃v0 v1,vs=[v0,v1]:=by
      match vs,hk.out with
      | [a,b],_=>exact⟨a,b,rfl⟩
     have bB:(wd.toList==[98,97,116,99,104])=false:=by rw[ai,kM];rfl
     have bS:(wd.toList==[115,101,97,108])=false:=by rw[ai,kM];rfl
     have bM:(wd.toList==[109,101,114,103,101])=true:=by rw[ai,kM];rfl
     have bD:(wd.toList==[100,114,111,112])=false:=by rw[ai,kM];rfl
     replace bz:=aa bz
     obtain⟨gv,ov,rfl,Yk,rN⟩:=(jS eF).row.at (by simp)
     have n0:=rN 0 _ rfl
     have n1:=rN 1 _ rfl
     simp only[Nat.add_zero] at n0
     obtain⟨r0,r1,r2,r3,-⟩:=BR.c4
     obtain⟨f0,f1,f2,f3⟩:=BR.f4
     have lR:=BR.lt
     clear rN
     have Tt:¬gv=R:=fun h=>mM eF BR (by decide) (by rw[h];rfl)
     have Xl:¬R=gv:=fun h=>Tt h.symm
     go_upto_region 20 with fail
     go_region_held3 (fun w'=>w'.cell? ⟨gv,ov,none⟩=some (.int .i64 v0)/\w'.cell? ⟨gv,ov+1,none⟩=some (.int .i64 v1)) (go_keep) (fail)
     all_goals go_wp2_with fail
     all_goals go_meet
     case rel=>
      exact⟨⟨3,v0,v1,[]⟩,none,0,0,bz,rfl,dU BR (.int .i64 3) (.int .i64 v0) (.int .i64 v1) (.slice none 0 0),World.ownsRow_nil _ _ _ _,(((BB.other 0 _ (by omega)).other 1 _ (by omega)).other 2 _ (by omega)).other 3 _ (by omega),bI (ak fM) (Nat.le_trans am.size lc) (.int .i64 3) (.int .i64 v0) (.int .i64 v1) (.slice none 0 0)⟩
    rw[if_neg (fun h=>mg h.2),if_neg (fun h=>by rw[kM] at h;exact absurd h.1 (by decide))] at bz
    have WH:¬(k:Int)=2:=by omega
    have bB:(wd.toList==[98,97,116,99,104])=false:=by rw[ai,kM];rfl
    have bS:(wd.toList==[115,101,97,108])=false:=by rw[ai,kM];rfl
    have bM:(wd.toList==[109,101,114,103,101])=true:=by rw[ai,kM];rfl
    have bD:(wd.toList==[100,114,111,112])=false:=by rw[ai,kM];rfl
    obtain⟨rfl,rfl⟩:PR=lr/\PE=1:=by rw[hR.out,hE.out,bz];exact⟨rfl,rfl⟩
    clear bz hR hE
    obtain⟨r0,r1,r2,r3,-⟩:=BB.c4
    obtain⟨f0,f1,f2,f3⟩:=BB.f4
    have lR:=BB.lt
    go_wp2_with fail
    have B9:=dU BB (.int .i64 0) (.int .i64 0) (.int .i64 0) (.slice none 0 0)
    have aq:=bI fM (Nat.le_refl _) (.int .i64 0) (.int .i64 0) (.int .i64 0) (.slice none 0 0)
    obtain⟨i0,i1,i2,i3,-⟩:=B9.c4
    exact bodyPost_ret (v:=.tuple #[.agg #[.int .i64 0,.int .i64 0,.int .i64 0,.slice none 0 0],.int .i64 1]) (by simp[results,Tryz.results95,go_sem,i0,i1,i2,i3]) rfl ⟨none,0,rfl,World.ownsRow_nil _ _ _ _,aq⟩
   rw[if_neg (fun h=>kM h.1)] at bz
   by_cases kD:bytes wd=jo
   .by_cases CF:k=1
    .subst CF
     rw[if_pos ⟨kD,rfl⟩] at bz
     obtain⟨v0,rfl⟩:∃v0,vs=[v0]:=by
      match vs,hk.out with
      | [a],_=>exact⟨a,rfl⟩
     have bB:(wd.toList==[98,97,116,99,104])=false:=by rw[ai,kD];rfl
     have bS:(wd.toList==[115,101,97,108])=false:=by rw[ai,kD];rfl
     have bM:(wd.toList==[109,101,114,103,101])=false:=by rw[ai,kD];rfl
     have bD:(wd.toList==[100,114,111,112])=true:=by rw[ai,kD];rfl
     replace bz:=aa bz
     obtain⟨gv,ov,rfl,Yk,rN⟩:=(jS eF).row.at (by simp)
     have n0:=rN 0 _ rfl
     simp only[Nat.add_zero] at n0
     obtain⟨r0,r1,r2,r3,-⟩:=BR.c4
     obtain⟨f0,f1,f2,f3⟩:=BR.f4
     have lR:=BR.lt
     clear rN
     go_wp2_with fail
     go_meet
     case rel=>
      exact⟨⟨4,0,v0,[]⟩,none,0,0,bz,rfl,dU BR (.int .i64 4) (.int .i64 0) (.int .i64 v0) (.slice none 0 0),World.ownsRow_nil _ _ _ _,(((BB.other 0 _ (by omega)).other 1 _ (by omega)).other 2 _ (by omega)).other 3 _ (by omega),bI fM (Nat.le_trans am.size lc) (.int .i64 4) (.int .i64 0) (.int .i64 v0) (.slice none 0 0)⟩
    rw[if_neg (fun h=>CF h.2)] at bz
    have aaz:¬(k:Int)=1:=by omega
    have bB:(wd.toList==[98,97,116,99,104])=false:=by rw[ai,kD];rfl
    have bS:(wd.toList==[115,101,97,108])=false:=by rw[ai,kD];rfl
    have bM:(wd.toList==[109,101,114,103,101])=false:=by rw[ai,kD];rfl
    have bD:(wd.toList==[100,114,111,112])=true:=by rw[ai,kD];rfl
    obtain⟨rfl,rfl⟩:PR=lr/\PE=1:=by rw[hR.out,hE.out,bz];exact⟨rfl,rfl⟩
    clear bz hR hE
    obtain⟨r0,r1,r2,r3,-⟩:=BB.c4
    obtain⟨f0,f1,f2,f3⟩:=BB.f4
    have lR:=BB.lt
    go_wp2_with fail
    have B9:=dU BB (.int .i64 0) (.int .i64 0) (.int .i64 0) (.slice none 0 0)
    have aq:=bI fM (Nat.le_refl _) (.int .i64 0) (.int .i64 0) (.int .i64 0) (.slice none 0 0)
    obtain⟨i0,i1,i2,i3,-⟩:=B9.c4
    exact bodyPost_ret (v:=.tuple #[.agg #[.int .i64 0,.int .i64 0,.int .i64 0,.slice none 0 0],.int .i64 1]) (by simp[results,Tryz.results95,go_sem,i0,i1,i2,i3]) rfl ⟨none,0,rfl,World.ownsRow_nil _ _ _ _,aq⟩
   rw[if_neg (fun h=>kD h.1)] at bz
   have bB:(wd.toList==[98,97,116,99,104])=false:=by rw[ai];exact beq_eq_false_iff_ne.2 kB
   have bS:(wd.toList==[115,101,97,108])=false:=by rw[ai];exact beq_eq_false_iff_ne.2 kS
   have bM:(wd.toList==[109,101,114,103,101])=false:=by rw[ai];exact beq_eq_false_iff_ne.2 kM
   have bD:(wd.toList==[100,114,111,112])=false:=by rw[ai];exact beq_eq_false_iff_ne.2 kD
   obtain⟨rfl,rfl⟩:PR=lr/\PE=1:=by rw[hR.out,hE.out,bz];exact⟨rfl,rfl⟩
   clear bz hR hE
   obtain⟨r0,r1,r2,r3,-⟩:=BB.c4
   obtain⟨f0,f1,f2,f3⟩:=BB.f4
   have lR:=BB.lt
   go_wp2_with fail
   have B9:=dU BB (.int .i64 0) (.int .i64 0) (.int .i64 0) (.slice none 0 0)
   have aq:=bI fM (Nat.le_refl _) (.int .i64 0) (.int .i64 0) (.int .i64 0) (.slice none 0 0)
   obtain⟨i0,i1,i2,i3,-⟩:=B9.c4
   exact bodyPost_ret (v:=.tuple #[.agg #[.int .i64 0,.int .i64 0,.int .i64 0,.slice none 0 0],.int .i64 1]) (by simp[results,Tryz.results95,go_sem,i0,i1,i2,i3]) rfl ⟨none,0,rfl,World.ownsRow_nil _ _ _ _,aq⟩
  case rest=>
   obtain⟨r,a',G',ln,hr,eG,B3,o3,B0,qd⟩:=hcut
   have Qa:PR=Izo (some r):=by rw[hR.out,hr.out]
   have QU:PE=aP r:=by rw[hE.out,hr.out];rfl
   clear bz hR hE hr eF BR BB fM aC pg hk
   obtain⟨a5,G5,e5,S3,_,_⟩:=be.ofOwn dq (by decide) o3
   simp only[Value.slice.injEq,true_and] at e5
   obtain⟨rfl,rfl⟩:=e5
   have c:=pu r a' G' ln wc S3 eG
   obtain⟨x0,x1,x2,x3,lR⟩:=B3.c4
   have RI:w.heap.size<=R:=Nat.le_trans am.size lc
   by_cases h0:aP r=0
   .obtain rfl:PR=r:=by rw[Qa];exact if_pos h0
    obtain rfl:PE=0:=by rw[QU,h0]
    rw[h0] at c
    clear Qa QU
    obtain⟨K,s',m',l⟩:=PR
    simp only at*
    replace eG:=aa eG
    clear h0
    go_wp2_with fail
    go_at_call 59
    refine c.mono ?_
    rintro e w8 ⟨rfl,b8⟩
    have B8:=B3.keep b8 B3.lt
    have BB:=B0.keep b8 B0.lt
    have o8:=dx o3 b8
    have fM:=ac qd b8
    obtain⟨y0,y1,y2,y3,lR8⟩:=B8.c4
    obtain⟨r0,r1,r2,r3,-⟩:=BB.c4
    obtain⟨f0,f1,f2,f3⟩:=BB.f4
    have lW:=BB.lt
    clear x0 x1 x2 x3 lR
    go_wp2_with fail
    have B9:=dU BB (.int .i64 K) (.int .i64 s') (.int .i64 m') (.slice a' ln G')
    have aq:=bI fM (Nat.le_refl _) (.int .i64 K) (.int .i64 s') (.int .i64 m') (.slice a' ln G')
    have o9:=xC o8 BB (by decide) (.int .i64 K) (.int .i64 s') (.int .i64 m') (.slice a' ln G')
    obtain⟨i0,i1,i2,i3,-⟩:=B9.c4
    exact bodyPost_ret (v:=.tuple #[.agg #[.int .i64 K,.int .i64 s',.int .i64 m',.slice a' ln G'],.int .i64 0]) (by simp[results,Tryz.results95,go_sem,i0,i1,i2,i3]) rfl ⟨a',G',by first|rfl|rw[<-eG.out],by first|exact o9| (rw[<-eG.out];exact o9),aq⟩
   obtain rfl:PR=lr:=by rw[Qa];exact if_neg h0
   rw[<-QU] at c h0
   have hd:decide (PE=0)=false:=decide_eq_false h0
   clear Qa QU
   obtain⟨K,s',m',l⟩:=r
   simp only at*
   replace eG:=aa eG
   go_wp2_with fail
   go_at_call 59
   refine c.mono ?_
   rintro e w8 ⟨rfl,b8⟩
   have BB:=B0.keep b8 B0.lt
   have fM:=ac qd b8
   obtain⟨r0,r1,r2,r3,-⟩:=BB.c4
   obtain⟨f0,f1,f2,f3⟩:=BB.f4
   have lW:=BB.lt
   clear x0 x1 x2 x3 lR
   go_wp2_with fail
   have B9:=dU BB (.int .i64 0) (.int .i64 0) (.int .i64 0) (.slice none 0 0)
   have aq:=bI fM (Nat.le_refl _) (.int .i64 0) (.int .i64 0) (.int .i64 0) (.slice none 0 0)
   obtain⟨i0,i1,i2,i3,-⟩:=B9.c4
   exact bodyPost_ret (v:=.tuple #[.agg #[.int .i64 0,.int .i64 0,.int .i64 0,.slice none 0 0],.int .i64 PE]) (by simp[results,Tryz.results95,go_sem,i0,i1,i2,i3]) rfl ⟨none,0,rfl,World.ownsRow_nil _ _ _ _,aq⟩
theorem Ip (s:ByteArray)(w:World)(hg:Gl w)(hs:s.size<=100000):
  Calls Tryz.prog 93 #[.string s,.string ⟨#[10]⟩] w fun e w'=>∃(PS:List ByteArray) (n:Nat),e=.returned (.slice (some ⟨w.heap.size,0,none⟩) n n)/\n=PS.length/\n<=100001/\PS.map bytes=pm (bytes s)/\w'=w.alloc (.cells (PS.map Value.string).toArray 9):=by
 obtain⟨m,hm⟩:=hg.max
 have h1:1<=(⟨#[10]⟩:ByteArray).size:=by decide
 have fE:=Lib.countB_le ⟨#[10]⟩ h1 s.size s (Nat.le_refl _)
 have hlen:=Lib.splitB_all ⟨#[10]⟩ h1 1 _ s rfl
 have c:=Tryz.strings_genSplit s ⟨#[10]⟩ 1 (-1) (Lib.countB s ⟨#[10]⟩+1) m w (by omega) hm h1 (by decide) (by decide) (by decide) (by rw[if_pos (by decide)];omega)
 rw[Nat.add_sub_cancel,hlen] at c
 have e2:Lib.cellsOf (Lib.splitB ⟨#[10]⟩ 1 (Lib.countB s ⟨#[10]⟩) s) (Lib.countB s ⟨#[10]⟩+1)=((Lib.splitB ⟨#[10]⟩ 1 (Lib.countB s ⟨#[10]⟩) s).map Value.string).toArray:=by rw[<-hlen];exact Lib.cellsOf_full _
 rw[e2] at c
 have hp:=Eg s
 obtain⟨n,hn⟩:∃n,n=Lib.countB s ⟨#[10]⟩+1:=⟨_,rfl⟩
 rw[<-hn] at c hlen
 generalize Lib.splitB ⟨#[10]⟩ 1 (Lib.countB s ⟨#[10]⟩) s=PS at*
 have rO:n<=100001:=by omega
 replace hn:=aa hn
 replace hlen:=aa hlen
 replace hp:=aa hp
 clear fE e2
 go_enter Tryz.func93,Tryz.ntmps93
 go_wp2_with fail
 go_at_call 125
 refine c.mono ?_
 rintro e w' ⟨rfl,rfl⟩
 go_wp2_with fail
 go_ret
 exact⟨PS,n,rfl,hlen.out.symm,rO,hp.out,rfl⟩
theorem qN (s:ByteArray)(a b:Nat):bytes (s.extract a b)=((bytes s).drop a).take (b-a):=by
 simp[bytes,ByteArray.data_extract,Array.toList_extract,List.extract_eq_take_drop]
theorem FA (s:ByteArray)(w:World)(h0:0<s.size)(hs:s.size<=100000):
  Calls Tryz.prog 126 #[.string s,.string ⟨#[10]⟩] w fun e w'=>e=.returned (.bool (decide ((bytes s).drop (s.size-1)=[10])))/\w'=w:=by
 have h1:(1:Int)<=s.size:=by omega
 have h2:(s.size:Int)-1<=s.size:=by omega
 have h3:(0:Int)<=(s.size:Int)-1:=by omega
 go_enter Tryz.func126,Tryz.ntmps126
 go_wp2_with fail
 go_ret
 refine⟨?_,rfl⟩
 show Ending.returned (Value.bool ((s.extract (s.size-1) s.size).toList==[10]))=_
 rw[ai,qN,List.take_of_length_le (by rw[List.length_drop,dB];omega)]
 congr 2
 rw[Bool.eq_iff_iff]
 simp
theorem Gt (s:ByteArray)(w:World)(h0:0<s.size)(hs:s.size<=100000):
  Calls Tryz.prog 94 #[.string s,.string ⟨#[10]⟩] w fun e w'=>e=.returned (.bool (decide ((bytes s).drop (s.size-1)=[10])))/\w'=w:=by
 have c:=fun W=>FA s W h0 hs
 generalize decide ((bytes s).drop (s.size-1)=[10])=D at*
 go_enter Tryz.func94,Tryz.ntmps94
 go_wp2_with fail
 go_at_call 126
 refine(c _).mono ?_
 rintro e w2 ⟨rfl,rfl⟩
 go_wp2_with fail
 go_ret
 exact⟨rfl,rfl⟩
theorem tz (s:ByteArray)(k0 most:Nat)(w:World)(hg:Gl w)(hs:s.size<=60000)(Dn:most+k0=60):
  Calls Tryz.prog 56 #[.string s,.int .i64 (most:Int)] w fun e w'=>∃(a:Option Addr) (n G N:Nat) (l:List dK),e=.returned (.tuple #[.slice a n G,.int .i64 (N:Int),.int .i64 (scan k0 (bytes s)).2])/\fX w.heap.size w' a n G l/\l.map (·.r)=(tail k0 (bytes s)).1/\N+(tail k0 (bytes s)).2.length=(bytes s).length/\Below w.heap.size w w':=by
 obtain⟨i0,hi,bK,bm,bQ⟩:=info_parts oi
 generalize Jj:(scan k0 (bytes s)).2=SE at*
 generalize zw:tail k0 (bytes s)=TL at*
 replace Jj:=aa Jj
 replace zw:=aa zw
 go_enter Tryz.func56,Tryz.ntmps56
 go_wp2_with fail
 go_at_call 93
 refine(Ip s w hg (by omega)).mono ?_
 rintro e w1 ⟨PS,n,rfl,hn,rO,DF,rfl⟩
 have BP:=ag.laid w (PS.map Value.string) 9 _ rfl
 have bel:=newB (Below.refl w.heap.size w) (.cells (PS.map Value.string).toArray 9)
 replace hn:=aa hn
 replace DF:=aa DF
 generalize w.alloc _=w1 at*
 go_wp2_with fail
 go_loopw [7,8,16] (fun s7 s8 Ty wr=>∃(i j G N:Nat) (ao:Option Addr) (l:List dK) (rest:List UInt8),s7=.slice ao j G/\s8=.int .i64 (N:Int)/\Ty=.int .i64 (i:Int)/\fX w.heap.size wr ao j G l/\j<=most/\Hid ((PS.drop i).map bytes=pm rest)/\Hid (SE=(scan (k0+j) rest).2)/\Hid (TL=(l.map (·.r)++(tail (k0+j) rest).1,(tail (k0+j) rest).2))/\N+rest.length=s.size/\ag wr w.heap.size (PS.map Value.string) 9/\Below w.heap.size w wr) (fun _ _ Ty _=>n-(intOf Ty).toNat)
 case atStart=>exact⟨0,0,0,0,none,[],bytes s,rfl,rfl,rfl,fX.nil _ _,Nat.zero_le _,DF,Jj.out.symm,by show _=_;rw[<-zw.out];rfl,by rw[dB];omega,BP,bel⟩
 case round=>
  clear BP bel DF
  obtain⟨i,j,G,N,ao,l,rest,rfl,rfl,rfl,R,hj,DF,hsc,Di,hN,BP,bel⟩:=hrel
  obtain⟨t,ht,hit⟩:∃t,PS[i]? =some t/\(pm rest)=bytes t::((PS.drop (i+1)).map bytes):=by
   have hp:=DF.out
   cases hd:PS.drop i with
   |nil=>
    rw[hd] at hp
    exact absurd hp.symm (Qm rest)
   |cons t r=>
    have tg:PS[i]? =some t:=by
     have:=congrArg (·[0]?) hd
     simpa using this
    have Dq:PS.drop (i+1)=r:=by rw[<-List.tail_drop,hd];rfl
    refine⟨t,tg,?_⟩
    rw[<-hp,hd,Dq]
    rfl
  have hil:i<n:=by rw[hn.out];exact(List.getElem?_eq_some_iff.1 ht).1
  have c0:wr.cell? ⟨w.heap.size,i,none⟩=some (.string t):=(BP.cell i).trans (by rw[List.getElem?_map,ht];rfl)
  have lP:=BP.lt
  have aaL:(i:Int)<n:=by omega
  have iw:=LB rest
  rw[hit] at iw
  replace ht:=aa ht
  by_cases mz:rest=[]
  .subst mz
   have EV:bytes t=[]:=by
    have:rD []=false:=rfl
    rw[this] at iw
    exact(List.cons.inj iw).1
   obtain rfl:t=⟨#[]⟩:=by rw[<-tp t,EV];rfl
   have OO:SE=0:=by rw[hsc.out,jc]
   have mV:TL=(l.map (·.r),[]):=by rw[Di.out,ee (by rw[oB];simp),List.append_nil]
   subst OO
   clear iw hit DF hsc Di
   go_wp2_with fail
   go_ret3
   exact⟨_,_,_,N,l,rfl,R,by rw[mV],by rw[mV,dB];exact hN,bel⟩
  have zR:bytes t≠[]:=by
   intro h
   rw[h] at iw
   split at iw
   .have:=congrArg List.length (List.cons.inj iw).1
    simp at this
   exact mz (List.cons.inj iw).1.symm
  have Zj:0<t.size:=by
   rw[<-dB]
   exact List.length_pos_iff.2 zR
  have Ra:(bytes t).length<=rest.length:=by
   cases hy:rD rest with
   |false=>
    rw[hy,if_neg (by decide)] at iw
    rw[(List.cons.inj iw).1]
    exact Nat.le_refl _
   |true=>
    rw[hy,if_pos rfl] at iw
    rw[(List.cons.inj iw).1]
    rcases jP rest with⟨h1,_⟩| ⟨_,h2,_⟩
    .rw[hy] at h1;cases h1
    conv=>rhs;rw[h2]
    simp
  have aaf:t.size<=60000:=by rw[<-dB];omega
  have NN:(t.toList==[])=false:=by rw[ai];exact beq_eq_false_iff_ne.2 zR
  have Wx:¬t.toList=[]:=by rw[ai];exact zR
  have aa7:¬t=⟨#[]⟩:=by intro h;subst h;exact zR rfl
  have cH:=fun W=>Gt t W Zj (by omega)
  replace zR:=aa zR
  cases hy:rD rest with
  |false=>
   rw[hy,if_neg (by decide)] at iw
   have EV:bytes t=rest:=(List.cons.inj iw).1
   have uJ:∀c∈rest,c≠10:=by
    rcases jP rest with⟨_,_,_,h4⟩| ⟨h1,_⟩
    .exact h4
    rw[hy] at h1;cases h1
   have hD:decide ((bytes t).drop (t.size-1)=[10])=false:=by
    refine decide_eq_false (fun h=>?_)
    have:(10:UInt8)∈(bytes t).drop (t.size-1):=by rw[h];simp
    exact uJ 10 (by rw[<-EV];exact List.mem_of_mem_drop this) rfl
   rw[hD] at cH
   have hE:fF rest=8:=by unfold fF;rw[hy];rfl
   have OO:SE=8:=by rw[hsc.out,mC mz (by rw[hE];decide),hE]
   have mV:TL=(l.map (·.r),rest):=by rw[Di.out,ee (by rw[hE];simp),List.append_nil]
   subst OO
   clear iw hit DF hsc Di hD hE Ra uJ
   go_wp2_with fail
   go_at_call 94
   refine(cH _).mono ?_
   rintro e w2 ⟨rfl,rfl⟩
   go_wp2_with fail
   go_ret3
   exact⟨_,_,_,N,l,rfl,R,by rw[mV],by rw[mV,dB];exact hN,bel⟩
  |true=>
   rw[hy,if_pos rfl] at iw
   obtain⟨EV,Cl⟩:=List.cons.inj iw
   have L':rest=mS rest++10::pH rest:=by
    rcases jP rest with⟨h1,_⟩| ⟨_,h2,_⟩
    .rw[hy] at h1;cases h1
    exact h2
   have Ox:t.size=(mS rest).length+1:=by rw[<-dB,EV];simp
   have hD:decide ((bytes t).drop (t.size-1)=[10])=true:=by
    refine decide_eq_true ?_
    rw[EV,Ox,Nat.add_sub_cancel,List.drop_left]
   rw[hD] at cH
   have hex:t.extract 0 (t.size-1)=iv (mS rest):=by
    rw[<-tp (t.extract 0 (t.size-1)),qN,EV,Ox]
    simp
   have hE:fF rest=im (iv (mS rest)):=by unfold fF;rw[hy];rfl
   have hR:lv rest=dJ (iv (mS rest)):=by unfold lv;rw[hy];rfl
   have hB:f6 rest=pH rest:=by unfold f6;rw[hy];rfl
   have cR:=fun W g=>K1 (iv (mS rest)) W g (by rw[ir];omega)
   rw[<-hE,<-hR] at cR
   have hlen:rest.length=t.size+(pH rest).length:=by
    have:=congrArg List.length L'
    simp at this
    omega
   have uQ:fF rest≠0->SE=fF rest/\TL=(l.map (·.r),rest):=by
    intro h
    exact⟨by rw[hsc.out,mC mz h],by rw[Di.out,ee (fun h'=>h h'.2),List.append_nil]⟩
   have sX:fF rest=0->j=most->SE=2/\TL=(l.map (·.r),rest):=by
    rintro h rfl
    have ZJ:k0+j=60:=by omega
    exact⟨by rw[hsc.out,ZJ,kw mz h],by rw[Di.out,ee (fun h'=>by omega),List.append_nil]⟩
   have hstep:fF rest=0->j≠most->SE=(scan (k0+(j+1)) (pH rest)).2/\TL=(l.map (·.r)++[lv rest]++(tail (k0+(j+1)) (pH rest)).1,(tail (k0+(j+1)) (pH rest)).2):=by
    intro h h'
    refine⟨by rw[hsc.out,kX mz h (by omega),hB,Nat.add_assoc],?_⟩
    rw[Di.out,kz ⟨by omega,h⟩,hB,Nat.add_assoc]
    simp
   have km:(t.size:Int)-1=((t.size-1:Nat):Int):=by omega
   generalize lv rest=PR at*
   generalize fF rest=PE at*
   obtain⟨K,s',m',es⟩:=PR
   simp only at*
   obtain⟨ln,eG⟩:∃ln,ln=es.length:=⟨_,rfl⟩
   rw[<-eG] at cR
   replace eG:=aa eG
   replace Cl:=aa Cl
   replace hlen:=aa hlen
   clear iw hit DF hsc Di hD hE hR hB Ra Ox L' EV
   go_wp2_with fail
   go_at_call 94
   refine(cH _).mono ?_
   rintro e w2 ⟨rfl,rfl⟩
   go_wp2_with fail
   go_at_call 95
   have gr:=hg.call bel
   refine(cR _ gr).mono ?_
   rintro e w4 ⟨a4,G4,rfl,o4,b4⟩
   have ay:=ac bel b4
   have R4:=R.call b4
   have BX:=ag.laid w4 [.int .i64 K,.int .i64 s',.int .i64 m',.slice a4 ln G4] 73 _ rfl
   have bq:=newB (Below.refl w4.heap.size w4) (.cells #[.int .i64 K,.int .i64 s',.int .i64 m',.slice a4 ln G4] 73)
   have br:=ac ay bq
   have R5:=R4.call bq
   replace BP:=(BP.keep b4 BP.lt).keep bq (Nat.lt_of_lt_of_le BP.lt b4.size)
   have o5:=j6 (o4.alloc (.cells #[.int .i64 K,.int .i64 s',.int .i64 m',.slice a4 ln G4] 73)) bel.size
   by_cases sN:PE=0
   .subst sN
    by_cases h6:j=most
    .obtain⟨Jb,mV⟩:=sX rfl h6
     subst Jb
     subst h6
     have Ig:(j:Int)<=j:=Int.le_refl _
     have h6d:decide ((j:Int)<=j)=true:=decide_eq_true Ig
     clear uQ sX hstep
     go_upto_region 10 with fail
     generalize w4.alloc _=w5 at*
     go_wp2_with fail
     go_ret3
     exact⟨_,_,_,N,l,rfl,R5,by rw[mV],by rw[mV,dB];exact hN,br⟩
    obtain⟨Jb,mV⟩:=hstep rfl h6
    have TN:j<most:=by omega
    have Ig:¬(most:Int)<=j:=by omega
    have h6d:decide ((most:Int)<=j)=false:=decide_eq_false Ig
    have Xw:N+t.size+(pH rest).length=s.size:=by have:=hlen.out;omega
    have hNb:N+t.size<=60000:=by omega
    have QO:IntKind.i64.wrap ((N:Int)+(t.size:Int))=((N+t.size:Nat):Int):=by rw[IntKind.wrap_i64];omega
    have OG:(N:Int)+(t.size:Int)=((N+t.size:Nat):Int):=by omega
    have Ws:wrap64 ((N+t.size:Nat):Int)=((N+t.size:Nat):Int):=by unfold wrap64;omega
    have Xf:(j+1)*48<=140737488355328:=by omega
    have Vy:j+1<=maxLen:=by unfold maxLen;omega
    obtain⟨N',Mx⟩:∃N',N'=N+t.size:=⟨_,rfl⟩
    rw[<-Mx] at QO OG Ws Xw
    have aaV:i+1<=n:=hil
    have Rf:n-(i+1)<n-i:=by omega
    replace Jb:=aa Jb
    replace mV:=aa mV
    replace Mx:=aa Mx
    clear uQ sX hstep hNb hex cH cR km
    go_upto_region 14 with fail
    generalize w4.heap.size=gX at*
    generalize w4.alloc _=w5 at*
    obtain⟨y0,y1,y2,y3,lX⟩:=BX.c4
    go_wp2_with (at_builtin;refine bE w5 rfl (.tmp 49) (.tmp 51) 45 rfl w.heap.size 73 i0 _ 4 48 Tryz.underlying45 hi bK bm bQ rfl (by decide) (.slice ao j G) j _ (by rfl) R5.row 1 #[.int .i64 K,.int .i64 s',.int .i64 m',.slice a4 ln G4] 73 (by rfl) (by rfl) (by simp[Value.oneCell']) (by decide) Vy Xf br.size ?_)
    intro v7 w7 jw iP yJ
    have lH:=aG br R5.row iP (Nat.le_refl _) br.size
    have Ym:=BP.grown iP (fun q e h=>mM R5.row BP (by decide) (by rw[e,h]))
    obtain⟨a8,G8,rfl,R8⟩:=R5.snoc (x:=⟨⟨K,s',m',es⟩,a4,G4⟩) (by show World.ownsRow _ _ _ _ (.slice a4 es.length G4) es.length _;rw[<-eG.out];exact o5) (by unfold dK.cells;simp only;rw[<-eG.out];exact jw) iP
    go_wp2_with fail
    go_roundw
    case rel=>exact⟨i+1,j+1,G8,N',a8,l++[⟨⟨K,s',m',es⟩,a4,G4⟩],pH rest,rfl,by first|rfl|exact congrArg (Value.int .i64) Ws,by go_num,R8,TN,Cl,Jb,by show _=_;rw[mV.out,List.map_append];rfl,Xw,Ym,lH⟩
    case measure=>
     show n-(intOf _).toNat<n-(intOf _).toNat
     simp only[intOf]
     omega
   obtain⟨Jb,mV⟩:=uQ sN
   subst Jb
   have hd:decide (SE=0)=false:=decide_eq_false sN
   clear sX hstep
   go_upto_region 10 with fail
   generalize w4.alloc _=w5 at*
   go_wp2_with fail
   go_ret3
   exact⟨_,_,_,N,l,rfl,R5,by rw[mV],by rw[mV,dB];exact hN,br⟩
end Go.Proofs.YtoonnbhoiocoeaaGreatDoor
