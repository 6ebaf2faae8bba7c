/-
  The reference's RecRead: the record of a text, or what is wrong with it.
-/
import Derived.Lib.ParseIntBTie
import Derived.Deep.Cut
import Derived.Deep.CutRange
import Derived.Deep.CutBlock
import Derived.Deep.RegionHeld3
import Derived.Test.YtoonnbhoiocoeaaGreatDoorP20
import Derived.Test.YtoonnbhoiocoeaaGreatDoorP21
import Derived.Test.YtoonnbhoiocoeaaGreatDoorP06
import Derived.Test.YtoonnbhoiocoeaaGreatDoorP19
import Derived.Test.YtoonnbhoiocoeaaGreatDoorP05
import Derived.Test.YtoonnbhoiocoeaaGreatDoorP07
set_option maxHeartbeats 40000000
set_option maxRecDepth 100000
set_option linter.unusedVariables false
namespace Go.Proofs.YtoonnbhoiocoeaaGreatDoor
open Go.RowKit
def OQ (l:List UInt8):ByteArray:=⟨l.toArray⟩
theorem mC (l:List UInt8):bytes (OQ l)=l:=by simp[bytes,OQ]
theorem m7 (b:ByteArray):(bytes b).length=b.size:=Array.length_toList
def leftOf:Value->Value->Nat
 | .string b,.bool true=>b.size+1
 |_,_=>0
theorem Fz (s:ByteArray)(w:World)(hg:Gl w)(hs:s.size<=100000):
  Calls Tryz.prog 105 #[.string s,.string ⟨#[32]⟩] w fun e w'=>∃(t r:ByteArray) (m:Bool),e=.returned (.tuple #[.string t,.string r,.bool m])/\sp (bytes s)=bytes t::(if m=true then sp (bytes r) else [])/\t.size<=s.size/\r.size<=s.size/\(m=true->r.size<s.size)/\Below w.heap.size w w':=by
 obtain⟨mx,Kj⟩:=hg.max
 refine(Tryz.strings_Cut s ⟨#[32]⟩ mx w (by omega) Kj).mono ?_
 rintro e w' ⟨rfl,q,rfl⟩
 have h1:=OB (bytes s)
 obtain⟨h2,h3,h4⟩:=J' (bytes s)
 rw[m7] at h2 h3 h4
 refine⟨OQ (Lib.cut (bytes s) [32]).1,OQ (Lib.cut (bytes s) [32]).2.1,(Lib.cut (bytes s) [32]).2.2,rfl,?_,?_,?_,?_,bj (Below.refl _ _) q⟩
 .rw[mC,mC]
  exact h1
 .rw[<-m7,mC];exact h2
 .rw[<-m7,mC];exact h3
 .intro h
  rw[<-m7,mC];exact h4 h
def Gz:Option Rc->Rc
 |none=>li
 |some r=>if aV r=0 then r else li
def Qj:Option Rc->Int
 |none=>1
 |some r=>aV r
theorem DE (s:ByteArray)(hs:s.size<=60000):dB s=Gz (ib (sp (bytes s))):=by
 unfold dB
 rw[if_neg (by omega),qW]
 cases ib (sp (bytes s))<;>rfl
theorem E' (s:ByteArray)(hs:s.size<=60000):hI s=Qj (ib (sp (bytes s))):=by
 unfold hI
 rw[if_neg (by omega),qW]
 cases ib (sp (bytes s))<;>rfl
def Tq (R g o:Nat)(s7 v0 v1:Value)(q:Nat)(e0 e1 e2:Int):Nat->Value->Prop
 |0,v=>v=.pointer (some ⟨R,3,none⟩)
 |1,v=>v=v0
 |2,v=>v=s7
 |3,v=>v=.pointer (some ⟨g,o,none⟩)
 |4,v=>v=.int .i64 e0
 |5,v=>v=s7
 |6,v=>v=.pointer (some ⟨g,o+1,none⟩)
 |7,v=>v=.int .i64 e1
 |8,v=>v=s7
 |9,v=>v=.pointer (some ⟨g,o+2,none⟩)
 |10,v=>v=.int .i64 e2
 |11,v=>v=.agg #[.int .i64 e0,.int .i64 e1,.int .i64 e2]
 |12,v=>v=.slice (some ⟨q,0,none⟩) 1 1
 |13,v=>v=v1
 |14,v=>v=.pointer (some ⟨R,3,none⟩)
 |_,_=>True
def sk (Wd Wa w1 wF:World)(d:Nat->Bool):World:=if d 15 then wF else if d 13 then w1 else if d 12 then Wa else Wd
theorem fI (Wd Wa w1 wF:World)(d:Nat->Bool)(i:Nat)(h1:i≠12)(h2:i≠13)(h3:i≠15):sk Wd Wa w1 wF (fun k=>k==i||d k)=sk Wd Wa w1 wF d:=by
 unfold sk
 simp[Ne.symm h1,Ne.symm h2,Ne.symm h3]
def lenOf:Value->Nat
 | .slice _ n _=>n
 |_=>0
theorem JV (s:ByteArray)(w:World)(hg:Gl w)(hs:s.size<=60000):
  Calls Tryz.prog 95 #[.string s] w fun e w'=>∃a' G,e=.returned (.tuple #[.agg #[.int .i64 (dB s).k,.int .i64 (dB s).s,.int .i64 (dB s).n,.slice a' (dB s).e.length G],.int .i64 (hI s)])/\w'.ownsRow w.heap.size 75 3 (.slice a' (dB s).e.length G) (dB s).e.length ((dB s).e.flatMap ec)/\Below w.heap.size w w':=by
 have BX:=ac.laid w [.int .i64 0,.int .i64 0,.int .i64 0,.slice none 0 0] 73 _ rfl
 have ef:Below w.heap.size w (w.alloc (.cells #[.int .i64 0,.int .i64 0,.int .i64 0,.slice none 0 0] 73)):=(Below.refl _ _).alloc (Nat.le_refl _) _
 have g1:=hg.alloc (.cells #[.int .i64 0,.int .i64 0,.int .i64 0,.slice none 0 0] 73)
 have hR:dB s=Gz (ib (sp (bytes s))):=DE s hs
 have hE:hI s=Qj (ib (sp (bytes s))):=E' s hs
 generalize dB s=PR at*
 generalize hI s=PE at*
 obtain⟨i0,hi,bU,bi,bk⟩:=info_parts FQ
 go_enter Tryz.func95,Tryz.ntmps95
 go_wp2_with fail
 generalize w.alloc _=w1 at*
 go_at_call 105
 refine(Fz s w1 g1 (by omega)).mono ?_
 rintro e w2 ⟨wd,rs,mo,rfl,mJ,k1,k2,k3,b2⟩
 have WL:wd.size<=60000:=by omega
 have rU:rs.size<=60000:=by omega
 have vF:=BX.keep b2 BX.lt
 have al:=aa ef b2
 have gw:=hg.call al
 rw[mJ] at hR hE
 clear mJ k1 k2 k3 b2 BX ef g1
 obtain⟨WS,MY⟩:∃WS,WS=if mo=true then sp (bytes rs) else []:=⟨_,rfl⟩
 rw[<-MY] at hR hE
 replace MY:=hide MY
 have dq:bp WS=none->PR=li/\PE=1:=by
  intro h
  rw[hR,hE]
  simp only[ib,h,Option.bind_none]
  exact⟨rfl,rfl⟩
 replace hR:=hide hR
 replace hE:=hide hE
 go_upto_block 0 with fail
 go_cut [5,6,7,8,9,10] from 19 to 43 (fun s5 s6 s7 s8 s9 Xk wx=>∃(vs:List Int) (ao:Option Addr) (G k:Nat),s7=.slice ao k G/\Hid (k=vs.length)/\k<=60001/\Hid (bp WS=some vs)/\wx.ownsRow w2.heap.size 3 1 (.slice ao k G) k (vs.map (Value.int .i64))/\Below w2.heap.size w2 wx)
 case first=>
  go_wp2_with fail
  go_loopw [5,6,7] (fun s5 s6 s7 wr=>∃(r:ByteArray) (m:Bool) (dn:List (List UInt8)) (vs:List Int) (ao:Option Addr) (G k:Nat),s5=.string r/\s6=.bool m/\s7=.slice ao k G/\Hid (WS=dn++(if m=true then sp (bytes r) else []))/\Hid (bp dn=some vs)/\Hid (k=vs.length)/\k+leftOf (.string r) (.bool m)<=60001/\r.size<=60000/\wr.ownsRow w2.heap.size 3 1 (.slice ao k G) k (vs.map (Value.int .i64))/\Below w2.heap.size w2 wr) (fun s5 s6 _ _=>leftOf s5 s6)
  case atStart=>exact⟨rs,mo,[],[],none,0,0,rfl,rfl,rfl,MY,hide rfl,hide rfl,by cases mo<;>simp[leftOf]<;>omega,rU,World.ownsRow_nil _ _ _ _,Below.refl _ _⟩
  case round=>
   obtain⟨r,m,dn,vs,ao,G,k,rfl,rfl,rfl,dp,pm,hk,Ub,hr,own,bel⟩:=hrel
   cases m with
   |false=>
    go_wp2_with fail
    go_meet
    case rel=>exact⟨vs,ao,G,k,rfl,hk,by omega,by
     have:=dp.out
     rw[if_neg (by decide),List.append_nil] at this
     rw[this]
     exact pm,own,bel⟩
   |true=>
    have KT:Hid (WS=dn++sp (bytes r)):=dp
    clear dp
    have gr:=gw.call bel
    have Z7:k+(r.size+1)<=60001:=Ub
    go_wp2_with fail
    go_at_call 105
    refine(Fz r wr gr (by omega)).mono ?_
    rintro e w4 ⟨t,r',m',rfl,mJ,k1,k2,k3,b4⟩
    have aC:=aa bel b4
    have jI:=dt own b4
    have g4:=gw.call aC
    have rL:dH (bytes t)=none->PR=li/\PE=1:=fun h=>dq (by
     rw[KT.out,mJ]
     exact rH _ _ _ h)
    have oP:∀v,dH (bytes t)=some v->Hid (bp (dn++[bytes t])=some (vs++[v])):=by
     intro v h
     rw[pQ _ _ _ pm.out,h]
     exact hide rfl
    have Va:Hid (WS=(dn++[bytes t])++(if m'=true then sp (bytes r') else [])):=by
     have:=KT.out
     rw[mJ] at this
     rw[this]
     simp[Hid]
    have UA:k+1+leftOf (.string r') (.bool m')<=60001:=by
     cases m'
     .simp[leftOf];omega
     .have:=k3 rfl
      simp[leftOf];omega
    have QB:leftOf (.string r') (.bool m')<leftOf (.string r) (.bool true):=by
     cases m'
     .simp[leftOf]
     .have:=k3 rfl
      simp[leftOf];omega
    clear mJ k3 Ub KT dq
    cases jL:Lib.atoiAll t.data.toList with
    |«syntax»=>
     obtain⟨te,pe,he⟩:=g4.syn
     have wD:=hide (rL (by unfold dH bytes;rw[jL]))
     rw[<-Lib.parseIntB_64] at jL
     replace jL:=hide jL
     clear rL oP
     go_wp2_with fail
     go_at_call 127
     refine(Tryz.strconv_ParseInt_10_at64_syntax t (by omega) jL.out _ _ he (.inr ⟨_,_,rfl⟩)).mono ?_
     rintro e w5 ⟨N,rfl,-,-,b5⟩
     have bE:=aa aC b5
     have BB:=vF.keep (bE) vF.lt
     have fN:Below w.heap.size w w5:=al.trans ((bE).mono al.size)
     obtain⟨rfl,rfl⟩:=wD.out
     have r0:=BB.cell 0
     have r1:=BB.cell 1
     have r2:=BB.cell 2
     have r3:=BB.cell 3
     have f0:=BB.free 0
     have f1:=BB.free 1
     have f2:=BB.free 2
     have f3:=BB.free 3
     have lR:=BB.lt
     go_wp2_with fail
     have B9:=dO BB (.int .i64 0) (.int .i64 0) (.int .i64 0) (.slice none 0 0)
     have aq:=bH fN (Nat.le_refl _) (.int .i64 0) (.int .i64 0) (.int .i64 0) (.slice none 0 0)
     have i0:=B9.cell 0
     have i1:=B9.cell 1
     have i2:=B9.cell 2
     have i3:=B9.cell 3
     exact bodyPost_ret (v:=.tuple #[.agg #[.int .i64 0,.int .i64 0,.int .i64 0,.slice none 0 0],.int .i64 1]) (by simp[results,Tryz.results95,go_sem,i0,i1,i2,i3]) rfl ⟨none,0,rfl,World.ownsRow_nil _ _ _ _,aq⟩
    |range=>
     obtain⟨te,pe,he⟩:=g4.rng
     have wD:=hide (rL (by unfold dH bytes;rw[jL]))
     rw[<-Lib.parseIntB_64] at jL
     replace jL:=hide jL
     clear rL oP
     go_wp2_with fail
     go_at_call 127
     refine(Tryz.strconv_ParseInt_10_at64_range t (by omega) jL.out _ _ he (.inr ⟨_,_,rfl⟩)).mono ?_
     rintro e w5 ⟨N,rfl,-,-,b5⟩
     have bE:=aa aC b5
     have BB:=vF.keep (bE) vF.lt
     have fN:Below w.heap.size w w5:=al.trans ((bE).mono al.size)
     obtain⟨rfl,rfl⟩:=wD.out
     have r0:=BB.cell 0
     have r1:=BB.cell 1
     have r2:=BB.cell 2
     have r3:=BB.cell 3
     have f0:=BB.free 0
     have f1:=BB.free 1
     have f2:=BB.free 2
     have f3:=BB.free 3
     have lR:=BB.lt
     go_wp2_with fail
     have B9:=dO BB (.int .i64 0) (.int .i64 0) (.int .i64 0) (.slice none 0 0)
     have aq:=bH fN (Nat.le_refl _) (.int .i64 0) (.int .i64 0) (.int .i64 0) (.slice none 0 0)
     have i0:=B9.cell 0
     have i1:=B9.cell 1
     have i2:=B9.cell 2
     have i3:=B9.cell 3
     exact bodyPost_ret (v:=.tuple #[.agg #[.int .i64 0,.int .i64 0,.int .i64 0,.slice none 0 0],.int .i64 1]) (by simp[results,Tryz.results95,go_sem,i0,i1,i2,i3]) rfl ⟨none,0,rfl,World.ownsRow_nil _ _ _ _,aq⟩
    |ok v=>
     obtain⟨v0,v1⟩:=Lib.atoiAll_bounds jL
     have oZ:dH (bytes t)=if Lib.itoa v=bytes t then some v else none:=by unfold dH bytes;rw[jL]
     rw[<-Lib.parseIntB_64] at jL
     replace jL:=hide jL
     go_wp2_with fail
     go_at_call 127
     refine(Tryz.strconv_ParseInt_10_at64_ok t (by omega) v jL.out _).mono ?_
     rintro e w5 ⟨rfl,UU⟩
     have b5:Below w4.heap.size w4 w5:=by
      rcases UU with rfl| ⟨t,rfl⟩
      .exact Below.refl _ _
      .exact Lib.bytesWorld_below _ _ _
     have bE:=aa aC b5
     have dF:=dt jI b5
     have g5:=g4.call b5
     clear UU b5
     go_wp2_with fail
     go_at_call 128
     refine(Tryz.strconv_FormatInt_10 v v0 v1 _ g5.tab).mono ?_
     rintro e w6 ⟨rfl,q,os,Uz⟩
     have b6:Below w5.heap.size w5 w6:=by rw[Uz];exact Lib.below_grow _ _ (Nat.le_refl _) _ _
     have dy:=aa bE b6
     have ft:=dt dF b6
     clear Uz b6 bE dF g5 jI aC g4
     by_cases Hw:(⟨(Lib.itoa v).toArray⟩:ByteArray)=t
     .have Kv:=oP v (by rw[oZ,if_pos (jK.1 Hw)])
      clear oZ rL oP
      go_wp2_with (at_builtin;refine aW w6 rfl (.tmp 40) (.tmp 42) 28 rfl w2.heap.size 3 i0 _ 1 8 Tryz.underlying28 hi bU bi bk rfl (by decide) (.slice ao k G) k _ (by rfl) ft 1 #[.int .i64 v] 3 (by rfl) (by rfl) (by simp[Value.oneCell']) (by decide) (by unfold maxLen;omega) (by omega) dy.size ?_)
      intro v7 w7 jo iP xA
      have k7:=aH dy ft iP (Nat.le_refl _) dy.size
      have mY:w7.ownsRow w2.heap.size 3 1 v7 (k+1) ((vs++[v]).map (Value.int .i64)):=by rw[List.map_append];exact jo
      obtain⟨g7,G7,rfl⟩:∃g7 G7,v7=.slice (some ⟨g7,0,none⟩) (k+1) G7:=by
       rcases mY.2 with⟨_,h⟩| ⟨g,cap,cur,h,_⟩
       .omega
       .exact⟨_,_,h⟩
      go_wp2_with fail
      go_roundw
      case rel=>exact⟨r',m',dn++[bytes t],vs++[v],some ⟨g7,0,none⟩,G7,k+1,rfl,rfl,rfl,Va,Kv,by rw[hk.out,List.length_append];exact hide rfl,UA,by omega,mY,k7⟩
      case measure=>exact QB
     .have wD:=hide (rL (by rw[oZ,if_neg (fun h=>Hw (jK.2 h))]))
      have aF:(Lib.itoa v==t.toList)=false:=by
       rw[beq_eq_false_iff_ne]
       intro h
       exact Hw (jK.2 (by rw[h];exact ag t))
      clear oZ rL oP
      have BB:=vF.keep (dy) vF.lt
      have fN:Below w.heap.size w w6:=al.trans ((dy).mono al.size)
      obtain⟨rfl,rfl⟩:=wD.out
      have r0:=BB.cell 0
      have r1:=BB.cell 1
      have r2:=BB.cell 2
      have r3:=BB.cell 3
      have f0:=BB.free 0
      have f1:=BB.free 1
      have f2:=BB.free 2
      have f3:=BB.free 3
      have lR:=BB.lt
      go_wp2_with fail
      have B9:=dO BB (.int .i64 0) (.int .i64 0) (.int .i64 0) (.slice none 0 0)
      have aq:=bH fN (Nat.le_refl _) (.int .i64 0) (.int .i64 0) (.int .i64 0) (.slice none 0 0)
      have i0:=B9.cell 0
      have i1:=B9.cell 1
      have i2:=B9.cell 2
      have i3:=B9.cell 3
      exact bodyPost_ret (v:=.tuple #[.agg #[.int .i64 0,.int .i64 0,.int .i64 0,.slice none 0 0],.int .i64 1]) (by simp[results,Tryz.results95,go_sem,i0,i1,i2,i3]) rfl ⟨none,0,rfl,World.ownsRow_nil _ _ _ _,aq⟩
 case rest=>
  obtain⟨vs,ao,G,k,rfl,hk,Sn,pm,own,sO⟩:=hcut
  clear MY dq
  have bu:ib (bytes wd::WS)=(if bytes wd=gj/\vs.length % 3=0 then some ⟨1,0,0,fA vs⟩ else if bytes wd=jv/\vs.length=2 then some ⟨2,vs.getD 0 0,vs.getD 1 0,[]⟩ else if bytes wd=ic/\vs.length=2 then some ⟨3,vs.getD 0 0,vs.getD 1 0,[]⟩ else if bytes wd=jz/\vs.length=1 then some ⟨4,0,vs.getD 0 0,[]⟩ else none):=by
   simp only[ib,pm.out,Option.bind_some]
  rw[<-hk.out] at bu
  have BR:=ac.laid wc [.int .i64 0,.int .i64 0,.int .i64 0,.slice none 0 0] 73 _ rfl
  have ay:=newB sO (.cells #[.int .i64 0,.int .i64 0,.int .i64 0,.slice none 0 0] 73)
  have eN:=own.alloc (.cells #[.int .i64 0,.int .i64 0,.int .i64 0,.slice none 0 0] 73)
  have lc:w2.heap.size<=wc.heap.size:=sO.size
  go_upto_block 2 with fail
  clear own sO
  generalize wc.heap.size=R at*
  generalize wc.alloc _=w3 at*
  have BB:=vF.keep ay vF.lt
  have fN:Below w.heap.size w w3:=al.trans (ay.mono al.size)
  have lX:=vF.lt
  go_cut [7] from 44 to 116 (fun s7 wx=>∃(r:Rc) (a':Option Addr) (G' ln:Nat),Hid (ib (bytes wd::WS)=some r)/\ln=r.e.length/\ac wx R [.int .i64 r.k,.int .i64 r.s,.int .i64 r.n,.slice a' ln G'] 73/\wx.ownsRow w.heap.size 75 3 (.slice a' ln G') ln (r.e.flatMap ec)/\ac wx w.heap.size [.int .i64 0,.int .i64 0,.int .i64 0,.slice none 0 0] 73/\Below w.heap.size w wx)
  case first=>
   by_cases kB:bytes wd=gj
   .by_cases m3:k % 3=0
    .rw[if_pos ⟨kB,m3⟩] at bu
     have bB:(wd.toList==[98,97,116,99,104])=true:=by rw[ag,kB];rfl
     have bS:(wd.toList==[115,101,97,108])=false:=by rw[ag,kB];rfl
     have bM:(wd.toList==[109,101,114,103,101])=false:=by rw[ag,kB];rfl
     have bD:(wd.toList==[100,114,111,112])=false:=by rw[ag,kB];rfl
     have t3:(k:Int).tmod 3=0:=by rw[Int.tmod_eq_emod_of_nonneg (by omega)];omega
     obtain⟨mm,j8⟩:∃mm,k=mm*3:=⟨k / 3,by omega⟩
     have PH:=mb mm vs (by rw[<-hk.out];exact j8)
     replace PH:=hide PH
     replace bu:=hide bu
     clear hR hE
     have r0:=BR.cell 0
     have f0:=BR.free 0
     have lR:=BR.lt
     have Sm:w.heap.size<=R:=Nat.le_trans al.size lc
     have CW:=BR.set 0 (.int .i64 1)
     have PK:=BB.other (g':=R) 0 (.int .i64 1) (by omega)
     have CJ:=ownsRow_setCell_other eN (a:=⟨R,0,none⟩) (nH eN BR (by decide)) (.int .i64 1)
     have Lc:=fN.setCell (p:=⟨R,0,none⟩) Sm (.int .i64 1)
     go_wp2_with fail
     clear BR BB eN fN ay r0 f0 lR t3 m3 bB bS bM bD kB
     generalize w3.setCell _ _=w4 at*
     obtain⟨j0,oV⟩:∃i,Tryz.prog.info? 75=some i/\i.zero=some (.agg #[.int .i64 0,.int .i64 0,.int .i64 0])/\i.size=3/\i.bytes=24:=by
      obtain⟨i,h1,h2,h3,h4⟩:=info_parts NJ
      exact⟨i,h1,h2,h3,h4⟩
     obtain⟨tJ,sP,Sd,Sv⟩:=oV
     obtain⟨g,hg⟩:∃g,0<k->ao=some ⟨g,0,none⟩:=by
      rcases CJ.2 with⟨_,h⟩| ⟨g,cap,cur,h,_⟩
      .exact⟨0,fun h'=>by omega⟩
      .simp only[Value.slice.injEq,true_and] at h
       exact⟨g,fun _=>h.1⟩
     have TQ:k<=G/\G<=9223372036854775807:=by
      have h:=jE CJ
      have h1:=h.le
      have h2:=h.max
      rw[List.length_map,<-hk.out] at h1
      exact⟨h1,h2⟩
     replace j8:=hide j8
     go_loopw [7] (fun s7 wr=>∃(j kj cj:Nat) (aj:Option Addr) (ae:Option Addr) (Ge:Nat),kj+j*3=k/\s7=.slice aj kj cj/\(0<kj->aj=some ⟨g,j*3,none⟩)/\kj<=cj/\cj<=9223372036854775807/\
       ac wr R [.int .i64 1,.int .i64 0,.int .i64 0,.slice ae j Ge] 73/\wr.ownsRow w.heap.size 75 3 (.slice ae j Ge) j (((List.range j).map (ent vs)).flatMap ec)/\wr.ownsRow w2.heap.size 3 1 (.slice ao k G) k (vs.map (Value.int .i64))/\
       ac wr w.heap.size [.int .i64 0,.int .i64 0,.int .i64 0,.slice none 0 0] 73/\Below w.heap.size w wr) (fun s7 _=>lenOf s7)
     case atStart=>exact⟨0,k,G,ao,none,0,by omega,rfl,by rw[Nat.zero_mul];exact hg,TQ.1,TQ.2,CW,World.ownsRow_nil _ _ _ _,CJ,PK,Lc⟩
     case round=>
      clear CW PK CJ Lc
      obtain⟨j,kj,cj,aj,ae,Ge,hkj,rfl,Zr,YX,rW,BR,oE,oI,BB,bel⟩:=hrel
      by_cases hp:0<kj
      .obtain rfl:=Zr hp
       obtain rfl:=hg (by omega)
       have h3k:3<=kj:=by have:=j8.out;omega
       obtain⟨b9,o9,e9,lg,fL⟩:=(jE oI).row.at (by intro h;have:=congrArg List.length h;rw[List.length_map,<-hk.out] at this;simp at this;omega)
       simp only[Option.some.injEq,Addr.mk.injEq,and_true] at e9
       obtain⟨rfl,rfl⟩:=e9
       have hc:∀q,q<k->wr.cell? ⟨g,q,none⟩=some (.int .i64 (vs.getD q 0)):=by
        intro q hq
        have i7:q<vs.length:=by rw[<-hk.out];exact hq
        have:=fL q (.int .i64 (vs.getD q 0)) (by rw[List.getElem?_map,List.getElem?_eq_getElem i7];simp[List.getD,i7])
        rw[Nat.zero_add] at this
        exact this
       have c0:=hc (j*3) (by omega)
       have c1:=hc (j*3+1) (by omega)
       have c2:=hc (j*3+2) (by omega)
       have jk:ent vs j=(vs.getD (j*3) 0,vs.getD (j*3+1) 0,vs.getD (j*3+2) 0):=rfl
       generalize vs.getD (j*3) 0=e0 at*
       generalize vs.getD (j*3+1) 0=e1 at*
       generalize vs.getD (j*3+2) 0=e2 at*
       have hT:((List.range j).map (ent vs)).flatMap ec++[.int .i64 e0,.int .i64 e1,.int .i64 e2]=((List.range (j+1)).map (ent vs)).flatMap ec:=by
        rw[List.range_succ,List.map_append,List.flatMap_append]
        simp[jk,ec]
       have lR:=BR.lt
       have lZ:=BB.lt
       have bD:Below wr.heap.size wr wr.drew:=ai (Below.refl _ _)
       have bA:=newB bD (.cells #[.int .i64 e0,.int .i64 e1,.int .i64 e2] 75)
       have oA:=(dt oE bD).alloc (.cells #[.int .i64 e0,.int .i64 e1,.int .i64 e2] 75)
       obtain⟨g7,G7,w1',ky,eB,cY,-,M5⟩:=run_append_lies (P:=Tryz.prog) (wr.drew.alloc (.cells #[.int .i64 e0,.int .i64 e1,.int .i64 e2] 75)) 31 31 w.heap.size 75 j0 _ 3 24 Tryz.underlying31 tJ sP Sd Sv rfl (by decide) (.slice ae j Ge) j _ oA ⟨wr.heap.size,0,none⟩ 1 1 [.int .i64 e0,.int .i64 e1,.int .i64 e2] rfl (World.news_of_block (cs:=#[.int .i64 e0,.int .i64 e1,.int .i64 e2]) (t:=75) (fr:=(0,0)) (heap_alloc_new wr.drew _)) (by simp[Value.oneCell']) (by decide) (by unfold maxLen;omega) (by omega) (Nat.le_trans bel.size bA.size) _ rfl
       have CW:=(BR.keep bA lR).grown cY (fun q e h=>nH oA (BR.keep bA lR) (by decide) (by rw[e,h]))
       have PK:=(BB.keep bA lZ).grown cY (fun q e h=>nH oA (BB.keep bA lZ) (by decide) (by rw[e,h]))
       have Um:=mi (dt oI bA) cY (xm (dt oI bA) oA (by decide))
       have b1:=aH (aa bel bA) oA cY (Nat.le_refl _) (Nat.le_trans bel.size bA.size)
       have Id:=CW.set 3 (.slice (some ⟨g7,0,none⟩) (j+1) G7)
       have Yr:=PK.other (g':=R) 3 (.slice (some ⟨g7,0,none⟩) (j+1) G7) (by omega)
       have Xo:=ownsRow_setCell_other Um (a:=⟨R,3,none⟩) (nH Um CW (by decide)) (.slice (some ⟨g7,0,none⟩) (j+1) G7)
       have Vk:=ownsRow_setCell_other eB (a:=⟨R,3,none⟩) (nH eB CW (by decide)) (.slice (some ⟨g7,0,none⟩) (j+1) G7)
       rw[hT] at Vk
       have b2:=b1.setCell (p:=⟨R,3,none⟩) Sm (.slice (some ⟨g7,0,none⟩) (j+1) G7)
       have rc:=BR.cell 3
       have Wi:=(BR.keep bA lR).cell 3
       have Ij:w1'.frozen? ⟨R,3,none⟩=false:=CW.free 3
       have Xl:=CW.cell 3
       have HF:=CW.lt
       generalize TG:w1'.setCell ⟨R,3,none⟩ (.slice (some ⟨g7,0,none⟩) (j+1) G7)=wF at*
       replace TG:=hide TG
       replace hT:=hide hT
       go_upto_region 15 with fail
       refine named (fun A0 nS=>?_)
       have a7:A0.eval (.tmp 7)=.slice (some ⟨g,j*3,none⟩) kj cj:=by rw[nS];rfl
       have Tv:A0.eval (.tmp 11)=.pointer (some ⟨R,0,none⟩):=by rw[nS];rfl
       have oS:58+15<=A0.tmps.size:=by rw[nS];simp
       replace nS:=hide nS
       have i0':(0:Int)<kj:=by omega
       have i1':(1:Int)<kj:=by omega
       have i2':(2:Int)<kj:=by omega
       have n1':1<kj:=by omega
       have n2':2<kj:=by omega
       refine qh (by kernel_rfl) (by kernel_rfl) (fun d a' W'=>∃V,a'=pV A0 58 15 V/\(∀i,d i=true->Tq R g (j*3) (.slice (some ⟨g,j*3,none⟩) kj cj) (.slice ae j Ge) (.slice (some ⟨g7,0,none⟩) (j+1) G7) wr.heap.size e0 e1 e2 i (V i))/\W'=sk wr.drew (wr.drew.alloc (.cells #[.int .i64 e0,.int .i64 e1,.int .i64 e2] 75)) w1' wF d) ?step ?fin ?start
       case start=>exact⟨fun i=>A0.eval (.tmp (58+i)),(Fq _ _ _).symm,fun _ h=>Bool.noConfusion h,rfl⟩
       case fin=>
        intro d a' W' bh inv
        obtain⟨V,rfl,_,hW⟩:=inv
        have qw:d 15=true:=bh 15 (by decide)
        unfold sk at hW
        rw[if_pos qw] at hW
        subst hW
        rw[<-uk,nS.out]
        simp only[uR,Nat.reduceAdd]
        generalize V 0=V0
        generalize V 1=V1
        generalize V 2=V2
        generalize V 3=V3
        generalize V 4=V4
        generalize V 5=V5
        generalize V 6=V6
        generalize V 7=V7
        generalize V 8=V8
        generalize V 9=V9
        generalize V 10=V10
        generalize V 11=V11
        generalize V 12=V12
        generalize V 13=V13
        generalize V 14=V14
        clear a7 Tv oS hc c0 c1 c2 fL rc Wi Ij Xl
        have Z0:(3:Int)<=kj:=by omega
        go_wp2_with fail
        exact⟨⟨j+1,kj-3,cj-3,_,some ⟨g7,0,none⟩,G7,by omega,rfl,fun h=>by rw[if_neg (by omega),Nat.succ_mul],by omega,by omega,Id,Vk,Xo,Yr,b2⟩,by simp only[lenOf];omega⟩
       case step=>
        intro i o d a' W' vT ho hd bh down inv K' hK
        obtain⟨V,ha,hv,hW⟩:=inv
        have HW:=hide hW
        clear hW
        have key:i=0\/i=1\/i=2\/i=3\/i=4\/i=5\/i=6\/i=7\/i=8\/i=9\/i=10\/i=11\/i=12\/i=13\/i=14\/i=15:=by
         have:i<16:=vT
         omega
        clear vT
        rcases key with rfl|rfl|rfl|rfl|rfl|rfl|rfl|rfl|rfl|rfl|rfl|rfl|rfl|rfl|rfl|rfl
        .obtain rfl:=Option.some.inj ho
         refine bQ (d:=58) (v:=.pointer (some ⟨R,3,none⟩)) (W':=W') rfl rfl (fun ρ cx=>?_) (hK _ _ ⟨df V 0 _,by rw[ha];exact eD 0 58 rfl (by decide) _,bm hv 0 _ rfl,by rw[HW.out,fI _ _ _ _ _ _ (by decide) (by decide) (by decide)]⟩)
         have Mr:ρ (.tmp 11)=.pointer (some ⟨R,0,none⟩):=by rw[cx,ha];exact(qP 11 (by decide)).trans Tv
         have qc:∀v,ρ (.const v)=v:=fun v=>by rw[cx];rfl
         clear cx
         go_simp
        .obtain rfl:=Option.some.inj ho
         have jj:d 13=false:=no down 13 _ rfl ⟨1,.data⟩ (by simp) rfl hd
         have qw:d 15=false:=no down 15 _ rfl ⟨13,.data⟩ (by simp) rfl jj
         have su:W'.cell? ⟨R,3,none⟩=some (.slice ae j Ge):=by
          rw[HW.out]
          unfold sk
          rw[qw,jj]
          cases d 12
          .exact rc
          .exact Wi
         have PT:=World.block_lt_of_cell? _ _ su
         refine bQ (d:=59) (v:=.slice ae j Ge) (W':=W') rfl rfl (fun ρ cx=>?_) (hK _ _ ⟨df V 1 _,by rw[ha];exact eD 1 59 rfl (by decide) _,bm hv 1 _ rfl,by rw[HW.out,fI _ _ _ _ _ _ (by decide) (by decide) (by decide)]⟩)
         have q0:ρ (.tmp 58)=.pointer (some ⟨R,3,none⟩):=by rw[cx,ha];exact(jb 0 58 rfl (by decide) oS).trans (hv 0 (bh ⟨0,.data⟩ (by simp) rfl))
         have qc:∀v,ρ (.const v)=v:=fun v=>by rw[cx];rfl
         clear cx
         go_simp
        .obtain rfl:=Option.some.inj ho
         refine bQ (d:=60) (v:=.slice (some ⟨g,j*3,none⟩) kj cj) (W':=W') rfl rfl (fun ρ cx=>?_) (hK _ _ ⟨df V 2 _,by rw[ha];exact eD 2 60 rfl (by decide) _,bm hv 2 _ rfl,by rw[HW.out,fI _ _ _ _ _ _ (by decide) (by decide) (by decide)]⟩)
         have q7:ρ (.tmp 7)=.slice (some ⟨g,j*3,none⟩) kj cj:=by rw[cx,ha];exact(qP 7 (by decide)).trans a7
         have qc:∀v,ρ (.const v)=v:=fun v=>by rw[cx];rfl
         clear cx
         go_simp
        .obtain rfl:=Option.some.inj ho
         refine bQ (d:=61) (v:=.pointer (some ⟨g,j*3,none⟩)) (W':=W') rfl rfl (fun ρ cx=>?_) (hK _ _ ⟨df V 3 _,by rw[ha];exact eD 3 61 rfl (by decide) _,bm hv 3 _ rfl,by rw[HW.out,fI _ _ _ _ _ _ (by decide) (by decide) (by decide)]⟩)
         have q2:ρ (.tmp 60)=.slice (some ⟨g,j*3,none⟩) kj cj:=by rw[cx,ha];exact(jb 2 60 rfl (by decide) oS).trans (hv 2 (bh ⟨2,.data⟩ (by simp) rfl))
         have qc:∀v,ρ (.const v)=v:=fun v=>by rw[cx];rfl
         clear cx
         go_simp
        .obtain rfl:=Option.some.inj ho
         have rg:d 11=false:=no down 11 _ rfl ⟨4,.data⟩ (by simp) rfl hd
         have jA:d 12=false:=no down 12 _ rfl ⟨11,.data⟩ (by simp) rfl rg
         have jj:d 13=false:=no down 13 _ rfl ⟨12,.data⟩ (by simp) rfl jA
         have qw:d 15=false:=no down 15 _ rfl ⟨13,.data⟩ (by simp) rfl jj
         have su:W'.cell? ⟨g,j*3,none⟩=some (.int .i64 e0):=by
          rw[HW.out]
          unfold sk
          rw[qw,jj,jA]
          exact c0
         have PT:=World.block_lt_of_cell? _ _ su
         refine bQ (d:=62) (v:=.int .i64 e0) (W':=W') rfl rfl (fun ρ cx=>?_) (hK _ _ ⟨df V 4 _,by rw[ha];exact eD 4 62 rfl (by decide) _,bm hv 4 _ rfl,by rw[HW.out,fI _ _ _ _ _ _ (by decide) (by decide) (by decide)]⟩)
         have q3:ρ (.tmp 61)=.pointer (some ⟨g,j*3,none⟩):=by rw[cx,ha];exact(jb 3 61 rfl (by decide) oS).trans (hv 3 (bh ⟨3,.data⟩ (by simp) rfl))
         have qc:∀v,ρ (.const v)=v:=fun v=>by rw[cx];rfl
         clear cx
         go_simp
        .obtain rfl:=Option.some.inj ho
         refine bQ (d:=63) (v:=.slice (some ⟨g,j*3,none⟩) kj cj) (W':=W') rfl rfl (fun ρ cx=>?_) (hK _ _ ⟨df V 5 _,by rw[ha];exact eD 5 63 rfl (by decide) _,bm hv 5 _ rfl,by rw[HW.out,fI _ _ _ _ _ _ (by decide) (by decide) (by decide)]⟩)
         have q7:ρ (.tmp 7)=.slice (some ⟨g,j*3,none⟩) kj cj:=by rw[cx,ha];exact(qP 7 (by decide)).trans a7
         have qc:∀v,ρ (.const v)=v:=fun v=>by rw[cx];rfl
         clear cx
         go_simp
        .obtain rfl:=Option.some.inj ho
         refine bQ (d:=64) (v:=.pointer (some ⟨g,j*3+1,none⟩)) (W':=W') rfl rfl (fun ρ cx=>?_) (hK _ _ ⟨df V 6 _,by rw[ha];exact eD 6 64 rfl (by decide) _,bm hv 6 _ rfl,by rw[HW.out,fI _ _ _ _ _ _ (by decide) (by decide) (by decide)]⟩)
         have q5:ρ (.tmp 63)=.slice (some ⟨g,j*3,none⟩) kj cj:=by rw[cx,ha];exact(jb 5 63 rfl (by decide) oS).trans (hv 5 (bh ⟨5,.data⟩ (by simp) rfl))
         have qc:∀v,ρ (.const v)=v:=fun v=>by rw[cx];rfl
         clear cx
         go_simp
        .obtain rfl:=Option.some.inj ho
         have rg:d 11=false:=no down 11 _ rfl ⟨7,.data⟩ (by simp) rfl hd
         have jA:d 12=false:=no down 12 _ rfl ⟨11,.data⟩ (by simp) rfl rg
         have jj:d 13=false:=no down 13 _ rfl ⟨12,.data⟩ (by simp) rfl jA
         have qw:d 15=false:=no down 15 _ rfl ⟨13,.data⟩ (by simp) rfl jj
         have su:W'.cell? ⟨g,j*3+1,none⟩=some (.int .i64 e1):=by
          rw[HW.out]
          unfold sk
          rw[qw,jj,jA]
          exact c1
         have PT:=World.block_lt_of_cell? _ _ su
         refine bQ (d:=65) (v:=.int .i64 e1) (W':=W') rfl rfl (fun ρ cx=>?_) (hK _ _ ⟨df V 7 _,by rw[ha];exact eD 7 65 rfl (by decide) _,bm hv 7 _ rfl,by rw[HW.out,fI _ _ _ _ _ _ (by decide) (by decide) (by decide)]⟩)
         have q6:ρ (.tmp 64)=.pointer (some ⟨g,j*3+1,none⟩):=by rw[cx,ha];exact(jb 6 64 rfl (by decide) oS).trans (hv 6 (bh ⟨6,.data⟩ (by simp) rfl))
         have qc:∀v,ρ (.const v)=v:=fun v=>by rw[cx];rfl
         clear cx
         go_simp
        .obtain rfl:=Option.some.inj ho
         refine bQ (d:=66) (v:=.slice (some ⟨g,j*3,none⟩) kj cj) (W':=W') rfl rfl (fun ρ cx=>?_) (hK _ _ ⟨df V 8 _,by rw[ha];exact eD 8 66 rfl (by decide) _,bm hv 8 _ rfl,by rw[HW.out,fI _ _ _ _ _ _ (by decide) (by decide) (by decide)]⟩)
         have q7:ρ (.tmp 7)=.slice (some ⟨g,j*3,none⟩) kj cj:=by rw[cx,ha];exact(qP 7 (by decide)).trans a7
         have qc:∀v,ρ (.const v)=v:=fun v=>by rw[cx];rfl
         clear cx
         go_simp
        .obtain rfl:=Option.some.inj ho
         refine bQ (d:=67) (v:=.pointer (some ⟨g,j*3+2,none⟩)) (W':=W') rfl rfl (fun ρ cx=>?_) (hK _ _ ⟨df V 9 _,by rw[ha];exact eD 9 67 rfl (by decide) _,bm hv 9 _ rfl,by rw[HW.out,fI _ _ _ _ _ _ (by decide) (by decide) (by decide)]⟩)
         have q8:ρ (.tmp 66)=.slice (some ⟨g,j*3,none⟩) kj cj:=by rw[cx,ha];exact(jb 8 66 rfl (by decide) oS).trans (hv 8 (bh ⟨8,.data⟩ (by simp) rfl))
         have qc:∀v,ρ (.const v)=v:=fun v=>by rw[cx];rfl
         clear cx
         go_simp
        .obtain rfl:=Option.some.inj ho
         have rg:d 11=false:=no down 11 _ rfl ⟨10,.data⟩ (by simp) rfl hd
         have jA:d 12=false:=no down 12 _ rfl ⟨11,.data⟩ (by simp) rfl rg
         have jj:d 13=false:=no down 13 _ rfl ⟨12,.data⟩ (by simp) rfl jA
         have qw:d 15=false:=no down 15 _ rfl ⟨13,.data⟩ (by simp) rfl jj
         have su:W'.cell? ⟨g,j*3+2,none⟩=some (.int .i64 e2):=by
          rw[HW.out]
          unfold sk
          rw[qw,jj,jA]
          exact c2
         have PT:=World.block_lt_of_cell? _ _ su
         refine bQ (d:=68) (v:=.int .i64 e2) (W':=W') rfl rfl (fun ρ cx=>?_) (hK _ _ ⟨df V 10 _,by rw[ha];exact eD 10 68 rfl (by decide) _,bm hv 10 _ rfl,by rw[HW.out,fI _ _ _ _ _ _ (by decide) (by decide) (by decide)]⟩)
         have q9:ρ (.tmp 67)=.pointer (some ⟨g,j*3+2,none⟩):=by rw[cx,ha];exact(jb 9 67 rfl (by decide) oS).trans (hv 9 (bh ⟨9,.data⟩ (by simp) rfl))
         have qc:∀v,ρ (.const v)=v:=fun v=>by rw[cx];rfl
         clear cx
         go_simp
        .obtain rfl:=Option.some.inj ho
         refine bQ (d:=69) (v:=.agg #[.int .i64 e0,.int .i64 e1,.int .i64 e2]) (W':=W') rfl rfl (fun ρ cx=>?_) (hK _ _ ⟨df V 11 _,by rw[ha];exact eD 11 69 rfl (by decide) _,bm hv 11 _ rfl,by rw[HW.out,fI _ _ _ _ _ _ (by decide) (by decide) (by decide)]⟩)
         have q4:ρ (.tmp 62)=.int .i64 e0:=by rw[cx,ha];exact(jb 4 62 rfl (by decide) oS).trans (hv 4 (bh ⟨4,.data⟩ (by simp) rfl))
         have q7:ρ (.tmp 65)=.int .i64 e1:=by rw[cx,ha];exact(jb 7 65 rfl (by decide) oS).trans (hv 7 (bh ⟨7,.data⟩ (by simp) rfl))
         have Od:ρ (.tmp 68)=.int .i64 e2:=by rw[cx,ha];exact(jb 10 68 rfl (by decide) oS).trans (hv 10 (bh ⟨10,.data⟩ (by simp) rfl))
         have qc:∀v,ρ (.const v)=v:=fun v=>by rw[cx];rfl
         clear cx
         go_simp
        .obtain rfl:=Option.some.inj ho
         have jj:d 13=false:=no down 13 _ rfl ⟨12,.data⟩ (by simp) rfl hd
         have qw:d 15=false:=no down 15 _ rfl ⟨13,.data⟩ (by simp) rfl jj
         obtain rfl:W'=wr.drew:=by
          rw[HW.out]
          unfold sk
          rw[qw,jj,hd]
          rfl
         refine bQ (d:=70) (v:=.slice (some ⟨wr.heap.size,0,none⟩) 1 1) (W':=wr.drew.alloc (.cells #[.int .i64 e0,.int .i64 e1,.int .i64 e2] 75)) rfl rfl (fun ρ cx=>?_) (hK _ _ ⟨df V 12 _,by rw[ha];exact eD 12 70 rfl (by decide) _,bm hv 12 _ rfl,by unfold sk;simp[jj,qw]⟩)
         have Mr:ρ (.tmp 69)=.agg #[.int .i64 e0,.int .i64 e1,.int .i64 e2]:=by rw[cx,ha];exact(jb 11 69 rfl (by decide) oS).trans (hv 11 (bh ⟨11,.data⟩ (by simp) rfl))
         have qc:∀v,ρ (.const v)=v:=fun v=>by rw[cx];rfl
         clear cx
         go_simp
        .obtain rfl:=Option.some.inj ho
         have qw:d 15=false:=no down 15 _ rfl ⟨13,.data⟩ (by simp) rfl hd
         have jA:d 12=true:=bh ⟨12,.data⟩ (by simp) rfl
         obtain rfl:W'=wr.drew.alloc (.cells #[.int .i64 e0,.int .i64 e1,.int .i64 e2] 75):=by
          rw[HW.out]
          unfold sk
          rw[qw,hd,jA]
          rfl
         have q1:a'.eval (.tmp 59)=.slice ae j Ge:=by rw[ha];exact(jb 1 59 rfl (by decide) oS).trans (hv 1 (bh ⟨1,.data⟩ (by simp) rfl))
         have PJ:a'.eval (.tmp 70)=.slice (some ⟨wr.heap.size,0,none⟩) 1 1:=by rw[ha];exact(jb 12 70 rfl (by decide) oS).trans (hv 12 (bh ⟨12,.data⟩ (by simp) rfl))
         rw[if_pos (by rfl)]
         refine Lib.wp_append_run _ (.tmp 59) (.tmp 70) _ _ rfl (.slice ae j Ge) (.slice (some ⟨wr.heap.size,0,none⟩) 1 1) q1 PJ _ _ ky ?_
         exact hK _ _ ⟨df V 13 _,by rw[ha];exact eD 13 71 rfl (by decide) _,bm hv 13 _ rfl,by unfold sk;simp[qw]⟩
        .obtain rfl:=Option.some.inj ho
         refine bQ (d:=72) (v:=.pointer (some ⟨R,3,none⟩)) (W':=W') rfl rfl (fun ρ cx=>?_) (hK _ _ ⟨df V 14 _,by rw[ha];exact eD 14 72 rfl (by decide) _,bm hv 14 _ rfl,by rw[HW.out,fI _ _ _ _ _ _ (by decide) (by decide) (by decide)]⟩)
         have Mr:ρ (.tmp 11)=.pointer (some ⟨R,0,none⟩):=by rw[cx,ha];exact(qP 11 (by decide)).trans Tv
         have qc:∀v,ρ (.const v)=v:=fun v=>by rw[cx];rfl
         clear cx
         go_simp
        .obtain rfl:=Option.some.inj ho
         have jj:d 13=true:=bh ⟨13,.data⟩ (by simp) rfl
         obtain rfl:W'=w1':=by
          rw[HW.out]
          unfold sk
          rw[hd,jj]
          rfl
         refine step_skip (n:=.skip) (W':=wF) rfl rfl (.inl rfl) (fun ρ cx=>?_) (hK _ _ ⟨V,ha,fun k hk=>by
          by_cases e:k=15
          .subst e;trivial
          .exact hv k (by simpa[e] using hk),by unfold sk;simp⟩)
         have q13:ρ (.tmp 71)=.slice (some ⟨g7,0,none⟩) (j+1) G7:=by rw[cx,ha];exact(jb 13 71 rfl (by decide) oS).trans (hv 13 (bh ⟨13,.data⟩ (by simp) rfl))
         have q14:ρ (.tmp 72)=.pointer (some ⟨R,3,none⟩):=by rw[cx,ha];exact(jb 14 72 rfl (by decide) oS).trans (hv 14 (bh ⟨14,.data⟩ (by simp) rfl))
         clear cx
         rw[<-TG.out]
         go_simp
      .obtain rfl:kj=0:=by omega
       have RZ:j=mm:=by have:=j8.out;omega
       subst RZ
       rw[PH.out] at oE
       have dK:j=(fA vs).length:=by rw[<-PH.out];simp
       go_wp2_with fail
       go_meet
       case rel=>exact⟨⟨1,0,0,fA vs⟩,ae,Ge,j,bu,dK,BR,oE,BB,bel⟩
    .rw[if_neg (fun h=>m3 h.2),if_neg (fun h=>by rw[kB] at h;exact absurd h.1 (by decide)),if_neg (fun h=>by rw[kB] at h;exact absurd h.1 (by decide)),if_neg (fun h=>by rw[kB] at h;exact absurd h.1 (by decide))] at bu
     have m3':¬(k:Int).tmod 3=0:=by rw[Int.tmod_eq_emod_of_nonneg (by omega)];omega
     have bB:(wd.toList==[98,97,116,99,104])=true:=by rw[ag,kB];rfl
     have bS:(wd.toList==[115,101,97,108])=false:=by rw[ag,kB];rfl
     have bM:(wd.toList==[109,101,114,103,101])=false:=by rw[ag,kB];rfl
     have bD:(wd.toList==[100,114,111,112])=false:=by rw[ag,kB];rfl
     obtain⟨rfl,rfl⟩:PR=li/\PE=1:=by rw[hR.out,hE.out,bu];exact⟨rfl,rfl⟩
     clear bu hR hE
     have r0:=BB.cell 0
     have r1:=BB.cell 1
     have r2:=BB.cell 2
     have r3:=BB.cell 3
     have f0:=BB.free 0
     have f1:=BB.free 1
     have f2:=BB.free 2
     have f3:=BB.free 3
     have lR:=BB.lt
     go_wp2_with fail
     have B9:=dO BB (.int .i64 0) (.int .i64 0) (.int .i64 0) (.slice none 0 0)
     have aq:=bH fN (Nat.le_refl _) (.int .i64 0) (.int .i64 0) (.int .i64 0) (.slice none 0 0)
     have i0:=B9.cell 0
     have i1:=B9.cell 1
     have i2:=B9.cell 2
     have i3:=B9.cell 3
     exact bodyPost_ret (v:=.tuple #[.agg #[.int .i64 0,.int .i64 0,.int .i64 0,.slice none 0 0],.int .i64 1]) (by simp[results,Tryz.results95,go_sem,i0,i1,i2,i3]) rfl ⟨none,0,rfl,World.ownsRow_nil _ _ _ _,aq⟩
   rw[if_neg (fun h=>kB h.1)] at bu
   by_cases kS:bytes wd=jv
   .by_cases lE:k=2
    .subst lE
     rw[if_pos ⟨kS,rfl⟩] at bu
     obtain⟨v0,v1,rfl⟩:∃v0 v1,vs=[v0,v1]:=by
      match vs,hk.out with
      | [a,b],_=>exact⟨a,b,rfl⟩
     have bB:(wd.toList==[98,97,116,99,104])=false:=by rw[ag,kS];rfl
     have bS:(wd.toList==[115,101,97,108])=true:=by rw[ag,kS];rfl
     have bM:(wd.toList==[109,101,114,103,101])=false:=by rw[ag,kS];rfl
     have bD:(wd.toList==[100,114,111,112])=false:=by rw[ag,kS];rfl
     replace bu:=hide bu
     obtain⟨gv,ov,rfl,Wf,rq⟩:=(jE eN).row.at (by simp)
     have n0:=rq 0 _ rfl
     have n1:=rq 1 _ rfl
     simp only[Nat.add_zero] at n0
     have r0:=BR.cell 0
     have r1:=BR.cell 1
     have r2:=BR.cell 2
     have r3:=BR.cell 3
     have f0:=BR.free 0
     have f1:=BR.free 1
     have f2:=BR.free 2
     have f3:=BR.free 3
     have lR:=BR.lt
     clear rq
     have RR:¬gv=R:=fun h=>nH eN BR (by decide) (by rw[h];rfl)
     have WQ:¬R=gv:=fun h=>RR h.symm
     go_upto_region 18 with fail
     go_region_held3 (fun w'=>w'.cell? ⟨gv,ov,none⟩=some (.int .i64 v0)/\w'.cell? ⟨gv,ov+1,none⟩=some (.int .i64 v1)) (go_keep) (fail)
     all_goals go_wp2_with fail
     all_goals go_meet
     case rel=>
      exact⟨⟨2,v0,v1,[]⟩,none,0,0,bu,rfl,dO BR (.int .i64 2) (.int .i64 v0) (.int .i64 v1) (.slice none 0 0),World.ownsRow_nil _ _ _ _,(((BB.other 0 _ (by omega)).other 1 _ (by omega)).other 2 _ (by omega)).other 3 _ (by omega),bH (ai fN) (Nat.le_trans al.size lc) (.int .i64 2) (.int .i64 v0) (.int .i64 v1) (.slice none 0 0)⟩
    .rw[if_neg (fun h=>lE h.2),if_neg (fun h=>by rw[kS] at h;exact absurd h.1 (by decide)),if_neg (fun h=>by rw[kS] at h;exact absurd h.1 (by decide))] at bu
     have Ua:¬(k:Int)=2:=by omega
     have bB:(wd.toList==[98,97,116,99,104])=false:=by rw[ag,kS];rfl
     have bS:(wd.toList==[115,101,97,108])=true:=by rw[ag,kS];rfl
     have bM:(wd.toList==[109,101,114,103,101])=false:=by rw[ag,kS];rfl
     have bD:(wd.toList==[100,114,111,112])=false:=by rw[ag,kS];rfl
     obtain⟨rfl,rfl⟩:PR=li/\PE=1:=by rw[hR.out,hE.out,bu];exact⟨rfl,rfl⟩
     clear bu hR hE
     have r0:=BB.cell 0
     have r1:=BB.cell 1
     have r2:=BB.cell 2
     have r3:=BB.cell 3
     have f0:=BB.free 0
     have f1:=BB.free 1
     have f2:=BB.free 2
     have f3:=BB.free 3
     have lR:=BB.lt
     go_wp2_with fail
     have B9:=dO BB (.int .i64 0) (.int .i64 0) (.int .i64 0) (.slice none 0 0)
     have aq:=bH fN (Nat.le_refl _) (.int .i64 0) (.int .i64 0) (.int .i64 0) (.slice none 0 0)
     have i0:=B9.cell 0
     have i1:=B9.cell 1
     have i2:=B9.cell 2
     have i3:=B9.cell 3
     exact bodyPost_ret (v:=.tuple #[.agg #[.int .i64 0,.int .i64 0,.int .i64 0,.slice none 0 0],.int .i64 1]) (by simp[results,Tryz.results95,go_sem,i0,i1,i2,i3]) rfl ⟨none,0,rfl,World.ownsRow_nil _ _ _ _,aq⟩
   rw[if_neg (fun h=>kS h.1)] at bu
   by_cases kM:bytes wd=ic
   .by_cases lE:k=2
    .subst lE
     rw[if_pos ⟨kM,rfl⟩] at bu
     obtain⟨v0,v1,rfl⟩:∃v0 v1,vs=[v0,v1]:=by
      match vs,hk.out with
      | [a,b],_=>exact⟨a,b,rfl⟩
     have bB:(wd.toList==[98,97,116,99,104])=false:=by rw[ag,kM];rfl
     have bS:(wd.toList==[115,101,97,108])=false:=by rw[ag,kM];rfl
     have bM:(wd.toList==[109,101,114,103,101])=true:=by rw[ag,kM];rfl
     have bD:(wd.toList==[100,114,111,112])=false:=by rw[ag,kM];rfl
     replace bu:=hide bu
     obtain⟨gv,ov,rfl,Wf,rq⟩:=(jE eN).row.at (by simp)
     have n0:=rq 0 _ rfl
     have n1:=rq 1 _ rfl
     simp only[Nat.add_zero] at n0
     have r0:=BR.cell 0
     have r1:=BR.cell 1
     have r2:=BR.cell 2
     have r3:=BR.cell 3
     have f0:=BR.free 0
     have f1:=BR.free 1
     have f2:=BR.free 2
     have f3:=BR.free 3
     have lR:=BR.lt
     clear rq
     have RR:¬gv=R:=fun h=>nH eN BR (by decide) (by rw[h];rfl)
     have WQ:¬R=gv:=fun h=>RR h.symm
     go_upto_region 20 with fail
     go_region_held3 (fun w'=>w'.cell? ⟨gv,ov,none⟩=some (.int .i64 v0)/\w'.cell? ⟨gv,ov+1,none⟩=some (.int .i64 v1)) (go_keep) (fail)
     all_goals go_wp2_with fail
     all_goals go_meet
     case rel=>
      exact⟨⟨3,v0,v1,[]⟩,none,0,0,bu,rfl,dO BR (.int .i64 3) (.int .i64 v0) (.int .i64 v1) (.slice none 0 0),World.ownsRow_nil _ _ _ _,(((BB.other 0 _ (by omega)).other 1 _ (by omega)).other 2 _ (by omega)).other 3 _ (by omega),bH (ai fN) (Nat.le_trans al.size lc) (.int .i64 3) (.int .i64 v0) (.int .i64 v1) (.slice none 0 0)⟩
    .rw[if_neg (fun h=>lE h.2),if_neg (fun h=>by rw[kM] at h;exact absurd h.1 (by decide))] at bu
     have Ua:¬(k:Int)=2:=by omega
     have bB:(wd.toList==[98,97,116,99,104])=false:=by rw[ag,kM];rfl
     have bS:(wd.toList==[115,101,97,108])=false:=by rw[ag,kM];rfl
     have bM:(wd.toList==[109,101,114,103,101])=true:=by rw[ag,kM];rfl
     have bD:(wd.toList==[100,114,111,112])=false:=by rw[ag,kM];rfl
     obtain⟨rfl,rfl⟩:PR=li/\PE=1:=by rw[hR.out,hE.out,bu];exact⟨rfl,rfl⟩
     clear bu hR hE
     have r0:=BB.cell 0
     have r1:=BB.cell 1
     have r2:=BB.cell 2
     have r3:=BB.cell 3
     have f0:=BB.free 0
     have f1:=BB.free 1
     have f2:=BB.free 2
     have f3:=BB.free 3
     have lR:=BB.lt
     go_wp2_with fail
     have B9:=dO BB (.int .i64 0) (.int .i64 0) (.int .i64 0) (.slice none 0 0)
     have aq:=bH fN (Nat.le_refl _) (.int .i64 0) (.int .i64 0) (.int .i64 0) (.slice none 0 0)
     have i0:=B9.cell 0
     have i1:=B9.cell 1
     have i2:=B9.cell 2
     have i3:=B9.cell 3
     exact bodyPost_ret (v:=.tuple #[.agg #[.int .i64 0,.int .i64 0,.int .i64 0,.slice none 0 0],.int .i64 1]) (by simp[results,Tryz.results95,go_sem,i0,i1,i2,i3]) rfl ⟨none,0,rfl,World.ownsRow_nil _ _ _ _,aq⟩
   rw[if_neg (fun h=>kM h.1)] at bu
   by_cases kD:bytes wd=jz
   .by_cases CY:k=1
    .subst CY
     rw[if_pos ⟨kD,rfl⟩] at bu
     obtain⟨v0,rfl⟩:∃v0,vs=[v0]:=by
      match vs,hk.out with
      | [a],_=>exact⟨a,rfl⟩
     have bB:(wd.toList==[98,97,116,99,104])=false:=by rw[ag,kD];rfl
     have bS:(wd.toList==[115,101,97,108])=false:=by rw[ag,kD];rfl
     have bM:(wd.toList==[109,101,114,103,101])=false:=by rw[ag,kD];rfl
     have bD:(wd.toList==[100,114,111,112])=true:=by rw[ag,kD];rfl
     replace bu:=hide bu
     obtain⟨gv,ov,rfl,Wf,rq⟩:=(jE eN).row.at (by simp)
     have n0:=rq 0 _ rfl
     simp only[Nat.add_zero] at n0
     have r0:=BR.cell 0
     have r1:=BR.cell 1
     have r2:=BR.cell 2
     have r3:=BR.cell 3
     have f0:=BR.free 0
     have f1:=BR.free 1
     have f2:=BR.free 2
     have f3:=BR.free 3
     have lR:=BR.lt
     clear rq
     go_wp2_with fail
     go_meet
     case rel=>
      exact⟨⟨4,0,v0,[]⟩,none,0,0,bu,rfl,dO BR (.int .i64 4) (.int .i64 0) (.int .i64 v0) (.slice none 0 0),World.ownsRow_nil _ _ _ _,(((BB.other 0 _ (by omega)).other 1 _ (by omega)).other 2 _ (by omega)).other 3 _ (by omega),bH fN (Nat.le_trans al.size lc) (.int .i64 4) (.int .i64 0) (.int .i64 v0) (.slice none 0 0)⟩
    .rw[if_neg (fun h=>CY h.2)] at bu
     have ZW:¬(k:Int)=1:=by omega
     have bB:(wd.toList==[98,97,116,99,104])=false:=by rw[ag,kD];rfl
     have bS:(wd.toList==[115,101,97,108])=false:=by rw[ag,kD];rfl
     have bM:(wd.toList==[109,101,114,103,101])=false:=by rw[ag,kD];rfl
     have bD:(wd.toList==[100,114,111,112])=true:=by rw[ag,kD];rfl
     obtain⟨rfl,rfl⟩:PR=li/\PE=1:=by rw[hR.out,hE.out,bu];exact⟨rfl,rfl⟩
     clear bu hR hE
     have r0:=BB.cell 0
     have r1:=BB.cell 1
     have r2:=BB.cell 2
     have r3:=BB.cell 3
     have f0:=BB.free 0
     have f1:=BB.free 1
     have f2:=BB.free 2
     have f3:=BB.free 3
     have lR:=BB.lt
     go_wp2_with fail
     have B9:=dO BB (.int .i64 0) (.int .i64 0) (.int .i64 0) (.slice none 0 0)
     have aq:=bH fN (Nat.le_refl _) (.int .i64 0) (.int .i64 0) (.int .i64 0) (.slice none 0 0)
     have i0:=B9.cell 0
     have i1:=B9.cell 1
     have i2:=B9.cell 2
     have i3:=B9.cell 3
     exact bodyPost_ret (v:=.tuple #[.agg #[.int .i64 0,.int .i64 0,.int .i64 0,.slice none 0 0],.int .i64 1]) (by simp[results,Tryz.results95,go_sem,i0,i1,i2,i3]) rfl ⟨none,0,rfl,World.ownsRow_nil _ _ _ _,aq⟩
   rw[if_neg (fun h=>kD h.1)] at bu
   have bB:(wd.toList==[98,97,116,99,104])=false:=by rw[ag];exact beq_eq_false_iff_ne.2 kB
   have bS:(wd.toList==[115,101,97,108])=false:=by rw[ag];exact beq_eq_false_iff_ne.2 kS
   have bM:(wd.toList==[109,101,114,103,101])=false:=by rw[ag];exact beq_eq_false_iff_ne.2 kM
   have bD:(wd.toList==[100,114,111,112])=false:=by rw[ag];exact beq_eq_false_iff_ne.2 kD
   obtain⟨rfl,rfl⟩:PR=li/\PE=1:=by rw[hR.out,hE.out,bu];exact⟨rfl,rfl⟩
   clear bu hR hE
   have r0:=BB.cell 0
   have r1:=BB.cell 1
   have r2:=BB.cell 2
   have r3:=BB.cell 3
   have f0:=BB.free 0
   have f1:=BB.free 1
   have f2:=BB.free 2
   have f3:=BB.free 3
   have lR:=BB.lt
   go_wp2_with fail
   have B9:=dO BB (.int .i64 0) (.int .i64 0) (.int .i64 0) (.slice none 0 0)
   have aq:=bH fN (Nat.le_refl _) (.int .i64 0) (.int .i64 0) (.int .i64 0) (.slice none 0 0)
   have i0:=B9.cell 0
   have i1:=B9.cell 1
   have i2:=B9.cell 2
   have i3:=B9.cell 3
   exact bodyPost_ret (v:=.tuple #[.agg #[.int .i64 0,.int .i64 0,.int .i64 0,.slice none 0 0],.int .i64 1]) (by simp[results,Tryz.results95,go_sem,i0,i1,i2,i3]) rfl ⟨none,0,rfl,World.ownsRow_nil _ _ _ _,aq⟩
  case rest=>
   obtain⟨r,a',G',ln,hr,dK,B3,o3,B0,m8⟩:=hcut
   have Of:PR=Gz (some r):=by rw[hR.out,hr.out]
   have Px:PE=aV r:=by rw[hE.out,hr.out];rfl
   clear bu hR hE hr eN BR BB fN ay pm hk
   obtain⟨a5,G5,e5,S3,_,_⟩:=aY.ofOwn bZ (by decide) o3
   simp only[Value.slice.injEq,true_and] at e5
   obtain⟨rfl,rfl⟩:=e5
   have c:=xi r a' G' ln wc S3 dK
   have x0:=B3.cell 0
   have x1:=B3.cell 1
   have x2:=B3.cell 2
   have x3:=B3.cell 3
   have lR:=B3.lt
   have Sm:w.heap.size<=R:=Nat.le_trans al.size lc
   by_cases h0:aV r=0
   .obtain rfl:PR=r:=by rw[Of];exact if_pos h0
    obtain rfl:PE=0:=by rw[Px,h0]
    rw[h0] at c
    clear Of Px
    obtain⟨K,s',m',l⟩:=PR
    simp only at*
    replace dK:=hide dK
    clear h0
    go_wp2_with fail
    go_at_call 59
    refine c.mono ?_
    rintro e w8 ⟨rfl,b8⟩
    have B8:=B3.keep b8 B3.lt
    have BB:=B0.keep b8 B0.lt
    have o8:=dt o3 b8
    have fN:=aa m8 b8
    have y0:=B8.cell 0
    have y1:=B8.cell 1
    have y2:=B8.cell 2
    have y3:=B8.cell 3
    have lR8:=B8.lt
    have r0:=BB.cell 0
    have r1:=BB.cell 1
    have r2:=BB.cell 2
    have r3:=BB.cell 3
    have f0:=BB.free 0
    have f1:=BB.free 1
    have f2:=BB.free 2
    have f3:=BB.free 3
    have lW:=BB.lt
    clear x0 x1 x2 x3 lR
    go_wp2_with fail
    have B9:=dO BB (.int .i64 K) (.int .i64 s') (.int .i64 m') (.slice a' ln G')
    have aq:=bH fN (Nat.le_refl _) (.int .i64 K) (.int .i64 s') (.int .i64 m') (.slice a' ln G')
    have o9:=yC o8 BB (by decide) (.int .i64 K) (.int .i64 s') (.int .i64 m') (.slice a' ln G')
    have i0:=B9.cell 0
    have i1:=B9.cell 1
    have i2:=B9.cell 2
    have i3:=B9.cell 3
    exact bodyPost_ret (v:=.tuple #[.agg #[.int .i64 K,.int .i64 s',.int .i64 m',.slice a' ln G'],.int .i64 0]) (by simp[results,Tryz.results95,go_sem,i0,i1,i2,i3]) rfl ⟨a',G',by first|rfl|rw[<-dK.out],by first|exact o9| (rw[<-dK.out];exact o9),aq⟩
   .obtain rfl:PR=li:=by rw[Of];exact if_neg h0
    rw[<-Px] at c h0
    have hd:decide (PE=0)=false:=decide_eq_false h0
    clear Of Px
    obtain⟨K,s',m',l⟩:=r
    simp only at*
    replace dK:=hide dK
    go_wp2_with fail
    go_at_call 59
    refine c.mono ?_
    rintro e w8 ⟨rfl,b8⟩
    have BB:=B0.keep b8 B0.lt
    have fN:=aa m8 b8
    have r0:=BB.cell 0
    have r1:=BB.cell 1
    have r2:=BB.cell 2
    have r3:=BB.cell 3
    have f0:=BB.free 0
    have f1:=BB.free 1
    have f2:=BB.free 2
    have f3:=BB.free 3
    have lW:=BB.lt
    clear x0 x1 x2 x3 lR
    go_wp2_with fail
    have B9:=dO BB (.int .i64 0) (.int .i64 0) (.int .i64 0) (.slice none 0 0)
    have aq:=bH fN (Nat.le_refl _) (.int .i64 0) (.int .i64 0) (.int .i64 0) (.slice none 0 0)
    have i0:=B9.cell 0
    have i1:=B9.cell 1
    have i2:=B9.cell 2
    have i3:=B9.cell 3
    exact bodyPost_ret (v:=.tuple #[.agg #[.int .i64 0,.int .i64 0,.int .i64 0,.slice none 0 0],.int .i64 PE]) (by simp[results,Tryz.results95,go_sem,i0,i1,i2,i3]) rfl ⟨none,0,rfl,World.ownsRow_nil _ _ _ _,aq⟩
end Go.Proofs.YtoonnbhoiocoeaaGreatDoor
namespace Go.Proofs.YtoonnbhoiocoeaaGreatDoor
open Go.RowKit
theorem FR (s:ByteArray)(w:World)(hg:Gl w)(hs:s.size<=100000):
  Calls Tryz.prog 93 #[.string s,.string ⟨#[10]⟩] w fun e w'=>∃(PS:List ByteArray) (n:Nat),e=.returned (.slice (some ⟨w.heap.size,0,none⟩) n n)/\n=PS.length/\n<=100001/\PS.map bytes=pa (bytes s)/\w'=w.alloc (.cells (PS.map Value.string).toArray 9):=by
 obtain⟨m,hm⟩:=hg.max
 have h1:1<=(⟨#[10]⟩:ByteArray).size:=by decide
 have fF:=Lib.countB_le ⟨#[10]⟩ h1 s.size s (Nat.le_refl _)
 have aw:=Lib.splitB_all ⟨#[10]⟩ h1 1 _ s rfl
 have c:=Tryz.strings_genSplit s ⟨#[10]⟩ 1 (-1) (Lib.countB s ⟨#[10]⟩+1) m w (by omega) hm h1 (by decide) (by decide) (by decide) (by rw[if_pos (by decide)];omega)
 rw[Nat.add_sub_cancel,aw] at c
 have e2:Lib.cellsOf (Lib.splitB ⟨#[10]⟩ 1 (Lib.countB s ⟨#[10]⟩) s) (Lib.countB s ⟨#[10]⟩+1)=((Lib.splitB ⟨#[10]⟩ 1 (Lib.countB s ⟨#[10]⟩) s).map Value.string).toArray:=by rw[<-aw];exact Lib.cellsOf_full _
 rw[e2] at c
 have hp:=DJ s
 obtain⟨n,hn⟩:∃n,n=Lib.countB s ⟨#[10]⟩+1:=⟨_,rfl⟩
 rw[<-hn] at c aw
 generalize Lib.splitB ⟨#[10]⟩ 1 (Lib.countB s ⟨#[10]⟩) s=PS at*
 have Eq:n<=100001:=by omega
 replace hn:=hide hn
 replace aw:=hide aw
 replace hp:=hide hp
 clear fF e2
 go_enter Tryz.func93,Tryz.ntmps93
 go_wp2_with fail
 go_at_call 125
 refine c.mono ?_
 rintro e w' ⟨rfl,rfl⟩
 go_wp2_with fail
 go_ret
 exact⟨PS,n,rfl,aw.out.symm,Eq,hp.out,rfl⟩
theorem qf (s:ByteArray)(a b:Nat):bytes (s.extract a b)=((bytes s).drop a).take (b-a):=by
 simp[bytes,ByteArray.data_extract,Array.toList_extract,List.extract_eq_take_drop]
theorem Fu (s:ByteArray)(w:World)(h0:0<s.size)(hs:s.size<=100000):
  Calls Tryz.prog 126 #[.string s,.string ⟨#[10]⟩] w fun e w'=>e=.returned (.bool (decide ((bytes s).drop (s.size-1)=[10])))/\w'=w:=by
 have h1:(1:Int)<=s.size:=by omega
 have h2:(s.size:Int)-1<=s.size:=by omega
 have h3:(0:Int)<=(s.size:Int)-1:=by omega
 go_enter Tryz.func126,Tryz.ntmps126
 go_wp2_with fail
 go_ret
 refine⟨?_,rfl⟩
 show Ending.returned (Value.bool ((s.extract (s.size-1) s.size).toList==[10]))=_
 rw[ag,qf,List.take_of_length_le (by rw[List.length_drop,dM];omega)]
 congr 2
 rw[Bool.eq_iff_iff]
 simp
theorem HH (s:ByteArray)(w:World)(h0:0<s.size)(hs:s.size<=100000):
  Calls Tryz.prog 94 #[.string s,.string ⟨#[10]⟩] w fun e w'=>e=.returned (.bool (decide ((bytes s).drop (s.size-1)=[10])))/\w'=w:=by
 have c:=fun W=>Fu s W h0 hs
 generalize decide ((bytes s).drop (s.size-1)=[10])=D at*
 go_enter Tryz.func94,Tryz.ntmps94
 go_wp2_with fail
 go_at_call 126
 refine(c _).mono ?_
 rintro e w2 ⟨rfl,rfl⟩
 go_wp2_with fail
 go_ret
 exact⟨rfl,rfl⟩
theorem rY (s:ByteArray)(k0 most:Nat)(w:World)(hg:Gl w)(hs:s.size<=60000)(vI:most+k0=60):
  Calls Tryz.prog 56 #[.string s,.int .i64 (most:Int)] w fun e w'=>∃(a:Option Addr) (n G N:Nat) (l:List bF),e=.returned (.tuple #[.slice a n G,.int .i64 (N:Int),.int .i64 (scan k0 (bytes s)).2])/\fU w.heap.size w' a n G l/\l.map (·.r)=(tail k0 (bytes s)).1/\N+(tail k0 (bytes s)).2.length=(bytes s).length/\Below w.heap.size w w':=by
 obtain⟨i0,hi,bU,bi,bk⟩:=info_parts od
 generalize Gf:(scan k0 (bytes s)).2=SE at*
 generalize D6:tail k0 (bytes s)=TL at*
 replace Gf:=hide Gf
 replace D6:=hide D6
 go_enter Tryz.func56,Tryz.ntmps56
 go_wp2_with fail
 go_at_call 93
 refine(FR s w hg (by omega)).mono ?_
 rintro e w1 ⟨PS,n,rfl,hn,Eq,Co,rfl⟩
 have BP:=ac.laid w (PS.map Value.string) 9 _ rfl
 have bel:=newB (Below.refl w.heap.size w) (.cells (PS.map Value.string).toArray 9)
 replace hn:=hide hn
 replace Co:=hide Co
 generalize w.alloc _=w1 at*
 go_wp2_with fail
 go_loopw [7,8,16] (fun s7 s8 Ra wr=>∃(i j G N:Nat) (ao:Option Addr) (l:List bF) (rest:List UInt8),s7=.slice ao j G/\s8=.int .i64 (N:Int)/\Ra=.int .i64 (i:Int)/\fU w.heap.size wr ao j G l/\j<=most/\Hid ((PS.drop i).map bytes=pa rest)/\Hid (SE=(scan (k0+j) rest).2)/\Hid (TL=(l.map (·.r)++(tail (k0+j) rest).1,(tail (k0+j) rest).2))/\N+rest.length=s.size/\ac wr w.heap.size (PS.map Value.string) 9/\Below w.heap.size w wr) (fun _ _ Ra _=>n-(intOf Ra).toNat)
 case atStart=>exact⟨0,0,0,0,none,[],bytes s,rfl,rfl,rfl,fU.nil _ _,Nat.zero_le _,Co,Gf.out.symm,by show _=_;rw[<-D6.out];rfl,by rw[dM];omega,BP,bel⟩
 case round=>
  clear BP bel Co
  obtain⟨i,j,G,N,ao,l,rest,rfl,rfl,rfl,R,hj,Co,hsc,CK,hN,BP,bel⟩:=hrel
  obtain⟨t,ht,hit⟩:∃t,PS[i]? =some t/\(pa rest)=bytes t::((PS.drop (i+1)).map bytes):=by
   have hp:=Co.out
   cases hd:PS.drop i with
   |nil=>
    rw[hd] at hp
    exact absurd hp.symm (P8 rest)
   |cons t r=>
    have vT:PS[i]? =some t:=by
     have:=congrArg (·[0]?) hd
     simpa using this
    have CV:PS.drop (i+1)=r:=by rw[<-List.tail_drop,hd];rfl
    refine⟨t,vT,?_⟩
    rw[<-hp,hd,CV]
    rfl
  have Yb:i<n:=by rw[hn.out];exact(List.getElem?_eq_some_iff.1 ht).1
  have c0:wr.cell? ⟨w.heap.size,i,none⟩=some (.string t):=(BP.cell i).trans (by rw[List.getElem?_map,ht];rfl)
  have lP:=BP.lt
  have Z6:(i:Int)<n:=by omega
  have iy:=JS rest
  rw[hit] at iy
  replace ht:=hide ht
  by_cases qr:rest=[]
  .subst qr
   have EH:bytes t=[]:=by
    have:re []=false:=rfl
    rw[this] at iy
    exact(List.cons.inj iy).1
   obtain rfl:t=⟨#[]⟩:=by rw[<-rZ t,EH];rfl
   have LU:SE=0:=by rw[hsc.out,iT]
   have mB:TL=(l.map (·.r),[]):=by rw[CK.out,dL (by rw[oy];simp),List.append_nil]
   subst LU
   clear iy hit Co hsc CK
   go_wp2_with fail
   go_ret3
   exact⟨_,_,_,N,l,rfl,R,by rw[mB],by rw[mB,dM];exact hN,bel⟩
  .have zO:bytes t≠[]:=by
    intro h
    rw[h] at iy
    split at iy
    .have:=congrArg List.length (List.cons.inj iy).1
     simp at this
    .exact qr (List.cons.inj iy).1.symm
   have XM:0<t.size:=by
    rw[<-dM]
    exact List.length_pos_iff.2 zO
   have Qy:(bytes t).length<=rest.length:=by
    cases hy:re rest with
    |false=>
     rw[hy,if_neg (by decide)] at iy
     rw[(List.cons.inj iy).1]
     exact Nat.le_refl _
    |true=>
     rw[hy,if_pos rfl] at iy
     rw[(List.cons.inj iy).1]
     rcases jG rest with⟨h1,_⟩| ⟨_,h2,_⟩
     .rw[hy] at h1;cases h1
     .conv=>rhs;rw[h2]
      simp
   have Z9:t.size<=60000:=by rw[<-dM];omega
   have Lz:(t.toList==[])=false:=by rw[ag];exact beq_eq_false_iff_ne.2 zO
   have TH:¬t.toList=[]:=by rw[ag];exact zO
   have ZG:¬t=⟨#[]⟩:=by intro h;subst h;exact zO rfl
   have cH:=fun W=>HH t W XM (by omega)
   replace zO:=hide zO
   cases hy:re rest with
   |false=>
    rw[hy,if_neg (by decide)] at iy
    have EH:bytes t=rest:=(List.cons.inj iy).1
    have xW:∀c∈rest,c≠10:=by
     rcases jG rest with⟨_,_,_,h4⟩| ⟨h1,_⟩
     .exact h4
     .rw[hy] at h1;cases h1
    have hD:decide ((bytes t).drop (t.size-1)=[10])=false:=by
     refine decide_eq_false (fun h=>?_)
     have:(10:UInt8)∈(bytes t).drop (t.size-1):=by rw[h];simp
     exact xW 10 (by rw[<-EH];exact List.mem_of_mem_drop this) rfl
    rw[hD] at cH
    have hE:fJ rest=8:=by unfold fJ;rw[hy];rfl
    have LU:SE=8:=by rw[hsc.out,mj qr (by rw[hE];decide),hE]
    have mB:TL=(l.map (·.r),rest):=by rw[CK.out,dL (by rw[hE];simp),List.append_nil]
    subst LU
    clear iy hit Co hsc CK hD hE Qy xW
    go_wp2_with fail
    go_at_call 94
    refine(cH _).mono ?_
    rintro e w2 ⟨rfl,rfl⟩
    go_wp2_with fail
    go_ret3
    exact⟨_,_,_,N,l,rfl,R,by rw[mB],by rw[mB,dM];exact hN,bel⟩
   |true=>
    rw[hy,if_pos rfl] at iy
    obtain⟨EH,Bl⟩:=List.cons.inj iy
    have Lw:rest=mK rest++10::pv rest:=by
     rcases jG rest with⟨h1,_⟩| ⟨_,h2,_⟩
     .rw[hy] at h1;cases h1
     .exact h2
    have Nm:t.size=(mK rest).length+1:=by rw[<-dM,EH];simp
    have hD:decide ((bytes t).drop (t.size-1)=[10])=true:=by
     refine decide_eq_true ?_
     rw[EH,Nm,Nat.add_sub_cancel,List.drop_left]
    rw[hD] at cH
    have hex:t.extract 0 (t.size-1)=iz (mK rest):=by
     rw[<-rZ (t.extract 0 (t.size-1)),qf,EH,Nm]
     simp
    have hE:fJ rest=hI (iz (mK rest)):=by unfold fJ;rw[hy];rfl
    have hR:kt rest=dB (iz (mK rest)):=by unfold kt;rw[hy];rfl
    have hB:ge rest=pv rest:=by unfold ge;rw[hy];rfl
    have cR:=fun W g=>JV (iz (mK rest)) W g (by rw[io];omega)
    rw[<-hE,<-hR] at cR
    have aw:rest.length=t.size+(pv rest).length:=by
     have:=congrArg List.length Lw
     simp at this
     omega
    have um:fJ rest≠0->SE=fJ rest/\TL=(l.map (·.r),rest):=by
     intro h
     exact⟨by rw[hsc.out,mj qr h],by rw[CK.out,dL (fun h'=>h h'.2),List.append_nil]⟩
    have rX:fJ rest=0->j=most->SE=2/\TL=(l.map (·.r),rest):=by
     rintro h rfl
     have Yd:k0+j=60:=by omega
     exact⟨by rw[hsc.out,Yd,kh qr h],by rw[CK.out,dL (fun h'=>by omega),List.append_nil]⟩
    have fe:fJ rest=0->j≠most->SE=(scan (k0+(j+1)) (pv rest)).2/\TL=(l.map (·.r)++[kt rest]++(tail (k0+(j+1)) (pv rest)).1,(tail (k0+(j+1)) (pv rest)).2):=by
     intro h h'
     refine⟨by rw[hsc.out,ki qr h (by omega),hB,Nat.add_assoc],?_⟩
     rw[CK.out,ke ⟨by omega,h⟩,hB,Nat.add_assoc]
     simp
    have ma:(t.size:Int)-1=((t.size-1:Nat):Int):=by omega
    generalize kt rest=PR at*
    generalize fJ rest=PE at*
    obtain⟨K,s',m',es⟩:=PR
    simp only at*
    obtain⟨ln,dK⟩:∃ln,ln=es.length:=⟨_,rfl⟩
    rw[<-dK] at cR
    replace dK:=hide dK
    replace Bl:=hide Bl
    replace aw:=hide aw
    clear iy hit Co hsc CK hD hE hR hB Qy Nm Lw EH
    go_wp2_with fail
    go_at_call 94
    refine(cH _).mono ?_
    rintro e w2 ⟨rfl,rfl⟩
    go_wp2_with fail
    go_at_call 95
    have gr:=hg.call bel
    refine(cR _ gr).mono ?_
    rintro e w4 ⟨a4,G4,rfl,o4,b4⟩
    have aC:=aa bel b4
    have R4:=R.call b4
    have BX:=ac.laid w4 [.int .i64 K,.int .i64 s',.int .i64 m',.slice a4 ln G4] 73 _ rfl
    have bq:=newB (Below.refl w4.heap.size w4) (.cells #[.int .i64 K,.int .i64 s',.int .i64 m',.slice a4 ln G4] 73)
    have bE:=aa aC bq
    have R5:=R4.call bq
    replace BP:=(BP.keep b4 BP.lt).keep bq (Nat.lt_of_lt_of_le BP.lt b4.size)
    have o5:=jO (o4.alloc (.cells #[.int .i64 K,.int .i64 s',.int .i64 m',.slice a4 ln G4] 73)) bel.size
    by_cases rK:PE=0
    .subst rK
     by_cases h6:j=most
     .obtain⟨HI,mB⟩:=rX rfl h6
      subst HI
      subst h6
      have Pu:(j:Int)<=j:=Int.le_refl _
      have ZB:decide ((j:Int)<=j)=true:=decide_eq_true Pu
      clear um rX fe
      go_upto_region 10 with fail
      generalize w4.alloc _=w5 at*
      go_wp2_with fail
      go_ret3
      exact⟨_,_,_,N,l,rfl,R5,by rw[mB],by rw[mB,dM];exact hN,bE⟩
     .obtain⟨HI,mB⟩:=fe rfl h6
      have RZ:j<most:=by omega
      have Pu:¬(most:Int)<=j:=by omega
      have ZB:decide ((most:Int)<=j)=false:=decide_eq_false Pu
      have VC:N+t.size+(pv rest).length=s.size:=by have:=aw.out;omega
      have XT:N+t.size<=60000:=by omega
      have Oy:IntKind.i64.wrap ((N:Int)+(t.size:Int))=((N+t.size:Nat):Int):=by rw[IntKind.wrap_i64];omega
      have L8:(N:Int)+(t.size:Int)=((N+t.size:Nat):Int):=by omega
      have T5:wrap64 ((N+t.size:Nat):Int)=((N+t.size:Nat):Int):=by unfold wrap64;omega
      have WG:(j+1)*48<=140737488355328:=by omega
      have U4:j+1<=maxLen:=by unfold maxLen;omega
      obtain⟨N',MU⟩:∃N',N'=N+t.size:=⟨_,rfl⟩
      rw[<-MU] at Oy L8 T5 VC
      have ZP:i+1<=n:=Yb
      have QB:n-(i+1)<n-i:=by omega
      replace HI:=hide HI
      replace mB:=hide mB
      replace MU:=hide MU
      clear um rX fe XT hex cH cR ma
      go_upto_region 14 with fail
      generalize w4.heap.size=gX at*
      generalize w4.alloc _=w5 at*
      have y0:=BX.cell 0
      have y1:=BX.cell 1
      have y2:=BX.cell 2
      have y3:=BX.cell 3
      have lX:=BX.lt
      go_wp2_with (at_builtin;refine aW w5 rfl (.tmp 49) (.tmp 51) 45 rfl w.heap.size 73 i0 _ 4 48 Tryz.underlying45 hi bU bi bk rfl (by decide) (.slice ao j G) j _ (by rfl) R5.row 1 #[.int .i64 K,.int .i64 s',.int .i64 m',.slice a4 ln G4] 73 (by rfl) (by rfl) (by simp[Value.oneCell']) (by decide) U4 WG bE.size ?_)
      intro v7 w7 jo iP xA
      have k7:=aH bE R5.row iP (Nat.le_refl _) bE.size
      have Xh:=BP.grown iP (fun q e h=>nH R5.row BP (by decide) (by rw[e,h]))
      obtain⟨a8,G8,rfl,R8⟩:=R5.snoc (x:=⟨⟨K,s',m',es⟩,a4,G4⟩) (by show World.ownsRow _ _ _ _ (.slice a4 es.length G4) es.length _;rw[<-dK.out];exact o5) (by unfold bF.cells;simp only;rw[<-dK.out];exact jo) iP
      go_wp2_with fail
      go_roundw
      case rel=>exact⟨i+1,j+1,G8,N',a8,l++[⟨⟨K,s',m',es⟩,a4,G4⟩],pv rest,rfl,by first|rfl|exact congrArg (Value.int .i64) T5,by go_num,R8,RZ,Bl,HI,by show _=_;rw[mB.out,List.map_append];rfl,VC,Xh,k7⟩
      case measure=>
       show n-(intOf _).toNat<n-(intOf _).toNat
       simp only[intOf]
       omega
    .obtain⟨HI,mB⟩:=um rK
     subst HI
     have hd:decide (SE=0)=false:=decide_eq_false rK
     clear rX fe
     go_upto_region 10 with fail
     generalize w4.alloc _=w5 at*
     go_wp2_with fail
     go_ret3
     exact⟨_,_,_,N,l,rfl,R5,by rw[mB],by rw[mB,dM];exact hN,bE⟩
end Go.Proofs.YtoonnbhoiocoeaaGreatDoor
namespace Go.Proofs.YtoonnbhoiocoeaaGreatDoor
open Go.RowKit
open Go.Lib (byteCells)
theorem Cv (d:Dk)(a1 a2:Option Addr)(c1 c2 n1 n2:Nat)(w:World)(hg:Gl w)(s1:Sl w a1 c1 (byteCells d.safe))(h1:n1=d.safe.length)(h2:n2=d.wait.length):
  Calls Tryz.prog 34 #[.agg #[.slice a1 n1 c1,.slice a2 n2 c2]] w fun e w'=>e=.returned (.int .i64 (cT d))/\Below w.heap.size w w':=by
 have B0:=ac.laid w [.slice a1 n1 c1,.slice a2 n2 c2] 27 _ rfl
 have bel:=newB (Below.refl w.heap.size w) (.cells #[.slice a1 n1 c1,.slice a2 n2 c2] 27)
 have hE:cT d=if 60000<n1+n2 then 2 else(scan 0 d.safe).2:=by unfold cT;rw[h1,h2]
 have x0:=B0.cell 0
 have x1:=B0.cell 1
 have l1:=B0.lt
 by_cases hb:60000<n1+n2
 .rw[if_pos hb] at hE
  rw[hE]
  clear hE
  replace h1:=hide h1
  replace h2:=hide h2
  by_cases mX:60000<n1
  .have NN:(60000:Int)<n1:=by omega
   have rf:decide ((60000:Int)<n1)=true:=decide_eq_true NN
   go_enter Tryz.func34,Tryz.ntmps34
   go_wp2_with fail
   go_ret
   exact⟨rfl,bel⟩
  .have rf:decide ((60000:Int)<n1)=false:=decide_eq_false (by omega)
   have NN:¬(60000:Int)<n1:=by omega
   have hw:IntKind.i64.wrap ((60000:Int)-n1)=60000-n1:=by rw[IntKind.wrap_i64];omega
   have vH:wrap64 ((60000:Int)-n1)=60000-n1:=by unfold wrap64;omega
   have nF:decide ((60000:Int)-n1<n2)=true:=decide_eq_true (by omega)
   have TW:(60000:Int)-n1<n2:=by omega
   go_enter Tryz.func34,Tryz.ntmps34
   go_wp2_with fail
   go_ret
   exact⟨rfl,bel⟩
 .rw[if_neg hb] at hE
  rw[hE]
  have Ja:d.safe.length<=60000:=by omega
  have c:=fun W g=>rY (iz d.safe) 0 60 W g (by rw[io];exact Ja) rfl
  rw[ju] at c
  generalize(scan 0 d.safe).2=E at*
  have pE:=p9 (s1.alloc (.cells #[.slice a1 n1 c1,.slice a2 n2 c2] 27)) h1
  have rf:decide ((60000:Int)<n1)=false:=decide_eq_false (by omega)
  have NN:¬(60000:Int)<n1:=by omega
  have hw:IntKind.i64.wrap ((60000:Int)-n1)=60000-n1:=by rw[IntKind.wrap_i64];omega
  have vH:wrap64 ((60000:Int)-n1)=60000-n1:=by unfold wrap64;omega
  have nF:decide ((60000:Int)-n1<n2)=false:=decide_eq_false (by omega)
  have TW:¬(60000:Int)-n1<n2:=by omega
  have g1:=hg.call bel
  clear hE
  replace h1:=hide h1
  replace h2:=hide h2
  go_enter Tryz.func34,Tryz.ntmps34
  go_wp2_with fail
  go_at_call 56
  refine(c _ g1).mono ?_
  rintro e w2 ⟨a,n,G,N,l,rfl,-,-,-,b2⟩
  go_wp2_with fail
  go_ret
  exact⟨rfl,aa bel b2⟩
end Go.Proofs.YtoonnbhoiocoeaaGreatDoor
