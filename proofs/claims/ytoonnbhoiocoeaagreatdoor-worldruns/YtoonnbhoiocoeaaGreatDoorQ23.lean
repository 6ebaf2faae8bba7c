/-
  slices.Equal at bytes; the reference's SameDisk; the reference's CheckDisk.
-/
import Derived.Maps.OwnSet
import Derived.Maps.Views
import Derived.Maps.StringElems
import Derived.Test.YtoonnbhoiocoeaaGreatDoorQ22
set_option maxHeartbeats 40000000
set_option maxRecDepth 100000
set_option linter.unusedVariables false
namespace Go.Proofs.YtoonnbhoiocoeaaGreatDoor
open Go.RowKit
open Go.Lib (byteCells)
theorem Jy (a1 a2:Option Addr)(c1 c2 n1 n2:Nat)(l m:List UInt8)(w:World)(r1:Sl w a1 c1 (byteCells l))(r2:Sl w a2 c2 (byteCells m))(rO:n1=l.length)(yO:n2=m.length):
  Calls Tryz.prog 86 #[.slice a1 n1 c1,.slice a2 n2 c2] w fun e w'=>e=.returned (.bool (decide (l=m)))/\Below w.heap.size w w':=by
 have hl:n1<=9223372036854775807:=by have:=r1.le;have:=r1.max;rw[Lib.byteCells_length] at*;omega
 by_cases je:n1=n2
 .subst je
  obtain⟨E,hE⟩:∃E,E=decide (l=m):=⟨_,rfl⟩
  rw[<-hE]
  replace hE:=aa hE
  replace rO:=aa rO
  replace yO:=aa yO
  go_enter Tryz.func86,Tryz.ntmps86
  go_wp2_with fail
  go_loopw [13] (fun i wr=>∃(k q:Nat),k<=n1/\i=.int .i64 k/\wr=w.drewN q/\Hid (l.take k=m.take k)) (fun i _=>n1-(intOf i).toNat)
  case atStart=>exact⟨0,0,Nat.zero_le _,rfl,rfl,aa (by simp)⟩
  case round=>
   obtain⟨k,q,hk,rfl,rfl,hA⟩:=hrel
   by_cases aE:k<n1
   .have Ti:k<l.length:=by rw[<-rO.out];exact aE
    have Ia:k<m.length:=by rw[<-yO.out];exact aE
    obtain⟨b1,o1,rfl,-,g1⟩:=r1.row.at (by intro h;have:=congrArg List.length h;rw[Lib.byteCells_length] at this;simp at this;subst this;simp at Ti)
    obtain⟨b2,o2,rfl,-,g2⟩:=r2.row.at (by intro h;have:=congrArg List.length h;rw[Lib.byteCells_length] at this;simp at this;subst this;simp at Ia)
    obtain⟨x,hx⟩:∃x,l[k]? =some x:=⟨_,List.getElem?_eq_getElem Ti⟩
    obtain⟨y,hy⟩:∃y,m[k]? =some y:=⟨_,List.getElem?_eq_getElem Ia⟩
    have d0:(w.drewN q).cell? ⟨b1,o1+k,none⟩=some (.int .u8 x.toNat):=by
     rw[World.cell?_drewN]
     exact g1 k _ (by simp[byteCells,hx])
    have e0:(w.drewN q).cell? ⟨b2,o2+k,none⟩=some (.int .u8 y.toNat):=by
     rw[World.cell?_drewN]
     exact g2 k _ (by simp[byteCells,hy])
    have r9:x=y->Hid (l.take (k+1)=m.take (k+1)):=by
     intro h
     rw[List.take_add_one,List.take_add_one,hA.out,hx,hy,h]
     exact aa rfl
    have uJ:x≠y->E=false:=by
     intro h
     rw[hE.out]
     refine decide_eq_false (fun e=>h ?_)
     rw[e,hy] at hx
     exact(Option.some.inj hx).symm
    clear r1 r2 g1 g2 Ti Ia hx hy
    generalize QQ:w.drewN q=wq at*
    replace QQ:=aa QQ
    by_cases h0:x=y
    .subst h0
     have hY:=r9 rfl
     clear uJ r9
     go_wp2_with fail
     go_region
     all_goals go_wp2
     all_goals go_roundw
     case rel=>exact⟨k+1,q+1,by omega,by go_num,by rw[<-QQ.out];rfl,hY⟩
     case measure=>simp[intOf];omega
    obtain rfl:=uJ h0
    have aF:¬((x.toNat:Int)=(y.toNat:Int)):=fun h=>h0 (UInt8.toNat_inj.1 (Int.ofNat_inj.1 h))
    have xy:¬(x.toNat=y.toNat):=fun h=>h0 (UInt8.toNat_inj.1 h)
    clear r9
    go_wp2_with fail
    go_region
    all_goals go_wp2
    all_goals go_ret
    exact⟨rfl,by rw[<-QQ.out];exact bt (Below.refl _ _) (q+1)⟩
   obtain rfl:n1=k:=by omega
   obtain rfl:E=true:=by
    rw[hE.out]
    have:=hA.out
    rw[List.take_of_length_le (by rw[<-rO.out];exact Nat.le_refl _),List.take_of_length_le (by rw[<-yO.out];exact Nat.le_refl _)] at this
    exact decide_eq_true this
   go_wp2
   go_ret
   exact⟨rfl,bt (Below.refl _ _) q⟩
 rw[decide_eq_false (by intro h;subst h;exact je (rO.trans yO.symm))]
 replace rO:=aa rO
 replace yO:=aa yO
 have JX:¬(n1:Int)=n2:=by omega
 go_enter Tryz.func86,Tryz.ntmps86
 go_wp2
 go_ret
 exact⟨rfl,Below.refl _ _⟩
theorem Fj (d x:Dk)(a1 a2 b1 b2:Option Addr)(c1 c2 e1 e2 n1 n2 m1 m2:Nat)(w:World)(s1:Sl w a1 c1 (byteCells d.safe))(s2:Sl w a2 c2 (byteCells d.wait))(t1:Sl w b1 e1 (byteCells x.safe))(t2:Sl w b2 e2 (byteCells x.wait))
  (h1:n1=d.safe.length) (h2:n2=d.wait.length) (k1:m1=x.safe.length) (k2:m2=x.wait.length):
  Calls Tryz.prog 43 #[.agg #[.slice a1 n1 c1,.slice a2 n2 c2],.agg #[.slice b1 m1 e1,.slice b2 m2 e2]] w fun e w'=>e=.returned (.bool (decide (d.safe=x.safe/\d.wait=x.wait)))/\Below w.heap.size w w':=by
 have bel:=newB (newB (Below.refl w.heap.size w) (.cells #[.slice a1 n1 c1,.slice a2 n2 c2] 27)) (.cells #[.slice b1 m1 e1,.slice b2 m2 e2] 27)
 have B1:=(ag.laid w [.slice a1 n1 c1,.slice a2 n2 c2] 27 _ rfl).alc (.cells #[.slice b1 m1 e1,.slice b2 m2 e2] 27)
 have B2:=ag.laid (w.alloc (.cells #[.slice a1 n1 c1,.slice a2 n2 c2] 27)) [.slice b1 m1 e1,.slice b2 m2 e2] 27 (w.heap.size+1) (by simp)
 have CC:=fun W h h'=>Jy a1 b1 c1 e1 n1 m1 d.safe x.safe W h h' h1 k1
 have TS:=fun W h h'=>Jy a2 b2 c2 e2 n2 m2 d.wait x.wait W h h' h2 k2
 have S1:=s1.keep bel (Nat.le_refl _)
 have S2:=s2.keep bel (Nat.le_refl _)
 have T1:=t1.keep bel (Nat.le_refl _)
 have T2:=t2.keep bel (Nat.le_refl _)
 replace h1:=aa h1
 replace h2:=aa h2
 replace k1:=aa k1
 replace k2:=aa k2
 have x0:=B1.cell 0
 have x1:=B1.cell 1
 have y0:=B2.cell 0
 have y1:=B2.cell 1
 have l1:=B1.lt
 have l2:=B2.lt
 by_cases hs:d.safe=x.safe
 .have hd:decide (d.safe=x.safe/\d.wait=x.wait)=decide (d.wait=x.wait):=by simp[hs]
  rw[hd]
  rw[decide_eq_true hs] at CC
  generalize decide (d.wait=x.wait)=D at*
  clear hs hd
  go_enter Tryz.func43,Tryz.ntmps43
  go_wp2_with fail
  generalize World.alloc (World.alloc w _) _=w1 at*
  go_at_call 86
  refine(CC _ S1 T1).mono ?_
  rintro e w2 ⟨rfl,b2⟩
  clear x0 x1 y0 y1 l1 l2
  replace B1:=B1.keep b2 B1.lt
  replace B2:=B2.keep b2 B2.lt
  have x0:=B1.cell 0
  have x1:=B1.cell 1
  have y0:=B2.cell 0
  have y1:=B2.cell 1
  have l1:=B1.lt
  have l2:=B2.lt
  go_wp2_with fail
  go_at_call 86
  refine(TS _ (S2.call b2) (T2.call b2)).mono ?_
  rintro e w3 ⟨rfl,b3⟩
  go_wp2_with fail
  go_ret
  exact⟨by simp,ac (ac bel b2) b3⟩
 have hd:decide (d.safe=x.safe/\d.wait=x.wait)=false:=by simp[hs]
 rw[hd]
 rw[decide_eq_false hs] at CC
 clear hs hd
 go_enter Tryz.func43,Tryz.ntmps43
 go_wp2_with fail
 generalize World.alloc (World.alloc w _) _=w1 at*
 go_at_call 86
 refine(CC _ S1 T1).mono ?_
 rintro e w2 ⟨rfl,b2⟩
 go_wp2_with fail
 go_ret
 exact⟨rfl,ac bel b2⟩
theorem ud (d:Dk)(a1 a2:Option Addr)(c1 c2 n1 n2:Nat)(w:World)(hg:Gl w)(s1:Sl w a1 c1 (byteCells d.safe))(h1:n1=d.safe.length)(h2:n2=d.wait.length):
  Calls Tryz.prog 34 #[.agg #[.slice a1 n1 c1,.slice a2 n2 c2]] w fun e w'=>e=.returned (.int .i64 (cy d))/\Below w.heap.size w w':=by
 have B0:=ag.laid w [.slice a1 n1 c1,.slice a2 n2 c2] 27 _ rfl
 have bel:=newB (Below.refl w.heap.size w) (.cells #[.slice a1 n1 c1,.slice a2 n2 c2] 27)
 have hE:cy d=if 60000<n1+n2 then 2 else(scan 0 d.safe).2:=by unfold cy;rw[h1,h2]
 obtain⟨x0,x1,l1⟩:=B0.c2
 by_cases hb:60000<n1+n2
 .rw[if_pos hb] at hE
  rw[hE]
  clear hE
  replace h1:=aa h1
  replace h2:=aa h2
  by_cases m7:60000<n1
  .have L5:(60000:Int)<n1:=by omega
   have rM:decide ((60000:Int)<n1)=true:=decide_eq_true L5
   go_enter Tryz.func34,Tryz.ntmps34
   go_wp2_with fail
   go_ret
   exact⟨rfl,bel⟩
  have rM:decide ((60000:Int)<n1)=false:=decide_eq_false (by omega)
  have L5:¬(60000:Int)<n1:=by omega
  have hw:IntKind.i64.wrap ((60000:Int)-n1)=60000-n1:=by rw[IntKind.wrap_i64];omega
  have xd:wrap64 ((60000:Int)-n1)=60000-n1:=by unfold wrap64;omega
  have tM:decide ((60000:Int)-n1<n2)=true:=decide_eq_true (by omega)
  have VU:(60000:Int)-n1<n2:=by omega
  go_enter Tryz.func34,Tryz.ntmps34
  go_wp2_with fail
  go_ret
  exact⟨rfl,bel⟩
 rw[if_neg hb] at hE
 rw[hE]
 have K9:d.safe.length<=60000:=by omega
 have c:=fun W g=>tz (iv d.safe) 0 60 W g (by rw[ir];exact K9) rfl
 rw[jM] at c
 generalize(scan 0 d.safe).2=E at*
 have nd:=qk (s1.alloc (.cells #[.slice a1 n1 c1,.slice a2 n2 c2] 27)) h1
 have rM:decide ((60000:Int)<n1)=false:=decide_eq_false (by omega)
 have L5:¬(60000:Int)<n1:=by omega
 have hw:IntKind.i64.wrap ((60000:Int)-n1)=60000-n1:=by rw[IntKind.wrap_i64];omega
 have xd:wrap64 ((60000:Int)-n1)=60000-n1:=by unfold wrap64;omega
 have tM:decide ((60000:Int)-n1<n2)=false:=decide_eq_false (by omega)
 have VU:¬(60000:Int)-n1<n2:=by omega
 have g1:=hg.call bel
 clear hE
 replace h1:=aa h1
 replace h2:=aa h2
 go_enter Tryz.func34,Tryz.ntmps34
 go_wp2_with fail
 go_at_call 56
 refine(c _ g1).mono ?_
 rintro e w2 ⟨a,n,G,N,l,rfl,-,-,-,b2⟩
 go_wp2_with fail
 go_ret
 exact⟨rfl,ac bel b2⟩
theorem Ec (w:World):
  Calls Tryz.prog 96 #[.slice none 0 0,.int .i64 0] w fun e w'=>e=.returned (.slice none 0 0)/\w=w':=by
 go_enter Tryz.func96,Tryz.ntmps96
 go_wp2
 go_ret
 exact⟨rfl,rfl⟩
theorem ot (z:Value)(n:Nat):(Builtin.zeroCells #[z] n)=(List.replicate n z).toArray:=by
 unfold Builtin.zeroCells
 apply Array.ext
 .simp
 intro i h1 h2
 simp[Nat.mod_one]
theorem EQ (n:Nat)(w:World)(h0:0<n)(hn:n<=140737488355328):
  Calls Tryz.prog 96 #[.slice none 0 0,.int .i64 n] w fun e w'=>∃G,e=.returned (.slice (some ⟨w.heap.size,0,none⟩) 0 G)/\n<=G/\G<=maxLen/\ag w' w.heap.size (List.replicate G (.int .u8 0)) 5/\Below w.heap.size w w':=by
 obtain⟨i0,hi,bK,bm,bQ⟩:=info_parts zb
 have NP:=fun ty=>Lib.run_append_nil_zeros (P:=Tryz.prog) w 25 3 ty 5 i0 (.int .u8 0) .i64 .i64 Tryz.underlying25 Tryz.underlying3 hi bK n h0 (by omega) (by omega) (by rw[bQ];omega)
 have Fm:n<=grownCap w n 0 5:=grownCap_ge w _ _ _
 have rH:grownCap w n 0 5<=maxLen:=grownCap_le_maxLen w n 0 _ (by unfold maxLen;omega)
 generalize grownCap w n 0 5=G at*
 have Nu:=rH
 unfold maxLen at Nu
 go_enter Tryz.func96,Tryz.ntmps96
 go_wp2_with (at_builtin;refine Lib.wpList_append_run _ rfl _ _ _ _ rfl _ _ rfl rfl _ _ (NP _) ?_)
 go_ret
 refine⟨G,rfl,Fm,rH,?_,?_⟩
 .have e:Builtin.zeroCells #[Value.int .u8 0] n++Builtin.zeroCells #[Value.int .u8 0] (G-n)=(List.replicate G (Value.int .u8 0)).toArray:=by
   rw[ot,ot,List.append_toArray,List.replicate_append_replicate]
   congr 2
   omega
  have h:=ag.laid w (List.replicate G (Value.int .u8 0)) 5 _ rfl
  rw[<-e] at h
  exact h
 repeat(first|exact Below.refl _ _|apply Below.drew|refine Below.alloc ?_ (by simp) _)
theorem AA (B:Nat)(a1 a2:Option Addr)(c1 c2:Nat)(l1 l2:List Value)(w:World)(e0:w.cell? ⟨B,0,none⟩=some (.slice a1 l1.length c1))(e1:w.cell? ⟨B,1,none⟩=some (.slice a2 l2.length c2))
  (s1:Sl w a1 c1 l1) (s2:Sl w a2 c2 l2) (o1:∀v∈l1,v.oneCell'=true) (o2:∀v∈l2,v.oneCell'=true) (h0:0<l1.length+l2.length) (hm:l1.length+l2.length<=140737488355328) (hB:B<w.heap.size):
  Calls Tryz.prog 57 #[.slice (some ⟨B,0,none⟩) 2 2] w fun e w'=>∃g G,e=.returned (.slice (some ⟨g,0,none⟩) (l1.length+l2.length) G)/\Sl w' (some ⟨g,0,none⟩) G (l1++l2)/\Below w.heap.size w w':=by
 obtain⟨i0,hi,bK,bm,bQ⟩:=info_parts zb
 go_enter Tryz.func57,Tryz.ntmps57
 go_wp2_with fail
 refine wp_loop_rounds 3 ?_
 rw[rounds_succ]
 go_wp2_with fail
 rw[rounds_succ]
 go_wp2_with fail
 rw[rounds_succ]
 go_wp2_with fail
 have hg:=EQ (l1.length+l2.length) w h0 hm
 rw[Int.natCast_add] at hg
 refine hg.mono ?_
 rintro e w1 ⟨G,rfl,Fm,rH,B0,bel⟩
 clear hg
 have f0:w1.cell? ⟨B,0,none⟩=some (.slice a1 l1.length c1):=(bel.cell (p:=⟨B,0,none⟩) hB).trans e0
 have f1:w1.cell? ⟨B,1,none⟩=some (.slice a2 l2.length c2):=(bel.cell (p:=⟨B,1,none⟩) hB).trans e1
 have t1:=s1.keep bel (Nat.le_refl _)
 have fh:w1.ownsRow w.heap.size 5 1 (.slice (some ⟨w.heap.size,0,none⟩) 0 G) 0 []:=by
  have h:=vm B0 w.heap.size (Nat.le_refl _) 0 (Nat.zero_le _) (by simpa using rH)
  simpa using h
 have aE:=B0.lt
 clear e0 e1 B0
 have b1:0+l1.length<=G:=by omega
 have x1:=t1.src
 have y1:=t1.src0
 go_wp2_with fail
 refine wp_loop_rounds 3 ?_
 rw[rounds_succ]
 go_wp2_with (at_builtin;refine wpList_append_fits_any _ rfl (.tmp 31) (.tmp 32) 25 rfl w.heap.size 5 i0 1 Tryz.underlying25 hi bm w.heap.size 0 G [] rfl fh a1 l1.length c1 l1 rfl (Nat.mul_one _).symm y1 x1 o1 b1 ?_)
 intro w2 ez cz
 have am:Below w.heap.size w w2:=bel.grown cz (by omega) (fun k h=>by cases h;exact Nat.le_refl _)
 have f2:w2.cell? ⟨B,1,none⟩=some (.slice a2 l2.length c2):=cz.cell f1 (by intro e;have h:B=w.heap.size:=Option.some.inj e;omega)
 have t2:=s2.keep am (Nat.le_refl _)
 have x2:=t2.src
 have y2:=t2.src0
 clear f0 f1 x1 y1 t1 fh bel cz b1
 have b2:l1.length+l2.length<=G:=by omega
 go_wp2_with fail
 rw[rounds_succ]
 go_wp2_with (at_builtin;refine wpList_append_fits_any _ rfl (.tmp 31) (.tmp 32) 25 rfl w.heap.size 5 i0 1 Tryz.underlying25 hi bm w.heap.size l1.length G l1 rfl ez a2 l2.length c2 l2 rfl (Nat.mul_one _).symm y2 x2 o2 b2 ?_)
 intro w3 eV eM
 have aC:Below w.heap.size w w3:=am.grown eM (am.size) (fun k h=>by cases h;exact Nat.le_refl _)
 clear f2 x2 y2 t2 ez am eM
 go_wp2_with fail
 rw[rounds_succ]
 go_wp2_with fail
 go_ret
 exact⟨w.heap.size,G,rfl,(Gc eV).1,aC⟩
theorem oy (w:World)(ty:TypeId)(ao:Option Addr)(c:Nat):
  (Builtin.append_ #[25,25] ty #[.slice none 0 0,.slice ao 0 c]).run Tryz.prog w=.ok (.slice none 0 0) w:=by
 obtain⟨i0,hi,bK,bm,bQ⟩:=info_parts zb
 cases ao with
 |none=>simp[Builtin.append_,run_underlying Tryz.underlying25,sizeOf,typeInfo,hi,Builtin.lenOf,run_firstCells_none]
 |some a=>
  have hf:=run_firstCells_some (P:=Tryz.prog) w i0.size 0 a 0 c [] (by simp) (fun j v h=>by simp at h)
  simp[Builtin.append_,run_underlying Tryz.underlying25,sizeOf,typeInfo,hi,Builtin.lenOf,hf]
theorem zG (B:Nat)(a1 a2:Option Addr)(c1 c2:Nat)(w:World)(e0:w.cell? ⟨B,0,none⟩=some (.slice a1 0 c1))(e1:w.cell? ⟨B,1,none⟩=some (.slice a2 0 c2)):
  Calls Tryz.prog 57 #[.slice (some ⟨B,0,none⟩) 2 2] w fun e w'=>e=.returned (.slice none 0 0)/\w=w':=by
 go_enter Tryz.func57,Tryz.ntmps57
 go_wp2_with fail
 refine wp_loop_rounds 3 ?_
 rw[rounds_succ]
 go_wp2_with fail
 rw[rounds_succ]
 go_wp2_with fail
 rw[rounds_succ]
 go_wp2_with (go_at_call 96;refine(Ec _).mono ?_;rintro e w' ⟨rfl,rfl⟩)
 refine wp_loop_rounds 3 ?_
 rw[rounds_succ]
 go_wp2_with (at_builtin;refine Lib.wpList_append_run _ rfl _ _ _ _ rfl _ _ rfl rfl _ _ (oy _ _ _ _) ?_)
 rw[rounds_succ]
 go_wp2_with (at_builtin;refine Lib.wpList_append_run _ rfl _ _ _ _ rfl _ _ rfl rfl _ _ (oy _ _ _ _) ?_)
 rw[rounds_succ]
 go_wp2_with fail
 go_ret
 exact⟨rfl,rfl⟩
theorem D8 (B:Nat)(a1 a2:Option Addr)(c1 c2:Nat)(l1 l2:List Value)(w:World)(e0:w.cell? ⟨B,0,none⟩=some (.slice a1 l1.length c1))(e1:w.cell? ⟨B,1,none⟩=some (.slice a2 l2.length c2))
  (s1:Sl w a1 c1 l1) (s2:Sl w a2 c2 l2) (o1:∀v∈l1,v.oneCell'=true) (o2:∀v∈l2,v.oneCell'=true) (hm:l1.length+l2.length<=140737488355328) (hB:B<w.heap.size):
  Calls Tryz.prog 57 #[.slice (some ⟨B,0,none⟩) 2 2] w fun e w'=>∃ao G,e=.returned (.slice ao (l1++l2).length G)/\Sl w' ao G (l1++l2)/\Below w.heap.size w w':=by
 rw[List.length_append]
 by_cases h0:0<l1.length+l2.length
 .refine(AA B a1 a2 c1 c2 l1 l2 w e0 e1 s1 s2 o1 o2 h0 hm hB).mono ?_
  rintro e w' ⟨g,G,he,hs,hb⟩
  exact⟨_,G,he,hs,hb⟩
 obtain rfl:l1=[]:=List.eq_nil_of_length_eq_zero (by omega)
 obtain rfl:l2=[]:=List.eq_nil_of_length_eq_zero (by omega)
 refine(zG B a1 a2 c1 c2 w e0 e1).mono ?_
 rintro e w' ⟨he,rfl⟩
 exact⟨none,0,he,Sl.ofNil _,Below.refl _ _⟩
theorem rq {d:Dk}(h:cy d=0):d.safe.length+d.wait.length<=60000:=by
 unfold cy at h
 split at h
 .cases h
 omega
theorem xO (B:Nat)(a1 a2:Option Addr)(c1 c2 n1 n2:Nat)(l m:List UInt8)(w:World)(e0:w.cell? ⟨B,0,none⟩=some (.slice a1 n1 c1))(e1:w.cell? ⟨B,1,none⟩=some (.slice a2 n2 c2))(s1:Sl w a1 c1 (byteCells l))(s2:Sl w a2 c2 (byteCells m))(h1:n1=l.length)(h2:n2=m.length)(few:n1+n2<=1000000)(hB:B<w.heap.size):
  Calls Tryz.prog 57 #[.slice (some ⟨B,0,none⟩) 2 2] w fun e w'=>∃ao G,e=.returned (.slice ao (n1+n2) G)/\Sl w' ao G (byteCells (l++m))/\Below w.heap.size w w':=by
 have k1:n1=(byteCells l).length:=by rw[Lib.byteCells_length];exact h1
 have k2:n2=(byteCells m).length:=by rw[Lib.byteCells_length];exact h2
 have e:byteCells (l++m)=byteCells l++byteCells m:=by simp[byteCells]
 rw[e]
 have c:=D8 B a1 a2 c1 c2 (byteCells l) (byteCells m) w (by rw[<-k1];exact e0) (by rw[<-k2];exact e1) s1 s2 (byteCells_one l) (byteCells_one m) (by rw[<-k1,<-k2];omega) hB
 rw[List.length_append,<-k1,<-k2] at c
 exact c
theorem GR (d:Dk)(a1 a2:Option Addr)(c1 c2 n1 n2:Nat)(w:World)(hg:Gl w)(s1:Sl w a1 c1 (byteCells d.safe))(s2:Sl w a2 c2 (byteCells d.wait))(h1:n1=d.safe.length)(h2:n2=d.wait.length)(h0:cy d=0):
  Calls Tryz.prog 52 #[.agg #[.slice a1 n1 c1,.slice a2 n2 c2]] w (yd w (iJ d) (gk d)):=by
 have B1:=(ag.laid w [.slice a1 n1 c1,.slice a2 n2 c2] 27 _ rfl).alc (.cells #[.slice none 0 0,.slice none 0 0] 27)
 have B2:=ag.laid (w.alloc (.cells #[.slice a1 n1 c1,.slice a2 n2 c2] 27)) [.slice none 0 0,.slice none 0 0] 27 (w.heap.size+1) (by simp)
 have bel:=newB (newB (Below.refl w.heap.size w) (.cells #[.slice a1 n1 c1,.slice a2 n2 c2] 27)) (.cells #[.slice none 0 0,.slice none 0 0] 27)
 have S1:=s1.keep bel (Nat.le_refl _)
 have S2:=s2.keep bel (Nat.le_refl _)
 have hf:=rq h0
 have few:n1+n2<=60000:=by rw[h1,h2];exact hf
 have hE:gk d=cy ⟨d.safe++d.wait,[]⟩:=if_neg (by simp[h0])
 have xe:gk d≠0->iJ d=ox:=fun h=>if_neg h
 have xi:gk d=0->iJ d=⟨d.safe++d.wait,[]⟩:=fun h=>if_pos h
 have om:n1+n2=(d.safe++d.wait).length:=by rw[List.length_append,h1,h2]
 have cJ:=fun B W e0 e1 s t hB=>xO B a1 a2 c1 c2 n1 n2 d.safe d.wait W e0 e1 s t h1 h2 (by omega) hB
 have cK:=fun ao G W g s=>ud ⟨d.safe++d.wait,[]⟩ ao none G 0 (n1+n2) 0 W g s om rfl
 rw[<-hE] at cK
 generalize gk d=E at*
 generalize iJ d=D at*
 obtain⟨N,hN⟩:∃N,N=n1+n2:=⟨_,rfl⟩
 rw[<-hN] at cK cJ om few
 replace h1:=aa h1
 replace h2:=aa h2
 replace hN:=aa hN
 replace om:=aa om
 clear hE h0 hf
 obtain⟨x0,x1,l1⟩:=B1.c2
 go_enter Tryz.func52,Tryz.ntmps52
 go_upto_region 1 with fail
 generalize World.alloc (World.alloc w _) _=w2 at*
 have BC:=ag.laid w2 [.slice a1 n1 c1,.slice a2 n2 c2] 25 _ rfl
 have bc:=newB (Below.refl w2.heap.size w2) (.cells #[.slice a1 n1 c1,.slice a2 n2 c2] 25)
 go_wp2_with fail
 go_at_call 57
 refine(cJ _ _ (BC.cell 0) (BC.cell 1) (S1.call bc) (S2.call bc) BC.lt).mono ?_
 rintro e w4 ⟨ao,G,rfl,SJ,b4⟩
 have bb:=ac bc b4
 clear x0 x1 l1
 replace B1:=B1.keep bb B1.lt
 replace B2:=B2.keep bb B2.lt
 replace bel:=ac bel bb
 have x0:=B1.cell 0
 have x1:=B1.cell 1
 have f0:=B1.free 0
 have f1:=B1.free 1
 have l1:=B1.lt
 have OM:=fZ B1 (.slice ao N G) (.slice none 0 0)
 have FH:=dt bel (Nat.le_refl _) (.slice ao N G) (.slice none 0 0)
 have Qw:=jB (i:=1) (jB (i:=0) SJ B1 (eJ _ _ _ _ _ _) (.slice ao N G)) (B1.set 0 (.slice ao N G)) (eJ _ _ _ _ _ _) (.slice none 0 0)
 have wX:=(B2.other (g':=w.heap.size) 0 (.slice ao N G) (by omega)).other (g':=w.heap.size) 1 (.slice none 0 0) (by omega)
 go_upto_region 2 with fail
 clear x0 x1 f0 f1 l1 B1 bel SJ B2
 generalize World.setCell (World.setCell w4 _ _) _ _=w5 at*
 obtain⟨x0,x1,l1⟩:=OM.c2
 go_wp2_with fail
 go_at_call 34
 refine(cK _ _ _ (hg.call FH) Qw).mono ?_
 rintro e w6 ⟨rfl,b6⟩
 clear x0 x1 l1
 replace OM:=OM.keep b6 OM.lt
 replace wX:=wX.keep b6 wX.lt
 replace Qw:=Qw.call b6
 replace FH:=ac FH b6
 obtain⟨x0,x1,l1⟩:=OM.c2
 have y0:=wX.cell 0
 have y1:=wX.cell 1
 have f0:=wX.free 0
 have f1:=wX.free 1
 have l2:=wX.lt
 by_cases l6:E=0
 .obtain rfl:=xi l6
  subst l6
  clear xe xi
  go_wp2_with fail
  have B9:=fZ wX (.slice ao N G) (.slice none 0 0)
  have aq:=dt FH (Nat.le_succ _) (.slice ao N G) (.slice none 0 0)
  have S9:=jB (i:=1) (jB (i:=0) Qw wX (eJ _ _ _ _ _ _) (.slice ao N G)) (wX.set 0 (.slice ao N G)) (eJ _ _ _ _ _ _) (.slice none 0 0)
  have i0:=B9.cell 0
  have i1:=B9.cell 1
  exact bodyPost_ret (v:=.tuple #[.agg #[.slice ao N G,.slice none 0 0],.int .i64 0]) (by simp[results,Tryz.results52,go_sem,i0,i1]) rfl ⟨_,none,N,0,G,0,rfl,om.out,rfl,S9,Sl.ofNil _,aq⟩
 obtain rfl:=xe l6
 have hd:decide (E=0)=false:=decide_eq_false l6
 clear xe xi
 go_wp2_with fail
 have B9:=fZ wX (.slice none 0 0) (.slice none 0 0)
 have aq:=dt FH (Nat.le_succ _) (.slice none 0 0) (.slice none 0 0)
 have i0:=B9.cell 0
 have i1:=B9.cell 1
 exact bodyPost_ret (v:=.tuple #[.agg #[.slice none 0 0,.slice none 0 0],.int .i64 E]) (by simp[results,Tryz.results52,go_sem,i0,i1]) rfl (wt aq)
theorem An (w:World):Calls Tryz.prog 97 #[.slice none 0 0,.int .i64 0] w fun e w'=>e=.returned (.slice none 0 0)/\w=w':=by
 go_enter Tryz.func97,Tryz.ntmps97
 go_wp2
 go_ret
 exact⟨rfl,rfl⟩
theorem wh (z:Array Value)(n:Nat):(Builtin.zeroCells z n).size=n*z.size:=by
 unfold Builtin.zeroCells
 simp
theorem NB (n:Nat)(w:World)(h0:0<n)(hn:n<=1000000):
  Calls Tryz.prog 97 #[.slice none 0 0,.int .i64 n] w fun e w'=>∃G,e=.returned (.slice (some ⟨w.heap.size,0,none⟩) 0 G)/\n<=G/\G<=maxLen/\w'.ownsRow w.heap.size 73 4 (.slice (some ⟨w.heap.size,0,none⟩) 0 G) 0 []/\Below w.heap.size w w':=by
 obtain⟨i0,hi,bK,bm,bQ⟩:=info_parts oi
 have NP:=fun ty=>Lib.run_append_nil_zeros (P:=Tryz.prog) w 45 3 ty 73 i0 (.agg #[.int .i64 0,.int .i64 0,.int .i64 0,.slice none 0 0]) .i64 .i64 Tryz.underlying45 Tryz.underlying3 hi bK n h0 (by omega) (by omega) (by rw[bQ];omega)
 have Fm:n<=grownCap w n 0 73:=grownCap_ge w _ _ _
 have rH:grownCap w n 0 73<=maxLen:=grownCap_le_maxLen w n 0 _ (by unfold maxLen;omega)
 generalize grownCap w n 0 73=G at*
 have Nu:=rH
 unfold maxLen at Nu
 go_enter Tryz.func97,Tryz.ntmps97
 go_wp2_with (at_builtin;refine Lib.wpList_append_run _ rfl _ _ _ _ rfl _ _ rfl rfl _ _ (NP _) ?_)
 go_ret
 refine⟨G,rfl,Fm,rH,?_,?_⟩
 .refine⟨rfl,.inr ⟨w.heap.size,G,_,rfl,Nat.le_refl _,heap_alloc_new _ _,Nat.zero_le _,rH,?_,by simp⟩⟩
  rw[Array.size_append,wh,wh]
  show n*4+(G-n)*4=G*4
  omega
 repeat(first|exact Below.refl _ _|apply Below.drew|refine Below.alloc ?_ (by simp) _)
theorem rW (w:World)(ty:TypeId)(ao:Option Addr)(c:Nat):
  (Builtin.append_ #[45,45] ty #[.slice none 0 0,.slice ao 0 c]).run Tryz.prog w=.ok (.slice none 0 0) w:=by
 obtain⟨i0,hi,bK,bm,bQ⟩:=info_parts oi
 cases ao with
 |none=>simp[Builtin.append_,run_underlying Tryz.underlying45,sizeOf,typeInfo,hi,Builtin.lenOf,run_firstCells_none]
 |some a=>
  have hf:=run_firstCells_some (P:=Tryz.prog) w i0.size 0 a 0 c [] (by simp) (fun j v h=>by simp at h)
  simp[Builtin.append_,run_underlying Tryz.underlying45,sizeOf,typeInfo,hi,Builtin.lenOf,hf]
theorem zy (B:Nat)(a1 a2:Option Addr)(c1 c2:Nat)(w:World)(e0:w.cell? ⟨B,0,none⟩=some (.slice a1 0 c1))(e1:w.cell? ⟨B,1,none⟩=some (.slice a2 0 c2)):
  Calls Tryz.prog 58 #[.slice (some ⟨B,0,none⟩) 2 2] w fun e w'=>e=.returned (.slice none 0 0)/\w=w':=by
 go_enter Tryz.func58,Tryz.ntmps58
 go_wp2_with fail
 refine wp_loop_rounds 3 ?_
 rw[rounds_succ]
 go_wp2_with fail
 rw[rounds_succ]
 go_wp2_with fail
 rw[rounds_succ]
 go_wp2_with (go_at_call 97;refine(An _).mono ?_;rintro e w' ⟨rfl,rfl⟩)
 refine wp_loop_rounds 3 ?_
 rw[rounds_succ]
 go_wp2_with (at_builtin;refine Lib.wpList_append_run _ rfl _ _ _ _ rfl _ _ rfl rfl _ _ (rW _ _ _ _) ?_)
 rw[rounds_succ]
 go_wp2_with (at_builtin;refine Lib.wpList_append_run _ rfl _ _ _ _ rfl _ _ rfl rfl _ _ (rW _ _ _ _) ?_)
 rw[rounds_succ]
 go_wp2_with fail
 go_ret
 exact⟨rfl,rfl⟩
theorem Row.srcR {w:World}{ao:Option Addr}{cs:List Value}(h:Row w ao cs):∀ad,ao=some ad->∀j u,cs[j]? =some u->w.cell? (ad.add j)=some u:=by
 intro ad yA j u hu
 obtain⟨b,off,e,_,hc⟩:=h.at (by intro e;rw[e] at hu;simp at hu)
 rw[e] at yA
 obtain rfl:=Option.some.inj yA
 rw[Addr.add_lit]
 exact hc j u hu
theorem zJ (B:Nat)(a1 a2:Option Addr)(c1 c2 n1 n2:Nat)(C1 C2:List Value)(w:World)(e0:w.cell? ⟨B,0,none⟩=some (.slice a1 n1 c1))(e1:w.cell? ⟨B,1,none⟩=some (.slice a2 n2 c2))
  (s1:Row w a1 C1) (s2:Row w a2 C2) (h1:C1.length=n1*4) (h2:C2.length=n2*4) (y1:a1=none->n1=0/\c1=0) (y2:a2=none->n2=0/\c2=0)
  (o1:∀v∈C1,v.oneCell'=true) (o2:∀v∈C2,v.oneCell'=true) (h0:0<n1+n2) (hm:n1+n2<=1000000) (hB:B<w.heap.size):
  Calls Tryz.prog 58 #[.slice (some ⟨B,0,none⟩) 2 2] w fun e w'=>∃g G,e=.returned (.slice (some ⟨g,0,none⟩) (n1+n2) G)/\w'.ownsRow w.heap.size 73 4 (.slice (some ⟨g,0,none⟩) (n1+n2) G) (n1+n2) (C1++C2)/\Below w.heap.size w w':=by
 obtain⟨i0,hi,bK,bm,bQ⟩:=info_parts oi
 replace h1:=aa h1
 replace h2:=aa h2
 go_enter Tryz.func58,Tryz.ntmps58
 go_wp2_with fail
 refine wp_loop_rounds 3 ?_
 rw[rounds_succ]
 go_wp2_with fail
 rw[rounds_succ]
 go_wp2_with fail
 rw[rounds_succ]
 go_wp2_with fail
 have hg:=NB (n1+n2) w h0 hm
 rw[Int.natCast_add] at hg
 refine hg.mono ?_
 rintro e w1 ⟨G,rfl,Fm,rH,fh,bel⟩
 clear hg
 have f0:w1.cell? ⟨B,0,none⟩=some (.slice a1 n1 c1):=(bel.cell (p:=⟨B,0,none⟩) hB).trans e0
 have f1:w1.cell? ⟨B,1,none⟩=some (.slice a2 n2 c2):=(bel.cell (p:=⟨B,1,none⟩) hB).trans e1
 have t1:=(s1.keep bel (Nat.le_refl _)).srcR
 have aE:=(fh.lt w.heap.size rfl).2
 clear e0 e1
 have b1:0+n1<=G:=by omega
 go_wp2_with fail
 refine wp_loop_rounds 3 ?_
 rw[rounds_succ]
 go_wp2_with (at_builtin;refine wpList_append_fits_any _ rfl (.tmp 31) (.tmp 32) 45 rfl w.heap.size 73 i0 4 Tryz.underlying45 hi bm w.heap.size 0 G [] rfl fh a1 n1 c1 C1 rfl h1.out y1 t1 o1 b1 ?_)
 intro w2 ez cz
 have am:Below w.heap.size w w2:=bel.grown cz (by omega) (fun k h=>by cases h;exact Nat.le_refl _)
 have f3:w2.cell? ⟨B,1,none⟩=some (.slice a2 n2 c2):=cz.cell f1 (by intro e;have h:B=w.heap.size:=Option.some.inj e;omega)
 have t2:=(s2.keep am (Nat.le_refl _)).srcR
 clear f0 f1 t1 fh bel cz b1
 have b2:n1+n2<=G:=by omega
 go_wp2_with fail
 rw[rounds_succ]
 go_wp2_with (at_builtin;refine wpList_append_fits_any _ rfl (.tmp 31) (.tmp 32) 45 rfl w.heap.size 73 i0 4 Tryz.underlying45 hi bm w.heap.size n1 G C1 rfl ez a2 n2 c2 C2 rfl h2.out y2 t2 o2 b2 ?_)
 intro w3 eV eM
 have aC:Below w.heap.size w w3:=am.grown eM (am.size) (fun k h=>by cases h;exact Nat.le_refl _)
 go_wp2_with fail
 rw[rounds_succ]
 go_wp2_with fail
 go_ret
 exact⟨w.heap.size,G,rfl,eV,aC⟩
theorem vH (l:List dK):∀v∈l.flatMap dK.cells,v.oneCell'=true:=by
 intro v hv
 obtain⟨x,_,h⟩:=List.mem_flatMap.1 hv
 simp only[dK.cells,List.mem_cons,List.not_mem_nil,or_false] at h
 rcases h with rfl|rfl|rfl|rfl<;>rfl
theorem wg (l:List dK):(l.flatMap dK.cells).length=l.length*4:=by
 induction l with
 |nil=>rfl
 |cons x r ih=>rw[List.flatMap_cons,List.length_append,ih,dK.four,List.length_cons];omega
theorem Il (B:Nat)(a1 a2:Option Addr)(c1 c2 n1 n2:Nat)(l m:List dK)(w:World)(e0:w.cell? ⟨B,0,none⟩=some (.slice a1 n1 c1))(e1:w.cell? ⟨B,1,none⟩=some (.slice a2 n2 c2))(s1:eK w a1 c1 l)(s2:eK w a2 c2 m)(h1:n1=l.length)(h2:n2=m.length)(few:n1+n2<=1000000)(hB:B<w.heap.size):
  Calls Tryz.prog 58 #[.slice (some ⟨B,0,none⟩) 2 2] w fun e w'=>∃ao G,e=.returned (.slice ao (n1+n2) G)/\eK w' ao G (l++m)/\Below w.heap.size w w':=by
 by_cases h0:0<n1+n2
 .refine(zJ B a1 a2 c1 c2 n1 n2 (l.flatMap dK.cells) (m.flatMap dK.cells) w e0 e1 s1.row.row s2.row.row (by rw[wg,h1]) (by rw[wg,h2]) (fun h=>⟨by have:=s1.row.nil h;have:=s1.row.le;omega,s1.row.nil h⟩) (fun h=>⟨by have:=s2.row.nil h;have:=s2.row.le;omega,s2.row.nil h⟩) (vH l) (vH m) h0 few hB).mono ?_
  rintro e w' ⟨g,G,rfl,own,b⟩
  rw[<-List.flatMap_append] at own
  obtain⟨a9,G9,e9,S9,_,_⟩:=be.ofOwn dK.four (by decide) own
  simp only[Value.slice.injEq,true_and] at e9
  obtain⟨rfl,rfl⟩:=e9
  refine⟨_,_,rfl,⟨S9,fun x hx=>?_⟩,b⟩
  rcases List.mem_append.1 hx with hx|hx
  .exact(s1.ent x hx).call b
  exact(s2.ent x hx).call b
 obtain rfl:n1=0:=by omega
 obtain rfl:n2=0:=by omega
 obtain rfl:=List.length_eq_zero_iff.1 h1.symm
 obtain rfl:=List.length_eq_zero_iff.1 h2.symm
 refine(zy B a1 a2 c1 c2 w e0 e1).mono ?_
 rintro e w' ⟨rfl,rfl⟩
 exact⟨none,0,rfl,⟨be.ofNil _ _,fun x h=>by simp at h⟩,Below.refl _ _⟩
def XX (w:World)(D:Dk)(L:List Rc)(e:Ending)(w':World):Prop:=
 ∃(a1 a2 a3:Option Addr) (n1 n2 c1 c2 n3 G3:Nat) (l:List dK),e=.returned (.tuple #[.agg #[.slice a1 n1 c1,.slice a2 n2 c2],.slice a3 n3 G3])/\n1=D.safe.length/\n2=D.wait.length/\Sl w' a1 c1 (byteCells D.safe)/\Sl w' a2 c2 (byteCells D.wait)/\eK w' a3 G3 l/\n3=l.length/\l.map (·.r)=L/\Below w.heap.size w w'
theorem eK.set2 {w:World}{a:Option Addr}{G g:Nat}{l:List dK}{a1 a2:Option Addr}{n1 n2 c1 c2:Nat}(h:eK w a G l)(B:ag w g [.slice a1 n1 c1,.slice a2 n2 c2] 27)(u0 u1:Value):eK ((w.setCell ⟨g,0,none⟩ u0).setCell ⟨g,1,none⟩ u1) a G l:=by
 have one:∀ {α:Type} {f:α->List Value} {a:Option Addr} {cap:Nat} {xs:List α} (sz:Nat),(∀x,(f x).length=sz)->0<sz->(∀x,∃v,(f x)[0]? =some (.int .i64 v))->be f w a cap xs->be f ((w.setCell ⟨g,0,none⟩ u0).setCell ⟨g,1,none⟩ u1) a cap xs:=by
  intro α f a cap xs sz dW h0 hk S
  obtain⟨hr,h1,h2,h3⟩:=S
  refine⟨?_,h1,h2,h3⟩
  rcases hr with hr| ⟨b,off,e,hb,hc⟩
  .exact .inl hr
  by_cases hx:xs=[]
  .subst hx
   exact .inl rfl
  refine .inr ⟨b,off,e,by simpa using hb,fun j u hu=>?_⟩
  have aF:b≠g:=by
   rintro rfl
   obtain⟨x,r,rfl⟩:=List.exists_cons_of_ne_nil hx
   obtain⟨v,hv⟩:=hk x
   have GJ:((x::r).flatMap f)[0]? =some (.int .i64 v):=by
    rw[List.flatMap_cons,List.getElem?_append_left (by rw[dW];exact h0)]
    exact hv
   have fH:=hc 0 _ GJ
   rw[B.cell] at fH
   have:=List.mem_of_getElem? fH
   simp at this
  rw[<-hc j u hu]
  simp only[World.cell?]
  rw[heap_setCell_other _ ⟨g,1,none⟩ b u1 aF,heap_setCell_other _ ⟨g,0,none⟩ b u0 aF]
 exact⟨one 4 dK.four (by decide) (fun x=>⟨_,rfl⟩) h.row,fun x hx=>one 3 dq (by decide) (fun y=>⟨_,rfl⟩) (h.ent x hx)⟩
theorem RZ (n2 N k:Nat)(wait KP:List UInt8)(h2:n2=wait.length)(hN:N+(tail k wait).2.length=wait.length)(xz:KP=wait.take (wait.length-(tail k wait).2.length)):N<=n2/\KP=wait.take N/\N=KP.length:=by
 have e:wait.length-(tail k wait).2.length=N:=by omega
 rw[e] at xz
 exact⟨by omega,xz,by rw[xz,List.length_take];omega⟩
theorem vT (d:Dk)(a1 a2:Option Addr)(c1 c2 n1 n2:Nat)(w:World)(hg:Gl w)(s1:Sl w a1 c1 (byteCells d.safe))(s2:Sl w a2 c2 (byteCells d.wait))(h1:n1=d.safe.length)(h2:n2=d.wait.length)(h0:cy d=0):
  Calls Tryz.prog 18 #[.agg #[.slice a1 n1 c1,.slice a2 n2 c2]] w (XX w (fQ d) (aO d)):=by
 have B1:=(ag.laid w [.slice a1 n1 c1,.slice a2 n2 c2] 27 _ rfl).alc (.cells #[.slice none 0 0,.slice none 0 0] 27)
 have B2:=ag.laid (w.alloc (.cells #[.slice a1 n1 c1,.slice a2 n2 c2] 27)) [.slice none 0 0,.slice none 0 0] 27 (w.heap.size+1) (by simp)
 have bel:=newB (newB (Below.refl w.heap.size w) (.cells #[.slice a1 n1 c1,.slice a2 n2 c2] 27)) (.cells #[.slice none 0 0,.slice none 0 0] 27)
 have S1:=s1.keep bel (Nat.le_refl _)
 have S2:=s2.keep bel (Nat.le_refl _)
 have g:=hg.call bel
 have hf:=rq h0
 have few:n1+n2<=60000:=by rw[h1,h2];exact hf
 have hD:fQ d=⟨d.safe++kept d,[]⟩:=if_pos h0
 have hL:aO d=jk d++(tail (jk d).length d.wait).1:=if_pos h0
 have Nm:jk d=(tail 0 d.safe).1:=by
  unfold jk
  rw[if_pos h0,sP d.safe.length 0 d.safe (Nat.le_refl _) (by decide)]
 have tX:=DC d
 have wZ:kept d=d.wait.take (d.wait.length-(tail (jk d).length d.wait).2.length):=rfl
 have XJ:=fun W (S:Sl W a1 c1 (byteCells d.safe))=>qk S h1
 have Vw:=fun W (S:Sl W a2 c2 (byteCells d.wait))=>qk S h2
 have Ql:=fun W g=>tz (iv d.safe) 0 60 W g (by rw[ir];omega) rfl
 have Sp:=fun k most W g (h:most+k=60)=>tz (iv d.wait) k most W g (by rw[ir];omega) h
 simp only[jM] at Ql Sp
 rw[<-Nm] at Ql
 rw[hD,hL]
 generalize kept d=KP at*
 generalize jk d=L0 at*
 generalize(scan 0 d.safe).2=E1 at*
 obtain⟨x0,x1,l1⟩:=B1.c2
 have Wk:=XJ _ S1
 have dW:w.heap.size<=((w.alloc (.cells #[.slice a1 n1 c1,.slice a2 n2 c2] 27)).alloc (.cells #[.slice none 0 0,.slice none 0 0] 27)).heap.size:=bel.size
 replace h1:=aa h1
 replace h2:=aa h2
 replace wZ:=aa wZ
 clear hD hL Nm hf h0
 go_enter Tryz.func18,Tryz.ntmps18
 go_wp2_with fail
 generalize World.alloc (World.alloc w _) _=w2 at*
 go_at_call 56
 refine(Ql _ g).mono ?_
 rintro e w3 ⟨aL,nL,GL,N0,lL,rfl,RL,uC,hN0,b3⟩
 clear x0 x1 l1 Wk Ql
 replace B1:=B1.keep b3 B1.lt
 replace B2:=B2.keep b3 B2.lt
 replace S1:=S1.call b3
 replace S2:=S2.call b3
 replace g:=g.call b3
 replace bel:=ac bel b3
 have QH:nL=L0.length:=by rw[RL.len,<-uC,List.length_map]
 have Rn:=Vw _ S2
 have NV:nL<=60:=by rw[QH];exact tX
 have NM:(60-nL)+nL=60:=Nat.sub_add_cancel NV
 have VP:(60:Int)-(nL:Int)=((60-nL:Nat):Int):=by rw[Int.ofNat_sub NV];rfl
 have Xj:wrap64 ((60-nL:Nat):Int)=((60-nL:Nat):Int):=by unfold wrap64;omega
 have Wl:=fun W g=>Sp nL (60-nL) W g NM
 generalize UM:60-nL=most at*
 generalize(scan nL d.wait).2=E2 at*
 obtain⟨x0,x1,l1⟩:=B1.c2
 clear Sp NM UM
 replace QH:=aa QH
 replace uC:=aa uC
 go_wp2_with fail
 go_at_call 56
 refine(Wl _ g).mono ?_
 rintro e w5 ⟨aM,nM,GM,N,lM,rfl,RM,Of,hN,b5⟩
 clear x0 x1 l1 Rn Wl XJ Vw
 replace B1:=B1.keep b5 B1.lt
 replace B2:=B2.keep b5 B2.lt
 replace S1:=S1.call b5
 replace S2:=S2.call b5
 replace bel:=ac bel b5
 have SL:=(RL.call b5).sl
 have SM:=RM.sl
 rw[QH.out] at Of hN
 obtain⟨Uc,xz,QB⟩:=RZ n2 N L0.length d.wait KP h2.out hN wZ.out
 have OU:nM=lM.length:=RM.len
 have Jr:nL=lL.length:=RL.len
 have QO:(N:Int)<=n2:=Int.ofNat_le.2 Uc
 have om:n1+N=(d.safe++KP).length:=by rw[List.length_append,<-h1.out,<-QB]
 have Qe:n1+N<=1000000:=Nat.le_trans (Nat.add_le_add_left Uc n1) (Nat.le_trans few (by decide))
 have mg:n2<=c2:=by have:=s2.le;rw[Lib.byteCells_length,<-h2.out] at this;exact this
 have YS:N<=c2:=Nat.le_trans Uc mg
 have aaU:(N:Int)<=c2:=Int.ofNat_le.2 YS
 have xA:(lL++lM).map (·.r)=L0++(tail L0.length d.wait).1:=by rw[List.map_append,uC.out,Of]
 have WV:nM<=60:=by
  have h':nM=(tail L0.length d.wait).1.length:=by rw[OU,<-Of,List.length_map]
  have QW:=sP d.wait.length L0.length d.wait (Nat.le_refl _) tX
  have h3:=zp d.wait.length L0.length d.wait (Nat.le_refl _) tX
  rw[h']
  rw[<-QW]
  omega
 have YM:nL+nM<=1000000:=Nat.le_trans (Nat.add_le_add NV WV) (by decide)
 have N5:nL+nM=(lL++lM).length:=by rw[List.length_append,<-Jr,<-OU]
 have kC:∀W B,Below w5.heap.size w5 W->W.cell? ⟨B,0,none⟩=some (.slice a1 n1 c1)->W.cell? ⟨B,1,none⟩=some (.slice a2 N c2)->B<W.heap.size->Calls Tryz.prog 57 #[.slice (some ⟨B,0,none⟩) 2 2] W fun e w'=>∃ao G,e=.returned (.slice ao (n1+N) G)/\w'.cell? ⟨w.heap.size,0,none⟩=some (.slice a1 n1 c1)/\w'.cell? ⟨w.heap.size,1,none⟩=some (.slice a2 n2 c2)/\Sl w' ao G (byteCells (d.safe++KP))/\Below W.heap.size W w'/\Below w5.heap.size w5 w':=by
  intro W B h e0 e1 hB
  refine(xO B a1 a2 c1 c2 n1 N d.safe KP W e0 e1 (S1.call h) (xz▸(S2.call h).takeU N) h1.out QB Qe hB).mono ?_
  rintro e w' ⟨ao,G,rfl,s9,b9⟩
  have bb:=ac h b9
  exact⟨ao,G,rfl,(B1.keep bb B1.lt).cell 0,(B1.keep bb B1.lt).cell 1,s9,b9,bb⟩
 have kR:∀W B,Below w5.heap.size w5 W->W.cell? ⟨B,0,none⟩=some (.slice aL nL GL)->W.cell? ⟨B,1,none⟩=some (.slice aM nM GM)->B<W.heap.size->Calls Tryz.prog 58 #[.slice (some ⟨B,0,none⟩) 2 2] W fun e w'=>∃ao G,e=.returned (.slice ao (nL+nM) G)/\w'.cell? ⟨w.heap.size,0,none⟩=some (.slice a1 n1 c1)/\w'.cell? ⟨w.heap.size,1,none⟩=some (.slice a2 n2 c2)/\w'.cell? ⟨w.heap.size+1,0,none⟩=some (.slice none 0 0)/\w'.cell? ⟨w.heap.size+1,1,none⟩=some (.slice none 0 0)/\w'.frozen? ⟨w.heap.size+1,0,none⟩=false/\w'.frozen? ⟨w.heap.size+1,1,none⟩=false/\w.heap.size+1<w'.heap.size/\eK w' ao G (lL++lM)/\Below W.heap.size W w'/\Below w5.heap.size w5 w':=by
  intro W B h e0 e1 hB
  refine(Il B aL aM GL GM nL nM lL lM W e0 e1 (SL.keep h (Nat.le_refl _)) (SM.keep h (Nat.le_refl _)) Jr OU YM hB).mono ?_
  rintro e w' ⟨ao,G,rfl,s9,b9⟩
  have bb:=ac h b9
  have qg:=B2.keep bb B2.lt
  exact⟨ao,G,rfl,(B1.keep bb B1.lt).cell 0,(B1.keep bb B1.lt).cell 1,qg.cell 0,qg.cell 1,qg.free 0,qg.free 1,qg.lt,s9,b9,bb⟩
 have x0:w5.cell? ⟨w.heap.size,0,none⟩=some (.slice a1 n1 c1):=B1.cell 0
 have x1:w5.cell? ⟨w.heap.size,1,none⟩=some (.slice a2 n2 c2):=B1.cell 1
 have l1:=B1.lt
 have l2:=B2.lt
 have RY:¬w.heap.size+1=w.heap.size:=by omega
 have aa2:¬w.heap.size=w5.heap.size:=Nat.ne_of_lt l1
 replace xz:=aa xz
 replace QB:=aa QB
 replace OU:=aa OU
 replace Jr:=aa Jr
 replace hN:=aa hN
 replace Of:=aa Of
 replace om:=aa om
 replace xA:=aa xA
 replace N5:=aa N5
 clear VP Xj few tX RL RM hN0
 go_upto_region 3 with fail
 go_region_held3 (fun w'=>w'.cell? ⟨w.heap.size,0,none⟩=some (.slice a1 n1 c1)/\w'.cell? ⟨w.heap.size,1,none⟩=some (.slice a2 n2 c2)) (go_keep)
  (first
   | (have hzA:=zA;go_at_call 58;refine(kR _ _ ?r1 ?r2 ?r3 ?r4).mono ?_;(case r1=>first|exact zA|exact newB zA _|exact ak (newB zA _));(case r2=>first| (simp;done)|exact(bA.cell (by first| (simp;done)| (simp;omega))).trans (by simp));(case r3=>first| (simp;done)|exact(bA.cell (by first| (simp;done)| (simp;omega))).trans (by simp));(case r4=>first| (simp;done)|exact Nat.lt_of_lt_of_le (by first| (simp;done)| (simp;omega)) bA.size);rintro e wB ⟨aB,GB,rfl,p0,p1,q0,q1,VG,XL,lq,sB,bB,zB⟩)
   | (go_at_call 57;refine(kC _ _ ?c1 ?c2 ?c3 ?c4).mono ?_;(case c1=>(repeat(first|exact Below.refl _ _|refine ak ?_|refine newB ?_ _)));(case c2=>(simp;done));(case c3=>(simp;done));(case c4=>first| (simp;done)| (simp;omega));rintro e wA ⟨aA,GA,rfl,z0,z1,sA,bA,zA⟩))
 all_goals(
  go_wp2_with fail
  have Pp:=B2.keep zB B2.lt
  have B9:=fZ Pp (.slice aA (n1+N) GA) (.slice none 0 0)
  have aq:=dt (ac bel zB) (Nat.le_succ _) (.slice aA (n1+N) GA) (.slice none 0 0)
  have Y6:Sl wB aA GA (byteCells (d.safe++KP)):=by first|exact sA.call bB|exact(sA.alloc _).call bB
  have S9:=jB (i:=1) (jB (i:=0) Y6 Pp (eJ _ _ _ _ _ _) (.slice aA (n1+N) GA)) (Pp.set 0 (.slice aA (n1+N) GA)) (eJ _ _ _ _ _ _) (.slice none 0 0)
  have R9:=sB.set2 Pp (.slice aA (n1+N) GA) (.slice none 0 0)
  have i0:=B9.cell 0
  have i1:=B9.cell 1
  exact bodyPost_ret (v:=.tuple #[.agg #[.slice aA (n1+N) GA,.slice none 0 0],.slice aB (nL+nM) GB]) (by simp[results,Tryz.results18,go_sem,i0,i1]) rfl ⟨_,none,_,n1+N,0,GA,0,nL+nM,GB,lL++lM,rfl,om.out,rfl,S9,Sl.ofNil _,R9,N5.out,xA.out,aq⟩)
open Go.RowKit Go.Maps
theorem DJ:Keyed Tryz.prog 3:=int_keyed Tryz.underlying3
def NS:ByteArray:=⟨#[115,101,97,108]⟩
def ER:ByteArray:=⟨#[109,101,114,103,101]⟩
theorem Ur (w:World):(zeroValue 9).run Tryz.prog w=.ok (.string ⟨#[]⟩) w:=by kernel_rfl
theorem OR {w:World}{b n:Nat}{D:DataW Unit}(h:w.ownsMap Tryz.prog 3 (plainElem Tryz.prog 9) b n D)(k:Int)(hk:(Lit.int .i64 k).wf=true)(s:ByteArray)(hD:D.atKey (.int .i64 k) (.lit (.string []))=.lit (.string s.data.toList)):
  (Instr.lookup 164 (.map (some b)) (.int .i64 k) false).run Tryz.prog w=.ok (.string s) w:=by
 obtain⟨v,ps,j5,hv⟩:=h.lookup DJ Tryz.underlying164 (Ur w) (plainElem_string (s:=⟨#[]⟩) Tryz.underlying9 (by decide)) (keyOf_int_mk Tryz.underlying3 hk)
 obtain⟨s',rfl,hz,_⟩:=plainElem_string_inv Tryz.underlying9 hv
 simp only[Prod.mk.injEq] at hz
 have e:=hz.1.symm.trans hD
 simp only[DataW.lit.injEq,Lit.string.injEq] at e
 rw[j5]
 have:s'=s:=by
  cases s' with|mk d=>cases s with|mk d'=>simp only[ByteArray.mk.injEq];exact Array.toList_inj.1 e
 rw[this]
theorem Fz (w:World):∃W1 W2:World,(Instr.mapUpdate 164 (.map (some w.heap.size)) (.int .i64 2) (.string ⟨#[115,101,97,108]⟩)).run Tryz.prog (w.alloc (.map #[] 0))=.ok () W1/\
  (Instr.mapUpdate 164 (.map (some w.heap.size)) (.int .i64 3) (.string ⟨#[109,101,114,103,101]⟩)).run Tryz.prog W1=.ok () W2/\
  (Instr.lookup 164 (.map (some w.heap.size)) (.int .i64 2) false).run Tryz.prog W2=.ok (.string ⟨#[115,101,97,108]⟩) W2/\
  (Instr.lookup 164 (.map (some w.heap.size)) (.int .i64 3) false).run Tryz.prog W2=.ok (.string ⟨#[109,101,114,103,101]⟩) W2/\Below w.heap.size w W2:=by
 have h0:(w.alloc (.map #[] 0)).ownsMap Tryz.prog 3 (plainElem (H:=Unit) Tryz.prog 9) w.heap.size 0 (.map []):=World.ownsMap_made _ _ _ _
 obtain⟨W1,r1,h1,g1⟩:=h0.update DJ Tryz.underlying164 (by decide) (keyOf_int_mk Tryz.underlying3 (a:=2) (by decide)) (plainElem_string (s:=NS) Tryz.underlying9 (by decide))
 obtain⟨W2,r2,h2,g2⟩:=h1.update DJ Tryz.underlying164 (by decide) (keyOf_int_mk Tryz.underlying3 (a:=3) (by decide)) (plainElem_string (s:=ER) Tryz.underlying9 (by decide))
 refine⟨W1,W2,r1,r2,OR h2 2 (by decide) NS ?_,OR h2 3 (by decide) ER ?_,?_⟩
 .rw[atKey_put_other (by intro h;cases h)]
  rfl
 .rfl
 have b0:Below w.heap.size w (w.alloc (.map #[] 0)):=(Below.refl _ _).alloc (Nat.le_refl _) _
 have b1:=b0.grown g1 b0.size (fun k hk=>by cases hk;exact Nat.le_refl _)
 exact b1.grown g2 b1.size (fun k hk=>by cases hk;exact Nat.le_refl _)
theorem Es (ns:List Int):Lib.joinTail [32] ((ns.map nf).map (·.data.toList))=cV ns:=by
 unfold Lib.joinTail cV
 induction ns with
 |nil=>rfl
 |cons n r ih=>
  simp only[List.map_cons,List.flatten_cons,List.flatMap_cons,ih]
  simp[nf]
theorem wk (b:ByteArray)(ns:List Int):Lib.join ((b::ns.map nf).map (·.data.toList)) [32]=b.data.toList++cV ns:=by
 rw[List.map_cons,Lib.join_cons,Es]
theorem L3 {w:World}{g base:Nat}{cs:List Value}{t:TypeId}(B:ag w g cs t)(hb:base<=g)(few:cs.length<=1000):w.ownsRow base t 1 (.slice (some ⟨g,0,none⟩) cs.length cs.length) cs.length cs:=
 ⟨by rw[Nat.mul_one],.inr ⟨g,cs.length,cs.toArray,rfl,hb,B,Nat.le_refl _,by unfold maxLen;omega,by simp,by simp⟩⟩
theorem rz {w:World}{base n:Nat}{a:Option Addr}{G:Nat}(b:ByteArray)(ns:List Int)(o:w.ownsRow base 9 1 (.slice a n G) n ((b::ns.map nf).map Value.string))(few:ns.length<=100)(hb:b.size<=100)(jf:∀n∈ns,-9223372036854775808<=n/\n<=9223372036854775807):
  Calls Tryz.prog 118 #[.slice a n G,.string ⟨#[32]⟩] w fun e w'=>e=.returned (.string ⟨(b.data.toList++cV ns).toArray⟩)/\Below w.heap.size w w':=by
 obtain⟨h1,⟨h2,h3⟩| ⟨g,cap,cur,e1,hg,hh,hn,hm,hs,ht⟩⟩:=o
 .subst h3
  simp at h1
 simp only[Value.slice.injEq,true_and] at e1
 obtain⟨rfl,rfl⟩:=e1
 have hl:=jg ns jf
 have ES:n=(b::ns.map nf).length:=by have:=h1;rw[List.length_map,Nat.mul_one] at this;exact this.symm
 have hl2:(b::ns.map nf).length=ns.length+1:=by rw[List.length_cons,List.length_map]
 have c:=Tryz.strings_Join g 0 G (b::ns.map nf) ⟨#[32]⟩ w (fun j x hx=>?_) (lt_of_block hh) (by omega) (by rw[<-ES];exact hn) (by
  rw[show(⟨#[32]⟩:ByteArray).data.toList=[32] from rfl,wk,List.length_append]
  have:b.data.toList.length=b.size:=Array.length_toList
  omega)
 .rw[show(⟨#[32]⟩:ByteArray).data.toList=[32] from rfl,wk,<-ES] at c
  exact c
 have hj:j<n:=by rw[ES];exact(List.getElem?_eq_some_iff.1 hx).1
 have:((b::ns.map nf).map Value.string)[j]? =some (.string x):=by rw[List.getElem?_map,hx];rfl
 rw[<-ht,List.getElem?_take,if_pos (by omega)] at this
 simp only[World.cell?,hh,Nat.zero_add]
 simpa using this
theorem nK (w3:World)(bw:Nat)(mq:ag w3 bw [.slice none 0 0] 136)(b:ByteArray):
  ag ((w3.setCell ⟨bw,0,none⟩ (.slice (some ⟨w3.heap.size,0,none⟩) 1 1)).alloc (.cells #[.string b] 9)) bw [.slice (some ⟨w3.heap.size,0,none⟩) 1 1] 136/\
  ((w3.setCell ⟨bw,0,none⟩ (.slice (some ⟨w3.heap.size,0,none⟩) 1 1)).alloc (.cells #[.string b] 9)).ownsRow (bw+1) 9 1 (.slice (some ⟨w3.heap.size,0,none⟩) 1 1) 1 ([b].map Value.string)/\
  Below bw w3 ((w3.setCell ⟨bw,0,none⟩ (.slice (some ⟨w3.heap.size,0,none⟩) 1 1)).alloc (.cells #[.string b] 9)):=by
 have lb:=mq.lt
 have hs:(w3.setCell ⟨bw,0,none⟩ (.slice (some ⟨w3.heap.size,0,none⟩) 1 1)).heap.size=w3.heap.size:=by simp
 have K:=ag.laid (w3.setCell ⟨bw,0,none⟩ (.slice (some ⟨w3.heap.size,0,none⟩) 1 1)) [.string b] 9 w3.heap.size hs.symm
 exact⟨(mq.set 0 _).alc _,L3 K lb (by simp),((Below.refl bw w3).setCell (p:=⟨bw,0,none⟩) (Nat.le_refl _) _).alloc (by rw[hs];exact Nat.le_of_lt lb) _⟩
theorem Lw (r:Rc)(a:Option Addr)(cap n:Nat)(w:World)(hg:Gl w)(S:be ec w a cap r.e)(hn:n=r.e.length):
  Calls Tryz.prog 89 #[.agg #[.int .i64 r.k,.int .i64 r.s,.int .i64 r.n,.slice a n cap]] w fun e w'=>e=.returned (.tuple #[.string ⟨(bY r).toArray⟩,.int .i64 (aP r)])/\Below w.heap.size w w':=by
 have c1:=fun W h=>pu r a cap n W h hn
 have T0:aP r≠0->bY r=[]:=fun h=>if_neg h
 have S1:=S.alloc (.cells #[.int .i64 r.k,.int .i64 r.s,.int .i64 r.n,.slice a n cap] 73)
 have B0:=ag.laid w [.int .i64 r.k,.int .i64 r.s,.int .i64 r.n,.slice a n cap] 73 _ rfl
 have bel:Below w.heap.size w (w.alloc (.cells #[.int .i64 r.k,.int .i64 r.s,.int .i64 r.n,.slice a n cap] 73)):=(Below.refl _ _).alloc (Nat.le_refl _) _
 have CI:=Lib.tabBelow_of_tabIs hg.tab
 by_cases h0:aP r=0
 .rw[h0] at c1
  rw[h0]
  by_cases h1:r.k=1
  .obtain⟨e1,e2,e3,e4⟩:=qW h0 h1
   have eT:bY r=fS++cV (dI r.e):=by unfold bY;rw[if_pos h0,if_pos h1]
   rw[eT]
   obtain⟨k,s,m,l⟩:=r
   simp only at*
   subst h1
   subst e1
   subst e2
   have jf:=qh e4
   have RW:=gE l
   clear h0 eT e4 T0
   have few:n<=10:=by omega
   replace hn:=aa hn
   replace jf:=aa jf
   replace RW:=aa RW
   clear e3
   go_enter Tryz.func89,Tryz.ntmps89
   go_wp2_with fail
   generalize w.alloc _=w1 at*
   go_at_call 59
   refine(c1 _ S1).mono ?_
   rintro e w2 ⟨rfl,b2⟩
   have B2:=B0.keep b2 B0.lt
   have q0:=B2.cell 0
   have q3:=B2.cell 3
   have l2:=B2.lt
   have S2:=S1.call b2
   have am:=ac bel b2
   go_upto_region 10 with fail
   have mq:=ag.laid w2 [.slice none 0 0] 136 _ rfl
   have B3:=B2.alc (.cells #[.slice none 0 0] 136)
   have S3:=S2.alloc (.cells #[.slice none 0 0] 136)
   have b3:=newB (Below.refl w2.heap.size w2) (.cells #[.slice none 0 0] 136)
   have lw:w.heap.size<=w2.heap.size:=am.size
   generalize ld:w2.heap.size=bw at*
   generalize w2.alloc _=w3 at*
   have fz:w3.frozen? ⟨bw,0,none⟩=false:=mq.free 0
   have z0:w3.cell? ⟨bw,0,none⟩=some (.slice none 0 0):=mq.cell 0
   have lb:bw<w3.heap.size:=mq.lt
   go_upto_region 11 with fail
   obtain⟨BW,own,sC⟩:=nK w3 bw mq ⟨#[98,97,116,99,104]⟩
   have b4:=b3.trans sC
   have B4:=B3.keep sC l2
   have ay:Below w.heap.size w _:=am.trans (b4.mono lw)
   generalize World.alloc (World.setCell w3 _ _) _=w4 at*
   have p3:w4.cell? ⟨w.heap.size,3,none⟩=some (.slice a n cap):=B4.cell 3
   have l4:=B4.lt
   have htab:∀W,Below bw w4 W→Lib.TabIs Tryz.prog W "internal/strconv.uint64pow10" .u64 Lib.pow10Tab:=fun W h=>CI W (ay.trans (h.mono lw))
   clear z0 fz q0 q3 mq B3 S3 S2 S1 B2 B0 b3 b2 sC b4 ld lb c1
   generalize w3.heap.size=g0 at*
   go_wp2_with fail
   go_loopw [29] (fun i wr=>∃(k:Nat) (ao:Option Addr) (H kk:Nat),k<=n/\i=.int .i64 k/\kk=1+k*3/\ag wr bw [.slice ao kk H] 136/\wr.ownsRow (bw+1) 9 1 (.slice ao kk H) kk ((⟨#[98,97,116,99,104]⟩::(dI (l.take k)).map nf).map Value.string)/\Below bw w4 wr) (fun i _=>n-(intOf i).toNat)
   case atStart=>exact⟨0,_,_,1,Nat.zero_le _,rfl,rfl,BW,own,Below.refl _ _⟩
   case round=>
    clear BW own
    obtain⟨k,ao,H,kk,hk,rfl,qD,BW,own,br⟩:=hrel
    by_cases aE:k<n
    .have dy:k<l.length:=by rw[<-hn.out];exact aE
     obtain⟨b1,o1,rfl,Mw⟩:=S.where dq (by decide) (by intro h;subst h;simp at dy)
     obtain⟨x,hx⟩:∃x,l[k]? =some x:=⟨_,List.getElem?_eq_getElem dy⟩
     have s1:=S.keep (ay.trans (br.mono lw)) (Nat.le_refl _)
     have d0:=s1.cell dq k 0 x _ hx rfl
     have d1:=s1.cell dq k 1 x _ hx rfl
     have d2:=s1.cell dq k 2 x _ hx rfl
     simp only[Nat.add_zero] at d0
     have hT:(dI (l.take k)).map nf++[x.1,x.2.1,x.2.2].map nf=(dI (l.take (k+1))).map nf:=by
      rw[List.take_add_one,hx]
      unfold dI
      simp
     have Re:∀m∈[x.1,x.2.1,x.2.2],-9223372036854775808<=m/\m<=9223372036854775807:=fun m hm=>jf.out m (by
      unfold dI
      exact List.mem_flatMap.2 ⟨x,List.mem_of_getElem? hx,hm⟩)
     obtain⟨xs,xt,xv⟩:=x
     simp only at*
     replace hx:=aa hx
     clear s1 dy
     have BX:=ag.laid wr [.int .i64 xs,.int .i64 xt,.int .i64 xv] 75 _ rfl
     have bX:=newB (Below.refl wr.heap.size wr) (.cells #[.int .i64 xs,.int .i64 xt,.int .i64 xv] 75)
     have VW:=BW.lt
     have cs:=fun g hg=>qZ [xs,xt,xv] bw kk g ao H _ (wr.alloc (.cells #[.int .i64 xs,.int .i64 xt,.int .i64 xv] 75)) (by simp) (by omega) (BW.alc _) (own.alloc _) hg Re (fun W h=>htab W ((br.trans (bX.mono (Nat.le_of_lt VW))).trans h))
     rw[List.cons_append,hT] at cs
     clear Re hT
     replace qD:=aa qD
     go_wp2_with fail
     go_at_call 116
     refine(cs _ (by simp)).mono ?_
     rintro e w6 ⟨rfl,a6,G6,Gq,d8,b6⟩
     go_wp2_with fail
     go_roundw
     case rel=>exact⟨k+1,a6,G6,kk+3,by omega,by go_num,by rw[qD.out];omega,Gq,d8,br.trans ((bX.mono (Nat.le_of_lt VW)).trans b6)⟩
     case measure=>simp[intOf];omega
    obtain rfl:n=k:=by omega
    rw[List.take_of_length_le (by rw[<-hn.out];exact Nat.le_refl _)] at own
    have cJ:=rz ⟨#[98,97,116,99,104]⟩ (dI l) own (by rw[RW.out,<-hn.out];omega) (by decide) jf.out
    have e0:wr.cell? ⟨bw,0,none⟩=some (.slice ao kk H):=BW.cell 0
    replace qD:=aa qD
    go_wp2_with fail
    go_at_call 118
    refine cJ.mono ?_
    rintro e w6 ⟨rfl,b6⟩
    go_wp2_with fail
    go_ret2
    exact⟨rfl,ac (ay.trans (br.mono lw)) b6⟩
  obtain⟨hk,e1,e2,e3,e4,e5,e6⟩:=nH h0 h1
  have eT:bY r=(if r.k=2 then jm++cV [r.s,r.n] else if r.k=3 then f'++cV [r.s,r.n] else jo++cV [r.n]):=by unfold bY;rw[if_pos h0,if_neg h1]
  rw[eT]
  clear eT T0 h0
  obtain⟨k,s,m,l⟩:=r
  simp only at*
  subst e1
  replace hn:=aa hn
  rcases hk with rfl|rfl|rfl
  .clear e2
   rw[if_pos rfl]
   have jf:∀x∈[s,m],-9223372036854775808<=x/\x<=9223372036854775807:=by simp;omega
   go_enter Tryz.func89,Tryz.ntmps89
   go_wp2_with fail
   generalize w.alloc _=w1 at*
   go_at_call 59
   refine(c1 _ S1).mono ?_
   rintro e w2 ⟨rfl,b2⟩
   have B2:=B0.keep b2 B0.lt
   have q0:=B2.cell 0
   have l2:=B2.lt
   have am:=ac bel b2
   go_upto_region 18 with fail
   have mq:=ag.laid w2 [.slice none 0 0] 136 _ rfl
   have B3:=B2.alc (.cells #[.slice none 0 0] 136)
   have b3:=newB (Below.refl w2.heap.size w2) (.cells #[.slice none 0 0] 136)
   have lw:w.heap.size<=w2.heap.size:=am.size
   generalize ld:w2.heap.size=bw at*
   generalize w2.alloc _=w3 at*
   obtain⟨W1,W2,r1,r2,UB,TF,bM⟩:=Fz w3
   have jX:= @run_makeMap Tryz.prog
   have yV:=mq.keep bM mq.lt
   have B5:=B3.keep bM B3.lt
   have fz:W2.frozen? ⟨bw,0,none⟩=false:=yV.free 0
   have z0:W2.cell? ⟨bw,0,none⟩=some (.slice none 0 0):=yV.cell 0
   have p0:W2.cell? ⟨w.heap.size,0,none⟩=some (.int .i64 2):=B5.cell 0
   have lb:bw<W2.heap.size:=yV.lt
   have l5:=B5.lt
   go_upto_region 19 with fail
   obtain⟨BW,own,sC⟩:=nK W2 bw yV ⟨#[115,101,97,108]⟩
   have b4:=(b3.trans (bM.mono (Nat.le_of_lt mq.lt))).trans sC
   have B4:=B5.keep sC l2
   have ay:Below w.heap.size w _:=am.trans (b4.mono lw)
   generalize World.alloc (World.setCell W2 _ _) _=w4 at*
   have p1:w4.cell? ⟨w.heap.size,1,none⟩=some (.int .i64 s):=B4.cell 1
   have p2:w4.cell? ⟨w.heap.size,2,none⟩=some (.int .i64 m):=B4.cell 2
   have l4:=B4.lt
   have cs:=fun g hg=>qZ [s,m] bw 1 g _ _ _ w4 (by simp) (by omega) BW own hg jf (fun W h=>CI W (ay.trans (h.mono lw)))
   clear z0 fz q0 mq B3 S1 B2 B0 b3 b2 sC b4 ld lb c1 r1 r2 UB TF bM yV B5 p0
   go_wp2_with fail
   go_at_call 116
   refine(cs _ rfl).mono ?_
   rintro e w6 ⟨rfl,a6,G6,Gq,d8,b6⟩
   have e0:w6.cell? ⟨bw,0,none⟩=some (.slice a6 3 G6):=Gq.cell 0
   have cJ:=rz ⟨#[115,101,97,108]⟩ [s,m] d8 (by simp) (by decide) jf
   go_wp2_with fail
   go_at_call 118
   refine cJ.mono ?_
   rintro e w7 ⟨rfl,b7⟩
   go_wp2_with fail
   go_ret2
   exact⟨rfl,ac (ay.trans (b6.mono lw)) b7⟩
  .clear e2
   rw[if_neg (by decide),if_pos rfl]
   have jf:∀x∈[s,m],-9223372036854775808<=x/\x<=9223372036854775807:=by simp;omega
   go_enter Tryz.func89,Tryz.ntmps89
   go_wp2_with fail
   generalize w.alloc _=w1 at*
   go_at_call 59
   refine(c1 _ S1).mono ?_
   rintro e w2 ⟨rfl,b2⟩
   have B2:=B0.keep b2 B0.lt
   have q0:=B2.cell 0
   have l2:=B2.lt
   have am:=ac bel b2
   go_upto_region 18 with fail
   have mq:=ag.laid w2 [.slice none 0 0] 136 _ rfl
   have B3:=B2.alc (.cells #[.slice none 0 0] 136)
   have b3:=newB (Below.refl w2.heap.size w2) (.cells #[.slice none 0 0] 136)
   have lw:w.heap.size<=w2.heap.size:=am.size
   generalize ld:w2.heap.size=bw at*
   generalize w2.alloc _=w3 at*
   obtain⟨W1,W2,r1,r2,UB,TF,bM⟩:=Fz w3
   have jX:= @run_makeMap Tryz.prog
   have yV:=mq.keep bM mq.lt
   have B5:=B3.keep bM B3.lt
   have fz:W2.frozen? ⟨bw,0,none⟩=false:=yV.free 0
   have z0:W2.cell? ⟨bw,0,none⟩=some (.slice none 0 0):=yV.cell 0
   have p0:W2.cell? ⟨w.heap.size,0,none⟩=some (.int .i64 3):=B5.cell 0
   have lb:bw<W2.heap.size:=yV.lt
   have l5:=B5.lt
   go_upto_region 19 with fail
   obtain⟨BW,own,sC⟩:=nK W2 bw yV ⟨#[109,101,114,103,101]⟩
   have b4:=(b3.trans (bM.mono (Nat.le_of_lt mq.lt))).trans sC
   have B4:=B5.keep sC l2
   have ay:Below w.heap.size w _:=am.trans (b4.mono lw)
   generalize World.alloc (World.setCell W2 _ _) _=w4 at*
   have p1:w4.cell? ⟨w.heap.size,1,none⟩=some (.int .i64 s):=B4.cell 1
   have p2:w4.cell? ⟨w.heap.size,2,none⟩=some (.int .i64 m):=B4.cell 2
   have l4:=B4.lt
   have cs:=fun g hg=>qZ [s,m] bw 1 g _ _ _ w4 (by simp) (by omega) BW own hg jf (fun W h=>CI W (ay.trans (h.mono lw)))
   clear z0 fz q0 mq B3 S1 B2 B0 b3 b2 sC b4 ld lb c1 r1 r2 UB TF bM yV B5 p0
   go_wp2_with fail
   go_at_call 116
   refine(cs _ rfl).mono ?_
   rintro e w6 ⟨rfl,a6,G6,Gq,d8,b6⟩
   have e0:w6.cell? ⟨bw,0,none⟩=some (.slice a6 3 G6):=Gq.cell 0
   have cJ:=rz ⟨#[109,101,114,103,101]⟩ [s,m] d8 (by simp) (by decide) jf
   go_wp2_with fail
   go_at_call 118
   refine cJ.mono ?_
   rintro e w7 ⟨rfl,b7⟩
   go_wp2_with fail
   go_ret2
   exact⟨rfl,ac (ay.trans (b6.mono lw)) b7⟩
  obtain rfl:s=0:=e2 rfl
  clear e2
  rw[if_neg (by decide),if_neg (by decide)]
  have jf:∀x∈[m],-9223372036854775808<=x/\x<=9223372036854775807:=by simp;omega
  go_enter Tryz.func89,Tryz.ntmps89
  go_wp2_with fail
  generalize w.alloc _=w1 at*
  go_at_call 59
  refine(c1 _ S1).mono ?_
  rintro e w2 ⟨rfl,b2⟩
  have B2:=B0.keep b2 B0.lt
  have q0:=B2.cell 0
  have l2:=B2.lt
  have am:=ac bel b2
  go_upto_region 7 with fail
  have mq:=ag.laid w2 [.slice none 0 0] 136 _ rfl
  have B3:=B2.alc (.cells #[.slice none 0 0] 136)
  have b3:=newB (Below.refl w2.heap.size w2) (.cells #[.slice none 0 0] 136)
  have lw:w.heap.size<=w2.heap.size:=am.size
  generalize ld:w2.heap.size=bw at*
  generalize w2.alloc _=w3 at*
  have fz:w3.frozen? ⟨bw,0,none⟩=false:=mq.free 0
  have z0:w3.cell? ⟨bw,0,none⟩=some (.slice none 0 0):=mq.cell 0
  have lb:bw<w3.heap.size:=mq.lt
  go_upto_region 8 with fail
  obtain⟨BW,own,sC⟩:=nK w3 bw mq ⟨#[100,114,111,112]⟩
  have b4:=b3.trans sC
  have B4:=B3.keep sC l2
  have ay:Below w.heap.size w _:=am.trans (b4.mono lw)
  generalize World.alloc (World.setCell w3 _ _) _=w4 at*
  have p2:w4.cell? ⟨w.heap.size,2,none⟩=some (.int .i64 m):=B4.cell 2
  have l4:=B4.lt
  have cs:=fun g hg=>qZ [m] bw 1 g _ _ _ w4 (by simp) (by omega) BW own hg jf (fun W h=>CI W (ay.trans (h.mono lw)))
  clear z0 fz q0 mq B3 S1 B2 B0 b3 b2 sC b4 ld lb c1
  go_wp2_with fail
  go_at_call 116
  refine(cs _ rfl).mono ?_
  rintro e w6 ⟨rfl,a6,G6,Gq,d8,b6⟩
  have e0:w6.cell? ⟨bw,0,none⟩=some (.slice a6 2 G6):=Gq.cell 0
  have cJ:=rz ⟨#[100,114,111,112]⟩ [m] d8 (by simp) (by decide) jf
  go_wp2_with fail
  go_at_call 118
  refine cJ.mono ?_
  rintro e w7 ⟨rfl,b7⟩
  go_wp2_with fail
  go_ret2
  exact⟨rfl,ac (ay.trans (b6.mono lw)) b7⟩
 rw[T0 h0]
 have yp:¬aP r=0:=h0
 obtain⟨E,Fd⟩:∃E,E=aP r:=⟨_,rfl⟩
 rw[<-Fd] at c1 yp⊢
 obtain⟨k,s,m,l⟩:=r
 simp only at*
 have hd:decide (E=0)=false:=decide_eq_false yp
 clear T0 h0 Fd
 replace hn:=aa hn
 go_enter Tryz.func89,Tryz.ntmps89
 go_wp2_with fail
 generalize w.alloc _=w1 at*
 go_at_call 59
 refine(c1 _ S1).mono ?_
 rintro e w2 ⟨rfl,b2⟩
 go_wp2_with fail
 go_ret2
 exact⟨rfl,ac bel b2⟩
end Go.Proofs.YtoonnbhoiocoeaaGreatDoor
