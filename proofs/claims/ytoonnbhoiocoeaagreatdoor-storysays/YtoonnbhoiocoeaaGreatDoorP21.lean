/-
  The reference's CheckPoint: whether a point is in range.
-/
import Derived.Deep.Cut
import Derived.Deep.CutRange
import Derived.Deep.AppendLies
import Derived.Test.YtoonnbhoiocoeaaGreatDoorP20
import Derived.Test.YtoonnbhoiocoeaaGreatDoorP02
import Derived.Test.YtoonnbhoiocoeaaGreatDoorP06
import Derived.Test.YtoonnbhoiocoeaaGreatDoorP19
import Derived.Test.YtoonnbhoiocoeaaGreatDoorP03
set_option maxHeartbeats 40000000
set_option maxRecDepth 100000
set_option linter.unusedVariables false
namespace Go.Proofs.YtoonnbhoiocoeaaGreatDoor
open Go.RowKit
theorem nK (x y:Int)(w:World):
  Calls Tryz.prog 98 #[.agg #[.int .i64 x,.int .i64 y]] w fun e w'=>e=.returned (.int .i64 (if fv (x,y)=false then 3 else 0))/\Below w.heap.size w w':=by
 by_cases h1:0<=x/\x<=100000
 .have i1:=fun W=>cm x 0 100000 W
  rw[decide_eq_true h1] at i1
  by_cases h2:-1000000<=y/\y<=1000000
  .have i2:=fun W=>cm y (-1000000) 1000000 W
   rw[decide_eq_true h2] at i2
   have e:fv (x,y)=true:=decide_eq_true ⟨h1.1,h1.2,h2⟩
   rw[e,if_neg (by decide)]
   clear e h1 h2
   go_enter Tryz.func98,Tryz.ntmps98
   go_wp2_with fail
   go_at_call 36
   refine(i1 _).mono ?_
   rintro e w1 ⟨rfl,rfl⟩
   go_wp2_with fail
   go_at_call 36
   refine(i2 _).mono ?_
   rintro e w2 ⟨rfl,rfl⟩
   go_wp2_with fail
   go_ret
   exact⟨rfl,(Below.refl _ _).alloc (Nat.le_refl _) _⟩
  .have i2:=fun W=>cm y (-1000000) 1000000 W
   rw[decide_eq_false h2] at i2
   have e:fv (x,y)=false:=decide_eq_false (fun h=>h2 h.2.2)
   rw[e,if_pos rfl]
   clear e h1 h2
   go_enter Tryz.func98,Tryz.ntmps98
   go_wp2_with fail
   go_at_call 36
   refine(i1 _).mono ?_
   rintro e w1 ⟨rfl,rfl⟩
   go_wp2_with fail
   go_at_call 36
   refine(i2 _).mono ?_
   rintro e w2 ⟨rfl,rfl⟩
   go_wp2_with fail
   go_ret
   exact⟨rfl,(Below.refl _ _).alloc (Nat.le_refl _) _⟩
 .have i1:=fun W=>cm x 0 100000 W
  rw[decide_eq_false h1] at i1
  have e:fv (x,y)=false:=decide_eq_false (fun h=>h1 ⟨h.1,h.2.1⟩)
  rw[e,if_pos rfl]
  clear e h1
  go_enter Tryz.func98,Tryz.ntmps98
  go_wp2_with fail
  go_at_call 36
  refine(i1 _).mono ?_
  rintro e w1 ⟨rfl,rfl⟩
  go_wp2_with fail
  go_ret
  exact⟨rfl,(Below.refl _ _).alloc (Nat.le_refl _) _⟩
end Go.Proofs.YtoonnbhoiocoeaaGreatDoor
namespace Go.Proofs.YtoonnbhoiocoeaaGreatDoor
open Go.RowKit
theorem DN (x:Nt):gU x=(decide (0<=x.1/\x.1<=3)&&fv (x.2.1,x.2.2)):=by
 unfold gU fv
 rw[Bool.eq_iff_iff]
 simp only[decide_eq_true_eq,Bool.and_eq_true]
 omega
theorem CM (l:List Nt)(a:Option Addr)(cap n:Nat)(w:World)(S:aY ec w a cap l)(hn:n=l.length)(few:n<=10):
  Calls Tryz.prog 59 #[.agg #[.int .i64 1,.int .i64 0,.int .i64 0,.slice a n cap]] w fun e w'=>e=.returned (.int .i64 (if l.all gU then 0 else 3))/\Below w.heap.size w w':=by
 obtain⟨E,hE⟩:∃E:Int,E=if l.all gU then 0 else 3:=⟨_,rfl⟩
 rw[<-hE]
 replace hE:=hide hE
 replace hn:=hide hn
 have bel:Below w.heap.size w (w.alloc (.cells #[.int .i64 1,.int .i64 0,.int .i64 0,.slice a n cap] 73)):=(Below.refl _ _).alloc (Nat.le_refl _) _
 have ti:¬(10:Int)<n:=by omega
 have c1:=fun W=>cm 1 1 4 W
 have c2:=fun W=>cm 0 0 3 W
 have c3:=fun W=>cm 0 0 100001 W
 rw[decide_eq_true (by omega)] at c1 c2 c3
 go_enter Tryz.func59,Tryz.ntmps59
 go_wp2_with fail
 go_at_call 36
 refine(c1 _).mono ?_
 rintro e w2 ⟨rfl,rfl⟩
 go_wp2_with fail
 go_at_call 36
 refine(c2 _).mono ?_
 rintro e w2 ⟨rfl,rfl⟩
 go_wp2_with fail
 go_at_call 36
 refine(c3 _).mono ?_
 rintro e w2 ⟨rfl,rfl⟩
 go_wp2_with fail
 generalize w.alloc _=w1 at*
 go_loopw [59] (fun i wr=>∃(k:Nat),k<=n/\i=.int .i64 k/\Hid ((l.take k).all gU=true)/\Below w.heap.size w wr) (fun i _=>n-(intOf i).toNat)
 case atStart=>exact⟨0,Nat.zero_le _,rfl,hide (by simp),bel⟩
 case round=>
  clear bel
  obtain⟨k,hk,rfl,hA,bel⟩:=hrel
  by_cases az:k<n
  .have cy:k<l.length:=by rw[<-hn.out];exact az
   obtain⟨b1,o1,rfl,QD⟩:=S.where bZ (by decide) (by intro h;subst h;simp at cy)
   obtain⟨x,hx⟩:∃x,l[k]? =some x:=⟨_,List.getElem?_eq_getElem cy⟩
   have s1:=S.keep bel (Nat.le_refl _)
   have d0:=s1.cell bZ k 0 x _ hx rfl
   have d1:=s1.cell bZ k 1 x _ hx rfl
   have d2:=s1.cell bZ k 2 x _ hx rfl
   simp only[Nat.add_zero] at d0
   have xW:gU x=false->E=3:=by
    intro h
    rw[hE.out,if_neg]
    intro bh
    have:=List.all_eq_true.1 bh x (List.mem_of_getElem? hx)
    rw[h] at this
    cases this
   have Aa:gU x=true->Hid ((l.take (k+1)).all gU=true):=by
    intro h
    rw[List.take_add_one,hx,List.all_append,hA.out]
    simpa[Hid] using h
   have mJ:=DN x
   obtain⟨xs,xt,xv⟩:=x
   simp only at*
   replace hx:=hide hx
   clear s1 cy c1 c2 c3
   have BX:=ac.laid wr [.int .i64 xs,.int .i64 xt,.int .i64 xv] 75 _ rfl
   have bX:=newB bel (.cells #[.int .i64 xs,.int .i64 xt,.int .i64 xv] 75)
   have c1:=fun W=>cm xs 0 3 W
   have c2:=fun W=>nK xt xv W
   by_cases hs:0<=xs/\xs<=3
   .rw[decide_eq_true hs] at c1 mJ
    rw[Bool.true_and] at mJ
    rw[<-mJ] at c2
    by_cases uL:gU (xs,xt,xv)=true
    .rw[uL,if_neg (by decide)] at c2
     have hY:=Aa uL
     clear xW Aa uL hs mJ
     go_wp2_with fail
     go_at_call 36
     refine(c1 _).mono ?_
     rintro e w2 ⟨rfl,rfl⟩
     generalize wr.alloc _=w2 at*
     have z1:w2.cell? ⟨wr.heap.size,1,none⟩=some (.int .i64 xt):=BX.cell 1
     have z2:w2.cell? ⟨wr.heap.size,2,none⟩=some (.int .i64 xv):=BX.cell 2
     have lX:=BX.lt
     clear c1
     go_wp2_with fail
     go_at_call 98
     refine(c2 _).mono ?_
     rintro e w3 ⟨rfl,b3⟩
     have ay:=aa bX b3
     go_wp2_with fail
     go_roundw
     case rel=>exact⟨k+1,by omega,by go_num,hY,ay⟩
     case measure=>simp[intOf];omega
    .have Nn:gU (xs,xt,xv)=false:=by simpa using uL
     rw[Nn,if_pos rfl] at c2
     obtain rfl:=xW Nn
     clear xW Aa uL hs mJ Nn
     go_wp2_with fail
     go_at_call 36
     refine(c1 _).mono ?_
     rintro e w2 ⟨rfl,rfl⟩
     generalize wr.alloc _=w2 at*
     have z1:w2.cell? ⟨wr.heap.size,1,none⟩=some (.int .i64 xt):=BX.cell 1
     have z2:w2.cell? ⟨wr.heap.size,2,none⟩=some (.int .i64 xv):=BX.cell 2
     have lX:=BX.lt
     clear c1
     go_wp2_with fail
     go_at_call 98
     refine(c2 _).mono ?_
     rintro e w3 ⟨rfl,b3⟩
     have ay:=aa bX b3
     go_wp2_with fail
     go_ret
     exact⟨rfl,ay⟩
   .rw[decide_eq_false hs] at c1 mJ
    rw[Bool.false_and] at mJ
    obtain rfl:=xW mJ
    clear xW Aa hs mJ c2
    go_wp2_with fail
    go_at_call 36
    refine(c1 _).mono ?_
    rintro e w2 ⟨rfl,rfl⟩
    go_wp2_with fail
    go_ret
    exact⟨rfl,bX⟩
  .obtain rfl:n=k:=by omega
   obtain rfl:E=0:=by
    have:=hA.out
    rw[List.take_of_length_le (by rw[<-hn.out];exact Nat.le_refl _)] at this
    rw[hE.out,if_pos this]
   go_wp2_with fail
   go_ret
   exact⟨rfl,bel⟩
theorem Ep (s m:Int)(l:List Nt)(a:Option Addr)(cap n:Nat)(w:World)(S:aY ec w a cap l)(hn:n=l.length):
  Calls Tryz.prog 59 #[.agg #[.int .i64 1,.int .i64 s,.int .i64 m,.slice a n cap]] w fun e w'=>e=.returned (.int .i64 (if s≠0\/m≠0 then 4 else if 10<l.length then 2 else if l.all gU then 0 else 3))/\Below w.heap.size w w':=by
 have c1:=fun W=>cm 1 1 4 W
 rw[decide_eq_true (by omega)] at c1
 have bel:=newB (Below.refl w.heap.size w) (.cells #[.int .i64 1,.int .i64 s,.int .i64 m,.slice a n cap] 73)
 by_cases hs:s=0
 .subst hs
  by_cases hm:m=0
  .subst hm
   rw[if_neg (by simp)]
   by_cases wy:10<n
   .rw[if_pos (by rw[<-hn];exact wy)]
    have UQ:(10:Int)<n:=by omega
    replace hn:=hide hn
    go_enter Tryz.func59,Tryz.ntmps59
    go_wp2_with fail
    go_at_call 36
    refine(c1 _).mono ?_
    rintro e w2 ⟨rfl,rfl⟩
    go_wp2_with fail
    go_ret
    exact⟨rfl,bel⟩
   .rw[if_neg (by rw[<-hn];exact wy)]
    exact CM l a cap n w S hn (by omega)
  .rw[if_pos (.inr hm)]
   replace hn:=hide hn
   have jf:decide (m=0)=false:=decide_eq_false hm
   go_enter Tryz.func59,Tryz.ntmps59
   go_wp2_with fail
   go_at_call 36
   refine(c1 _).mono ?_
   rintro e w2 ⟨rfl,rfl⟩
   go_wp2_with fail
   go_ret
   exact⟨rfl,bel⟩
 .rw[if_pos (.inl hs)]
  replace hn:=hide hn
  have oJ:decide (s=0)=false:=decide_eq_false hs
  go_enter Tryz.func59,Tryz.ntmps59
  go_wp2_with fail
  go_at_call 36
  refine(c1 _).mono ?_
  rintro e w2 ⟨rfl,rfl⟩
  go_wp2_with fail
  go_ret
  exact⟨rfl,bel⟩
theorem JI (s m:Int)(l:List Nt)(a:Option Addr)(cap n:Nat)(w:World)(hn:n=l.length):
  Calls Tryz.prog 59 #[.agg #[.int .i64 2,.int .i64 s,.int .i64 m,.slice a n cap]] w fun e w'=>e=.returned (.int .i64 (gi 2 s m l))/\Below w.heap.size w w':=by
 have c1:=fun W=>cm 2 1 4 W
 rw[decide_eq_true (by omega)] at c1
 have c2:=fun W=>cm s 0 3 W
 have c3:=fun W=>cm m 0 100001 W
 have bel:=newB (Below.refl w.heap.size w) (.cells #[.int .i64 2,.int .i64 s,.int .i64 m,.slice a n cap] 73)
 obtain⟨E,hE⟩:∃E,E=gi 2 s m l:=⟨_,rfl⟩
 rw[<-hE]
 unfold gi at hE
 by_cases h0:n=0
 .subst h0
  obtain rfl:=List.length_eq_zero_iff.1 hn.symm
  clear hn
  rw[if_neg (by simp)] at hE
  by_cases hs:0<=s/\s<=3
  .rw[decide_eq_true hs] at c2
   by_cases hm:0<=m/\m<=100001
   .rw[decide_eq_true hm] at c3
    obtain rfl:E=0:=by rw[hE,if_pos (by omega)]
    clear hE hm hs
    go_enter Tryz.func59,Tryz.ntmps59
    go_wp2_with fail
    go_at_call 36
    refine(c1 _).mono ?_
    rintro e w2 ⟨rfl,rfl⟩
    go_wp2_with fail
    go_at_call 36
    refine(c2 _).mono ?_
    rintro e w3 ⟨rfl,rfl⟩
    go_wp2_with fail
    go_at_call 36
    refine(c3 _).mono ?_
    rintro e w4 ⟨rfl,rfl⟩
    go_wp2_with fail
    generalize w.alloc _=w1 at*
    go_loopw [59] (fun i wr=>i=.int .i64 0/\wr=w1) (fun _ _=>0)
    case atStart=>exact⟨rfl,rfl⟩
    case round=>
     obtain⟨rfl,rfl⟩:=hrel
     go_wp2_with fail
     go_ret
     exact⟨rfl,bel⟩
   .rw[decide_eq_false hm] at c3
    obtain rfl:E=3:=by rw[hE,if_neg (by omega)]
    clear hE hm hs
    go_enter Tryz.func59,Tryz.ntmps59
    go_wp2_with fail
    go_at_call 36
    refine(c1 _).mono ?_
    rintro e w2 ⟨rfl,rfl⟩
    go_wp2_with fail
    go_at_call 36
    refine(c2 _).mono ?_
    rintro e w3 ⟨rfl,rfl⟩
    go_wp2_with fail
    go_at_call 36
    refine(c3 _).mono ?_
    rintro e w4 ⟨rfl,rfl⟩
    go_wp2_with fail
    go_ret
    exact⟨rfl,bel⟩
  .rw[decide_eq_false hs] at c2
   obtain rfl:E=3:=by rw[hE,if_neg (by omega)]
   clear hE hs
   go_enter Tryz.func59,Tryz.ntmps59
   go_wp2_with fail
   go_at_call 36
   refine(c1 _).mono ?_
   rintro e w2 ⟨rfl,rfl⟩
   go_wp2_with fail
   go_at_call 36
   refine(c2 _).mono ?_
   rintro e w3 ⟨rfl,rfl⟩
   go_wp2_with fail
   go_ret
   exact⟨rfl,bel⟩
 .obtain rfl:E=4:=by rw[hE,if_pos (.inl (by intro h;subst h;exact h0 hn))]
  clear hE
  have hp:(0:Int)<n:=by omega
  have hd:decide (0<n)=true:=decide_eq_true (by omega)
  replace hn:=hide hn
  go_enter Tryz.func59,Tryz.ntmps59
  go_wp2_with fail
  go_at_call 36
  refine(c1 _).mono ?_
  rintro e w2 ⟨rfl,rfl⟩
  go_wp2_with fail
  go_ret
  exact⟨rfl,bel⟩
theorem Jk (s m:Int)(l:List Nt)(a:Option Addr)(cap n:Nat)(w:World)(hn:n=l.length):
  Calls Tryz.prog 59 #[.agg #[.int .i64 3,.int .i64 s,.int .i64 m,.slice a n cap]] w fun e w'=>e=.returned (.int .i64 (gi 3 s m l))/\Below w.heap.size w w':=by
 have c1:=fun W=>cm 3 1 4 W
 rw[decide_eq_true (by omega)] at c1
 have c2:=fun W=>cm s 0 3 W
 have c3:=fun W=>cm m 0 100001 W
 have bel:=newB (Below.refl w.heap.size w) (.cells #[.int .i64 3,.int .i64 s,.int .i64 m,.slice a n cap] 73)
 obtain⟨E,hE⟩:∃E,E=gi 3 s m l:=⟨_,rfl⟩
 rw[<-hE]
 unfold gi at hE
 by_cases h0:n=0
 .subst h0
  obtain rfl:=List.length_eq_zero_iff.1 hn.symm
  clear hn
  rw[if_neg (by simp)] at hE
  by_cases hs:0<=s/\s<=3
  .rw[decide_eq_true hs] at c2
   by_cases hm:0<=m/\m<=100001
   .rw[decide_eq_true hm] at c3
    obtain rfl:E=0:=by rw[hE,if_pos (by omega)]
    clear hE hm hs
    go_enter Tryz.func59,Tryz.ntmps59
    go_wp2_with fail
    go_at_call 36
    refine(c1 _).mono ?_
    rintro e w2 ⟨rfl,rfl⟩
    go_wp2_with fail
    go_at_call 36
    refine(c2 _).mono ?_
    rintro e w3 ⟨rfl,rfl⟩
    go_wp2_with fail
    go_at_call 36
    refine(c3 _).mono ?_
    rintro e w4 ⟨rfl,rfl⟩
    go_wp2_with fail
    generalize w.alloc _=w1 at*
    go_loopw [59] (fun i wr=>i=.int .i64 0/\wr=w1) (fun _ _=>0)
    case atStart=>exact⟨rfl,rfl⟩
    case round=>
     obtain⟨rfl,rfl⟩:=hrel
     go_wp2_with fail
     go_ret
     exact⟨rfl,bel⟩
   .rw[decide_eq_false hm] at c3
    obtain rfl:E=3:=by rw[hE,if_neg (by omega)]
    clear hE hm hs
    go_enter Tryz.func59,Tryz.ntmps59
    go_wp2_with fail
    go_at_call 36
    refine(c1 _).mono ?_
    rintro e w2 ⟨rfl,rfl⟩
    go_wp2_with fail
    go_at_call 36
    refine(c2 _).mono ?_
    rintro e w3 ⟨rfl,rfl⟩
    go_wp2_with fail
    go_at_call 36
    refine(c3 _).mono ?_
    rintro e w4 ⟨rfl,rfl⟩
    go_wp2_with fail
    go_ret
    exact⟨rfl,bel⟩
  .rw[decide_eq_false hs] at c2
   obtain rfl:E=3:=by rw[hE,if_neg (by omega)]
   clear hE hs
   go_enter Tryz.func59,Tryz.ntmps59
   go_wp2_with fail
   go_at_call 36
   refine(c1 _).mono ?_
   rintro e w2 ⟨rfl,rfl⟩
   go_wp2_with fail
   go_at_call 36
   refine(c2 _).mono ?_
   rintro e w3 ⟨rfl,rfl⟩
   go_wp2_with fail
   go_ret
   exact⟨rfl,bel⟩
 .obtain rfl:E=4:=by rw[hE,if_pos (.inl (by intro h;subst h;exact h0 hn))]
  clear hE
  have hp:(0:Int)<n:=by omega
  have hd:decide (0<n)=true:=decide_eq_true (by omega)
  replace hn:=hide hn
  go_enter Tryz.func59,Tryz.ntmps59
  go_wp2_with fail
  go_at_call 36
  refine(c1 _).mono ?_
  rintro e w2 ⟨rfl,rfl⟩
  go_wp2_with fail
  go_ret
  exact⟨rfl,bel⟩
theorem JB (s m:Int)(l:List Nt)(a:Option Addr)(cap n:Nat)(w:World)(hn:n=l.length):
  Calls Tryz.prog 59 #[.agg #[.int .i64 4,.int .i64 s,.int .i64 m,.slice a n cap]] w fun e w'=>e=.returned (.int .i64 (gi 4 s m l))/\Below w.heap.size w w':=by
 have c1:=fun W=>cm 4 1 4 W
 rw[decide_eq_true (by omega)] at c1
 have c2:=fun W=>cm s 0 3 W
 have c3:=fun W=>cm m 0 100001 W
 have bel:=newB (Below.refl w.heap.size w) (.cells #[.int .i64 4,.int .i64 s,.int .i64 m,.slice a n cap] 73)
 obtain⟨E,hE⟩:∃E,E=gi 4 s m l:=⟨_,rfl⟩
 rw[<-hE]
 unfold gi at hE
 by_cases h0:n=0
 .subst h0
  obtain rfl:=List.length_eq_zero_iff.1 hn.symm
  clear hn
  by_cases hs:s=0
  .subst hs
   rw[decide_eq_true (by omega)] at c2
   rw[if_neg (by simp)] at hE
   by_cases hm:0<=m/\m<=100001
   .rw[decide_eq_true hm] at c3
    obtain rfl:E=0:=by rw[hE,if_pos (by omega)]
    clear hE hm
    go_enter Tryz.func59,Tryz.ntmps59
    go_wp2_with fail
    go_at_call 36
    refine(c1 _).mono ?_
    rintro e w2 ⟨rfl,rfl⟩
    go_wp2_with fail
    go_at_call 36
    refine(c2 _).mono ?_
    rintro e w3 ⟨rfl,rfl⟩
    go_wp2_with fail
    go_at_call 36
    refine(c3 _).mono ?_
    rintro e w4 ⟨rfl,rfl⟩
    go_wp2_with fail
    generalize w.alloc _=w1 at*
    go_loopw [59] (fun i wr=>i=.int .i64 0/\wr=w1) (fun _ _=>0)
    case atStart=>exact⟨rfl,rfl⟩
    case round=>
     obtain⟨rfl,rfl⟩:=hrel
     go_wp2_with fail
     go_ret
     exact⟨rfl,bel⟩
   .rw[decide_eq_false hm] at c3
    obtain rfl:E=3:=by rw[hE,if_neg (by omega)]
    clear hE hm
    go_enter Tryz.func59,Tryz.ntmps59
    go_wp2_with fail
    go_at_call 36
    refine(c1 _).mono ?_
    rintro e w2 ⟨rfl,rfl⟩
    go_wp2_with fail
    go_at_call 36
    refine(c2 _).mono ?_
    rintro e w3 ⟨rfl,rfl⟩
    go_wp2_with fail
    go_at_call 36
    refine(c3 _).mono ?_
    rintro e w4 ⟨rfl,rfl⟩
    go_wp2_with fail
    go_ret
    exact⟨rfl,bel⟩
  .obtain rfl:E=4:=by rw[hE,if_pos (.inr ⟨rfl,hs⟩)]
   have oJ:decide (s=0)=false:=decide_eq_false hs
   clear hE
   go_enter Tryz.func59,Tryz.ntmps59
   go_wp2_with fail
   go_at_call 36
   refine(c1 _).mono ?_
   rintro e w2 ⟨rfl,rfl⟩
   go_wp2_with fail
   go_ret
   exact⟨rfl,bel⟩
 .obtain rfl:E=4:=by rw[hE,if_pos (.inl (by intro h;subst h;exact h0 hn))]
  clear hE
  have hp:(0:Int)<n:=by omega
  have hd:decide (0<n)=true:=decide_eq_true (by omega)
  replace hn:=hide hn
  go_enter Tryz.func59,Tryz.ntmps59
  go_wp2_with fail
  go_at_call 36
  refine(c1 _).mono ?_
  rintro e w2 ⟨rfl,rfl⟩
  go_wp2_with fail
  go_ret
  exact⟨rfl,bel⟩
theorem xi (r:Rc)(a:Option Addr)(cap n:Nat)(w:World)(S:aY ec w a cap r.e)(hn:n=r.e.length):
  Calls Tryz.prog 59 #[.agg #[.int .i64 r.k,.int .i64 r.s,.int .i64 r.n,.slice a n cap]] w fun e w'=>e=.returned (.int .i64 (aV r))/\Below w.heap.size w w':=by
 obtain⟨k,s,m,l⟩:=r
 simp only at*
 by_cases h1:k=1
 .subst h1
  exact Ep s m l a cap n w S hn
 by_cases h2:k=2\/k=3\/k=4
 .rw[show aV ⟨k,s,m,l⟩=gi k s m l by unfold aV gi;rw[if_neg h1,if_pos h2]]
  rcases h2 with rfl|rfl|rfl
  .exact JI s m l a cap n w hn
  .exact Jk s m l a cap n w hn
  .exact JB s m l a cap n w hn
 .rw[show aV ⟨k,s,m,l⟩=4 by unfold aV;rw[if_neg h1,if_neg h2]]
  have c1:=fun W=>cm k 1 4 W
  rw[decide_eq_false (by omega)] at c1
  have bel:=newB (Below.refl w.heap.size w) (.cells #[.int .i64 k,.int .i64 s,.int .i64 m,.slice a n cap] 73)
  clear h1 h2
  replace hn:=hide hn
  go_enter Tryz.func59,Tryz.ntmps59
  go_wp2_with fail
  go_at_call 36
  refine(c1 _).mono ?_
  rintro e w2 ⟨rfl,rfl⟩
  go_wp2_with fail
  go_ret
  exact⟨rfl,bel⟩
end Go.Proofs.YtoonnbhoiocoeaaGreatDoor
namespace Go.Proofs.YtoonnbhoiocoeaaGreatDoor
open Go.RowKit
end Go.Proofs.YtoonnbhoiocoeaaGreatDoor
