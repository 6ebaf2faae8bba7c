/-
  The reference's CheckPoint: whether a point is in range.
-/
import Derived.Test.YtoonnbhoiocoeaaGreatDoorQ20
set_option maxHeartbeats 40000000
set_option maxRecDepth 100000
set_option linter.unusedVariables false
namespace Go.Proofs.YtoonnbhoiocoeaaGreatDoor
open Go.RowKit
theorem oa (x y:Int)(w:World):
  Calls Tryz.prog 98 #[.agg #[.int .i64 x,.int .i64 y]] w fun e w'=>e=.returned (.int .i64 (if ft (x,y)=false then 3 else 0))/\Below w.heap.size w w':=by
 by_cases h1:0<=x/\x<=100000
 .have i1:=fun W=>bG x 0 100000 W
  rw[decide_eq_true h1] at i1
  by_cases h2:-1000000<=y/\y<=1000000
  .have i2:=fun W=>bG y (-1000000) 1000000 W
   rw[decide_eq_true h2] at i2
   have e:ft (x,y)=true:=decide_eq_true ⟨h1.1,h1.2,h2⟩
   rw[e,if_neg (by decide)]
   clear e h1 h2
   go_enter Tryz.func98,Tryz.ntmps98
   go_wp2_with fail
   go_at_call 36
   refine(i1 _).mono ?_
   rintro e w1 ⟨rfl,rfl⟩
   go_wp2_with fail
   go_at_call 36
   refine(i2 _).mono ?_
   rintro e w2 ⟨rfl,rfl⟩
   go_wp2_with fail
   go_ret
   exact⟨rfl,(Below.refl _ _).alloc (Nat.le_refl _) _⟩
  have i2:=fun W=>bG y (-1000000) 1000000 W
  rw[decide_eq_false h2] at i2
  have e:ft (x,y)=false:=decide_eq_false (fun h=>h2 h.2.2)
  rw[e,if_pos rfl]
  clear e h1 h2
  go_enter Tryz.func98,Tryz.ntmps98
  go_wp2_with fail
  go_at_call 36
  refine(i1 _).mono ?_
  rintro e w1 ⟨rfl,rfl⟩
  go_wp2_with fail
  go_at_call 36
  refine(i2 _).mono ?_
  rintro e w2 ⟨rfl,rfl⟩
  go_wp2_with fail
  go_ret
  exact⟨rfl,(Below.refl _ _).alloc (Nat.le_refl _) _⟩
 have i1:=fun W=>bG x 0 100000 W
 rw[decide_eq_false h1] at i1
 have e:ft (x,y)=false:=decide_eq_false (fun h=>h1 ⟨h.1,h.2.1⟩)
 rw[e,if_pos rfl]
 clear e h1
 go_enter Tryz.func98,Tryz.ntmps98
 go_wp2_with fail
 go_at_call 36
 refine(i1 _).mono ?_
 rintro e w1 ⟨rfl,rfl⟩
 go_wp2_with fail
 go_ret
 exact⟨rfl,(Below.refl _ _).alloc (Nat.le_refl _) _⟩
theorem Fr (x:Nt):gT x=(decide (0<=x.1/\x.1<=3)&&ft (x.2.1,x.2.2)):=by
 unfold gT ft
 rw[Bool.eq_iff_iff]
 simp only[decide_eq_true_eq,Bool.and_eq_true]
 omega
theorem CS (l:List Nt)(a:Option Addr)(cap n:Nat)(w:World)(S:be ec w a cap l)(hn:n=l.length)(few:n<=10):
  Calls Tryz.prog 59 #[.agg #[.int .i64 1,.int .i64 0,.int .i64 0,.slice a n cap]] w fun e w'=>e=.returned (.int .i64 (if l.all gT then 0 else 3))/\Below w.heap.size w w':=by
 obtain⟨E,hE⟩:∃E:Int,E=if l.all gT then 0 else 3:=⟨_,rfl⟩
 rw[<-hE]
 replace hE:=aa hE
 replace hn:=aa hn
 have bel:Below w.heap.size w (w.alloc (.cells #[.int .i64 1,.int .i64 0,.int .i64 0,.slice a n cap] 73)):=(Below.refl _ _).alloc (Nat.le_refl _) _
 have qj:¬(10:Int)<n:=by omega
 have c1:=fun W=>bG 1 1 4 W
 have c2:=fun W=>bG 0 0 3 W
 have c3:=fun W=>bG 0 0 100001 W
 rw[decide_eq_true (by omega)] at c1 c2 c3
 go_enter Tryz.func59,Tryz.ntmps59
 go_wp2_with fail
 go_at_call 36
 refine(c1 _).mono ?_
 rintro e w2 ⟨rfl,rfl⟩
 go_wp2_with fail
 go_at_call 36
 refine(c2 _).mono ?_
 rintro e w2 ⟨rfl,rfl⟩
 go_wp2_with fail
 go_at_call 36
 refine(c3 _).mono ?_
 rintro e w2 ⟨rfl,rfl⟩
 go_wp2_with fail
 generalize w.alloc _=w1 at*
 go_loopw [59] (fun i wr=>∃(k:Nat),k<=n/\i=.int .i64 k/\Hid ((l.take k).all gT=true)/\Below w.heap.size w wr) (fun i _=>n-(intOf i).toNat)
 case atStart=>exact⟨0,Nat.zero_le _,rfl,aa (by simp),bel⟩
 case round=>
  clear bel
  obtain⟨k,hk,rfl,hA,bel⟩:=hrel
  by_cases aE:k<n
  .have dy:k<l.length:=by rw[<-hn.out];exact aE
   obtain⟨b1,o1,rfl,Mw⟩:=S.where dq (by decide) (by intro h;subst h;simp at dy)
   obtain⟨x,hx⟩:∃x,l[k]? =some x:=⟨_,List.getElem?_eq_getElem dy⟩
   have s1:=S.keep bel (Nat.le_refl _)
   have d0:=s1.cell dq k 0 x _ hx rfl
   have d1:=s1.cell dq k 1 x _ hx rfl
   have d2:=s1.cell dq k 2 x _ hx rfl
   simp only[Nat.add_zero] at d0
   have uJ:gT x=false->E=3:=by
    intro h
    rw[hE.out,if_neg]
    intro aU
    have:=List.all_eq_true.1 aU x (List.mem_of_getElem? hx)
    rw[h] at this
    cases this
   have r9:gT x=true->Hid ((l.take (k+1)).all gT=true):=by
    intro h
    rw[List.take_add_one,hx,List.all_append,hA.out]
    simpa[Hid] using h
   have m5:=Fr x
   obtain⟨xs,xt,xv⟩:=x
   simp only at*
   replace hx:=aa hx
   clear s1 dy c1 c2 c3
   have BX:=ag.laid wr [.int .i64 xs,.int .i64 xt,.int .i64 xv] 75 _ rfl
   have bX:=newB bel (.cells #[.int .i64 xs,.int .i64 xt,.int .i64 xv] 75)
   have c1:=fun W=>bG xs 0 3 W
   have c2:=fun W=>oa xt xv W
   by_cases hs:0<=xs/\xs<=3
   .rw[decide_eq_true hs] at c1 m5
    rw[Bool.true_and] at m5
    rw[<-m5] at c2
    by_cases uK:gT (xs,xt,xv)=true
    .rw[uK,if_neg (by decide)] at c2
     have hY:=r9 uK
     clear uJ r9 uK hs m5
     go_wp2_with fail
     go_at_call 36
     refine(c1 _).mono ?_
     rintro e w2 ⟨rfl,rfl⟩
     generalize wr.alloc _=w2 at*
     have z1:w2.cell? ⟨wr.heap.size,1,none⟩=some (.int .i64 xt):=BX.cell 1
     have z2:w2.cell? ⟨wr.heap.size,2,none⟩=some (.int .i64 xv):=BX.cell 2
     have lX:=BX.lt
     clear c1
     go_wp2_with fail
     go_at_call 98
     refine(c2 _).mono ?_
     rintro e w3 ⟨rfl,b3⟩
     have aC:=ac bX b3
     go_wp2_with fail
     go_roundw
     case rel=>exact⟨k+1,by omega,by go_num,hY,aC⟩
     case measure=>simp[intOf];omega
    have Ml:gT (xs,xt,xv)=false:=by simpa using uK
    rw[Ml,if_pos rfl] at c2
    obtain rfl:=uJ Ml
    clear uJ r9 uK hs m5 Ml
    go_wp2_with fail
    go_at_call 36
    refine(c1 _).mono ?_
    rintro e w2 ⟨rfl,rfl⟩
    generalize wr.alloc _=w2 at*
    have z1:w2.cell? ⟨wr.heap.size,1,none⟩=some (.int .i64 xt):=BX.cell 1
    have z2:w2.cell? ⟨wr.heap.size,2,none⟩=some (.int .i64 xv):=BX.cell 2
    have lX:=BX.lt
    clear c1
    go_wp2_with fail
    go_at_call 98
    refine(c2 _).mono ?_
    rintro e w3 ⟨rfl,b3⟩
    have aC:=ac bX b3
    go_wp2_with fail
    go_ret
    exact⟨rfl,aC⟩
   rw[decide_eq_false hs] at c1 m5
   rw[Bool.false_and] at m5
   obtain rfl:=uJ m5
   clear uJ r9 hs m5 c2
   go_wp2_with fail
   go_at_call 36
   refine(c1 _).mono ?_
   rintro e w2 ⟨rfl,rfl⟩
   go_wp2_with fail
   go_ret
   exact⟨rfl,bX⟩
  obtain rfl:n=k:=by omega
  obtain rfl:E=0:=by
   have:=hA.out
   rw[List.take_of_length_le (by rw[<-hn.out];exact Nat.le_refl _)] at this
   rw[hE.out,if_pos this]
  go_wp2_with fail
  go_ret
  exact⟨rfl,bel⟩
theorem EC (s m:Int)(l:List Nt)(a:Option Addr)(cap n:Nat)(w:World)(S:be ec w a cap l)(hn:n=l.length):
  Calls Tryz.prog 59 #[.agg #[.int .i64 1,.int .i64 s,.int .i64 m,.slice a n cap]] w fun e w'=>e=.returned (.int .i64 (if s≠0\/m≠0 then 4 else if 10<l.length then 2 else if l.all gT then 0 else 3))/\Below w.heap.size w w':=by
 have c1:=fun W=>bG 1 1 4 W
 rw[decide_eq_true (by omega)] at c1
 have bel:=newB (Below.refl w.heap.size w) (.cells #[.int .i64 1,.int .i64 s,.int .i64 m,.slice a n cap] 73)
 by_cases hs:s=0
 .subst hs
  by_cases hm:m=0
  .subst hm
   rw[if_neg (by simp)]
   by_cases uY:10<n
   .rw[if_pos (by rw[<-hn];exact uY)]
    have jz:(10:Int)<n:=by omega
    replace hn:=aa hn
    go_enter Tryz.func59,Tryz.ntmps59
    go_wp2_with fail
    go_at_call 36
    refine(c1 _).mono ?_
    rintro e w2 ⟨rfl,rfl⟩
    go_wp2_with fail
    go_ret
    exact⟨rfl,bel⟩
   rw[if_neg (by rw[<-hn];exact uY)]
   exact CS l a cap n w S hn (by omega)
  rw[if_pos (.inr hm)]
  replace hn:=aa hn
  have ik:decide (m=0)=false:=decide_eq_false hm
  go_enter Tryz.func59,Tryz.ntmps59
  go_wp2_with fail
  go_at_call 36
  refine(c1 _).mono ?_
  rintro e w2 ⟨rfl,rfl⟩
  go_wp2_with fail
  go_ret
  exact⟨rfl,bel⟩
 rw[if_pos (.inl hs)]
 replace hn:=aa hn
 have rP:decide (s=0)=false:=decide_eq_false hs
 go_enter Tryz.func59,Tryz.ntmps59
 go_wp2_with fail
 go_at_call 36
 refine(c1 _).mono ?_
 rintro e w2 ⟨rfl,rfl⟩
 go_wp2_with fail
 go_ret
 exact⟨rfl,bel⟩
theorem KK (s m:Int)(l:List Nt)(a:Option Addr)(cap n:Nat)(w:World)(hn:n=l.length):
  Calls Tryz.prog 59 #[.agg #[.int .i64 2,.int .i64 s,.int .i64 m,.slice a n cap]] w fun e w'=>e=.returned (.int .i64 (gh 2 s m l))/\Below w.heap.size w w':=by
 have c1:=fun W=>bG 2 1 4 W
 rw[decide_eq_true (by omega)] at c1
 have c2:=fun W=>bG s 0 3 W
 have c3:=fun W=>bG m 0 100001 W
 have bel:=newB (Below.refl w.heap.size w) (.cells #[.int .i64 2,.int .i64 s,.int .i64 m,.slice a n cap] 73)
 obtain⟨E,hE⟩:∃E,E=gh 2 s m l:=⟨_,rfl⟩
 rw[<-hE]
 unfold gh at hE
 by_cases h0:n=0
 .subst h0
  obtain rfl:=List.length_eq_zero_iff.1 hn.symm
  clear hn
  rw[if_neg (by simp)] at hE
  by_cases hs:0<=s/\s<=3
  .rw[decide_eq_true hs] at c2
   by_cases hm:0<=m/\m<=100001
   .rw[decide_eq_true hm] at c3
    obtain rfl:E=0:=by rw[hE,if_pos (by omega)]
    clear hE hm hs
    go_enter Tryz.func59,Tryz.ntmps59
    go_wp2_with fail
    go_at_call 36
    refine(c1 _).mono ?_
    rintro e w2 ⟨rfl,rfl⟩
    go_wp2_with fail
    go_at_call 36
    refine(c2 _).mono ?_
    rintro e w3 ⟨rfl,rfl⟩
    go_wp2_with fail
    go_at_call 36
    refine(c3 _).mono ?_
    rintro e w4 ⟨rfl,rfl⟩
    go_wp2_with fail
    generalize w.alloc _=w1 at*
    go_loopw [59] (fun i wr=>i=.int .i64 0/\wr=w1) (fun _ _=>0)
    case atStart=>exact⟨rfl,rfl⟩
    case round=>
     obtain⟨rfl,rfl⟩:=hrel
     go_wp2_with fail
     go_ret
     exact⟨rfl,bel⟩
   rw[decide_eq_false hm] at c3
   obtain rfl:E=3:=by rw[hE,if_neg (by omega)]
   clear hE hm hs
   go_enter Tryz.func59,Tryz.ntmps59
   go_wp2_with fail
   go_at_call 36
   refine(c1 _).mono ?_
   rintro e w2 ⟨rfl,rfl⟩
   go_wp2_with fail
   go_at_call 36
   refine(c2 _).mono ?_
   rintro e w3 ⟨rfl,rfl⟩
   go_wp2_with fail
   go_at_call 36
   refine(c3 _).mono ?_
   rintro e w4 ⟨rfl,rfl⟩
   go_wp2_with fail
   go_ret
   exact⟨rfl,bel⟩
  rw[decide_eq_false hs] at c2
  obtain rfl:E=3:=by rw[hE,if_neg (by omega)]
  clear hE hs
  go_enter Tryz.func59,Tryz.ntmps59
  go_wp2_with fail
  go_at_call 36
  refine(c1 _).mono ?_
  rintro e w2 ⟨rfl,rfl⟩
  go_wp2_with fail
  go_at_call 36
  refine(c2 _).mono ?_
  rintro e w3 ⟨rfl,rfl⟩
  go_wp2_with fail
  go_ret
  exact⟨rfl,bel⟩
 obtain rfl:E=4:=by rw[hE,if_pos (.inl (by intro h;subst h;exact h0 hn))]
 clear hE
 have hp:(0:Int)<n:=by omega
 have hd:decide (0<n)=true:=decide_eq_true (by omega)
 replace hn:=aa hn
 go_enter Tryz.func59,Tryz.ntmps59
 go_wp2_with fail
 go_at_call 36
 refine(c1 _).mono ?_
 rintro e w2 ⟨rfl,rfl⟩
 go_wp2_with fail
 go_ret
 exact⟨rfl,bel⟩
theorem KV (s m:Int)(l:List Nt)(a:Option Addr)(cap n:Nat)(w:World)(hn:n=l.length):
  Calls Tryz.prog 59 #[.agg #[.int .i64 3,.int .i64 s,.int .i64 m,.slice a n cap]] w fun e w'=>e=.returned (.int .i64 (gh 3 s m l))/\Below w.heap.size w w':=by
 have c1:=fun W=>bG 3 1 4 W
 rw[decide_eq_true (by omega)] at c1
 have c2:=fun W=>bG s 0 3 W
 have c3:=fun W=>bG m 0 100001 W
 have bel:=newB (Below.refl w.heap.size w) (.cells #[.int .i64 3,.int .i64 s,.int .i64 m,.slice a n cap] 73)
 obtain⟨E,hE⟩:∃E,E=gh 3 s m l:=⟨_,rfl⟩
 rw[<-hE]
 unfold gh at hE
 by_cases h0:n=0
 .subst h0
  obtain rfl:=List.length_eq_zero_iff.1 hn.symm
  clear hn
  rw[if_neg (by simp)] at hE
  by_cases hs:0<=s/\s<=3
  .rw[decide_eq_true hs] at c2
   by_cases hm:0<=m/\m<=100001
   .rw[decide_eq_true hm] at c3
    obtain rfl:E=0:=by rw[hE,if_pos (by omega)]
    clear hE hm hs
    go_enter Tryz.func59,Tryz.ntmps59
    go_wp2_with fail
    go_at_call 36
    refine(c1 _).mono ?_
    rintro e w2 ⟨rfl,rfl⟩
    go_wp2_with fail
    go_at_call 36
    refine(c2 _).mono ?_
    rintro e w3 ⟨rfl,rfl⟩
    go_wp2_with fail
    go_at_call 36
    refine(c3 _).mono ?_
    rintro e w4 ⟨rfl,rfl⟩
    go_wp2_with fail
    generalize w.alloc _=w1 at*
    go_loopw [59] (fun i wr=>i=.int .i64 0/\wr=w1) (fun _ _=>0)
    case atStart=>exact⟨rfl,rfl⟩
    case round=>
     obtain⟨rfl,rfl⟩:=hrel
     go_wp2_with fail
     go_ret
     exact⟨rfl,bel⟩
   rw[decide_eq_false hm] at c3
   obtain rfl:E=3:=by rw[hE,if_neg (by omega)]
   clear hE hm hs
   go_enter Tryz.func59,Tryz.ntmps59
   go_wp2_with fail
   go_at_call 36
   refine(c1 _).mono ?_
   rintro e w2 ⟨rfl,rfl⟩
   go_wp2_with fail
   go_at_call 36
   refine(c2 _).mono ?_
   rintro e w3 ⟨rfl,rfl⟩
   go_wp2_with fail
   go_at_call 36
   refine(c3 _).mono ?_
   rintro e w4 ⟨rfl,rfl⟩
   go_wp2_with fail
   go_ret
   exact⟨rfl,bel⟩
  rw[decide_eq_false hs] at c2
  obtain rfl:E=3:=by rw[hE,if_neg (by omega)]
  clear hE hs
  go_enter Tryz.func59,Tryz.ntmps59
  go_wp2_with fail
  go_at_call 36
  refine(c1 _).mono ?_
  rintro e w2 ⟨rfl,rfl⟩
  go_wp2_with fail
  go_at_call 36
  refine(c2 _).mono ?_
  rintro e w3 ⟨rfl,rfl⟩
  go_wp2_with fail
  go_ret
  exact⟨rfl,bel⟩
 obtain rfl:E=4:=by rw[hE,if_pos (.inl (by intro h;subst h;exact h0 hn))]
 clear hE
 have hp:(0:Int)<n:=by omega
 have hd:decide (0<n)=true:=decide_eq_true (by omega)
 replace hn:=aa hn
 go_enter Tryz.func59,Tryz.ntmps59
 go_wp2_with fail
 go_at_call 36
 refine(c1 _).mono ?_
 rintro e w2 ⟨rfl,rfl⟩
 go_wp2_with fail
 go_ret
 exact⟨rfl,bel⟩
theorem KG (s m:Int)(l:List Nt)(a:Option Addr)(cap n:Nat)(w:World)(hn:n=l.length):
  Calls Tryz.prog 59 #[.agg #[.int .i64 4,.int .i64 s,.int .i64 m,.slice a n cap]] w fun e w'=>e=.returned (.int .i64 (gh 4 s m l))/\Below w.heap.size w w':=by
 have c1:=fun W=>bG 4 1 4 W
 rw[decide_eq_true (by omega)] at c1
 have c2:=fun W=>bG s 0 3 W
 have c3:=fun W=>bG m 0 100001 W
 have bel:=newB (Below.refl w.heap.size w) (.cells #[.int .i64 4,.int .i64 s,.int .i64 m,.slice a n cap] 73)
 obtain⟨E,hE⟩:∃E,E=gh 4 s m l:=⟨_,rfl⟩
 rw[<-hE]
 unfold gh at hE
 by_cases h0:n=0
 .subst h0
  obtain rfl:=List.length_eq_zero_iff.1 hn.symm
  clear hn
  by_cases hs:s=0
  .subst hs
   rw[decide_eq_true (by omega)] at c2
   rw[if_neg (by simp)] at hE
   by_cases hm:0<=m/\m<=100001
   .rw[decide_eq_true hm] at c3
    obtain rfl:E=0:=by rw[hE,if_pos (by omega)]
    clear hE hm
    go_enter Tryz.func59,Tryz.ntmps59
    go_wp2_with fail
    go_at_call 36
    refine(c1 _).mono ?_
    rintro e w2 ⟨rfl,rfl⟩
    go_wp2_with fail
    go_at_call 36
    refine(c2 _).mono ?_
    rintro e w3 ⟨rfl,rfl⟩
    go_wp2_with fail
    go_at_call 36
    refine(c3 _).mono ?_
    rintro e w4 ⟨rfl,rfl⟩
    go_wp2_with fail
    generalize w.alloc _=w1 at*
    go_loopw [59] (fun i wr=>i=.int .i64 0/\wr=w1) (fun _ _=>0)
    case atStart=>exact⟨rfl,rfl⟩
    case round=>
     obtain⟨rfl,rfl⟩:=hrel
     go_wp2_with fail
     go_ret
     exact⟨rfl,bel⟩
   rw[decide_eq_false hm] at c3
   obtain rfl:E=3:=by rw[hE,if_neg (by omega)]
   clear hE hm
   go_enter Tryz.func59,Tryz.ntmps59
   go_wp2_with fail
   go_at_call 36
   refine(c1 _).mono ?_
   rintro e w2 ⟨rfl,rfl⟩
   go_wp2_with fail
   go_at_call 36
   refine(c2 _).mono ?_
   rintro e w3 ⟨rfl,rfl⟩
   go_wp2_with fail
   go_at_call 36
   refine(c3 _).mono ?_
   rintro e w4 ⟨rfl,rfl⟩
   go_wp2_with fail
   go_ret
   exact⟨rfl,bel⟩
  obtain rfl:E=4:=by rw[hE,if_pos (.inr ⟨rfl,hs⟩)]
  have rP:decide (s=0)=false:=decide_eq_false hs
  clear hE
  go_enter Tryz.func59,Tryz.ntmps59
  go_wp2_with fail
  go_at_call 36
  refine(c1 _).mono ?_
  rintro e w2 ⟨rfl,rfl⟩
  go_wp2_with fail
  go_ret
  exact⟨rfl,bel⟩
 obtain rfl:E=4:=by rw[hE,if_pos (.inl (by intro h;subst h;exact h0 hn))]
 clear hE
 have hp:(0:Int)<n:=by omega
 have hd:decide (0<n)=true:=decide_eq_true (by omega)
 replace hn:=aa hn
 go_enter Tryz.func59,Tryz.ntmps59
 go_wp2_with fail
 go_at_call 36
 refine(c1 _).mono ?_
 rintro e w2 ⟨rfl,rfl⟩
 go_wp2_with fail
 go_ret
 exact⟨rfl,bel⟩
theorem pu (r:Rc)(a:Option Addr)(cap n:Nat)(w:World)(S:be ec w a cap r.e)(hn:n=r.e.length):
  Calls Tryz.prog 59 #[.agg #[.int .i64 r.k,.int .i64 r.s,.int .i64 r.n,.slice a n cap]] w fun e w'=>e=.returned (.int .i64 (aP r))/\Below w.heap.size w w':=by
 obtain⟨k,s,m,l⟩:=r
 simp only at*
 by_cases h1:k=1
 .subst h1
  exact EC s m l a cap n w S hn
 by_cases h2:k=2\/k=3\/k=4
 .rw[show aP ⟨k,s,m,l⟩=gh k s m l by unfold aP gh;rw[if_neg h1,if_pos h2]]
  rcases h2 with rfl|rfl|rfl
  .exact KK s m l a cap n w hn
  .exact KV s m l a cap n w hn
  exact KG s m l a cap n w hn
 rw[show aP ⟨k,s,m,l⟩=4 by unfold aP;rw[if_neg h1,if_neg h2]]
 have c1:=fun W=>bG k 1 4 W
 rw[decide_eq_false (by omega)] at c1
 have bel:=newB (Below.refl w.heap.size w) (.cells #[.int .i64 k,.int .i64 s,.int .i64 m,.slice a n cap] 73)
 clear h1 h2
 replace hn:=aa hn
 go_enter Tryz.func59,Tryz.ntmps59
 go_wp2_with fail
 go_at_call 36
 refine(c1 _).mono ?_
 rintro e w2 ⟨rfl,rfl⟩
 go_wp2_with fail
 go_ret
 exact⟨rfl,bel⟩
def nf (n:Int):ByteArray:=⟨(Lib.itoa n).toArray⟩
theorem Sn:(Tryz.prog.info? 9).map (fun i=>(i.zero,i.size,i.bytes))=some (some (.string ⟨#[]⟩),1,16):=by kernel_rfl
theorem Nn (ns:List Int)(g m bw k0:Nat)(aw:Option Addr)(G:Nat)(ws:List ByteArray)(w:World)(hm:m=ns.length)(few:m<=100)(Dn:k0<=100)
  (hgb:bw<g) (BN:ag w g (ns.map (Value.int .i64)) 3) (BW:ag w bw [.slice aw k0 G] 136) (own:w.ownsRow (bw+1) 9 1 (.slice aw k0 G) k0 (ws.map Value.string))
  (hb:∀n∈ns,-9223372036854775808≤n∧n≤9223372036854775807) (htab:∀W,Below bw w W→Lib.TabIs Tryz.prog W "internal/strconv.uint64pow10" .u64 Lib.pow10Tab):
  Calls Tryz.prog 116 #[.slice (some ⟨g,0,none⟩) m m,.pointer (some ⟨bw,0,none⟩)] w fun e w'=>e=.returned (.tuple #[])/\
   ∃Hf G',ag w' bw [.slice Hf (k0+m) G'] 136/\w'.ownsRow (bw+1) 9 1 (.slice Hf (k0+m) G') (k0+m) ((ws++ns.map nf).map Value.string)/\Below bw w w':=by
 obtain⟨i0,hi,bK,bm,bQ⟩:=info_parts Sn
 replace hm:=aa hm
 go_enter Tryz.func116,Tryz.ntmps116
 go_wp2_with fail
 go_loopw [7] (fun i wr=>∃(k:Nat) (ao:Option Addr) (H kk:Nat),k<=m/\i=.int .i64 k/\kk=k0+k/\ag wr g (ns.map (Value.int .i64)) 3/\ag wr bw [.slice ao kk H] 136/\wr.ownsRow (bw+1) 9 1 (.slice ao kk H) kk ((ws++(ns.take k).map nf).map Value.string)/\Below bw w wr) (fun i _=>m-(intOf i).toNat)
 case atStart=>exact⟨0,aw,G,k0,Nat.zero_le _,rfl,rfl,BN,BW,by simpa using own,Below.refl _ _⟩
 case round=>
  clear BN BW own
  obtain⟨k,ao,H,kk,hk,rfl,qD,BN,BW,own,bel⟩:=hrel
  by_cases aE:k<m
  .have dy:k<ns.length:=by rw[<-hm.out];exact aE
   obtain⟨x,hx⟩:∃x,ns[k]? =some x:=⟨_,List.getElem?_eq_getElem dy⟩
   obtain⟨x0,x1⟩:=hb x (List.mem_of_getElem? hx)
   have d0:wr.cell? ⟨g,k,none⟩=some (.int .i64 x):=(BN.cell k).trans (by rw[List.getElem?_map,hx];rfl)
   have e0:wr.cell? ⟨bw,0,none⟩=some (.slice ao kk H):=BW.cell 0
   have fz:wr.frozen? ⟨bw,0,none⟩=false:=BW.free 0
   have lw:=BW.lt
   have lg:=BN.lt
   have hT:(ws++(ns.take k).map nf).map Value.string++[.string (nf x)]=(ws++(ns.take (k+1)).map nf).map Value.string:=by
    rw[List.take_add_one,hx]
    simp
   have cI:∀W,Below wr.heap.size wr W->Calls Tryz.prog 117 #[.int .i64 x] W fun e w'=>∃v',e=.returned v'/\v'=.string (nf x)/\Below wr.heap.size wr w'/\w'.cell? ⟨bw,0,none⟩=some (.slice ao kk H):=by
    intro W hW
    refine(Tryz.strconv_Itoa x x0 x1 _ (htab W (bel.trans (hW.mono (Nat.le_of_lt lw))))).mono ?_
    rintro e w' ⟨rfl,q,os,UN⟩
    have b3:Below W.heap.size W w':=by rw[UN];exact Lib.below_grow _ _ (Nat.le_refl _) _ _
    have bb:=hW.trans (b3.mono hW.size)
    exact⟨_,rfl,rfl,bb,(BW.keep bb lw).cell 0⟩
   have Mg:∀W,Below wr.heap.size wr W->W.ownsRow (bw+1) 9 1 (.slice ao kk H) kk ((ws++(ns.take k).map nf).map Value.string):=fun W h=>dx own h
   have aai:kk<=200:=by omega
   generalize nf x=X at*
   have fc:∀u∈([.string X]:List Value),u.oneCell'=true:=by
    intro u hu
    simp only[List.mem_cons,List.not_mem_nil,or_false] at hu
    subst hu
    rfl
   generalize(ws++(ns.take k).map nf).map Value.string=XS at*
   replace hT:=aa hT
   replace hx:=aa hx
   replace qD:=aa qD
   replace Mg:=aa Mg
   have lww:bw+1<=wr.heap.size:=lw
   clear dy
   go_upto_region 3 with fail
   go_region_law
    (first
     | (refine nR (by rfl) 117 (.tmp 12) 3 (by rfl) (.int .i64 x) (by rfl) (by go_simp) (cI _ (by exact ak (Below.refl _ _))) (by rintro e w' ⟨v',rfl,_⟩;exact⟨_,rfl⟩) ?_;rintro v5 w5 ⟨YL,Sw,YI,ki,z0⟩;obtain rfl:=Ending.returned.inj Sw;subst YI;have o5:=(Mg.out w5 ki).alloc (.cells #[.string X] 9);have b5:=newB ki (.cells #[.string X] 9);have l5:bw<w5.heap.size:=Nat.lt_of_lt_of_le lw ki.size)
     | (refine step_append_lies _ (by rfl) (.tmp 11) (.tmp 14) 136 (by rfl) (bw+1) 9 i0 (.string ⟨#[]⟩) 1 16 Tryz.underlying136 hi bK bm bQ rfl (by decide) (.slice ao kk H) kk _ (by rfl) o5 ⟨w5.heap.size,0,none⟩ 1 1 [.string X] (by rfl) (by rfl) (World.news_of_block (cs:=#[.string X]) (t:=9) (fr:=(0,0)) (heap_alloc_new w5 _)) fc (by decide) (by unfold maxLen;omega) (by omega) (by have:=b5.size;omega) (w5.heap.size+1) (by simp) ?_;intro g6 c6 w6 d8 dj Kb K8;have B6:=(BW.keep b5 lw).grown dj (fun k e=>by have:=(o5.lt k e).1;omega);have N6:=(BN.keep b5 lg).grown dj (fun k e h=>mM o5 (BN.keep b5 lg) (by decide) (by rw[e,h]));have eg:=aG (b5.mono (Nat.le_of_lt lw)) o5 dj (Nat.le_succ _) (by have:=b5.size;omega);have u1:w6.cell? ⟨bw,0,none⟩=some (.slice ao kk H):=B6.cell 0;have Yg:w6.frozen? ⟨bw,0,none⟩=false:=B6.free 0))
   all_goals(
    go_wp2_with fail
    go_roundw
    case rel=>
     have o7:=ownsRow_setCell_other d8 (a:=⟨bw,0,none⟩) (fun e=>by have:g6=bw:=Option.some.inj e;have:=(d8.lt g6 rfl).1;omega) (.slice (some ⟨g6,0,none⟩) (kk+1) c6)
     rw[hT.out] at o7
     exact⟨k+1,some ⟨g6,0,none⟩,c6,kk+1,by omega,by go_num,by rw[qD.out];omega,N6.other 0 _ (by omega),B6.set 0 _,o7,(bel.trans eg).setCell (p:=⟨bw,0,none⟩) (Nat.le_refl _) _⟩
    case measure=>simp[intOf];omega)
  obtain rfl:m=k:=by omega
  subst qD
  rw[List.take_of_length_le (by rw[<-hm.out];exact Nat.le_refl _)] at own
  go_wp2_with fail
  go_end0
  exact⟨rfl,_,_,BW,own,bel⟩
theorem qZ (ns:List Int)(bw k0 g:Nat)(aw:Option Addr)(G:Nat)(ws:List ByteArray)(V:World)(few:ns.length<=100)(Dn:k0<=100)
  (BW:ag V bw [.slice aw k0 G] 136) (own:V.ownsRow (bw+1) 9 1 (.slice aw k0 G) k0 (ws.map Value.string)) (hg:g=V.heap.size)
  (hb:∀n∈ns,-9223372036854775808≤n∧n≤9223372036854775807) (htab:∀W,Below bw V W→Lib.TabIs Tryz.prog W "internal/strconv.uint64pow10" .u64 Lib.pow10Tab):
  Calls Tryz.prog 116 #[.slice (some ⟨g,0,none⟩) ns.length ns.length,.pointer (some ⟨bw,0,none⟩)] (V.alloc (.cells (ns.map (Value.int .i64)).toArray 3)) fun e w'=>e=.returned (.tuple #[])/\
   ∃Hf G',ag w' bw [.slice Hf (k0+ns.length) G'] 136/\w'.ownsRow (bw+1) 9 1 (.slice Hf (k0+ns.length) G') (k0+ns.length) ((ws++ns.map nf).map Value.string)/\Below bw V w':=by
 subst hg
 have lw:=BW.lt
 have b1:Below bw V (V.alloc (.cells (ns.map (Value.int .i64)).toArray 3)):=(Below.refl bw V).alloc (Nat.le_of_lt lw) _
 refine(Nn ns V.heap.size ns.length bw k0 aw G ws _ rfl few Dn lw (ag.laid V _ _ _ rfl) (BW.alc _) (own.alloc _) hb (fun W h=>htab W (b1.trans h))).mono ?_
 rintro e w' ⟨rfl,Hf,G',h1,h2,h3⟩
 exact⟨rfl,Hf,G',h1,h2,b1.trans h3⟩
end Go.Proofs.YtoonnbhoiocoeaaGreatDoor
