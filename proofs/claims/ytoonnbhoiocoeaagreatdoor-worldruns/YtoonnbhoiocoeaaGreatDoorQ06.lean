/-
  Texts as records, as plain lists: what note.read and note.Parse say. No program is named.
-/
import Derived.Lib.Split
import Derived.Deep.RegionHeld3
import Derived.Test.YtoonnbhoiocoeaaGreatDoorQ05
set_option maxHeartbeats 40000000
set_option maxRecDepth 100000
set_option linter.unusedVariables false
namespace Go.Proofs.YtoonnbhoiocoeaaGreatDoor
def hI:List (List UInt8)->Option Rc
 | []=>none
 |w::r=>(bu r).bind fun ns=>
  if w=fS/\ns.length % 3=0 then some ⟨1,0,0,fq ns⟩
  else if w=jm/\ns.length=2 then some ⟨2,ns.getD 0 0,ns.getD 1 0,[]⟩
  else if w=f'/\ns.length=2 then some ⟨3,ns.getD 0 0,ns.getD 1 0,[]⟩
  else if w=jo/\ns.length=1 then some ⟨4,0,ns.getD 0 0,[]⟩
  else none
def blank:ByteArray:=⟨#[32]⟩
def nC (s:ByteArray):List ByteArray:=Lib.splitB blank 0 (Lib.countB s blank) s
def jn (s:ByteArray):Option Rc:=hI ((nC s).map bytes)
theorem tZ (sep:ByteArray)(sv:Nat):∀(k:Nat) (s b:ByteArray),b∈Lib.splitB sep sv k s->b.size<=s.size
 |0,s,b,h=>by
  rw[Lib.splitB_zero] at h
  simp at h
  subst h
  exact Nat.le_refl _
 |k+1,s,b,h=>by
  unfold Lib.splitB at h
  split at h
  .simp at h
   subst h
   exact Nat.le_refl _
  rcases List.mem_cons.1 h with h|h
  .subst h
   rw[ByteArray.size_extract]
   omega
  have:=tZ sep sv k _ b h
  rw[ByteArray.size_extract] at this
  omega
theorem rX:∀(m:Nat) (ns:List Int),ns.length=m*3->(fq ns).length=m:=fun m ns h=>by
 rw[<-mA m ns h]
 simp
open Go.RowKit
theorem xN {w:World}{b1 b2 s1 s2 n m:Nat}{t1 t2:TypeId}{u v:Value}{xs ys:List Value}(h:w.ownsRow b1 t1 s1 u n xs)(k:w.ownsRow b2 t2 s2 v m ys)(ht:t1≠t2):Apart u v:=by
 intro g hu hv
 rcases h.2 with⟨rfl,_⟩| ⟨g1,c1,Fn,rfl,_,h1,_⟩
 .simp[Value.ownBlock] at hu
 rcases k.2 with⟨rfl,_⟩| ⟨g2,c2,Ri,rfl,_,h2,_⟩
 .simp[Value.ownBlock] at hv
 have e1:g1=g:=Option.some.inj hu
 have e2:g2=g:=Option.some.inj hv
 subst e1
 subst e2
 rw[h1] at h2
 simp only[Option.some.injEq,Obj.cells.injEq] at h2
 exact ht h2.2.1
theorem mM {w:World}{base n g:Nat}{e t:TypeId}{size:Nat}{v:Value}{xs cs:List Value}(h:w.ownsRow base e size v n xs)(B:ag w g cs t)(ht:e≠t):v.ownBlock≠some g:=by
 rcases h.2 with⟨rfl,_⟩| ⟨g1,c1,Fn,rfl,_,h1,_⟩
 .intro e;cases e
 intro e
 have e1:g1=g:=by simpa[Value.ownBlock] using e
 subst e1
 have h2:=h1.symm.trans B
 simp only[Option.some.injEq,Obj.cells.injEq] at h2
 exact ht h2.2.1
theorem j6 {w:World}{base base':Nat}{e:TypeId}{size n:Nat}{v:Value}{xs:List Value}(h:w.ownsRow base e size v n xs)(hb:base'<=base):w.ownsRow base' e size v n xs:=by
 refine⟨h.1,?_⟩
 rcases h.2 with h0| ⟨g,cap,cur,e1,h1,h2⟩
 .exact .inl h0
 exact .inr ⟨g,cap,cur,e1,Nat.le_trans hb h1,h2⟩
theorem yI (wd:ByteArray)(ns:List Int)(a:Option Addr)(cap n:Nat)(w:World)(hg:Gl w)(S:Sl w a cap (ns.map (Value.int .i64)))(hn:n=ns.length)(hb:∀m∈ns,-9223372036854775808<=m/\m<=9223372036854775807)(few:n<=1000)(hw:wd.size<=1000):
  Calls Tryz.prog 204 #[.string wd,.slice a n cap] w fun e w'=>e=.returned (.string ⟨(wd.data.toList++cV ns).toArray⟩)/\Below w.heap.size w w':=by
 replace hn:=aa hn
 have I0:=Lib.IsBuilderF.of (Lib.fresh_isBuilder 192 5 w)
 have bel:Below w.heap.size w (w.alloc (.cells #[.pointer none,.slice none 0 0] 192)):=(Below.refl _ _).alloc (Nat.le_refl _) _
 go_enter Tryz.func204,Tryz.ntmps204
 go_wp2_with fail
 generalize w.alloc _=w1 at*
 go_at_call 146
 refine(uz w.heap.size w.heap.size [] wd _ I0 (by simp;omega) bel.size).mono ?_
 rintro e w2 ⟨rfl,I1,b2,-⟩
 have am:Below w.heap.size w w2:=bel.trans b2
 replace I1:Lib.IsBuilderF 192 5 w.heap.size w.heap.size (Lib.byteCells (wd.data.toList++cV (ns.take 0))) w2:=.inr (by simpa[cV,Lib.strCells_eq] using I1)
 clear I0 b2 bel
 go_wp2_with fail
 go_loopw [12] (fun i wr=>∃(k:Nat),k<=n/\i=.int .i64 k/\Lib.IsBuilderF 192 5 w.heap.size w.heap.size (Lib.byteCells (wd.data.toList++cV (ns.take k))) wr/\Below w.heap.size w wr) (fun i _=>n-(intOf i).toNat)
 case atStart=>exact⟨0,Nat.zero_le _,rfl,I1,am⟩
 case round=>
  clear I1 am
  obtain⟨k,hk,rfl,I1,bel⟩:=hrel
  by_cases aE:k<n
  .have dy:k<ns.length:=by rw[<-hn.out];exact aE
   obtain⟨m,hm⟩:∃m,ns[k]? =some m:=⟨_,List.getElem?_eq_getElem dy⟩
   have kH:=hb m (List.mem_of_getElem? hm)
   have S1:=S.keep bel (Nat.le_refl _)
   obtain⟨b1,o1,rfl,-,hc⟩:=S1.row.at (by intro h;have:=congrArg List.length h;simp at this;subst this;simp at dy)
   have d0:wr.cell? ⟨b1,o1+k,none⟩=some (.int .i64 m):=hc k _ (by rw[List.getElem?_map,hm];rfl)
   have g1:=hg.call bel
   have fE:=jg (ns.take k) (fun q hq=>hb q (List.mem_of_mem_take hq))
   have hlen:(Lib.byteCells (wd.data.toList++cV (ns.take k))).length<=30000:=by
    rw[Lib.byteCells_length,List.length_append]
    have h1:(ns.take k).length<=1000:=by rw[List.length_take];omega
    have h2:wd.data.toList.length=wd.size:=rfl
    omega
   have hit:=EN m kH.1 kH.2
   have hT:Lib.byteCells (wd.data.toList++cV (ns.take k))++[Value.int .u8 32]++Lib.strCells ⟨(Lib.itoa m).toArray⟩=Lib.byteCells (wd.data.toList++cV (ns.take (k+1))):=by
    rw[List.take_add_one,hm]
    simp only[Option.toList_some]
    rw[Fa,Lib.strCells_eq,<-List.append_assoc,Lib.byteCells_append (_++_) (32::_)]
    rw[List.append_assoc]
    rfl
   generalize Lib.byteCells (wd.data.toList++cV (ns.take k))=X at*
   replace hT:=aa hT
   replace hm:=aa hm
   clear S1 hc dy fE
   go_wp2_with fail
   go_at_call 231
   refine(Ij w.heap.size w.heap.size X 32 _ I1 (by omega) bel.size).mono ?_
   rintro e w3 ⟨rfl,I3,b3,-⟩
   have aC:Below w.heap.size w w3:=bel.trans b3
   have g3:=hg.call aC
   go_wp2_with fail
   go_at_call 117
   refine(Tryz.strconv_Itoa m kH.1 kH.2 _ g3.tab).mono ?_
   rintro e w4 ⟨rfl,q,os,XB⟩
   have b4:Below w3.heap.size w3 w4:=by rw[XB];exact Lib.below_grow _ _ (Nat.le_refl _) _ _
   have I4:=K7 (.inr I3) b4
   have ay:=ac aC b4
   clear XB I3 b3 aC g3
   go_wp2_with fail
   go_at_call 146
   refine(uz w.heap.size w.heap.size _ ⟨(Lib.itoa m).toArray⟩ _ I4 (by simp[ByteArray.size];omega) ay.size).mono ?_
   rintro e w5 ⟨rfl,I5,b5,-⟩
   rw[hT.out] at I5
   have br:Below w.heap.size w w5:=ay.trans b5
   clear I4 b4 b5 ay
   go_wp2_with fail
   go_roundw
   case rel=>exact⟨k+1,by omega,by go_num,.inr I5,br⟩
   case measure=>simp[intOf];omega
  obtain rfl:n=k:=by omega
  rw[List.take_of_length_le (by rw[<-hn.out];exact Nat.le_refl _)] at I1
  go_wp2_with fail
  go_at_call 147
  refine(Tryz.Builder_String_any_k w.heap.size w.heap.size _ _ I1 bel.size).mono ?_
  rintro e w5 ⟨rfl,-,b5,-⟩
  go_wp2_with fail
  go_ret
  exact⟨rfl,bel.trans b5⟩
theorem xk (s m:Int)(l:List Nt)(a:Option Addr)(cap n:Nat)(w:World)(S:be ec w a cap l)(hn:n=l.length):
  Calls Tryz.prog 148 #[.agg #[.int .i64 1,.int .i64 s,.int .i64 m,.slice a n cap]] w fun e w'=>e=.returned (.int .i64 (if s≠0\/m≠0 then 4 else if 10<l.length then 2 else if l.all gT then 0 else 3))/\Below w.heap.size w w':=by
 by_cases hs:s=0
 .subst hs
  by_cases hm:m=0
  .subst hm
   rw[if_neg (by simp)]
   by_cases uY:10<n
   .rw[if_pos (by rw[<-hn];exact uY)]
    have jz:(10:Int)<n:=by omega
    replace hn:=aa hn
    go_enter Tryz.func148,Tryz.ntmps148
    go_wp2_with fail
    go_ret
    exact⟨rfl,(Below.refl _ _).alloc (Nat.le_refl _) _⟩
   rw[if_neg (by rw[<-hn];exact uY)]
   exact Ix l a cap n w S hn (by omega)
  rw[if_pos (.inr hm)]
  replace hn:=aa hn
  have ik:decide (m=0)=false:=decide_eq_false hm
  go_enter Tryz.func148,Tryz.ntmps148
  go_wp2_with fail
  go_ret
  exact⟨rfl,(Below.refl _ _).alloc (Nat.le_refl _) _⟩
 rw[if_pos (.inl hs)]
 replace hn:=aa hn
 have rP:decide (s=0)=false:=decide_eq_false hs
 go_enter Tryz.func148,Tryz.ntmps148
 go_wp2_with fail
 go_ret
 exact⟨rfl,(Below.refl _ _).alloc (Nat.le_refl _) _⟩
def gh (k s m:Int)(l:List Nt):Int:=if l≠[]\/(k=4/\s≠0) then 4 else if 0<=s/\s<4/\0<=m/\m<=100001 then 0 else 3
theorem EZ (k s m:Int)(a:Option Addr)(cap:Nat)(w:World)(hk:k≠4\/s=0):
  Calls Tryz.prog 149 #[.agg #[.int .i64 k,.int .i64 s,.int .i64 m,.slice a 0 cap]] w fun e w'=>e=.returned (.int .i64 (if 0<=s/\s<4/\0<=m/\m<=100001 then 0 else 3))/\Below w.heap.size w w':=by
 obtain⟨E,hE⟩:∃E:Int,E=if 0<=s/\s<4/\0<=m/\m<=100001 then 0 else 3:=⟨_,rfl⟩
 rw[<-hE]
 have c1:=fun W=>mH s W
 by_cases h4:k=4
 .obtain rfl:s=0:=hk.resolve_left (fun h=>h h4)
  subst h4
  rw[decide_eq_true (by omega:(0:Int)<=0/\(0:Int)<4)] at c1
  clear hk
  by_cases m0:m<0
  .obtain rfl:E=3:=by rw[hE,if_neg (by omega)]
   clear hE
   have d0:decide (m<0)=true:=decide_eq_true m0
   go_enter Tryz.func149,Tryz.ntmps149
   go_wp2_with fail
   go_at_call 180
   refine(c1 _).mono ?_
   rintro e w2 ⟨rfl,rfl⟩
   go_wp2_with fail
   go_ret
   exact⟨rfl,(Below.refl _ _).alloc (Nat.le_refl _) _⟩
  have d0:decide (m<0)=false:=decide_eq_false m0
  by_cases m1:100001<m
  .obtain rfl:E=3:=by rw[hE,if_neg (by omega)]
   clear hE
   have d1:decide ((100001:Int)<m)=true:=decide_eq_true m1
   go_enter Tryz.func149,Tryz.ntmps149
   go_wp2_with fail
   go_at_call 180
   refine(c1 _).mono ?_
   rintro e w2 ⟨rfl,rfl⟩
   go_wp2_with fail
   go_ret
   exact⟨rfl,(Below.refl _ _).alloc (Nat.le_refl _) _⟩
  obtain rfl:E=0:=by rw[hE,if_pos (by omega)]
  clear hE
  have d1:decide ((100001:Int)<m)=false:=decide_eq_false m1
  go_enter Tryz.func149,Tryz.ntmps149
  go_wp2_with fail
  go_at_call 180
  refine(c1 _).mono ?_
  rintro e w2 ⟨rfl,rfl⟩
  go_wp2_with fail
  go_ret
  exact⟨rfl,(Below.refl _ _).alloc (Nat.le_refl _) _⟩
 have d4:decide (k=4)=false:=decide_eq_false h4
 clear hk
 by_cases hs:0<=s/\s<4
 .rw[decide_eq_true hs] at c1
  by_cases m0:m<0
  .obtain rfl:E=3:=by rw[hE,if_neg (by omega)]
   clear hE
   have d0:decide (m<0)=true:=decide_eq_true m0
   go_enter Tryz.func149,Tryz.ntmps149
   go_wp2_with fail
   go_at_call 180
   refine(c1 _).mono ?_
   rintro e w2 ⟨rfl,rfl⟩
   go_wp2_with fail
   go_ret
   exact⟨rfl,(Below.refl _ _).alloc (Nat.le_refl _) _⟩
  have d0:decide (m<0)=false:=decide_eq_false m0
  by_cases m1:100001<m
  .obtain rfl:E=3:=by rw[hE,if_neg (by omega)]
   clear hE
   have d1:decide ((100001:Int)<m)=true:=decide_eq_true m1
   go_enter Tryz.func149,Tryz.ntmps149
   go_wp2_with fail
   go_at_call 180
   refine(c1 _).mono ?_
   rintro e w2 ⟨rfl,rfl⟩
   go_wp2_with fail
   go_ret
   exact⟨rfl,(Below.refl _ _).alloc (Nat.le_refl _) _⟩
  obtain rfl:E=0:=by rw[hE,if_pos (by omega)]
  clear hE
  have d1:decide ((100001:Int)<m)=false:=decide_eq_false m1
  go_enter Tryz.func149,Tryz.ntmps149
  go_wp2_with fail
  go_at_call 180
  refine(c1 _).mono ?_
  rintro e w2 ⟨rfl,rfl⟩
  go_wp2_with fail
  go_ret
  exact⟨rfl,(Below.refl _ _).alloc (Nat.le_refl _) _⟩
 rw[decide_eq_false hs] at c1
 obtain rfl:E=3:=by rw[hE,if_neg (by omega)]
 clear hE
 go_enter Tryz.func149,Tryz.ntmps149
 go_wp2_with fail
 go_at_call 180
 refine(c1 _).mono ?_
 rintro e w2 ⟨rfl,rfl⟩
 go_wp2_with fail
 go_ret
 exact⟨rfl,(Below.refl _ _).alloc (Nat.le_refl _) _⟩
theorem wE (k s m:Int)(l:List Nt)(a:Option Addr)(cap n:Nat)(w:World)(hn:n=l.length):
  Calls Tryz.prog 149 #[.agg #[.int .i64 k,.int .i64 s,.int .i64 m,.slice a n cap]] w fun e w'=>e=.returned (.int .i64 (gh k s m l))/\Below w.heap.size w w':=by
 unfold gh
 by_cases h0:n=0
 .subst h0
  obtain rfl:=List.length_eq_zero_iff.1 hn.symm
  by_cases hk:k=4/\s≠0
  .rw[if_pos (.inr hk)]
   obtain⟨rfl,hs⟩:=hk
   have d1:decide (s=0)=false:=decide_eq_false hs
   clear hn
   go_enter Tryz.func149,Tryz.ntmps149
   go_wp2_with fail
   go_ret
   exact⟨rfl,(Below.refl _ _).alloc (Nat.le_refl _) _⟩
  rw[if_neg (by rintro(h|h);exact h rfl;exact hk h)]
  exact EZ k s m a cap w (by by_cases h4:k=4;exact .inr (Decidable.of_not_not (fun h=>hk ⟨h4,h⟩));exact .inl h4)
 rw[if_pos (.inl (by intro h;subst h;exact h0 hn))]
 have hp:(0:Int)<n:=by omega
 have hd:decide (0<n)=true:=decide_eq_true (by omega)
 replace hn:=aa hn
 go_enter Tryz.func149,Tryz.ntmps149
 go_wp2_with fail
 go_ret
 exact⟨rfl,(Below.refl _ _).alloc (Nat.le_refl _) _⟩
theorem vx (r:Rc)(a:Option Addr)(cap n:Nat)(w:World)(S:be ec w a cap r.e)(hn:n=r.e.length):
  Calls Tryz.prog 119 #[.agg #[.int .i64 r.k,.int .i64 r.s,.int .i64 r.n,.slice a n cap]] w fun e w'=>e=.returned (.int .i64 (aP r))/\Below w.heap.size w w':=by
 obtain⟨k,s,m,l⟩:=r
 simp only at*
 have cp:=fun W=>wE k s m l a cap n W hn
 have S1:=S.alloc (.cells #[.int .i64 k,.int .i64 s,.int .i64 m,.slice a n cap] 73)
 have bel:Below w.heap.size w (w.alloc (.cells #[.int .i64 k,.int .i64 s,.int .i64 m,.slice a n cap] 73)):=(Below.refl _ _).alloc (Nat.le_refl _) _
 by_cases h1:k=1
 .subst h1
  have c:=fun W h=>xk s m l a cap n W h hn
  rw[show aP ⟨1,s,m,l⟩=if s≠0\/m≠0 then 4 else if 10<l.length then 2 else if l.all gT then 0 else 3 from rfl]
  generalize(if s≠0\/m≠0 then(4:Int) else if 10<l.length then 2 else if l.all gT then 0 else 3)=E at*
  replace hn:=aa hn
  go_enter Tryz.func119,Tryz.ntmps119
  go_wp2_with fail
  go_at_call 148
  refine(c _ S1).mono ?_
  rintro e w2 ⟨rfl,b2⟩
  go_wp2_with fail
  go_ret
  exact⟨rfl,ac bel b2⟩
 have d1:decide (k=1)=false:=decide_eq_false h1
 by_cases h2:k=2\/k=3\/k=4
 .rw[show aP ⟨k,s,m,l⟩=gh k s m l by unfold aP gh;rw[if_neg h1,if_pos h2]]
  generalize gh k s m l=E at*
  replace hn:=aa hn
  rcases h2 with rfl|rfl|rfl
  .go_enter Tryz.func119,Tryz.ntmps119
   go_wp2_with fail
   go_at_call 149
   refine(cp _).mono ?_
   rintro e w2 ⟨rfl,b2⟩
   go_wp2_with fail
   go_ret
   exact⟨rfl,ac bel b2⟩
  .go_enter Tryz.func119,Tryz.ntmps119
   go_wp2_with fail
   go_at_call 149
   refine(cp _).mono ?_
   rintro e w2 ⟨rfl,b2⟩
   go_wp2_with fail
   go_ret
   exact⟨rfl,ac bel b2⟩
  go_enter Tryz.func119,Tryz.ntmps119
  go_wp2_with fail
  go_at_call 149
  refine(cp _).mono ?_
  rintro e w2 ⟨rfl,b2⟩
  go_wp2_with fail
  go_ret
  exact⟨rfl,ac bel b2⟩
 rw[show aP ⟨k,s,m,l⟩=4 by unfold aP;rw[if_neg h1,if_neg h2]]
 have d2:¬k=2:=fun h=>h2 (.inl h)
 have d3:¬k=3:=fun h=>h2 (.inr (.inl h))
 have d4:¬k=4:=fun h=>h2 (.inr (.inr h))
 replace hn:=aa hn
 clear h2 d1
 go_enter Tryz.func119,Tryz.ntmps119
 go_wp2_with fail
 go_ret
 exact⟨rfl,bel⟩
theorem qW {r:Rc}(h:aP r=0)(h1:r.k=1):r.s=0/\r.n=0/\r.e.length<=10/\r.e.all gT=true:=by
 unfold aP at h
 rw[if_pos h1] at h
 split at h
 .cases h
 rename_i h2
 split at h
 .cases h
 split at h
 .rename_i h3 h4
  exact⟨Decidable.of_not_not (fun e=>h2 (.inl e)),Decidable.of_not_not (fun e=>h2 (.inr e)),by omega,h4⟩
 cases h
theorem nH {r:Rc}(h:aP r=0)(h1:r.k≠1):(r.k=2\/r.k=3\/r.k=4)/\r.e=[]/\(r.k=4->r.s=0)/\0<=r.s/\r.s<4/\0<=r.n/\r.n<=100001:=by
 unfold aP at h
 rw[if_neg h1] at h
 split at h
 .rename_i h2
  split at h
  .cases h
  rename_i h3
  split at h
  .rename_i h4
   exact⟨h2,Decidable.of_not_not (fun e=>h3 (.inl e)),fun e=>Decidable.of_not_not (fun e'=>h3 (.inr ⟨e,e'⟩)),h4⟩
  cases h
 cases h
theorem qh {l:List Nt}(h:l.all gT=true):∀m∈dI l,-9223372036854775808<=m/\m<=9223372036854775807:=by
 intro m hm
 unfold dI at hm
 obtain⟨x,hx,hm⟩:=List.mem_flatMap.1 hm
 have:=of_decide_eq_true (List.all_eq_true.1 h x hx)
 simp only[List.mem_cons,List.not_mem_nil,or_false] at hm
 rcases hm with rfl|rfl|rfl<;>omega
theorem jS {w:World}{base n:Nat}{a:Option Addr}{G:Nat}{cs:List Value}{T:TypeId}(o:w.ownsRow base T 1 (.slice a n G) n cs):Sl w a G cs:=by
 obtain⟨h1,⟨h2,h3⟩| ⟨g,cap,cur,e1,hb,hh,hn,hm,hs,ht⟩⟩:=o
 .simp only[Value.slice.injEq] at h2
  obtain⟨rfl,rfl,rfl⟩:=h2
  obtain rfl:=List.length_eq_zero_iff.1 (by omega:cs.length=0)
  exact⟨.inl rfl,by simp,by decide,fun _=>rfl⟩
 simp only[Value.slice.injEq,true_and] at e1
 obtain⟨rfl,rfl⟩:=e1
 refine⟨.inr ⟨g,0,rfl,lt_of_block hh,fun i v hv=>?_⟩,by omega,hm,fun h=>by cases h⟩
 rw[<-ht,List.getElem?_take] at hv
 split at hv
 .simp only[World.cell?,hh,Nat.zero_add]
  simpa using hv
 cases hv
theorem IR (w:World)(l:List Int)(T:TypeId):Sl (w.alloc (.cells (l.map (Value.int .i64)).toArray T)) (some ⟨w.heap.size,0,none⟩) l.length (l.map (Value.int .i64))\/9223372036854775807<l.length:=by
 by_cases h:l.length<=9223372036854775807
 .refine .inl ⟨.inr ⟨_,0,rfl,by simp,fun i v hv=>?_⟩,by simp,h,fun h=>by cases h⟩
  have B:=ag.laid w (l.map (Value.int .i64)) T _ rfl
  rw[Nat.zero_add]
  exact(B.cell i).trans hv
 exact .inr (by omega)
theorem qb (wd:ByteArray)(ns:List Int)(W:World)(T:TypeId)(hg:Gl W)(hb:∀m∈ns,-9223372036854775808<=m/\m<=9223372036854775807)(few:ns.length<=1000)(hw:wd.size<=1000):
  Calls Tryz.prog 204 #[.string wd,.slice (some ⟨W.heap.size,0,none⟩) ns.length ns.length] (W.alloc (.cells (ns.map (Value.int .i64)).toArray T)) fun e w'=>e=.returned (.string ⟨(wd.data.toList++cV ns).toArray⟩)/\Below W.heap.size W w':=by
 refine(yI wd ns _ _ _ _ (hg.alloc _) ((IR W ns T).resolve_right (by omega)) rfl hb few hw).mono ?_
 rintro e w' ⟨rfl,b⟩
 exact⟨rfl,ac (newB (Below.refl _ _) _) b⟩
theorem KX (r:Rc)(a:Option Addr)(cap n:Nat)(w:World)(hg:Gl w)(S:be ec w a cap r.e)(hn:n=r.e.length):
  Calls Tryz.prog 174 #[.agg #[.int .i64 r.k,.int .i64 r.s,.int .i64 r.n,.slice a n cap]] w fun e w'=>e=.returned (.tuple #[.string ⟨(bY r).toArray⟩,.int .i64 (aP r)])/\Below w.heap.size w w':=by
 have c1:=fun W h=>vx r a cap n W h hn
 have hE:aP r=aP r:=rfl
 have T0:aP r≠0->bY r=[]:=fun h=>if_neg h
 have S1:=S.alloc (.cells #[.int .i64 r.k,.int .i64 r.s,.int .i64 r.n,.slice a n cap] 73)
 have B0:=ag.laid w [.int .i64 r.k,.int .i64 r.s,.int .i64 r.n,.slice a n cap] 73 _ rfl
 have bel:Below w.heap.size w (w.alloc (.cells #[.int .i64 r.k,.int .i64 r.s,.int .i64 r.n,.slice a n cap] 73)):=(Below.refl _ _).alloc (Nat.le_refl _) _
 have g1:=hg.alloc (.cells #[.int .i64 r.k,.int .i64 r.s,.int .i64 r.n,.slice a n cap] 73)
 by_cases h0:aP r=0
 .rw[h0] at c1
  rw[h0]
  by_cases h1:r.k=1
  .obtain⟨e1,e2,e3,e4⟩:=qW h0 h1
   have eT:bY r=fS++cV (dI r.e):=by unfold bY;rw[if_pos h0,if_pos h1]
   rw[eT]
   have cn:=fun W h=>D6 r.e a cap n W h hn (by omega)
   have cw:=fun a' G W h1 h2=>yI ⟨#[98,97,116,99,104]⟩ (dI r.e) a' G (n*3) W h1 h2 (by rw[gE,hn]) (qh e4) (by omega) (by decide)
   obtain⟨k,s,m,l⟩:=r
   simp only at*
   subst h1
   subst e1
   subst e2
   clear h0 eT e3 e4 T0 hE
   generalize dI l=NL at*
   obtain⟨n3,ni⟩:∃n3,n3=n*3:=⟨_,rfl⟩
   rw[<-ni] at cn cw
   clear ni
   replace hn:=aa hn
   go_enter Tryz.func174,Tryz.ntmps174
   go_wp2_with fail
   generalize w.alloc _=w1 at*
   go_at_call 119
   refine(c1 _ S1).mono ?_
   rintro e w2 ⟨rfl,b2⟩
   have B2:=B0.keep b2 B0.lt
   have q0:=B2.cell 0
   have q3:=B2.cell 3
   have l2:=B2.lt
   have g2:=g1.call b2
   have S2:=S1.call b2
   have am:=ac bel b2
   go_wp2_with fail
   go_at_call 205
   refine(cn _ S2).mono ?_
   rintro e w3 ⟨a3,G3,rfl,o3,b3⟩
   have s3:=jS o3
   have g3:=g2.call b3
   have aC:=ac am b3
   go_wp2_with fail
   go_at_call 204
   refine(cw _ _ _ g3 s3).mono ?_
   rintro e w4 ⟨rfl,b4⟩
   go_wp2_with fail
   go_ret2
   exact⟨rfl,ac aC b4⟩
  obtain⟨hk,e1,e2,e3,e4,e5,e6⟩:=nH h0 h1
  have eT:bY r=(if r.k=2 then jm++cV [r.s,r.n] else if r.k=3 then f'++cV [r.s,r.n] else jo++cV [r.n]):=by unfold bY;rw[if_pos h0,if_neg h1]
  rw[eT]
  clear eT T0 hE h0
  obtain⟨k,s,m,l⟩:=r
  simp only at*
  subst e1
  replace hn:=aa hn
  rcases hk with rfl|rfl|rfl
  .clear e2
   rw[if_pos rfl]
   have cw:∀W1:World,Gl W1->Calls Tryz.prog 204 #[.string ⟨#[115,101,97,108]⟩,.slice (some ⟨W1.heap.size,0,none⟩) 2 2] (W1.alloc (.cells #[.int .i64 s,.int .i64 m] 3)) fun e w'=>e=.returned (.string ⟨(([115,101,97,108]:List UInt8)++cV [s,m]).toArray⟩)/\Below W1.heap.size W1 w':=fun W1 h1=>qb ⟨#[115,101,97,108]⟩ [s,m] W1 3 h1 (by simp;omega) (by simp) (by decide)
   go_enter Tryz.func174,Tryz.ntmps174
   go_wp2_with fail
   generalize w.alloc _=w1 at*
   go_at_call 119
   refine(c1 _ S1).mono ?_
   rintro e w2 ⟨rfl,b2⟩
   have B2:=B0.keep b2 B0.lt
   obtain⟨q0,q1,q2,q3,l2⟩:=B2.c4
   have g2:=g1.call b2
   have am:=ac bel b2
   go_wp2_with fail
   go_at_call 204
   refine(cw w2 g2).mono ?_
   rintro e w3 ⟨rfl,b3⟩
   go_wp2_with fail
   go_ret2
   exact⟨rfl,ac am b3⟩
  .clear e2
   rw[if_neg (by decide),if_pos rfl]
   have cw:∀W1:World,Gl W1->Calls Tryz.prog 204 #[.string ⟨#[109,101,114,103,101]⟩,.slice (some ⟨W1.heap.size,0,none⟩) 2 2] (W1.alloc (.cells #[.int .i64 s,.int .i64 m] 3)) fun e w'=>e=.returned (.string ⟨(([109,101,114,103,101]:List UInt8)++cV [s,m]).toArray⟩)/\Below W1.heap.size W1 w':=fun W1 h1=>qb ⟨#[109,101,114,103,101]⟩ [s,m] W1 3 h1 (by simp;omega) (by simp) (by decide)
   go_enter Tryz.func174,Tryz.ntmps174
   go_wp2_with fail
   generalize w.alloc _=w1 at*
   go_at_call 119
   refine(c1 _ S1).mono ?_
   rintro e w2 ⟨rfl,b2⟩
   have B2:=B0.keep b2 B0.lt
   obtain⟨q0,q1,q2,q3,l2⟩:=B2.c4
   have g2:=g1.call b2
   have am:=ac bel b2
   go_wp2_with fail
   go_at_call 204
   refine(cw w2 g2).mono ?_
   rintro e w3 ⟨rfl,b3⟩
   go_wp2_with fail
   go_ret2
   exact⟨rfl,ac am b3⟩
  obtain rfl:s=0:=e2 rfl
  clear e2
  rw[if_neg (by decide),if_neg (by decide)]
  have cw:∀W1:World,Gl W1->Calls Tryz.prog 204 #[.string ⟨#[100,114,111,112]⟩,.slice (some ⟨W1.heap.size,0,none⟩) 1 1] (W1.alloc (.cells #[.int .i64 m] 3)) fun e w'=>e=.returned (.string ⟨(([100,114,111,112]:List UInt8)++cV [m]).toArray⟩)/\Below W1.heap.size W1 w':=fun W1 h1=>qb ⟨#[100,114,111,112]⟩ [m] W1 3 h1 (by simp;omega) (by simp) (by decide)
  go_enter Tryz.func174,Tryz.ntmps174
  go_wp2_with fail
  generalize w.alloc _=w1 at*
  go_at_call 119
  refine(c1 _ S1).mono ?_
  rintro e w2 ⟨rfl,b2⟩
  have B2:=B0.keep b2 B0.lt
  obtain⟨q0,q1,q2,q3,l2⟩:=B2.c4
  have g2:=g1.call b2
  have am:=ac bel b2
  go_wp2_with fail
  go_at_call 204
  refine(cw w2 g2).mono ?_
  rintro e w3 ⟨rfl,b3⟩
  go_wp2_with fail
  go_ret2
  exact⟨rfl,ac am b3⟩
 rw[T0 h0]
 have yp:¬aP r=0:=h0
 obtain⟨E,Fd⟩:∃E,E=aP r:=⟨_,rfl⟩
 rw[<-Fd] at c1 yp⊢
 obtain⟨k,s,m,l⟩:=r
 simp only at*
 have hd:decide (E=0)=false:=decide_eq_false yp
 clear hE T0 h0 Fd
 replace hn:=aa hn
 go_enter Tryz.func174,Tryz.ntmps174
 go_wp2_with fail
 generalize w.alloc _=w1 at*
 go_at_call 119
 refine(c1 _ S1).mono ?_
 rintro e w2 ⟨rfl,b2⟩
 go_wp2_with fail
 go_ret2
 exact⟨rfl,ac bel b2⟩
theorem dU {w:World}{g:Nat}{c0 c1 c2 c3:Value}{t:TypeId}(h:ag w g [c0,c1,c2,c3] t)(u0 u1 u2 u3:Value):
  ag ((((w.setCell ⟨g,0,none⟩ u0).setCell ⟨g,1,none⟩ u1).setCell ⟨g,2,none⟩ u2).setCell ⟨g,3,none⟩ u3) g [u0,u1,u2,u3] t:=
 (((h.set 0 u0).set 1 u1).set 2 u2).set 3 u3
theorem bI {B:Nat}{w W:World}(h:Below B w W){g:Nat}(hg:B<=g)(u0 u1 u2 u3:Value):Below B w ((((W.setCell ⟨g,0,none⟩ u0).setCell ⟨g,1,none⟩ u1).setCell ⟨g,2,none⟩ u2).setCell ⟨g,3,none⟩ u3):=
 (((h.setCell (p:=⟨g,0,none⟩) hg u0).setCell (p:=⟨g,1,none⟩) hg u1).setCell (p:=⟨g,2,none⟩) hg u2).setCell (p:=⟨g,3,none⟩) hg u3
theorem xC {w:World}{base n g:Nat}{e t:TypeId}{size:Nat}{v:Value}{xs cs:List Value}(h:w.ownsRow base e size v n xs)(B:ag w g cs t)(ht:e≠t)(u0 u1 u2 u3:Value):((((w.setCell ⟨g,0,none⟩ u0).setCell ⟨g,1,none⟩ u1).setCell ⟨g,2,none⟩ u2).setCell ⟨g,3,none⟩ u3).ownsRow base e size v n xs:=by
 have aF:v.ownBlock≠some g:=by
  rcases h.2 with⟨rfl,_⟩| ⟨g1,c1,Fn,rfl,_,h1,_⟩
  .intro e;cases e
  intro e
  have e1:g1=g:=by simpa[Value.ownBlock] using e
  subst e1
  have h2:=h1.symm.trans B
  simp only[Option.some.injEq,Obj.cells.injEq] at h2
  exact ht h2.2.1
 exact ownsRow_setCell_other (ownsRow_setCell_other (ownsRow_setCell_other (ownsRow_setCell_other h (a:=⟨g,0,none⟩) aF u0) (a:=⟨g,1,none⟩) aF u1) (a:=⟨g,2,none⟩) aF u2) (a:=⟨g,3,none⟩) aF u3
theorem Jh (w:World)(l:List ByteArray)(T:TypeId)(h:l.length<=1000000):Sl (w.alloc (.cells (l.map Value.string).toArray T)) (some ⟨w.heap.size,0,none⟩) l.length (l.map Value.string):=by
 have B:=ag.laid w (l.map Value.string) T _ rfl
 refine⟨.inr ⟨_,0,rfl,B.lt,fun i v hv=>?_⟩,by simp,by omega,fun h=>by cases h⟩
 rw[Nat.zero_add]
 exact(B.cell i).trans hv
theorem Hq {w:World}{g c:Nat}{x:ByteArray}{r:List ByteArray}(S:Sl w (some ⟨g,0,none⟩) c ((x::r).map Value.string)):Sl w (some ⟨g,1,none⟩) (c-1) (r.map Value.string):=by
 obtain⟨b,off,e,hb,hc⟩:=S.row.at (by simp)
 simp only[Option.some.injEq,Addr.mk.injEq,and_true] at e
 obtain⟨rfl,rfl⟩:=e
 have h1:=S.le
 have h2:=S.max
 simp only[List.length_map,List.length_cons] at h1
 refine⟨.inr ⟨g,1,rfl,hb,fun i v hv=>?_⟩,by rw[List.length_map];omega,by omega,fun h=>by cases h⟩
 have:=hc (i+1) v (by simpa using hv)
 rw[Nat.zero_add] at this
 rw[Nat.add_comm 1 i]
 exact this
theorem K6 (s:ByteArray)(w:World)(hg:Gl w)(hs:s.size<=60000):
  Calls Tryz.prog 137 #[.string s] w fun e w'=>((∃r a' G,jn s=some r/\e=.returned (.tuple #[.agg #[.int .i64 r.k,.int .i64 r.s,.int .i64 r.n,.slice a' r.e.length G],.bool true])/\w'.ownsRow w.heap.size 75 3 (.slice a' r.e.length G) r.e.length (r.e.flatMap ec))\/(jn s=none/\e=.returned (.tuple #[.agg #[.int .i64 0,.int .i64 0,.int .i64 0,.slice none 0 0],.bool false])))/\Below w.heap.size w w':=by
 have hlen:(nC s).length=Lib.countB s blank+1:=Lib.splitB_all blank (by decide) 0 _ s rfl
 have rF:∀b∈nC s,b.size<=60000:=fun b hb=>Nat.le_trans (tZ blank 0 _ s b hb) hs
 have Al:Lib.countB s blank<=60000:=Nat.le_trans (Lib.countB_le blank (by decide) s.size s (Nat.le_refl _)) hs
 obtain⟨m,hmax⟩:=(hg.alloc (.cells #[.int .i64 0,.int .i64 0,.int .i64 0,.slice none 0 0] 73)).max
 have cS:=Tryz.strings_Split s blank m (w.alloc (.cells #[.int .i64 0,.int .i64 0,.int .i64 0,.slice none 0 0] 73)) (by omega) hmax (by decide)
 rw[show Lib.splitB blank 0 (Lib.countB s blank) s=nC s from rfl,<-hlen] at cS
 have hT:jn s=hI ((nC s).map bytes):=rfl
 generalize jn s=TR at*
 generalize nC s=WS at*
 cases WS with
 |nil=>simp at hlen
 |cons x r=>
  obtain⟨c,hc⟩:∃c,c=r.length:=⟨_,rfl⟩
  rw[List.length_cons,<-hc] at cS
  rw[List.length_cons] at hlen
  have B0:=ag.laid w [.int .i64 0,.int .i64 0,.int .i64 0,.slice none 0 0] 73 _ rfl
  have bel:Below w.heap.size w (w.alloc (.cells #[.int .i64 0,.int .i64 0,.int .i64 0,.slice none 0 0] 73)):=(Below.refl _ _).alloc (Nat.le_refl _) _
  have g1:=hg.alloc (.cells #[.int .i64 0,.int .i64 0,.int .i64 0,.slice none 0 0] 73)
  generalize DU:w.alloc (.cells #[.int .i64 0,.int .i64 0,.int .i64 0,.slice none 0 0] 73)=w1 at*
  have S1:=Jh w1 (x::r) 9 (by rw[List.length_cons];omega)
  rw[List.length_cons,<-hc] at S1
  have am:=newB bel (.cells ((x::r).map Value.string).toArray 9)
  have g2:=g1.alloc (.cells ((x::r).map Value.string).toArray 9)
  have B2:=B0.keep (newB (Below.refl w1.heap.size w1) (.cells ((x::r).map Value.string).toArray 9)) B0.lt
  have x0:(w1.alloc (.cells ((x::r).map Value.string).toArray 9)).cell? ⟨w1.heap.size,0,none⟩=some (.string x):=(ag.laid w1 ((x::r).map Value.string) 9 _ rfl).cell 0
  have l1:w1.heap.size<(w1.alloc (.cells ((x::r).map Value.string).toArray 9)).heap.size:=by simp
  generalize xd:w1.alloc (.cells ((x::r).map Value.string).toArray 9)=w2 at*
  have cN:=fun a' rZ (h:Sl w2 a' rZ (r.map Value.string))=>uT r a' rZ c w2 g2 h hc (by omega) (fun b hb=>Nat.le_trans (rF b (List.mem_cons_of_mem _ hb)) (by decide))
  have aav:c<=60000:=by omega
  replace hc:=aa hc
  replace hT:=aa hT
  clear hlen rF Al hmax
  go_enter Tryz.func137,Tryz.ntmps137
  go_wp2_with fail
  go_at_call 171
  refine cS.mono ?_
  rintro e w2' ⟨rfl,Wz⟩
  clear xd DU
  obtain rfl:=Wz
  have p0:w2'.cell? ⟨w.heap.size,0,none⟩=some (.int .i64 0):=B2.cell 0
  have lR:=B2.lt
  by_cases hr:c=0
  .subst hr
   obtain rfl:=List.length_eq_zero_iff.1 hc.out.symm
   go_wp2_with fail
   go_at_call 172
   refine(cN (some ⟨w1.heap.size,0,none⟩) 0 ⟨.inl rfl,by simp,by decide,fun h=>by cases h⟩).mono ?_
   rintro e w3 ⟨(⟨vs,a3,G3,pg,rfl,o3⟩| ⟨pg,rfl⟩),b3⟩
   .have B3:=B2.keep b3 B2.lt
    obtain⟨r0,r1,r2,r3,-⟩:=B3.c4
    obtain⟨f0,f1,f2,f3⟩:=B3.f4
    have TG:=B3.lt
    have x3:=(b3.cell (p:=⟨w1.heap.size,0,none⟩) l1).trans x0
    have Y':w1.heap.size<w3.heap.size:=Nat.lt_of_lt_of_le l1 b3.size
    have aC:=ac am b3
    have oL:vs.length=0:=by rw[kZ _ _ pg,List.length_map];exact hc.out.symm
    have bz:TR=(if bytes x=fS/\vs.length % 3=0 then some ⟨1,0,0,fq vs⟩ else if bytes x=jm/\vs.length=2 then some ⟨2,vs.getD 0 0,vs.getD 1 0,[]⟩ else if bytes x=f'/\vs.length=2 then some ⟨3,vs.getD 0 0,vs.getD 1 0,[]⟩ else if bytes x=jo/\vs.length=1 then some ⟨4,0,vs.getD 0 0,[]⟩ else none):=by
     rw[hT.out]
     simp only[hI,List.map_cons,pg,Option.bind_some]
    replace pg:=aa pg
    have SV:=jS o3
    by_cases kB:bytes x=fS
    .by_cases m3:0 % 3=0
     .rw[if_pos ⟨kB,by omega⟩] at bz
      have bB:(x.toList==[98,97,116,99,104])=true:=by rw[ai,kB];rfl
      have bS:(x.toList==[115,101,97,108])=false:=by rw[ai,kB];rfl
      have bM:(x.toList==[109,101,114,103,101])=false:=by rw[ai,kB];rfl
      have bD:(x.toList==[100,114,111,112])=false:=by rw[ai,kB];rfl
      replace bz:=aa bz
      obtain⟨mm,jX⟩:∃mm,0=mm*3:=⟨0 / 3,by omega⟩
      have cE:=fun W (h:Sl W a3 G3 (vs.map (Value.int .i64)))=>uw vs mm 0 G3 a3 W h oL.symm jX (by omega)
      have Al:(fq vs).length=mm:=rX mm vs (by omega)
      replace jX:=aa jX
      clear oL hT
      go_wp2_with fail
      go_at_call 173
      refine(cE _ SV).mono ?_
      rintro e w4 ⟨v4,rfl,o4,b4⟩
      obtain⟨a4,G4,rfl,-,-,-⟩:=be.ofOwn dq (by decide) o4
      have B4:=B3.keep b4 B3.lt
      obtain⟨s0,s1,s2,s3,-⟩:=B4.c4
      obtain⟨u0,u1,u2,u3⟩:=B4.f4
      have lR4:=B4.lt
      have He:=ac aC b4
      go_wp2_with fail
      have B5:=dU B4 (.int .i64 1) (.int .i64 0) (.int .i64 0) (.slice a4 mm G4)
      have br:=bI He (Nat.le_refl _) (.int .i64 1) (.int .i64 0) (.int .i64 0) (.slice a4 mm G4)
      have o5:=xC o4 B4 (by decide) (.int .i64 1) (.int .i64 0) (.int .i64 0) (.slice a4 mm G4)
      obtain⟨i0,i1,i2,i3,-⟩:=B5.c4
      have Sj:w.heap.size<=w3.heap.size:=aC.size
      exact bodyPost_ret (v:=.tuple #[.agg #[.int .i64 1,.int .i64 0,.int .i64 0,.slice a4 mm G4],.bool true]) (by simp[results,Tryz.results137,go_sem,i0,i1,i2,i3]) rfl ⟨.inl ⟨⟨1,0,0,fq vs⟩,a4,G4,bz.out,by rw[Al],by rw[Al];exact j6 o5 Sj⟩,br⟩
     rw[if_neg (fun h=>m3 (by have:=h.2;omega)),if_neg (fun h=>by rw[kB] at h;exact absurd h.1 (by decide)),if_neg (fun h=>by rw[kB] at h;exact absurd h.1 (by decide)),if_neg (fun h=>by rw[kB] at h;exact absurd h.1 (by decide))] at bz
     exact absurd rfl m3
    rw[if_neg (fun h=>kB h.1)] at bz
    by_cases kS:bytes x=jm
    .by_cases mg:0=2
     .rw[if_pos ⟨kS,by omega⟩] at bz
      cases mg
     rw[if_neg (fun h=>mg (by have:=h.2;omega)),if_neg (fun h=>by rw[kS] at h;exact absurd h.1 (by decide)),if_neg (fun h=>by rw[kS] at h;exact absurd h.1 (by decide))] at bz
     have bB:(x.toList==[98,97,116,99,104])=false:=by rw[ai,kS];rfl
     have bS:(x.toList==[115,101,97,108])=true:=by rw[ai,kS];rfl
     have bM:(x.toList==[109,101,114,103,101])=false:=by rw[ai,kS];rfl
     have bD:(x.toList==[100,114,111,112])=false:=by rw[ai,kS];rfl
     replace bz:=aa bz
     clear oL hT
     go_wp2_with fail
     have B4:=dU B3 (.int .i64 0) (.int .i64 0) (.int .i64 0) (.slice none 0 0)
     have ay:=bI aC (Nat.le_refl _) (.int .i64 0) (.int .i64 0) (.int .i64 0) (.slice none 0 0)
     obtain⟨i0,i1,i2,i3,-⟩:=B4.c4
     exact bodyPost_ret (v:=.tuple #[.agg #[.int .i64 0,.int .i64 0,.int .i64 0,.slice none 0 0],.bool false]) (by simp[results,Tryz.results137,go_sem,i0,i1,i2,i3]) rfl ⟨.inr ⟨bz.out,rfl⟩,ay⟩
    rw[if_neg (fun h=>kS h.1)] at bz
    by_cases kM:bytes x=f'
    .by_cases mg:0=2
     .rw[if_pos ⟨kM,by omega⟩] at bz
      cases mg
     rw[if_neg (fun h=>mg (by have:=h.2;omega)),if_neg (fun h=>by rw[kM] at h;exact absurd h.1 (by decide))] at bz
     have bB:(x.toList==[98,97,116,99,104])=false:=by rw[ai,kM];rfl
     have bS:(x.toList==[115,101,97,108])=false:=by rw[ai,kM];rfl
     have bM:(x.toList==[109,101,114,103,101])=true:=by rw[ai,kM];rfl
     have bD:(x.toList==[100,114,111,112])=false:=by rw[ai,kM];rfl
     replace bz:=aa bz
     clear oL hT
     go_wp2_with fail
     have B4:=dU B3 (.int .i64 0) (.int .i64 0) (.int .i64 0) (.slice none 0 0)
     have ay:=bI aC (Nat.le_refl _) (.int .i64 0) (.int .i64 0) (.int .i64 0) (.slice none 0 0)
     obtain⟨i0,i1,i2,i3,-⟩:=B4.c4
     exact bodyPost_ret (v:=.tuple #[.agg #[.int .i64 0,.int .i64 0,.int .i64 0,.slice none 0 0],.bool false]) (by simp[results,Tryz.results137,go_sem,i0,i1,i2,i3]) rfl ⟨.inr ⟨bz.out,rfl⟩,ay⟩
    rw[if_neg (fun h=>kM h.1)] at bz
    by_cases kD:bytes x=jo
    .by_cases CF:0=1
     .rw[if_pos ⟨kD,by omega⟩] at bz
      cases CF
     rw[if_neg (fun h=>CF (by have:=h.2;omega))] at bz
     have bB:(x.toList==[98,97,116,99,104])=false:=by rw[ai,kD];rfl
     have bS:(x.toList==[115,101,97,108])=false:=by rw[ai,kD];rfl
     have bM:(x.toList==[109,101,114,103,101])=false:=by rw[ai,kD];rfl
     have bD:(x.toList==[100,114,111,112])=true:=by rw[ai,kD];rfl
     replace bz:=aa bz
     clear oL hT
     go_wp2_with fail
     have B4:=dU B3 (.int .i64 0) (.int .i64 0) (.int .i64 0) (.slice none 0 0)
     have ay:=bI aC (Nat.le_refl _) (.int .i64 0) (.int .i64 0) (.int .i64 0) (.slice none 0 0)
     obtain⟨i0,i1,i2,i3,-⟩:=B4.c4
     exact bodyPost_ret (v:=.tuple #[.agg #[.int .i64 0,.int .i64 0,.int .i64 0,.slice none 0 0],.bool false]) (by simp[results,Tryz.results137,go_sem,i0,i1,i2,i3]) rfl ⟨.inr ⟨bz.out,rfl⟩,ay⟩
    rw[if_neg (fun h=>kD h.1)] at bz
    have bB:(x.toList==[98,97,116,99,104])=false:=by rw[ai];exact beq_eq_false_iff_ne.2 kB
    have bS:(x.toList==[115,101,97,108])=false:=by rw[ai];exact beq_eq_false_iff_ne.2 kS
    have bM:(x.toList==[109,101,114,103,101])=false:=by rw[ai];exact beq_eq_false_iff_ne.2 kM
    have bD:(x.toList==[100,114,111,112])=false:=by rw[ai];exact beq_eq_false_iff_ne.2 kD
    replace bz:=aa bz
    clear oL hT
    go_wp2_with fail
    have B4:=dU B3 (.int .i64 0) (.int .i64 0) (.int .i64 0) (.slice none 0 0)
    have ay:=bI aC (Nat.le_refl _) (.int .i64 0) (.int .i64 0) (.int .i64 0) (.slice none 0 0)
    obtain⟨i0,i1,i2,i3,-⟩:=B4.c4
    exact bodyPost_ret (v:=.tuple #[.agg #[.int .i64 0,.int .i64 0,.int .i64 0,.slice none 0 0],.bool false]) (by simp[results,Tryz.results137,go_sem,i0,i1,i2,i3]) rfl ⟨.inr ⟨bz.out,rfl⟩,ay⟩
   have B3:=B2.keep b3 B2.lt
   obtain⟨r0,r1,r2,r3,-⟩:=B3.c4
   obtain⟨f0,f1,f2,f3⟩:=B3.f4
   have TG:=B3.lt
   have aC:=ac am b3
   have bz:TR=none:=by
    rw[hT.out]
    simp only[hI,List.map_cons,pg,Option.bind_none]
   replace bz:=aa bz
   go_wp2_with fail
   have B4:=dU B3 (.int .i64 0) (.int .i64 0) (.int .i64 0) (.slice none 0 0)
   have ay:=bI aC (Nat.le_refl _) (.int .i64 0) (.int .i64 0) (.int .i64 0) (.slice none 0 0)
   obtain⟨i0,i1,i2,i3,-⟩:=B4.c4
   exact bodyPost_ret (v:=.tuple #[.agg #[.int .i64 0,.int .i64 0,.int .i64 0,.slice none 0 0],.bool false]) (by simp[results,Tryz.results137,go_sem,i0,i1,i2,i3]) rfl ⟨.inr ⟨bz.out,rfl⟩,ay⟩
  have wU:(1:Int)<=(c:Int)+1:=by omega
  have UG:¬c+1=1:=by omega
  have qy:¬c=0:=hr
  go_wp2_with fail
  go_at_call 172
  refine(cN (some ⟨w1.heap.size,1,none⟩) c (Hq S1)).mono ?_
  rintro e w3 ⟨(⟨vs,a3,G3,pg,rfl,o3⟩| ⟨pg,rfl⟩),b3⟩
  .have B3:=B2.keep b3 B2.lt
   obtain⟨r0,r1,r2,r3,-⟩:=B3.c4
   obtain⟨f0,f1,f2,f3⟩:=B3.f4
   have TG:=B3.lt
   have x3:=(b3.cell (p:=⟨w1.heap.size,0,none⟩) l1).trans x0
   have Y':w1.heap.size<w3.heap.size:=Nat.lt_of_lt_of_le l1 b3.size
   have aC:=ac am b3
   have oL:vs.length=c:=by rw[kZ _ _ pg,List.length_map];exact hc.out.symm
   have bz:TR=(if bytes x=fS/\vs.length % 3=0 then some ⟨1,0,0,fq vs⟩ else if bytes x=jm/\vs.length=2 then some ⟨2,vs.getD 0 0,vs.getD 1 0,[]⟩ else if bytes x=f'/\vs.length=2 then some ⟨3,vs.getD 0 0,vs.getD 1 0,[]⟩ else if bytes x=jo/\vs.length=1 then some ⟨4,0,vs.getD 0 0,[]⟩ else none):=by
    rw[hT.out]
    simp only[hI,List.map_cons,pg,Option.bind_some]
   replace pg:=aa pg
   have SV:=jS o3
   by_cases kB:bytes x=fS
   .by_cases m3:c % 3=0
    .rw[if_pos ⟨kB,by omega⟩] at bz
     have bB:(x.toList==[98,97,116,99,104])=true:=by rw[ai,kB];rfl
     have bS:(x.toList==[115,101,97,108])=false:=by rw[ai,kB];rfl
     have bM:(x.toList==[109,101,114,103,101])=false:=by rw[ai,kB];rfl
     have bD:(x.toList==[100,114,111,112])=false:=by rw[ai,kB];rfl
     replace bz:=aa bz
     obtain⟨mm,jX⟩:∃mm,c=mm*3:=⟨c / 3,by omega⟩
     have cE:=fun W (h:Sl W a3 G3 (vs.map (Value.int .i64)))=>uw vs mm c G3 a3 W h oL.symm jX (by omega)
     have Al:(fq vs).length=mm:=rX mm vs (by omega)
     replace jX:=aa jX
     clear oL hT
     have t3:(c:Int).tmod 3=0:=by rw[Int.tmod_eq_emod_of_nonneg (by omega)];omega
     go_wp2_with fail
     go_at_call 173
     refine(cE _ SV).mono ?_
     rintro e w4 ⟨v4,rfl,o4,b4⟩
     obtain⟨a4,G4,rfl,-,-,-⟩:=be.ofOwn dq (by decide) o4
     have B4:=B3.keep b4 B3.lt
     obtain⟨s0,s1,s2,s3,-⟩:=B4.c4
     obtain⟨u0,u1,u2,u3⟩:=B4.f4
     have lR4:=B4.lt
     have He:=ac aC b4
     go_wp2_with fail
     have B5:=dU B4 (.int .i64 1) (.int .i64 0) (.int .i64 0) (.slice a4 mm G4)
     have br:=bI He (Nat.le_refl _) (.int .i64 1) (.int .i64 0) (.int .i64 0) (.slice a4 mm G4)
     have o5:=xC o4 B4 (by decide) (.int .i64 1) (.int .i64 0) (.int .i64 0) (.slice a4 mm G4)
     obtain⟨i0,i1,i2,i3,-⟩:=B5.c4
     have Sj:w.heap.size<=w3.heap.size:=aC.size
     exact bodyPost_ret (v:=.tuple #[.agg #[.int .i64 1,.int .i64 0,.int .i64 0,.slice a4 mm G4],.bool true]) (by simp[results,Tryz.results137,go_sem,i0,i1,i2,i3]) rfl ⟨.inl ⟨⟨1,0,0,fq vs⟩,a4,G4,bz.out,by rw[Al],by rw[Al];exact j6 o5 Sj⟩,br⟩
    rw[if_neg (fun h=>m3 (by have:=h.2;omega)),if_neg (fun h=>by rw[kB] at h;exact absurd h.1 (by decide)),if_neg (fun h=>by rw[kB] at h;exact absurd h.1 (by decide)),if_neg (fun h=>by rw[kB] at h;exact absurd h.1 (by decide))] at bz
    have bB:(x.toList==[98,97,116,99,104])=true:=by rw[ai,kB];rfl
    have bS:(x.toList==[115,101,97,108])=false:=by rw[ai,kB];rfl
    have bM:(x.toList==[109,101,114,103,101])=false:=by rw[ai,kB];rfl
    have bD:(x.toList==[100,114,111,112])=false:=by rw[ai,kB];rfl
    replace bz:=aa bz
    clear oL hT
    obtain⟨r3,qy⟩:∃r3,r3=(c:Int) % 3:=⟨_,rfl⟩
    have d3:decide (r3=0)=false:=decide_eq_false (by omega)
    have n3:¬r3=0:=by omega
    have t3:(c:Int).tmod 3=r3:=by rw[Int.tmod_eq_emod_of_nonneg (by omega)];exact qy.symm
    clear qy
    go_wp2_with fail
    have B4:=dU B3 (.int .i64 0) (.int .i64 0) (.int .i64 0) (.slice none 0 0)
    have ay:=bI aC (Nat.le_refl _) (.int .i64 0) (.int .i64 0) (.int .i64 0) (.slice none 0 0)
    obtain⟨i0,i1,i2,i3,-⟩:=B4.c4
    exact bodyPost_ret (v:=.tuple #[.agg #[.int .i64 0,.int .i64 0,.int .i64 0,.slice none 0 0],.bool false]) (by simp[results,Tryz.results137,go_sem,i0,i1,i2,i3]) rfl ⟨.inr ⟨bz.out,rfl⟩,ay⟩
   rw[if_neg (fun h=>kB h.1)] at bz
   by_cases kS:bytes x=jm
   .by_cases mg:c=2
    .rw[if_pos ⟨kS,by omega⟩] at bz
     have bB:(x.toList==[98,97,116,99,104])=false:=by rw[ai,kS];rfl
     have bS:(x.toList==[115,101,97,108])=true:=by rw[ai,kS];rfl
     have bM:(x.toList==[109,101,114,103,101])=false:=by rw[ai,kS];rfl
     have bD:(x.toList==[100,114,111,112])=false:=by rw[ai,kS];rfl
     replace bz:=aa bz
     obtain⟨v0,v1,rfl⟩:∃v0 v1,vs=[v0,v1]:=by
      match vs,oL.trans mg with
      | [v0,v1],_=>exact⟨v0,v1,rfl⟩
     subst mg
     obtain⟨gv,ov,rfl,KH,nd⟩:=SV.row.at (by simp)
     have y0:w3.cell? ⟨gv,ov,none⟩=some (.int .i64 v0):=nd 0 _ rfl
     have y1:w3.cell? ⟨gv,ov+1,none⟩=some (.int .i64 v1):=nd 1 _ rfl
     have aF:¬gv=w.heap.size:=by
      rcases o3.2 with⟨h,_⟩| ⟨g,cp,cur,h,hb,_⟩
      .cases h
      simp only[Value.slice.injEq,Option.some.injEq,Addr.mk.injEq] at h
      obtain⟨⟨rfl,-,-⟩,-⟩:=h
      omega
     have xy:¬w.heap.size=gv:=fun h=>aF h.symm
     clear oL hT nd
     go_wp2_with fail
     go_region_held3 (fun w'=>w'.cell? ⟨gv,ov,none⟩=some (.int .i64 v0)/\w'.cell? ⟨gv,ov+1,none⟩=some (.int .i64 v1)) (go_keep) (fail)
     all_goals go_wp2_with fail
     all_goals(
      have B4:ag (World.drew ((((w3.setCell ⟨w.heap.size,0,none⟩ (.int .i64 2)).setCell ⟨w.heap.size,1,none⟩ (.int .i64 v0)).setCell ⟨w.heap.size,2,none⟩ (.int .i64 v1)).setCell ⟨w.heap.size,3,none⟩ (.slice none 0 0))) w.heap.size [.int .i64 2,.int .i64 v0,.int .i64 v1,.slice none 0 0] 73:=dU B3 (.int .i64 2) (.int .i64 v0) (.int .i64 v1) (.slice none 0 0)
      have ay:=ak (bI aC (Nat.le_refl _) (.int .i64 2) (.int .i64 v0) (.int .i64 v1) (.slice none 0 0))
      generalize World.drew _=w5 at*
      have i0:w5.cell? ⟨w.heap.size,0,none⟩=some (.int .i64 2):=B4.cell 0
      have i1:w5.cell? ⟨w.heap.size,1,none⟩=some (.int .i64 v0):=B4.cell 1
      have i2:w5.cell? ⟨w.heap.size,2,none⟩=some (.int .i64 v1):=B4.cell 2
      have i3:w5.cell? ⟨w.heap.size,3,none⟩=some (.slice none 0 0):=B4.cell 3
      exact bodyPost_ret (v:=.tuple #[.agg #[.int .i64 2,.int .i64 v0,.int .i64 v1,.slice none 0 0],.bool true]) (by simp[results,Tryz.results137,go_sem,i0,i1,i2,i3]) rfl ⟨.inl ⟨⟨2,v0,v1,[]⟩,none,0,bz.out,rfl,World.ownsRow_nil _ _ _ _⟩,ay⟩)
    rw[if_neg (fun h=>mg (by have:=h.2;omega)),if_neg (fun h=>by rw[kS] at h;exact absurd h.1 (by decide)),if_neg (fun h=>by rw[kS] at h;exact absurd h.1 (by decide))] at bz
    have bB:(x.toList==[98,97,116,99,104])=false:=by rw[ai,kS];rfl
    have bS:(x.toList==[115,101,97,108])=true:=by rw[ai,kS];rfl
    have bM:(x.toList==[109,101,114,103,101])=false:=by rw[ai,kS];rfl
    have bD:(x.toList==[100,114,111,112])=false:=by rw[ai,kS];rfl
    replace bz:=aa bz
    clear oL hT
    have d2:¬(c:Int)=2:=by omega
    go_wp2_with fail
    have B4:=dU B3 (.int .i64 0) (.int .i64 0) (.int .i64 0) (.slice none 0 0)
    have ay:=bI aC (Nat.le_refl _) (.int .i64 0) (.int .i64 0) (.int .i64 0) (.slice none 0 0)
    obtain⟨i0,i1,i2,i3,-⟩:=B4.c4
    exact bodyPost_ret (v:=.tuple #[.agg #[.int .i64 0,.int .i64 0,.int .i64 0,.slice none 0 0],.bool false]) (by simp[results,Tryz.results137,go_sem,i0,i1,i2,i3]) rfl ⟨.inr ⟨bz.out,rfl⟩,ay⟩
   rw[if_neg (fun h=>kS h.1)] at bz
   by_cases kM:bytes x=f'
   .by_cases mg:c=2
    .rw[if_pos ⟨kM,by omega⟩] at bz
     have bB:(x.toList==[98,97,116,99,104])=false:=by rw[ai,kM];rfl
     have bS:(x.toList==[115,101,97,108])=false:=by rw[ai,kM];rfl
     have bM:(x.toList==[109,101,114,103,101])=true:=by rw[ai,kM];rfl
     have bD:(x.toList==[100,114,111,112])=false:=by rw[ai,kM];rfl
     replace bz:=aa bz
     obtain⟨v0,v1,rfl⟩:∃v0 v1,vs=[v0,v1]:=by
      match vs,oL.trans mg with
      | [v0,v1],_=>exact⟨v0,v1,rfl⟩
     subst mg
     obtain⟨gv,ov,rfl,KH,nd⟩:=SV.row.at (by simp)
     have y0:w3.cell? ⟨gv,ov,none⟩=some (.int .i64 v0):=nd 0 _ rfl
     have y1:w3.cell? ⟨gv,ov+1,none⟩=some (.int .i64 v1):=nd 1 _ rfl
     have aF:¬gv=w.heap.size:=by
      rcases o3.2 with⟨h,_⟩| ⟨g,cp,cur,h,hb,_⟩
      .cases h
      simp only[Value.slice.injEq,Option.some.injEq,Addr.mk.injEq] at h
      obtain⟨⟨rfl,-,-⟩,-⟩:=h
      omega
     have xy:¬w.heap.size=gv:=fun h=>aF h.symm
     clear oL hT nd
     go_wp2_with fail
     go_region_held3 (fun w'=>w'.cell? ⟨gv,ov,none⟩=some (.int .i64 v0)/\w'.cell? ⟨gv,ov+1,none⟩=some (.int .i64 v1)) (go_keep) (fail)
     all_goals go_wp2_with fail
     all_goals(
      have B4:ag (World.drew ((((w3.setCell ⟨w.heap.size,0,none⟩ (.int .i64 3)).setCell ⟨w.heap.size,1,none⟩ (.int .i64 v0)).setCell ⟨w.heap.size,2,none⟩ (.int .i64 v1)).setCell ⟨w.heap.size,3,none⟩ (.slice none 0 0))) w.heap.size [.int .i64 3,.int .i64 v0,.int .i64 v1,.slice none 0 0] 73:=dU B3 (.int .i64 3) (.int .i64 v0) (.int .i64 v1) (.slice none 0 0)
      have ay:=ak (bI aC (Nat.le_refl _) (.int .i64 3) (.int .i64 v0) (.int .i64 v1) (.slice none 0 0))
      generalize World.drew _=w5 at*
      have i0:w5.cell? ⟨w.heap.size,0,none⟩=some (.int .i64 3):=B4.cell 0
      have i1:w5.cell? ⟨w.heap.size,1,none⟩=some (.int .i64 v0):=B4.cell 1
      have i2:w5.cell? ⟨w.heap.size,2,none⟩=some (.int .i64 v1):=B4.cell 2
      have i3:w5.cell? ⟨w.heap.size,3,none⟩=some (.slice none 0 0):=B4.cell 3
      exact bodyPost_ret (v:=.tuple #[.agg #[.int .i64 3,.int .i64 v0,.int .i64 v1,.slice none 0 0],.bool true]) (by simp[results,Tryz.results137,go_sem,i0,i1,i2,i3]) rfl ⟨.inl ⟨⟨3,v0,v1,[]⟩,none,0,bz.out,rfl,World.ownsRow_nil _ _ _ _⟩,ay⟩)
    rw[if_neg (fun h=>mg (by have:=h.2;omega)),if_neg (fun h=>by rw[kM] at h;exact absurd h.1 (by decide))] at bz
    have bB:(x.toList==[98,97,116,99,104])=false:=by rw[ai,kM];rfl
    have bS:(x.toList==[115,101,97,108])=false:=by rw[ai,kM];rfl
    have bM:(x.toList==[109,101,114,103,101])=true:=by rw[ai,kM];rfl
    have bD:(x.toList==[100,114,111,112])=false:=by rw[ai,kM];rfl
    replace bz:=aa bz
    clear oL hT
    have d2:¬(c:Int)=2:=by omega
    go_wp2_with fail
    have B4:=dU B3 (.int .i64 0) (.int .i64 0) (.int .i64 0) (.slice none 0 0)
    have ay:=bI aC (Nat.le_refl _) (.int .i64 0) (.int .i64 0) (.int .i64 0) (.slice none 0 0)
    obtain⟨i0,i1,i2,i3,-⟩:=B4.c4
    exact bodyPost_ret (v:=.tuple #[.agg #[.int .i64 0,.int .i64 0,.int .i64 0,.slice none 0 0],.bool false]) (by simp[results,Tryz.results137,go_sem,i0,i1,i2,i3]) rfl ⟨.inr ⟨bz.out,rfl⟩,ay⟩
   rw[if_neg (fun h=>kM h.1)] at bz
   by_cases kD:bytes x=jo
   .by_cases CF:c=1
    .rw[if_pos ⟨kD,by omega⟩] at bz
     have bB:(x.toList==[98,97,116,99,104])=false:=by rw[ai,kD];rfl
     have bS:(x.toList==[115,101,97,108])=false:=by rw[ai,kD];rfl
     have bM:(x.toList==[109,101,114,103,101])=false:=by rw[ai,kD];rfl
     have bD:(x.toList==[100,114,111,112])=true:=by rw[ai,kD];rfl
     replace bz:=aa bz
     obtain⟨v0,rfl⟩:∃v0,vs=[v0]:=by
      match vs,oL.trans CF with
      | [v0],_=>exact⟨v0,rfl⟩
     subst CF
     obtain⟨gv,ov,rfl,KH,nd⟩:=SV.row.at (by simp)
     have y0:w3.cell? ⟨gv,ov,none⟩=some (.int .i64 v0):=nd 0 _ rfl
     have aF:¬gv=w.heap.size:=by
      rcases o3.2 with⟨h,_⟩| ⟨g,cp,cur,h,hb,_⟩
      .cases h
      simp only[Value.slice.injEq,Option.some.injEq,Addr.mk.injEq] at h
      obtain⟨⟨rfl,-,-⟩,-⟩:=h
      omega
     have xy:¬w.heap.size=gv:=fun h=>aF h.symm
     clear oL hT nd
     go_wp2_with fail
     have B4:=dU B3 (.int .i64 4) (.int .i64 0) (.int .i64 v0) (.slice none 0 0)
     have ay:=bI aC (Nat.le_refl _) (.int .i64 4) (.int .i64 0) (.int .i64 v0) (.slice none 0 0)
     obtain⟨i0,i1,i2,i3,-⟩:=B4.c4
     exact bodyPost_ret (v:=.tuple #[.agg #[.int .i64 4,.int .i64 0,.int .i64 v0,.slice none 0 0],.bool true]) (by simp[results,Tryz.results137,go_sem,i0,i1,i2,i3]) rfl ⟨.inl ⟨⟨4,0,v0,[]⟩,none,0,bz.out,rfl,World.ownsRow_nil _ _ _ _⟩,ay⟩
    rw[if_neg (fun h=>CF (by have:=h.2;omega))] at bz
    have bB:(x.toList==[98,97,116,99,104])=false:=by rw[ai,kD];rfl
    have bS:(x.toList==[115,101,97,108])=false:=by rw[ai,kD];rfl
    have bM:(x.toList==[109,101,114,103,101])=false:=by rw[ai,kD];rfl
    have bD:(x.toList==[100,114,111,112])=true:=by rw[ai,kD];rfl
    replace bz:=aa bz
    clear oL hT
    have d1:¬(c:Int)=1:=by omega
    go_wp2_with fail
    have B4:=dU B3 (.int .i64 0) (.int .i64 0) (.int .i64 0) (.slice none 0 0)
    have ay:=bI aC (Nat.le_refl _) (.int .i64 0) (.int .i64 0) (.int .i64 0) (.slice none 0 0)
    obtain⟨i0,i1,i2,i3,-⟩:=B4.c4
    exact bodyPost_ret (v:=.tuple #[.agg #[.int .i64 0,.int .i64 0,.int .i64 0,.slice none 0 0],.bool false]) (by simp[results,Tryz.results137,go_sem,i0,i1,i2,i3]) rfl ⟨.inr ⟨bz.out,rfl⟩,ay⟩
   rw[if_neg (fun h=>kD h.1)] at bz
   have bB:(x.toList==[98,97,116,99,104])=false:=by rw[ai];exact beq_eq_false_iff_ne.2 kB
   have bS:(x.toList==[115,101,97,108])=false:=by rw[ai];exact beq_eq_false_iff_ne.2 kS
   have bM:(x.toList==[109,101,114,103,101])=false:=by rw[ai];exact beq_eq_false_iff_ne.2 kM
   have bD:(x.toList==[100,114,111,112])=false:=by rw[ai];exact beq_eq_false_iff_ne.2 kD
   replace bz:=aa bz
   clear oL hT
   go_wp2_with fail
   have B4:=dU B3 (.int .i64 0) (.int .i64 0) (.int .i64 0) (.slice none 0 0)
   have ay:=bI aC (Nat.le_refl _) (.int .i64 0) (.int .i64 0) (.int .i64 0) (.slice none 0 0)
   obtain⟨i0,i1,i2,i3,-⟩:=B4.c4
   exact bodyPost_ret (v:=.tuple #[.agg #[.int .i64 0,.int .i64 0,.int .i64 0,.slice none 0 0],.bool false]) (by simp[results,Tryz.results137,go_sem,i0,i1,i2,i3]) rfl ⟨.inr ⟨bz.out,rfl⟩,ay⟩
  have B3:=B2.keep b3 B2.lt
  obtain⟨r0,r1,r2,r3,-⟩:=B3.c4
  obtain⟨f0,f1,f2,f3⟩:=B3.f4
  have TG:=B3.lt
  have aC:=ac am b3
  have bz:TR=none:=by
   rw[hT.out]
   simp only[hI,List.map_cons,pg,Option.bind_none]
  replace bz:=aa bz
  go_wp2_with fail
  have B4:=dU B3 (.int .i64 0) (.int .i64 0) (.int .i64 0) (.slice none 0 0)
  have ay:=bI aC (Nat.le_refl _) (.int .i64 0) (.int .i64 0) (.int .i64 0) (.slice none 0 0)
  obtain⟨i0,i1,i2,i3,-⟩:=B4.c4
  exact bodyPost_ret (v:=.tuple #[.agg #[.int .i64 0,.int .i64 0,.int .i64 0,.slice none 0 0],.bool false]) (by simp[results,Tryz.results137,go_sem,i0,i1,i2,i3]) rfl ⟨.inr ⟨bz.out,rfl⟩,ay⟩
def im (s:ByteArray):Int:=if 60000<s.size then 2 else match jn s with
 |none=>1
 |some r=>aP r
def lr:Rc:=⟨0,0,0,[]⟩
def dJ (s:ByteArray):Rc:=if 60000<s.size then lr else match jn s with
 |none=>lr
 |some r=>if aP r=0 then r else lr
theorem Kk (s:ByteArray)(w:World)(hg:Gl w)(hs:s.size<=9223372036854775807):
  Calls Tryz.prog 106 #[.string s] w fun e w'=>∃a' G,e=.returned (.tuple #[.agg #[.int .i64 (dJ s).k,.int .i64 (dJ s).s,.int .i64 (dJ s).n,.slice a' (dJ s).e.length G],.int .i64 (im s)])/\w'.ownsRow w.heap.size 75 3 (.slice a' (dJ s).e.length G) (dJ s).e.length ((dJ s).e.flatMap ec)/\Below w.heap.size w w':=by
 have BX:=ag.laid w [.int .i64 0,.int .i64 0,.int .i64 0,.slice none 0 0] 73 _ rfl
 have ei:Below w.heap.size w (w.alloc (.cells #[.int .i64 0,.int .i64 0,.int .i64 0,.slice none 0 0] 73)):=(Below.refl _ _).alloc (Nat.le_refl _) _
 have g1:=hg.alloc (.cells #[.int .i64 0,.int .i64 0,.int .i64 0,.slice none 0 0] 73)
 by_cases hb:60000<s.size
 .rw[show dJ s=lr from if_pos hb,show im s=2 from if_pos hb]
  have Dj:(60000:Int)<s.size:=by omega
  show Calls Tryz.prog 106 #[.string s] w fun e w'=>∃a' G,e=.returned (.tuple #[.agg #[.int .i64 0,.int .i64 0,.int .i64 0,.slice a' 0 G],.int .i64 2])/\w'.ownsRow w.heap.size 75 3 (.slice a' 0 G) 0 []/\Below w.heap.size w w'
  go_enter Tryz.func106,Tryz.ntmps106
  go_wp2_with fail
  generalize w.alloc _=w1 at*
  obtain⟨r0,r1,r2,r3,-⟩:=BX.c4
  obtain⟨f0,f1,f2,f3⟩:=BX.f4
  have lX:=BX.lt
  go_wp2_with fail
  have i0:w1.cell? ⟨w.heap.size,0,none⟩=some (.int .i64 0):=r0
  have i1:w1.cell? ⟨w.heap.size,1,none⟩=some (.int .i64 0):=r1
  have i2:w1.cell? ⟨w.heap.size,2,none⟩=some (.int .i64 0):=r2
  have i3:w1.cell? ⟨w.heap.size,3,none⟩=some (.slice none 0 0):=r3
  exact bodyPost_ret (v:=.tuple #[.agg #[.int .i64 0,.int .i64 0,.int .i64 0,.slice none 0 0],.int .i64 2]) (by simp[results,Tryz.results106,go_sem,i0,i1,i2,i3]) rfl ⟨none,0,rfl,World.ownsRow_nil _ _ _ _,ei⟩
 have Dj:¬(60000:Int)<s.size:=by omega
 have cR:=fun W h=>K6 s W h (by omega)
 have eE:im s=match jn s with
  |none=>1
  |some r=>aP r:=if_neg hb
 have eR:dJ s=match jn s with
  |none=>lr
  |some r=>if aP r=0 then r else lr:=if_neg hb
 rw[eE,eR]
 clear eE eR
 cases hT:jn s with
 |none=>
  simp only
  show Calls Tryz.prog 106 #[.string s] w fun e w'=>∃a' G,e=.returned (.tuple #[.agg #[.int .i64 0,.int .i64 0,.int .i64 0,.slice a' 0 G],.int .i64 1])/\w'.ownsRow w.heap.size 75 3 (.slice a' 0 G) 0 []/\Below w.heap.size w w'
  have zY:∀W,Gl W->Calls Tryz.prog 137 #[.string s] W fun e w'=>e=.returned (.tuple #[.agg #[.int .i64 0,.int .i64 0,.int .i64 0,.slice none 0 0],.bool false])/\Below W.heap.size W w':=by
   intro W h
   refine(cR W h).mono ?_
   rintro e w' ⟨(⟨r,a',G,h1,_,_⟩| ⟨_,h2⟩),b⟩
   .rw[hT] at h1
    cases h1
   exact⟨h2,b⟩
  clear cR hT
  go_enter Tryz.func106,Tryz.ntmps106
  go_wp2_with fail
  generalize w.alloc _=w1 at*
  go_at_call 137
  refine(zY _ g1).mono ?_
  rintro e w2 ⟨rfl,b2⟩
  replace BX:=BX.keep (newB (ac (Below.refl w1.heap.size w1) b2) (.cells #[.int .i64 0,.int .i64 0,.int .i64 0,.slice none 0 0] 73)) BX.lt
  replace ei:=newB (ac ei b2) (.cells #[.int .i64 0,.int .i64 0,.int .i64 0,.slice none 0 0] 73)
  go_upto_region 4 with fail
  generalize w2.alloc _=w3 at*
  obtain⟨r0,r1,r2,r3,-⟩:=BX.c4
  obtain⟨f0,f1,f2,f3⟩:=BX.f4
  have lX:=BX.lt
  go_wp2_with fail
  have B9:=dU BX (.int .i64 0) (.int .i64 0) (.int .i64 0) (.slice none 0 0)
  have aq:=bI ei (Nat.le_refl _) (.int .i64 0) (.int .i64 0) (.int .i64 0) (.slice none 0 0)
  generalize World.setCell _ _ _=w9 at*
  have i0:w9.cell? ⟨w.heap.size,0,none⟩=some (.int .i64 0):=B9.cell 0
  have i1:w9.cell? ⟨w.heap.size,1,none⟩=some (.int .i64 0):=B9.cell 1
  have i2:w9.cell? ⟨w.heap.size,2,none⟩=some (.int .i64 0):=B9.cell 2
  have i3:w9.cell? ⟨w.heap.size,3,none⟩=some (.slice none 0 0):=B9.cell 3
  exact bodyPost_ret (v:=.tuple #[.agg #[.int .i64 0,.int .i64 0,.int .i64 0,.slice none 0 0],.int .i64 1]) (by simp[results,Tryz.results106,go_sem,i0,i1,i2,i3]) rfl ⟨none,0,rfl,World.ownsRow_nil _ _ _ _,aq⟩
 |some r=>
  simp only
  have zY:∀W,Gl W->Calls Tryz.prog 137 #[.string s] W fun e w'=>∃a' G,e=.returned (.tuple #[.agg #[.int .i64 r.k,.int .i64 r.s,.int .i64 r.n,.slice a' r.e.length G],.bool true])/\w'.ownsRow W.heap.size 75 3 (.slice a' r.e.length G) r.e.length (r.e.flatMap ec)/\Below W.heap.size W w':=by
   intro W h
   refine(cR W h).mono ?_
   rintro e w' ⟨(⟨r',a',G,h1,h2,h3⟩| ⟨h1,_⟩),b⟩
   .rw[hT] at h1
    obtain rfl:=Option.some.inj h1
    exact⟨a',G,h2,h3,b⟩
   rw[hT] at h1
   cases h1
  clear cR hT
  obtain⟨n,hn⟩:∃n,n=r.e.length:=⟨_,rfl⟩
  have cC:=fun a' G W h=>vx r a' G n W h hn
  by_cases h0:aP r=0
  .rw[if_pos h0,h0]
   simp only[h0] at cC
   rw[<-hn] at zY⊢
   obtain⟨k,sr,m,l⟩:=r
   simp only at*
   replace hn:=aa hn
   replace h0:=aa h0
   go_enter Tryz.func106,Tryz.ntmps106
   go_wp2_with fail
   generalize w.alloc _=w1 at*
   go_at_call 137
   refine(zY _ g1).mono ?_
   rintro e w2 ⟨a2,G2,rfl,o2,b2⟩
   have BQ:=ag.laid w2 [.int .i64 k,.int .i64 sr,.int .i64 m,.slice a2 n G2] 73 _ rfl
   have bq:=newB (Below.refl w2.heap.size w2) (.cells #[.int .i64 k,.int .i64 sr,.int .i64 m,.slice a2 n G2] 73)
   have Hc:=BX.lt
   have U9:w.heap.size<=w1.heap.size:=ei.size
   replace BX:=(BX.keep b2 BX.lt).keep bq (BX.keep b2 BX.lt).lt
   replace ei:=ac (ac ei b2) bq
   have o3:=dx o2 bq
   have YE:w.heap.size<w2.heap.size:=Nat.lt_of_lt_of_le Hc b2.size
   go_upto_region 4 with fail
   generalize Zu:w2.heap.size=gQ at*
   generalize w2.alloc _=w3 at*
   have q0:w3.cell? ⟨gQ,0,none⟩=some (.int .i64 k):=BQ.cell 0
   have q1:w3.cell? ⟨gQ,1,none⟩=some (.int .i64 sr):=BQ.cell 1
   have q2:w3.cell? ⟨gQ,2,none⟩=some (.int .i64 m):=BQ.cell 2
   have q3:w3.cell? ⟨gQ,3,none⟩=some (.slice a2 n G2):=BQ.cell 3
   have lQ:=BQ.lt
   have S3:be ec w3 a2 G2 l:=by
    obtain⟨a4,G4,e4,s4,_,_⟩:=be.ofOwn dq (by decide) o3
    simp only[Value.slice.injEq,true_and] at e4
    obtain⟨rfl,rfl⟩:=e4
    exact s4
   go_wp2_with fail
   go_at_call 119
   refine(cC _ _ _ S3).mono ?_
   rintro e w4 ⟨rfl,b4⟩
   have SN:=BQ.keep b4 BQ.lt
   obtain⟨t0,t1,t2,t3,lQ4⟩:=SN.c4
   replace BX:=BX.keep b4 BX.lt
   replace ei:=ac ei b4
   have o4:=dx o3 b4
   have Zw:¬w.heap.size=gQ:=by omega
   have Vh:¬gQ=w.heap.size:=by omega
   obtain⟨r0,r1,r2,r3,-⟩:=BX.c4
   obtain⟨f0,f1,f2,f3⟩:=BX.f4
   have lX:=BX.lt
   go_wp2_with fail
   have B9:=dU BX (.int .i64 k) (.int .i64 sr) (.int .i64 m) (.slice a2 n G2)
   have aq:=bI ei (Nat.le_refl _) (.int .i64 k) (.int .i64 sr) (.int .i64 m) (.slice a2 n G2)
   have o9:=j6 (xC o4 BX (by decide) (.int .i64 k) (.int .i64 sr) (.int .i64 m) (.slice a2 n G2)) U9
   generalize World.setCell _ _ _=w9 at*
   have i0:w9.cell? ⟨w.heap.size,0,none⟩=some (.int .i64 k):=B9.cell 0
   have i1:w9.cell? ⟨w.heap.size,1,none⟩=some (.int .i64 sr):=B9.cell 1
   have i2:w9.cell? ⟨w.heap.size,2,none⟩=some (.int .i64 m):=B9.cell 2
   have i3:w9.cell? ⟨w.heap.size,3,none⟩=some (.slice a2 n G2):=B9.cell 3
   exact bodyPost_ret (v:=.tuple #[.agg #[.int .i64 k,.int .i64 sr,.int .i64 m,.slice a2 n G2],.int .i64 0]) (by simp[results,Tryz.results106,go_sem,i0,i1,i2,i3]) rfl ⟨a2,G2,rfl,o9,aq⟩
  rw[if_neg h0]
  obtain⟨E,hE⟩:∃E,E=aP r:=⟨_,rfl⟩
  rw[<-hE] at cC h0⊢
  show Calls Tryz.prog 106 #[.string s] w fun e w'=>∃a' G,e=.returned (.tuple #[.agg #[.int .i64 0,.int .i64 0,.int .i64 0,.slice a' 0 G],.int .i64 E])/\w'.ownsRow w.heap.size 75 3 (.slice a' 0 G) 0 []/\Below w.heap.size w w'
  rw[<-hn] at zY
  obtain⟨k,sr,m,l⟩:=r
  simp only at*
  replace hn:=aa hn
  replace hE:=aa hE
  have hd:decide (E=0)=false:=decide_eq_false h0
  go_enter Tryz.func106,Tryz.ntmps106
  go_wp2_with fail
  generalize w.alloc _=w1 at*
  go_at_call 137
  refine(zY _ g1).mono ?_
  rintro e w2 ⟨a2,G2,rfl,o2,b2⟩
  have BQ:=ag.laid w2 [.int .i64 k,.int .i64 sr,.int .i64 m,.slice a2 n G2] 73 _ rfl
  have bq:=newB (Below.refl w2.heap.size w2) (.cells #[.int .i64 k,.int .i64 sr,.int .i64 m,.slice a2 n G2] 73)
  have Hc:=BX.lt
  have U9:w.heap.size<=w1.heap.size:=ei.size
  replace BX:=(BX.keep b2 BX.lt).keep bq (BX.keep b2 BX.lt).lt
  replace ei:=ac (ac ei b2) bq
  have o3:=dx o2 bq
  have YE:w.heap.size<w2.heap.size:=Nat.lt_of_lt_of_le Hc b2.size
  go_upto_region 4 with fail
  generalize Zu:w2.heap.size=gQ at*
  generalize w2.alloc _=w3 at*
  have q0:w3.cell? ⟨gQ,0,none⟩=some (.int .i64 k):=BQ.cell 0
  have q1:w3.cell? ⟨gQ,1,none⟩=some (.int .i64 sr):=BQ.cell 1
  have q2:w3.cell? ⟨gQ,2,none⟩=some (.int .i64 m):=BQ.cell 2
  have q3:w3.cell? ⟨gQ,3,none⟩=some (.slice a2 n G2):=BQ.cell 3
  have lQ:=BQ.lt
  have S3:be ec w3 a2 G2 l:=by
   obtain⟨a4,G4,e4,s4,_,_⟩:=be.ofOwn dq (by decide) o3
   simp only[Value.slice.injEq,true_and] at e4
   obtain⟨rfl,rfl⟩:=e4
   exact s4
  go_wp2_with fail
  go_at_call 119
  refine(cC _ _ _ S3).mono ?_
  rintro e w4 ⟨rfl,b4⟩
  have SN:=BQ.keep b4 BQ.lt
  obtain⟨t0,t1,t2,t3,lQ4⟩:=SN.c4
  replace BX:=BX.keep b4 BX.lt
  replace ei:=ac ei b4
  have o4:=dx o3 b4
  have Zw:¬w.heap.size=gQ:=by omega
  have Vh:¬gQ=w.heap.size:=by omega
  obtain⟨r0,r1,r2,r3,-⟩:=BX.c4
  obtain⟨f0,f1,f2,f3⟩:=BX.f4
  have lX:=BX.lt
  go_wp2_with fail
  have B9:=dU BX (.int .i64 0) (.int .i64 0) (.int .i64 0) (.slice none 0 0)
  have aq:=bI ei (Nat.le_refl _) (.int .i64 0) (.int .i64 0) (.int .i64 0) (.slice none 0 0)
  generalize World.setCell _ _ _=w9 at*
  have i0:w9.cell? ⟨w.heap.size,0,none⟩=some (.int .i64 0):=B9.cell 0
  have i1:w9.cell? ⟨w.heap.size,1,none⟩=some (.int .i64 0):=B9.cell 1
  have i2:w9.cell? ⟨w.heap.size,2,none⟩=some (.int .i64 0):=B9.cell 2
  have i3:w9.cell? ⟨w.heap.size,3,none⟩=some (.slice none 0 0):=B9.cell 3
  exact bodyPost_ret (v:=.tuple #[.agg #[.int .i64 0,.int .i64 0,.int .i64 0,.slice none 0 0],.int .i64 E]) (by simp[results,Tryz.results106,go_sem,i0,i1,i2,i3]) rfl ⟨none,0,rfl,World.ownsRow_nil _ _ _ _,aq⟩
end Go.Proofs.YtoonnbhoiocoeaaGreatDoor
