/-
  Slices of points, two cells an element: what it means that a slice holds a list of points, and how such an argument is opened.
-/
import Derived.Deep.SlicePairs
import Derived.Laws.CopyOwn
import Derived.Test.YtoonnbhoiocoeaaGreatDoorQ01
set_option maxHeartbeats 40000000
set_option maxRecDepth 100000
set_option linter.unusedVariables false
namespace Go.Proofs.YtoonnbhoiocoeaaGreatDoor
open Go.RowKit Go.ChangeShapes Go.WideShapes Go.ChangeAt
abbrev Pt:=Int × Int
def ar:List Pt->List Value
 | []=>[]
 |p::r=>.int .i64 p.1::.int .i64 p.2::ar r
theorem aI:∀l:List Pt,(ar l).length=l.length*2
 | []=>rfl
 |p::r=>by simp[ar,aI r];omega
theorem dF:∀l m:List Pt,ar (l++m)=ar l++ar m
 | [],m=>rfl
 |p::r,m=>by simp[ar,dF r m]
theorem nw {l:List Pt}(h:ar l=[]):l=[]:=by
 cases l with
 |nil=>rfl
 |cons p r=>simp[ar] at h
theorem qQ:∀(l:List Pt) (k:Nat) (p:Pt),l[k]? =some p->(ar l)[k*2]? =some (.int .i64 p.1)/\(ar l)[k*2+1]? =some (.int .i64 p.2)
 | [],k,p,h=>by simp at h
 |q::r,0,p,h=>by simp at h;subst h;simp[ar]
 |q::r,k+1,p,h=>by
  have:=qQ r k p (by simpa using h)
  rw[show(k+1)*2=k*2+1+1 by omega]
  simpa[ar] using this
theorem uq:∀(l:List Pt) (k:Nat),(ar l).drop (k*2)=ar (l.drop k)
 |l,0=>by simp
 | [],k+1=>by simp[ar]
 |q::r,k+1=>by
  rw[show(k+1)*2=k*2+1+1 by omega]
  simpa[ar] using uq r k
theorem ul:∀(l:List Pt) (k:Nat),(ar l).take (k*2)=ar (l.take k)
 |l,0=>by simp[ar]
 | [],k+1=>by simp[ar]
 |q::r,k+1=>by
  rw[show(k+1)*2=k*2+1+1 by omega]
  simpa[ar] using ul r k
theorem fU (l:List Pt):∀v∈ar l,v.oneCell'=true:=by
 induction l with
 |nil=>intro v hv;simp[ar] at hv
 |cons p r ih=>
  intro v hv
  simp only[ar,List.mem_cons] at hv
  rcases hv with rfl|rfl|hv
  .rfl
  .rfl
  exact ih v hv
structure aV (w:World)(ao:Option Addr)(cap:Nat)(l:List Pt):Prop where
 row:Row w ao (ar l)
 le:l.length<=cap
 max:cap<=9223372036854775807
 nil:ao=none->cap=0
theorem aV.keep {w w':World}{ao:Option Addr}{cap:Nat}{l:List Pt}{B:Nat}(h:aV w ao cap l)(hb:Below B w w')(hB:w.heap.size<=B):aV w' ao cap l:=
 ⟨h.row.keep hb hB,h.le,h.max,h.nil⟩
theorem aV.call {w w':World}{ao:Option Addr}{cap:Nat}{l:List Pt}(h:aV w ao cap l)(hb:Below w.heap.size w w'):aV w' ao cap l:=h.keep hb (Nat.le_refl _)
theorem aV.alloc {w:World}{ao:Option Addr}{cap:Nat}{l:List Pt}(h:aV w ao cap l)(o:Obj):aV (w.alloc o) ao cap l:=
 ⟨h.row.alloc o,h.le,h.max,h.nil⟩
theorem aV.off {w w':World}{ao:Option Addr}{cap:Nat}{l:List Pt}{g:Nat}(h:aV w ao cap l)(hg:w.grownBy w' (some g))(ho:Off g ao):aV w' ao cap l:=
 ⟨h.row.off hg ho,h.le,h.max,h.nil⟩
theorem aV.drewN {w:World}{ao:Option Addr}{cap:Nat}{l:List Pt}(h:aV w ao cap l)(n:Nat):aV (w.drewN n) ao cap l:=⟨h.row.drewN n,h.le,h.max,h.nil⟩
theorem aV.ofNil (w:World):aV w none 0 []:=⟨.inl rfl,Nat.le_refl _,by decide,fun _=>rfl⟩
theorem aV.laid (w:World)(l:List Pt)(cs:Array Value)(jd:cs.toList=ar l)(t:TypeId)(n:Nat)(hn:n=w.heap.size)(cap:Nat)(hc:l.length=cap)(hm:cap<=9223372036854775807):aV (w.alloc (.cells cs t)) (some ⟨n,0,none⟩) cap l:=by
 have h:=Row.laid w cs.toList t n hn
 rw[Array.toArray_toList,jd] at h
 exact⟨h,by omega,hm,fun e=>by cases e⟩
theorem aV.where {w:World}{ao:Option Addr}{cap:Nat}{l:List Pt}(h:aV w ao cap l)(aF:l≠[]):∃b off,ao=some ⟨b,off,none⟩/\b<w.heap.size:=by
 obtain⟨b,off,e,hb,_⟩:=h.row.at (fun e=>aF (nw e))
 exact⟨b,off,e,hb⟩
theorem aV.pt {w:World}{b off cap:Nat}{l:List Pt}(h:aV w (some ⟨b,off,none⟩) cap l)(k:Nat)(hk:k<l.length):
  ∃x y,w.cell? ⟨b,off+k*2,none⟩=some (.int .i64 x)/\w.cell? ⟨b,off+k*2+1,none⟩=some (.int .i64 y)/\l[k]? =some (x,y)/\l.drop k=(x,y)::l.drop (k+1):=by
 obtain⟨b',lB,e,_,hc⟩:=h.row.at (fun e=>by rw[nw e] at hk;simp at hk)
 simp only[Option.some.injEq,Addr.mk.injEq,and_true] at e
 obtain⟨rfl,rfl⟩:=e
 have hg:l[k]? =some (l[k].1,l[k].2):=by simp[hk]
 obtain⟨h0,h1⟩:=qQ l k _ hg
 exact⟨_,_,hc _ _ h0,hc _ _ h1,hg,by rw[List.drop_eq_getElem_cons hk]⟩
theorem aV.front {w:World}{ao:Option Addr}{cap:Nat}{l:List Pt}(h:aV w ao cap l)(k:Nat):aV w ao cap (l.take k):=by
 refine⟨?_,by have:=h.le;rw[List.length_take];omega,h.max,h.nil⟩
 rcases h.row with h0| ⟨b,off,e,hb,hc⟩
 .left;rw[nw h0];simp[ar]
 right
 refine⟨b,off,e,hb,fun i v hv=>hc i v ?_⟩
 rw[<-ul] at hv
 rw[List.getElem?_take] at hv
 split at hv
 .exact hv
 cases hv
theorem aV.ofOwn {w:World}{base:Nat}{e:TypeId}{n:Nat}{v:Value}{l:List Pt}(h:w.ownsRow base e 2 v n (ar l)):∃ao cap,v=.slice ao n cap/\aV w ao cap l/\l.length=n/\∀g,g<base->Off g ao:=by
 have hl:l.length=n:=by have:=h.1;rw[aI] at this;omega
 rcases h.2 with⟨rfl,rfl⟩| ⟨g,cap,cur,rfl,So,hh,LT,tj,jd,sJ⟩
 .obtain rfl:=List.eq_nil_of_length_eq_zero hl
  exact⟨none,0,rfl,aV.ofNil w,rfl,fun _ _=>Off.nil _⟩
 refine⟨_,_,rfl,⟨.inr ⟨g,0,rfl,(Array.getElem?_eq_some_iff.1 hh).1,fun i u hu=>?_⟩,by omega,by unfold maxLen at tj;exact tj,fun e=>by cases e⟩,hl,fun g' rK ad e=>by cases e;show g≠g';omega⟩
 rw[Nat.zero_add,h.cellAt i (by have:=(List.getElem?_eq_some_iff.1 hu).1;rw[aI] at this;omega)]
 exact hu
theorem DE {H:Type}{enc:TypeId × Value->H}{W:World}{t e:TypeId}{f0 f1:Field}{ao:Option Addr}{n cap:Nat}{d:DataW H}{ps:List MemPlace}(ht:Tryz.prog.underlying t=some (.slice e))(he:Tryz.prog.underlying e=some (.struct #[f0,f1]))
  (ce:Tryz.prog.cellsOf e=2) (o0:f0.offset=0) (o1:f1.offset=1) (c0:Tryz.prog.cellsOf f0.type=1) (c1:Tryz.prog.cellsOf f1.type=1) (u0:Tryz.prog.underlying f0.type=some (.int .i64)) (u1:Tryz.prog.underlying f1.type=some (.int .i64))
  (h:DataW.Trod enc Tryz.prog W 0 (fun _=>true) true t (.slice ao n cap) d ps):
  ∃l:List Pt,l.length=n/\aV W ao cap l/\(∀p∈l,(Lit.int .i64 p.1).wf=true/\(Lit.int .i64 p.2).wf=true)/\((n=0/\cap=0)\/∃elems spare,d=.slice elems spare/\elems.length+spare.length=cap):=by
 obtain⟨fuel,hf⟩:=h
 rcases Go.Deep.open_slice_pairs ht he ce o0 o1 c0 c1 hf with⟨jd,_⟩| ⟨a,len,cp,m,k,V0,V1,D0,D1,P0,P1,jd,_,hl,hm,jX,hx,hel⟩
 .simp[Value.cells] at jd
  obtain⟨rfl,rfl,rfl⟩:=jd
  exact⟨[],rfl,aV.ofNil W,fun p hp=>by simp at hp,.inl ⟨rfl,rfl⟩⟩
 simp[Value.cells] at jd
 obtain⟨rfl,rfl,rfl⟩:=jd
 simp only[if_true] at jX
 subst jX
 simp only[Prod.mk.injEq] at hx
 have key:∀i,i<n->(V0 i=.int .i64 (intOf (V0 i))/\(Lit.int .i64 (intOf (V0 i))).wf=true)/\(V1 i=.int .i64 (intOf (V1 i))/\(Lit.int .i64 (intOf (V1 i))).wf=true):=by
  intro i hi
  obtain⟨_,_,t0,t1⟩:=hel i (by omega)
  obtain⟨z0,yt,_,TY⟩:=DataW.trod_int u0 t0
  obtain⟨z1,m7,_,DU⟩:=DataW.trod_int u1 t1
  simp at yt m7
  rw[yt,m7]
  exact⟨⟨rfl,TY⟩,⟨rfl,DU⟩⟩
 refine⟨(List.range n).map fun i=>(intOf (V0 i),intOf (V1 i)),by simp,⟨?_,by simpa using hl,by unfold maxLen at hm;exact hm,fun e=>by cases e⟩,?_,.inr ⟨_,_,hx.1,by simp;omega⟩⟩
 .by_cases h0:n=0
  .subst h0;exact .inl rfl
  obtain⟨b,off,spot⟩:=a
  have c0:=(hel 0 (by omega)).1
  have zh:spot=none:=by simpa[Addr.add] using World.cell?_spot c0
  subst zh
  have aE:=lt_of_cell c0
  refine .inr ⟨b,off,rfl,by simpa[Addr.add] using aE,fun i v hv=>?_⟩
  have hi:i<n*2:=by have:=(List.getElem?_eq_some_iff.1 hv).1;rw[aI] at this;simpa using this
  have hk:i / 2<n:=by omega
  have hg:=qQ ((List.range n).map fun i=>(intOf (V0 i),intOf (V1 i))) (i / 2) (intOf (V0 (i / 2)),intOf (V1 (i / 2))) (by simp[hk])
  obtain⟨e0,e1,_,_⟩:=hel (i / 2) (by omega)
  obtain⟨⟨k0,_⟩,⟨k1,_⟩⟩:=key (i / 2) hk
  rcases Nat.mod_two_eq_zero_or_one i with kH|kH
  .have rT:i / 2*2=i:=by omega
   rw[rT] at hg e0
   rw[hg.1] at hv
   rw[Addr.add_lit,k0] at e0
   rw[e0,hv]
  have rT:i / 2*2+1=i:=by omega
  rw[rT] at hg e1
  rw[hg.2] at hv
  rw[Addr.add_lit,k1] at e1
  rw[e1,hv]
 intro p hp
 obtain⟨i,hi,rfl⟩:=List.mem_map.1 hp
 have:=key i (by simpa using hi)
 exact⟨this.1.2,this.2.2⟩
open Go.RowKit
def ft (p:Pt):Bool:=decide (0<=p.1/\p.1<=100000/\-1000000<=p.2/\p.2<=1000000)
def fp:Int->List Pt->Int
 |_,[]=>0
 |last,p::r=>if ft p=false then 3 else if p.1<=last then 7 else fp p.1 r
def aH (l:List Pt):Int:=if 40<l.length then 2 else fp (-1) l
def pk:Int->Int->Int->List Pt->List Bool
 |_,_,_,[]=>[]
 |t,v,s,p::r=>code 8 (bj (p.1-t-s))++code 8 (bj (p.2-v))++pk p.1 p.2 (p.1-t) r
def ep (l:List Pt):List Bool:=if aH l=0 then pk 0 0 0 l else []
def fm:Nat->Int->Int->Int->Int->List Bool->List Pt × Int
 |0,_,_,_,_,b=>([],if b.length=0 then 0 else 8)
 |n+1,t,v,s,last,b=>
  if fs b≠0 then([],fs b) else
  if fs (cx b)≠0 then([],fs (cx b)) else
  if ft (t+(s+ci b),v+ci (cx b))=false then([],3) else
  if t+(s+ci b)<=last then([],7) else
  (if(fm n (t+(s+ci b)) (v+ci (cx b)) (s+ci b) (t+(s+ci b)) (cx (cx b))).2=0 then(t+(s+ci b),v+ci (cx b))::(fm n (t+(s+ci b)) (v+ci (cx b)) (s+ci b) (t+(s+ci b)) (cx (cx b))).1 else [],
   (fm n (t+(s+ci b)) (v+ci (cx b)) (s+ci b) (t+(s+ci b)) (cx (cx b))).2)
def pi (n:Int):Bool:=decide (0<=n/\n<=40)
def dS (b:List Bool)(n:Int):List Pt:=if pi n then(fm n.toNat 0 0 0 (-1) b).1 else []
def fL (b:List Bool)(n:Int):Int:=if pi n then(fm n.toNat 0 0 0 (-1) b).2 else 2
theorem pC {p:Pt}(h:ft p=true):0<=p.1/\p.1<=100000/\-1000000<=p.2/\p.2<=1000000:=of_decide_eq_true h
def lastT:Int->List Pt->Int
 |a,[]=>a
 |_,p::r=>lastT p.1 r
theorem nu:∀(a:Int) (l:List Pt) (p:Pt),lastT a (l++[p])=p.1
 |_,[],p=>rfl
 |_,q::r,p=>by simpa[lastT] using nu q.1 r p
theorem k8:∀(a:Int) (l m:List Pt),fp a (l++m)=if fp a l=0 then fp (lastT a l) m else fp a l
 |a,[],m=>by simp[fp,lastT]
 |a,q::r,m=>by
  simp only[List.cons_append,fp,lastT]
  split
  .simp
  split
  .simp
  exact k8 q.1 r m
theorem jQ {a:Int}{p:Pt}{r:List Pt}(h:fp a (p::r)=0):ft p=true/\a<p.1/\fp p.1 r=0:=by
 unfold fp at h
 split at h
 .cases h
 split at h
 .cases h
 rename_i h1 h2
 exact⟨by simpa using h1,by omega,h⟩
theorem rx {t v s last:Int}{p:Pt}{r:List Pt}(h:fp last (p::r)=0)(ht:0<=t/\t<=100000)(hl:t<=last+1)(hv:-1000000<=v/\v<=1000000)(hs:0<=s/\s<=100000):
  iK (p.1-t-s)=true/\iK (p.2-v)=true/\(0<=p.1/\p.1<=100000)/\(-1000000<=p.2/\p.2<=1000000)/\(0<=p.1-t/\p.1-t<=100000):=by
 obtain⟨h1,h2,_⟩:=jQ h
 have h3:=pC h1
 refine⟨decide_eq_true ?_,decide_eq_true ?_,?_,?_,?_⟩<;>omega
theorem sO:∀(t v s:Int) (l:List Pt),(pk t v s l).length<=64*l.length
 |_,_,_,[]=>by simp[pk]
 |t,v,s,p::r=>by
  have h1:=fT 8 (bj (p.1-t-s))
  have h2:=fT 8 (bj (p.2-v))
  have h3:=sO p.1 p.2 (p.1-t) r
  simp only[pk,List.length_append,List.length_cons]
  omega
theorem nB {b:List Bool}(h:fs b=0):-4000000<=ci b/\ci b<=4000000:=of_decide_eq_true (ym b h).1
theorem Cz (x y:Int)(w:World):
  Calls Tryz.prog 206 #[.agg #[.int .i64 x,.int .i64 y]] w fun e w'=>e=.returned (.bool (ft (x,y)))/\Below w.heap.size w w':=by
 by_cases h1:0<=x
 .by_cases h2:x<=100000
  .by_cases h3:-1000000<=y
   .by_cases h4:y<=1000000
    .have e:ft (x,y)=true:=decide_eq_true ⟨h1,h2,h3,h4⟩
     rw[e]
     clear e
     go_enter Tryz.func206,Tryz.ntmps206
     go_wp2
     go_ret
     exact⟨rfl,(Below.refl _ _).alloc (Nat.le_refl _) _⟩
    have e:ft (x,y)=false:=decide_eq_false (fun h=>h4 h.2.2.2)
    rw[e]
    clear e
    go_enter Tryz.func206,Tryz.ntmps206
    go_wp2
    go_ret
    exact⟨rfl,(Below.refl _ _).alloc (Nat.le_refl _) _⟩
   have e:ft (x,y)=false:=decide_eq_false (fun h=>h3 h.2.2.1)
   rw[e]
   clear e
   go_enter Tryz.func206,Tryz.ntmps206
   go_wp2
   go_ret
   exact⟨rfl,(Below.refl _ _).alloc (Nat.le_refl _) _⟩
  have e:ft (x,y)=false:=decide_eq_false (fun h=>h2 h.2.1)
  rw[e]
  clear e
  go_enter Tryz.func206,Tryz.ntmps206
  go_wp2
  go_ret
  exact⟨rfl,(Below.refl _ _).alloc (Nat.le_refl _) _⟩
 have e:ft (x,y)=false:=decide_eq_false (fun h=>h1 h.1)
 rw[e]
 clear e
 go_enter Tryz.func206,Tryz.ntmps206
 go_wp2
 go_ret
 exact⟨rfl,(Below.refl _ _).alloc (Nat.le_refl _) _⟩
theorem mU (ao:Option Addr)(cap:Nat)(l:List Pt)(w:World)(hr:aV w ao cap l):
  Calls Tryz.prog 175 #[.slice ao l.length cap] w fun e w'=>e=.returned (.int .i64 (aH l))/\Below w.heap.size w w':=by
 by_cases mw:40<l.length
 .have Md:(40:Int)<l.length:=by omega
  have e:aH l=2:=if_pos mw
  rw[e]
  clear e mw
  go_enter Tryz.func175,Tryz.ntmps175
  go_wp2
  go_ret
  exact⟨rfl,Below.refl _ _⟩
 have e:aH l=fp (-1) l:=if_neg mw
 rw[e]
 clear e
 obtain⟨C,hC⟩:∃C,C=fp (-1) l:=⟨_,rfl⟩
 rw[<-hC]
 obtain⟨n,hn⟩:∃n,n=l.length:=⟨_,rfl⟩
 rw[<-hn] at mw⊢
 have HL:=aa hn
 have HC:Hid (C=fp (-1) (l.drop 0)):=by rw[List.drop_zero];exact hC
 clear hn hC
 have Md:¬(40:Int)<(n:Int):=by omega
 go_enter Tryz.func175,Tryz.ntmps175
 go_wp2
 go_loopw [10] (fun i wr=>∃(k:Nat) (last:Int),k<=n/\i=.int .i64 k/\Hid (C=fp last (l.drop k))/\Hid ((k=0/\last=-1)\/∃j y,k=j+1/\l[j]? =some (last,y))/\Below w.heap.size w wr) (fun i _=>n-(intOf i).toNat)
 case atStart=>exact⟨0,-1,by omega,rfl,HC,aa (.inl ⟨rfl,rfl⟩),Below.refl _ _⟩
 case round=>
  obtain⟨k,last,hk,rfl,HR,HK,bel⟩:=hrel
  clear HC
  by_cases aE:k<n
  .have hs:=hr.keep bel (Nat.le_refl _)
   obtain⟨b,off,rfl,ld⟩:=hs.where (by intro h;rw[HL.out,h] at aE;simp at aE)
   obtain⟨x,y,e0,e1,hx,hd⟩:=hs.pt k (by rw[<-HL.out];exact aE)
   have HX:=aa hx
   have FB:Hid (C=fp last ((x,y)::l.drop (k+1))):=by have:=HR.out;rw[hd] at this;exact this
   clear HR hx hd
   have inr:∀W:World,(wr.alloc (.cells #[.int .i64 x,.int .i64 y] 56))=W->Calls Tryz.prog 206 #[.agg #[.int .i64 x,.int .i64 y]] W fun e w1=>e=.returned (.bool (ft (x,y)))/\Below w.heap.size w w1/\w1.cell? ⟨wr.heap.size,0,none⟩=some (.int .i64 x)/\aV w1 (some ⟨b,off,none⟩) cap l:=by
    rintro W rfl
    refine(Cz x y _).mono ?_
    rintro e w1 ⟨rfl,b1⟩
    refine⟨rfl,ac (bel.alloc bel.size _) b1,?_,(hs.alloc _).call b1⟩
    rw[b1.cell (p:=⟨wr.heap.size,0,none⟩) (by simp),World.cell?_alloc_at (hn:=rfl)]
    rfl
   cases hp:ft (x,y) with
   |false=>
    rw[hp] at inr
    go_wp2_with (go_at_call 206;refine(inr _ rfl).mono ?_;rintro e w1 ⟨rfl,b1,-,-⟩)
    go_ret
    refine⟨ju ?_,b1⟩
    rw[FB.out,fp,if_pos hp]
   |true=>
    rw[hp] at inr
    rcases HK.out with⟨rfl,rfl⟩| ⟨j,yy,rfl,hj⟩
    .clear HK
     rw[Nat.zero_mul,Nat.add_zero] at e0 e1
     go_wp2_with (go_at_call 206;refine(inr _ rfl).mono ?_;rintro e w1 ⟨rfl,b1,c1,s1⟩)
     go_region
     all_goals go_wp2
     all_goals go_roundw
     case rel=>
      refine⟨1,x,by omega,by go_num,aa ?_,aa (.inr ⟨0,y,rfl,HX.out⟩),ak b1⟩
      rw[FB.out,fp,if_neg (by rw[hp];decide),if_neg (by have:=(pC hp).1;simp only at this⊢;omega)]
     case measure=>simp[intOf];omega
    clear HK
    have FV:=aa hj
    clear hj
    by_cases fE:x<=last
    .go_wp2_with (go_at_call 206;refine(inr _ rfl).mono ?_;rintro e w1 ⟨rfl,b1,c1,s1⟩)
     obtain⟨x',y',e2,-,h2,-⟩:=s1.pt j (by rw[<-HL.out];omega)
     obtain rfl:last=x':=by rw[FV.out] at h2;simpa using(Prod.ext_iff.1 (Option.some.inj h2)).1
     clear h2
     go_region
     all_goals go_wp2
     all_goals go_ret
     refine⟨ju ?_,ak b1⟩
     rw[FB.out,fp,if_neg (by rw[hp];decide),if_pos fE]
    go_wp2_with (go_at_call 206;refine(inr _ rfl).mono ?_;rintro e w1 ⟨rfl,b1,c1,s1⟩)
    obtain⟨x',y',e2,-,h2,-⟩:=s1.pt j (by rw[<-HL.out];omega)
    obtain rfl:last=x':=by rw[FV.out] at h2;simpa using(Prod.ext_iff.1 (Option.some.inj h2)).1
    clear h2
    go_region
    all_goals go_wp2
    all_goals go_roundw
    case rel=>
     refine⟨j+1+1,x,by omega,by go_num,aa ?_,aa (.inr ⟨j+1,y,rfl,HX.out⟩),ak b1⟩
     rw[FB.out,fp,if_neg (by rw[hp];decide),if_neg (by simp only;omega)]
    case measure=>simp[intOf];omega
  obtain rfl:k=n:=by omega
  go_wp2_with fail
  go_ret
  refine⟨ju ?_,bel⟩
  rw[HR.out,HL.out,List.drop_length,fp]
theorem j9 (gi:Int)(w:World):
  Calls Tryz.prog 237 #[.int .i64 gi] w fun e w'=>e=.returned (.bool (okW gi))/\w=w':=by
 cases h:okW gi with
 |true=>
  obtain⟨h0,h1⟩:=Cc h
  clear h
  go_enter Tryz.func237,Tryz.ntmps237
  go_wp2
  go_ret
  exact⟨rfl,rfl⟩
 |false=>
  have h':=Hk h
  clear h
  by_cases h0:0<=gi
  .have h1:¬gi<=40:=by omega
   clear h'
   go_enter Tryz.func237,Tryz.ntmps237
   go_wp2
   go_ret
   exact⟨rfl,rfl⟩
  clear h'
  go_enter Tryz.func237,Tryz.ntmps237
  go_wp2
  go_ret
  exact⟨rfl,rfl⟩
theorem wY (n gi:Int)(w:World)(hw:okW gi=true):
  Calls Tryz.prog 240 #[.int .i64 n,.int .i64 gi] w fun e w'=>e=.returned (.bool (Ao n gi))/\w=w':=by
 obtain⟨h0,h1⟩:=Cc hw
 clear hw
 by_cases hn:0<=n
 .rw[IV hn]
  cases h:(n / 2 ^ gi.toNat==0) with
  |true=>
   go_enter Tryz.func240,Tryz.ntmps240
   go_wp2
   go_ret
   exact⟨rfl,rfl⟩
  |false=>
   go_enter Tryz.func240,Tryz.ntmps240
   go_wp2
   go_ret
   exact⟨rfl,rfl⟩
 have e:Ao n gi=false:=by unfold Ao;simp;omega
 rw[e]
 clear e
 go_enter Tryz.func240,Tryz.ntmps240
 go_wp2
 go_ret
 exact⟨rfl,rfl⟩
theorem oo:(Tryz.prog.info? 4).map (fun i=>(i.zero,i.size,i.bytes))=some (some (.bool false),1,1):=by kernel_rfl
theorem NK:(Tryz.prog.info? 3).map (fun i=>(i.zero,i.size,i.bytes))=some (some (.int .i64 0),1,8):=by kernel_rfl
theorem zr {w':World}{g n:Nat}{z:Value}{t:TypeId}(h:w'.ownsRow g t 1 (.slice (some ⟨g,0,none⟩) n n) n (madeCells #[z] n).toList):ag w' g (List.replicate n z) t:=by
 rcases h.2 with⟨h',_⟩| ⟨g',rZ,cur,h',_,hg,_,_,hs,nN⟩
 .simp at h'
 simp only[Value.slice.injEq,Option.some.injEq,Addr.mk.injEq,and_true,true_and] at h'
 obtain⟨rfl,rfl⟩:=h'
 unfold ag
 rw[toList_madeCells_one] at nN
 rw[hg,<-nN,List.take_of_length_le (by simp[hs])]
theorem JO (ao:Option Addr)(cap:Nat)(l:List Bool)(n:Int)(k:Nat)(w:World)(hr:Row w ao (l.map Value.bool))(hk:k<=40)(hn:Ao n k=true)(hl:l.length<=140737488355200):
  Calls Tryz.prog 239 #[.slice ao l.length cap,.int .i64 n,.int .i64 k] w fun e w'=>
   e=.returned (.tuple #[.slice (some ⟨w.heap.size,0,none⟩) (l.length+k) (l.length+k),.int .i64 0])/\ag w' w.heap.size ((l++bitsOf n k).map Value.bool) 4/\Below w.heap.size w w':=by
 have hw:okW (k:Int)=true:=by unfold okW;simp;omega
 obtain⟨i0,hi,bK,bm,bQ⟩:=info_parts oo
 go_enter Tryz.func239,Tryz.ntmps239
 go_wp2_with (first| (go_at_call 237;refine(j9 _ _).mono ?_;rintro e w' ⟨rfl,rfl⟩)| (go_at_call 240;refine(wY _ _ _ hw).mono ?_;rintro e w' ⟨rfl,rfl⟩)| (at_make;refine wpList_make_full _ rfl (.tmp 22) (.tmp 22) 105 rfl w.heap.size 4 i0 (.bool false) 1 Tryz.underlying105 hi bK bm _ _ _ _ (l.length+k) rfl rfl (by omega) (by omega) (by rw[bQ];omega) (by unfold maxLen;omega) (Nat.le_refl _) ?_))
 intro w1 lf jD
 have B0:=zr lf
 have bel:Below w.heap.size w w1:=(Below.refl _ _).grown jD (Nat.le_refl _) (fun k h=>by cases h)
 clear lf jD
 have wU:=hr.keep bel (Nat.le_refl _)
 have kp:(l.map Value.bool).length=Nat.min l.length (l.length+k):=by
  rw[List.length_map];exact(Nat.min_eq_left (by omega)).symm
 have fc:∀v∈l.map Value.bool,v.oneCell'=true:=by
  intro v hv
  obtain⟨b,_,rfl⟩:=List.mem_map.1 hv
  rfl
 have sg:0<(l.map Value.bool).length->some (⟨w.heap.size,0,none⟩:Addr)=some ⟨w.heap.size,0,none⟩/\∃ad,ao=some ad/\∀j v,(l.map Value.bool)[j]? =some v->w1.cell? (ad.add j)=some v:=by
  intro h
  obtain⟨b,off,e,_,hc⟩:=wU.at (by intro e;rw[e] at h;simp at h)
  exact⟨rfl,_,e,fun j v hv=>by rw[Addr.add_lit];exact hc j v hv⟩
 have dY:0+(l.map Value.bool).length<=(List.replicate (l.length+k) (Value.bool false)).length:=by simp
 have dW:(Tryz.prog.info? 4).map (·.size)=some 1:=by rw[hi];simp[bm]
 obtain⟨cs,jd⟩:∃cs,cs=l.map Value.bool:=⟨_,rfl⟩
 rw[<-jd] at kp fc sg dY
 have HC:Hid (cs=l.map Value.bool):=jd
 clear jd
 go_wp2_with (refine wpList_copy_splice rfl (.tmp 24) (.tmp 25) 105 105 rfl 4 Tryz.underlying105 dW _ _ _ _ _ _ rfl rfl w.heap.size 0 (List.replicate (l.length+k) (.bool false)) 4 B0 cs kp sg dY fc w.heap.size w bel (Nat.le_refl _) ?_)
 intro w2 HG am
 have B1:ag w2 w.heap.size ((l++(bitsOf n k).take 0).map Value.bool++List.replicate (k-0) (Value.bool false)) 4:=by
  have h:=HG.out
  unfold ag
  rw[h,HC.out]
  simp[splice]
 clear B0 HG bel hr wU kp fc sg dY dW hi bK bm bQ HC
 have hN:=(of_decide_eq_true hn:0<=n/\n<2 ^ (k:Int).toNat)
 have hp:=HZ k hk
 have hn0:0<=n:=hN.1
 have rO:n<=1099511627776:=by
  have h2:=hN.2
  rw[Int.toNat_natCast] at h2
  omega
 clear hN hp hn
 go_wp2_with fail
 go_loopw [28] (fun i wr=>∃j:Nat,j<=k/\i=.int .i64 j/\ag wr w.heap.size ((l++(bitsOf n k).take j).map Value.bool++List.replicate (k-j) (Value.bool false)) 4/\Below w.heap.size w wr) (fun i _=>k-(intOf i).toNat)
 case atStart=>exact⟨0,Nat.zero_le _,rfl,B1,am⟩
 case round=>
  obtain⟨j,hj,rfl,B,bel⟩:=hrel
  by_cases aE:j<k
  .have e1:wr.cell? ⟨w.heap.size,l.length+j,none⟩=some (.bool false):=by
    have hl:((l++(bitsOf n k).take j).map Value.bool).length=l.length+j:=by simp[mR];omega
    rw[B.cell,List.getElem?_append_right (by rw[hl];exact Nat.le_refl _),hl,Nat.sub_self,List.getElem?_replicate,if_pos (by omega)]
   have e2:=B.free (l.length+j)
   clear B1 am
   go_wp2_with fail
   go_roundw
   case rel=>
    refine⟨j+1,by omega,by go_num,?_,bel.setCell (Nat.le_refl _) _⟩
    have h:=B.set (l.length+j) (.bool (sY n (k-1-j)))
    rw[Lm l n k j aE] at h
    rw[Ek n (k-1-j) hn0 (by omega)]
    exact h
   case measure=>simp[intOf];omega
  obtain rfl:j=k:=by omega
  clear B1 am
  go_wp2_with fail
  go_ret2
  refine⟨rfl,?_,bel⟩
  have h:=B
  rw[List.take_of_length_le (by rw[mR];exact Nat.le_refl _),Nat.sub_self,List.replicate_zero,List.append_nil] at h
  exact h
theorem take_nil (ao:Option Addr)(cap:Nat)(w:World):
  Calls Tryz.prog 232 #[.slice ao 0 cap,.int .i64 0] w fun e w'=>
   e=.returned (.tuple #[.int .i64 0,.slice (some ⟨w.heap.size,0,none⟩) 0 0,.int .i64 0])/\ag w' w.heap.size [] 4/\Below w.heap.size w w':=by
 have hw:okW 0=true:=by decide
 obtain⟨i0,hi,bK,bm,bQ⟩:=info_parts oo
 have dW:(Tryz.prog.info? 4).map (·.size)=some 1:=by rw[hi];simp[bm]
 go_enter Tryz.func232,Tryz.ntmps232
 go_wp2_with (go_at_call 237;refine(j9 _ _).mono ?_;rintro e w' ⟨rfl,rfl⟩)
 refine wp_loop_rounds 1 ?_
 rw[rounds_succ]
 go_wp2_with (at_make;refine wpList_make_full _ rfl (.tmp 35) (.tmp 35) 105 rfl w.heap.size 4 i0 (.bool false) 1 Tryz.underlying105 hi bK bm _ _ _ _ 0 rfl rfl rfl rfl (by rw[bQ];omega) (by unfold maxLen;omega) (Nat.le_refl _) ?_)
 intro w1 lf jD
 have B0:ag w1 w.heap.size [] 4:=zr (z:=.bool false) lf
 have bel:Below w.heap.size w w1:=(Below.refl _ _).grown jD (Nat.le_refl _) (fun k h=>by cases h)
 clear lf jD
 go_wp2_with (refine wpList_copy_nothing rfl (.tmp 37) (.tmp 40) 105 105 rfl 4 Tryz.underlying105 dW _ _ _ _ _ _ rfl rfl rfl ?_)
 all_goals go_ret3
 all_goals exact⟨rfl,B0,bel⟩
theorem Nl (ao:Option Addr)(cap:Nat)(l:List Bool)(k:Nat)(w:World)(hr:Row w ao (l.map Value.bool))(hk:k<=40)(dy:k<=l.length)(hl:l.length<=140737488355328)(hc:l.length<=cap)(mg:cap<=9223372036854775807):
  Calls Tryz.prog 232 #[.slice ao l.length cap,.int .i64 k] w fun e w'=>
   e=.returned (.tuple #[.int .i64 (numOf (l.take k)),.slice (some ⟨w.heap.size,0,none⟩) (l.length-k) (l.length-k),.int .i64 0])/\ag w' w.heap.size ((l.drop k).map Value.bool) 4/\Below w.heap.size w w':=by
 have hw:okW (k:Int)=true:=by unfold okW;simp;omega
 obtain⟨i0,hi,bK,bm,bQ⟩:=info_parts oo
 have P4:¬(l.length:Int)<(k:Int):=by omega
 rcases hr with jr| ⟨b,off,rfl,hb,fH⟩
 .obtain rfl:l=[]:=by simpa using jr
  obtain rfl:k=0:=by simpa using dy
  clear jr dy P4 hl hc hw
  have h:=take_nil ao cap w
  refine h.mono fun e w' ⟨he,hb,oC⟩=>⟨by rw[he];rfl,hb,oC⟩
 have g:=fun j hj=>CD fH j hj
 go_enter Tryz.func232,Tryz.ntmps232
 go_wp2_with (go_at_call 237;refine(j9 _ _).mono ?_;rintro e w' ⟨rfl,rfl⟩)
 go_loop [7,22] (fun n i=>∃j:Nat,j<=k/\i=.int .i64 j/\n=.int .i64 (numOf (l.take j))) (fun _ i=>k-(intOf i).toNat)
 case atStart=>exact⟨0,Nat.zero_le _,rfl,rfl⟩
 case round=>
  obtain⟨j,hj,rfl,rfl⟩:=hrel
  by_cases aE:j<k
  .have e1:=g j (by omega)
   have hN:=FJ l j (by omega)
   have hM:numOf (l.take j)<549755813888:=by
    have h1:=qB l j
    have h2:=EH j 39 (by omega)
    omega
   generalize numOf (l.take j)=m at*
   generalize l.getD j false=x at*
   have HN:Hid (numOf (l.take (j+1))=2*m+x.toNat):=hN
   clear hN g fH
   have ho:=or_one m (by omega)
   cases x
   .go_wp2_with fail
    go_round
    case rel=>exact⟨j+1,by omega,by go_num,by rw[HN.out];simp;omega⟩
    case measure=>simp[intOf];omega
   go_wp2_with fail
   go_round
   case rel=>exact⟨j+1,by omega,by go_num,by rw[HN.out];simp;omega⟩
   case measure=>simp[intOf];omega
  obtain rfl:j=k:=by omega
  clear g
  go_wp2_with (at_make;refine wpList_make_full _ rfl (.tmp 35) (.tmp 35) 105 rfl w.heap.size 4 i0 (.bool false) 1 Tryz.underlying105 hi bK bm _ _ _ _ (l.length-j) rfl rfl (by omega) (by omega) (by rw[bQ];omega) (by unfold maxLen;omega) (Nat.le_refl _) ?_)
  intro w1 lf jD
  have B0:=zr lf
  have bel:Below w.heap.size w w1:=(Below.refl _ _).grown jD (Nat.le_refl _) (fun k h=>by cases h)
  clear lf jD
  have Nm:(l.drop j).length=l.length-j:=List.length_drop
  have kp:((l.drop j).map Value.bool).length=Nat.min (l.length-j) (l.length-j):=by
   rw[List.length_map,Nm];exact(Nat.min_self _).symm
  have fc:∀v∈(l.drop j).map Value.bool,v.oneCell'=true:=by
   intro v hv
   obtain⟨b,_,rfl⟩:=List.mem_map.1 hv
   rfl
  have dY:0+((l.drop j).map Value.bool).length<=(List.replicate (l.length-j) (Value.bool false)).length:=by simp
  have dW:(Tryz.prog.info? 4).map (·.size)=some 1:=by rw[hi];simp[bm]
  have eS:∀t v,((l.drop j).map Value.bool)[t]? =some v->w1.cell? ((⟨b,off+j,none⟩:Addr).add t)=some v:=by
   intro t v hv
   rw[Addr.add_lit,Nat.add_assoc,bel.cell (p:=⟨b,off+(j+t),none⟩) hb]
   refine fH (j+t) v ?_
   rw[List.getElem?_map,List.getElem?_drop] at hv
   rw[List.getElem?_map]
   exact hv
  have pN:∀w2:World,w2.heap[w.heap.size]? =some (.cells (splice (List.replicate (l.length-j) (Value.bool false)) 0 ((l.drop j).map Value.bool)).toArray 4 (0,0))->ag w2 w.heap.size ((l.drop j).map Value.bool) 4:=by
   intro w2 h
   unfold ag
   rw[h]
   simp[splice]
  have hz:cap=j->¬0<((l.drop j).map Value.bool).length:=by
   intro h;simp;omega
  clear Nm fH
  obtain⟨cs,jd⟩:∃cs,cs=(l.drop j).map Value.bool:=⟨_,rfl⟩
  rw[<-jd] at kp fc dY eS hz
  have HE:Hid (∀w2:World,w2.heap[w.heap.size]? =some (.cells (splice (List.replicate (l.length-j) (Value.bool false)) 0 cs).toArray 4 (0,0))->ag w2 w.heap.size ((l.drop j).map Value.bool) 4):=by
   rw[jd];exact pN
  clear pN jd
  by_cases ZC:cap=j
  .have xj:=hz ZC
   clear hz eS
   go_wp2_with (refine wpList_copy_splice rfl (.tmp 37) (.tmp 40) 105 105 rfl 4 Tryz.underlying105 dW _ _ _ _ _ _ rfl rfl w.heap.size 0 (List.replicate (l.length-j) (.bool false)) 4 B0 cs kp (fun h=>absurd h xj) dY fc w.heap.size w bel (Nat.le_refl _) ?_)
   intro w2 HG am
   go_wp2_with fail
   go_ret3
   exact⟨rfl,HE.out w2 HG.out,am⟩
  clear hz
  go_wp2_with (refine wpList_copy_splice rfl (.tmp 37) (.tmp 40) 105 105 rfl 4 Tryz.underlying105 dW _ _ _ _ _ _ rfl rfl w.heap.size 0 (List.replicate (l.length-j) (.bool false)) 4 B0 cs kp (fun _=>⟨rfl,_,rfl,eS⟩) dY fc w.heap.size w bel (Nat.le_refl _) ?_)
  intro w2 HG am
  go_wp2_with fail
  go_ret3
  exact⟨rfl,HE.out w2 HG.out,am⟩
theorem HJ (ao:Option Addr)(len cap:Nat)(gi:Int)(w:World)(h:okW gi=true)(aE:(len:Int)<gi):
  Calls Tryz.prog 232 #[.slice ao len cap,.int .i64 gi] w fun e w'=>e=.returned (.tuple #[.int .i64 0,.slice none 0 0,.int .i64 8])/\w=w':=by
 go_enter Tryz.func232,Tryz.ntmps232
 go_wp2_with (go_at_call 237;refine(j9 _ _).mono ?_;rintro e w' ⟨rfl,rfl⟩)
 go_ret3
 exact⟨rfl,rfl⟩
theorem Jf (l:List Bool):∀v∈l.map Value.bool,v.oneCell'=true:=by
 intro v hv
 obtain⟨b,_,rfl⟩:=List.mem_map.1 hv
 rfl
end Go.Proofs.YtoonnbhoiocoeaaGreatDoor
