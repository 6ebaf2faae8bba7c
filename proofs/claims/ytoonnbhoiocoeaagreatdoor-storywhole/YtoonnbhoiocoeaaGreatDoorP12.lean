/-
  slices.Clone at points, of a slice that has some: a slice of the call's own with the same points.
-/
import Derived.Lib.SliceRun
import Derived.Deep.DeepAppendWide
import Derived.Laws.AppendOwnNone
import Derived.Test.YtoonnbhoiocoeaaGreatDoorP02
import Derived.Test.YtoonnbhoiocoeaaGreatDoorP11
import Derived.Test.YtoonnbhoiocoeaaGreatDoorP03
import Derived.Test.YtoonnbhoiocoeaaGreatDoorP01
import Derived.Test.YtoonnbhoiocoeaaGreatDoorP10
import Derived.Test.YtoonnbhoiocoeaaGreatDoorP08
import Derived.Test.YtoonnbhoiocoeaaGreatDoorP07
set_option maxHeartbeats 40000000
set_option maxRecDepth 100000
set_option linter.unusedVariables false
namespace Go.Proofs.YtoonnbhoiocoeaaGreatDoor
open Go.RowKit
theorem Ly (b off cap:Nat)(l:List Pt)(w:World)(hr:aI w (some ⟨b,off,none⟩) cap l)(rx:0<l.length)(hl:l.length<=1000000000000):
  Calls Tryz.prog 130 #[.slice (some ⟨b,off,none⟩) l.length cap] w fun e w'=>
   ∃v',e=.returned v'/\w'.ownsRow w.heap.size 56 2 v' l.length (am l)/\Below w.heap.size w w':=by
 obtain⟨i0,hi,bU,bi,bk⟩:=info_parts jy
 have q:∀(w:World) (a:Option Addr) (n c n' c':Nat),(binOp .eql 42 (.slice a n c) (.slice none n' c')).run Tryz.prog w=.ok (.bool a.isNone) w:=fun w a n c n' c'=>Lib.run_eql_slice_nil w _ _ a n c n' c' Tryz.underlying42
 have fj:(w.alloc (.cells #[] 56)).ownsRow w.heap.size 56 2 (.slice (some ⟨w.heap.size,0,none⟩) 0 0) 0 []:=
  ⟨rfl,.inr ⟨w.heap.size,0,#[],rfl,Nat.le_refl _,heap_alloc_new w _,Nat.le_refl _,by decide,rfl,rfl⟩⟩
 have fZ:=(Below.refl w.heap.size w).alloc (Nat.le_refl _) (Obj.cells #[] 56)
 have hs:=hr.alloc (.cells #[] 56)
 have fc:∀j u,(am l)[j]? =some u->(w.alloc (.cells #[] 56)).cell? ((⟨b,off,none⟩:Addr).add j)=some u:=by
  intro j u hu
  obtain⟨b',k8,e,_,hc⟩:=hs.row.at (by intro e;rw[e] at hu;simp at hu)
  simp only[Option.some.injEq,Addr.mk.injEq,and_true] at e
  obtain⟨rfl,rfl⟩:=e
  rw[Addr.add_lit]
  exact hc j u hu
 have one:=fW l
 have aw:=aK l
 have bA:w.heap.size<=(w.alloc (.cells #[] 56)).heap.size:=by simp
 generalize am l=C at*
 generalize l.length=n at*
 replace aw:=hide aw
 clear hr hs
 go_enter Tryz.func130,Tryz.ntmps130
 go_wp2_with (at_builtin;refine dX _ rfl (.tmp 5) (.tmp 6) 42 rfl w.heap.size 56 i0 (.agg #[.int .i64 0,.int .i64 0]) 2 16 Tryz.underlying42 hi bU bi bk rfl (by decide) _ 0 _ rfl fj ⟨b,off,none⟩ n cap C rfl aw.out fc one rx (by unfold maxLen;omega) (by omega) bA ?_)
 intro v' w1 eB cY Ch
 have aU:=aH fZ fj cY (Nat.le_refl _) bA
 obtain⟨a1,c1,rfl⟩:∃a1 c1,v'=.slice a1 n c1:=by
  rcases eB.2 with⟨rfl,rfl⟩| ⟨g,cp,cur,rfl,_⟩
  .exact⟨_,_,rfl⟩
  .exact⟨_,_,rfl⟩
 go_wp2_with fail
 go_ret
 exact⟨_,rfl,eB,aU⟩
end Go.Proofs.YtoonnbhoiocoeaaGreatDoor
namespace Go.Proofs.YtoonnbhoiocoeaaGreatDoor
open Go.RowKit
def nf (f t:Int)(p:Pt):Bool:= !Fx f t p
def pc (p:Pt):List Value:=[.int .i64 p.1,.int .i64 p.2]
theorem gh (p:Pt):(pc p).length=2:=rfl
theorem jY:∀l:List Pt,am l=l.flatMap pc
 | []=>rfl
 |p::r=>by rw[am,jY r];rfl
theorem Ae (p:Pt)(f t:Int)(cf ct:Nat)(w:World)(Bf:ac w cf [.int .i64 f] 3)(Bt:ac w ct [.int .i64 t] 3):
  Calls Tryz.prog 91 #[.agg #[.int .i64 p.1,.int .i64 p.2],.pointer (some ⟨cf,0,none⟩),.pointer (some ⟨ct,0,none⟩)] w fun e w'=>e=.returned (.bool (nf f t p))/\Below w.heap.size w w':=by
 have d0:w.cell? ⟨cf,0,none⟩=some (.int .i64 f):=Bf.cell 0
 have d1:w.cell? ⟨ct,0,none⟩=some (.int .i64 t):=Bt.cell 0
 have l0:=Bf.lt
 have l1:=Bt.lt
 obtain⟨x,y⟩:=p
 unfold nf Fx
 simp only
 by_cases h1:x<f
 .rw[show(!decide (f<=x/\x<t))=true by simp;omega]
  go_enter Tryz.func91,Tryz.ntmps91
  go_wp2_with fail
  go_ret
  exact⟨rfl,(Below.refl _ _).alloc (Nat.le_refl _) _⟩
 .by_cases h2:t<=x
  .rw[show(!decide (f<=x/\x<t))=true by simp;omega]
   go_enter Tryz.func91,Tryz.ntmps91
   go_wp2_with fail
   go_ret
   exact⟨rfl,(Below.refl _ _).alloc (Nat.le_refl _) _⟩
  .rw[show(!decide (f<=x/\x<t))=false by simp;omega]
   go_enter Tryz.func91,Tryz.ntmps91
   go_wp2_with fail
   go_ret
   exact⟨rfl,(Below.refl _ _).alloc (Nat.le_refl _) _⟩
theorem IQ (l:List Pt)(ao:Option Addr)(cap n:Nat)(f t:Int)(cf ct:Nat)(w:World)(S:aI w ao cap l)(Bf:ac w cf [.int .i64 f] 3)(Bt:ac w ct [.int .i64 t] 3)(hn:l.length=n)(few:n<=40):
  Calls Tryz.prog 124 #[.slice ao n cap,.func (.func 91) #[] #[.pointer (some ⟨cf,0,none⟩),.pointer (some ⟨ct,0,none⟩)]] w fun e w'=>
   Below w.heap.size w w'/\((e=.returned (.int .i64 (-1))/\∀x∈l,nf f t x=false)\/∃k x,e=.returned (.int .i64 (k:Nat))/\l[k]? =some x/\nf f t x=true/\∀y∈l.take k,nf f t y=false):=by
 replace hn:=hide hn
 have b0:=Below.refl w.heap.size w
 go_enter Tryz.func124,Tryz.ntmps124
 go_wp2_with fail
 go_loopw [8] (fun i wr=>∃(k:Nat),k<=n/\i=.int .i64 k/\Hid (∀y∈l.take k,nf f t y=false)/\Below w.heap.size w wr) (fun i _=>n-(intOf i).toNat)
 case atStart=>exact⟨0,by omega,rfl,hide (fun y hy=>by simp at hy),b0⟩
 case round=>
  clear b0
  obtain⟨k,hk,rfl,H,bel⟩:=hrel
  by_cases az:k<n
  .have S1:=S.keep bel (Nat.le_refl _)
   have cy:k<l.length:=by rw[hn.out];exact az
   obtain⟨b,off,rfl,pL⟩:=S1.where (by intro e;rw[e] at cy;simp at cy)
   obtain⟨x,y,e0,e1,hx,_⟩:=S1.pt k cy
   have Mt:=Bf.keep bel Bf.lt
   have Nd:=Bt.keep bel Bt.lt
   have c:=fun W h0 h1=>Ae (x,y) f t cf ct W h0 h1
   have VE:k<40:=by omega
   replace hx:=hide hx
   clear S1 cy
   cases hp:nf f t ((x,y):Pt) with
   |true=>
    rw[hp] at c
    replace hp:=hide hp
    go_wp2_with fail
    go_at_call 91
    refine(c _ (Mt) (Nd)).mono ?_
    rintro e w2 ⟨rfl,b2⟩
    have al:=aa bel b2
    go_wp2_with fail
    go_ret
    exact⟨al,.inr ⟨k,(x,y),rfl,hx.out,hp.out,H.out⟩⟩
   |false=>
    rw[hp] at c
    have H2:∀z∈l.take (k+1),nf f t z=false:=by
     intro z hz
     rw[List.take_add_one,hx.out] at hz
     rcases List.mem_append.1 hz with hz|hz
     .exact H.out z hz
     .simp at hz
      rw[hz]
      exact hp
    replace H2:=hide H2
    clear hp
    go_wp2_with fail
    go_at_call 91
    refine(c _ (Mt) (Nd)).mono ?_
    rintro e w2 ⟨rfl,b2⟩
    have al:=aa bel b2
    go_wp2_with fail
    go_roundw
    case rel=>exact⟨k+1,by omega,by go_num,H2,al⟩
    case measure=>simp[intOf];omega
  .obtain rfl:k=n:=by omega
   have H':=H.out
   rw[List.take_of_length_le (by rw[hn.out];exact Nat.le_refl _)] at H'
   replace H':=hide H'
   go_wp2_with fail
   go_ret
   exact⟨bel,.inl ⟨rfl,H'.out⟩⟩
theorem Ke {w:World}{base n:Nat}{v:Value}{l:List Pt}(h:w.ownsRow base 56 2 v n (am l)):
  (v=.slice none 0 0/\l=[]/\n=0)\/∃g G sp,v=.slice (some ⟨g,0,none⟩) n G/\base<=g/\ac w g (am l++sp) 56/\n<=G/\G<=maxLen/\(am l++sp).length=G*2:=by
 rcases h.2 with⟨rfl,rfl⟩| ⟨g,cap,cur,rfl,hb,hg,h1,h2,h3,h4⟩
 .refine .inl ⟨rfl,?_,rfl⟩
  have:=h.1
  rw[aK] at this
  exact List.eq_nil_of_length_eq_zero (by omega)
 .refine .inr ⟨g,cap,cur.toList.drop (n*2),rfl,hb,?_,h1,h2,?_⟩
  .unfold ac
   rw[<-h4,List.take_append_drop]
   simpa using hg
  .rw[<-h4,List.take_append_drop,Array.length_toList]
   exact h3
theorem Jw {w:World}{base g n G:Nat}{l:List Pt}{sp:List Value}(hb:base<=g)(B:ac w g (am l++sp) 56)(hn:l.length=n)(h1:n<=G)(h2:G<=maxLen)(h3:(am l++sp).length=G*2):
  w.ownsRow base 56 2 (.slice (some ⟨g,0,none⟩) n G) n (am l):=by
 refine⟨by rw[aK,hn],.inr ⟨g,G,(am l++sp).toArray,rfl,hb,B,h1,h2,by simpa using h3,?_⟩⟩
 rw[List.toList_toArray,List.take_left' (by rw[aK,hn])]
theorem Em (z:Array Value)(hz:z.toList=pc (0,0))(n:Nat):(Builtin.zeroCells z n).toList=(List.replicate n ((0,0):Pt)).flatMap pc:=by
 have hs:z.size=2:=by rw[<-Array.length_toList,hz];rfl
 apply List.ext_getElem?
 intro i
 have hl:=ar gh (List.replicate n ((0,0):Pt))
 rw[List.length_replicate] at hl
 by_cases hi:i<n*2
 .have hg:=flat_get gh (List.replicate n ((0,0):Pt)) (i / 2) (i % 2) (0,0) (by rw[List.getElem?_replicate,if_pos (by omega)]) (Nat.mod_lt _ (by decide))
  rw[show i / 2*2+i % 2=i by omega] at hg
  rw[hg,<-hz]
  simp only[Builtin.zeroCells,Array.toList_map,List.getElem?_map,Array.toList_range,hs]
  rw[List.getElem?_range hi]
  have h4:i % 2<z.size:=by omega
  rw[Option.map_some,getElem!_pos z (i % 2) h4,Array.getElem?_toList,Array.getElem?_eq_getElem h4]
 .rw[List.getElem?_eq_none (by simp[Builtin.zeroCells,hs];omega),List.getElem?_eq_none (by rw[hl];omega)]
theorem tN {P:Program}(w:World)(t e ty:TypeId)(z:Value)(ht:P.underlying t=some (.slice e))(hv:∀w,(zeroValue e).run P w=.ok z w)(hz:z.cells.toList=pc (0,0))(b o n c:Nat)(hn:0<n)(cur:List Value)(te:TypeId)(B:ac w b cur te)(dS:o+n*2<=cur.length):
  (Builtin.clear_ #[t] ty #[.slice (some ⟨b,o,none⟩) n c]).run P w=.ok (.tuple #[]) (w.setCells b o ((List.replicate n ((0,0):Pt)).flatMap pc)):=by
 have Tt:=Em z.cells hz n
 have hl:=ar gh (List.replicate n ((0,0):Pt))
 rw[List.length_replicate] at hl
 have nx:=run_storeCells_cells (P:=P) b o ((List.replicate n ((0,0):Pt)).flatMap pc) 0 w (by intro j hj;rw[hl] at hj;rw[B.cell,List.getElem?_eq_getElem (by omega)];rfl) (by intro j _;exact B.free _) (by
  intro v Ii
  obtain⟨r,hr,yk⟩:=List.mem_flatMap.1 Ii
  rw[List.eq_of_mem_replicate hr] at yk
  simp only[pc,List.mem_cons,List.not_mem_nil,or_false] at yk
  rcases yk with rfl|rfl<;>rfl)
 simp only[Nat.add_zero] at nx
 obtain⟨m,rfl⟩:∃m,n=m+1:=⟨n-1,by omega⟩
 simp[Builtin.clear_,run_underlying ht,hv,Tt,nx]
theorem Ic (w:World):(zeroValue 56).run Tryz.prog w=.ok (.agg #[.int .i64 0,.int .i64 0]) w:=by
 obtain⟨i0,hi,bU,bi,bk⟩:=info_parts jy
 simp[zeroValue,typeInfo,hi,bU]
def eI (f t:Int)(l:List Pt):List Pt:=l.filter (fun x=> !nf f t x)
theorem JP (f t:Int)(l:List Pt):eI f t l=gH l f t:=by
 unfold eI gH nf
 congr 1
 funext x
 simp
theorem xR {f t:Int} :∀ {l:List Pt},(∀x∈l,nf f t x=false)->eI f t l=l:=by
 intro l h
 unfold eI
 rw[List.filter_eq_self]
 intro x hx
 rw[h x hx]
 rfl
theorem vv (f t:Int)(l:List Pt)(j:Nat)(x:Pt)(hx:l[j]? =some x):eI f t (l.take (j+1))=if nf f t x=true then eI f t (l.take j) else eI f t (l.take j)++[x]:=by
 unfold eI
 rw[List.take_add_one,hx,List.filter_append]
 cases h:nf f t x with
 |true=>simp[h]
 |false=>simp[h]
theorem LW {w:World}{g:Nat}{X:List Pt}{sp:List Value}(B:ac w g (X.flatMap pc++sp) 56)(j:Nat)(p:Pt)(hp:X[j]? =some p):w.cell? ⟨g,j*2,none⟩=some (.int .i64 p.1)/\w.cell? ⟨g,j*2+1,none⟩=some (.int .i64 p.2):=by
 have hl:=ar gh X
 have hj:=(List.getElem?_eq_some_iff.1 hp).1
 rw[B.cell,B.cell,List.getElem?_append_left (by rw[hl];omega),List.getElem?_append_left (by rw[hl];omega)]
 exact⟨flat_get gh X j 0 p hp (by decide),flat_get gh X j 1 p hp (by decide)⟩
theorem Tc {w:World}{g:Nat}{X:List Pt}{sp:List Value}(B:ac w g (X.flatMap pc++sp) 56)(i:Nat)(hi:i<X.length)(p:Pt):
  ac ((w.setCell ⟨g,i*2,none⟩ (.int .i64 p.1)).setCell ⟨g,i*2+1,none⟩ (.int .i64 p.2)) g ((X.set i p).flatMap pc++sp) 56/\w.grownBy ((w.setCell ⟨g,i*2,none⟩ (.int .i64 p.1)).setCell ⟨g,i*2+1,none⟩ (.int .i64 p.2)) (some g):=by
 have hl:=ar gh X
 have B2:=(B.set (i*2) (.int .i64 p.1)).set (i*2+1) (.int .i64 p.2)
 rw[List.set_append_left _ _ (by rw[hl];omega),List.set_append_left _ _ (by rw[List.length_set,hl];omega),qQ p _ _ rfl gh X i hi] at B2
 exact⟨B2,ak (ak (au w (some g)) _ _) _ _⟩
theorem M2 (bl:List Pt)(sp:List Value)(f t:Int)(bg cf ct n G:Nat)(w:World)(B:ac w bg (bl.flatMap pc++sp) 56)(Bf:ac w cf [.int .i64 f] 3)(Bt:ac w ct [.int .i64 t] 3)(hn:bl.length=n)(few:n<=40)(hG:n<=G)(rp:G<=9223372036854775807):
  Calls Tryz.prog 92 #[.slice (some ⟨bg,0,none⟩) n G,.func (.func 91) #[] #[.pointer (some ⟨cf,0,none⟩),.pointer (some ⟨ct,0,none⟩)]] w fun e w'=>
   ∃tail:List Pt,e=.returned (.slice (some ⟨bg,0,none⟩) (eI f t bl).length G)/\(eI f t bl++tail).length=n/\ac w' bg ((eI f t bl++tail).flatMap pc++sp) 56/\w.grownBy w' (some bg):=by
 have S:aI w (some ⟨bg,0,none⟩) G bl:=by
  refine⟨B.row 0 _ (fun i v hv=>?_),by omega,rp,fun e=>by cases e⟩
  rw[jY] at hv
  rw[Nat.zero_add,List.getElem?_append_left (List.getElem?_eq_some_iff.1 hv).1]
  exact hv
 have c1:=fun W h k m=>IQ bl (some ⟨bg,0,none⟩) G n f t cf ct W h k m hn few
 replace hn:=hide hn
 go_enter Tryz.func92,Tryz.ntmps92
 go_wp2_with fail
 go_at_call 124
 refine(c1 _ S Bf Bt).mono ?_
 rintro e w1 ⟨b1,⟨rfl,bh⟩| ⟨k0,x0,rfl,pN,rK,bh⟩⟩
 .have B1:=B.keep b1 B.lt
  have e1:eI f t bl=bl:=xR bh
  have gr:w.grownBy w1 (some bg):=fb b1
  replace e1:=hide e1
  replace bh:=hide bh
  clear B Bf Bt c1 b1 S
  go_wp2_with fail
  go_ret
  exact⟨[],by rw[e1.out,hn.out];rfl,by rw[e1.out,List.append_nil];exact hn.out,by rw[e1.out,List.append_nil];exact B1,gr⟩
 .have B1:=B.keep b1 B.lt
  have Mt:=Bf.keep b1 Bf.lt
  have Nd:=Bt.keep b1 Bt.lt
  have gr:w.grownBy w1 (some bg):=fb b1
  have vI:k0<n:=by rw[<-hn.out];exact(List.getElem?_eq_some_iff.1 pN).1
  have TI:((k0:Int)==-1)=false:=beq_eq_false_iff_ne.2 (by omega)
  have sF:¬(k0:Int)=-1:=by omega
  have K0:eI f t (bl.take (k0+1))=bl.take k0:=by
   rw[vv f t bl k0 x0 pN,if_pos rK]
   exact xR bh
  have rj:bl.drop k0=x0::bl.drop (k0+1):=by
   obtain⟨fK,rfl⟩:=List.getElem?_eq_some_iff.1 pN
   exact List.drop_eq_getElem_cons fK
  have st:ac w1 bg ((eI f t (bl.take (k0+1))++[x0]++bl.drop (k0+1)).flatMap pc++sp) 56:=by
   rw[K0,List.append_assoc,List.singleton_append,<-rj,List.take_append_drop]
   exact B1
  have sl:Hid (k0=(eI f t (bl.take (k0+1))).length):=hide (by rw[K0,List.length_take,hn.out];omega)
  have Zt:bg≠cf:=by
   rintro rfl
   exact absurd (bY B Bf) (by decide)
  have YY:bg≠ct:=by
   rintro rfl
   exact absurd (bY B Bt) (by decide)
  replace pN:=hide pN
  replace rK:=hide rK
  replace bh:=hide bh
  replace K0:=hide K0
  replace rj:=hide rj
  clear B Bf Bt c1 b1 B1 S
  go_wp2_with fail
  go_loopw [5,6] (fun s5 s6 wr=>∃(i j:Nat) (mD:List Pt),s5=.int .i64 i/\s6=.int .i64 j/\j<=n/\i<j/\Hid (i=(eI f t (bl.take j)).length)/\Hid (mD.length=j-i)/\ac wr bg ((eI f t (bl.take j)++mD++bl.drop j).flatMap pc++sp) 56/\ac wr cf [.int .i64 f] 3/\ac wr ct [.int .i64 t] 3/\w.grownBy wr (some bg)) (fun _ s6 _=>n-(intOf s6).toNat)
  case atStart=>exact⟨k0,k0+1,[x0],rfl,by go_num,by omega,by omega,sl,hide (by simp),st,Mt,Nd,gr⟩
  case round=>
   clear st Mt Nd gr sl
   obtain⟨i,j,mD,rfl,rfl,hj,EO,hi,hm,B,Bf,Bt,gr⟩:=hrel
   by_cases az:j<n
   .obtain⟨x,hx⟩:∃x,bl[j]? =some x:=⟨_,List.getElem?_eq_getElem (by rw[hn.out];exact az)⟩
    have hd:bl.drop j=x::bl.drop (j+1):=by
     obtain⟨fK,rfl⟩:=List.getElem?_eq_some_iff.1 hx
     exact List.drop_eq_getElem_cons fK
    have len:(eI f t (bl.take j)++mD).length=j:=by rw[List.length_append,<-hi.out,hm.out];omega
    have zD:(eI f t (bl.take j)++mD++bl.drop j)[j]? =some x:=by rw[List.getElem?_append_right (by omega),len,Nat.sub_self,hd];rfl
    obtain⟨y,jR,rfl⟩:∃y jR,mD=y::jR:=List.exists_cons_of_ne_nil (by intro e;have:=hm.out;rw[e] at this;simp at this;omega)
    have hL:i<(eI f t (bl.take j)++(y::jR)++bl.drop j).length:=by rw[List.length_append,len];omega
    obtain⟨c0,c1⟩:=LW B j x zD
    have cv:=fun W h k=>Ae x f t cf ct W h k
    have sn:=vv f t bl j x hx
    have VM:j<40:=by omega
    have lb:=B.lt
    have X:=ac.laid wr [.int .i64 x.1,.int .i64 x.2] 56 _ rfl
    have BA:=B.alc (.cells #[.int .i64 x.1,.int .i64 x.2] 56)
    have DY:=Bf.alc (.cells #[.int .i64 x.1,.int .i64 x.2] 56)
    have Dn:=Bt.alc (.cells #[.int .i64 x.1,.int .i64 x.2] 56)
    have AP:=eA gr (fb (row:=some bg) ((Below.refl wr.heap.size wr).alloc (Nat.le_refl _) (.cells #[.int .i64 x.1,.int .i64 x.2] 56)))
    replace hx:=hide hx
    replace hd:=hide hd
    replace len:=hide len
    replace zD:=hide zD
    replace hL:=hide hL
    cases hp:nf f t x with
    |true=>
     rw[if_pos hp] at sn
     rw[hp] at cv
     replace sn:=hide sn
     clear hp
     go_wp2_with fail
     generalize wr.alloc _=w2 at*
     go_at_call 91
     refine(cv _ DY Dn).mono ?_
     rintro e w3 ⟨rfl,b3⟩
     have B3:=BA.keep b3 BA.lt
     have OD:=DY.keep b3 DY.lt
     have OA:=Dn.keep b3 Dn.lt
     have yK:=eA AP (fb (row:=some bg) b3)
     clear B Bf Bt gr BA DY Dn AP b3 c0 c1 X
     go_wp2_with fail
     go_roundw
     case rel=>exact⟨i,j+1,y::jR++[x],rfl,by go_num,by omega,by omega,hide (by rw[sn.out];exact hi.out),hide (by have:=hm.out;simp only[List.length_append,List.length_cons,List.length_nil] at this⊢;omega),by
       rw[sn.out]
       have e:eI f t (bl.take j)++(y::jR++[x])++bl.drop (j+1)=eI f t (bl.take j)++(y::jR)++bl.drop j:=by rw[hd.out];simp
       rw[e]
       exact B3,OD,OA,yK⟩
     case measure=>simp[intOf];omega
    |false=>
     rw[if_neg (by rw[hp];decide)] at sn
     rw[hp] at cv
     replace sn:=hide sn
     clear hp
     go_wp2_with fail
     generalize Sy:wr.heap.size=gx at*
     generalize wr.alloc _=w2 at*
     clear Sy
     go_at_call 91
     refine(cv _ DY Dn).mono ?_
     rintro e w3 ⟨rfl,b3⟩
     have B3:=BA.keep b3 BA.lt
     have OD:=DY.keep b3 DY.lt
     have OA:=Dn.keep b3 Dn.lt
     have X3:=X.keep b3 X.lt
     have yK:=eA AP (fb (row:=some bg) b3)
     have x0:w3.cell? ⟨gx,0,none⟩=some (.int .i64 x.1):=X3.cell 0
     have x1:w3.cell? ⟨gx,1,none⟩=some (.int .i64 x.2):=X3.cell 1
     obtain⟨z,hz⟩:∃z,(eI f t (bl.take j)++(y::jR)++bl.drop j)[i]? =some z:=⟨_,List.getElem?_eq_getElem hL.out⟩
     obtain⟨d0,d1⟩:=LW B3 i z hz
     have f0:=B3.free (i*2)
     have f1:=B3.free (i*2+1)
     obtain⟨B4,ET⟩:=Tc B3 i hL.out x
     have Ze:=OD.grown ET (fun q e=>by obtain rfl:=Option.some.inj e;exact Zt)
     have XK:=OA.grown ET (fun q e=>by obtain rfl:=Option.some.inj e;exact YY)
     have SY:=eA yK ET
     have i8:i<40:=by omega
     have i9:(i:Int)<n:=by omega
     replace hz:=hide hz
     clear B Bf Bt gr BA DY Dn AP b3 c0 c1 X X3 yK ET B3 OD OA
     go_wp2_with fail
     go_roundw
     case rel=>exact⟨i+1,j+1,jR++[x],by go_num,by go_num,by omega,by omega,hide (by rw[sn.out,List.length_append,<-hi.out];rfl),hide (by have:=hm.out;simp only[List.length_append,List.length_cons,List.length_nil] at this⊢;omega),by
       rw[sn.out,<-DB (eI f t (bl.take j)) jR (bl.drop (j+1)) y x i hi.out,<-hd.out]
       exact B4,Ze,XK,SY⟩
     case measure=>simp[intOf];omega
   .obtain rfl:j=n:=by omega
    have e1:bl.take j=bl:=List.take_of_length_le (by rw[hn.out];exact Nat.le_refl _)
    have e2:bl.drop j=[]:=List.drop_eq_nil_of_le (by rw[hn.out];exact Nat.le_refl _)
    rw[e2,List.append_nil] at B
    rw[e1] at B hi
    have len:(eI f t bl++mD).length=j:=by rw[List.length_append,<-hi.out,hm.out];omega
    have Bj:=ar gh (eI f t bl++mD)
    rw[len] at Bj
    have zg:=fun ty=>tN wr 42 56 ty _ Tryz.underlying42 Ic rfl bg (i*2) (j-i) (G-i) (by omega) _ _ B (by rw[List.length_append,Bj];omega)
    obtain⟨B6,zc⟩:=ac.setCells ((List.replicate (j-i) ((0,0):Pt)).flatMap pc) (i*2) B (by rw[List.length_append,Bj,ar gh,List.length_replicate];omega)
    have e3:splice ((eI f t bl++mD).flatMap pc++sp) (i*2) ((List.replicate (j-i) ((0,0):Pt)).flatMap pc)=(eI f t bl++List.replicate (j-i) ((0,0):Pt)).flatMap pc++sp:=by
     have hk:=ar gh (eI f t bl)
     rw[<-hi.out] at hk
     have hr:=ar gh (List.replicate (j-i) ((0,0):Pt))
     rw[List.length_replicate] at hr
     have j8:=ar gh mD
     rw[hm.out] at j8
     unfold splice
     rw[hr,List.flatMap_append,List.flatMap_append,List.append_assoc,List.take_left' hk]
     generalize(eI f t bl).flatMap pc=K at*
     generalize mD.flatMap pc=M at*
     generalize(List.replicate (j-i) ((0,0):Pt)).flatMap pc=R at*
     rw[<-List.append_assoc K M sp,List.drop_left' (by rw[List.length_append,hk,j8])]
     simp only[List.append_assoc]
    rw[e3] at B6
    have NI:=eA gr zc
    have SA:¬j=i:=by omega
    have ne2:¬G=i:=by omega
    have q1:(i:Int)<=j:=by omega
    have q2:(j:Int)<=G:=by omega
    replace e1:=hide e1
    replace e2:=hide e2
    replace e3:=hide e3
    replace len:=hide len
    replace Bj:=hide Bj
    clear B Bf Bt gr zc
    go_wp2_with fail
    go_ret
    exact⟨_,by rw[<-hi.out];rfl,by rw[List.length_append,<-hi.out,List.length_replicate];omega,B6,NI⟩
end Go.Proofs.YtoonnbhoiocoeaaGreatDoor
namespace Go.Proofs.YtoonnbhoiocoeaaGreatDoor
open Go.RowKit
theorem L3 (ao:Option Addr)(cap:Nat)(l:List Pt)(w:World)(hr:aI w ao cap l)(h:aJ l=0)(hl:0<l.length):
  Calls Tryz.prog 155 #[.slice ao l.length cap] w fun e w'=>
   ∃a' G,e=.returned (.tuple #[.agg #[.int .i64 l.length,.int .i64 (firstT l),.int .i64 (k6 l),.slice a' (eg l).length G],.int .i64 0])/\Sl w' a' G ((eg l).map Value.bool)/\Below w.heap.size w w':=by
 have c1:=fun W h=>zS ao cap l W h
 rw[h] at c1
 have lT:=(eU h).1
 obtain⟨b,off,rfl,hb⟩:=hr.where (by intro e;rw[e] at hl;simp at hl)
 have s0:=fun W (h:aI W (some ⟨b,off,none⟩) cap l)=>h.first hl
 have s1:=fun W (h:aI W (some ⟨b,off,none⟩) cap l)=>h.last hl
 generalize eg l=P at*
 generalize firstT l=X at*
 generalize k6 l=Y at*
 obtain⟨n,hn⟩:∃n,n+1=l.length:=⟨l.length-1,by omega⟩
 rw[<-hn] at c1 s1 lT⊢
 clear hn hl h
 go_enter Tryz.func155,Tryz.ntmps155
 go_wp2_with fail
 go_at_call 183
 refine(c1 _ (hr.alloc _)).mono ?_
 rintro e w1 ⟨a1,G1,rfl,t1,b1⟩
 have B0:=(ac.laid w [.int .i64 0,.int .i64 0,.int .i64 0,.slice none 0 0] 107 _ rfl).keep b1 (by simp)
 have bel:=aa ((Below.refl _ _).alloc (Nat.le_refl _) _) b1
 have vS:=(hr.alloc _).call b1
 have e0:=s0 _ vS
 have e1:=s1 _ vS
 clear c1 s0 s1 b1
 simp only[Nat.add_sub_cancel] at e1
 have f0:=B0.free 0
 have f1:=B0.free 1
 have f2:=B0.free 2
 have f3:=B0.free 3
 have d0:w1.cell? ⟨w.heap.size,0,none⟩=some (.int .i64 0):=B0.cell 0
 have d1:w1.cell? ⟨w.heap.size,1,none⟩=some (.int .i64 0):=B0.cell 1
 have d2:w1.cell? ⟨w.heap.size,2,none⟩=some (.int .i64 0):=B0.cell 2
 have d3:w1.cell? ⟨w.heap.size,3,none⟩=some (.slice none 0 0):=B0.cell 3
 have js:=B0.lt
 go_wp2_with fail
 go_region
 go_wp2_with fail
 have B4:=(B0.put4 (.int .i64 ((n:Int)+1)) (.int .i64 X) (.int .i64 Y) (.slice a1 P.length G1)).drewS
 have aC:=ai (ig bel (g:=w.heap.size) (Nat.le_refl _) (.int .i64 ((n:Int)+1)) (.int .i64 X) (.int .i64 Y) (.slice a1 P.length G1))
 have t4:=(t1.put4 B0 (.int .i64 ((n:Int)+1)) (.int .i64 X) (.int .i64 Y) (.slice a1 P.length G1)).drewS
 generalize(World.setCell _ _ _).drew=w5 at*
 have i0:w5.cell? ⟨w.heap.size,0,none⟩=some (.int .i64 ((n:Int)+1)):=B4.cell 0
 have i1:w5.cell? ⟨w.heap.size,1,none⟩=some (.int .i64 X):=B4.cell 1
 have i2:w5.cell? ⟨w.heap.size,2,none⟩=some (.int .i64 Y):=B4.cell 2
 have i3:w5.cell? ⟨w.heap.size,3,none⟩=some (.slice a1 P.length G1):=B4.cell 3
 exact bodyPost_ret (v:=.tuple #[.agg #[.int .i64 ((n:Int)+1),.int .i64 X,.int .i64 Y,.slice a1 P.length G1],.int .i64 0]) (by simp[results,Tryz.results155,go_sem,i0,i1,i2,i3]) rfl ⟨a1,G1,by simp,t4,aC⟩
theorem Me (ao:Option Addr)(cap:Nat)(l:List Pt)(w:World)(hr:aI w ao cap l)(h:¬fk l=0):
  Calls Tryz.prog 155 #[.slice ao l.length cap] w fun e w'=>
   e=.returned (.tuple #[.agg #[.int .i64 0,.int .i64 0,.int .i64 0,.slice none 0 0],.int .i64 (fk l)])/\Below w.heap.size w w':=by
 have c1:=fun W h=>zS ao cap l W h
 unfold fk at h⊢
 by_cases h0:aJ l=0
 .rw[h0] at c1
  rw[if_pos h0] at h⊢
  by_cases h1:l.length=0
  .rw[if_pos h1,h1]
   rw[h1] at c1
   generalize eg l=P at*
   clear h h0 h1
   go_enter Tryz.func155,Tryz.ntmps155
   go_wp2_with fail
   go_at_call 183
   refine(c1 _ (hr.alloc _)).mono ?_
   rintro e w1 ⟨a1,G1,rfl,t1,b1⟩
   have B0:=(ac.laid w [.int .i64 0,.int .i64 0,.int .i64 0,.slice none 0 0] 107 _ rfl).keep b1 (by simp)
   have bel:=aa ((Below.refl _ _).alloc (Nat.le_refl _) _) b1
   clear c1 b1
   have f0:=B0.free 0
   have f1:=B0.free 1
   have f2:=B0.free 2
   have f3:=B0.free 3
   have d0:w1.cell? ⟨w.heap.size,0,none⟩=some (.int .i64 0):=B0.cell 0
   have d1:w1.cell? ⟨w.heap.size,1,none⟩=some (.int .i64 0):=B0.cell 1
   have d2:w1.cell? ⟨w.heap.size,2,none⟩=some (.int .i64 0):=B0.cell 2
   have d3:w1.cell? ⟨w.heap.size,3,none⟩=some (.slice none 0 0):=B0.cell 3
   have js:=B0.lt
   go_wp2_with fail
   have B4:=B0.put4 (.int .i64 0) (.int .i64 0) (.int .i64 0) (.slice none 0 0)
   have aC:=ig bel (g:=w.heap.size) (Nat.le_refl _) (.int .i64 0) (.int .i64 0) (.int .i64 0) (.slice none 0 0)
   generalize World.setCell _ _ _=w5 at*
   have i0:w5.cell? ⟨w.heap.size,0,none⟩=some (.int .i64 0):=B4.cell 0
   have i1:w5.cell? ⟨w.heap.size,1,none⟩=some (.int .i64 0):=B4.cell 1
   have i2:w5.cell? ⟨w.heap.size,2,none⟩=some (.int .i64 0):=B4.cell 2
   have i3:w5.cell? ⟨w.heap.size,3,none⟩=some (.slice none 0 0):=B4.cell 3
   exact bodyPost_ret (v:=.tuple #[.agg #[.int .i64 0,.int .i64 0,.int .i64 0,.slice none 0 0],.int .i64 4]) (by simp[results,Tryz.results155,go_sem,i0,i1,i2,i3]) rfl ⟨rfl,aC⟩
  .rw[if_neg h1] at h
   exact absurd rfl h
 .rw[if_neg h0]
  generalize eg l=P at*
  generalize aJ l=E at*
  generalize l.length=n at*
  clear h
  go_enter Tryz.func155,Tryz.ntmps155
  go_wp2_with fail
  go_at_call 183
  refine(c1 _ (hr.alloc _)).mono ?_
  rintro e w1 ⟨a1,G1,rfl,t1,b1⟩
  have B0:=(ac.laid w [.int .i64 0,.int .i64 0,.int .i64 0,.slice none 0 0] 107 _ rfl).keep b1 (by simp)
  have bel:=aa ((Below.refl _ _).alloc (Nat.le_refl _) _) b1
  clear c1 b1
  have f0:=B0.free 0
  have f1:=B0.free 1
  have f2:=B0.free 2
  have f3:=B0.free 3
  have d0:w1.cell? ⟨w.heap.size,0,none⟩=some (.int .i64 0):=B0.cell 0
  have d1:w1.cell? ⟨w.heap.size,1,none⟩=some (.int .i64 0):=B0.cell 1
  have d2:w1.cell? ⟨w.heap.size,2,none⟩=some (.int .i64 0):=B0.cell 2
  have d3:w1.cell? ⟨w.heap.size,3,none⟩=some (.slice none 0 0):=B0.cell 3
  have js:=B0.lt
  go_wp2_with fail
  have B4:=B0.put4 (.int .i64 0) (.int .i64 0) (.int .i64 0) (.slice none 0 0)
  have aC:=ig bel (g:=w.heap.size) (Nat.le_refl _) (.int .i64 0) (.int .i64 0) (.int .i64 0) (.slice none 0 0)
  generalize World.setCell _ _ _=w5 at*
  have i0:w5.cell? ⟨w.heap.size,0,none⟩=some (.int .i64 0):=B4.cell 0
  have i1:w5.cell? ⟨w.heap.size,1,none⟩=some (.int .i64 0):=B4.cell 1
  have i2:w5.cell? ⟨w.heap.size,2,none⟩=some (.int .i64 0):=B4.cell 2
  have i3:w5.cell? ⟨w.heap.size,3,none⟩=some (.slice none 0 0):=B4.cell 3
  exact bodyPost_ret (v:=.tuple #[.agg #[.int .i64 0,.int .i64 0,.int .i64 0,.slice none 0 0],.int .i64 E]) (by simp[results,Tryz.results155,go_sem,i0,i1,i2,i3]) rfl ⟨rfl,aC⟩
theorem zX (ao:Option Addr)(cap:Nat)(l:List Pt)(w:World)(hr:aI w ao cap l):
  Calls Tryz.prog 155 #[.slice ao l.length cap] w fun e w'=>
   ∃a' G,e=.returned (.tuple #[ep (dx l) a' G,.int .i64 (fk l)])/\Sl w' a' G ((dx l).bits.map Value.bool)/\Below w.heap.size w w':=by
 by_cases h:fk l=0
 .have hc:aJ l=0/\0<l.length:=by
   unfold fk at h
   by_cases h0:aJ l=0
   .rw[if_pos h0] at h
    refine⟨h0,?_⟩
    by_cases h1:l.length=0
    .rw[if_pos h1] at h;cases h
    .omega
   .rw[if_neg h0] at h
    exact absurd h h0
  rw[qR hc.1 hc.2,h]
  exact L3 ao cap l w hr hc.1 hc.2
 .have e:dx l=vM:=if_neg h
  rw[e]
  refine(Me ao cap l w hr h).mono ?_
  rintro e w' ⟨rfl,b⟩
  exact⟨none,0,rfl,Sl.ofNil _,b⟩
end Go.Proofs.YtoonnbhoiocoeaaGreatDoor
namespace Go.Proofs.YtoonnbhoiocoeaaGreatDoor
open Go.RowKit
theorem Bg (b:Bk)(ao:Option Addr)(cap:Nat)(w:World)(hr:Sl w ao cap (b.bits.map Value.bool))(hl:b.bits.length<=140737488355328)(h:¬fO b.bits b.n=0):
  Calls Tryz.prog 112 #[ep b ao cap] w fun e w'=>e=.returned (.tuple #[.slice none 0 0,.int .i64 (fO b.bits b.n)])/\Below w.heap.size w w':=by
 have c1:=fun W h=>qb ao cap b.bits b.n W h hl
 obtain⟨N,fr,tv,X⟩:=b
 unfold ep
 simp only at*
 generalize dJ X N=U at*
 generalize fO X N=E at*
 clear hl
 go_enter Tryz.func112,Tryz.ntmps112
 go_wp2_with fail
 go_at_call 141
 refine(c1 _ (hr.alloc _)).mono ?_
 rintro e w1 ⟨a1,G1,rfl,s1,b1⟩
 have bel:=aa ((Below.refl _ _).alloc (Nat.le_refl _) _) b1
 clear c1 b1
 go_wp2_with fail
 go_ret2
 exact⟨rfl,bel⟩
theorem zH (b:Bk)(ao:Option Addr)(cap:Nat)(w:World)(hr:Sl w ao cap (b.bits.map Value.bool))(hl:b.bits.length<=140737488355328)(h:fO b.bits b.n=0)(h0:(dJ b.bits b.n).length=0):
  Calls Tryz.prog 112 #[ep b ao cap] w fun e w'=>e=.returned (.tuple #[.slice none 0 0,.int .i64 4])/\Below w.heap.size w w':=by
 have c1:=fun W h=>qb ao cap b.bits b.n W h hl
 obtain⟨N,fr,tv,X⟩:=b
 unfold ep
 simp only at*
 rw[h,h0] at c1
 generalize dJ X N=U at*
 clear hl h h0
 go_enter Tryz.func112,Tryz.ntmps112
 go_wp2_with fail
 go_at_call 141
 refine(c1 _ (hr.alloc _)).mono ?_
 rintro e w1 ⟨a1,G1,rfl,s1,b1⟩
 have bel:=aa ((Below.refl _ _).alloc (Nat.le_refl _) _) b1
 clear c1 b1
 go_wp2_with fail
 go_quiet (fail)
 go_wp2_with fail
 go_ret2
 exact⟨rfl,bj bel _⟩
theorem rv (b:Bk)(ao:Option Addr)(cap:Nat)(w:World)(hr:Sl w ao cap (b.bits.map Value.bool))(hl:b.bits.length<=140737488355328)(h:fO b.bits b.n=0)(h0:0<(dJ b.bits b.n).length):
  Calls Tryz.prog 112 #[ep b ao cap] w fun e w'=>∃a' G,e=.returned (.tuple #[if kc b (dJ b.bits b.n)=true then .slice a' (dJ b.bits b.n).length G else .slice none 0 0,.int .i64 (if kc b (dJ b.bits b.n)=true then 0 else 4)])/\aI w' a' G (dJ b.bits b.n)/\Below w.heap.size w w':=by
 have c1:=fun W h=>qb ao cap b.bits b.n W h hl
 have lT:=pr b.bits b.n
 obtain⟨N,fr,tv,X⟩:=b
 unfold ep kc
 simp only at*
 rw[h] at c1
 generalize dJ X N=U at*
 have s0:=fun W b off cap (h:aI W (some ⟨b,off,none⟩) cap U)=>h.first h0
 have s1:=fun W b off cap (h:aI W (some ⟨b,off,none⟩) cap U)=>h.last h0
 have aF:U≠[]:=by intro e;rw[e] at h0;simp at h0
 generalize firstT U=P at*
 generalize k6 U=Q at*
 obtain⟨n,hn⟩:∃n,n+1=U.length:=⟨U.length-1,by omega⟩
 rw[<-hn] at c1 s1 lT⊢
 simp only[Nat.add_sub_cancel] at s1
 clear hl h h0 hn
 have fin:decide (0<n+1/\fr=P/\tv=Q)=decide (fr=P/\tv=Q):=by simp
 rw[fin]
 clear fin
 have hz:((n:Int)+1==0)=false:=by simp;omega
 by_cases g1:fr=P
 .subst g1
  by_cases g2:tv=Q
  .subst g2
   rw[show decide (fr=fr/\tv=tv)=true by simp]
   simp only[if_true]
   go_enter Tryz.func112,Tryz.ntmps112
   go_wp2_with fail
   go_at_call 141
   refine(c1 _ (hr.alloc _)).mono ?_
   rintro e w1 ⟨a1,G1,rfl,t1,b1⟩
   have B0:=(ac.laid w [.int .i64 N,.int .i64 fr,.int .i64 tv,.slice ao X.length cap] 107 _ rfl).keep b1 (by simp)
   have bel:=aa ((Below.refl _ _).alloc (Nat.le_refl _) _) b1
   obtain⟨ub,uo,rfl,K9⟩:=t1.where aF
   have e0:=s0 _ _ _ _ t1
   have e1:=s1 _ _ _ _ t1
   have d1:w1.cell? ⟨w.heap.size,1,none⟩=some (.int .i64 fr):=B0.cell 1
   have d2:w1.cell? ⟨w.heap.size,2,none⟩=some (.int .i64 tv):=B0.cell 2
   have js:=B0.lt
   clear c1 b1 s0 s1
   go_wp2_with fail
   go_region
   go_wp2_with fail
   go_ret2
   exact⟨_,_,rfl,t1.drewS,ai bel⟩
  .rw[show decide (fr=fr/\tv=Q)=false by simp[g2]]
   simp only[Bool.false_eq_true,if_false]
   go_enter Tryz.func112,Tryz.ntmps112
   go_wp2_with fail
   go_at_call 141
   refine(c1 _ (hr.alloc _)).mono ?_
   rintro e w1 ⟨a1,G1,rfl,t1,b1⟩
   have B0:=(ac.laid w [.int .i64 N,.int .i64 fr,.int .i64 tv,.slice ao X.length cap] 107 _ rfl).keep b1 (by simp)
   have bel:=aa ((Below.refl _ _).alloc (Nat.le_refl _) _) b1
   obtain⟨ub,uo,rfl,K9⟩:=t1.where aF
   have e0:=s0 _ _ _ _ t1
   have e1:=s1 _ _ _ _ t1
   have d1:w1.cell? ⟨w.heap.size,1,none⟩=some (.int .i64 fr):=B0.cell 1
   have d2:w1.cell? ⟨w.heap.size,2,none⟩=some (.int .i64 tv):=B0.cell 2
   have js:=B0.lt
   clear c1 b1 s0 s1
   go_wp2_with fail
   go_region
   go_wp2_with fail
   go_ret2
   exact⟨_,_,rfl,t1.drewS,ai bel⟩
 .rw[show decide (fr=P/\tv=Q)=false by simp[g1]]
  simp only[Bool.false_eq_true,if_false]
  go_enter Tryz.func112,Tryz.ntmps112
  go_wp2_with fail
  go_at_call 141
  refine(c1 _ (hr.alloc _)).mono ?_
  rintro e w1 ⟨a1,G1,rfl,t1,b1⟩
  have B0:=(ac.laid w [.int .i64 N,.int .i64 fr,.int .i64 tv,.slice ao X.length cap] 107 _ rfl).keep b1 (by simp)
  have bel:=aa ((Below.refl _ _).alloc (Nat.le_refl _) _) b1
  obtain⟨ub,uo,rfl,K9⟩:=t1.where aF
  have e0:=s0 _ _ _ _ t1
  have e1:=s1 _ _ _ _ t1
  have d1:w1.cell? ⟨w.heap.size,1,none⟩=some (.int .i64 fr):=B0.cell 1
  have d2:w1.cell? ⟨w.heap.size,2,none⟩=some (.int .i64 tv):=B0.cell 2
  have js:=B0.lt
  clear c1 b1 s0 s1
  go_wp2_with fail
  go_quiet (fail)
  go_wp2_with fail
  go_ret2
  exact⟨_,_,rfl,t1.drewN _,bj bel _⟩
theorem iZ (b:Bk)(ao:Option Addr)(cap:Nat)(w:World)(hr:Sl w ao cap (b.bits.map Value.bool))(hl:b.bits.length<=140737488355328):
  Calls Tryz.prog 112 #[ep b ao cap] w fun e w'=>∃a' G,e=.returned (.tuple #[.slice a' (aX b).length G,.int .i64 (bI b)])/\aI w' a' G (aX b)/\Below w.heap.size w w':=by
 by_cases h:fO b.bits b.n=0
 .by_cases h0:(dJ b.bits b.n).length=0
  .have hf:kc b (dJ b.bits b.n)=false:=decide_eq_false (by omega)
   have he:bI b=4:=by unfold bI;rw[if_pos h,hf];rfl
   have hL:aX b=[]:=by unfold aX;rw[he];rfl
   rw[he,hL]
   refine(zH b ao cap w hr hl h h0).mono ?_
   rintro e w' ⟨rfl,hb⟩
   exact⟨none,0,rfl,aI.ofNil _,hb⟩
  .cases hf:kc b (dJ b.bits b.n) with
   |true=>
    have he:bI b=0:=by unfold bI;rw[if_pos h,hf];rfl
    have hL:aX b=dJ b.bits b.n:=by unfold aX;rw[he];rfl
    rw[he,hL]
    refine(rv b ao cap w hr hl h (by omega)).mono ?_
    rw[hf]
    rintro e w' ⟨a',G,rfl,hs,hb⟩
    exact⟨a',G,rfl,hs,hb⟩
   |false=>
    have he:bI b=4:=by unfold bI;rw[if_pos h,hf];rfl
    have hL:aX b=[]:=by unfold aX;rw[he];rfl
    rw[he,hL]
    refine(rv b ao cap w hr hl h (by omega)).mono ?_
    rw[hf]
    rintro e w' ⟨a',G,rfl,hs,hb⟩
    exact⟨none,0,rfl,aI.ofNil _,hb⟩
 .have he:bI b=fO b.bits b.n:=if_neg h
  have hL:aX b=[]:=by unfold aX;rw[he,if_neg h]
  rw[he,hL]
  refine(Bg b ao cap w hr hl h).mono ?_
  rintro e w' ⟨rfl,hb⟩
  exact⟨none,0,rfl,aI.ofNil _,hb⟩
end Go.Proofs.YtoonnbhoiocoeaaGreatDoor
namespace Go.Proofs.YtoonnbhoiocoeaaGreatDoor
open Go.RowKit
theorem wL {w:World}{base base':Nat}{e:TypeId}{size n:Nat}{v:Value}{xs:List Value}(h:w.ownsRow base e size v n xs)(hb:base'<=base):w.ownsRow base' e size v n xs:=by
 refine⟨h.1,?_⟩
 rcases h.2 with h0| ⟨g,cap,cur,q1,q2,q3⟩
 .exact .inl h0
 .exact .inr ⟨g,cap,cur,q1,by omega,q3⟩
def pK (r:Rw):List Pt:=if bV r.blocks=0 then be r else []
theorem ua (r:Lr)(w:World)(hg:r.Good w)(h:r.bs.length<=8):
  Calls Tryz.prog 81 #[r.v] w fun e w'=>∃a' G,e=.returned (.tuple #[.slice a' (pK r.rw).length G,.int .i64 (bV r.rw.blocks)])/\w'.ownsRow w.heap.size 56 2 (.slice a' (pK r.rw).length G) (pK r.rw).length (am (pK r.rw))/\Below w.heap.size w w':=by
 obtain⟨L,hL⟩:∃L,L=pK r.rw:=⟨_,rfl⟩
 obtain⟨E,hE⟩:∃E,E=bV r.rw.blocks:=⟨_,rfl⟩
 rw[<-hL,<-hE]
 have kX:E=bV (r.bs.map Lb.b):=hE
 have MC:L=if E=0 then dm (r.bs.map Lb.b)++r.hd else []:=by rw[hL];unfold pK;rw[<-hE];rfl
 clear hL hE
 obtain⟨bs,ba,bc,hd,ha,hc⟩:=r
 obtain⟨sb,sh,-,hfew⟩:=hg
 unfold Lr.v
 simp only at*
 obtain⟨n,hn⟩:∃n,n=bs.length:=⟨_,rfl⟩
 obtain⟨m,hm⟩:∃m,m=hd.length:=⟨_,rfl⟩
 rw[<-hn] at h⊢
 rw[<-hm] at hfew⊢
 have h':(n:Int)<=8:=by omega
 replace hn:=hide hn
 replace hm:=hide hm
 have H0:Hid (E=bV ((bs.drop 0).map Lb.b)):=by rw[List.drop_zero];exact kX
 have H1:Hid (L=if E=0 then([]++dm ((bs.drop 0).map Lb.b))++hd else []):=by rw[List.drop_zero,List.nil_append];exact MC
 clear kX MC
 obtain⟨i0,hi,bU,bi,bk⟩:=info_parts jy
 go_enter Tryz.func81,Tryz.ntmps81
 go_wp2_with fail
 have B0:=ac.laid w [.slice ba n bc,.slice ha m hc] 53 _ rfl
 have de:Below w.heap.size w (w.alloc (.cells #[.slice ba n bc,.slice ha m hc] 53)):=(Below.refl _ _).alloc (Nat.le_refl _) _
 generalize w.alloc _=w1 at*
 go_loopw [12,4] (fun i o wr=>∃(k G:Nat) (a':Option Addr) (O:List Pt),k<=n/\i=.int .i64 k/\o=.slice a' O.length G/\O.length<=40*k/\wr.ownsRow (w.heap.size+1) 56 2 (.slice a' O.length G) O.length (am O)/\
   Hid (E=bV ((bs.drop k).map Lb.b))/\Hid (L=if E=0 then(O++dm ((bs.drop k).map Lb.b))++hd else [])/\
   ac wr w.heap.size [.slice ba n bc,.slice ha m hc] 53/\Below w.heap.size w wr) (fun i _ _=>n-(intOf i).toNat)
 case atStart=>exact⟨0,0,none,[],by omega,rfl,rfl,by simp,World.ownsRow_nil _ _ _ _,H0,H1,B0,de⟩
 case round=>
  clear H0 H1 B0 de
  obtain⟨k,G,a',O,hk,rfl,rfl,hO,own,H0,H1,B,bel⟩:=hrel
  by_cases az:k<n
  .have hs:=sb.keep bel (Nat.le_refl _)
   obtain⟨b,off,rfl,pL⟩:=hs.where (by intro e;rw[hn.out,e] at az;simp at az)
   obtain⟨x,hx⟩:∃x,bs[k]? =some x:=⟨_,List.getElem?_eq_getElem (by rw[<-hn.out];exact az)⟩
   obtain⟨e0,e1,e2,e3,gx⟩:=hs.at k x hx
   have hd:bs.drop k=x::bs.drop (k+1):=by
    obtain⟨fK,rfl⟩:=List.getElem?_eq_some_iff.1 hx
    exact List.drop_eq_getElem_cons fK
   have aP:=H0.out
   have eY:=H1.out
   rw[hd,List.map_cons] at aP eY
   clear H0 H1 hd hx
   obtain⟨⟨xn,xf,xT,X⟩,xa,xc⟩:=x
   obtain⟨gb,gf⟩:=gx
   simp only at*
   have c1:=fun W h=>iZ ⟨xn,xf,xT,X⟩ xa xc W h gf
   have pl:=iY ⟨xn,xf,xT,X⟩
   by_cases hp:bI ⟨xn,xf,xT,X⟩=0
   .have pp:=iS hp
    rw[bV,if_pos hp] at aP
    rw[show dm (⟨xn,xf,xT,X⟩::(bs.drop (k+1)).map Lb.b)=aX ⟨xn,xf,xT,X⟩++dm ((bs.drop (k+1)).map Lb.b) from rfl,<-List.append_assoc] at eY
    rw[hp] at c1
    generalize aX ⟨xn,xf,xT,X⟩=P at*
    replace aP:=hide aP
    replace eY:=hide eY
    have AX:=aK P
    have RA:=fW P
    have RQ:P≠[]:=by intro e;rw[e] at pp;simp at pp
    have rQ:(O++P).length=O.length+P.length:=List.length_append
    have mG:=cq O P
    obtain⟨on,qg⟩:∃on,on=O.length:=⟨_,rfl⟩
    obtain⟨pn,Bl⟩:∃pn,pn=P.length:=⟨_,rfl⟩
    rw[<-qg] at own hO rQ
    rw[<-Bl] at c1 pp pl AX rQ
    replace AX:=hide AX
    replace rQ:=hide rQ
    replace mG:=hide mG
    replace qg:=hide qg
    clear Bl hp
    rw[<-qg.out]
    unfold ep at c1
    simp only at c1
    go_wp2_with fail
    go_at_call 112
    refine(c1 _ (gb.alloc _)).mono ?_
    rintro e w2 ⟨a2,G2,rfl,s2,b2⟩
    have eM:=dt (own.alloc _) b2
    have B2:=(B.alc _).keep b2 (B.alc _).lt
    have al:=aa (av bel _) b2
    have dz:w.heap.size+1<=w2.heap.size:=B2.lt
    obtain⟨yb,yo,rfl,Ob⟩:=s2.where RQ
    have tX:∀j u,(am P)[j]? =some u->w2.cell? ((⟨yb,yo,none⟩:Addr).add j)=some u:=by
     intro j u hu
     obtain⟨b',k8,e,_,hc⟩:=s2.row.at (by intro e;rw[e] at hu;simp at hu)
     simp only[Option.some.injEq,Addr.mk.injEq,and_true] at e
     obtain⟨rfl,rfl⟩:=e
     rw[Addr.add_lit]
     exact hc j u hu
    clear c1 b2 own B bel s2 e0 e1 e2 e3
    go_wp2_with (at_builtin;refine dX _ rfl (.tmp 24) (.tmp 25) 42 rfl (w.heap.size+1) 56 i0 (.agg #[.int .i64 0,.int .i64 0]) 2 16 Tryz.underlying42 hi bU bi bk rfl (by decide) _ on _ rfl eM ⟨yb,yo,none⟩ pn _ (am P) rfl AX.out tX RA pp (by unfold maxLen;omega) (by omega) dz ?_)
    intro v3 w3 eN ji _
    have ay:=aH al eM ji (Nat.le_succ _) al.size
    have B3:=B2.grown ji (fun j hj=>by have:=(eM.lt j hj).1;omega)
    rw[<-mG.out] at eN
    obtain⟨a3,G3,rfl,_,_,_⟩:=aI.ofOwn eN
    go_wp2_with fail
    go_roundw
    case rel=>exact⟨k+1,G3,a3,O++P,by omega,by go_num,by rw[rQ.out],by rw[rQ.out];omega,by rw[rQ.out];exact eN,aP,eY,B3,ay⟩
    case measure=>simp[intOf];omega
   .have Cp:E=bI ⟨xn,xf,xT,X⟩:=by rw[aP,bV,if_neg hp]
    have BV:L=[]:=by rw[eY,Cp,if_neg hp]
    clear aP eY
    generalize bI ⟨xn,xf,xT,X⟩=F at*
    generalize aX ⟨xn,xf,xT,X⟩=P at*
    replace Cp:=hide Cp
    replace BV:=hide BV
    clear pl
    unfold ep at c1
    simp only at c1
    go_wp2_with fail
    go_at_call 112
    refine(c1 _ (gb.alloc _)).mono ?_
    rintro e w2 ⟨a2,G2,rfl,s2,b2⟩
    have al:=aa (av bel _) b2
    go_wp2_with fail
    go_ret2
    exact⟨none,0,by rw[Cp.out,BV.out];rfl,by rw[BV.out];exact World.ownsRow_nil _ _ _ _,al⟩
  .obtain rfl:k=n:=by omega
   have aP:=H0.out
   have eY:=H1.out
   rw[hn.out,List.drop_length] at aP eY
   simp only[List.map_nil,bV,dm,List.flatMap_nil,List.append_nil] at aP eY
   rw[aP,if_pos rfl] at eY
   clear H0 H1
   have e1:w.heap.size<wr.heap.size:=B.lt
   have d1:wr.cell? ⟨w.heap.size,1,none⟩=some (.slice ha m hc):=B.cell 1
   have Ik:=sh.keep bel (Nat.le_refl _)
   have mG:=cq O hd
   have Ci:=aK hd
   have gI:=fW hd
   rw[<-hm.out] at Ci
   obtain⟨on,qg⟩:∃on,on=O.length:=⟨_,rfl⟩
   rw[<-qg] at own hO⊢
   have aw:L.length=on+m:=by rw[eY,List.length_append,<-qg,<-hm.out]
   replace aw:=hide aw
   replace mG:=hide mG
   replace Ci:=hide Ci
   replace aP:=hide aP
   replace eY:=hide eY
   clear qg
   cases ha with
   |none=>
    have h1:=Ik.nil rfl
    have h2:=Ik.le
    have h3:hd=[]:=List.eq_nil_of_length_eq_zero (by omega)
    obtain rfl:m=0:=by rw[hm.out,h3];rfl
    subst h1
    have Izo:wr.ownsRow (w.heap.size+1) 56 2 (.slice a' on G) on (am L):=by rw[eY.out,h3,List.append_nil];exact own
    replace h3:=hide h3
    clear h2
    go_wp2_with (at_builtin;refine wpList_append_own_none rfl (.tmp 28) (.tmp 30) 42 rfl (w.heap.size+1) 56 i0 2 Tryz.underlying42 hi _ on _ rfl own rfl ?_)
    go_wp2_with fail
    go_ret2
    exact⟨a',G,by rw[aw.out,aP.out];rfl,by rw[aw.out];exact wL Izo (Nat.le_succ _),bel⟩
   |some ad=>
    have tX:∀j u,(am hd)[j]? =some u->wr.cell? (ad.add j)=some u:=by
     intro j u hu
     obtain⟨b',k8,e,_,hc⟩:=Ik.row.at (by intro e;rw[e] at hu;simp at hu)
     obtain rfl:=Option.some.inj e
     rw[Addr.add_lit]
     exact hc j u hu
    go_wp2_with (at_builtin;refine wpList_append_own_wide _ rfl (.tmp 28) (.tmp 30) 42 rfl (w.heap.size+1) 56 i0 (.agg #[.int .i64 0,.int .i64 0]) 2 16 Tryz.underlying42 hi bU bi bk rfl (by decide) _ on _ rfl own ad m _ (am hd) rfl Ci.out tX gI (by unfold maxLen;omega) (by omega) e1 ?_)
    intro v3 w3 eN ji _
    have ay:=aH bel own ji (Nat.le_succ _) bel.size
    rw[<-mG.out,<-eY.out] at eN
    obtain⟨a3,G3,rfl,_,_,_⟩:=aI.ofOwn eN
    clear ji own
    go_wp2_with fail
    go_ret2
    exact⟨a3,G3,by rw[aw.out,aP.out];rfl,by rw[aw.out];exact wL eN (Nat.le_succ _),ay⟩
end Go.Proofs.YtoonnbhoiocoeaaGreatDoor
namespace Go.Proofs.YtoonnbhoiocoeaaGreatDoor
open Go.RowKit
theorem jm (x:Int)(w:World):
  Calls Tryz.prog 80 #[.int .i64 x] w fun e w'=>e=.returned (.bool (dw x 0 3))/\w'=w:=by
 by_cases h0:0<=x
 .by_cases h1:x<4
  .rw[show dw x 0 3=true by unfold dw;simp;omega]
   go_enter Tryz.func80,Tryz.ntmps80
   go_wp2_with fail
   go_ret
   exact⟨rfl,rfl⟩
  .rw[show dw x 0 3=false by unfold dw;simp;omega]
   go_enter Tryz.func80,Tryz.ntmps80
   go_wp2_with fail
   go_ret
   exact⟨rfl,rfl⟩
 .rw[show dw x 0 3=false by unfold dw;simp;omega]
  go_enter Tryz.func80,Tryz.ntmps80
  go_wp2_with fail
  go_ret
  exact⟨rfl,rfl⟩
def yW (r:Rw):Int:=if bV r.blocks=0 then aJ (be r) else bV r.blocks
theorem ox (r:Lr)(w:World)(hg:r.Good w)(h:r.bs.length<=8):
  Calls Tryz.prog 140 #[r.v] w fun e w'=>e=.returned (.int .i64 (yW r.rw))/\Below w.heap.size w w':=by
 have c1:=fun W k=>ua r W k h
 have c2:=fun a c W k=>mN a c (pK r.rw) W k
 have g1:=fun o=>hg.alloc o
 unfold Lr.v at*
 have hz:bV r.rw.blocks=0->yW r.rw=aJ (pK r.rw):=fun e=>by unfold yW pK;rw[if_pos e,if_pos e]
 have hn:bV r.rw.blocks≠0->yW r.rw=bV r.rw.blocks:=fun e=>by unfold yW;rw[if_neg e]
 generalize yW r.rw=F at*
 generalize bV r.rw.blocks=E at*
 generalize pK r.rw=L at*
 obtain⟨bs,ba,bc,hd,ha,hc⟩:=r
 simp only at*
 generalize bs.length=n1 at*
 generalize hd.length=n2 at*
 clear hg h
 by_cases hE:E=0
 .have vE:=hide (hz hE)
  subst hE
  clear hz hn
  go_enter Tryz.func140,Tryz.ntmps140
  go_wp2_with fail
  go_at_call 81
  refine(c1 _ (g1 _)).mono ?_
  rintro e w2 ⟨a2,G2,rfl,eM,b2⟩
  have al:=aa (av (Below.refl _ w) _) b2
  obtain⟨a3,G3,e3,s3,_,_⟩:=aI.ofOwn eM
  simp only[Value.slice.injEq,true_and] at e3
  obtain⟨rfl,rfl⟩:=e3
  go_wp2_with fail
  go_at_call 175
  refine(c2 _ _ _ s3).mono ?_
  rintro e w4 ⟨rfl,b4⟩
  have aC:=aa al b4
  go_wp2_with fail
  go_ret
  exact⟨by rw[vE.out];rfl,aC⟩
 .have Ox:=hide (hn hE)
  clear hz hn
  go_enter Tryz.func140,Tryz.ntmps140
  go_wp2_with fail
  go_at_call 81
  refine(c1 _ (g1 _)).mono ?_
  rintro e w2 ⟨a2,G2,rfl,eM,b2⟩
  have al:=aa (av (Below.refl _ w) _) b2
  go_wp2_with fail
  go_ret
  exact⟨by rw[Ox.out];rfl,al⟩
theorem zK (r:Lr)(w:World)(hg:r.Good w):
  Calls Tryz.prog 111 #[r.v] w fun e w'=>e=.returned (.int .i64 (dV r.rw))/\Below w.heap.size w w':=by
 by_cases h:r.bs.length<=8
 .have hE:dV r.rw=yW r.rw:=by unfold dV yW;rw[if_neg (by unfold Lr.rw;simp only[List.length_map];omega)]
  have c1:=fun W k=>ox r W k h
  rw[<-hE] at c1
  have g1:=fun o=>hg.alloc o
  generalize dV r.rw=F at*
  clear hE
  unfold Lr.v at*
  obtain⟨bs,ba,bc,hd,ha,hc⟩:=r
  simp only at*
  generalize bs.length=n1 at*
  generalize hd.length=n2 at*
  have h':¬(8:Int)<n1:=by omega
  clear hg
  go_enter Tryz.func111,Tryz.ntmps111
  go_wp2_with fail
  go_at_call 140
  refine(c1 _ (g1 _)).mono ?_
  rintro e w2 ⟨rfl,b2⟩
  have al:=aa (av (Below.refl _ w) _) b2
  go_wp2_with fail
  go_ret
  exact⟨rfl,al⟩
 .have hE:dV r.rw=2:=by unfold dV;rw[if_pos (by unfold Lr.rw;simp only[List.length_map];omega)]
  have hf:=hg.few
  rw[hE]
  unfold Lr.v
  obtain⟨bs,ba,bc,hd,ha,hc⟩:=r
  simp only at*
  generalize bs.length=n1 at*
  generalize hd.length=n2 at*
  have h':(8:Int)<n1:=by omega
  clear hg hE
  go_enter Tryz.func111,Tryz.ntmps111
  go_wp2_with fail
  go_ret
  exact⟨rfl,(Below.refl _ _).alloc (Nat.le_refl _) _⟩
theorem Ih (n:Nat)(ao:Option Addr)(cap:Nat)(w:World)(h:n≠4):
  Calls Tryz.prog 79 #[.agg #[.slice ao n cap]] w fun e w'=>e=.returned (.int .i64 4)/\Below w.heap.size w w':=by
 have h':¬(n:Int)=4:=by omega
 go_enter Tryz.func79,Tryz.ntmps79
 go_wp2_with fail
 go_ret
 exact⟨rfl,(Below.refl _ _).alloc (Nat.le_refl _) _⟩
theorem CR (l:List Lr)(ao:Option Addr)(cap:Nat)(w:World)(hs:bJ w ao cap l)(h4:l.length=4):
  Calls Tryz.prog 79 #[.agg #[.slice ao 4 cap]] w fun e w'=>e=.returned (.int .i64 (lv (l.map Lr.rw)))/\Below w.heap.size w w':=by
 obtain⟨E,hE⟩:∃E,E=lv (l.map Lr.rw):=⟨_,rfl⟩
 rw[<-hE]
 have H0:Hid (E=lv ((l.drop 0).map Lr.rw)):=by rw[List.drop_zero];exact hE
 clear hE
 obtain⟨b,off,rfl,pL⟩:=hs.where (by intro e;rw[e] at h4;simp at h4)
 replace h4:=hide h4
 go_enter Tryz.func79,Tryz.ntmps79
 go_wp2_with fail
 have B0:=ac.laid w [.slice (some ⟨b,off,none⟩) 4 cap] 24 _ rfl
 have de:Below w.heap.size w (w.alloc (.cells #[.slice (some ⟨b,off,none⟩) 4 cap] 24)):=(Below.refl _ _).alloc (Nat.le_refl _) _
 generalize w.alloc _=w1 at*
 go_loopw [13] (fun i wr=>∃(k:Nat),k<=4/\i=.int .i64 k/\Hid (E=lv ((l.drop k).map Lr.rw))/\Below w.heap.size w wr) (fun i _=>4-(intOf i).toNat)
 case atStart=>exact⟨0,by omega,rfl,H0,de⟩
 case round=>
  clear H0 B0 de
  obtain⟨k,hk,rfl,H0,bel⟩:=hrel
  by_cases az:k<4
  .have dZ:=hs.keep bel (Nat.le_refl _)
   obtain⟨r,hr⟩:∃r,l[k]? =some r:=⟨_,List.getElem?_eq_getElem (by rw[h4.out];exact az)⟩
   obtain⟨e0,e1,gr⟩:=dZ.at k r hr
   have hd:l.drop k=r::l.drop (k+1):=by
    obtain⟨fK,rfl⟩:=List.getElem?_eq_some_iff.1 hr
    exact List.drop_eq_getElem_cons fK
   have aP:=H0.out
   rw[hd,List.map_cons,lv] at aP
   have c1:=fun W h=>zK r W h
   unfold Lr.v at c1
   clear H0 hd hr dZ
   by_cases hE:dV r.rw=0
   .rw[if_pos hE] at aP
    rw[hE] at c1
    replace aP:=hide aP
    clear hE
    go_wp2_with fail
    go_at_call 111
    refine(c1 _ (gr.alloc _)).mono ?_
    rintro e w2 ⟨rfl,b2⟩
    have al:=aa (av bel _) b2
    go_wp2_with fail
    go_roundw
    case rel=>exact⟨k+1,by omega,by go_num,aP,al⟩
    case measure=>simp[intOf];omega
   .rw[if_neg hE] at aP
    generalize dV r.rw=F at*
    replace aP:=hide aP
    go_wp2_with fail
    go_at_call 111
    refine(c1 _ (gr.alloc _)).mono ?_
    rintro e w2 ⟨rfl,b2⟩
    have al:=aa (av bel _) b2
    go_wp2_with fail
    go_ret
    exact⟨by rw[aP.out];rfl,al⟩
  .obtain rfl:k=4:=by omega
   have aP:=H0.out
   rw[List.drop_eq_nil_of_le (by rw[h4.out];exact Nat.le_refl _)] at aP
   replace aP:=hide aP
   clear H0
   go_wp2_with fail
   go_ret
   exact⟨by rw[aP.out];rfl,bel⟩
theorem kF (l:List Lr)(ao:Option Addr)(cap:Nat)(w:World)(hs:bJ w ao cap l):
  Calls Tryz.prog 79 #[.agg #[.slice ao l.length cap]] w fun e w'=>e=.returned (.int .i64 (aE (l.map Lr.rw)))/\Below w.heap.size w w':=by
 unfold aE
 rw[List.length_map]
 by_cases h:l.length=4
 .rw[if_pos h,h]
  exact CR l ao cap w hs h
 .rw[if_neg h]
  exact Ih l.length ao cap w h
end Go.Proofs.YtoonnbhoiocoeaaGreatDoor
namespace Go.Proofs.YtoonnbhoiocoeaaGreatDoor
open Go.RowKit
def N2:Lr:=⟨[],none,0,[],none,0⟩
theorem At (w:World):N2.Good w:=⟨pj.ofNil w,aI.ofNil w,by decide,by decide⟩
def oK:List Lr:=[N2,N2,N2,N2]
end Go.Proofs.YtoonnbhoiocoeaaGreatDoor
