/-
  slices.Clone at points, of a slice that has some: a slice of the call's own with the same points.
-/
import Derived.Deep.DeepAppendWide
import Derived.Laws.AppendOwnNone
import Derived.Test.YtoonnbhoiocoeaaGreatDoorQ11
set_option maxHeartbeats 40000000
set_option maxRecDepth 100000
set_option linter.unusedVariables false
namespace Go.Proofs.YtoonnbhoiocoeaaGreatDoor
open Go.RowKit
theorem M5 (b off cap:Nat)(l:List Pt)(w:World)(hr:aV w (some ⟨b,off,none⟩) cap l)(sg:0<l.length)(hl:l.length<=1000000000000):
  Calls Tryz.prog 130 #[.slice (some ⟨b,off,none⟩) l.length cap] w fun e w'=>
   ∃v',e=.returned v'/\w'.ownsRow w.heap.size 56 2 v' l.length (ar l)/\Below w.heap.size w w':=by
 obtain⟨i0,hi,bK,bm,bQ⟩:=info_parts kL
 have q:∀(w:World) (a:Option Addr) (n c n' c':Nat),(binOp .eql 42 (.slice a n c) (.slice none n' c')).run Tryz.prog w=.ok (.bool a.isNone) w:=fun w a n c n' c'=>Lib.run_eql_slice_nil w _ _ a n c n' c' Tryz.underlying42
 have fh:(w.alloc (.cells #[] 56)).ownsRow w.heap.size 56 2 (.slice (some ⟨w.heap.size,0,none⟩) 0 0) 0 []:=
  ⟨rfl,.inr ⟨w.heap.size,0,#[],rfl,Nat.le_refl _,heap_alloc_new w _,Nat.le_refl _,by decide,rfl,rfl⟩⟩
 have fO:=(Below.refl w.heap.size w).alloc (Nat.le_refl _) (Obj.cells #[] 56)
 have hs:=hr.alloc (.cells #[] 56)
 have eS:∀j u,(ar l)[j]? =some u->(w.alloc (.cells #[] 56)).cell? ((⟨b,off,none⟩:Addr).add j)=some u:=by
  intro j u hu
  obtain⟨b',lB,e,_,hc⟩:=hs.row.at (by intro e;rw[e] at hu;simp at hu)
  simp only[Option.some.injEq,Addr.mk.injEq,and_true] at e
  obtain⟨rfl,rfl⟩:=e
  rw[Addr.add_lit]
  exact hc j u hu
 have one:=fU l
 have hlen:=aI l
 have bA:w.heap.size<=(w.alloc (.cells #[] 56)).heap.size:=by simp
 generalize ar l=C at*
 generalize l.length=n at*
 replace hlen:=aa hlen
 clear hr hs
 go_enter Tryz.func130,Tryz.ntmps130
 go_wp2_with (at_builtin;refine ed _ rfl (.tmp 5) (.tmp 6) 42 rfl w.heap.size 56 i0 (.agg #[.int .i64 0,.int .i64 0]) 2 16 Tryz.underlying42 hi bK bm bQ rfl (by decide) _ 0 _ rfl fh ⟨b,off,none⟩ n cap C rfl hlen.out eS one sg (by unfold maxLen;omega) (by omega) bA ?_)
 intro v' w1 ez cz DO
 have aY:=aG fO fh cz (Nat.le_refl _) bA
 obtain⟨a1,c1,rfl⟩:∃a1 c1,v'=.slice a1 n c1:=by
  rcases ez.2 with⟨rfl,rfl⟩| ⟨g,cp,cur,rfl,_⟩
  .exact⟨_,_,rfl⟩
  exact⟨_,_,rfl⟩
 go_wp2_with fail
 go_ret
 exact⟨_,rfl,ez,aY⟩
def np (f t:Int)(p:Pt):Bool:= !Ue f t p
def pc (p:Pt):List Value:=[.int .i64 p.1,.int .i64 p.2]
theorem ge (p:Pt):(pc p).length=2:=rfl
theorem kf:∀l:List Pt,ar l=l.flatMap pc
 | []=>rfl
 |p::r=>by rw[ar,kf r];rfl
theorem AX (p:Pt)(f t:Int)(cf ct:Nat)(w:World)(Bf:ag w cf [.int .i64 f] 3)(Bt:ag w ct [.int .i64 t] 3):
  Calls Tryz.prog 91 #[.agg #[.int .i64 p.1,.int .i64 p.2],.pointer (some ⟨cf,0,none⟩),.pointer (some ⟨ct,0,none⟩)] w fun e w'=>e=.returned (.bool (np f t p))/\Below w.heap.size w w':=by
 have d0:w.cell? ⟨cf,0,none⟩=some (.int .i64 f):=Bf.cell 0
 have d1:w.cell? ⟨ct,0,none⟩=some (.int .i64 t):=Bt.cell 0
 have l0:=Bf.lt
 have l1:=Bt.lt
 obtain⟨x,y⟩:=p
 unfold np Ue
 simp only
 by_cases h1:x<f
 .rw[show(!decide (f<=x/\x<t))=true by simp;omega]
  go_enter Tryz.func91,Tryz.ntmps91
  go_wp2_with fail
  go_ret
  exact⟨rfl,(Below.refl _ _).alloc (Nat.le_refl _) _⟩
 by_cases h2:t<=x
 .rw[show(!decide (f<=x/\x<t))=true by simp;omega]
  go_enter Tryz.func91,Tryz.ntmps91
  go_wp2_with fail
  go_ret
  exact⟨rfl,(Below.refl _ _).alloc (Nat.le_refl _) _⟩
 rw[show(!decide (f<=x/\x<t))=false by simp;omega]
 go_enter Tryz.func91,Tryz.ntmps91
 go_wp2_with fail
 go_ret
 exact⟨rfl,(Below.refl _ _).alloc (Nat.le_refl _) _⟩
theorem JK (l:List Pt)(ao:Option Addr)(cap n:Nat)(f t:Int)(cf ct:Nat)(w:World)(S:aV w ao cap l)(Bf:ag w cf [.int .i64 f] 3)(Bt:ag w ct [.int .i64 t] 3)(hn:l.length=n)(few:n<=40):
  Calls Tryz.prog 124 #[.slice ao n cap,.func (.func 91) #[] #[.pointer (some ⟨cf,0,none⟩),.pointer (some ⟨ct,0,none⟩)]] w fun e w'=>
   Below w.heap.size w w'/\((e=.returned (.int .i64 (-1))/\∀x∈l,np f t x=false)\/∃k x,e=.returned (.int .i64 (k:Nat))/\l[k]? =some x/\np f t x=true/\∀y∈l.take k,np f t y=false):=by
 replace hn:=aa hn
 have b0:=Below.refl w.heap.size w
 go_enter Tryz.func124,Tryz.ntmps124
 go_wp2_with fail
 go_loopw [8] (fun i wr=>∃(k:Nat),k<=n/\i=.int .i64 k/\Hid (∀y∈l.take k,np f t y=false)/\Below w.heap.size w wr) (fun i _=>n-(intOf i).toNat)
 case atStart=>exact⟨0,by omega,rfl,aa (fun y hy=>by simp at hy),b0⟩
 case round=>
  clear b0
  obtain⟨k,hk,rfl,H,bel⟩:=hrel
  by_cases aE:k<n
  .have S1:=S.keep bel (Nat.le_refl _)
   have dy:k<l.length:=by rw[hn.out];exact aE
   obtain⟨b,off,rfl,ld⟩:=S1.where (by intro e;rw[e] at dy;simp at dy)
   obtain⟨x,y,e0,e1,hx,_⟩:=S1.pt k dy
   have Mu:=Bf.keep bel Bf.lt
   have On:=Bt.keep bel Bt.lt
   have c:=fun W h0 h1=>AX (x,y) f t cf ct W h0 h1
   have Xa:k<40:=by omega
   replace hx:=aa hx
   clear S1 dy
   cases hp:np f t ((x,y):Pt) with
   |true=>
    rw[hp] at c
    replace hp:=aa hp
    go_wp2_with fail
    go_at_call 91
    refine(c _ (Mu) (On)).mono ?_
    rintro e w2 ⟨rfl,b2⟩
    have am:=ac bel b2
    go_wp2_with fail
    go_ret
    exact⟨am,.inr ⟨k,(x,y),rfl,hx.out,hp.out,H.out⟩⟩
   |false=>
    rw[hp] at c
    have H2:∀z∈l.take (k+1),np f t z=false:=by
     intro z hz
     rw[List.take_add_one,hx.out] at hz
     rcases List.mem_append.1 hz with hz|hz
     .exact H.out z hz
     simp at hz
     rw[hz]
     exact hp
    replace H2:=aa H2
    clear hp
    go_wp2_with fail
    go_at_call 91
    refine(c _ (Mu) (On)).mono ?_
    rintro e w2 ⟨rfl,b2⟩
    have am:=ac bel b2
    go_wp2_with fail
    go_roundw
    case rel=>exact⟨k+1,by omega,by go_num,H2,am⟩
    case measure=>simp[intOf];omega
  obtain rfl:k=n:=by omega
  have H':=H.out
  rw[List.take_of_length_le (by rw[hn.out];exact Nat.le_refl _)] at H'
  replace H':=aa H'
  go_wp2_with fail
  go_ret
  exact⟨bel,.inl ⟨rfl,H'.out⟩⟩
theorem Kz {w:World}{base n:Nat}{v:Value}{l:List Pt}(h:w.ownsRow base 56 2 v n (ar l)):
  (v=.slice none 0 0/\l=[]/\n=0)\/∃g G sp,v=.slice (some ⟨g,0,none⟩) n G/\base<=g/\ag w g (ar l++sp) 56/\n<=G/\G<=maxLen/\(ar l++sp).length=G*2:=by
 rcases h.2 with⟨rfl,rfl⟩| ⟨g,cap,cur,rfl,hb,hg,h1,h2,h3,h4⟩
 .refine .inl ⟨rfl,?_,rfl⟩
  have:=h.1
  rw[aI] at this
  exact List.eq_nil_of_length_eq_zero (by omega)
 refine .inr ⟨g,cap,cur.toList.drop (n*2),rfl,hb,?_,h1,h2,?_⟩
 .unfold ag
  rw[<-h4,List.take_append_drop]
  simpa using hg
 rw[<-h4,List.take_append_drop,Array.length_toList]
 exact h3
theorem KT {w:World}{base g n G:Nat}{l:List Pt}{sp:List Value}(hb:base<=g)(B:ag w g (ar l++sp) 56)(hn:l.length=n)(h1:n<=G)(h2:G<=maxLen)(h3:(ar l++sp).length=G*2):
  w.ownsRow base 56 2 (.slice (some ⟨g,0,none⟩) n G) n (ar l):=by
 refine⟨by rw[aI,hn],.inr ⟨g,G,(ar l++sp).toArray,rfl,hb,B,h1,h2,by simpa using h3,?_⟩⟩
 rw[List.toList_toArray,List.take_left' (by rw[aI,hn])]
theorem Fx (z:Array Value)(hz:z.toList=pc (0,0))(n:Nat):(Builtin.zeroCells z n).toList=(List.replicate n ((0,0):Pt)).flatMap pc:=by
 have hs:z.size=2:=by rw[<-Array.length_toList,hz];rfl
 apply List.ext_getElem?
 intro i
 have hl:=av ge (List.replicate n ((0,0):Pt))
 rw[List.length_replicate] at hl
 by_cases hi:i<n*2
 .have hg:=flat_get ge (List.replicate n ((0,0):Pt)) (i / 2) (i % 2) (0,0) (by rw[List.getElem?_replicate,if_pos (by omega)]) (Nat.mod_lt _ (by decide))
  rw[show i / 2*2+i % 2=i by omega] at hg
  rw[hg,<-hz]
  simp only[Builtin.zeroCells,Array.toList_map,List.getElem?_map,Array.toList_range,hs]
  rw[List.getElem?_range hi]
  have h4:i % 2<z.size:=by omega
  rw[Option.map_some,getElem!_pos z (i % 2) h4,Array.getElem?_toList,Array.getElem?_eq_getElem h4]
 rw[List.getElem?_eq_none (by simp[Builtin.zeroCells,hs];omega),List.getElem?_eq_none (by rw[hl];omega)]
theorem uu {P:Program}(w:World)(t e ty:TypeId)(z:Value)(ht:P.underlying t=some (.slice e))(hv:∀w,(zeroValue e).run P w=.ok z w)(hz:z.cells.toList=pc (0,0))(b o n c:Nat)(hn:0<n)(cur:List Value)(te:TypeId)(B:ag w b cur te)(dY:o+n*2<=cur.length):
  (Builtin.clear_ #[t] ty #[.slice (some ⟨b,o,none⟩) n c]).run P w=.ok (.tuple #[]) (w.setCells b o ((List.replicate n ((0,0):Pt)).flatMap pc)):=by
 have RR:=Fx z.cells hz n
 have hl:=av ge (List.replicate n ((0,0):Pt))
 rw[List.length_replicate] at hl
 have nU:=run_storeCells_cells (P:=P) b o ((List.replicate n ((0,0):Pt)).flatMap pc) 0 w (by intro j hj;rw[hl] at hj;rw[B.cell,List.getElem?_eq_getElem (by omega)];rfl) (by intro j _;exact B.free _) (by
  intro v GJ
  obtain⟨r,hr,xD⟩:=List.mem_flatMap.1 GJ
  rw[List.eq_of_mem_replicate hr] at xD
  simp only[pc,List.mem_cons,List.not_mem_nil,or_false] at xD
  rcases xD with rfl|rfl<;>rfl)
 simp only[Nat.add_zero] at nU
 obtain⟨m,rfl⟩:∃m,n=m+1:=⟨n-1,by omega⟩
 simp[Builtin.clear_,run_underlying ht,hv,RR,nU]
theorem Gx (w:World):(zeroValue 56).run Tryz.prog w=.ok (.agg #[.int .i64 0,.int .i64 0]) w:=by
 obtain⟨i0,hi,bK,bm,bQ⟩:=info_parts kL
 simp[zeroValue,typeInfo,hi,bK]
def eD (f t:Int)(l:List Pt):List Pt:=l.filter (fun x=> !np f t x)
theorem Kd (f t:Int)(l:List Pt):eD f t l=qo l f t:=by
 unfold eD qo np
 congr 1
 funext x
 simp
theorem xH {f t:Int} :∀ {l:List Pt},(∀x∈l,np f t x=false)->eD f t l=l:=by
 intro l h
 unfold eD
 rw[List.filter_eq_self]
 intro x hx
 rw[h x hx]
 rfl
theorem vK (f t:Int)(l:List Pt)(j:Nat)(x:Pt)(hx:l[j]? =some x):eD f t (l.take (j+1))=if np f t x=true then eD f t (l.take j) else eD f t (l.take j)++[x]:=by
 unfold eD
 rw[List.take_add_one,hx,List.filter_append]
 cases h:np f t x with
 |true=>simp[h]
 |false=>simp[h]
theorem Np {w:World}{g:Nat}{X:List Pt}{sp:List Value}(B:ag w g (X.flatMap pc++sp) 56)(j:Nat)(p:Pt)(hp:X[j]? =some p):w.cell? ⟨g,j*2,none⟩=some (.int .i64 p.1)/\w.cell? ⟨g,j*2+1,none⟩=some (.int .i64 p.2):=by
 have hl:=av ge X
 have hj:=(List.getElem?_eq_some_iff.1 hp).1
 rw[B.cell,B.cell,List.getElem?_append_left (by rw[hl];omega),List.getElem?_append_left (by rw[hl];omega)]
 exact⟨flat_get ge X j 0 p hp (by decide),flat_get ge X j 1 p hp (by decide)⟩
theorem Uo {w:World}{g:Nat}{X:List Pt}{sp:List Value}(B:ag w g (X.flatMap pc++sp) 56)(i:Nat)(hi:i<X.length)(p:Pt):
  ag ((w.setCell ⟨g,i*2,none⟩ (.int .i64 p.1)).setCell ⟨g,i*2+1,none⟩ (.int .i64 p.2)) g ((X.set i p).flatMap pc++sp) 56/\w.grownBy ((w.setCell ⟨g,i*2,none⟩ (.int .i64 p.1)).setCell ⟨g,i*2+1,none⟩ (.int .i64 p.2)) (some g):=by
 have hl:=av ge X
 have B2:=(B.set (i*2) (.int .i64 p.1)).set (i*2+1) (.int .i64 p.2)
 rw[List.set_append_left _ _ (by rw[hl];omega),List.set_append_left _ _ (by rw[List.length_set,hl];omega),qY p _ _ rfl ge X i hi] at B2
 exact⟨B2,al (al (au w (some g)) _ _) _ _⟩
theorem Nj (bl:List Pt)(sp:List Value)(f t:Int)(bg cf ct n G:Nat)(w:World)(B:ag w bg (bl.flatMap pc++sp) 56)(Bf:ag w cf [.int .i64 f] 3)(Bt:ag w ct [.int .i64 t] 3)(hn:bl.length=n)(few:n<=40)(hG:n<=G)(rH:G<=9223372036854775807):
  Calls Tryz.prog 92 #[.slice (some ⟨bg,0,none⟩) n G,.func (.func 91) #[] #[.pointer (some ⟨cf,0,none⟩),.pointer (some ⟨ct,0,none⟩)]] w fun e w'=>
   ∃tail:List Pt,e=.returned (.slice (some ⟨bg,0,none⟩) (eD f t bl).length G)/\(eD f t bl++tail).length=n/\ag w' bg ((eD f t bl++tail).flatMap pc++sp) 56/\w.grownBy w' (some bg):=by
 have S:aV w (some ⟨bg,0,none⟩) G bl:=by
  refine⟨B.row 0 _ (fun i v hv=>?_),by omega,rH,fun e=>by cases e⟩
  rw[kf] at hv
  rw[Nat.zero_add,List.getElem?_append_left (List.getElem?_eq_some_iff.1 hv).1]
  exact hv
 have c1:=fun W h k m=>JK bl (some ⟨bg,0,none⟩) G n f t cf ct W h k m hn few
 replace hn:=aa hn
 go_enter Tryz.func92,Tryz.ntmps92
 go_wp2_with fail
 go_at_call 124
 refine(c1 _ S Bf Bt).mono ?_
 rintro e w1 ⟨b1,⟨rfl,aU⟩| ⟨k0,x0,rfl,pS,sN,aU⟩⟩
 .have B1:=B.keep b1 B.lt
  have e1:eD f t bl=bl:=xH aU
  have gr:w.grownBy w1 (some bg):=eU b1
  replace e1:=aa e1
  replace aU:=aa aU
  clear B Bf Bt c1 b1 S
  go_wp2_with fail
  go_ret
  exact⟨[],by rw[e1.out,hn.out];rfl,by rw[e1.out,List.append_nil];exact hn.out,by rw[e1.out,List.append_nil];exact B1,gr⟩
 have B1:=B.keep b1 B.lt
 have Mu:=Bf.keep b1 Bf.lt
 have On:=Bt.keep b1 Bt.lt
 have gr:w.grownBy w1 (some bg):=eU b1
 have Dn:k0<n:=by rw[<-hn.out];exact(List.getElem?_eq_some_iff.1 pS).1
 have VB:((k0:Int)==-1)=false:=beq_eq_false_iff_ne.2 (by omega)
 have tW:¬(k0:Int)=-1:=by omega
 have K0:eD f t (bl.take (k0+1))=bl.take k0:=by
  rw[vK f t bl k0 x0 pS,if_pos sN]
  exact xH aU
 have rS:bl.drop k0=x0::bl.drop (k0+1):=by
  obtain⟨fC,rfl⟩:=List.getElem?_eq_some_iff.1 pS
  exact List.drop_eq_getElem_cons fC
 have st:ag w1 bg ((eD f t (bl.take (k0+1))++[x0]++bl.drop (k0+1)).flatMap pc++sp) 56:=by
  rw[K0,List.append_assoc,List.singleton_append,<-rS,List.take_append_drop]
  exact B1
 have sl:Hid (k0=(eD f t (bl.take (k0+1))).length):=aa (by rw[K0,List.length_take,hn.out];omega)
 have YA:bg≠cf:=by
  rintro rfl
  exact absurd (bV B Bf) (by decide)
 have Zs:bg≠ct:=by
  rintro rfl
  exact absurd (bV B Bt) (by decide)
 replace pS:=aa pS
 replace sN:=aa sN
 replace aU:=aa aU
 replace K0:=aa K0
 replace rS:=aa rS
 clear B Bf Bt c1 b1 B1 S
 go_wp2_with fail
 go_loopw [5,6] (fun s5 s6 wr=>∃(i j:Nat) (mN:List Pt),s5=.int .i64 i/\s6=.int .i64 j/\j<=n/\i<j/\Hid (i=(eD f t (bl.take j)).length)/\Hid (mN.length=j-i)/\ag wr bg ((eD f t (bl.take j)++mN++bl.drop j).flatMap pc++sp) 56/\ag wr cf [.int .i64 f] 3/\ag wr ct [.int .i64 t] 3/\w.grownBy wr (some bg)) (fun _ s6 _=>n-(intOf s6).toNat)
 case atStart=>exact⟨k0,k0+1,[x0],rfl,by go_num,by omega,by omega,sl,aa (by simp),st,Mu,On,gr⟩
 case round=>
  clear st Mu On gr sl
  obtain⟨i,j,mN,rfl,rfl,hj,Fs,hi,hm,B,Bf,Bt,gr⟩:=hrel
  by_cases aE:j<n
  .obtain⟨x,hx⟩:∃x,bl[j]? =some x:=⟨_,List.getElem?_eq_getElem (by rw[hn.out];exact aE)⟩
   have hd:bl.drop j=x::bl.drop (j+1):=by
    obtain⟨fC,rfl⟩:=List.getElem?_eq_some_iff.1 hx
    exact List.drop_eq_getElem_cons fC
   have len:(eD f t (bl.take j)++mN).length=j:=by rw[List.length_append,<-hi.out,hm.out];omega
   have zI:(eD f t (bl.take j)++mN++bl.drop j)[j]? =some x:=by rw[List.getElem?_append_right (by omega),len,Nat.sub_self,hd];rfl
   obtain⟨y,j',rfl⟩:∃y j',mN=y::j':=List.exists_cons_of_ne_nil (by intro e;have:=hm.out;rw[e] at this;simp at this;omega)
   have hL:i<(eD f t (bl.take j)++(y::j')++bl.drop j).length:=by rw[List.length_append,len];omega
   obtain⟨c0,c1⟩:=Np B j x zI
   have cv:=fun W h k=>AX x f t cf ct W h k
   have sn:=vK f t bl j x hx
   have Yf:j<40:=by omega
   have lb:=B.lt
   have X:=ag.laid wr [.int .i64 x.1,.int .i64 x.2] 56 _ rfl
   have BA:=B.alc (.cells #[.int .i64 x.1,.int .i64 x.2] 56)
   have Ed:=Bf.alc (.cells #[.int .i64 x.1,.int .i64 x.2] 56)
   have FY:=Bt.alc (.cells #[.int .i64 x.1,.int .i64 x.2] 56)
   have Dx:=ey gr (eU (row:=some bg) ((Below.refl wr.heap.size wr).alloc (Nat.le_refl _) (.cells #[.int .i64 x.1,.int .i64 x.2] 56)))
   replace hx:=aa hx
   replace hd:=aa hd
   replace len:=aa len
   replace zI:=aa zI
   replace hL:=aa hL
   cases hp:np f t x with
   |true=>
    rw[if_pos hp] at sn
    rw[hp] at cv
    replace sn:=aa sn
    clear hp
    go_wp2_with fail
    generalize wr.alloc _=w2 at*
    go_at_call 91
    refine(cv _ Ed FY).mono ?_
    rintro e w3 ⟨rfl,b3⟩
    have B3:=BA.keep b3 BA.lt
    have Pc:=Ed.keep b3 Ed.lt
    have Qp:=FY.keep b3 FY.lt
    have yv:=ey Dx (eU (row:=some bg) b3)
    clear B Bf Bt gr BA Ed FY Dx b3 c0 c1 X
    go_wp2_with fail
    go_roundw
    case rel=>exact⟨i,j+1,y::j'++[x],rfl,by go_num,by omega,by omega,aa (by rw[sn.out];exact hi.out),aa (by have:=hm.out;simp only[List.length_append,List.length_cons,List.length_nil] at this⊢;omega),by
      rw[sn.out]
      have e:eD f t (bl.take j)++(y::j'++[x])++bl.drop (j+1)=eD f t (bl.take j)++(y::j')++bl.drop j:=by rw[hd.out];simp
      rw[e]
      exact B3,Pc,Qp,yv⟩
    case measure=>simp[intOf];omega
   |false=>
    rw[if_neg (by rw[hp];decide)] at sn
    rw[hp] at cv
    replace sn:=aa sn
    clear hp
    go_wp2_with fail
    generalize Uy:wr.heap.size=gx at*
    generalize wr.alloc _=w2 at*
    clear Uy
    go_at_call 91
    refine(cv _ Ed FY).mono ?_
    rintro e w3 ⟨rfl,b3⟩
    have B3:=BA.keep b3 BA.lt
    have Pc:=Ed.keep b3 Ed.lt
    have Qp:=FY.keep b3 FY.lt
    have X3:=X.keep b3 X.lt
    have yv:=ey Dx (eU (row:=some bg) b3)
    have x0:w3.cell? ⟨gx,0,none⟩=some (.int .i64 x.1):=X3.cell 0
    have x1:w3.cell? ⟨gx,1,none⟩=some (.int .i64 x.2):=X3.cell 1
    obtain⟨z,hz⟩:∃z,(eD f t (bl.take j)++(y::j')++bl.drop j)[i]? =some z:=⟨_,List.getElem?_eq_getElem hL.out⟩
    obtain⟨d0,d1⟩:=Np B3 i z hz
    have f0:=B3.free (i*2)
    have f1:=B3.free (i*2+1)
    obtain⟨B4,Ep⟩:=Uo B3 i hL.out x
    have Y3:=Pc.grown Ep (fun q e=>by obtain rfl:=Option.some.inj e;exact YA)
    have Bt4:=Qp.grown Ep (fun q e=>by obtain rfl:=Option.some.inj e;exact Zs)
    have Sd:=ey yv Ep
    have i8:i<40:=by omega
    have i9:(i:Int)<n:=by omega
    replace hz:=aa hz
    clear B Bf Bt gr BA Ed FY Dx b3 c0 c1 X X3 yv Ep B3 Pc Qp
    go_wp2_with fail
    go_roundw
    case rel=>exact⟨i+1,j+1,j'++[x],by go_num,by go_num,by omega,by omega,aa (by rw[sn.out,List.length_append,<-hi.out];rfl),aa (by have:=hm.out;simp only[List.length_append,List.length_cons,List.length_nil] at this⊢;omega),by
      rw[sn.out,<-ET (eD f t (bl.take j)) j' (bl.drop (j+1)) y x i hi.out,<-hd.out]
      exact B4,Y3,Bt4,Sd⟩
    case measure=>simp[intOf];omega
  obtain rfl:j=n:=by omega
  have e1:bl.take j=bl:=List.take_of_length_le (by rw[hn.out];exact Nat.le_refl _)
  have e2:bl.drop j=[]:=List.drop_eq_nil_of_le (by rw[hn.out];exact Nat.le_refl _)
  rw[e2,List.append_nil] at B
  rw[e1] at B hi
  have len:(eD f t bl++mN).length=j:=by rw[List.length_append,<-hi.out,hm.out];omega
  have Cg:=av ge (eD f t bl++mN)
  rw[len] at Cg
  have Al:=fun ty=>uu wr 42 56 ty _ Tryz.underlying42 Gx rfl bg (i*2) (j-i) (G-i) (by omega) _ _ B (by rw[List.length_append,Cg];omega)
  obtain⟨B6,Aw⟩:=ag.setCells ((List.replicate (j-i) ((0,0):Pt)).flatMap pc) (i*2) B (by rw[List.length_append,Cg,av ge,List.length_replicate];omega)
  have e3:splice ((eD f t bl++mN).flatMap pc++sp) (i*2) ((List.replicate (j-i) ((0,0):Pt)).flatMap pc)=(eD f t bl++List.replicate (j-i) ((0,0):Pt)).flatMap pc++sp:=by
   have hk:=av ge (eD f t bl)
   rw[<-hi.out] at hk
   have hr:=av ge (List.replicate (j-i) ((0,0):Pt))
   rw[List.length_replicate] at hr
   have jX:=av ge mN
   rw[hm.out] at jX
   unfold splice
   rw[hr,List.flatMap_append,List.flatMap_append,List.append_assoc,List.take_left' hk]
   generalize(eD f t bl).flatMap pc=K at*
   generalize mN.flatMap pc=M at*
   generalize(List.replicate (j-i) ((0,0):Pt)).flatMap pc=R at*
   rw[<-List.append_assoc K M sp,List.drop_left' (by rw[List.length_append,hk,jX])]
   simp only[List.append_assoc]
  rw[e3] at B6
  have Nd:=ey gr Aw
  have RY:¬j=i:=by omega
  have ne2:¬G=i:=by omega
  have q1:(i:Int)<=j:=by omega
  have q2:(j:Int)<=G:=by omega
  replace e1:=aa e1
  replace e2:=aa e2
  replace e3:=aa e3
  replace len:=aa len
  replace Cg:=aa Cg
  clear B Bf Bt gr Aw
  go_wp2_with fail
  go_ret
  exact⟨_,by rw[<-hi.out];rfl,by rw[List.length_append,<-hi.out,List.length_replicate];omega,B6,Nd⟩
theorem Oc (ao:Option Addr)(cap:Nat)(l:List Pt)(w:World)(hr:aV w ao cap l)(h:aH l=0)(hl:0<l.length):
  Calls Tryz.prog 155 #[.slice ao l.length cap] w fun e w'=>
   ∃a' G,e=.returned (.tuple #[.agg #[.int .i64 l.length,.int .i64 (firstT l),.int .i64 (lE l),.slice a' (ep l).length G],.int .i64 0])/\Sl w' a' G ((ep l).map Value.bool)/\Below w.heap.size w w':=by
 have c1:=fun W h=>A' ao cap l W h
 rw[h] at c1
 have mw:=(eN h).1
 obtain⟨b,off,rfl,hb⟩:=hr.where (by intro e;rw[e] at hl;simp at hl)
 have s0:=fun W (h:aV W (some ⟨b,off,none⟩) cap l)=>h.first hl
 have s1:=fun W (h:aV W (some ⟨b,off,none⟩) cap l)=>h.last hl
 generalize ep l=P at*
 generalize firstT l=X at*
 generalize lE l=Y at*
 obtain⟨n,hn⟩:∃n,n+1=l.length:=⟨l.length-1,by omega⟩
 rw[<-hn] at c1 s1 mw⊢
 clear hn hl h
 go_enter Tryz.func155,Tryz.ntmps155
 go_wp2_with fail
 go_at_call 183
 refine(c1 _ (hr.alloc _)).mono ?_
 rintro e w1 ⟨a1,G1,rfl,t1,b1⟩
 have B0:=(ag.laid w [.int .i64 0,.int .i64 0,.int .i64 0,.slice none 0 0] 107 _ rfl).keep b1 (by simp)
 have bel:=ac ((Below.refl _ _).alloc (Nat.le_refl _) _) b1
 have wU:=(hr.alloc _).call b1
 have e0:=s0 _ wU
 have e1:=s1 _ wU
 clear c1 s0 s1 b1
 simp only[Nat.add_sub_cancel] at e1
 obtain⟨f0,f1,f2,f3⟩:=B0.f4
 have d0:w1.cell? ⟨w.heap.size,0,none⟩=some (.int .i64 0):=B0.cell 0
 have d1:w1.cell? ⟨w.heap.size,1,none⟩=some (.int .i64 0):=B0.cell 1
 have d2:w1.cell? ⟨w.heap.size,2,none⟩=some (.int .i64 0):=B0.cell 2
 have d3:w1.cell? ⟨w.heap.size,3,none⟩=some (.slice none 0 0):=B0.cell 3
 have jF:=B0.lt
 go_wp2_with fail
 go_region
 go_wp2_with fail
 have B4:=(B0.put4 (.int .i64 ((n:Int)+1)) (.int .i64 X) (.int .i64 Y) (.slice a1 P.length G1)).drewS
 have ay:=ak (ic bel (g:=w.heap.size) (Nat.le_refl _) (.int .i64 ((n:Int)+1)) (.int .i64 X) (.int .i64 Y) (.slice a1 P.length G1))
 have t4:=(t1.put4 B0 (.int .i64 ((n:Int)+1)) (.int .i64 X) (.int .i64 Y) (.slice a1 P.length G1)).drewS
 generalize(World.setCell _ _ _).drew=w5 at*
 have i0:w5.cell? ⟨w.heap.size,0,none⟩=some (.int .i64 ((n:Int)+1)):=B4.cell 0
 have i1:w5.cell? ⟨w.heap.size,1,none⟩=some (.int .i64 X):=B4.cell 1
 have i2:w5.cell? ⟨w.heap.size,2,none⟩=some (.int .i64 Y):=B4.cell 2
 have i3:w5.cell? ⟨w.heap.size,3,none⟩=some (.slice a1 P.length G1):=B4.cell 3
 exact bodyPost_ret (v:=.tuple #[.agg #[.int .i64 ((n:Int)+1),.int .i64 X,.int .i64 Y,.slice a1 P.length G1],.int .i64 0]) (by simp[results,Tryz.results155,go_sem,i0,i1,i2,i3]) rfl ⟨a1,G1,by simp,t4,ay⟩
theorem OY (ao:Option Addr)(cap:Nat)(l:List Pt)(w:World)(hr:aV w ao cap l)(h:¬fk l=0):
  Calls Tryz.prog 155 #[.slice ao l.length cap] w fun e w'=>
   e=.returned (.tuple #[.agg #[.int .i64 0,.int .i64 0,.int .i64 0,.slice none 0 0],.int .i64 (fk l)])/\Below w.heap.size w w':=by
 have c1:=fun W h=>A' ao cap l W h
 unfold fk at h⊢
 by_cases h0:aH l=0
 .rw[h0] at c1
  rw[if_pos h0] at h⊢
  by_cases h1:l.length=0
  .rw[if_pos h1,h1]
   rw[h1] at c1
   generalize ep l=P at*
   clear h h0 h1
   go_enter Tryz.func155,Tryz.ntmps155
   go_wp2_with fail
   go_at_call 183
   refine(c1 _ (hr.alloc _)).mono ?_
   rintro e w1 ⟨a1,G1,rfl,t1,b1⟩
   have B0:=(ag.laid w [.int .i64 0,.int .i64 0,.int .i64 0,.slice none 0 0] 107 _ rfl).keep b1 (by simp)
   have bel:=ac ((Below.refl _ _).alloc (Nat.le_refl _) _) b1
   clear c1 b1
   obtain⟨f0,f1,f2,f3⟩:=B0.f4
   have d0:w1.cell? ⟨w.heap.size,0,none⟩=some (.int .i64 0):=B0.cell 0
   have d1:w1.cell? ⟨w.heap.size,1,none⟩=some (.int .i64 0):=B0.cell 1
   have d2:w1.cell? ⟨w.heap.size,2,none⟩=some (.int .i64 0):=B0.cell 2
   have d3:w1.cell? ⟨w.heap.size,3,none⟩=some (.slice none 0 0):=B0.cell 3
   have jF:=B0.lt
   go_wp2_with fail
   have B4:=B0.put4 (.int .i64 0) (.int .i64 0) (.int .i64 0) (.slice none 0 0)
   have ay:=ic bel (g:=w.heap.size) (Nat.le_refl _) (.int .i64 0) (.int .i64 0) (.int .i64 0) (.slice none 0 0)
   generalize World.setCell _ _ _=w5 at*
   have i0:w5.cell? ⟨w.heap.size,0,none⟩=some (.int .i64 0):=B4.cell 0
   have i1:w5.cell? ⟨w.heap.size,1,none⟩=some (.int .i64 0):=B4.cell 1
   have i2:w5.cell? ⟨w.heap.size,2,none⟩=some (.int .i64 0):=B4.cell 2
   have i3:w5.cell? ⟨w.heap.size,3,none⟩=some (.slice none 0 0):=B4.cell 3
   exact bodyPost_ret (v:=.tuple #[.agg #[.int .i64 0,.int .i64 0,.int .i64 0,.slice none 0 0],.int .i64 4]) (by simp[results,Tryz.results155,go_sem,i0,i1,i2,i3]) rfl ⟨rfl,ay⟩
  rw[if_neg h1] at h
  exact absurd rfl h
 rw[if_neg h0]
 generalize ep l=P at*
 generalize aH l=E at*
 generalize l.length=n at*
 clear h
 go_enter Tryz.func155,Tryz.ntmps155
 go_wp2_with fail
 go_at_call 183
 refine(c1 _ (hr.alloc _)).mono ?_
 rintro e w1 ⟨a1,G1,rfl,t1,b1⟩
 have B0:=(ag.laid w [.int .i64 0,.int .i64 0,.int .i64 0,.slice none 0 0] 107 _ rfl).keep b1 (by simp)
 have bel:=ac ((Below.refl _ _).alloc (Nat.le_refl _) _) b1
 clear c1 b1
 obtain⟨f0,f1,f2,f3⟩:=B0.f4
 have d0:w1.cell? ⟨w.heap.size,0,none⟩=some (.int .i64 0):=B0.cell 0
 have d1:w1.cell? ⟨w.heap.size,1,none⟩=some (.int .i64 0):=B0.cell 1
 have d2:w1.cell? ⟨w.heap.size,2,none⟩=some (.int .i64 0):=B0.cell 2
 have d3:w1.cell? ⟨w.heap.size,3,none⟩=some (.slice none 0 0):=B0.cell 3
 have jF:=B0.lt
 go_wp2_with fail
 have B4:=B0.put4 (.int .i64 0) (.int .i64 0) (.int .i64 0) (.slice none 0 0)
 have ay:=ic bel (g:=w.heap.size) (Nat.le_refl _) (.int .i64 0) (.int .i64 0) (.int .i64 0) (.slice none 0 0)
 generalize World.setCell _ _ _=w5 at*
 have i0:w5.cell? ⟨w.heap.size,0,none⟩=some (.int .i64 0):=B4.cell 0
 have i1:w5.cell? ⟨w.heap.size,1,none⟩=some (.int .i64 0):=B4.cell 1
 have i2:w5.cell? ⟨w.heap.size,2,none⟩=some (.int .i64 0):=B4.cell 2
 have i3:w5.cell? ⟨w.heap.size,3,none⟩=some (.slice none 0 0):=B4.cell 3
 exact bodyPost_ret (v:=.tuple #[.agg #[.int .i64 0,.int .i64 0,.int .i64 0,.slice none 0 0],.int .i64 E]) (by simp[results,Tryz.results155,go_sem,i0,i1,i2,i3]) rfl ⟨rfl,ay⟩
theorem AV (ao:Option Addr)(cap:Nat)(l:List Pt)(w:World)(hr:aV w ao cap l):
  Calls Tryz.prog 155 #[.slice ao l.length cap] w fun e w'=>
   ∃a' G,e=.returned (.tuple #[ej (dC l) a' G,.int .i64 (fk l)])/\Sl w' a' G ((dC l).bits.map Value.bool)/\Below w.heap.size w w':=by
 by_cases h:fk l=0
 .have hc:aH l=0/\0<l.length:=by
   unfold fk at h
   by_cases h0:aH l=0
   .rw[if_pos h0] at h
    refine⟨h0,?_⟩
    by_cases h1:l.length=0
    .rw[if_pos h1] at h;cases h
    omega
   rw[if_neg h0] at h
   exact absurd h h0
  rw[rp hc.1 hc.2,h]
  exact Oc ao cap l w hr hc.1 hc.2
 have e:dC l=wR:=if_neg h
 rw[e]
 refine(OY ao cap l w hr h).mono ?_
 rintro e w' ⟨rfl,b⟩
 exact⟨none,0,rfl,Sl.ofNil _,b⟩
theorem Ds (b:Bk)(ao:Option Addr)(cap:Nat)(w:World)(hr:Sl w ao cap (b.bits.map Value.bool))(hl:b.bits.length<=140737488355328)(h:¬fL b.bits b.n=0):
  Calls Tryz.prog 112 #[ej b ao cap] w fun e w'=>e=.returned (.tuple #[.slice none 0 0,.int .i64 (fL b.bits b.n)])/\Below w.heap.size w w':=by
 have c1:=fun W h=>qC ao cap b.bits b.n W h hl
 obtain⟨N,fr,tv,X⟩:=b
 unfold ej
 simp only at*
 generalize dS X N=U at*
 generalize fL X N=E at*
 clear hl
 go_enter Tryz.func112,Tryz.ntmps112
 go_wp2_with fail
 go_at_call 141
 refine(c1 _ (hr.alloc _)).mono ?_
 rintro e w1 ⟨a1,G1,rfl,s1,b1⟩
 have bel:=ac ((Below.refl _ _).alloc (Nat.le_refl _) _) b1
 clear c1 b1
 go_wp2_with fail
 go_ret2
 exact⟨rfl,bel⟩
theorem zZ (b:Bk)(ao:Option Addr)(cap:Nat)(w:World)(hr:Sl w ao cap (b.bits.map Value.bool))(hl:b.bits.length<=140737488355328)(h:fL b.bits b.n=0)(h0:(dS b.bits b.n).length=0):
  Calls Tryz.prog 112 #[ej b ao cap] w fun e w'=>e=.returned (.tuple #[.slice none 0 0,.int .i64 4])/\Below w.heap.size w w':=by
 have c1:=fun W h=>qC ao cap b.bits b.n W h hl
 obtain⟨N,fr,tv,X⟩:=b
 unfold ej
 simp only at*
 rw[h,h0] at c1
 generalize dS X N=U at*
 clear hl h h0
 go_enter Tryz.func112,Tryz.ntmps112
 go_wp2_with fail
 go_at_call 141
 refine(c1 _ (hr.alloc _)).mono ?_
 rintro e w1 ⟨a1,G1,rfl,s1,b1⟩
 have bel:=ac ((Below.refl _ _).alloc (Nat.le_refl _) _) b1
 clear c1 b1
 go_wp2_with fail
 go_quiet (fail)
 go_wp2_with fail
 go_ret2
 exact⟨rfl,bt bel _⟩
theorem sf (b:Bk)(ao:Option Addr)(cap:Nat)(w:World)(hr:Sl w ao cap (b.bits.map Value.bool))(hl:b.bits.length<=140737488355328)(h:fL b.bits b.n=0)(h0:0<(dS b.bits b.n).length):
  Calls Tryz.prog 112 #[ej b ao cap] w fun e w'=>∃a' G,e=.returned (.tuple #[if ku b (dS b.bits b.n)=true then .slice a' (dS b.bits b.n).length G else .slice none 0 0,.int .i64 (if ku b (dS b.bits b.n)=true then 0 else 4)])/\aV w' a' G (dS b.bits b.n)/\Below w.heap.size w w':=by
 have c1:=fun W h=>qC ao cap b.bits b.n W h hl
 have mw:=oS b.bits b.n
 obtain⟨N,fr,tv,X⟩:=b
 unfold ej ku
 simp only at*
 rw[h] at c1
 generalize dS X N=U at*
 have s0:=fun W b off cap (h:aV W (some ⟨b,off,none⟩) cap U)=>h.first h0
 have s1:=fun W b off cap (h:aV W (some ⟨b,off,none⟩) cap U)=>h.last h0
 have aF:U≠[]:=by intro e;rw[e] at h0;simp at h0
 generalize firstT U=P at*
 generalize lE U=Q at*
 obtain⟨n,hn⟩:∃n,n+1=U.length:=⟨U.length-1,by omega⟩
 rw[<-hn] at c1 s1 mw⊢
 simp only[Nat.add_sub_cancel] at s1
 clear hl h h0 hn
 have fin:decide (0<n+1/\fr=P/\tv=Q)=decide (fr=P/\tv=Q):=by simp
 rw[fin]
 clear fin
 have hz:((n:Int)+1==0)=false:=by simp;omega
 by_cases g1:fr=P
 .subst g1
  by_cases g2:tv=Q
  .subst g2
   rw[show decide (fr=fr/\tv=tv)=true by simp]
   simp only[if_true]
   go_enter Tryz.func112,Tryz.ntmps112
   go_wp2_with fail
   go_at_call 141
   refine(c1 _ (hr.alloc _)).mono ?_
   rintro e w1 ⟨a1,G1,rfl,t1,b1⟩
   have B0:=(ag.laid w [.int .i64 N,.int .i64 fr,.int .i64 tv,.slice ao X.length cap] 107 _ rfl).keep b1 (by simp)
   have bel:=ac ((Below.refl _ _).alloc (Nat.le_refl _) _) b1
   obtain⟨ub,uo,rfl,M0⟩:=t1.where aF
   have e0:=s0 _ _ _ _ t1
   have e1:=s1 _ _ _ _ t1
   have d1:w1.cell? ⟨w.heap.size,1,none⟩=some (.int .i64 fr):=B0.cell 1
   have d2:w1.cell? ⟨w.heap.size,2,none⟩=some (.int .i64 tv):=B0.cell 2
   have jF:=B0.lt
   clear c1 b1 s0 s1
   go_wp2_with fail
   go_region
   go_wp2_with fail
   go_ret2
   exact⟨_,_,rfl,t1.drewS,ak bel⟩
  rw[show decide (fr=fr/\tv=Q)=false by simp[g2]]
  simp only[Bool.false_eq_true,if_false]
  go_enter Tryz.func112,Tryz.ntmps112
  go_wp2_with fail
  go_at_call 141
  refine(c1 _ (hr.alloc _)).mono ?_
  rintro e w1 ⟨a1,G1,rfl,t1,b1⟩
  have B0:=(ag.laid w [.int .i64 N,.int .i64 fr,.int .i64 tv,.slice ao X.length cap] 107 _ rfl).keep b1 (by simp)
  have bel:=ac ((Below.refl _ _).alloc (Nat.le_refl _) _) b1
  obtain⟨ub,uo,rfl,M0⟩:=t1.where aF
  have e0:=s0 _ _ _ _ t1
  have e1:=s1 _ _ _ _ t1
  have d1:w1.cell? ⟨w.heap.size,1,none⟩=some (.int .i64 fr):=B0.cell 1
  have d2:w1.cell? ⟨w.heap.size,2,none⟩=some (.int .i64 tv):=B0.cell 2
  have jF:=B0.lt
  clear c1 b1 s0 s1
  go_wp2_with fail
  go_region
  go_wp2_with fail
  go_ret2
  exact⟨_,_,rfl,t1.drewS,ak bel⟩
 rw[show decide (fr=P/\tv=Q)=false by simp[g1]]
 simp only[Bool.false_eq_true,if_false]
 go_enter Tryz.func112,Tryz.ntmps112
 go_wp2_with fail
 go_at_call 141
 refine(c1 _ (hr.alloc _)).mono ?_
 rintro e w1 ⟨a1,G1,rfl,t1,b1⟩
 have B0:=(ag.laid w [.int .i64 N,.int .i64 fr,.int .i64 tv,.slice ao X.length cap] 107 _ rfl).keep b1 (by simp)
 have bel:=ac ((Below.refl _ _).alloc (Nat.le_refl _) _) b1
 obtain⟨ub,uo,rfl,M0⟩:=t1.where aF
 have e0:=s0 _ _ _ _ t1
 have e1:=s1 _ _ _ _ t1
 have d1:w1.cell? ⟨w.heap.size,1,none⟩=some (.int .i64 fr):=B0.cell 1
 have d2:w1.cell? ⟨w.heap.size,2,none⟩=some (.int .i64 tv):=B0.cell 2
 have jF:=B0.lt
 clear c1 b1 s0 s1
 go_wp2_with fail
 go_quiet (fail)
 go_wp2_with fail
 go_ret2
 exact⟨_,_,rfl,t1.drewN _,bt bel _⟩
theorem ja (b:Bk)(ao:Option Addr)(cap:Nat)(w:World)(hr:Sl w ao cap (b.bits.map Value.bool))(hl:b.bits.length<=140737488355328):
  Calls Tryz.prog 112 #[ej b ao cap] w fun e w'=>∃a' G,e=.returned (.tuple #[.slice a' (bi b).length G,.int .i64 (bP b)])/\aV w' a' G (bi b)/\Below w.heap.size w w':=by
 by_cases h:fL b.bits b.n=0
 .by_cases h0:(dS b.bits b.n).length=0
  .have hf:ku b (dS b.bits b.n)=false:=decide_eq_false (by omega)
   have he:bP b=4:=by unfold bP;rw[if_pos h,hf];rfl
   have hL:bi b=[]:=by unfold bi;rw[he];rfl
   rw[he,hL]
   refine(zZ b ao cap w hr hl h h0).mono ?_
   rintro e w' ⟨rfl,hb⟩
   exact⟨none,0,rfl,aV.ofNil _,hb⟩
  cases hf:ku b (dS b.bits b.n) with
  |true=>
   have he:bP b=0:=by unfold bP;rw[if_pos h,hf];rfl
   have hL:bi b=dS b.bits b.n:=by unfold bi;rw[he];rfl
   rw[he,hL]
   refine(sf b ao cap w hr hl h (by omega)).mono ?_
   rw[hf]
   rintro e w' ⟨a',G,rfl,hs,hb⟩
   exact⟨a',G,rfl,hs,hb⟩
  |false=>
   have he:bP b=4:=by unfold bP;rw[if_pos h,hf];rfl
   have hL:bi b=[]:=by unfold bi;rw[he];rfl
   rw[he,hL]
   refine(sf b ao cap w hr hl h (by omega)).mono ?_
   rw[hf]
   rintro e w' ⟨a',G,rfl,hs,hb⟩
   exact⟨none,0,rfl,aV.ofNil _,hb⟩
 have he:bP b=fL b.bits b.n:=if_neg h
 have hL:bi b=[]:=by unfold bi;rw[he,if_neg h]
 rw[he,hL]
 refine(Ds b ao cap w hr hl h).mono ?_
 rintro e w' ⟨rfl,hb⟩
 exact⟨none,0,rfl,aV.ofNil _,hb⟩
theorem yx {w:World}{base base':Nat}{e:TypeId}{size n:Nat}{v:Value}{xs:List Value}(h:w.ownsRow base e size v n xs)(hb:base'<=base):w.ownsRow base' e size v n xs:=by
 refine⟨h.1,?_⟩
 rcases h.2 with h0| ⟨g,cap,cur,q1,q2,q3⟩
 .exact .inl h0
 exact .inr ⟨g,cap,cur,q1,by omega,q3⟩
def pO (r:Rw):List Pt:=if bU r.blocks=0 then cm r else []
theorem uk (r:Lr)(w:World)(hg:r.Good w)(h:r.bs.length<=8):
  Calls Tryz.prog 81 #[r.v] w fun e w'=>∃a' G,e=.returned (.tuple #[.slice a' (pO r.rw).length G,.int .i64 (bU r.rw.blocks)])/\w'.ownsRow w.heap.size 56 2 (.slice a' (pO r.rw).length G) (pO r.rw).length (ar (pO r.rw))/\Below w.heap.size w w':=by
 obtain⟨L,hL⟩:∃L,L=pO r.rw:=⟨_,rfl⟩
 obtain⟨E,hE⟩:∃E,E=bU r.rw.blocks:=⟨_,rfl⟩
 rw[<-hL,<-hE]
 have ll:E=bU (r.bs.map Lb.b):=hE
 have Ma:L=if E=0 then dp (r.bs.map Lb.b)++r.hd else []:=by rw[hL];unfold pO;rw[<-hE];rfl
 clear hL hE
 obtain⟨bs,ba,bc,hd,ha,hc⟩:=r
 obtain⟨sb,sh,-,hfew⟩:=hg
 unfold Lr.v
 simp only at*
 obtain⟨n,hn⟩:∃n,n=bs.length:=⟨_,rfl⟩
 obtain⟨m,hm⟩:∃m,m=hd.length:=⟨_,rfl⟩
 rw[<-hn] at h⊢
 rw[<-hm] at hfew⊢
 have h':(n:Int)<=8:=by omega
 replace hn:=aa hn
 replace hm:=aa hm
 have H0:Hid (E=bU ((bs.drop 0).map Lb.b)):=by rw[List.drop_zero];exact ll
 have H1:Hid (L=if E=0 then([]++dp ((bs.drop 0).map Lb.b))++hd else []):=by rw[List.drop_zero,List.nil_append];exact Ma
 clear ll Ma
 obtain⟨i0,hi,bK,bm,bQ⟩:=info_parts kL
 go_enter Tryz.func81,Tryz.ntmps81
 go_wp2_with fail
 have B0:=ag.laid w [.slice ba n bc,.slice ha m hc] 53 _ rfl
 have cq:Below w.heap.size w (w.alloc (.cells #[.slice ba n bc,.slice ha m hc] 53)):=(Below.refl _ _).alloc (Nat.le_refl _) _
 generalize w.alloc _=w1 at*
 go_loopw [12,4] (fun i o wr=>∃(k G:Nat) (a':Option Addr) (O:List Pt),k<=n/\i=.int .i64 k/\o=.slice a' O.length G/\O.length<=40*k/\wr.ownsRow (w.heap.size+1) 56 2 (.slice a' O.length G) O.length (ar O)/\
   Hid (E=bU ((bs.drop k).map Lb.b))/\Hid (L=if E=0 then(O++dp ((bs.drop k).map Lb.b))++hd else [])/\
   ag wr w.heap.size [.slice ba n bc,.slice ha m hc] 53/\Below w.heap.size w wr) (fun i _ _=>n-(intOf i).toNat)
 case atStart=>exact⟨0,0,none,[],by omega,rfl,rfl,by simp,World.ownsRow_nil _ _ _ _,H0,H1,B0,cq⟩
 case round=>
  clear H0 H1 B0 cq
  obtain⟨k,G,a',O,hk,rfl,rfl,hO,own,H0,H1,B,bel⟩:=hrel
  by_cases aE:k<n
  .have hs:=sb.keep bel (Nat.le_refl _)
   obtain⟨b,off,rfl,ld⟩:=hs.where (by intro e;rw[hn.out,e] at aE;simp at aE)
   obtain⟨x,hx⟩:∃x,bs[k]? =some x:=⟨_,List.getElem?_eq_getElem (by rw[<-hn.out];exact aE)⟩
   obtain⟨e0,e1,e2,e3,gx⟩:=hs.at k x hx
   have hd:bs.drop k=x::bs.drop (k+1):=by
    obtain⟨fC,rfl⟩:=List.getElem?_eq_some_iff.1 hx
    exact List.drop_eq_getElem_cons fC
   have aJ:=H0.out
   have eQ:=H1.out
   rw[hd,List.map_cons] at aJ eQ
   clear H0 H1 hd hx
   obtain⟨⟨xn,xf,xT,X⟩,xa,xc⟩:=x
   obtain⟨gb,gf⟩:=gx
   simp only at*
   have c1:=fun W h=>ja ⟨xn,xf,xT,X⟩ xa xc W h gf
   have pl:=i' ⟨xn,xf,xT,X⟩
   by_cases hp:bP ⟨xn,xf,xT,X⟩=0
   .have pp:=jb hp
    rw[bU,if_pos hp] at aJ
    rw[show dp (⟨xn,xf,xT,X⟩::(bs.drop (k+1)).map Lb.b)=bi ⟨xn,xf,xT,X⟩++dp ((bs.drop (k+1)).map Lb.b) from rfl,<-List.append_assoc] at eQ
    rw[hp] at c1
    generalize bi ⟨xn,xf,xT,X⟩=P at*
    replace aJ:=aa aJ
    replace eQ:=aa eQ
    have CY:=aI P
    have Tg:=fU P
    have RH:P≠[]:=by intro e;rw[e] at pp;simp at pp
    have tf:(O++P).length=O.length+P.length:=List.length_append
    have mP:=dF O P
    obtain⟨on,qt⟩:∃on,on=O.length:=⟨_,rfl⟩
    obtain⟨pn,Cl⟩:∃pn,pn=P.length:=⟨_,rfl⟩
    rw[<-qt] at own hO tf
    rw[<-Cl] at c1 pp pl CY tf
    replace CY:=aa CY
    replace tf:=aa tf
    replace mP:=aa mP
    replace qt:=aa qt
    clear Cl hp
    rw[<-qt.out]
    unfold ej at c1
    simp only at c1
    go_wp2_with fail
    go_at_call 112
    refine(c1 _ (gb.alloc _)).mono ?_
    rintro e w2 ⟨a2,G2,rfl,s2,b2⟩
    have eV:=dx (own.alloc _) b2
    have B2:=(B.alc _).keep b2 (B.alc _).lt
    have am:=ac (ax bel _) b2
    have dW:w.heap.size+1<=w2.heap.size:=B2.lt
    obtain⟨yb,yo,rfl,Qv⟩:=s2.where RH
    have tL:∀j u,(ar P)[j]? =some u->w2.cell? ((⟨yb,yo,none⟩:Addr).add j)=some u:=by
     intro j u hu
     obtain⟨b',lB,e,_,hc⟩:=s2.row.at (by intro e;rw[e] at hu;simp at hu)
     simp only[Option.some.injEq,Addr.mk.injEq,and_true] at e
     obtain⟨rfl,rfl⟩:=e
     rw[Addr.add_lit]
     exact hc j u hu
    clear c1 b2 own B bel s2 e0 e1 e2 e3
    go_wp2_with (at_builtin;refine ed _ rfl (.tmp 24) (.tmp 25) 42 rfl (w.heap.size+1) 56 i0 (.agg #[.int .i64 0,.int .i64 0]) 2 16 Tryz.underlying42 hi bK bm bQ rfl (by decide) _ on _ rfl eV ⟨yb,yo,none⟩ pn _ (ar P) rfl CY.out tL Tg pp (by unfold maxLen;omega) (by omega) dW ?_)
    intro v3 w3 eF ji _
    have aC:=aG am eV ji (Nat.le_succ _) am.size
    have B3:=B2.grown ji (fun j hj=>by have:=(eV.lt j hj).1;omega)
    rw[<-mP.out] at eF
    obtain⟨a3,G3,rfl,_,_,_⟩:=aV.ofOwn eF
    go_wp2_with fail
    go_roundw
    case rel=>exact⟨k+1,G3,a3,O++P,by omega,by go_num,by rw[tf.out],by rw[tf.out];omega,by rw[tf.out];exact eF,aJ,eQ,B3,aC⟩
    case measure=>simp[intOf];omega
   have Dw:E=bP ⟨xn,xf,xT,X⟩:=by rw[aJ,bU,if_neg hp]
   have Ct:L=[]:=by rw[eQ,Dw,if_neg hp]
   clear aJ eQ
   generalize bP ⟨xn,xf,xT,X⟩=F at*
   generalize bi ⟨xn,xf,xT,X⟩=P at*
   replace Dw:=aa Dw
   replace Ct:=aa Ct
   clear pl
   unfold ej at c1
   simp only at c1
   go_wp2_with fail
   go_at_call 112
   refine(c1 _ (gb.alloc _)).mono ?_
   rintro e w2 ⟨a2,G2,rfl,s2,b2⟩
   have am:=ac (ax bel _) b2
   go_wp2_with fail
   go_ret2
   exact⟨none,0,by rw[Dw.out,Ct.out];rfl,by rw[Ct.out];exact World.ownsRow_nil _ _ _ _,am⟩
  obtain rfl:k=n:=by omega
  have aJ:=H0.out
  have eQ:=H1.out
  rw[hn.out,List.drop_length] at aJ eQ
  simp only[List.map_nil,bU,dp,List.flatMap_nil,List.append_nil] at aJ eQ
  rw[aJ,if_pos rfl] at eQ
  clear H0 H1
  have e1:w.heap.size<wr.heap.size:=B.lt
  have d1:wr.cell? ⟨w.heap.size,1,none⟩=some (.slice ha m hc):=B.cell 1
  have HV:=sh.keep bel (Nat.le_refl _)
  have mP:=dF O hd
  have Dz:=aI hd
  have gM:=fU hd
  rw[<-hm.out] at Dz
  obtain⟨on,qt⟩:∃on,on=O.length:=⟨_,rfl⟩
  rw[<-qt] at own hO⊢
  have hlen:L.length=on+m:=by rw[eQ,List.length_append,<-qt,<-hm.out]
  replace hlen:=aa hlen
  replace mP:=aa mP
  replace Dz:=aa Dz
  replace aJ:=aa aJ
  replace eQ:=aa eQ
  clear qt
  cases ha with
  |none=>
   have h1:=HV.nil rfl
   have h2:=HV.le
   have h3:hd=[]:=List.eq_nil_of_length_eq_zero (by omega)
   obtain rfl:m=0:=by rw[hm.out,h3];rfl
   subst h1
   have JM:wr.ownsRow (w.heap.size+1) 56 2 (.slice a' on G) on (ar L):=by rw[eQ.out,h3,List.append_nil];exact own
   replace h3:=aa h3
   clear h2
   go_wp2_with (at_builtin;refine wpList_append_own_none rfl (.tmp 28) (.tmp 30) 42 rfl (w.heap.size+1) 56 i0 2 Tryz.underlying42 hi _ on _ rfl own rfl ?_)
   go_wp2_with fail
   go_ret2
   exact⟨a',G,by rw[hlen.out,aJ.out];rfl,by rw[hlen.out];exact yx JM (Nat.le_succ _),bel⟩
  |some ad=>
   have tL:∀j u,(ar hd)[j]? =some u->wr.cell? (ad.add j)=some u:=by
    intro j u hu
    obtain⟨b',lB,e,_,hc⟩:=HV.row.at (by intro e;rw[e] at hu;simp at hu)
    obtain rfl:=Option.some.inj e
    rw[Addr.add_lit]
    exact hc j u hu
   go_wp2_with (at_builtin;refine wpList_append_own_wide _ rfl (.tmp 28) (.tmp 30) 42 rfl (w.heap.size+1) 56 i0 (.agg #[.int .i64 0,.int .i64 0]) 2 16 Tryz.underlying42 hi bK bm bQ rfl (by decide) _ on _ rfl own ad m _ (ar hd) rfl Dz.out tL gM (by unfold maxLen;omega) (by omega) e1 ?_)
   intro v3 w3 eF ji _
   have aC:=aG bel own ji (Nat.le_succ _) bel.size
   rw[<-mP.out,<-eQ.out] at eF
   obtain⟨a3,G3,rfl,_,_,_⟩:=aV.ofOwn eF
   clear ji own
   go_wp2_with fail
   go_ret2
   exact⟨a3,G3,by rw[hlen.out,aJ.out];rfl,by rw[hlen.out];exact yx eF (Nat.le_succ _),aC⟩
theorem jt (x:Int)(w:World):
  Calls Tryz.prog 80 #[.int .i64 x] w fun e w'=>e=.returned (.bool (dG x 0 3))/\w'=w:=by
 by_cases h0:0<=x
 .by_cases h1:x<4
  .rw[show dG x 0 3=true by unfold dG;simp;omega]
   go_enter Tryz.func80,Tryz.ntmps80
   go_wp2_with fail
   go_ret
   exact⟨rfl,rfl⟩
  rw[show dG x 0 3=false by unfold dG;simp;omega]
  go_enter Tryz.func80,Tryz.ntmps80
  go_wp2_with fail
  go_ret
  exact⟨rfl,rfl⟩
 rw[show dG x 0 3=false by unfold dG;simp;omega]
 go_enter Tryz.func80,Tryz.ntmps80
 go_wp2_with fail
 go_ret
 exact⟨rfl,rfl⟩
def zL (r:Rw):Int:=if bU r.blocks=0 then aH (cm r) else bU r.blocks
theorem oz (r:Lr)(w:World)(hg:r.Good w)(h:r.bs.length<=8):
  Calls Tryz.prog 140 #[r.v] w fun e w'=>e=.returned (.int .i64 (zL r.rw))/\Below w.heap.size w w':=by
 have c1:=fun W k=>uk r W k h
 have c2:=fun a c W k=>mU a c (pO r.rw) W k
 have g1:=fun o=>hg.alloc o
 unfold Lr.v at*
 have hz:bU r.rw.blocks=0->zL r.rw=aH (pO r.rw):=fun e=>by unfold zL pO;rw[if_pos e,if_pos e]
 have hn:bU r.rw.blocks≠0->zL r.rw=bU r.rw.blocks:=fun e=>by unfold zL;rw[if_neg e]
 generalize zL r.rw=F at*
 generalize bU r.rw.blocks=E at*
 generalize pO r.rw=L at*
 obtain⟨bs,ba,bc,hd,ha,hc⟩:=r
 simp only at*
 generalize bs.length=n1 at*
 generalize hd.length=n2 at*
 clear hg h
 by_cases hE:E=0
 .have xj:=aa (hz hE)
  subst hE
  clear hz hn
  go_enter Tryz.func140,Tryz.ntmps140
  go_wp2_with fail
  go_at_call 81
  refine(c1 _ (g1 _)).mono ?_
  rintro e w2 ⟨a2,G2,rfl,eV,b2⟩
  have am:=ac (ax (Below.refl _ w) _) b2
  obtain⟨a3,G3,e3,s3,_,_⟩:=aV.ofOwn eV
  simp only[Value.slice.injEq,true_and] at e3
  obtain⟨rfl,rfl⟩:=e3
  go_wp2_with fail
  go_at_call 175
  refine(c2 _ _ _ s3).mono ?_
  rintro e w4 ⟨rfl,b4⟩
  have ay:=ac am b4
  go_wp2_with fail
  go_ret
  exact⟨by rw[xj.out];rfl,ay⟩
 have ES:=aa (hn hE)
 clear hz hn
 go_enter Tryz.func140,Tryz.ntmps140
 go_wp2_with fail
 go_at_call 81
 refine(c1 _ (g1 _)).mono ?_
 rintro e w2 ⟨a2,G2,rfl,eV,b2⟩
 have am:=ac (ax (Below.refl _ w) _) b2
 go_wp2_with fail
 go_ret
 exact⟨by rw[ES.out];rfl,am⟩
theorem zH (r:Lr)(w:World)(hg:r.Good w):
  Calls Tryz.prog 111 #[r.v] w fun e w'=>e=.returned (.int .i64 (dV r.rw))/\Below w.heap.size w w':=by
 by_cases h:r.bs.length<=8
 .have hE:dV r.rw=zL r.rw:=by unfold dV zL;rw[if_neg (by unfold Lr.rw;simp only[List.length_map];omega)]
  have c1:=fun W k=>oz r W k h
  rw[<-hE] at c1
  have g1:=fun o=>hg.alloc o
  generalize dV r.rw=F at*
  clear hE
  unfold Lr.v at*
  obtain⟨bs,ba,bc,hd,ha,hc⟩:=r
  simp only at*
  generalize bs.length=n1 at*
  generalize hd.length=n2 at*
  have h':¬(8:Int)<n1:=by omega
  clear hg
  go_enter Tryz.func111,Tryz.ntmps111
  go_wp2_with fail
  go_at_call 140
  refine(c1 _ (g1 _)).mono ?_
  rintro e w2 ⟨rfl,b2⟩
  have am:=ac (ax (Below.refl _ w) _) b2
  go_wp2_with fail
  go_ret
  exact⟨rfl,am⟩
 have hE:dV r.rw=2:=by unfold dV;rw[if_pos (by unfold Lr.rw;simp only[List.length_map];omega)]
 have hf:=hg.few
 rw[hE]
 unfold Lr.v
 obtain⟨bs,ba,bc,hd,ha,hc⟩:=r
 simp only at*
 generalize bs.length=n1 at*
 generalize hd.length=n2 at*
 have h':(8:Int)<n1:=by omega
 clear hg hE
 go_enter Tryz.func111,Tryz.ntmps111
 go_wp2_with fail
 go_ret
 exact⟨rfl,(Below.refl _ _).alloc (Nat.le_refl _) _⟩
theorem Gp (n:Nat)(ao:Option Addr)(cap:Nat)(w:World)(h:n≠4):
  Calls Tryz.prog 79 #[.agg #[.slice ao n cap]] w fun e w'=>e=.returned (.int .i64 4)/\Below w.heap.size w w':=by
 have h':¬(n:Int)=4:=by omega
 go_enter Tryz.func79,Tryz.ntmps79
 go_wp2_with fail
 go_ret
 exact⟨rfl,(Below.refl _ _).alloc (Nat.le_refl _) _⟩
theorem Dg (l:List Lr)(ao:Option Addr)(cap:Nat)(w:World)(hs:bL w ao cap l)(h4:l.length=4):
  Calls Tryz.prog 79 #[.agg #[.slice ao 4 cap]] w fun e w'=>e=.returned (.int .i64 (iX (l.map Lr.rw)))/\Below w.heap.size w w':=by
 obtain⟨E,hE⟩:∃E,E=iX (l.map Lr.rw):=⟨_,rfl⟩
 rw[<-hE]
 have H0:Hid (E=iX ((l.drop 0).map Lr.rw)):=by rw[List.drop_zero];exact hE
 clear hE
 obtain⟨b,off,rfl,ld⟩:=hs.where (by intro e;rw[e] at h4;simp at h4)
 replace h4:=aa h4
 go_enter Tryz.func79,Tryz.ntmps79
 go_wp2_with fail
 have B0:=ag.laid w [.slice (some ⟨b,off,none⟩) 4 cap] 24 _ rfl
 have cq:Below w.heap.size w (w.alloc (.cells #[.slice (some ⟨b,off,none⟩) 4 cap] 24)):=(Below.refl _ _).alloc (Nat.le_refl _) _
 generalize w.alloc _=w1 at*
 go_loopw [13] (fun i wr=>∃(k:Nat),k<=4/\i=.int .i64 k/\Hid (E=iX ((l.drop k).map Lr.rw))/\Below w.heap.size w wr) (fun i _=>4-(intOf i).toNat)
 case atStart=>exact⟨0,by omega,rfl,H0,cq⟩
 case round=>
  clear H0 B0 cq
  obtain⟨k,hk,rfl,H0,bel⟩:=hrel
  by_cases aE:k<4
  .have dZ:=hs.keep bel (Nat.le_refl _)
   obtain⟨r,hr⟩:∃r,l[k]? =some r:=⟨_,List.getElem?_eq_getElem (by rw[h4.out];exact aE)⟩
   obtain⟨e0,e1,gr⟩:=dZ.at k r hr
   have hd:l.drop k=r::l.drop (k+1):=by
    obtain⟨fC,rfl⟩:=List.getElem?_eq_some_iff.1 hr
    exact List.drop_eq_getElem_cons fC
   have aJ:=H0.out
   rw[hd,List.map_cons,iX] at aJ
   have c1:=fun W h=>zH r W h
   unfold Lr.v at c1
   clear H0 hd hr dZ
   by_cases hE:dV r.rw=0
   .rw[if_pos hE] at aJ
    rw[hE] at c1
    replace aJ:=aa aJ
    clear hE
    go_wp2_with fail
    go_at_call 111
    refine(c1 _ (gr.alloc _)).mono ?_
    rintro e w2 ⟨rfl,b2⟩
    have am:=ac (ax bel _) b2
    go_wp2_with fail
    go_roundw
    case rel=>exact⟨k+1,by omega,by go_num,aJ,am⟩
    case measure=>simp[intOf];omega
   rw[if_neg hE] at aJ
   generalize dV r.rw=F at*
   replace aJ:=aa aJ
   go_wp2_with fail
   go_at_call 111
   refine(c1 _ (gr.alloc _)).mono ?_
   rintro e w2 ⟨rfl,b2⟩
   have am:=ac (ax bel _) b2
   go_wp2_with fail
   go_ret
   exact⟨by rw[aJ.out];rfl,am⟩
  obtain rfl:k=4:=by omega
  have aJ:=H0.out
  rw[List.drop_eq_nil_of_le (by rw[h4.out];exact Nat.le_refl _)] at aJ
  replace aJ:=aa aJ
  clear H0
  go_wp2_with fail
  go_ret
  exact⟨by rw[aJ.out];rfl,bel⟩
theorem lI (l:List Lr)(ao:Option Addr)(cap:Nat)(w:World)(hs:bL w ao cap l):
  Calls Tryz.prog 79 #[.agg #[.slice ao l.length cap]] w fun e w'=>e=.returned (.int .i64 (az (l.map Lr.rw)))/\Below w.heap.size w w':=by
 unfold az
 rw[List.length_map]
 by_cases h:l.length=4
 .rw[if_pos h,h]
  exact Dg l ao cap w hs h
 rw[if_neg h]
 exact Gp l.length ao cap w h
def NU:Lr:=⟨[],none,0,[],none,0⟩
theorem A4 (w:World):NU.Good w:=⟨pB.ofNil w,aV.ofNil w,by decide,by decide⟩
def pa:List Lr:=[NU,NU,NU,NU]
end Go.Proofs.YtoonnbhoiocoeaaGreatDoor
