/-
  The contracts of package disk, and of the reference, over disks in boxes: what they answer as it is laid into a box.
-/
import Derived.Lib.SliceRun
import Derived.Deep.DeepAppendWide
import Derived.Deep.RegionLaw
import Derived.Laws.CopyOwn
import Derived.Test.YtoonnbhoiocoeaaGreatDoorP20
import Derived.Test.YtoonnbhoiocoeaaGreatDoorP23
import Derived.Test.YtoonnbhoiocoeaaGreatDoorP22
import Derived.Test.YtoonnbhoiocoeaaGreatDoorP03
import Derived.Test.YtoonnbhoiocoeaaGreatDoorP11
import Derived.Test.YtoonnbhoiocoeaaGreatDoorP01
import Derived.Test.YtoonnbhoiocoeaaGreatDoorP18
import Derived.Test.YtoonnbhoiocoeaaGreatDoorP19
import Derived.Test.YtoonnbhoiocoeaaGreatDoorP04
import Derived.Test.YtoonnbhoiocoeaaGreatDoorP07
set_option maxHeartbeats 40000000
set_option maxRecDepth 100000
set_option linter.unusedVariables false
namespace Go.Proofs.YtoonnbhoiocoeaaGreatDoor
open Go.RowKit
open Go.Lib (byteCells)
def RJ (W:World)(D:Dk)(L:List Rc)(E:Int)(e:Ending)(w':World):Prop:=
 ∃(a1:Option Addr) (n1 c1:Nat) (a2:Option Addr) (n2 c2:Nat) (a3:Option Addr) (n3 G3:Nat) (l:List bF),e=.returned (.tuple #[.agg #[.slice a1 n1 c1,.slice a2 n2 c2],.slice a3 n3 G3,.int .i64 E])/\
  Lp (w'.alloc (.cells #[.slice a1 n1 c1,.slice a2 n2 c2] 27)) w'.heap.size a1 n1 c1 a2 n2 c2 D/\dI (w'.alloc (.cells #[.slice a1 n1 c1,.slice a2 n2 c2] 27)) a3 G3 l/\Hid (n3=l.length)/\Hid (l.map (·.r)=L)/\Below W.heap.size W (w'.alloc (.cells #[.slice a1 n1 c1,.slice a2 n2 c2] 27))
theorem Ml.laid {W w':World}{D:Dk}{L:List Rc}{E:Int}{e:Ending}(h:Ml W D L E e w'):RJ W D L E e w':=by
 obtain⟨a1,a2,a3,n1,n2,c1,c2,n3,G3,l,he,h1,h2,s1,s2,R,hl,b⟩:=h
 exact⟨a1,n1,c1,a2,n2,c2,a3,n3,G3,l,he,⟨ac.laid w' [.slice a1 n1 c1,.slice a2 n2 c2] _ _ rfl,h1,h2,s1.alloc _,s2.alloc _⟩,R.sl.call (newB (Below.refl _ _) _),R.len,hl,newB b _⟩
variable {W:World} {g:Nat} {a1:Option Addr} {n1 c1:Nat} {a2:Option Addr} {n2 c2:Nat} {d:Dk}
end Go.Proofs.YtoonnbhoiocoeaaGreatDoor
namespace Go.Proofs.YtoonnbhoiocoeaaGreatDoor
open Go.RowKit
theorem IU (ao:Option Addr)(cap:Nat)(C:List Value)(n:Nat)(w:World)(dA:Row w ao C)(fF:n<=cap)(jq:ao=none->cap=0)(aw:C.length=n*2)(one:∀v∈C,v.oneCell'=true)(hl:n<=1000000000000):
  Calls Tryz.prog 129 #[.slice ao n cap] w fun e w'=>
   ∃v',e=.returned v'/\w'.ownsRow w.heap.size 53 2 v' n C/\Below w.heap.size w w':=by
 obtain⟨i0,hi,bU,bi,bk⟩:=info_parts x9
 have q:∀(w:World) (a:Option Addr) (n c n' c':Nat),(binOp .eql 22 (.slice a n c) (.slice none n' c')).run Tryz.prog w=.ok (.bool a.isNone) w:=fun w a n c n' c'=>Lib.run_eql_slice_nil w _ _ a n c n' c' Tryz.underlying22
 cases ao with
 |none=>
  obtain rfl:=jq rfl
  obtain rfl:n=0:=by omega
  obtain rfl:C=[]:=List.eq_nil_of_length_eq_zero aw
  clear aw
  go_enter Tryz.func129,Tryz.ntmps129
  go_wp2_with fail
  go_ret
  exact⟨_,rfl,World.ownsRow_nil _ _ _ _,Below.refl _ _⟩
 |some ad=>
  have fj:(w.alloc (.cells #[] 53)).ownsRow w.heap.size 53 2 (.slice (some ⟨w.heap.size,0,none⟩) 0 0) 0 []:=
   ⟨rfl,.inr ⟨w.heap.size,0,#[],rfl,Nat.le_refl _,heap_alloc_new w _,Nat.le_refl _,by decide,rfl,rfl⟩⟩
  have fZ:=(Below.refl w.heap.size w).alloc (Nat.le_refl _) (Obj.cells #[] 53)
  have hs:=dA.alloc (.cells #[] 53)
  have fc:∀j u,C[j]? =some u->(w.alloc (.cells #[] 53)).cell? (ad.add j)=some u:=by
   intro j u hu
   obtain⟨b',k8,e,_,hc⟩:=hs.at (by intro e;rw[e] at hu;simp at hu)
   obtain rfl:=Option.some.inj e
   rw[Addr.add_lit]
   exact hc j u hu
  have bA:w.heap.size<=(w.alloc (.cells #[] 53)).heap.size:=by simp
  replace aw:=hide aw
  clear dA hs jq
  go_enter Tryz.func129,Tryz.ntmps129
  go_wp2_with (at_builtin;refine wpList_append_own_wide _ rfl (.tmp 5) (.tmp 6) 22 rfl w.heap.size 53 i0 (.agg #[.slice none 0 0,.slice none 0 0]) 2 48 Tryz.underlying22 hi bU bi bk rfl (by decide) _ 0 _ rfl fj ad n cap C rfl aw.out fc one (by unfold maxLen;omega) (by omega) bA ?_)
  intro v' w1 eB cY _
  have aU:=aH fZ fj cY (Nat.le_refl _) bA
  obtain⟨a1,c1,rfl⟩:∃a1 c1,v'=.slice a1 n c1:=by
   rcases eB.2 with⟨rfl,h0⟩| ⟨g,cp,cur,rfl,_⟩
   .subst h0
    exact⟨_,_,rfl⟩
   .exact⟨_,_,rfl⟩
  go_wp2_with fail
  go_ret
  exact⟨_,rfl,eB,aU⟩
theorem k' {P:Program}(w:World){ops:Array Oper}{rest:List Oper}{o:Oper}{a:Act}{Q:Exit->Act->World->Prop}(uc:o.guard=none)(s x:Operand)(t:TypeId)
  (ho:o.op=.call {callee:=.builtin .append,args:=#[s,x],argTypes:=#[t,t]})
  (e:TypeId) (i:TypeInfo) (z:Value) (ht:P.underlying t=some (.slice e)) (hi:P.info? e=some i) (hz:i.zero=some z) (JX:z.cells.size=i.size) (dz:0<i.size)
  (b:Addr) (hs:a.eval s=.slice (some b) 0 0)
  (ad:Addr) (m c:Nat) (news:List Value) (hx:a.eval x=.slice (some ad) m c) (hl:news.length=m*i.size) (lm:∀j u,news[j]? =some u->w.cell? (ad.add j)=some u)
  (hm:0<m) (Hn:m<=maxLen) (qV:m*i.bytes<=140737488355328)
  (h:∀G L w',ac w' w.heap.size (news++L) e->(∀v∈L,v∈z.cells.toList)->news.length+L.length=G*i.size->m<=G->G<=maxLen->w.grownBy w' none->wpList P ops Q rest (a.put o.dst (.slice (some ⟨w.heap.size,0,none⟩) m G)) w'):wpList P ops Q (o::rest) a w:=by
 refine wpList_plain uc fun K hK=>?_
 have Uv:((0+m:Nat):Int)<=9223372036854775807:=by unfold maxLen at Hn;omega
 have ky:=run_append_grow (P:=P) w t o.type e i z ht hi hz b 0 0 [] (by simp) (by simp) ad m c news hl lm (by omega) Uv (growslice_fits (by omega) (by rw[Nat.zero_add];exact qV))
 have Pr:=grownCap_ge w (0+m) 0 e
 have rW:grownCap w (0+m) 0 e<=maxLen:=grownCap_le_maxLen w (0+m) 0 e (by rw[Nat.zero_add];exact Hn)
 rw[Nat.zero_add] at ky Pr rW
 unfold Oper.wp
 simp only[execOp,ho,resolve,invoke,builtin,Sem.run_bind,Sem.run_pure,Result.andThen_ok,List.map_toArray,List.map_cons,List.map_nil,hs,hx,ky]
 refine hK _ _ (h _ (Builtin.zeroCells z.cells (grownCap w m 0 e-m)).toList _ ?_ ?_ ?_ Pr rW ⟨rfl,rfl,rfl,by simp,fun k hk _=>heap_alloc_old w.drew _ hk⟩)
 .unfold ac
  have hn:=heap_alloc_new w.drew (.cells (([]:List Value).toArray++news.toArray++Builtin.zeroCells z.cells (grownCap w m 0 e-m)) e)
  rw[show w.drew.heap.size=w.heap.size from rfl] at hn
  rw[hn]
  congr 2
  apply Array.toList_inj.1
  simp
 .intro v hv
  simp only[Builtin.zeroCells,Array.toList_map,List.mem_map] at hv
  obtain⟨j,_,rfl⟩:=hv
  have hj:j % z.cells.size<z.cells.size:=Nat.mod_lt _ (by omega)
  rw[getElem!_pos z.cells _ hj]
  exact Array.getElem_mem_toList hj
 .rw[hl,Array.length_toList,size_zeroCells,JX,<-Nat.add_mul]
  congr 1
  omega
theorem tw (ad:Addr)(cap:Nat)(C:List Value)(n:Nat)(w:World)(dA:Row w (some ad) C)(aw:C.length=n*2)(hn:0<n)(hl:n<=1000000000000):
  Calls Tryz.prog 129 #[.slice (some ad) n cap] w fun e w'=>
   ∃g G L,e=.returned (.slice (some ⟨g,0,none⟩) n G)/\ac w' g (C++L) 53/\(∀v∈L,v=.slice none 0 0)/\n<=G/\G<=9223372036854775807/\w.heap.size<=g/\Below w.heap.size w w':=by
 obtain⟨i0,hi,bU,bi,bk⟩:=info_parts x9
 have q:∀(w:World) (a:Option Addr) (n c n' c':Nat),(binOp .eql 22 (.slice a n c) (.slice none n' c')).run Tryz.prog w=.ok (.bool a.isNone) w:=fun w a n c n' c'=>Lib.run_eql_slice_nil w _ _ a n c n' c' Tryz.underlying22
 have fZ:=(Below.refl w.heap.size w).alloc (Nat.le_refl _) (Obj.cells #[] 53)
 have hs:=dA.alloc (.cells #[] 53)
 have fc:∀j u,C[j]? =some u->(w.alloc (.cells #[] 53)).cell? (ad.add j)=some u:=by
  intro j u hu
  obtain⟨b',k8,e,_,hc⟩:=hs.at (by intro e;rw[e] at hu;simp at hu)
  obtain rfl:=Option.some.inj e
  rw[Addr.add_lit]
  exact hc j u hu
 have e1:C.length=n*i0.size:=by rw[bi];exact aw
 have e2:(Value.agg #[.slice none 0 0,.slice none 0 0]).cells.size=i0.size:=by rw[bi];rfl
 have e3:n*i0.bytes<=140737488355328:=by rw[bk];omega
 replace aw:=hide aw
 replace e1:=hide e1
 replace e2:=hide e2
 clear dA hs
 go_enter Tryz.func129,Tryz.ntmps129
 go_wp2_with (at_builtin;refine k' _ rfl (.tmp 5) (.tmp 6) 22 rfl 53 i0 (.agg #[.slice none 0 0,.slice none 0 0]) Tryz.underlying22 hi bU e2.out (by rw[bi];decide) ⟨w.heap.size,0,none⟩ rfl ad n cap C rfl e1.out fc hn (by unfold maxLen;omega) e3 ?_)
 intro G L w1 B1 hL _ hG r7 cY
 have aU:Below w.heap.size w w1:=fZ.grown cY (by simp) (fun k h=>by cases h)
 go_wp2_with fail
 go_ret
 refine⟨_,G,L,rfl,B1,?_,hG,by unfold maxLen at r7;exact r7,by simp,aU⟩
 intro v hv
 have:=hL v hv
 simpa[Value.cells] using this
end Go.Proofs.YtoonnbhoiocoeaaGreatDoor
namespace Go.Proofs.YtoonnbhoiocoeaaGreatDoor
open Go.RowKit
theorem JO (w:World):Calls Tryz.prog 143 #[.int .u64 1,.int .u64 3] w fun e w'=>e=.returned (.tuple #[.int .u64 0,.int .u64 3])/\w'=w:=by
 go_enter Tryz.func143,Tryz.ntmps143
 go_wp2_with fail
 have e1:bits BinOp.and IntKind.u64 1 4294967295=1:=by kernel_rfl
 have e3:bits BinOp.and IntKind.u64 3 4294967295=3:=by kernel_rfl
 exact bodyPost_ret (v:=.tuple #[.int .u64 0,.int .u64 3]) (by simp[results,Tryz.results143,go_sem,e1,e3];kernel_rfl) rfl ⟨rfl,rfl⟩
theorem OX (w:World):Calls Tryz.prog 115 #[.int .u64 1,.int .u64 3] w fun e w'=>e=.returned (.tuple #[.int .u64 0,.int .u64 3])/\w'=w:=by
 have c:=fun W=>JO W
 go_enter Tryz.func115,Tryz.ntmps115
 go_wp2_with fail
 go_at_call 143
 refine(c _).mono ?_
 rintro e w2 ⟨rfl,rfl⟩
 go_wp2_with fail
 exact bodyPost_ret (v:=.tuple #[.int .u64 0,.int .u64 3]) (by simp[results,Tryz.results115,go_sem]) rfl ⟨rfl,rfl⟩
theorem IW:(Tryz.prog.info? 3).map (fun i=>(i.zero,i.size,i.bytes))=some (some (.int .i64 0),1,8):=by kernel_rfl
theorem Ha:(Tryz.prog.info? 3).map (·.size)=some 1:=by kernel_rfl
theorem NB (b:Nat)(w:World)(B:ac w b [.int .i64 (-1)] 3):
  Calls Tryz.prog 87 #[.slice (some ⟨b,0,none⟩) 1 1,.int .i64 3] w fun e w'=>∃g,e=.returned (.slice (some ⟨g,0,none⟩) 3 3)/\ac w' g [.int .i64 (-1),.int .i64 (-1),.int .i64 (-1)] 3/\w.heap.size<=g/\Below w.heap.size w w':=by
 obtain⟨i0,hi,bU,bi,bk⟩:=info_parts IW
 have c:=fun W=>OX W
 have lb:=B.lt
 go_enter Tryz.func87,Tryz.ntmps87
 go_wp2_with fail
 go_at_call 115
 refine(c _).mono ?_
 rintro e w2 ⟨rfl,rfl⟩
 go_wp2_with (at_make;refine wpList_make_full _ rfl (.tmp 29) (.tmp 29) 28 rfl w2.heap.size 3 i0 (.int .i64 0) 1 Tryz.underlying28 hi bU bi _ _ _ _ 3 rfl rfl rfl rfl (by rw[bk];omega) (by unfold maxLen;omega) (Nat.le_refl _) ?_)
 intro w3 own grow
 have bel:Below w2.heap.size w2 w3:=(Below.refl _ _).grown grow (Nat.le_refl _) (fun k h=>by cases h)
 obtain⟨L,hL,BL⟩:=ph own
 have BB:=B.keep bel lb
 clear own grow
 generalize hg:w2.heap.size=g at*
 match L,hL with
 | [u0,u1,u2],_=>
  have iJ:∀j v,[Value.int .i64 (-1)][j]? =some v->w3.cell? ((⟨b,0,none⟩:Addr).add j)=some v:=by
   intro j v hv
   rw[Addr.add_lit,Nat.zero_add,BB.cell]
   exact hv
  go_wp2_with (refine wpList_copy_splice rfl (.tmp 31) (.tmp 32) 28 28 rfl 3 Tryz.underlying28 Ha _ _ 3 3 1 1 rfl rfl g 0 [u0,u1,u2] 3 BL [.int .i64 (-1)] rfl (fun _=>⟨rfl,_,rfl,iJ⟩) (by simp) (by simp[Value.oneCell']) g w2 bel (Nat.le_refl _) ?_)
  intro w4 h4 aC
  have B4:ac w4 g [.int .i64 (-1),u1,u2] 3:=h4.out
  clear h4 iJ BL BB bel
  go_wp2_with fail
  refine wp_loop_rounds 3 ?_
  rw[rounds_succ]
  have dZ:∀j v,[Value.int .i64 (-1)][j]? =some v->w4.cell? ((⟨g,0,none⟩:Addr).add j)=some v:=by
   intro j v hv
   rw[Addr.add_lit,Nat.zero_add,B4.cell]
   match j,hv with
   |0,hv=>exact hv
   |j+1,hv=>simp at hv
  go_wp2_with fail
  have VA:ac w4.drew g [.int .i64 (-1),u1,u2] 3:=B4
  have fo:∀v∈[Value.int .i64 (-1)],v.oneCell'=true:=by simp[Value.oneCell']
  have dS:1+[Value.int .i64 (-1)].length<=[Value.int .i64 (-1),u1,u2].length:=by simp
  have kx:[Value.int .i64 (-1)].length=Nat.min 1 2:=by simp
  go_region_law (refine step_copy_splice (by rfl) (.tmp 41) (.tmp 44) 28 28 (by rfl) 3 Tryz.underlying28 Ha (some ⟨g,1,none⟩) (some ⟨g,0,none⟩) 2 2 1 3 (by go_simp) (by go_simp) g 1 [.int .i64 (-1),u1,u2] 3 VA [.int .i64 (-1)] kx (fun _=>⟨rfl,_,rfl,dZ⟩) dS fo g w2 (ai aC) (Nat.le_refl _) ?_;intro w5 h5 bE)
  all_goals(
   have B5:ac w5 g [.int .i64 (-1),.int .i64 (-1),u2] 3:=h5.out
   clear h5 dZ VA B4 aC fo dS kx
   go_wp2_with fail
   rw[rounds_succ]
   have gM:∀j v,[Value.int .i64 (-1)][j]? =some v->w5.cell? ((⟨g,0,none⟩:Addr).add j)=some v:=by
    intro j v hv
    rw[Addr.add_lit,Nat.zero_add,B5.cell]
    match j,hv with
    |0,hv=>exact hv
    |j+1,hv=>simp at hv
   have fo:∀v∈[Value.int .i64 (-1)],v.oneCell'=true:=by simp[Value.oneCell']
   have dS:2+[Value.int .i64 (-1)].length<=[Value.int .i64 (-1),.int .i64 (-1),u2].length:=by simp
   have kx:[Value.int .i64 (-1)].length=Nat.min 2 1:=by simp
   have Ut:ac w5.drew g [.int .i64 (-1),.int .i64 (-1),u2] 3:=B5
   go_wp2_with fail
   go_region_law (refine step_copy_splice (by rfl) (.tmp 41) (.tmp 44) 28 28 (by rfl) 3 Tryz.underlying28 Ha (some ⟨g,2,none⟩) (some ⟨g,0,none⟩) 1 1 2 3 (by go_simp) (by go_simp) g 2 [.int .i64 (-1),.int .i64 (-1),u2] 3 Ut [.int .i64 (-1)] kx (fun _=>⟨rfl,_,rfl,gM⟩) dS fo g w2 (ai bE) (Nat.le_refl _) ?_;intro w6 h6 dy)
   all_goals(
    have B6:ac w6 g [.int .i64 (-1),.int .i64 (-1),.int .i64 (-1)] 3:=h6.out
    clear h6 gM Ut B5 bE fo dS kx
    go_wp2_with fail
    rw[rounds_succ]
    go_wp2_with fail
    go_ret
    exact⟨g,rfl,B6,by omega,by rw[hg];exact dy⟩))
theorem p5 (w:World):
  Calls Tryz.prog 45 #[] w fun e w'=>∃g,e=.returned (.slice (some ⟨g,0,none⟩) 3 3)/\ac w' g [.int .i64 (-1),.int .i64 (-1),.int .i64 (-1)] 3/\w.heap.size<=g/\Below w.heap.size w w':=by
 have B:=ac.laid w [.int .i64 (-1)] 3 _ rfl
 have bel:=(Below.refl w.heap.size w).alloc (Nat.le_refl _) (.cells #[.int .i64 (-1)] 3)
 have c:=fun W h=>NB w.heap.size W h
 go_enter Tryz.func45,Tryz.ntmps45
 go_wp2_with fail
 go_at_call 87
 refine(c _ B).mono ?_
 rintro e w2 ⟨g,rfl,BG,hg,b2⟩
 go_wp2_with fail
 go_ret
 exact⟨g,rfl,BG,Nat.le_trans bel.size hg,aa bel b2⟩
end Go.Proofs.YtoonnbhoiocoeaaGreatDoor
namespace Go.Proofs.YtoonnbhoiocoeaaGreatDoor
open Go.RowKit
open Go.Lib (byteCells)
structure Pw where
 sa:Option Addr
 sn:Nat
 sG:Nat
 a1:Option Addr
 n1:Nat
 c1:Nat
 a2:Option Addr
 n2:Nat
 c2:Nat
 ra:Option Addr
 rn:Nat
 rc:Nat
def Pw.cells (p:Pw)(up:Bool):List Value:=[.slice p.sa p.sn p.sG,.slice p.a1 p.n1 p.c1,.slice p.a2 p.n2 p.c2,.bool up,.slice p.ra p.rn p.rc]
def Pw.val (p:Pw)(up:Bool):Value:=.agg #[.slice p.sa p.sn p.sG,.slice p.a1 p.n1 p.c1,.slice p.a2 p.n2 p.c2,.bool up,.slice p.ra p.rn p.rc]
def Sh:Pw:=⟨none,0,0,none,0,0,none,0,0,none,0,0⟩
structure ej (W:World)(p:Pw)(x:Wd):Prop where
 es:p.sn=x.c.length
 e1:p.n1=x.d.safe.length
 e2:p.n2=x.d.wait.length
 er:p.rn=x.rd.length
 s:dC W p.sa p.sG x.c
 s1:Sl W p.a1 p.c1 (byteCells x.d.safe)
 s2:Sl W p.a2 p.c2 (byteCells x.d.wait)
 r:Sl W p.ra p.rc (x.rd.map (Value.int .i64))
theorem ej.keep {W W':World}{p:Pw}{x:Wd}{B:Nat}(h:ej W p x)(hb:Below B W W')(hB:W.heap.size<=B):ej W' p x:=
 ⟨h.es,h.e1,h.e2,h.er,h.s.keep hb hB,h.s1.keep hb hB,h.s2.keep hb hB,h.r.keep hb hB⟩
theorem ej.call {W W':World}{p:Pw}{x:Wd}(h:ej W p x)(hb:Below W.heap.size W W'):ej W' p x:=h.keep hb (Nat.le_refl _)
theorem ej.alloc {W:World}{p:Pw}{x:Wd}(h:ej W p x)(o:Obj):ej (W.alloc o) p x:=h.call ((Below.refl _ _).alloc (Nat.le_refl _) o)
theorem ej.nil (W:World):ej W Sh NS:=⟨rfl,rfl,rfl,rfl,dC.none W,Sl.ofNil W,Sl.ofNil W,Sl.ofNil W⟩
theorem Row.offLong {w:World}{ao:Option Addr}{g:Nat}{cs ds:List Value}{t:TypeId}(h:Row w ao cs)(B:ac w g ds t)(hl:ds.length<cs.length):Off g ao:=by
 obtain⟨b,off,rfl,hb,hc⟩:=h.at (by intro e;rw[e] at hl;simp at hl)
 intro ad e
 cases e
 intro e
 have e:b=g:=e
 subst e
 have h0:=hc (cs.length-1) _ (List.getElem?_eq_getElem (by omega))
 rw[B.cell] at h0
 have:=(List.getElem?_eq_some_iff.1 h0).1
 omega
theorem Row.offKind {w:World}{ao:Option Addr}{g:Nat}{cs ds:List Value}{t:TypeId}(h:Row w ao cs)(B:ac w g ds t){i:Nat}{v:Value}(hv:cs[i]? =some v)(hn:v∉ds):Off g ao:=by
 obtain⟨b,off,rfl,hb,hc⟩:=h.at (by intro e;rw[e] at hv;simp at hv)
 intro ad e
 cases e
 intro e
 have e:b=g:=e
 subst e
 have h0:=hc i _ hv
 rw[B.cell] at h0
 exact hn (List.mem_of_getElem? h0)
theorem Row.offBools {w:World}{ao:Option Addr}{g:Nat}{cs:List Value}{t:TypeId}{a1 a2 a3 a4:Option Addr}{n1 n2 n3 n4 c1 c2 c3 c4:Nat}{u b0 b1:Bool}(h:Row w ao cs)(B:ac w g [.slice a1 n1 c1,.slice a2 n2 c2,.slice a3 n3 c3,.bool u,.slice a4 n4 c4] t)(h0:cs[0]? =some (.bool b0))(h1:cs[1]? =some (.bool b1)):Off g ao:=by
 obtain⟨b,off,rfl,hb,hc⟩:=h.at (by intro e;rw[e] at h0;simp at h0)
 intro ad e
 cases e
 intro e
 have e:b=g:=e
 subst e
 have k0:=hc 0 _ h0
 have k1:=hc 1 _ h1
 rw[B.cell] at k0 k1
 match off,k0,k1 with
 |0,k0,_=>simp at k0
 |1,k0,_=>simp at k0
 |2,k0,_=>simp at k0
 |3,_,k1=>simp at k1
 |4,k0,_=>simp at k0
 |n+5,k0,_=>simp at k0
theorem Ek {b:Bk}(h:bI b=0):8<=b.bits.length:=by
 unfold bI at h
 split at h
 .rename_i hu
  split at h
  .rename_i hf
   obtain⟨k1,k2,k3⟩:=unpack_pack hu
   unfold kc at hf
   have rx:=(of_decide_eq_true hf).1
   obtain⟨c,e,e1,_⟩:=OP k1 0
   rw[k2] at e
   rw[e,List.length_append]
   omega
  .cases h
 .rename_i hu
  exact absurd h hu
theorem bJ.boxW {w w':World}{a:Option Addr}{G g:Nat}{rs:List Lr}{t:TypeId}{a1 a2 a3 a4:Option Addr}{n1 n2 n3 n4 c1 c2 c3 c4:Nat}{u:Bool}(h:bJ w a G rs)(hz:aE (rs.map Lr.rw)=0)(B:ac w g [.slice a1 n1 c1,.slice a2 n2 c2,.slice a3 n3 c3,.bool u,.slice a4 n4 c4] t)(hg:w.grownBy w' (some g)):bJ w' a G rs:=by
 have h4:=bL hz
 rw[List.length_map] at h4
 have hl:=ar Lr.two rs
 refine⟨⟨h.sl.row.off hg (h.sl.row.offLong B (by rw[hl,h4];simp)),h.sl.le,h.sl.max,h.sl.nil⟩,fun r hr=>?_⟩
 have good:=h.good r hr
 have dA:=(fX hz).2 r.rw (List.mem_map.2 ⟨r,hr,rfl⟩)
 refine⟨⟨⟨?_,good.bs.sl.le,good.bs.sl.max,good.bs.sl.nil⟩,fun x hx=>?_⟩,⟨?_,good.hd.le,good.hd.max,good.hd.nil⟩,good.few,good.hfew⟩
 .by_cases hb:r.bs=[]
  .rw[hb];exact .inl rfl
  .obtain⟨y,q,hy⟩:=List.exists_cons_of_ne_nil hb
   exact good.bs.sl.row.off hg (good.bs.sl.row.offKind B (i:=0) (v:=.int .i64 y.b.n) (by rw[hy];rfl) (by simp))
 .have gx:=good.bs.good x hx
  have hp:bI x.b=0:=mR (ii dA).2.1 x.b (List.mem_map.2 ⟨x,hx,rfl⟩)
  have h8:=Ek hp
  refine⟨gx.bits.off hg ?_,gx.few⟩
  match hbits:x.b.bits,h8 with
  |b0::b1::q,_=>
   have:=gx.bits.row
   rw[hbits] at this
   exact this.offBools B (b0:=b0) (b1:=b1) rfl rfl
 .by_cases hb:r.hd=[]
  .rw[hb];exact .inl rfl
  .obtain⟨y,q,hy⟩:=List.exists_cons_of_ne_nil hb
   exact good.hd.row.off hg (good.hd.row.offKind B (i:=0) (v:=.int .i64 y.1) (by rw[hy];rfl) (by simp))
structure jn (P:Nat->Prop)(W:World)(a:Option Addr)(G:Nat)(C:List Rw):Prop where
 ex:∃rs:List Lr,rs.map Lr.rw=C/\bJ W a G rs/\∀r∈rs,r.hd≠[]->∀q,P q->Off q r.ha
theorem jn.is {P:Nat->Prop}{W:World}{a:Option Addr}{G:Nat}{C:List Rw}(k:jn P W a G C):dC W a G C:=by
 obtain⟨rs,e,s,_⟩:=k.ex
 exact⟨rs,e,s⟩
theorem jn.call {P:Nat->Prop}{W W':World}{a:Option Addr}{G:Nat}{C:List Rw}(k:jn P W a G C)(hb:Below W.heap.size W W'):jn P W' a G C:=by
 obtain⟨rs,e,s,o⟩:=k.ex
 exact⟨rs,e,s.call hb,o⟩
theorem E7 {W:World}{r:Lr}(g:r.Good W)(aF:r.hd≠[]){q:Nat}(hq:W.heap.size<=q):Off q r.ha:=by
 intro ad ea
 obtain⟨b,off,e2,hb,_⟩:=g.hd.row.at (by intro e;cases hr:r.hd with|nil=>exact aF hr|cons p l=>rw[hr] at e;cases e)
 rw[e2] at ea
 obtain rfl:=Option.some.inj ea
 show b≠q
 omega
theorem dC.old {P:Nat->Prop}{W:World}{a:Option Addr}{G:Nat}{C:List Rw}(k:dC W a G C)(hP:∀q,P q->W.heap.size<=q):jn P W a G C:=by
 obtain⟨rs,e,s⟩:=k.ex
 exact⟨rs,e,s,fun r hr aF q hq=>E7 (s.good r hr) aF (hP q hq)⟩
theorem jn.more {P P':Nat->Prop}{W:World}{a:Option Addr}{G:Nat}{C:List Rw}(k:jn P W a G C)(hP:∀q,P' q->P q\/W.heap.size<=q):jn P' W a G C:=by
 obtain⟨rs,e,s,o⟩:=k.ex
 exact⟨rs,e,s,fun r hr aF q hq=>(hP q hq).elim (o r hr aF q) (E7 (s.good r hr) aF)⟩
theorem fa.off {base:Nat}{P:Nat->Prop}{W:World}{a:Option Addr}{G:Nat}{C:List Rw}(k:fa base W a G C)(hP:∀q,P q->q<base):jn P W a G C:=by
 obtain⟨rs,e,s,l⟩:=k.ex
 exact⟨rs,e,s,fun r hr _ q hq ad ea=>by have:=l r hr ad ea;have:=hP q hq;omega⟩
theorem dC.fresh {P:Nat->Prop}{W:World}{a:Option Addr}{G:Nat}(k:dC W a G dg):jn P W a G dg:=by
 obtain⟨rs,e,s⟩:=k.ex
 refine⟨rs,e,s,fun r hr aF=>absurd ?_ aF⟩
 have hm:r.rw∈dg:=by rw[<-e];exact List.mem_map.2 ⟨r,hr,rfl⟩
 simp only[dg,List.mem_cons,List.not_mem_nil,or_false,or_self] at hm
 have:=congrArg Rw.head hm
 exact this
theorem jn.boxW {P:Nat->Prop}{w w':World}{a:Option Addr}{G g:Nat}{C:List Rw}{t:TypeId}{a1 a2 a3 a4:Option Addr}{n1 n2 n3 n4 c1 c2 c3 c4:Nat}{u:Bool}(k:jn P w a G C)(hz:aE C=0)(B:ac w g [.slice a1 n1 c1,.slice a2 n2 c2,.slice a3 n3 c3,.bool u,.slice a4 n4 c4] t)(hg:w.grownBy w' (some g)):jn P w' a G C:=by
 obtain⟨rs,rfl,s,o⟩:=k.ex
 exact⟨rs,rfl,s.boxW hz B hg,o⟩
theorem mt {ys:List Int}{v:Value}(h:∀n,v≠.int .i64 n):v∉ys.map (Value.int .i64):=by
 intro hm
 obtain⟨n,_,e⟩:=List.mem_map.1 hm
 exact h n e.symm
theorem jn.readers {P:Nat->Prop}{h:Nat}{w w':World}{a:Option Addr}{G:Nat}{C:List Rw}{ys:List Int}{t:TypeId}(k:jn P w a G C)(hp:P h)(B:ac w h (ys.map (Value.int .i64)) t)(hg:w.grownBy w' (some h)):jn P w' a G C:=by
 obtain⟨rs,rfl,s,o⟩:=k.ex
 refine⟨rs,rfl,⟨⟨?_,s.sl.le,s.sl.max,s.sl.nil⟩,fun r hr=>?_⟩,o⟩
 .by_cases hr:rs=[]
  .rw[hr];exact .inl rfl
  .obtain⟨y,q,hy⟩:=List.exists_cons_of_ne_nil hr
   exact s.sl.row.off hg (s.sl.row.offKind B (i:=0) (v:=.slice y.ba y.bs.length y.bc) (by rw[hy];rfl) (mt (fun _ e=>by cases e)))
 .have good:=s.good r hr
  refine⟨⟨⟨?_,good.bs.sl.le,good.bs.sl.max,good.bs.sl.nil⟩,fun x hx=>?_⟩,⟨?_,good.hd.le,good.hd.max,good.hd.nil⟩,good.few,good.hfew⟩
  .by_cases hb:r.bs=[]
   .rw[hb];exact .inl rfl
   .obtain⟨y,q,hy⟩:=List.exists_cons_of_ne_nil hb
    exact good.bs.sl.row.off hg (good.bs.sl.row.offKind B (i:=3) (v:=.slice y.a y.b.bits.length y.c) (by rw[hy];rfl) (mt (fun _ e=>by cases e)))
  .have gx:=good.bs.good x hx
   refine⟨?_,gx.few⟩
   by_cases hb:x.b.bits=[]
   .rw[hb];exact⟨.inl rfl,by have:=gx.bits.le;rw[hb] at this;exact this,gx.bits.max,gx.bits.nil⟩
   .obtain⟨y,q,hy⟩:=List.exists_cons_of_ne_nil hb
    exact gx.bits.off hg (gx.bits.row.offKind B (i:=0) (v:=.bool y) (by rw[hy];rfl) (mt (fun _ e=>by cases e)))
  .by_cases hb:r.hd=[]
   .rw[hb];exact .inl rfl
   .exact good.hd.row.off hg (o r hr hb h hp)
theorem dU {w w':World}{a:Option Addr}{cap g:Nat}{l:List UInt8}{ds:List Value}{t:TypeId}(S:Sl w a cap (byteCells l))(B:ac w g ds t)(hk:∀n,Value.int .u8 n∉ds)(hg:w.grownBy w' (some g)):Sl w' a cap (byteCells l):=by
 cases l with
 |nil=>exact⟨.inl rfl,S.le,S.max,S.nil⟩
 |cons b r=>exact S.off hg (S.row.offKind B (i:=0) (v:=.int .u8 b.toNat) rfl (hk _))
theorem tL {w w':World}{a:Option Addr}{cap g:Nat}{l:List Int}{ds:List Value}{t:TypeId}(S:Sl w a cap (l.map (Value.int .i64)))(B:ac w g ds t)(hk:∀n,Value.int .i64 n∉ds)(hg:w.grownBy w' (some g)):Sl w' a cap (l.map (Value.int .i64)):=by
 cases l with
 |nil=>exact⟨.inl rfl,S.le,S.max,S.nil⟩
 |cons b r=>exact S.off hg (S.row.offKind B (i:=0) (v:=.int .i64 b) rfl (hk _))
structure iG (Q:Nat->Prop)(W:World)(g h:Nat)(p:Pw)(ys:List Int)(x:Wd):Prop where
 blk:ac W g (p.cells x.up) 30
 is:ej W p x
 so:jn (fun q=>q=h\/Q q) W p.sa p.sG x.c
 right:cu x=0
 ra:p.ra=some ⟨h,0,none⟩
 rb:ac W h (ys.map (Value.int .i64)) 3
 ry:ys.take 3=x.rd
 rm:3<=p.rc
theorem iG.call {Q:Nat->Prop}{W W':World}{g h:Nat}{p:Pw}{ys:List Int}{x:Wd}(k:iG Q W g h p ys x)(hb:Below W.heap.size W W'):iG Q W' g h p ys x:=
 ⟨k.blk.keep hb k.blk.lt,k.is.call hb,k.so.call hb,k.right,k.ra,k.rb.keep hb k.rb.lt,k.ry,k.rm⟩
theorem jV {x:Wd}(h:cu x=0):aE x.c=0:=by
 obtain⟨_,_,h3,h4,_,_⟩:=dQ h
 rw[h4]
 exact fp h3
theorem iG.ne {Q:Nat->Prop}{W:World}{g h:Nat}{p:Pw}{ys:List Int}{x:Wd}(k:iG Q W g h p ys x):g≠h:=by
 intro e
 subst e
 exact absurd (bY k.blk k.rb) (by decide)
theorem iG.wrote {Q:Nat->Prop}{W W':World}{g h:Nat}{p:Pw}{ys:List Int}{x:Wd}{a1 a2 a3 a4:Option Addr}{n1 n2 n3 n4 c1 c2 c3 c4:Nat}{u:Bool}(B:ac W g [.slice a1 n1 c1,.slice a2 n2 c2,.slice a3 n3 c3,.bool u,.slice a4 n4 c4] 30)(hg:W.grownBy W' (some g))(B':ac W' g (p.cells x.up) 30)
  (is:ej W p x) (so:jn (fun q=>q=h\/Q q) W p.sa p.sG x.c) (right:cu x=0) (ra:p.ra=some ⟨h,0,none⟩) (rb:ac W h (ys.map (Value.int .i64)) 3) (ry:ys.take 3=x.rd) (rm:3<=p.rc):iG Q W' g h p ys x:=by
 have hz:=jV right
 have Dr:=so.boxW hz B hg
 refine⟨B',⟨is.es,is.e1,is.e2,is.er,Dr.is,dU is.s1 B (by simp) hg,dU is.s2 B (by simp) hg,tL is.r B (by simp) hg⟩,Dr,right,ra,?_,ry,rm⟩
 exact rb.grown hg (fun k e=>by
  obtain rfl:=Option.some.inj e
  intro e
  subst e
  exact absurd (bY B rb) (by decide))
theorem iG.reader {Q:Nat->Prop}{W:World}{g h:Nat}{p:Pw}{ys:List Int}{x:Wd}(k:iG Q W g h p ys x)(i:Nat)(v:Int)(hr:cu ⟨x.c,x.d,x.up,x.rd.set i v⟩=0):iG Q (W.setCell ⟨h,i,none⟩ (.int .i64 v)) g h p (ys.set i v) ⟨x.c,x.d,x.up,x.rd.set i v⟩:=by
 have hg:W.grownBy (W.setCell ⟨h,i,none⟩ (.int .i64 v)) (some h):=ak (au W (some h)) _ _
 have B:=k.rb
 have Dr:=k.so.readers (.inl rfl) B hg
 have RV:=B.set i (.int .i64 v)
 rw[<-List.map_set] at RV
 have UO:(ys.set i v).take 3=x.rd.set i v:=by rw[List.take_set,k.ry]
 refine⟨k.blk.other i _ k.ne.symm,⟨k.is.es,k.is.e1,k.is.e2,by rw[List.length_set];exact k.is.er,Dr.is,dU k.is.s1 B (fun n=>mt (fun _ e=>by cases e)) hg,dU k.is.s2 B (fun n=>mt (fun _ e=>by cases e)) hg,?_⟩,Dr,hr,k.ra,RV,UO,k.rm⟩
 have oM:=k.is.r
 refine⟨?_,by have:=oM.le;rw[List.length_map] at this⊢;rw[List.length_set];exact this,oM.max,oM.nil⟩
 rw[k.ra]
 refine RV.row 0 _ (fun j u hu=>?_)
 rw[Nat.zero_add]
 rw[<-UO,List.map_take,List.getElem?_take] at hu
 split at hu
 .exact hu
 .cases hu
theorem iG.said {Q:Nat->Prop}{W:World}{g h s i:Nat}{p:Pw}{ys zs:List Int}{x:Wd}{t:TypeId}{v:Int}(k:iG Q W g h p ys x)(hs:Q s)(B:ac W s (zs.map (Value.int .i64)) t)(ht:t≠3)(Ym:t≠30):iG Q (W.setCell ⟨s,i,none⟩ (.int .i64 v)) g h p ys x:=by
 have hg:W.grownBy (W.setCell ⟨s,i,none⟩ (.int .i64 v)) (some s):=ak (au W (some s)) _ _
 have Dr:=k.so.readers (.inr hs) B hg
 have ns:s≠h:=by
  intro e
  subst e
  exact ht (bY B k.rb)
 have ng:s≠g:=by
  intro e
  subst e
  exact Ym (bY B k.blk)
 refine⟨k.blk.other i _ ng,⟨k.is.es,k.is.e1,k.is.e2,k.is.er,Dr.is,dU k.is.s1 B (fun n=>mt (fun _ e=>by cases e)) hg,dU k.is.s2 B (fun n=>mt (fun _ e=>by cases e)) hg,?_⟩,Dr,k.right,k.ra,k.rb.other i _ ns,k.ry,k.rm⟩
 refine k.is.r.off hg ?_
 rw[k.ra]
 intro ad e
 obtain rfl:=Option.some.inj e
 exact fun e=>ns e.symm
theorem iG.more {Q Q':Nat->Prop}{W:World}{g h:Nat}{p:Pw}{ys:List Int}{x:Wd}(k:iG Q W g h p ys x)(hQ:∀q,Q' q->Q q\/W.heap.size<=q):iG Q' W g h p ys x:=
 ⟨k.blk,k.is,k.so.more (fun q hq=>hq.elim (fun e=>.inl (.inl e)) (fun e=>(hQ q e).elim (fun e=>.inl (.inr e)) .inr)),k.right,k.ra,k.rb,k.ry,k.rm⟩
structure gp (g h:Nat)(W W':World):Prop where
 os:W'.os=W.os
 tape:W'.tape=W.tape
 output:W'.output=W.output
 size:W.heap.size<=W'.heap.size
 block:∀k,k<W.heap.size->k≠g->k≠h->W'.heap[k]? =W.heap[k]?
theorem gp.refl (g h:Nat)(W:World):gp g h W W:=⟨rfl,rfl,rfl,Nat.le_refl _,fun _ _ _ _=>rfl⟩
theorem gp.trans {g h h1:Nat}{a b c:World}(k:gp g h a b)(q:gp g h1 b c)(hh:h1=h\/a.heap.size<=h1):gp g h a c:=
 ⟨q.os.trans k.os,q.tape.trans k.tape,q.output.trans k.output,Nat.le_trans k.size q.size,fun j hj TN h2=>(q.block j (Nat.lt_of_lt_of_le hj k.size) TN (by omega)).trans (k.block j hj TN h2)⟩
theorem gp.below {g h:Nat}{a b:World}(k:Below a.heap.size a b):gp g h a b:=⟨k.os,k.tape,k.output,k.size,fun j hj _ _=>k.block j hj⟩
theorem gp.call {g h:Nat}{a b c:World}(k:gp g h a b)(q:Below b.heap.size b c):gp g h a c:=k.trans (gp.below q) (.inl rfl)
theorem gp.box {g h:Nat}{a b:World}(k:a.grownBy b (some g)):gp g h a b:=⟨k.os,k.tape,k.output,k.size,fun j hj h1 _=>k.block j hj (fun e=>h1 (Option.some.inj e))⟩
theorem gp.rds {g h:Nat}{a b:World}(k:a.grownBy b (some h)):gp g h a b:=⟨k.os,k.tape,k.output,k.size,fun j hj _ h1=>k.block j hj (fun e=>h1 (Option.some.inj e))⟩
theorem gp.from {g h base:Nat}{a b:World}(k:gp g h a b)(hg:base<=g)(hh:base<=h)(hb:base<=a.heap.size):Below base a b:=
 ⟨k.os,k.tape,k.output,k.size,fun j hj=>k.block j (by omega) (by omega) (by omega)⟩
theorem ac.gb2 {W W':World}{g h q:Nat}{cs:List Value}{t:TypeId}(B:ac W q cs t)(k:gp g h W W')(hg:q≠g)(hh:q≠h):ac W' q cs t:=
 (k.block q B.lt hg hh).trans B
end Go.Proofs.YtoonnbhoiocoeaaGreatDoor
namespace Go.Proofs.YtoonnbhoiocoeaaGreatDoor
open Go.RowKit Go.ChangeShapes Go.WideShapes Go.ChangeAt Go.Joins
open Go.Lib (byteCells)
def Db (z:Int):List Value:=[.int .i64 z]
theorem PI (l:List Int):l.flatMap Db=l.map (Value.int .i64):=by
 induction l with
 |nil=>rfl
 |cons b r ih=>rw[List.flatMap_cons,ih];rfl
theorem GP {w:World}{a:Option Addr}{cap:Nat}{l:List Int}(h:aY Db w a cap l):Sl w a cap (l.map (Value.int .i64)):=by
 obtain⟨h1,h2,h3,h4⟩:=h
 rw[PI] at h1
 exact⟨h1,by rw[List.length_map];exact h2,h3,h4⟩
theorem Ft {H:Type}{enc:TypeId × Value->H}{W:World}(cs:List Value)(x:DataW H × List MemPlace)(m:Nat)(hl:cs.length=1)(h:DataW.trod enc Tryz.prog W 0 (fun _=>true) true m 3 cs=some x)(_:ir 3 x.1):
  ∃y:Int,cs=Db y/\True:=by
 match cs,hl with
 | [c],_=>
  obtain⟨z,mX,_,hw⟩:=DataW.trod_int Tryz.underlying3 h
  simp at mX
  subst mX
  exact⟨z,rfl,trivial⟩
theorem Fs:Tryz.prog.cellsOf 30=5:=by kernel_rfl
theorem Jj:Tryz.prog.cellsOf 22=1:=by kernel_rfl
theorem AK:Tryz.prog.cellsOf 24=1:=by kernel_rfl
theorem Di:Tryz.prog.cellsOf 28=1:=by kernel_rfl
theorem Bx:Tryz.prog.cellsOf 25=1:=by kernel_rfl
theorem vc {H:Type}{enc:TypeId × Value->H}{W:World}{r:Reach}{b0:Nat}{v:Value}{d:DataW H}{p:List MemPlace}(hv:Value.okWide Tryz.prog W r b0 30 v)
  (h:DataW.Trod enc Tryz.prog W 0 (fun _=>true) true 30 v d p) (hw:ir 30 d):
  ∃(x:Wd) (q:Pw),v=q.val x.up/\ej W q x/\q.n1+q.n2<=9223372036854775807/\q.sn<=140737488355328/\q.rn<=140737488355328:=by
 obtain⟨cs,rfl,hs⟩:=okWide_struct Tryz.underlying30 hv
 rw[Fs] at hs
 obtain⟨c0,c1,c2,c3,c4,rfl⟩:∃c0 c1 c2 c3 c4,cs=#[c0,c1,c2,c3,c4]:=by
  obtain⟨l⟩:=cs
  match l,hs with
  | [c0,c1,c2,c3,c4],_=>exact⟨c0,c1,c2,c3,c4,rfl⟩
 obtain⟨fuel,hf⟩:=h
 obtain⟨y0,y1,y2,y3,n,hx,_,h0,h1,h2,h3⟩:=trod_struct4 Tryz.underlying30 hf
 simp only[AK,Hy,th,Di,Value.cells,List.drop_zero,List.drop_succ_cons,List.take_succ_cons,List.take_zero] at h0 h1 h2 h3
 simp only[Prod.mk.injEq] at hx
 obtain⟨rfl,_⟩:=hx
 obtain⟨z0,m0,pN,_,i0⟩:=trod_struct1 Tryz.underlying24 h0
 obtain⟨z1,z2,m1,Kq,_,i1,i2⟩:=trod_struct2 Tryz.underlying27 h1
 simp only[Jj,Bx,List.drop_zero,List.drop_succ_cons,List.take_succ_cons,List.take_zero] at i0 i1 i2
 obtain⟨u,eu,_⟩:=DataW.trod_bool Tryz.underlying4 h2
 obtain⟨a0,n0,k0,e0⟩:=slice_form Tryz.underlying22 i0
 obtain⟨a1,n1,k1,e1⟩:=slice_form Tryz.underlying25 i1
 obtain⟨a2,n2,k2,e2⟩:=slice_form Tryz.underlying25 i2
 obtain⟨a3,n3,k3,e3⟩:=slice_form Tryz.underlying28 h3
 simp at eu e0 e1 e2 e3
 subst eu e0 e1 e2 e3
 subst pN Kq
 have w0:ir 22 z0.1:=fun z hz=>hw z (by simp[DataW.weights,DataW.weightsEach,Tryz.underlying30,Tryz.underlying24,hz])
 have w1:ir 25 z1.1:=fun z hz=>hw z (by simp[DataW.weights,DataW.weightsEach,Tryz.underlying30,Tryz.underlying27,hz])
 have w2:ir 25 z2.1:=fun z hz=>hw z (by simp[DataW.weights,DataW.weightsEach,Tryz.underlying30,Tryz.underlying27,hz])
 have w3:ir 28 y3.1:=fun z hz=>hw z (by simp[DataW.weights,DataW.weightsEach,Tryz.underlying30,hz])
 obtain⟨rs,rfl,sr,gr,rr⟩:=jx (ao:=a0) (n:=n0) (cap:=k0) Lr.cells (fun y=>y.Good W) Tryz.underlying22 El (by decide) Lr.two (fun cs x m=>K7 cs x m) i0 w0
 obtain⟨l1,rfl,s1,_,r1⟩:=jx (ao:=a1) (n:=n1) (cap:=k1) ug (fun _=>True) Tryz.underlying25 (by kernel_rfl) (by decide) (fun _=>rfl) (fun cs x m=>xw cs x m) i1 w1
 obtain⟨l2,rfl,s2,_,r2⟩:=jx (ao:=a2) (n:=n2) (cap:=k2) ug (fun _=>True) Tryz.underlying25 (by kernel_rfl) (by decide) (fun _=>rfl) (fun cs x m=>xw cs x m) i2 w2
 obtain⟨l3,rfl,s3,_,r3⟩:=jx (ao:=a3) (n:=n3) (cap:=k3) Db (fun _=>True) Tryz.underlying28 uO (by decide) (fun _=>rfl) (fun cs x m=>Ft cs x m) h3 w3
 rw[Ov] at r1 r2
 rw[show Tryz.prog.bytesOf 53=48 by kernel_rfl] at rr
 rw[show Tryz.prog.bytesOf 3=8 by kernel_rfl] at r3
 have t0:=sr.le
 have t1:=s1.le
 have t2:=s2.le
 have t3:=s3.le
 exact⟨⟨rs.map Lr.rw,⟨l1,l2⟩,u,l3⟩,⟨a0,rs.length,k0,a1,l1.length,k1,a2,l2.length,k2,a3,l3.length,k3⟩,rfl,⟨by simp,rfl,rfl,rfl,⟨rs,rfl,⟨sr,gr⟩⟩,xz s1,xz s2,GP s3⟩,by simp only;omega,by simp only;omega,by simp only;omega⟩
end Go.Proofs.YtoonnbhoiocoeaaGreatDoor
namespace Go.Proofs.YtoonnbhoiocoeaaGreatDoor
open Go.RowKit Go.ChangeShapes Go.WideShapes Go.ChangeAt Go.Joins
theorem NP {α:Type}{l:List α}(h:l.length=4):∃a b c d,l=[a,b,c,d]:=by
 match l,h with
 | [a,b,c,d],_=>exact⟨a,b,c,d,rfl⟩
theorem MH:Tryz.prog.cellsOf 31=1:=by kernel_rfl
end Go.Proofs.YtoonnbhoiocoeaaGreatDoor
namespace Go.Proofs.YtoonnbhoiocoeaaGreatDoor
open Go.RowKit
theorem wZ (a1 a2:Option Addr)(c1 c2:Nat)(l m:List Bool)(w:World)(r1:Row w a1 (l.map Value.bool))(r2:Row w a2 (m.map Value.bool))(hl:l.length<=4611686018427387904)(hm:m.length<=4611686018427387904):
  Calls Tryz.prog 110 #[.slice a1 l.length c1,.slice a2 m.length c2] w fun e w'=>e=.returned (.bool (decide (l=m)))/\∃q,w'=w.drewN q:=by
 by_cases kE:l.length=m.length
 .generalize hn:l.length=n at*
  have jf:=kE.symm
  rw[jf] at hm⊢
  by_cases h0:n=0
  .subst h0
   obtain rfl:=List.eq_nil_of_length_eq_zero hn
   obtain rfl:=List.eq_nil_of_length_eq_zero jf
   clear hn jf kE hl hm r1 r2
   go_enter Tryz.func110,Tryz.ntmps110
   go_wp2
   refine wp_loop_rounds 1 ?_
   rw[rounds_succ]
   go_wp2
   go_ret
   exact⟨rfl,0,rfl⟩
  obtain⟨b1,o1,rfl,-,k1⟩:=r1.at (by intro h;simp at h;subst h;simp at hn;omega)
  obtain⟨b2,o2,rfl,-,k2⟩:=r2.at (by intro h;simp at h;subst h;simp at jf;omega)
  have g1:=fun k hk=>Cy k1 k hk
  have g2:=fun k hk=>Cy k2 k hk
  clear k1 k2 r1 r2
  have HL:Hid (l.length=n):=hn
  have HM:Hid (m.length=n):=jf
  clear hn jf kE
  go_enter Tryz.func110,Tryz.ntmps110
  go_wp2
  go_loopg [13] n (fun g LQ wr=>∃k q:Nat,k<=n/\n-k<=g/\LQ=.int .i64 k/\wr=w.drewN q/\Hid (∀j,j<k->l.getD j false=m.getD j false))
  case atStart=>exact⟨0,0,Nat.zero_le _,by omega,rfl,rfl,fun j hj=>absurd hj (Nat.not_lt_zero _)⟩
  case round=>
   obtain⟨k,q,hk,hg,rfl,rfl,A⟩:=hrel
   by_cases az:k<n
   .have e1:=g1 k (by rw[HL.out];exact az)
    have e2:=g2 k (by rw[HM.out];exact az)
    clear g1 g2
    generalize hx:l.getD k false=x at e1
    generalize hy:m.getD k false=y at e2
    have B:Hid (l.getD k false=x/\m.getD k false=y):=⟨hx,hy⟩
    clear hx hy
    cases uH:(x==y) with
    |true=>
     obtain rfl:x=y:=by simpa using uH
     clear uH
     go_wp2_with fail
     go_region
     all_goals go_wp2
     all_goals go_roundg (n-(k+1))
     case measure=>omega
     case rel=>
      refine⟨k+1,q+1,by omega,by omega,by go_num,rfl,(show Hid _ from fun j hj=>?_)⟩
      by_cases e:j=k
      .subst e
       rw[B.out.1,B.out.2]
      .exact A.out j (by omega)
    |false=>
     go_wp2_with fail
     go_region
     all_goals go_wp2
     all_goals go_ret
     refine⟨?_,q+1,rfl⟩
     have aF:l≠m:=IE (d:=false) (k:=k) (by rw[B.out.1,B.out.2];simpa using uH)
     simp[aF]
   .have:k=n:=by omega
    subst this
    clear g1 g2
    go_wp2
    go_ret
    refine⟨?_,q,rfl⟩
    have he:l=m:=IK (d:=false) (HL.out.trans HM.out.symm) (fun j hj=>A.out j (by rw[<-HL.out];exact hj))
    simp[he]
 .have Ql:¬(l.length:Int)=(m.length:Int):=by omega
  have aF:l≠m:=fun e=>kE (by rw[e])
  clear r1 r2
  have H:Hid (l≠m):=aF
  clear aF
  generalize l.length=x at*
  generalize m.length=y at*
  go_enter Tryz.func110,Tryz.ntmps110
  go_wp2
  go_ret
  refine⟨?_,0,rfl⟩
  simp[H.out]
end Go.Proofs.YtoonnbhoiocoeaaGreatDoor
