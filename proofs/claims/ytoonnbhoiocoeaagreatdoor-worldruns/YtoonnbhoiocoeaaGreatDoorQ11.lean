/-
  A shelf in memory of the call's own: each row's blocks and head in blocks of their own; how that stays while one block alone is written. No function of the program is named.
-/
import Derived.Laws.IdiomCopy
import Derived.Deep.RegionLaw
import Derived.Lib.SliceRun
import Derived.Test.YtoonnbhoiocoeaaGreatDoorQ10
set_option maxHeartbeats 40000000
set_option maxRecDepth 100000
set_option linter.unusedVariables false
namespace Go.Proofs.YtoonnbhoiocoeaaGreatDoor
open Go.RowKit
structure Lb.Own (w:World)(x:Lb):Prop where
 good:x.Good w
 at_:∃gO cs,x.a=some ⟨gO,0,none⟩/\ag w gO cs 4
theorem Lb.Own.call {w w':World}{x:Lb}(h:x.Own w)(hb:Below w.heap.size w w'):x.Own w':=by
 obtain⟨gO,cs,e,B⟩:=h.at_
 exact⟨h.good.keep hb (Nat.le_refl _),gO,cs,e,B.keep hb B.lt⟩
theorem bV {w:World}{g:Nat}{cs ds:List Value}{t u:TypeId}(h:ag w g cs t)(k:ag w g ds u):t=u:=by
 unfold ag at h k
 rw[h] at k
 simp only[Option.some.injEq,Obj.cells.injEq] at k
 exact k.2.1
theorem Lb.Own.wrote {w w':World}{x:Lb}{g:Nat}{cs:List Value}{t:TypeId}(h:x.Own w)(hg:w.grownBy w' (some g))(B:ag w g cs t)(ht:t≠4):x.Own w':=by
 obtain⟨gO,ds,e,BO⟩:=h.at_
 have aF:gO≠g:=by
  rintro rfl
  exact ht (bV B BO)
 refine⟨⟨h.good.bits.off hg ?_,h.good.few⟩,gO,ds,e,BO.grown hg (fun k e=>by obtain rfl:=Option.some.inj e;exact fun e=>aF e.symm)⟩
 intro ad e'
 rw[e] at e'
 obtain rfl:=Option.some.inj e'
 exact aF
structure hH (w:World)(base:Nat)(r:Lr):Prop where
 bs:∃bg,r.ba=some ⟨bg,0,none⟩/\base<=bg/\ag w bg (r.bs.flatMap Lb.cells) 107
 bc:r.bc=r.bs.length
 hd:∃hg,r.ha=some ⟨hg,0,none⟩/\w.ownsRow base 56 2 (.slice (some ⟨hg,0,none⟩) r.hd.length r.hc) r.hd.length (ar r.hd)
 good:∀x∈r.bs,x.Own w
theorem hH.call {w w':World}{base:Nat}{r:Lr}(h:hH w base r)(hb:Below w.heap.size w w'):hH w' base r:=by
 obtain⟨bg,e1,l1,B⟩:=h.bs
 obtain⟨hg,e2,o⟩:=h.hd
 exact⟨⟨bg,e1,l1,B.keep hb B.lt⟩,h.bc,⟨hg,e2,dx o hb⟩,fun x hx=>(h.good x hx).call hb⟩
theorem my {w:World}{base g n cap:Nat}{size:Nat}{t:TypeId}{xs:List Value}(h:w.ownsRow base t size (.slice (some ⟨g,0,none⟩) n cap) n xs):∃cur,ag w g cur t/\base<=g:=by
 rcases h.2 with⟨h',_⟩| ⟨g',rZ,cur,h',hb,hg,_,_,hs,nN⟩
 .simp at h'
 simp only[Value.slice.injEq,Option.some.injEq,Addr.mk.injEq,and_true,true_and] at h'
 obtain⟨rfl,rfl⟩:=h'
 exact⟨cur.toList,by unfold ag;simpa using hg,hb⟩
theorem Lb.Good.off {w w':World}{x:Lb}{g:Nat}{cs:List Value}{t:TypeId}(h:x.Good w)(hg:w.grownBy w' (some g))(B:ag w g cs t)(nb:∀v∈cs,∀b,v≠.bool b):x.Good w':=by
 refine⟨?_,h.few⟩
 by_cases hP:x.b.bits=[]
 .have s:=h.bits
  rw[hP] at s⊢
  exact⟨.inl rfl,s.le,s.max,s.nil⟩
 exact h.bits.off hg (h.bits.offKind B nb hP)
theorem hH.wrote {w w':World}{base g:Nat}{r:Lr}{cs:List Value}{t:TypeId}(h:hH w base r)(hg:w.grownBy w' (some g))(B:ag w g cs t)(ht:t≠4)(h1:r.ba≠some ⟨g,0,none⟩)(h2:r.ha≠some ⟨g,0,none⟩):hH w' base r:=by
 obtain⟨bg,e1,l1,B1⟩:=h.bs
 obtain⟨hh,e2,o⟩:=h.hd
 refine⟨⟨bg,e1,l1,B1.grown hg (fun k e=>?_)⟩,h.bc,⟨hh,e2,o.kept hg (.inr (fun e=>?_))⟩,fun x hx=>(h.good x hx).wrote hg B ht⟩
 .obtain rfl:=Option.some.inj e
  intro e
  subst e
  exact h1 e1
 have:hh=g:=Option.some.inj e
 subst this
 exact h2 e2
theorem hH.notB {w:World}{base g:Nat}{r:Lr}{cs:List Value}{t:TypeId}(h:hH w base r)(B:ag w g cs t)(ht:t≠107):r.ba≠some ⟨g,0,none⟩:=by
 obtain⟨bg,e1,l1,B1⟩:=h.bs
 intro e
 rw[e1] at e
 simp only[Option.some.injEq,Addr.mk.injEq,and_true] at e
 subst e
 exact ht (bV B B1)
theorem hH.notH {w:World}{base g:Nat}{r:Lr}{cs:List Value}{t:TypeId}(h:hH w base r)(B:ag w g cs t)(ht:t≠56):r.ha≠some ⟨g,0,none⟩:=by
 obtain⟨hh,e2,o⟩:=h.hd
 obtain⟨cur,B2,_⟩:=my o
 intro e
 rw[e2] at e
 simp only[Option.some.injEq,Addr.mk.injEq,and_true] at e
 subst e
 exact ht (bV B B2)
theorem Gr (l:List Lr):∀v∈l.flatMap Lr.cells,∀b,v≠.bool b:=by
 intro v hv b e
 obtain⟨r,_,hr⟩:=List.mem_flatMap.1 hv
 simp only[Lr.cells,List.mem_cons,List.not_mem_nil,or_false] at hr
 rcases hr with rfl|rfl<;>cases e
theorem xU (l:List Lb):∀v∈l.flatMap Lb.cells,∀b,v≠.bool b:=by
 intro v hv b e
 obtain⟨r,_,hr⟩:=List.mem_flatMap.1 hv
 simp only[Lb.cells,List.mem_cons,List.not_mem_nil,or_false] at hr
 rcases hr with rfl|rfl|rfl|rfl<;>cases e
theorem hH.toGood {w:World}{base:Nat}{r:Lr}(h:hH w base r)(f1:r.bs.length<=140737488355328)(f2:r.hd.length<=8796093022208):r.Good w:=by
 obtain⟨bg,e1,l1,B1⟩:=h.bs
 obtain⟨hh,e2,o⟩:=h.hd
 obtain⟨a3,G3,e3,s3,_,_⟩:=aV.ofOwn o
 simp only[Value.slice.injEq,true_and] at e3
 obtain⟨rfl,rfl⟩:=e3
 refine⟨⟨⟨?_,by rw[h.bc];exact Nat.le_refl _,by rw[h.bc];omega,fun e=>by rw[e1] at e;cases e⟩,fun x hx=>(h.good x hx).good⟩,by rw[e2];exact s3,f1,by omega⟩
 rw[e1]
 exact B1.row 0 _ (fun i v hv=>by rw[Nat.zero_add];exact hv)
def ApartL (rs:List Lr):Prop:=∀(i j:Nat) (r q:Lr),i≠j->rs[i]? =some r->rs[j]? =some q->r.ba≠q.ba/\r.ha≠q.ha
structure oD (w:World)(base g:Nat)(rs:List Lr):Prop where
 rows:ag w g (rs.flatMap Lr.cells) 53
 lo:base<=g
 each:∀r∈rs,hH w base r
 ap:ApartL rs
theorem oD.call {w w':World}{base g:Nat}{rs:List Lr}(h:oD w base g rs)(hb:Below w.heap.size w w'):oD w' base g rs:=
 ⟨h.rows.keep hb h.rows.lt,h.lo,fun r hr=>(h.each r hr).call hb,h.ap⟩
theorem oD.alloc {w:World}{base g:Nat}{rs:List Lr}(h:oD w base g rs)(o:Obj):oD (w.alloc o) base g rs:=
 h.call ((Below.refl w.heap.size w).alloc (Nat.le_refl _) o)
theorem oD.at {w:World}{base g:Nat}{rs:List Lr}(h:oD w base g rs)(k:Nat)(r:Lr)(hr:rs[k]? =some r):
  w.cell? ⟨g,k*2,none⟩=some (.slice r.ba r.bs.length r.bc)/\w.cell? ⟨g,k*2+1,none⟩=some (.slice r.ha r.hd.length r.hc):=by
 rw[h.rows.cell,h.rows.cell]
 exact⟨flat_get Lr.two rs k 0 r hr (by decide),flat_get Lr.two rs k 1 r hr (by decide)⟩
structure iD (w:World)(base g:Nat)(rs:List Lr):Prop where
 rows:ag w g (rs.flatMap Lr.cells) 53
 lo:base<=g
 good:∀r∈rs,r.Good w
theorem iD.slr {w:World}{base g:Nat}{rs:List Lr}(h:iD w base g rs)(n:Nat)(hn:rs.length=n)(hm:n<=9223372036854775807):bL w (some ⟨g,0,none⟩) n rs:=
 ⟨⟨h.rows.row 0 _ (fun i v hv=>by rw[Nat.zero_add];exact hv),by omega,hm,fun e=>by cases e⟩,h.good⟩
theorem oD.fin {w:World}{base g:Nat}{rs:List Lr}(h:oD w base g rs)(few:∀r∈rs,r.bs.length<=140737488355328/\r.hd.length<=8796093022208):iD w base g rs:=
 ⟨h.rows,h.lo,fun r hr=>(h.each r hr).toGood (few r hr).1 (few r hr).2⟩
theorem iD.call {w w':World}{base g:Nat}{rs:List Lr}(h:iD w base g rs)(hb:Below w.heap.size w w'):iD w' base g rs:=
 ⟨h.rows.keep hb h.rows.lt,h.lo,fun r hr=>(h.good r hr).keep hb (Nat.le_refl _)⟩
theorem xY {α:Type}{f:α->List Value}(x:α)(hf:∀x,(f x).length=4)(y:α)(u:Value)(j:Nat)(hj:j<4)(he:f y=(f x).set j u):∀(l:List α) (k:Nat),l[k]? =some x->(l.flatMap f).set (k*4+j) u=(l.set k y).flatMap f
 | [],k,h=>by simp at h
 |z::r,0,h=>by
  simp at h
  subst h
  rw[List.flatMap_cons,List.set_cons_zero,List.flatMap_cons,he,List.set_append_left _ _ (by rw[hf];omega)]
  simp
 |z::r,k+1,h=>by
  have ih:=xY x hf y u j hj he r k (by simpa using h)
  rw[List.flatMap_cons,List.set_cons_succ,List.flatMap_cons,<-ih,List.set_append_right _ _ (by rw[hf];omega),hf,show(k+1)*4+j-4=k*4+j by omega]
theorem Fc {α:Type} :∀(news cs:List α) (off:Nat) (v:α),off+(news.length+1)<=cs.length->splice (cs.set off v) (off+1) news=splice cs off (v::news):=by
 intro news cs off v h
 unfold splice
 rw[List.drop_set_of_lt (by omega)]
 have e1:(cs.set off v).take (off+1)=cs.take off++[v]:=by
  rw[List.take_add_one,List.take_set_of_le (Nat.le_refl _),List.getElem?_set_self (by omega)]
  rfl
 rw[e1,List.append_assoc,List.length_cons,show off+1+news.length=off+(news.length+1) by omega]
 rfl
theorem ag.setCells {b:Nat}{t:TypeId} :∀(news:List Value) {w:World} {cs:List Value} (off:Nat),ag w b cs t->off+news.length<=cs.length->ag (w.setCells b off news) b (splice cs off news) t/\w.grownBy (w.setCells b off news) (some b)
 | [],w,cs,off,B,_=>by
  refine⟨?_,au w _⟩
  have e:splice cs off []=cs:=by simp[splice]
  rw[e]
  exact B
 |v::news,w,cs,off,B,h=>by
  have ih:=ag.setCells news (off+1) (B.set off v) (by rw[List.length_set];simp only[List.length_cons] at h;omega)
  rw[Fc news cs off v (by simpa using h)] at ih
  have g1:=al (au w (some b)) off v
  exact⟨ih.1,⟨ih.2.os.trans g1.os,ih.2.tape.trans g1.tape,ih.2.output.trans g1.output,Nat.le_trans g1.size ih.2.size,fun k hk aF=>(ih.2.block k (Nat.lt_of_lt_of_le hk g1.size) aF).trans (g1.block k hk aF)⟩⟩
theorem wK {P:Program}{ops:Array Oper}{o:Oper}{a:Act}{w:World}{K:Act->World->Prop}{Q:Exit->Act->World->Prop}{E:Prop}
  (hg:o.guard=none) (s x:Operand) (t:TypeId) (Od:o.op=Op.call {callee:=Callee.builtin Builtin.append,args:=#[s,x],argTypes:=#[t,t]})
  (e:TypeId) (i:TypeInfo) (size:Nat) (h1:P.underlying t=some (.slice e)) (h2:P.info? e=some i) (h4:i.size=size)
  (b n cap:Nat) (hs:a.eval s=.slice (some ⟨b,0,none⟩) n cap) (cur:List Value) (te:TypeId) (B:ag w b cur te)
  (ad:Addr) (m c:Nat) (news:List Value) (hx:a.eval x=.slice (some ad) m c) (hn:news.length=m*size) (hc:∀j u,news[j]? =some u->w.cell? (ad.add j)=some u) (Z5:∀u∈news,u.oneCell'=true)
  (R7:n+m<=cap) (dY:n*size+news.length<=cur.length)
  (hK:∀w',ag w' b (splice cur (n*size) news) te->w.grownBy w' (some b)->K (a.put o.dst (.slice (some ⟨b,0,none⟩) (n+m) cap)) w'):
  if Region.wanted o (yielded ops a.tmps)=true then Oper.wp P o a w K Q else E:=by
 refine step_append_room hg s x t Od e i size h1 h2 h4 b 0 n cap hs ad m c news hx hn hc Z5 R7 (fun j hj=>⟨?_,B.free _⟩) ?_
 .rw[B.cell,List.getElem?_eq_getElem (by omega)]
  rfl
 obtain⟨B',gr⟩:=ag.setCells news (n*size) B dY
 have:=hK _ B' gr
 rw[Nat.zero_add]
 exact this
def qq:Lb:=⟨wR,none,0⟩
theorem EI (z:Array Value)(hz:z.toList=Lb.cells qq)(n:Nat):(Builtin.zeroCells z n).toList=(List.replicate n qq).flatMap Lb.cells:=by
 have hs:z.size=4:=by rw[<-Array.length_toList,hz];rfl
 apply List.ext_getElem?
 intro i
 have hl:=av Lb.four (List.replicate n qq)
 rw[List.length_replicate] at hl
 by_cases hi:i<n*4
 .have hg:=flat_get Lb.four (List.replicate n qq) (i / 4) (i % 4) qq (by rw[List.getElem?_replicate,if_pos (by omega)]) (Nat.mod_lt _ (by decide))
  rw[show i / 4*4+i % 4=i by omega] at hg
  rw[hg,<-hz]
  simp only[Builtin.zeroCells,Array.toList_map,List.getElem?_map,Array.toList_range,hs]
  rw[List.getElem?_range hi]
  have h4:i % 4<z.size:=by omega
  rw[Option.map_some,getElem!_pos z (i % 4) h4,Array.getElem?_toList,Array.getElem?_eq_getElem h4]
 rw[List.getElem?_eq_none (by simp[Builtin.zeroCells,hs];omega),List.getElem?_eq_none (by rw[hl];omega)]
theorem nA {P:Program}(w:World)(t e ty:TypeId)(z:Value)(ht:P.underlying t=some (.slice e))(hv:∀w,(zeroValue e).run P w=.ok z w)(hz:z.cells.toList=Lb.cells qq)(b o n c:Nat)(hn:0<n)(cur:List Value)(te:TypeId)(B:ag w b cur te)(dY:o+n*4<=cur.length):
  (Builtin.clear_ #[t] ty #[.slice (some ⟨b,o,none⟩) n c]).run P w=.ok (.tuple #[]) (w.setCells b o ((List.replicate n qq).flatMap Lb.cells)):=by
 have RR:=EI z.cells hz n
 have hl:=av Lb.four (List.replicate n qq)
 rw[List.length_replicate] at hl
 have nU:=run_storeCells_cells (P:=P) b o ((List.replicate n qq).flatMap Lb.cells) 0 w (by intro j hj;rw[hl] at hj;rw[B.cell,List.getElem?_eq_getElem (by omega)];rfl) (by intro j _;exact B.free _) (by
  intro v GJ
  obtain⟨r,hr,xD⟩:=List.mem_flatMap.1 GJ
  rw[List.eq_of_mem_replicate hr] at xD
  simp only[Lb.cells,List.mem_cons,List.not_mem_nil,or_false] at xD
  rcases xD with rfl|rfl|rfl|rfl<;>rfl)
 simp only[Nat.add_zero] at nU
 obtain⟨m,rfl⟩:∃m,n=m+1:=⟨n-1,by omega⟩
 simp[Builtin.clear_,run_underlying ht,hv,RR,nU]
theorem ze {α:Type}{f:α->List Value}(y:α)(u0 u1 u2 u3:Value)(hy:f y=[u0,u1,u2,u3])(hf:∀x,(f x).length=4):∀(l:List α) (k:Nat),k<l.length->((((l.flatMap f).set (k*4) u0).set (k*4+1) u1).set (k*4+2) u2).set (k*4+3) u3=(l.set k y).flatMap f
 | [],k,h=>by simp at h
 |z::r,0,_=>by
  obtain⟨z0,z1,z2,z3,e⟩:∃z0 z1 z2 z3,f z=[z0,z1,z2,z3]:=by
   match f z,hf z with
   | [z0,z1,z2,z3],_=>exact⟨z0,z1,z2,z3,rfl⟩
  rw[List.flatMap_cons,List.set_cons_zero,List.flatMap_cons,e,hy]
  rfl
 |z::r,k+1,h=>by
  have ih:=ze y u0 u1 u2 u3 hy hf r k (by simpa using h)
  have e:(f z).length=4:=hf z
  rw[List.flatMap_cons,List.set_cons_succ,List.flatMap_cons,<-ih,List.set_append_right _ _ (by rw[e];omega),e,List.set_append_right _ _ (by rw[e];omega),e,List.set_append_right _ _ (by rw[e];omega),e,List.set_append_right _ _ (by rw[e];omega),e,
   show(k+1)*4-4=k*4 by omega,show(k+1)*4+1-4=k*4+1 by omega,show(k+1)*4+2-4=k*4+2 by omega,show(k+1)*4+3-4=k*4+3 by omega]
abbrev setB (w:World)(bg i:Nat)(y:Lb):World:=
 (((w.setCell ⟨bg,i*4,none⟩ (.int .i64 y.b.n)).setCell ⟨bg,i*4+1,none⟩ (.int .i64 y.b.fr)).setCell ⟨bg,i*4+2,none⟩ (.int .i64 y.b.to)).setCell ⟨bg,i*4+3,none⟩ (.slice y.a y.b.bits.length y.c)
theorem ag.setB {w:World}{bg:Nat}{bl:List Lb}{t:TypeId}(B:ag w bg (bl.flatMap Lb.cells) t)(i:Nat)(hi:i<bl.length)(y:Lb):
  ag (setB w bg i y) bg ((bl.set i y).flatMap Lb.cells) t/\w.grownBy (setB w bg i y) (some bg):=by
 have B2:=(((B.set (i*4) (.int .i64 y.b.n)).set (i*4+1) (.int .i64 y.b.fr)).set (i*4+2) (.int .i64 y.b.to)).set (i*4+3) (.slice y.a y.b.bits.length y.c)
 rw[ze y _ _ _ _ rfl Lb.four bl i hi] at B2
 exact⟨B2,al (al (al (al (au w (some bg)) _ _) _ _) _ _) _ _⟩
theorem xg {P:Program}(w:World)(dT sT ty elem:TypeId)(size g n nx:Nat)(a:Addr)(uF:Nat)(cur:List Value)(t:TypeId)(cs:List Value)
  (hu:P.underlying dT=some (.slice elem)) (hs:(P.info? elem).map (·.size)=some size)
  (hg:w.heap[g]? =some (.cells cur.toArray t (0,0))) (hn:cs.length=n*size)
  (eS:∀j v,cs[j]? =some v->w.cell? (a.add j)=some v) (dY:cs.length=cur.length) (h1:∀v∈cs,v.oneCell'=true):
  (Builtin.copy_ #[dT,sT] ty #[.slice (some ⟨g,0,none⟩) n nx,.slice (some a) n uF]).run P w=
   .ok (goInt n) (w.setRow g cs.toArray):=by
 have hl:=run_loadCells_list (P:=P) w a cs eS
 have nU:=run_storeCells_at P g 0 t cs 0 cur.toArray w hg (by simp;omega) h1
 have m5:splice cur 0 cs=cs:=by simp[splice,dY]
 cases hq:P.info? elem with
 |none=>simp[hq] at hs
 |some i=>
  have hi:i.size=size:=by simpa[hq] using hs
  subst hi
  simp[Builtin.copy_,run_underlying hu,Builtin.lenOf,Builtin.firstCells,sizeOf,typeInfo,hq,<-hn,hl,nU]
  congr 1
  have:=m5
  simpa[splice] using this
theorem ii {P:Program}{w:World}{ops:Array Oper}{rest:List Oper}{o:Oper}{a:Act}{Q:Exit->Act->World->Prop}(vt:o.guard=none)(d s:Operand)(dT sT:TypeId)
  (ho:o.op=.call {callee:=.builtin .copy,args:=#[d,s],argTypes:=#[dT,sT]}) (elem:TypeId) (size:Nat) (hu:P.underlying dT=some (.slice elem)) (dW:(P.info? elem).map (·.size)=some size)
  (g n nx:Nat) (ad:Addr) (uF:Nat) (hd:a.eval d=.slice (some ⟨g,0,none⟩) n nx) (hs:a.eval s=.slice (some ad) n uF)
  (cur:List Value) (t:TypeId) (hg:ag w g cur t) (cs:List Value) (hn:cs.length=n*size)
  (eS:∀j v,cs[j]? =some v->w.cell? (ad.add j)=some v) (dY:cs.length=cur.length) (h1:∀v∈cs,v.oneCell'=true) (B:Nat) (w0:World) (hb:Below B w0 w) (Sb:B<=g)
  (h:∀w',ag w' g cs t->Below B w0 w'->wpList P ops Q rest (a.put o.dst (goInt n)) w'):wpList P ops Q (o::rest) a w:=by
 refine wpList_plain vt fun K hK=>?_
 have j5:=xg (P:=P) w dT sT o.type elem size g n nx ad uF cur t cs hu dW hg hn eS dY h1
 unfold Oper.wp
 simp[execOp,ho,resolve,invoke,builtin,hd,hs,j5,Result.andThen]
 exact hK _ _ (h _ (setRow_heap w g _ _ t _ hg) (below_setRow hb Sb _))
theorem run_copy_nil {P:Program}(w:World)(dT sT ty elem:TypeId)(size g nx:Nat)(hu:P.underlying dT=some (.slice elem))(hs:(P.info? elem).map (·.size)=some size):
  (Builtin.copy_ #[dT,sT] ty #[.slice (some ⟨g,0,none⟩) 0 nx,.slice none 0 0]).run P w=.ok (goInt 0) w:=by
 cases hq:P.info? elem with
 |none=>simp[hq] at hs
 |some i=>
  simp[Builtin.copy_,run_underlying hu,Builtin.lenOf,Builtin.firstCells,sizeOf,typeInfo,hq,storeCells]
theorem jh {P:Program}{w:World}{ops:Array Oper}{rest:List Oper}{o:Oper}{a:Act}{Q:Exit->Act->World->Prop}(vt:o.guard=none)(d s:Operand)(dT sT:TypeId)
  (ho:o.op=.call {callee:=.builtin .copy,args:=#[d,s],argTypes:=#[dT,sT]}) (elem:TypeId) (size:Nat) (hu:P.underlying dT=some (.slice elem)) (dW:(P.info? elem).map (·.size)=some size)
  (g nx:Nat) (hd:a.eval d=.slice (some ⟨g,0,none⟩) 0 nx) (hs:a.eval s=.slice none 0 0)
  (h:wpList P ops Q rest (a.put o.dst (goInt 0)) w):wpList P ops Q (o::rest) a w:=by
 refine wpList_plain vt fun K hK=>?_
 have j5:=run_copy_nil (P:=P) w dT sT o.type elem size g nx hu dW
 unfold Oper.wp
 simp[execOp,ho,resolve,invoke,builtin,hd,hs,j5,Result.andThen]
 exact hK _ _ h
theorem pq {w':World}{g n size:Nat}{cs:List Value}{t:TypeId}(h:w'.ownsRow g t size (.slice (some ⟨g,0,none⟩) n n) n cs):∃L:List Value,L.length=n*size/\ag w' g L t:=by
 rcases h.2 with⟨h',_⟩| ⟨g',rZ,cur,h',_,hg,_,_,hs,nN⟩
 .simp at h'
 simp only[Value.slice.injEq,Option.some.injEq,Addr.mk.injEq,and_true,true_and] at h'
 obtain⟨rfl,rfl⟩:=h'
 exact⟨cur.toList,by simp[hs],by unfold ag;simpa using hg⟩
theorem MA:(Tryz.prog.info? 53).map (fun i=>(i.zero,i.size,i.bytes))=some (some (.agg #[.slice none 0 0,.slice none 0 0]),2,48):=by kernel_rfl
theorem Ua (ao:Option Addr)(cap:Nat)(C:List Value)(n:Nat)(w:World)(ew:Row w ao C)(fE:n<=cap)(jr:ao=none->cap=0)(hlen:C.length=n*2)(one:∀v∈C,v.oneCell'=true)(hl:n<=1000000000000):
  Calls Tryz.prog 210 #[.slice ao n cap] w fun e w'=>∃g,e=.returned (.slice (some ⟨g,0,none⟩) n n)/\ag w' g C 53/\w.heap.size<=g/\Below w.heap.size w w':=by
 obtain⟨i0,hi,bK,bm,bQ⟩:=info_parts MA
 have dW:(Tryz.prog.info? 53).map (·.size)=some 2:=by rw[hi];exact congrArg some bm
 replace hlen:=aa hlen
 cases ao with
 |none=>
  obtain rfl:=jr rfl
  obtain rfl:n=0:=by omega
  obtain rfl:C=[]:=List.eq_nil_of_length_eq_zero (by rw[hlen.out])
  clear hlen
  go_enter Tryz.func210,Tryz.ntmps210
  go_wp2_with (at_make;refine wpList_make_full _ rfl (.tmp 5) (.tmp 5) 22 rfl w.heap.size 53 i0 (.agg #[.slice none 0 0,.slice none 0 0]) 2 Tryz.underlying22 hi bK bm _ _ _ _ 0 rfl rfl rfl rfl (by rw[bQ];omega) (by unfold maxLen;omega) (Nat.le_refl _) ?_)
  intro w1 own grow
  have bel:Below w.heap.size w w1:=(Below.refl _ _).grown grow (Nat.le_refl _) (fun k h=>by cases h)
  obtain⟨L,hL,B⟩:=pq own
  obtain rfl:L=[]:=List.eq_nil_of_length_eq_zero (by rw[hL])
  clear own grow
  go_wp2_with (refine jh rfl (.tmp 7) (.tmp 8) 22 22 rfl 53 2 Tryz.underlying22 dW w.heap.size 0 rfl rfl ?_)
  go_ret
  exact⟨_,rfl,B,Nat.le_refl _,bel⟩
 |some ad=>
  go_enter Tryz.func210,Tryz.ntmps210
  go_wp2_with (at_make;refine wpList_make_full _ rfl (.tmp 5) (.tmp 5) 22 rfl w.heap.size 53 i0 (.agg #[.slice none 0 0,.slice none 0 0]) 2 Tryz.underlying22 hi bK bm _ _ _ _ n rfl rfl rfl rfl (by rw[bQ];omega) (by unfold maxLen;omega) (Nat.le_refl _) ?_)
  intro w1 own grow
  have bel:Below w.heap.size w w1:=(Below.refl _ _).grown grow (Nat.le_refl _) (fun k h=>by cases h)
  obtain⟨L,hL,B⟩:=pq own
  have hr:=ew.keep bel (Nat.le_refl _)
  have eS:∀j u,C[j]? =some u->w1.cell? (ad.add j)=some u:=by
   intro j u hu
   obtain⟨b',lB,e,_,hc⟩:=hr.at (by intro e;rw[e] at hu;simp at hu)
   obtain rfl:=Option.some.inj e
   rw[Addr.add_lit]
   exact hc j u hu
  have dY:C.length=L.length:=by rw[hlen.out,hL]
  replace dY:=aa dY
  replace hL:=aa hL
  clear own grow hr ew
  generalize hg:w.heap.size=g at*
  go_wp2_with (refine ii rfl (.tmp 7) (.tmp 8) 22 22 rfl 53 2 Tryz.underlying22 dW g n n ad cap rfl rfl L 53 B C hlen.out eS dY.out one g w bel (Nat.le_refl _) ?_)
  intro w2 B2 am
  go_wp2_with fail
  go_ret
  exact⟨g,rfl,B2,by omega,by rw[hg];exact am⟩
theorem uf:(Tryz.prog.info? 107).map (fun i=>(i.zero,i.size,i.bytes))=some (some (.agg #[.int .i64 0,.int .i64 0,.int .i64 0,.slice none 0 0]),4,48):=by kernel_rfl
theorem Sk (ao:Option Addr)(cap:Nat)(C:List Value)(n:Nat)(w:World)(ew:Row w ao C)(fE:n<=cap)(jr:ao=none->cap=0)(hlen:C.length=n*4)(one:∀v∈C,v.oneCell'=true)(hl:n<=1000000000000):
  Calls Tryz.prog 211 #[.slice ao n cap] w fun e w'=>∃g,e=.returned (.slice (some ⟨g,0,none⟩) n n)/\ag w' g C 107/\w.heap.size<=g/\Below w.heap.size w w':=by
 obtain⟨i0,hi,bK,bm,bQ⟩:=info_parts uf
 have dW:(Tryz.prog.info? 107).map (·.size)=some 4:=by rw[hi];exact congrArg some bm
 replace hlen:=aa hlen
 cases ao with
 |none=>
  obtain rfl:=jr rfl
  obtain rfl:n=0:=by omega
  obtain rfl:C=[]:=List.eq_nil_of_length_eq_zero (by rw[hlen.out])
  clear hlen
  go_enter Tryz.func211,Tryz.ntmps211
  go_wp2_with (at_make;refine wpList_make_full _ rfl (.tmp 5) (.tmp 5) 51 rfl w.heap.size 107 i0 (.agg #[.int .i64 0,.int .i64 0,.int .i64 0,.slice none 0 0]) 4 Tryz.underlying51 hi bK bm _ _ _ _ 0 rfl rfl rfl rfl (by rw[bQ];omega) (by unfold maxLen;omega) (Nat.le_refl _) ?_)
  intro w1 own grow
  have bel:Below w.heap.size w w1:=(Below.refl _ _).grown grow (Nat.le_refl _) (fun k h=>by cases h)
  obtain⟨L,hL,B⟩:=pq own
  obtain rfl:L=[]:=List.eq_nil_of_length_eq_zero (by rw[hL])
  clear own grow
  go_wp2_with (refine jh rfl (.tmp 7) (.tmp 8) 51 51 rfl 107 4 Tryz.underlying51 dW w.heap.size 0 rfl rfl ?_)
  go_ret
  exact⟨_,rfl,B,Nat.le_refl _,bel⟩
 |some ad=>
  go_enter Tryz.func211,Tryz.ntmps211
  go_wp2_with (at_make;refine wpList_make_full _ rfl (.tmp 5) (.tmp 5) 51 rfl w.heap.size 107 i0 (.agg #[.int .i64 0,.int .i64 0,.int .i64 0,.slice none 0 0]) 4 Tryz.underlying51 hi bK bm _ _ _ _ n rfl rfl rfl rfl (by rw[bQ];omega) (by unfold maxLen;omega) (Nat.le_refl _) ?_)
  intro w1 own grow
  have bel:Below w.heap.size w w1:=(Below.refl _ _).grown grow (Nat.le_refl _) (fun k h=>by cases h)
  obtain⟨L,hL,B⟩:=pq own
  have hr:=ew.keep bel (Nat.le_refl _)
  have eS:∀j u,C[j]? =some u->w1.cell? (ad.add j)=some u:=by
   intro j u hu
   obtain⟨b',lB,e,_,hc⟩:=hr.at (by intro e;rw[e] at hu;simp at hu)
   obtain rfl:=Option.some.inj e
   rw[Addr.add_lit]
   exact hc j u hu
  have dY:C.length=L.length:=by rw[hlen.out,hL]
  replace dY:=aa dY
  replace hL:=aa hL
  clear own grow hr ew
  generalize hg:w.heap.size=g at*
  go_wp2_with (refine ii rfl (.tmp 7) (.tmp 8) 51 51 rfl 107 4 Tryz.underlying51 dW g n n ad cap rfl rfl L 107 B C hlen.out eS dY.out one g w bel (Nat.le_refl _) ?_)
  intro w2 B2 am
  go_wp2_with fail
  go_ret
  exact⟨g,rfl,B2,by omega,by rw[hg];exact am⟩
theorem Mv:(Tryz.prog.info? 56).map (fun i=>(i.zero,i.size,i.bytes))=some (some (.agg #[.int .i64 0,.int .i64 0]),2,16):=by kernel_rfl
theorem UD (ao:Option Addr)(cap:Nat)(C:List Value)(n:Nat)(w:World)(ew:Row w ao C)(fE:n<=cap)(jr:ao=none->cap=0)(hlen:C.length=n*2)(one:∀v∈C,v.oneCell'=true)(hl:n<=1000000000000):
  Calls Tryz.prog 212 #[.slice ao n cap] w fun e w'=>∃g,e=.returned (.slice (some ⟨g,0,none⟩) n n)/\ag w' g C 56/\w.heap.size<=g/\Below w.heap.size w w':=by
 obtain⟨i0,hi,bK,bm,bQ⟩:=info_parts Mv
 have dW:(Tryz.prog.info? 56).map (·.size)=some 2:=by rw[hi];exact congrArg some bm
 replace hlen:=aa hlen
 cases ao with
 |none=>
  obtain rfl:=jr rfl
  obtain rfl:n=0:=by omega
  obtain rfl:C=[]:=List.eq_nil_of_length_eq_zero (by rw[hlen.out])
  clear hlen
  go_enter Tryz.func212,Tryz.ntmps212
  go_wp2_with (at_make;refine wpList_make_full _ rfl (.tmp 5) (.tmp 5) 42 rfl w.heap.size 56 i0 (.agg #[.int .i64 0,.int .i64 0]) 2 Tryz.underlying42 hi bK bm _ _ _ _ 0 rfl rfl rfl rfl (by rw[bQ];omega) (by unfold maxLen;omega) (Nat.le_refl _) ?_)
  intro w1 own grow
  have bel:Below w.heap.size w w1:=(Below.refl _ _).grown grow (Nat.le_refl _) (fun k h=>by cases h)
  obtain⟨L,hL,B⟩:=pq own
  obtain rfl:L=[]:=List.eq_nil_of_length_eq_zero (by rw[hL])
  clear own grow
  go_wp2_with (refine jh rfl (.tmp 7) (.tmp 8) 42 42 rfl 56 2 Tryz.underlying42 dW w.heap.size 0 rfl rfl ?_)
  go_ret
  exact⟨_,rfl,B,Nat.le_refl _,bel⟩
 |some ad=>
  go_enter Tryz.func212,Tryz.ntmps212
  go_wp2_with (at_make;refine wpList_make_full _ rfl (.tmp 5) (.tmp 5) 42 rfl w.heap.size 56 i0 (.agg #[.int .i64 0,.int .i64 0]) 2 Tryz.underlying42 hi bK bm _ _ _ _ n rfl rfl rfl rfl (by rw[bQ];omega) (by unfold maxLen;omega) (Nat.le_refl _) ?_)
  intro w1 own grow
  have bel:Below w.heap.size w w1:=(Below.refl _ _).grown grow (Nat.le_refl _) (fun k h=>by cases h)
  obtain⟨L,hL,B⟩:=pq own
  have hr:=ew.keep bel (Nat.le_refl _)
  have eS:∀j u,C[j]? =some u->w1.cell? (ad.add j)=some u:=by
   intro j u hu
   obtain⟨b',lB,e,_,hc⟩:=hr.at (by intro e;rw[e] at hu;simp at hu)
   obtain rfl:=Option.some.inj e
   rw[Addr.add_lit]
   exact hc j u hu
  have dY:C.length=L.length:=by rw[hlen.out,hL]
  replace dY:=aa dY
  replace hL:=aa hL
  clear own grow hr ew
  generalize hg:w.heap.size=g at*
  go_wp2_with (refine ii rfl (.tmp 7) (.tmp 8) 42 42 rfl 56 2 Tryz.underlying42 dW g n n ad cap rfl rfl L 56 B C hlen.out eS dY.out one g w bel (Nat.le_refl _) ?_)
  intro w2 B2 am
  go_wp2_with fail
  go_ret
  exact⟨g,rfl,B2,by omega,by rw[hg];exact am⟩
theorem NX:(Tryz.prog.info? 4).map (fun i=>(i.zero,i.size,i.bytes))=some (some (.bool false),1,1):=by kernel_rfl
theorem TZ (ao:Option Addr)(cap:Nat)(C:List Value)(n:Nat)(w:World)(ew:Row w ao C)(fE:n<=cap)(jr:ao=none->cap=0)(hlen:C.length=n*1)(one:∀v∈C,v.oneCell'=true)(hl:n<=140737488355328):
  Calls Tryz.prog 213 #[.slice ao n cap] w fun e w'=>∃g,e=.returned (.slice (some ⟨g,0,none⟩) n n)/\ag w' g C 4/\w.heap.size<=g/\Below w.heap.size w w':=by
 obtain⟨i0,hi,bK,bm,bQ⟩:=info_parts NX
 have dW:(Tryz.prog.info? 4).map (·.size)=some 1:=by rw[hi];exact congrArg some bm
 replace hlen:=aa hlen
 cases ao with
 |none=>
  obtain rfl:=jr rfl
  obtain rfl:n=0:=by omega
  obtain rfl:C=[]:=List.eq_nil_of_length_eq_zero (by rw[hlen.out])
  clear hlen
  go_enter Tryz.func213,Tryz.ntmps213
  go_wp2_with (at_make;refine wpList_make_full _ rfl (.tmp 5) (.tmp 5) 105 rfl w.heap.size 4 i0 (.bool false) 1 Tryz.underlying105 hi bK bm _ _ _ _ 0 rfl rfl rfl rfl (by rw[bQ];omega) (by unfold maxLen;omega) (Nat.le_refl _) ?_)
  intro w1 own grow
  have bel:Below w.heap.size w w1:=(Below.refl _ _).grown grow (Nat.le_refl _) (fun k h=>by cases h)
  obtain⟨L,hL,B⟩:=pq own
  obtain rfl:L=[]:=List.eq_nil_of_length_eq_zero (by rw[hL])
  clear own grow
  go_wp2_with (refine jh rfl (.tmp 7) (.tmp 8) 105 105 rfl 4 1 Tryz.underlying105 dW w.heap.size 0 rfl rfl ?_)
  go_ret
  exact⟨_,rfl,B,Nat.le_refl _,bel⟩
 |some ad=>
  go_enter Tryz.func213,Tryz.ntmps213
  go_wp2_with (at_make;refine wpList_make_full _ rfl (.tmp 5) (.tmp 5) 105 rfl w.heap.size 4 i0 (.bool false) 1 Tryz.underlying105 hi bK bm _ _ _ _ n rfl rfl rfl rfl (by rw[bQ];omega) (by unfold maxLen;omega) (Nat.le_refl _) ?_)
  intro w1 own grow
  have bel:Below w.heap.size w w1:=(Below.refl _ _).grown grow (Nat.le_refl _) (fun k h=>by cases h)
  obtain⟨L,hL,B⟩:=pq own
  have hr:=ew.keep bel (Nat.le_refl _)
  have eS:∀j u,C[j]? =some u->w1.cell? (ad.add j)=some u:=by
   intro j u hu
   obtain⟨b',lB,e,_,hc⟩:=hr.at (by intro e;rw[e] at hu;simp at hu)
   obtain rfl:=Option.some.inj e
   rw[Addr.add_lit]
   exact hc j u hu
  have dY:C.length=L.length:=by rw[hlen.out,hL]
  replace dY:=aa dY
  replace hL:=aa hL
  clear own grow hr ew
  generalize hg:w.heap.size=g at*
  go_wp2_with (refine ii rfl (.tmp 7) (.tmp 8) 105 105 rfl 4 1 Tryz.underlying105 dW g n n ad cap rfl rfl L 4 B C hlen.out eS dY.out one g w bel (Nat.le_refl _) ?_)
  intro w2 B2 am
  go_wp2_with fail
  go_ret
  exact⟨g,rfl,B2,by omega,by rw[hg];exact am⟩
theorem xW (w:World):(zeroValue 107).run Tryz.prog w=.ok (.agg #[.int .i64 0,.int .i64 0,.int .i64 0,.slice none 0 0]) w:=by
 obtain⟨i0,hi,bK,bm,bQ⟩:=info_parts uf
 simp[zeroValue,typeInfo,hi,bK]
theorem pF (bl news:List Lb)(i:Nat):splice (bl.flatMap Lb.cells) (i*4) (news.flatMap Lb.cells)=(splice bl i news).flatMap Lb.cells:=by
 unfold splice
 rw[oP Lb.four,List.flatMap_append,List.flatMap_append]
 congr 2
 rw[av Lb.four,show i*4+news.length*4=(i+news.length)*4 by omega,mE Lb.four]
theorem Ew {α:Type}(bl:List α)(i:Nat)(h:i+1<=bl.length):(splice bl i (bl.drop (i+1))).take (bl.length-1)=bl.eraseIdx i:=by
 unfold splice
 rw[List.eraseIdx_eq_take_drop_succ,<-List.append_assoc,List.take_left']
 rw[List.length_append,List.length_take,List.length_drop]
 omega
theorem FZ {α:Type}(l:List α)(p:Nat)(z:α)(h:l.length=p+1):splice l p [z]=l.take p++[z]:=by
 unfold splice
 rw[List.drop_eq_nil_of_le (by simp;omega),List.append_nil]
theorem EW (bl:List Lb)(bg i p:Nat)(w:World)(B:ag w bg (bl.flatMap Lb.cells) 107)(hi:i<=p)(hn:bl.length=p+1)(few:p<8):
  Calls Tryz.prog 158 #[.slice (some ⟨bg,0,none⟩) (p+1) (p+1),.int .i64 i,.int .i64 (i+1:Nat)] w fun e w'=>
   e=.returned (.slice (some ⟨bg,0,none⟩) p (p+1))/\ag w' bg ((bl.eraseIdx i++[qq]).flatMap Lb.cells) 107/\w.grownBy w' (some bg):=by
 obtain⟨i0,Sv,bK,bm,bQ⟩:=info_parts uf
 replace hn:=aa hn
 have mb:((bl.drop (i+1)).flatMap Lb.cells).length=(p-i)*4:=by rw[av Lb.four,List.length_drop,hn.out];omega
 have fc:∀v∈(bl.drop (i+1)).flatMap Lb.cells,v.oneCell'=true:=by
  intro v hv
  obtain⟨x,_,hx⟩:=List.mem_flatMap.1 hv
  simp only[Lb.cells,List.mem_cons,List.not_mem_nil,or_false] at hx
  rcases hx with rfl|rfl|rfl|rfl<;>rfl
 have BD:ag w.drew bg (bl.flatMap Lb.cells) 107:=B
 obtain⟨A,hA,eS⟩:∃A:Addr,(if p=i then some (⟨bg,0,none⟩:Addr) else some ⟨bg,(i+1)*4,none⟩)=some A/\Hid (∀t u,((bl.drop (i+1)).flatMap Lb.cells)[t]? =some u->w.drew.cell? (A.add t)=some u):=by
  by_cases h:p=i
  .refine⟨⟨bg,0,none⟩,by rw[if_pos h],fun t u hu=>?_⟩
   rw[List.drop_eq_nil_of_le (by rw[hn.out];omega)] at hu
   simp at hu
  refine⟨⟨bg,(i+1)*4,none⟩,by rw[if_neg h],fun t u hu=>?_⟩
  rw[Addr.add_lit,BD.cell,<-List.getElem?_drop,mE Lb.four]
  exact hu
 have dY:i*4+((bl.drop (i+1)).flatMap Lb.cells).length<=(bl.flatMap Lb.cells).length:=by rw[mb,av Lb.four,hn.out];omega
 replace mb:=aa mb
 replace fc:=aa fc
 replace dY:=aa dY
 have q1:(i:Int)<=(p:Int)+1:=by omega
 have q2:(i:Int)+1<=(p:Int)+1:=by omega
 have q3:(0:Int)<=(i:Int)+1:=by omega
 have q4:((i:Int)+1).toNat=i+1:=by omega
 have q5:((p:Int)+1).toNat=p+1:=by omega
 have q6:(0:Int)<=(p:Int)+1:=by omega
 clear B
 go_enter Tryz.func158,Tryz.ntmps158
 go_wp2_with fail
 go_region_law (refine wK (by rfl) (.tmp 22) (.tmp 25) 51 (by rfl) 107 i0 4 Tryz.underlying51 Sv bm bg i (p+1) (by simp[Act.eval,Act.put]) (bl.flatMap Lb.cells) 107 BD A (p-i) (p-i) ((bl.drop (i+1)).flatMap Lb.cells) (by simp[Act.eval,Act.put]) mb.out eS.out fc.out (by omega) dY.out ?_;intro w5 B5 gI;rw[show i+(p-i)=p by omega])
 rw[pF] at B5
 have Al:=fun ty=>nA w5 51 107 ty _ Tryz.underlying51 xW rfl bg (p*4) 1 1 (by decide) _ _ B5 (by rw[av Lb.four];unfold splice;simp only[List.length_append,List.length_take,List.length_drop,hn.out];omega)
 obtain⟨B6,dj⟩:=ag.setCells ((List.replicate 1 qq).flatMap Lb.cells) (p*4) B5 (by rw[av Lb.four,av Lb.four];unfold splice;simp only[List.length_append,List.length_take,List.length_drop,List.length_replicate,hn.out];omega)
 go_wp2_with fail
 go_ret
 refine⟨rfl,?_,?_⟩
 .rw[pF,show List.replicate 1 qq=[qq] from rfl,FZ _ p _ (by unfold splice;simp only[List.length_append,List.length_take,List.length_drop,hn.out];omega)] at B6
  have e:=Ew bl i (by rw[hn.out];omega)
  rw[hn.out,Nat.add_sub_cancel] at e
  rw[e] at B6
  exact B6
 exact⟨dj.os.trans gI.os,dj.tape.trans gI.tape,dj.output.trans gI.output,Nat.le_trans gI.size dj.size,fun j hj aF=>(dj.block j (Nat.lt_of_lt_of_le hj gI.size) aF).trans (gI.block j hj aF)⟩
def j8 (before:Int)(x:Lb):Bool:=decide (x.b.to<before)
theorem vQ (x:Lb)(before:Int)(cb:Nat)(w:World)(B:ag w cb [.int .i64 before] 3):
  Calls Tryz.prog 160 #[.agg #[.int .i64 x.b.n,.int .i64 x.b.fr,.int .i64 x.b.to,.slice x.a x.b.bits.length x.c],.pointer (some ⟨cb,0,none⟩)] w fun e w'=>e=.returned (.bool (j8 before x))/\Below w.heap.size w w':=by
 have d0:w.cell? ⟨cb,0,none⟩=some (.int .i64 before):=B.cell 0
 have lc:=B.lt
 unfold j8
 go_enter Tryz.func160,Tryz.ntmps160
 go_wp2_with fail
 go_ret
 exact⟨rfl,(Below.refl _ _).alloc (Nat.le_refl _) _⟩
theorem Pq (bl:List Lb)(before:Int)(bg cb n:Nat)(w:World)(B:ag w bg (bl.flatMap Lb.cells) 107)(Bc:ag w cb [.int .i64 before] 3)(hn:bl.length=n)(few:n<=8):
  Calls Tryz.prog 184 #[.slice (some ⟨bg,0,none⟩) n n,.func (.func 160) #[] #[.pointer (some ⟨cb,0,none⟩)]] w fun e w'=>
   Below w.heap.size w w'/\((e=.returned (.int .i64 (-1))/\∀x∈bl,j8 before x=false)\/∃k x,e=.returned (.int .i64 (k:Nat))/\bl[k]? =some x/\j8 before x=true/\∀y∈bl.take k,j8 before y=false):=by
 replace hn:=aa hn
 have b0:=Below.refl w.heap.size w
 go_enter Tryz.func184,Tryz.ntmps184
 go_wp2_with fail
 go_loopw [8] (fun i wr=>∃(k:Nat),k<=n/\i=.int .i64 k/\Hid (∀y∈bl.take k,j8 before y=false)/\Below w.heap.size w wr) (fun i _=>n-(intOf i).toNat)
 case atStart=>exact⟨0,by omega,rfl,aa (fun y hy=>by simp at hy),b0⟩
 case round=>
  clear b0
  obtain⟨k,hk,rfl,H,bel⟩:=hrel
  by_cases aE:k<n
  .obtain⟨x,hx⟩:∃x,bl[k]? =some x:=⟨_,List.getElem?_eq_getElem (by rw[hn.out];exact aE)⟩
   have B1:=B.keep bel B.lt
   have FG:=Bc.keep bel Bc.lt
   have e0:wr.cell? ⟨bg,k*4,none⟩=some (.int .i64 x.b.n):=by rw[B1.cell];exact flat_get Lb.four _ k 0 _ hx (by decide)
   have e1:wr.cell? ⟨bg,k*4+1,none⟩=some (.int .i64 x.b.fr):=by rw[B1.cell];exact flat_get Lb.four _ k 1 _ hx (by decide)
   have e2:wr.cell? ⟨bg,k*4+2,none⟩=some (.int .i64 x.b.to):=by rw[B1.cell];exact flat_get Lb.four _ k 2 _ hx (by decide)
   have e3:wr.cell? ⟨bg,k*4+3,none⟩=some (.slice x.a x.b.bits.length x.c):=by rw[B1.cell];exact flat_get Lb.four _ k 3 _ hx (by decide)
   have c:=fun W h=>vQ x before cb W h
   have Xa:k<8:=by omega
   replace hx:=aa hx
   clear B1
   cases hp:j8 before x with
   |true=>
    rw[hp] at c
    replace hp:=aa hp
    go_wp2_with fail
    go_at_call 160
    refine(c _ FG).mono ?_
    rintro e w2 ⟨rfl,b2⟩
    have am:=ac bel b2
    go_wp2_with fail
    go_ret
    exact⟨am,.inr ⟨k,x,rfl,hx.out,hp.out,H.out⟩⟩
   |false=>
    rw[hp] at c
    have H2:∀y∈bl.take (k+1),j8 before y=false:=by
     intro y hy
     rw[List.take_add_one,hx.out] at hy
     rcases List.mem_append.1 hy with hy|hy
     .exact H.out y hy
     simp at hy
     rw[hy]
     exact hp
    replace H2:=aa H2
    clear hp
    go_wp2_with fail
    go_at_call 160
    refine(c _ FG).mono ?_
    rintro e w2 ⟨rfl,b2⟩
    have am:=ac bel b2
    go_wp2_with fail
    go_roundw
    case rel=>exact⟨k+1,by omega,by go_num,H2,am⟩
    case measure=>simp[intOf];omega
  obtain rfl:k=n:=by omega
  have H':=H.out
  rw[List.take_of_length_le (by rw[hn.out];exact Nat.le_refl _)] at H'
  replace H':=aa H'
  go_wp2_with fail
  go_ret
  exact⟨bel,.inl ⟨rfl,H'.out⟩⟩
def eo (before:Int)(l:List Lb):List Lb:=l.filter (fun x=> !j8 before x)
theorem sZ {before:Int} :∀ {l:List Lb},(∀x∈l,j8 before x=false)->eo before l=l
 | [],_=>rfl
 |x::r,h=>by
  unfold eo
  rw[List.filter_cons,h x (List.mem_cons_self ..)]
  have:=sZ (l:=r) (fun y hy=>h y (List.mem_cons_of_mem _ hy))
  unfold eo at this
  rw[this]
  rfl
theorem vY (before:Int)(l:List Lb)(j:Nat)(x:Lb)(hx:l[j]? =some x):eo before (l.take (j+1))=if j8 before x=true then eo before (l.take j) else eo before (l.take j)++[x]:=by
 unfold eo
 rw[List.take_add_one,hx,List.filter_append]
 cases h:j8 before x with
 |true=>simp[h]
 |false=>simp[h]
theorem ET {α:Type}(K mN D:List α)(y x:α)(i:Nat)(hi:i=K.length):(K++(y::mN)++(x::D)).set i x=(K++[x])++(mN++[x])++D:=by
 subst hi
 rw[List.append_assoc,List.set_append_right _ _ (Nat.le_refl _),Nat.sub_self]
 simp
theorem ey {a b c:World}{row:Option Nat}(h:a.grownBy b row)(k:b.grownBy c row):a.grownBy c row:=
 ⟨k.os.trans h.os,k.tape.trans h.tape,k.output.trans h.output,Nat.le_trans h.size k.size,fun j hj aF=>(k.block j (Nat.lt_of_lt_of_le hj h.size) aF).trans (h.block j hj aF)⟩
theorem eU {a b:World}{row:Option Nat}(h:Below a.heap.size a b):a.grownBy b row:=⟨h.os,h.tape,h.output,h.size,fun k hk _=>h.block k hk⟩
theorem Oa (bl:List Lb)(before:Int)(bg cb n:Nat)(w:World)(B:ag w bg (bl.flatMap Lb.cells) 107)(Bc:ag w cb [.int .i64 before] 3)(hn:bl.length=n)(few:n<=8):
  Calls Tryz.prog 161 #[.slice (some ⟨bg,0,none⟩) n n,.func (.func 160) #[] #[.pointer (some ⟨cb,0,none⟩)]] w fun e w'=>
   ∃tail:List Lb,e=.returned (.slice (some ⟨bg,0,none⟩) (eo before bl).length n)/\(eo before bl++tail).length=n/\ag w' bg ((eo before bl++tail).flatMap Lb.cells) 107/\w.grownBy w' (some bg):=by
 have c1:=fun W h k=>Pq bl before bg cb n W h k hn few
 replace hn:=aa hn
 go_enter Tryz.func161,Tryz.ntmps161
 go_wp2_with fail
 go_at_call 184
 refine(c1 _ B Bc).mono ?_
 rintro e w1 ⟨b1,⟨rfl,aU⟩| ⟨k0,x0,rfl,pS,sN,aU⟩⟩
 .have B1:=B.keep b1 B.lt
  have e1:eo before bl=bl:=sZ aU
  have gr:w.grownBy w1 (some bg):=eU b1
  replace e1:=aa e1
  replace aU:=aa aU
  clear B Bc c1 b1
  go_wp2_with fail
  go_ret
  exact⟨[],by rw[e1.out,hn.out];rfl,by rw[e1.out,List.append_nil];exact hn.out,by rw[e1.out,List.append_nil];exact B1,gr⟩
 have B1:=B.keep b1 B.lt
 have FG:=Bc.keep b1 Bc.lt
 have gr:w.grownBy w1 (some bg):=eU b1
 have Dn:k0<n:=by rw[<-hn.out];exact(List.getElem?_eq_some_iff.1 pS).1
 have VB:((k0:Int)==-1)=false:=beq_eq_false_iff_ne.2 (by omega)
 have tW:¬(k0:Int)=-1:=by omega
 have K0:eo before (bl.take (k0+1))=bl.take k0:=by
  rw[vY before bl k0 x0 pS,if_pos sN]
  exact sZ aU
 have rS:bl.drop k0=x0::bl.drop (k0+1):=by
  obtain⟨fC,rfl⟩:=List.getElem?_eq_some_iff.1 pS
  exact List.drop_eq_getElem_cons fC
 have st:ag w1 bg ((eo before (bl.take (k0+1))++[x0]++bl.drop (k0+1)).flatMap Lb.cells) 107:=by
  rw[K0,List.append_assoc,List.singleton_append,<-rS,List.take_append_drop]
  exact B1
 have sl:Hid (k0=(eo before (bl.take (k0+1))).length):=aa (by rw[K0,List.length_take,hn.out];omega)
 have NO:bg≠cb:=by
  rintro rfl
  exact absurd (bV B Bc) (by decide)
 replace pS:=aa pS
 replace sN:=aa sN
 replace aU:=aa aU
 replace K0:=aa K0
 replace rS:=aa rS
 clear B Bc c1 b1 B1
 go_wp2_with fail
 go_loopw [5,6] (fun s5 s6 wr=>∃(i j:Nat) (mN:List Lb),s5=.int .i64 i/\s6=.int .i64 j/\j<=n/\i<j/\Hid (i=(eo before (bl.take j)).length)/\Hid (mN.length=j-i)/\ag wr bg ((eo before (bl.take j)++mN++bl.drop j).flatMap Lb.cells) 107/\ag wr cb [.int .i64 before] 3/\w.grownBy wr (some bg)) (fun _ s6 _=>n-(intOf s6).toNat)
 case atStart=>exact⟨k0,k0+1,[x0],rfl,by go_num,by omega,by omega,sl,aa (by simp),st,FG,gr⟩
 case round=>
  clear st FG gr sl
  obtain⟨i,j,mN,rfl,rfl,hj,Fs,hi,hm,B,Bc,gr⟩:=hrel
  by_cases aE:j<n
  .obtain⟨x,hx⟩:∃x,bl[j]? =some x:=⟨_,List.getElem?_eq_getElem (by rw[hn.out];exact aE)⟩
   have hd:bl.drop j=x::bl.drop (j+1):=by
    obtain⟨fC,rfl⟩:=List.getElem?_eq_some_iff.1 hx
    exact List.drop_eq_getElem_cons fC
   have len:(eo before (bl.take j)++mN).length=j:=by rw[List.length_append,<-hi.out,hm.out];omega
   have zI:(eo before (bl.take j)++mN++bl.drop j)[j]? =some x:=by rw[List.getElem?_append_right (by omega),len,Nat.sub_self,hd];rfl
   obtain⟨y,j',rfl⟩:∃y j',mN=y::j':=List.exists_cons_of_ne_nil (by intro e;have:=hm.out;rw[e] at this;simp at this;omega)
   have hL:i<(eo before (bl.take j)++(y::j')++bl.drop j).length:=by rw[List.length_append,len];omega
   have c0:wr.cell? ⟨bg,j*4,none⟩=some (.int .i64 x.b.n):=by rw[B.cell];exact flat_get Lb.four _ j 0 _ zI (by decide)
   have c1:wr.cell? ⟨bg,j*4+1,none⟩=some (.int .i64 x.b.fr):=by rw[B.cell];exact flat_get Lb.four _ j 1 _ zI (by decide)
   have c2:wr.cell? ⟨bg,j*4+2,none⟩=some (.int .i64 x.b.to):=by rw[B.cell];exact flat_get Lb.four _ j 2 _ zI (by decide)
   have c3:wr.cell? ⟨bg,j*4+3,none⟩=some (.slice x.a x.b.bits.length x.c):=by rw[B.cell];exact flat_get Lb.four _ j 3 _ zI (by decide)
   have cv:=fun W h=>vQ x before cb W h
   have sn:=vY before bl j x hx
   have Yf:j<8:=by omega
   have lb:=B.lt
   have X:=ag.laid wr [.int .i64 x.b.n,.int .i64 x.b.fr,.int .i64 x.b.to,.slice x.a x.b.bits.length x.c] 107 _ rfl
   have BA:=B.alc (.cells #[.int .i64 x.b.n,.int .i64 x.b.fr,.int .i64 x.b.to,.slice x.a x.b.bits.length x.c] 107)
   have EU:=Bc.alc (.cells #[.int .i64 x.b.n,.int .i64 x.b.fr,.int .i64 x.b.to,.slice x.a x.b.bits.length x.c] 107)
   have Dx:=ey gr (eU (row:=some bg) ((Below.refl wr.heap.size wr).alloc (Nat.le_refl _) (.cells #[.int .i64 x.b.n,.int .i64 x.b.fr,.int .i64 x.b.to,.slice x.a x.b.bits.length x.c] 107)))
   replace hx:=aa hx
   replace hd:=aa hd
   replace len:=aa len
   replace zI:=aa zI
   replace hL:=aa hL
   cases hp:j8 before x with
   |true=>
    rw[if_pos hp] at sn
    rw[hp] at cv
    replace sn:=aa sn
    clear hp
    go_wp2_with fail
    generalize wr.alloc _=w2 at*
    go_at_call 160
    refine(cv _ EU).mono ?_
    rintro e w3 ⟨rfl,b3⟩
    have B3:=BA.keep b3 BA.lt
    have PO:=EU.keep b3 EU.lt
    have yv:=ey Dx (eU (row:=some bg) b3)
    clear B Bc gr BA EU Dx b3 c0 c1 c2 c3 X
    go_wp2_with fail
    go_roundw
    case rel=>exact⟨i,j+1,y::j'++[x],rfl,by go_num,by omega,by omega,aa (by rw[sn.out];exact hi.out),aa (by have:=hm.out;simp only[List.length_append,List.length_cons,List.length_nil] at this⊢;omega),by
      rw[sn.out]
      have e:eo before (bl.take j)++(y::j'++[x])++bl.drop (j+1)=eo before (bl.take j)++(y::j')++bl.drop j:=by rw[hd.out];simp
      rw[e]
      exact B3,PO,yv⟩
    case measure=>simp[intOf];omega
   |false=>
    rw[if_neg (by rw[hp];decide)] at sn
    rw[hp] at cv
    replace sn:=aa sn
    clear hp
    go_wp2_with fail
    generalize Uy:wr.heap.size=gx at*
    generalize wr.alloc _=w2 at*
    clear Uy
    go_at_call 160
    refine(cv _ EU).mono ?_
    rintro e w3 ⟨rfl,b3⟩
    have B3:=BA.keep b3 BA.lt
    have PO:=EU.keep b3 EU.lt
    have X3:=X.keep b3 X.lt
    have yv:=ey Dx (eU (row:=some bg) b3)
    have x0:w3.cell? ⟨gx,0,none⟩=some (.int .i64 x.b.n):=X3.cell 0
    have x1:w3.cell? ⟨gx,1,none⟩=some (.int .i64 x.b.fr):=X3.cell 1
    have x2:w3.cell? ⟨gx,2,none⟩=some (.int .i64 x.b.to):=X3.cell 2
    have x3:w3.cell? ⟨gx,3,none⟩=some (.slice x.a x.b.bits.length x.c):=X3.cell 3
    obtain⟨z,hz⟩:∃z,(eo before (bl.take j)++(y::j')++bl.drop j)[i]? =some z:=⟨_,List.getElem?_eq_getElem hL.out⟩
    have d0:w3.cell? ⟨bg,i*4,none⟩=some (.int .i64 z.b.n):=by rw[B3.cell];exact flat_get Lb.four _ i 0 _ hz (by decide)
    have d1:w3.cell? ⟨bg,i*4+1,none⟩=some (.int .i64 z.b.fr):=by rw[B3.cell];exact flat_get Lb.four _ i 1 _ hz (by decide)
    have d2:w3.cell? ⟨bg,i*4+2,none⟩=some (.int .i64 z.b.to):=by rw[B3.cell];exact flat_get Lb.four _ i 2 _ hz (by decide)
    have d3:w3.cell? ⟨bg,i*4+3,none⟩=some (.slice z.a z.b.bits.length z.c):=by rw[B3.cell];exact flat_get Lb.four _ i 3 _ hz (by decide)
    have f0:=B3.free (i*4)
    have f1:=B3.free (i*4+1)
    have f2:=B3.free (i*4+2)
    have f3:=B3.free (i*4+3)
    obtain⟨B4,Ep⟩:=B3.setB i hL.out x
    have Y2:=PO.grown Ep (fun q e=>by obtain rfl:=Option.some.inj e;exact NO)
    have Sd:=ey yv Ep
    have i8:i<8:=by omega
    have i9:(i:Int)<n:=by omega
    replace hz:=aa hz
    clear B Bc gr BA EU Dx b3 c0 c1 c2 c3 X X3 yv Ep B3 PO
    go_wp2_with fail
    go_roundw
    case rel=>exact⟨i+1,j+1,j'++[x],by go_num,by go_num,by omega,by omega,aa (by rw[sn.out,List.length_append,<-hi.out];rfl),aa (by have:=hm.out;simp only[List.length_append,List.length_cons,List.length_nil] at this⊢;omega),by
      rw[sn.out,<-ET (eo before (bl.take j)) j' (bl.drop (j+1)) y x i hi.out,<-hd.out]
      exact B4,Y2,Sd⟩
    case measure=>simp[intOf];omega
  obtain rfl:j=n:=by omega
  have e1:bl.take j=bl:=List.take_of_length_le (by rw[hn.out];exact Nat.le_refl _)
  have e2:bl.drop j=[]:=List.drop_eq_nil_of_le (by rw[hn.out];exact Nat.le_refl _)
  rw[e2,List.append_nil] at B
  rw[e1] at B hi
  have len:(eo before bl++mN).length=j:=by rw[List.length_append,<-hi.out,hm.out];omega
  have Al:=fun ty=>nA wr 51 107 ty _ Tryz.underlying51 xW rfl bg (i*4) (j-i) (j-i) (by omega) _ _ B (by rw[av Lb.four,len];omega)
  obtain⟨B6,Aw⟩:=ag.setCells ((List.replicate (j-i) qq).flatMap Lb.cells) (i*4) B (by rw[av Lb.four,av Lb.four,len,List.length_replicate];omega)
  have e3:splice (eo before bl++mN) i (List.replicate (j-i) qq)=eo before bl++List.replicate (j-i) qq:=by
   unfold splice
   rw[List.take_left' hi.out.symm,List.drop_eq_nil_of_le (by rw[List.length_replicate,len];omega),List.append_nil]
  rw[pF,e3] at B6
  have Nd:=ey gr Aw
  have RY:¬j=i:=by omega
  have q1:(i:Int)<=j:=by omega
  replace e1:=aa e1
  replace e2:=aa e2
  replace e3:=aa e3
  replace len:=aa len
  clear B Bc gr Aw
  go_wp2_with fail
  go_ret
  exact⟨_,by rw[<-hi.out];rfl,by rw[List.length_append,<-hi.out,List.length_replicate];omega,B6,Nd⟩
theorem kL:(Tryz.prog.info? 56).map (fun i=>(i.zero,i.size,i.bytes))=some (some (.agg #[.int .i64 0,.int .i64 0]),2,16):=by kernel_rfl
theorem xL:(Tryz.prog.info? 53).map (fun i=>(i.zero,i.size,i.bytes))=some (some (.agg #[.slice none 0 0,.slice none 0 0]),2,48):=by kernel_rfl
end Go.Proofs.YtoonnbhoiocoeaaGreatDoor
