/-
  shelf.All and shelf.New.
-/
import Derived.Test.YtoonnbhoiocoeaaGreatDoorQ12
set_option maxHeartbeats 40000000
set_option maxRecDepth 100000
set_option linter.unusedVariables false
namespace Go.Proofs.YtoonnbhoiocoeaaGreatDoor
open Go.RowKit
theorem A1 (w:World):
  Calls Tryz.prog 44 #[] w fun e w'=>∃a' G,e=.returned (.agg #[.slice a' 4 G])/\bL w' a' G pa/\Below w.heap.size w w':=by
 obtain⟨i0,hi,bK,bm,bQ⟩:=info_parts xL
 have B0:=ag.laid w [.slice none 0 0] 24 _ rfl
 go_enter Tryz.func44,Tryz.ntmps44
 go_wp2_with (at_make;refine wpList_make_full _ rfl (.const (.int .i64 4)) (.const (.int .i64 4)) 22 rfl (w.heap.size+1) 53 i0 (.agg #[.slice none 0 0,.slice none 0 0]) 2 Tryz.underlying22 hi bK bm _ _ _ _ 4 rfl rfl rfl rfl (by rw[bQ];omega) (by unfold maxLen;omega) (by simp) ?_)
 intro w1 own grow
 rw[show(madeCells #[Value.slice none 0 0,Value.slice none 0 0] 8).toList=pa.flatMap Lr.cells by kernel_rfl] at own
 have bel:Below w.heap.size w w1:=((Below.refl _ _).alloc (Nat.le_refl _) _).grown grow (by simp) (fun k h=>by cases h)
 have B1:=B0.grown grow (fun k h=>by cases h)
 have f0:=B1.free 0
 have d0:w1.cell? ⟨w.heap.size,0,none⟩=some (.slice none 0 0):=B1.cell 0
 have jF:=B1.lt
 go_wp2_with fail
 have eV:=own.kept (row:=some w.heap.size) (al (au w1 (some w.heap.size)) 0 (.slice (some ⟨w.heap.size+1,0,none⟩) 4 4)) (.inr (by intro e;have:w.heap.size+1=w.heap.size:=Option.some.inj e;omega))
 obtain⟨a9,c9,ev,s9,_,_⟩:=be.ofOwn Lr.two (by decide) eV
 simp only[Value.slice.injEq,true_and] at ev
 obtain⟨rfl,rfl⟩:=ev
 refine bodyPost_ret (v:=.agg #[.slice (some ⟨w.heap.size+1,0,none⟩) 4 4]) (by simp[results,Tryz.results44,go_sem,d0]) rfl ?_
 refine⟨_,_,rfl,⟨s9,fun r hr=>?_⟩,bel.setCell (Nat.le_refl _) _⟩
 simp only[pa,List.mem_cons,List.not_mem_nil,or_false,or_self] at hr
 subst hr
 exact A4 _
def mj (l:List Rw)(s:Int):Int:=if az l=0 then(if dG s 0 3=false then 5 else 0) else az l
def gU (l:List Rw)(s:Int):List Pt:=if mj l s=0 then cm (l.getD s.toNat fj) else []
theorem KQ (l:List Lr)(ao:Option Addr)(cap:Nat)(s:Int)(w:World)(hs:bL w ao cap l):
  Calls Tryz.prog 38 #[.agg #[.slice ao l.length cap],.int .i64 s] w fun e w'=>∃a' G,e=.returned (.tuple #[.slice a' (gU (l.map Lr.rw) s).length G,.int .i64 (mj (l.map Lr.rw) s)])/\
   w'.ownsRow w.heap.size 56 2 (.slice a' (gU (l.map Lr.rw) s).length G) (gU (l.map Lr.rw) s).length (ar (gU (l.map Lr.rw) s))/\Below w.heap.size w w':=by
 have c1:=fun W h=>lI l ao cap W h
 have c2:=fun W=>jt s W
 have dZ:=fun o=>hs.alloc o
 obtain⟨A,hA⟩:∃A,A=gU (l.map Lr.rw) s:=⟨_,rfl⟩
 rw[<-hA]
 by_cases hE:az (l.map Lr.rw)=0
 .by_cases hi:dG s 0 3=true
  .have e1:mj (l.map Lr.rw) s=0:=by unfold mj;rw[if_pos hE,hi];rfl
   obtain⟨h4,MO⟩:=i7 hE
   rw[List.length_map] at h4
   have jf:0<=s/\s<=3:=by unfold dG at hi;simpa using hi
   obtain⟨k,rfl⟩:∃k:Nat,s=k:=⟨s.toNat,by omega⟩
   have hk:k<4:=by omega
   obtain⟨x,hx⟩:∃x,l[k]? =some x:=⟨_,List.getElem?_eq_getElem (by omega)⟩
   have Xh:dV x.rw=0:=lT MO x.rw (List.mem_map.2 ⟨x,List.mem_of_getElem? hx,rfl⟩)
   obtain⟨z1,z2,z3⟩:=ig Xh
   have kh:A=pO x.rw:=by
    rw[hA];unfold gU pO;rw[if_pos e1,if_pos z2,Int.toNat_natCast]
    congr 1
    simp[List.getD,List.getElem?_map,hx]
   have c3:=fun W h=>uk x W h (by unfold Lr.rw at z1;simpa using z1)
   rw[<-kh,z2] at c3
   rw[hE] at c1
   rw[e1]
   rw[hi] at c2
   rw[h4] at c1⊢
   obtain⟨b,off,rfl,ld⟩:=hs.where (by intro e;rw[e] at h4;simp at h4)
   unfold Lr.v at c3
   replace h4:=aa h4
   replace hx:=aa hx
   clear kh hA hE hi e1 MO Xh z1 z2 z3 jf
   have B0:=ag.laid w [.slice (some ⟨b,off,none⟩) 4 cap] 24 _ rfl
   have cq:Below w.heap.size w (w.alloc (.cells #[.slice (some ⟨b,off,none⟩) 4 cap] 24)):=(Below.refl _ _).alloc (Nat.le_refl _) _
   replace dZ:=dZ (.cells #[.slice (some ⟨b,off,none⟩) 4 cap] 24)
   go_enter Tryz.func38,Tryz.ntmps38
   go_wp2_with fail
   generalize w.alloc _=w1 at*
   go_at_call 79
   refine(c1 _ dZ).mono ?_
   rintro e w2 ⟨rfl,b2⟩
   have ij:=dZ.call b2
   have B2:=B0.keep b2 B0.lt
   have am:=ac cq b2
   have d0:w2.cell? ⟨w.heap.size,0,none⟩=some (.slice (some ⟨b,off,none⟩) 4 cap):=B2.cell 0
   obtain⟨e0,e1,gr⟩:=ij.at k x hx.out
   clear b2 dZ B0 cq
   go_wp2_with fail
   go_at_call 80
   refine(c2 _).mono ?_
   rintro e w3 ⟨rfl,rfl⟩
   go_wp2_with fail
   go_at_call 81
   refine(c3 _ gr).mono ?_
   rintro e w4 ⟨a4,G4,rfl,jR,b4⟩
   have ay:=ac am b4
   have dM:=yx jR am.size
   go_wp2_with fail
   go_ret2
   exact⟨_,_,rfl,dM,ay⟩
  have hi:dG s 0 3=false:=by simpa using hi
  have e1:mj (l.map Lr.rw) s=5:=by unfold mj;rw[if_pos hE,hi];rfl
  obtain rfl:A=[]:=by rw[hA];unfold gU;rw[e1];rfl
  rw[e1]
  rw[hE] at c1
  rw[hi] at c2
  clear hA hE e1 hi
  generalize l.length=n at*
  go_enter Tryz.func38,Tryz.ntmps38
  go_wp2_with fail
  go_at_call 79
  refine(c1 _ (dZ _)).mono ?_
  rintro e w2 ⟨rfl,b2⟩
  have am:=ac (ax (Below.refl _ w) _) b2
  go_wp2_with fail
  go_at_call 80
  refine(c2 _).mono ?_
  rintro e w3 ⟨rfl,rfl⟩
  go_wp2_with fail
  go_ret2
  exact⟨none,0,rfl,World.ownsRow_nil _ _ _ _,am⟩
 have e1:mj (l.map Lr.rw) s=az (l.map Lr.rw):=by unfold mj;rw[if_neg hE]
 obtain rfl:A=[]:=by rw[hA];unfold gU;rw[e1,if_neg hE]
 rw[e1]
 clear hA e1
 generalize az (l.map Lr.rw)=E at*
 generalize l.length=n at*
 go_enter Tryz.func38,Tryz.ntmps38
 go_wp2_with fail
 go_at_call 79
 refine(c1 _ (dZ _)).mono ?_
 rintro e w2 ⟨rfl,b2⟩
 have am:=ac (ax (Below.refl _ w) _) b2
 go_wp2_with fail
 go_ret2
 exact⟨none,0,rfl,World.ownsRow_nil _ _ _ _,am⟩
def mt (cs:List Value):Prop:=∀v∈cs,∃a n c,v=Value.slice a n c
theorem mt.noBool {cs:List Value}(h:mt cs):∀v∈cs,∀b,v≠.bool b:=by
 intro v hv b e
 obtain⟨a,n,c,rfl⟩:=h v hv
 cases e
theorem kv (l:List Lr):mt (l.flatMap Lr.cells):=by
 intro v hv
 obtain⟨r,_,hr⟩:=List.mem_flatMap.1 hv
 simp only[Lr.cells,List.mem_cons,List.not_mem_nil,or_false] at hr
 rcases hr with rfl|rfl<;>exact⟨_,_,_,rfl⟩
theorem io (a:Option Addr)(n c:Nat):mt [.slice a n c]:=by
 intro v hv
 simp only[List.mem_singleton] at hv
 exact⟨_,_,_,hv⟩
theorem Row.offSl {w:World}{ao:Option Addr}{g:Nat}{cs ds:List Value}{t:TypeId}{x:Int}{k:IntKind}(h:Row w ao (.int k x::ds))(B:ag w g cs t)(hs:mt cs):Off g ao:=by
 obtain⟨b,off,rfl,hb,hc⟩:=h.at (by simp)
 intro ad e
 cases e
 intro e
 have e:b=g:=e
 subst e
 have h0:=hc 0 (.int k x) (by simp)
 rw[B.cell] at h0
 obtain⟨a,n,c,e⟩:=hs _ (List.mem_of_getElem? h0)
 cases e
theorem Lr.Good.offSl {w w':World}{r:Lr}{g:Nat}{cs:List Value}{t:TypeId}(h:r.Good w)(hg:w.grownBy w' (some g))(B:ag w g cs t)(hs:mt cs):r.Good w':=by
 refine⟨⟨⟨?_,h.bs.sl.le,h.bs.sl.max,h.bs.sl.nil⟩,fun x hx=>(h.bs.good x hx).off hg B hs.noBool⟩,⟨?_,h.hd.le,h.hd.max,h.hd.nil⟩,h.few,h.hfew⟩
 .have:=h.bs.sl.row
  cases hb:r.bs with
  |nil=>exact .inl rfl
  |cons x q=>
   rw[hb] at this
   exact this.off hg (Row.offSl (ds:=_) this B hs)
 have:=h.hd.row
 cases hb:r.hd with
 |nil=>exact .inl rfl
 |cons x q=>
  rw[hb] at this
  exact this.off hg (Row.offSl (ds:=_) this B hs)
theorem iD.offSl {w w':World}{base g g':Nat}{rs:List Lr}{cs:List Value}{t:TypeId}(h:iD w base g rs)(hg:w.grownBy w' (some g'))(B:ag w g' cs t)(hs:mt cs)(aF:g'≠g):iD w' base g rs:=
 ⟨h.rows.grown hg (fun k e=>by obtain rfl:=Option.some.inj e;exact aF),h.lo,fun r hr=>(h.good r hr).offSl hg B hs⟩
theorem bL.written {w:World}{ao:Option Addr}{cap g i:Nat}{rs:List Lr}{cs:List Value}{t:TypeId}{u:Value}(h:bL w ao cap rs)(hs:mt cs)(B:ag w g cs t)(aF:Off g ao):bL (w.setCell ⟨g,i,none⟩ u) ao cap rs:=by
 have grow:w.grownBy (w.setCell ⟨g,i,none⟩ u) (some g):=al (au w _) _ _
 exact⟨⟨h.sl.row.off grow aF,h.sl.le,h.sl.max,h.sl.nil⟩,fun r hr=>(h.good r hr).offSl grow B hs⟩
theorem qV {α:Type}{f:α->List Value}(x y:α)(u v:Value)(hx:f x=[u,v])(z:Value)(hy:f y=[z,v])(hf:∀x,(f x).length=2):∀(l:List α) (k:Nat),l[k]? =some x->(l.flatMap f).set (k*2) z=(l.set k y).flatMap f
 | [],k,h=>by simp at h
 |q::r,0,h=>by
  simp at h
  subst h
  rw[List.flatMap_cons,List.set_cons_zero,List.flatMap_cons,hx,hy]
  rfl
 |q::r,k+1,h=>by
  have ih:=qV x y u v hx z hy hf r k (by simpa using h)
  rw[List.flatMap_cons,List.set_cons_succ,List.flatMap_cons,<-ih,List.set_append_right _ _ (by rw[hf];omega),hf,show(k+1)*2-2=k*2 by omega]
theorem sM {α:Type}{f:α->List Value}(x y:α)(u v:Value)(hx:f x=[u,v])(z:Value)(hy:f y=[u,z])(hf:∀x,(f x).length=2):∀(l:List α) (k:Nat),l[k]? =some x->(l.flatMap f).set (k*2+1) z=(l.set k y).flatMap f
 | [],k,h=>by simp at h
 |q::r,0,h=>by
  simp at h
  subst h
  rw[List.flatMap_cons,List.set_cons_zero,List.flatMap_cons,hx,hy]
  rfl
 |q::r,k+1,h=>by
  have ih:=sM x y u v hx z hy hf r k (by simpa using h)
  rw[List.flatMap_cons,List.set_cons_succ,List.flatMap_cons,<-ih,List.set_append_right _ _ (by rw[hf];omega),hf,show(k+1)*2+1-2=k*2+1 by omega]
def iY (l:List Rw)(E:Int):Int:=if az l=0 then E else az l
def ia (l:List Rw)(E:Int)(L:List Rw):List Rw:=if iY l E=0 then L else []
def fv (base:Nat)(rs:List Lr):Prop:=∀r∈rs,∀ad,r.ha=some ad->base<=ad.block
theorem fv.mono {base base':Nat}{rs:List Lr}(h:fv base rs)(hb:base'<=base):fv base' rs:=fun r hr ad e=>Nat.le_trans hb (h r hr ad e)
theorem fv.set {base:Nat}{rs:List Lr}(h:fv base rs)(k:Nat)(y:Lr)(hy:∀ad,y.ha=some ad->base<=ad.block):fv base (rs.set k y):=by
 intro r hr
 rcases List.mem_or_eq_of_mem_set hr with hr|rfl
 .exact h r hr
 exact hy
theorem fv.nil (base:Nat):fv base []:=fun _ hr=>(by cases hr)
theorem yL {w:World}{base:Nat}{r:Lr}(h:∃hg,r.ha=some ⟨hg,0,none⟩/\w.ownsRow base 56 2 (.slice (some ⟨hg,0,none⟩) r.hd.length r.hc) r.hd.length (ar r.hd)):∀ad,r.ha=some ad->base<=ad.block:=by
 intro ad e
 obtain⟨hg,e2,o⟩:=h
 obtain⟨cur,B,lo⟩:=my o
 rw[e2] at e
 obtain rfl:=Option.some.inj e
 exact lo
def Does (E:Int)(L:List Rw)(base box g:Nat)(W:World)(e:Ending)(W':World):Prop:=
 e=.returned (.int .i64 E)/\Below base W W'/\(E=0->∃iG,iD W' base g iG/\(iG.length=4/\fv base iG)/\iG.map Lr.rw=L/\ag W' box [.slice (some ⟨g,0,none⟩) 4 4] 24)
structure bv (l:List Rw)(base box g:Nat)(rs:List Lr)(W:World):Prop where
 out:ag W box [.slice (some ⟨g,0,none⟩) 4 4] 24
 lo:base<=box
 own:oD W base g rs
 same:rs.map Lr.rw=l
theorem bv.hdLo {l:List Rw}{base box g:Nat}{rs:List Lr}{W:World}(h:bv l base box g rs W):fv base rs:=fun r hr=>yL (h.own.each r hr).hd
theorem bv.call {l:List Rw}{base box g:Nat}{rs:List Lr}{W W':World}(h:bv l base box g rs W)(hb:Below W.heap.size W W'):bv l base box g rs W':=
 ⟨h.out.keep hb h.out.lt,h.lo,h.own.call hb,h.same⟩
theorem bv.drew {l:List Rw}{base box g:Nat}{rs:List Lr}{W:World}(h:bv l base box g rs W):bv l base box g rs W.drew:=
 h.call (ak (Below.refl W.heap.size W))
theorem bv.alloc {l:List Rw}{base box g:Nat}{rs:List Lr}{W:World}(h:bv l base box g rs W)(o:Obj):bv l base box g rs (W.alloc o):=
 h.call ((Below.refl W.heap.size W).alloc (Nat.le_refl _) o)
theorem bv.base {l:List Rw}{base box g:Nat}{rs:List Lr}{W:World}(h:bv l base box g rs W):base<=W.heap.size:=by
 have h1:=h.own.lo
 have h2:=h.own.rows.lt
 omega
theorem bv.row {l:List Rw}{base box g:Nat}{rs:List Lr}{W:World}(h:bv l base box g rs W)(hR:eY l)(k:Nat)(hk:k<4):
  ∃r,rs[k]? =some r/\r.rw=l.getD k fj/\W.cell? ⟨g,k*2,none⟩=some (.slice r.ba r.bs.length r.bc)/\W.cell? ⟨g,k*2+1,none⟩=some (.slice r.ha r.hd.length r.hc)/\hH W base r/\r.bs.length<=8/\r.hd.length<=40:=by
 have hl:rs.length=4:=by rw[<-hR.four,<-h.same,List.length_map]
 obtain⟨r,hr⟩:∃r,rs[k]? =some r:=⟨_,List.getElem?_eq_getElem (by omega)⟩
 have m8:r.rw=l.getD k fj:=by rw[<-h.same];simp[List.getD,hr]
 obtain⟨e0,e1⟩:=h.own.at k r hr
 have few:=hR.few r.rw (by rw[<-h.same];exact List.mem_map.2 ⟨r,List.mem_of_getElem? hr,rfl⟩)
 exact⟨r,hr,m8,e0,e1,h.own.each r (List.mem_of_getElem? hr),by simpa[Lr.rw] using few.1,few.2⟩
theorem ApartL.set {rs:List Lr}(h:ApartL rs)(k:Nat)(y:Lr)(hb:∀j q,j≠k->rs[j]? =some q->q.ba≠y.ba/\q.ha≠y.ha):ApartL (rs.set k y):=by
 intro i j r q Fs hr hq
 rw[List.getElem?_set] at hr hq
 split at hr
 .rename_i e
  subst e
  split at hr
  .obtain rfl:=Option.some.inj hr
   split at hq
   .rename_i e
    exact absurd e Fs
   obtain⟨h1,h2⟩:=hb j q (fun e=>Fs e.symm) hq
   exact⟨fun e=>h1 e.symm,fun e=>h2 e.symm⟩
  cases hr
 split at hq
 .rename_i e
  subst e
  split at hq
  .obtain rfl:=Option.some.inj hq
   exact hb i r Fs hr
  cases hq
 exact h i j r q Fs hr hq
theorem bv.put {l:List Rw}{base box g hg h2 c2 k m:Nat}{rs:List Lr}{W w2:World}{r:Lr}{p:Pt}(C:bv l base box g rs W)(hr:rs[k]? =some r)(hm:m=r.hd.length)(hh:r.ha=some ⟨hg,0,none⟩)
  (grow:W.grownBy w2 (some hg)) (own:w2.ownsRow base 56 2 (.slice (some ⟨h2,0,none⟩) (m+1) c2) (m+1) (ar r.hd++[.int .i64 p.1,.int .i64 p.2])) (hw:h2=hg\/W.heap.size<=h2):
  bv (l.set k ⟨r.rw.blocks,r.hd++[p]⟩) base box g (rs.set k ⟨r.bs,r.ba,r.bc,r.hd++[p],some ⟨h2,0,none⟩,c2⟩) (w2.setCell ⟨g,k*2+1,none⟩ (.slice (some ⟨h2,0,none⟩) (m+1) c2))/\
   Below base W (w2.setCell ⟨g,k*2+1,none⟩ (.slice (some ⟨h2,0,none⟩) (m+1) c2)):=by
 have oR:=C.own.each r (List.mem_of_getElem? hr)
 obtain⟨rK,e2,o0⟩:=oR.hd
 rw[hh] at e2
 simp only[Option.some.injEq,Addr.mk.injEq,and_true] at e2
 subst e2
 obtain⟨cur,BH,lo⟩:=my o0
 have ne:∀ {n:Nat} {cs:List Value} {t:TypeId},ag W n cs t->t≠56->∀i,some hg=some i->i≠n:=by
  intro n cs t B ht i e
  obtain rfl:=Option.some.inj e
  rintro rfl
  exact ht (bV B BH)
 have G2:=C.own.rows.grown grow (ne C.own.rows (by decide))
 have O2:=C.out.grown grow (ne C.out (by decide))
 have eM:w2.grownBy (w2.setCell ⟨g,k*2+1,none⟩ (.slice (some ⟨h2,0,none⟩) (m+1) c2)) (some g):=al (au w2 _) _ _
 have Z7:h2≠g:=by
  obtain⟨Ri,B2,_⟩:=my own
  rintro rfl
  exact absurd (bV B2 G2) (by decide)
 have ZG:ar r.hd++[.int .i64 p.1,.int .i64 p.2]=ar (r.hd++[p]):=by rw[dF];rfl
 have pZ:(r.hd++[p]).length=m+1:=by rw[List.length_append,hm];rfl
 have Vc:∀q:Lr,hH W base q->q.ha≠some ⟨hg,0,none⟩->hH w2 base q:=fun q hq aF=>hq.wrote grow BH (by decide) (hq.notB BH (by decide)) aF
 have oth:∀q:Lr,hH w2 base q->hH (w2.setCell ⟨g,k*2+1,none⟩ (.slice (some ⟨h2,0,none⟩) (m+1) c2)) base q:=fun q hq=>hq.wrote eM G2 (by decide) (hq.notB G2 (by decide)) (hq.notH G2 (by decide))
 refine⟨⟨?_,C.lo,⟨?_,C.own.lo,?_,?_⟩,?_⟩,?_⟩
 .refine O2.grown eM (fun i e=>?_)
  obtain rfl:=Option.some.inj e
  rintro rfl
  exact absurd (bV O2 G2) (by decide)
 .have B:=G2.set (k*2+1) (.slice (some ⟨h2,0,none⟩) (m+1) c2)
  rw[sM r ⟨r.bs,r.ba,r.bc,r.hd++[p],some ⟨h2,0,none⟩,c2⟩ _ _ rfl _ (by unfold Lr.cells;simp only[pZ]) Lr.two rs k hr] at B
  exact B
 .intro q hq
  obtain⟨j,hj,e⟩:=List.mem_iff_getElem.1 hq
  have iZ:(rs.set k ⟨r.bs,r.ba,r.bc,r.hd++[p],some ⟨h2,0,none⟩,c2⟩)[j]? =some q:=by rw[List.getElem?_eq_getElem hj,e]
  rw[List.getElem?_set] at iZ
  split at iZ
  .split at iZ
   .obtain rfl:=Option.some.inj iZ
    obtain⟨bg,e1,l1,B1⟩:=oR.bs
    have YX:=ne B1 (by decide)
    have B2:=B1.grown grow YX
    have B3:ag (w2.setCell ⟨g,k*2+1,none⟩ (.slice (some ⟨h2,0,none⟩) (m+1) c2)) bg (r.bs.flatMap Lb.cells) 107:=B2.grown eM (fun i e=>by
     obtain rfl:=Option.some.inj e
     rintro rfl
     exact absurd (bV B2 G2) (by decide))
    refine⟨⟨bg,e1,l1,B3⟩,oR.bc,⟨h2,rfl,?_⟩,fun x hx=>((oR.good x hx).wrote grow BH (by decide)).wrote eM G2 (by decide)⟩
    show World.ownsRow _ base _ 2 (.slice (some ⟨h2,0,none⟩) (r.hd++[p]).length c2) (r.hd++[p]).length (ar (r.hd++[p]))
    rw[pZ,<-ZG]
    exact own.kept eM (.inr (fun e=>Z7 (Option.some.inj e)))
   cases iZ
  rename_i aF
  have oq:=C.own.each q (List.mem_of_getElem? iZ)
  exact oth q (Vc q oq (by rw[<-hh];exact fun e=>(C.own.ap j k q r (fun e=>aF e.symm) iZ hr).2 e))
 .refine C.own.ap.set k _ (fun j q hj hq=>?_)
  refine⟨(C.own.ap j k q r hj hq hr).1,?_⟩
  show q.ha≠some ⟨h2,0,none⟩
  rcases hw with rfl|hw
  .rw[<-hh]
   exact(C.own.ap j k q r hj hq hr).2
  obtain⟨pA,eq,oq⟩:=(C.own.each q (List.mem_of_getElem? hq)).hd
  obtain⟨aaG,B3,_⟩:=my oq
  have:=B3.lt
  rw[eq]
  intro e
  simp only[Option.some.injEq,Addr.mk.injEq,and_true] at e
  omega
 .rw[List.map_set,C.same]
  rfl
 have b1:Below base W w2:=(Below.refl base W).grown grow C.base (fun i e=>by obtain rfl:=Option.some.inj e;exact lo)
 exact b1.setCell C.own.lo _
theorem iD.drew {w:World}{base g:Nat}{rs:List Lr}(h:iD w base g rs):iD w.drew base g rs:=h.call (ak (Below.refl w.heap.size w))
theorem iD.first {w:World}{base g k n:Nat}{rs:List Lr}{r:Lr}(h:iD w base g rs)(hr:rs[k]? =some r)(y:Lr)(hy:y.Good w)(hn:n=y.bs.length)(e1:y.ha=r.ha)(e2:y.hd.length=r.hd.length)(e3:y.hc=r.hc):
  iD (w.setCell ⟨g,k*2,none⟩ (.slice y.ba n y.bc)) base g (rs.set k y):=by
 subst hn
 have B2:=h.rows.set (k*2) (.slice y.ba y.bs.length y.bc)
 rw[qV r y _ _ rfl _ (by unfold Lr.cells;rw[e1,e2,e3]) Lr.two rs k hr] at B2
 have grow:w.grownBy (w.setCell ⟨g,k*2,none⟩ (.slice y.ba y.bs.length y.bc)) (some g):=al (au w (some g)) _ _
 refine⟨B2,h.lo,fun q hq=>?_⟩
 rcases List.mem_or_eq_of_mem_set hq with hq|rfl
 .exact(h.good q hq).offSl grow h.rows (kv rs)
 exact hy.offSl grow h.rows (kv rs)
theorem iD.second {w:World}{base g k n:Nat}{rs:List Lr}{r:Lr}(h:iD w base g rs)(hr:rs[k]? =some r)(y:Lr)(hy:y.Good w)(hn:n=y.hd.length)(e1:y.ba=r.ba)(e2:y.bs.length=r.bs.length)(e3:y.bc=r.bc):
  iD (w.setCell ⟨g,k*2+1,none⟩ (.slice y.ha n y.hc)) base g (rs.set k y):=by
 subst hn
 have B2:=h.rows.set (k*2+1) (.slice y.ha y.hd.length y.hc)
 rw[sM r y _ _ rfl _ (by unfold Lr.cells;rw[e1,e2,e3]) Lr.two rs k hr] at B2
 have grow:w.grownBy (w.setCell ⟨g,k*2+1,none⟩ (.slice y.ha y.hd.length y.hc)) (some g):=al (au w (some g)) _ _
 refine⟨B2,h.lo,fun q hq=>?_⟩
 rcases List.mem_or_eq_of_mem_set hq with hq|rfl
 .exact(h.good q hq).offSl grow h.rows (kv rs)
 exact hy.offSl grow h.rows (kv rs)
theorem bv.fin {l:List Rw}{base box g:Nat}{rs:List Lr}{W:World}(h:bv l base box g rs W)(hR:eY l):iD W base g rs:=
 h.own.fin (fun r hr=>by
  have:=hR.few r.rw (by rw[<-h.same];exact List.mem_map.2 ⟨r,hr,rfl⟩)
  unfold Lr.rw at this
  simp only[List.length_map] at this
  omega)
theorem bv.boxNe {l:List Rw}{base box g:Nat}{rs:List Lr}{W:World}(h:bv l base box g rs W):box≠g:=by
 rintro rfl
 exact absurd (bV h.out h.own.rows) (by decide)
theorem ML (r:Rw)(h:r.blocks.length<=8):zL r=dV r:=by
 unfold dV
 rw[if_neg (by omega)]
 rfl
theorem H8 (s t v:Int)(box:Nat)(W:World)(hi:dG s 0 3=false):
  Calls Tryz.prog 152 #[.pointer (some ⟨box,0,none⟩),.agg #[.int .i64 s,.int .i64 t,.int .i64 v]] W fun e W'=>e=.returned (.int .i64 5)/\Below W.heap.size W W':=by
 have c2:=fun W=>jt s W
 rw[hi] at c2
 clear hi
 go_enter Tryz.func152,Tryz.ntmps152
 go_wp2_with fail
 go_at_call 80
 refine(c2 _).mono ?_
 rintro e w3 ⟨rfl,rfl⟩
 go_wp2_with fail
 go_ret
 exact⟨rfl,(Below.refl _ _).alloc (Nat.le_refl _) _⟩
theorem Gm (l:List Rw)(k:Nat)(t v:Int)(base box g:Nat)(rs:List Lr)(W:World)(hk:k<4)(hR:eY l)(C:bv l base box g rs W):
  Calls Tryz.prog 152 #[.pointer (some ⟨box,0,none⟩),.agg #[.int .i64 k,.int .i64 t,.int .i64 v]] W fun e W'=>
   e=.returned (.int .i64 (dV ⟨(l.getD k fj).blocks,(l.getD k fj).head++[(t,v)]⟩))/\Below base W W'/\∃iG,bv (l.set k ⟨(l.getD k fj).blocks,(l.getD k fj).head++[(t,v)]⟩) base box g iG W':=by
 have c2:=fun W=>jt k W
 rw[show dG (k:Int) 0 3=true by unfold dG;simp;omega] at c2
 obtain⟨r,hr,m8,-,-,oR,f1,f2⟩:=C.row hR k hk
 rw[<-m8]
 obtain⟨hg,eh,-⟩:=oR.hd
 have C1:=C.alloc (.cells #[.int .i64 k,.int .i64 t,.int .i64 v] 75)
 have X1:=ag.laid W [.int .i64 k,.int .i64 t,.int .i64 v] 75 _ rfl
 have aY:Below W.heap.size W (W.alloc (.cells #[.int .i64 k,.int .i64 t,.int .i64 v] 75)):=(Below.refl _ _).alloc (Nat.le_refl _) _
 have oZ:=C.base
 have dW:W.heap.size<(W.alloc (.cells #[.int .i64 k,.int .i64 t,.int .i64 v] 75)).heap.size:=X1.lt
 go_enter Tryz.func152,Tryz.ntmps152
 go_wp2_with fail
 generalize W.alloc _=w1 at*
 go_at_call 80
 refine(c2 _).mono ?_
 rintro e w3 ⟨rfl,rfl⟩
 rename World=>w1
 have d0:w1.cell? ⟨box,0,none⟩=some (.slice (some ⟨g,0,none⟩) 4 4):=C1.out.cell 0
 have x0:w1.cell? ⟨W.heap.size,0,none⟩=some (.int .i64 k):=X1.cell 0
 clear c2 C oR
 replace C1:=aa C1
 replace m8:=aa m8
 replace hr:=aa hr
 replace hR:=aa hR
 go_wp2_with fail
 go_quiet (fail)
 have C2:=C1.out.call (bt (Below.refl w1.heap.size w1) nq)
 have X2:ag (w1.drewN nq) W.heap.size [.int .i64 k,.int .i64 t,.int .i64 v] 75:=X1
 have am:=bt aY nq
 have JU:W.heap.size<(w1.drewN nq).heap.size:=dW
 clear d0 x0 C1 X1 aY dW
 generalize w1.drewN nq=w2 at*
 obtain⟨-,e1⟩:=C2.own.at k r hr.out
 rw[eh] at e1
 have x1:w2.cell? ⟨W.heap.size,1,none⟩=some (.int .i64 t):=X2.cell 1
 have x2:w2.cell? ⟨W.heap.size,2,none⟩=some (.int .i64 v):=X2.cell 2
 have fg:=C2.own.rows.free (k*2+1)
 have jF:=C2.own.rows.lt
 obtain⟨rK,UI,fh⟩:=(C2.own.each r (List.mem_of_getElem? hr.out)).hd
 obtain rfl:rK=hg:=by rw[eh] at UI;simpa using UI.symm
 obtain⟨m,hm⟩:∃m,m=r.hd.length:=⟨_,rfl⟩
 rw[<-hm] at e1 fh f2
 have Jv:(w2.drew.alloc (.cells #[.int .i64 t,.int .i64 v] 56)).ownsRow base 56 2 (.slice (some ⟨rK,0,none⟩) m r.hc) m (ar r.hd):=World.ownsRow.alloc (w:=w2.drew) fh _
 have fc:∀u∈[Value.int .i64 t,.int .i64 v],u.oneCell'=true:=by
  intro u hu
  simp only[List.mem_cons,List.not_mem_nil,or_false] at hu
  rcases hu with rfl|rfl<;>rfl
 obtain⟨i0,hi,bK,bm,bQ⟩:=info_parts kL
 have jJ:base<=(w2.drew.alloc (.cells #[.int .i64 t,.int .i64 v] 56)).heap.size:=by have:=C2.base;simp;omega
 have C3:=C2.drew.alloc (.cells #[.int .i64 t,.int .i64 v] 56)
 have J7:∀j,some rK=some j->j≠g:=by
  obtain⟨cur,B,_⟩:=my fh
  intro j e
  obtain rfl:=Option.some.inj e
  rintro rfl
  exact absurd (bV B C2.own.rows) (by decide)
 have aC:=ax (ak am) (.cells #[.int .i64 t,.int .i64 v] 56)
 replace J7:=aa J7
 replace C3:=aa C3
 replace Jv:=aa Jv
 replace C2:=aa C2
 replace hm:=aa hm
 replace eh:=aa eh
 clear fh UI
 go_wp2_with fail
 go_region_law (refine step_append_lies _ (by rfl) (.tmp 21) (.tmp 27) 42 (by rfl) base 56 i0 (.agg #[.int .i64 0,.int .i64 0]) 2 16 Tryz.underlying42 hi bK bm bQ rfl (by decide) _ m _ (by rfl) Jv.out ⟨w2.heap.size,0,none⟩ 1 1 [.int .i64 t,.int .i64 v] (by rfl) (by rfl) (World.news_of_block (cs:=#[.int .i64 t,.int .i64 v]) (t:=56) (fr:=(0,0)) (heap_alloc_new w2.drew _)) fc (by decide) (by unfold maxLen;omega) (by omega) jJ (w2.heap.size+1) (by simp) ?_;intro h2 c2 w5 dM gI Cj _;have G5:=C3.out.own.rows.grown (row:=some rK) gI J7.out;have e5:w5.cell? ⟨g,k*2+1,none⟩=some (.slice (some ⟨rK,0,none⟩) m r.hc):=by {rw[G5.cell,<-C2.out.own.rows.cell];exact e1};have f5:=G5.free (k*2+1))
 all_goals(
  obtain⟨C6,dD⟩:=C3.out.put (p:=(t,v)) hr.out hm.out eh.out gI dM (by rcases Cj with h|h;exact .inl (Option.some.inj h).symm;exact .inr (by rw[h];simp))
  have lH:Below base W _:=(aC.mono oZ).trans dD
  clear e1 x1 x2 fg jF Jv fc jJ C3 C2 J7 aC am dM gI Cj G5 e5 f5 dD X2 JU
  generalize World.setCell _ _ _=w6 at*
  have PL:(rs.set k ⟨r.bs,r.ba,r.bc,r.hd++[(t,v)],some ⟨h2,0,none⟩,c2⟩)[k]? =some ⟨r.bs,r.ba,r.bc,r.hd++[(t,v)],some ⟨h2,0,none⟩,c2⟩:=by
   rw[List.getElem?_set_self (List.getElem?_eq_some_iff.1 hr.out).1]
  have WJ:=C6.own.each _ (List.mem_of_getElem? PL)
  obtain⟨y0,y1⟩:=C6.own.at k _ PL
  have pZ:(r.hd++[(t,v)]).length=m+1:=by rw[List.length_append,<-hm.out];rfl
  have g6:=WJ.toGood (by show r.bs.length<=_;omega) (by show(r.hd++[(t,v)]).length<=_;omega)
  have c3:=fun W h=>oz ⟨r.bs,r.ba,r.bc,r.hd++[(t,v)],some ⟨h2,0,none⟩,c2⟩ W h f1
  have hE:zL (Lr.rw ⟨r.bs,r.ba,r.bc,r.hd++[(t,v)],some ⟨h2,0,none⟩,c2⟩)=dV ⟨r.rw.blocks,r.rw.head++[(t,v)]⟩:=by
   exact ML _ (by simpa[Lr.rw] using f1)
  rw[hE] at c3
  unfold Lr.v at c3
  simp only[pZ] at c3 y0 y1
  replace g6:=aa g6
  replace C6:=aa C6
  replace PL:=aa PL
  clear WJ hE pZ
  go_wp2_with fail
  go_at_call 140
  refine(c3 _ g6.out).mono ?_
  rintro e w7 ⟨rfl,b7⟩
  have Mh:=lH.trans (b7.mono C6.out.base)
  have C8:=C6.out.call b7
  go_wp2_with fail
  go_ret
  exact⟨rfl,Mh,_,C8⟩)
abbrev pJ (gB gP:Nat)(bl:List Lb)(hd:List Pt):Lr:=⟨bl,some ⟨gB,0,none⟩,bl.length,hd,some ⟨gP,0,none⟩,hd.length⟩
structure Mid (w W:World)(g o gB gP j:Nat)(dn:List Lr)(rest:List Lr)(bl:List Lb)(hd:List Pt):Prop where
 rows:ag W g ((dn++pJ gB gP bl hd::rest).flatMap Lr.cells) 53
 bs:ag W gB (bl.flatMap Lb.cells) 107
 hd:ag W gP (ar hd) 56
 own:∀r∈dn,hH W w.heap.size r
 res:ag W (w.heap.size+1) [.slice none 0 0] 24
 out:ag W o [.slice (some ⟨g,0,none⟩) 4 4] 24
 good:∀(i:Nat) (x:Lb),bl[i]? =some x->x.Good W/\(i<j->x.Own W)
 bel:Below w.heap.size w W
 newB:∀r∈dn,r.ba≠some ⟨gB,0,none⟩
 newH:∀r∈dn,r.ha≠some ⟨gP,0,none⟩
 loB:w.heap.size<=gB
 loP:w.heap.size<=gP
theorem Mid.call {w W W':World}{g o gB gP j:Nat}{dn rest:List Lr}{bl:List Lb}{hd:List Pt}(h:Mid w W g o gB gP j dn rest bl hd)(hb:Below W.heap.size W W'):Mid w W' g o gB gP j dn rest bl hd:=
 ⟨h.rows.keep hb h.rows.lt,h.bs.keep hb h.bs.lt,h.hd.keep hb h.hd.lt,fun r hr=>(h.own r hr).call hb,h.res.keep hb h.res.lt,h.out.keep hb h.out.lt,fun i x hx=>⟨(h.good i x hx).1.keep hb (Nat.le_refl _),fun hi=>((h.good i x hx).2 hi).call hb⟩,ac h.bel hb,h.newB,h.newH,h.loB,h.loP⟩
theorem Mid.drew {w W:World}{g o gB gP j:Nat}{dn rest:List Lr}{bl:List Lb}{hd:List Pt}(h:Mid w W g o gB gP j dn rest bl hd):Mid w W.drew g o gB gP j dn rest bl hd:=
 h.call (ak (Below.refl W.heap.size W))
theorem Mid.cells {w W:World}{g o gB gP j k:Nat}{dn rest:List Lr}{bl:List Lb}{hd:List Pt}(h:Mid w W g o gB gP j dn rest bl hd)(hk:dn.length=k):
  W.cell? ⟨g,k*2,none⟩=some (.slice (some ⟨gB,0,none⟩) bl.length bl.length):=by
 rw[h.rows.cell]
 exact flat_get Lr.two _ k 0 (pJ gB gP bl hd) (by rw[List.getElem?_append_right (by omega),hk,Nat.sub_self];rfl) (by decide)
theorem Mid.start {w wr w4 w5:World}{g o gB gP k n m:Nat}{dn l:List Lr}{x:Lr}(ck:dn.length=k)(hx:l[k]? =some x)(hn:n=x.bs.length)(hm:m=x.hd.length)
  (BG:ag wr g ((dn++l.drop k).flatMap Lr.cells) 53) (own:∀r∈dn,hH wr w.heap.size r) (R:ag wr (w.heap.size+1) [.slice none 0 0] 24) (O:ag wr o [.slice (some ⟨g,0,none⟩) 4 4] 24)
  (gx:x.Good wr.drew) (bel:Below w.heap.size w wr) (hg:w.heap.size<=g) (BB:ag w4 gB (x.bs.flatMap Lb.cells) 107) (hB:wr.drew.heap.size<=gB) (b4:Below wr.drew.heap.size wr.drew w4)
  (BP:ag w5 gP (ar x.hd) 56) (hP:w4.heap.size<=gP) (b5:Below w4.heap.size w4 w5):
  Mid w ((w5.setCell ⟨g,k*2,none⟩ (.slice (some ⟨gB,0,none⟩) n n)).setCell ⟨g,k*2+1,none⟩ (.slice (some ⟨gP,0,none⟩) m m)) g o gB gP 0 dn (l.drop (k+1)) x.bs x.hd:=by
 subst hn hm
 have th:=ac b4 b5
 have jq:wr.drew.heap.size=wr.heap.size:=rfl
 have zu:ag w5 g ((dn++l.drop k).flatMap Lr.cells) 53:=ag.keep (w:=wr.drew) BG th BG.lt
 have grow:w5.grownBy ((w5.setCell ⟨g,k*2,none⟩ (.slice (some ⟨gB,0,none⟩) x.bs.length x.bs.length)).setCell ⟨g,k*2+1,none⟩ (.slice (some ⟨gP,0,none⟩) x.hd.length x.hd.length)) (some g):=al (al (au w5 (some g)) _ _) _ _
 have jF:=BG.lt
 have hd:l.drop k=x::l.drop (k+1):=by
  obtain⟨fC,rfl⟩:=List.getElem?_eq_some_iff.1 hx
  exact List.drop_eq_getElem_cons fC
 have s4:=b4.size
 have nb:=Gr (dn++l.drop k)
 have dM:∀r∈dn,hH w5 w.heap.size r:=fun r hr=>((own r hr).call (ak (Below.refl _ _))).call th
 refine⟨?_,?_,?_,fun r hr=>(dM r hr).wrote grow zu (by decide) ((dM r hr).notB zu (by decide)) ((dM r hr).notH zu (by decide)),?_,?_,fun i y hy=>⟨?_,fun hi=>absurd hi (Nat.not_lt_zero _)⟩,?_,fun r hr=>?_,fun r hr=>?_,?_,?_⟩
 .have B2:=(zu.set (k*2) (.slice (some ⟨gB,0,none⟩) x.bs.length x.bs.length)).set (k*2+1) (.slice (some ⟨gP,0,none⟩) x.hd.length x.hd.length)
  rw[qY (pJ gB gP x.bs x.hd) _ _ rfl Lr.two _ k (by rw[List.length_append,ck,hd,List.length_cons];omega),hd,List.set_append_right _ _ (by omega),ck,Nat.sub_self,List.set_cons_zero] at B2
  exact B2
 .exact(BB.keep b5 BB.lt).grown grow (fun j e=>by obtain rfl:=Option.some.inj e;omega)
 .exact BP.grown grow (fun j e=>by obtain rfl:=Option.some.inj e;omega)
 .refine(ag.keep (w:=wr.drew) R th R.lt).grown grow (fun j e=>?_)
  obtain rfl:=Option.some.inj e
  rintro rfl
  exact absurd (bV BG R) (by decide)
 .refine(ag.keep (w:=wr.drew) O th O.lt).grown grow (fun j e=>?_)
  obtain rfl:=Option.some.inj e
  rintro rfl
  exact absurd (bV BG O) (by decide)
 .exact((gx.bs.good y (List.mem_of_getElem? hy)).keep th (Nat.le_refl _)).off grow zu nb
 .exact(ac (ak bel) th).grown grow (by have:=bel.size;have:=th.size;omega) (fun j e=>by obtain rfl:=Option.some.inj e;exact hg)
 .obtain⟨bg,e1,l1,B1⟩:=(own r hr).bs
  have:=B1.lt
  rw[e1]
  intro e
  simp only[Option.some.injEq,Addr.mk.injEq,and_true] at e
  omega
 .obtain⟨hh,e2,ow⟩:=(own r hr).hd
  obtain⟨cur,B2,_⟩:=my ow
  have:=B2.lt
  rw[e2]
  intro e
  simp only[Option.some.injEq,Addr.mk.injEq,and_true] at e
  omega
 .have:=bel.size
  omega
 have:=bel.size
 omega
theorem Mid.step {w W W':World}{g o gB gP gO j n:Nat}{dn rest:List Lr}{bl:List Lb}{hd:List Pt}{x:Lb}(h:Mid w W g o gB gP j dn rest bl hd)(hx:bl[j]? =some x)(hn:n=x.b.bits.length)(BO:ag W' gO (x.b.bits.map Value.bool) 4)(hb:Below W.heap.size W W'):
  Mid w (W'.setCell ⟨gB,j*4+3,none⟩ (.slice (some ⟨gO,0,none⟩) n n)) g o gB gP (j+1) dn rest (bl.set j ⟨x.b,some ⟨gO,0,none⟩,n⟩) hd:=by
 subst hn
 have h:=h.call hb
 have grow:W'.grownBy (W'.setCell ⟨gB,j*4+3,none⟩ (.slice (some ⟨gO,0,none⟩) x.b.bits.length x.b.bits.length)) (some gB):=al (au W' (some gB)) _ _
 have nb:=xU bl
 have ne:∀ {k:Nat} {cs:List Value} {t:TypeId},ag W' k cs t->t≠107->∀i,some gB=some i->i≠k:=by
  intro k cs t B ht i e
  obtain rfl:=Option.some.inj e
  rintro rfl
  exact ht (bV B h.bs)
 refine⟨?_,?_,h.hd.grown grow (ne h.hd (by decide)),fun r hr=>(h.own r hr).wrote grow h.bs (by decide) (h.newB r hr) ((h.own r hr).notH h.bs (by decide)),h.res.grown grow (ne h.res (by decide)),h.out.grown grow (ne h.out (by decide)),fun i y hy=>?_,h.bel.setCell h.loB _,h.newB,h.newH,h.loB,h.loP⟩
 .have B:=h.rows.grown grow (ne h.rows (by decide))
  have e:(dn++pJ gB gP bl hd::rest).flatMap Lr.cells=(dn++pJ gB gP (bl.set j ⟨x.b,some ⟨gO,0,none⟩,x.b.bits.length⟩) hd::rest).flatMap Lr.cells:=by
   rw[List.flatMap_append,List.flatMap_append,List.flatMap_cons,List.flatMap_cons]
   unfold pJ Lr.cells
   simp only[List.length_set]
  rw[<-e]
  exact B
 .have B:=h.bs.set (j*4+3) (.slice (some ⟨gO,0,none⟩) x.b.bits.length x.b.bits.length)
  rw[xY x Lb.four ⟨x.b,some ⟨gO,0,none⟩,x.b.bits.length⟩ _ 3 (by decide) rfl bl j hx] at B
  exact B
 rw[List.getElem?_set] at hy
 split at hy
 .rename_i e
  subst e
  split at hy
  .obtain rfl:=Option.some.inj hy
   have gx:=(h.good j x hx).1
   have Wj:=BO.grown grow (ne BO (by decide))
   have s1:=Sl.ofBlk Wj (by rw[List.length_map];have:=gx.few;omega)
   rw[List.length_map] at s1
   exact⟨⟨s1,gx.few⟩,fun _=>⟨⟨s1,gx.few⟩,gO,_,rfl,Wj⟩⟩
  cases hy
 rename_i e
 exact⟨(h.good i y hy).1.off grow h.bs nb,fun hi=>((h.good i y hy).2 (by omega)).wrote grow h.bs (by decide)⟩
theorem Gv {bl:List Lb}{j:Nat}{x:Lb}(h:bl[j]? =some x)(a:Option Addr)(c:Nat):(bl.set j ⟨x.b,a,c⟩).map Lb.b=bl.map Lb.b:=by
 obtain⟨h1,rfl⟩:=List.getElem?_eq_some_iff.1 h
 rw[List.map_set]
 show(bl.map Lb.b).set j (Lb.b bl[j])=_
 rw[<-List.map_set,List.set_getElem_self]
theorem ApartL.push {dn:List Lr}{y:Lr}(h:ApartL dn)(hb:∀r∈dn,r.ba≠y.ba)(hh:∀r∈dn,r.ha≠y.ha):ApartL (dn++[y]):=by
 intro i j r q Fs hr hq
 rw[List.getElem?_append] at hr hq
 split at hr
 .split at hq
  .exact h i j r q Fs hr hq
  have e:q=y:=by
   rw[List.getElem?_singleton] at hq
   split at hq
   .exact(Option.some.inj hq).symm
   cases hq
  subst e
  exact⟨hb r (List.mem_of_getElem? hr),hh r (List.mem_of_getElem? hr)⟩
 have e:r=y:=by
  rw[List.getElem?_singleton] at hr
  split at hr
  .exact(Option.some.inj hr).symm
  cases hr
 subst e
 split at hq
 .exact⟨fun e=>hb q (List.mem_of_getElem? hq) e.symm,fun e=>hh q (List.mem_of_getElem? hq) e.symm⟩
 rw[List.getElem?_singleton] at hr hq
 split at hr
 .split at hq
  .omega
  cases hq
 cases hr
theorem Mid.done {w W:World}{g o gB gP j k:Nat}{dn l:List Lr}{bl:List Lb}{hd:List Pt}{x:Lr}(h:Mid w W g o gB gP j dn (l.drop (k+1)) bl hd)(hj:bl.length<=j)(ck:dn.length=k)(m8:dn.map Lr.rw=(l.take k).map Lr.rw)(hx:l[k]? =some x)(hb:bl.map Lb.b=x.bs.map Lb.b)(hh:hd=x.hd)(hm:hd.length<=40)(ap:ApartL dn):
  ∃y,(dn++[y]).length=k+1/\(dn++[y]).map Lr.rw=(l.take (k+1)).map Lr.rw/\ag W g (((dn++[y])++l.drop (k+1)).flatMap Lr.cells) 53/\(∀r∈dn++[y],hH W w.heap.size r)/\ApartL (dn++[y]):=by
 refine⟨pJ gB gP bl hd,by simp[ck],?_,by rw[List.append_assoc];exact h.rows,fun r hr=>?_,ap.push h.newB h.newH⟩
 .rw[List.map_append,m8,List.take_add_one,hx,List.map_append]
  congr 1
  simp[Lr.rw,hb,hh]
 rcases List.mem_append.1 hr with hr|hr
 .exact h.own r hr
 simp only[List.mem_singleton] at hr
 subst hr
 refine⟨⟨gB,rfl,h.loB,h.bs⟩,rfl,⟨gP,rfl,⟨aI hd,.inr ⟨gP,hd.length,(ar hd).toArray,rfl,h.loP,h.hd,Nat.le_refl _,by unfold maxLen;show hd.length<=_;omega,by simp[aI],?_⟩⟩⟩,fun x hx=>by
  obtain⟨i,hi,rfl⟩:=List.mem_iff_getElem.1 hx
  have tg:i<bl.length:=hi
  exact(h.good i _ (List.getElem?_eq_getElem hi)).2 (by omega)⟩
 rw[List.take_of_length_le (by simp[aI])]
end Go.Proofs.YtoonnbhoiocoeaaGreatDoor
