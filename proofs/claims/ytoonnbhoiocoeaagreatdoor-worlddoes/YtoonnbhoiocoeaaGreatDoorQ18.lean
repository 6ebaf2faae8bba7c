/-
  shelf.Merge: what it answers of a shelf, whatever it is.
-/
import Derived.Test.YtoonnbhoiocoeaaGreatDoorHQSMerge
set_option maxHeartbeats 40000000
set_option maxRecDepth 100000
set_option linter.unusedVariables false
namespace Go.Proofs.YtoonnbhoiocoeaaGreatDoor
open Go.RowKit
theorem FP (n:Int)(cb:Nat)(l:List Rw)(hE:az l=0)(base box g k:Nat)(rs:List Lr)(W:World)(hk:k<4)(Bc:ag W cb [.int .i64 n] 3)(C:bv l base box g rs W):
  Calls Tryz.prog 156 #[.pointer (some ⟨g,k*2,none⟩),.pointer (some ⟨cb,0,none⟩)] W (Does (gG l k n) (j7 l k n) base box g W):=by
 have hR:=jO hE
 obtain⟨r,hr,m8,e0,e1,oR,f1,f2⟩:=C.row hR k hk
 have d0:W.cell? ⟨cb,0,none⟩=some (.int .i64 n):=Bc.cell 0
 have hi:dG (k:Int) 0 3=true:=by unfold dG;simp;omega
 have hbk:(l.getD k fj).blocks=r.bs.map Lb.b:=by rw[<-m8];rfl
 have Cs:(l.getD k fj).head=r.hd:=by rw[<-m8];rfl
 cases hn:dG n 0 ((r.bs.length:Int)-2) with
 |false=>
  have e:gG l k n=3:=by unfold gG;rw[hi,Int.toNat_natCast,hbk,List.length_map,hn];rfl
  rw[e]
  refine(Ai n cb g k r.bs.length r.bc r.ba W d0 e0 f1 hn).mono ?_
  rintro e W' ⟨rfl,q,rfl⟩
  exact⟨rfl,bt (Below.refl _ _) _,fun h=>by cases h⟩
 |true=>
  have yO:0<=n/\n<=(r.bs.length:Int)-2:=by unfold dG at hn;simpa using hn
  obtain⟨q,rfl⟩:∃q:Nat,n=q:=⟨n.toNat,by omega⟩
  obtain⟨x,hx⟩:∃x,r.bs[q]? =some x:=⟨_,List.getElem?_eq_getElem (by omega)⟩
  obtain⟨y,hy⟩:∃y,r.bs[q+1]? =some y:=⟨_,List.getElem?_eq_getElem (by omega)⟩
  have bx:mc (l.getD k fj) q=x.b:=by unfold mc;rw[hbk];simp[List.getD,hx]
  have b_y:mc (l.getD k fj) (q+1)=y.b:=by unfold mc;rw[hbk];simp[List.getD,hy]
  have e:gG l k q=eA x.b y.b:=by unfold gG;rw[hi,Int.toNat_natCast,Int.toNat_natCast,hbk,List.length_map,hn,bx,b_y];rfl
  refine(GZ q cb l base box g k (r.bs.length-1) rs r x y W hR C hr Bc (by omega) (by omega) (by omega) hx hy).mono ?_
  rintro e' W' ⟨rfl,b,hf⟩
  refine⟨by rw[e],b,fun hz=>?_⟩
  obtain⟨iG,p1,p2,p3,p4⟩:=hf (by rw[<-e];exact hz)
  refine⟨iG,p1,p2,?_,p4⟩
  unfold j7
  rw[if_pos hz,p3,Int.toNat_natCast,Int.toNat_natCast,bx,b_y,hbk,Cs,List.map_take,List.map_drop]
theorem Gi (l:List Lr)(ao:Option Addr)(cap:Nat)(s n:Int)(w:World)(hs:bL w ao cap l):
  Calls Tryz.prog 122 #[.agg #[.slice ao l.length cap],.int .i64 s,.int .i64 n] w fun e w'=>∃rs a' G,e=.returned (.tuple #[.agg #[.slice a' rs.length G],.int .i64 (iY (l.map Lr.rw) (gG (l.map Lr.rw) s n))])/\rs.map Lr.rw=ia (l.map Lr.rw) (gG (l.map Lr.rw) s n) (j7 (l.map Lr.rw) s n)/\bL w' a' G rs/\fv w.heap.size rs/\Below w.heap.size w w':=by
 have B1:=(ag.laid (w.alloc (.cells #[.slice ao l.length cap] 24)) [.int .i64 n] 3 (w.heap.size+1) (by simp)).alc (.cells #[.slice none 0 0] 24)
 have R1:=ag.laid ((w.alloc (.cells #[.slice ao l.length cap] 24)).alloc (.cells #[.int .i64 n] 3)) [.slice none 0 0] 24 (w.heap.size+2) (by simp)
 have aY:=k6 w (.cells #[.slice ao l.length cap] 24) (.cells #[.int .i64 n] 3) (.cells #[.slice none 0 0] 24)
 have s1:=hs.keep aY (Nat.le_refl _)
 have c:=fun W (S:bL W ao cap l) (B:ag W (w.heap.size+1) [.int .i64 n] 3)=>FF (.pointer (some ⟨w.heap.size+1,0,none⟩)) s (gG (l.map Lr.rw) s n) (j7 (l.map Lr.rw) s n) l ao cap W S
  (fun h=>by unfold gG;rw[if_pos h])
  (fun hE W2 base box g rs hb b2 C k hk Ad=>by
   subst hk
   exact FP n (w.heap.size+1) (l.map Lr.rw) hE base box g k rs W2 Ad (B.keep b2 B.lt) C)
 generalize ia (l.map Lr.rw) (gG (l.map Lr.rw) s n) (j7 (l.map Lr.rw) s n)=X at*
 generalize iY (l.map Lr.rw) (gG (l.map Lr.rw) s n)=E at*
 generalize l.length=m at*
 go_enter Tryz.func122,Tryz.ntmps122
 go_wp2_with fail
 generalize((w.alloc _).alloc _).alloc _=w1 at*
 go_at_call 153
 refine(c _ s1 B1).mono ?_
 rintro e w2 ⟨rs,a',G,rfl,hX,s2,fr,b2⟩
 have R2:=R1.keep b2 R1.lt
 have am:=ac aY b2
 have r0:w2.cell? ⟨w.heap.size+2,0,none⟩=some (.slice none 0 0):=R2.cell 0
 have r1:=R2.free 0
 have s3:=s2.written (io none 0 0) R2 (i:=0) (u:=.slice a' rs.length G) (fun ad e=>by have:=fr.1 ad e;have:=R1.lt;omega)
 have aC:=am.setCell (p:=⟨w.heap.size+2,0,none⟩) (by show w.heap.size<=w.heap.size+2;omega) (.slice a' rs.length G)
 have qx:=aa (fr.2.mono aY.size)
 replace s3:=aa s3
 replace hX:=aa hX
 clear s2 R1 R2 s1 B1 c hs
 go_wp2_with fail
 exact bodyPost_ret (v:=.tuple #[.agg #[.slice a' rs.length G],.int .i64 E]) (by simp[results,Tryz.results122,go_sem,r0]) rfl ⟨rs,a',G,rfl,hX.out,s3.out,qx.out,aC⟩
theorem Co (n:Int)(cb box:Nat)(W:World)(d0:W.cell? ⟨cb,0,none⟩=some (.int .i64 n))(h:dG n 0 100001=false):
  Calls Tryz.prog 159 #[.pointer (some ⟨box,0,none⟩),.pointer (some ⟨cb,0,none⟩)] W fun e W'=>e=.returned (.int .i64 3)/\W'=W:=by
 by_cases h0:n<0
 .clear h
  go_enter Tryz.func159,Tryz.ntmps159
  go_wp2_with fail
  go_ret
  exact⟨rfl,rfl⟩
 have h1:100001<n:=by unfold dG at h;simp at h;omega
 clear h
 go_enter Tryz.func159,Tryz.ntmps159
 go_wp2_with fail
 go_ret
 exact⟨rfl,rfl⟩
theorem Ln (n:Int)(l:List Lb):(eo n l).map Lb.b=(l.map Lb.b).filter (fun b=> !decide (b.to<n)):=by
 unfold eo j8
 rw[List.filter_map]
 rfl
theorem IM {n:Int}{l:List Rw}{rs:List Lr}{r y:Lr}{i:Nat}(h:rs.map Lr.rw=(l.take i).map (fb n)++l.drop i)(hl:rs.length=l.length)(hr:rs[i]? =some r)(hy:y.rw=fb n r.rw):
  (rs.set i y).map Lr.rw=(l.take (i+1)).map (fb n)++l.drop (i+1):=by
 have hi:i<l.length:=by rw[<-hl];exact(List.getElem?_eq_some_iff.1 hr).1
 have e:(rs.map Lr.rw)[i]? =some r.rw:=by rw[List.getElem?_map,hr];rfl
 have lt:((l.take i).map (fb n)).length=i:=by rw[List.length_map,List.length_take];omega
 rw[h,List.getElem?_append_right (by omega),lt,Nat.sub_self,List.getElem?_drop,Nat.add_zero] at e
 have hd:l.drop i=r.rw::l.drop (i+1):=by
  obtain⟨fC,e'⟩:=List.getElem?_eq_some_iff.1 e
  rw[<-e']
  exact List.drop_eq_getElem_cons fC
 rw[List.map_set,h,List.set_append_right _ _ (by omega),lt,Nat.sub_self,hd,List.set_cons_zero,hy,List.take_add_one,e,List.map_append,List.append_assoc]
 rfl
theorem Lx (n:Int)(cb:Nat)(l:List Rw)(base box g:Nat)(rs:List Lr)(W:World)(hR:eY l)(Bc:ag W cb [.int .i64 n] 3)(NO:cb<base)(C:bv l base box g rs W)(h:dG n 0 100001=true):
  Calls Tryz.prog 159 #[.pointer (some ⟨box,0,none⟩),.pointer (some ⟨cb,0,none⟩)] W (Does 0 (l.map (fb n)) base box g W):=by
 have d0:W.cell? ⟨cb,0,none⟩=some (.int .i64 n):=Bc.cell 0
 have h0:¬n<0:=by unfold dG at h;simp at h;omega
 have h1:¬100001<n:=by unfold dG at h;simp at h;omega
 have d1:W.cell? ⟨box,0,none⟩=some (.slice (some ⟨g,0,none⟩) 4 4):=C.out.cell 0
 have S0:=oF.start C hR
 have l4:rs.length=l.length:=by rw[<-C.same,List.length_map]
 have hl:=hR.four
 have m0:rs.map Lr.rw=(l.take 0).map (fb n)++l.drop 0:=by rw[C.same];simp
 have b0:=Below.refl base W
 have oZ:=C.base
 replace S0:=aa S0
 replace l4:=aa l4
 replace hl:=aa hl
 replace m0:=aa m0
 clear h C hR
 go_enter Tryz.func159,Tryz.ntmps159
 go_wp2_with fail
 go_loopw [19] (fun s wr=>∃(i:Nat) (iG:List Lr),i<=4/\s=.int .i64 i/\Hid (iG.length=l.length)/\Hid (iG.map Lr.rw=(l.take i).map (fb n)++l.drop i)/\Hid (oF base box g i iG wr)/\Below base W wr) (fun s _=>4-(intOf s).toNat)
 case atStart=>exact⟨0,rs,by omega,rfl,l4,m0,S0,b0⟩
 case round=>
  clear S0 l4 m0 b0 d0 d1
  obtain⟨i,iG,hi,rfl,l4,m0,S0,b0⟩:=hrel
  by_cases aE:i<4
  .obtain⟨r,hr⟩:∃r,iG[i]? =some r:=⟨_,List.getElem?_eq_getElem (by rw[l4.out,hl.out];exact aE)⟩
   obtain⟨-,f1,f2,ho⟩:=S0.out.each i r hr
   have oR:=ho (Nat.le_refl _)
   obtain⟨bg,eb,lo,B⟩:=oR.bs
   have FG:=Bc.keep b0 NO
   have d1:wr.cell? ⟨box,0,none⟩=some (.slice (some ⟨g,0,none⟩) 4 4):=S0.out.out.cell 0
   obtain⟨m,hm⟩:∃m,m=r.bs.length:=⟨_,rfl⟩
   have e0:wr.cell? ⟨g,i*2,none⟩=some (.slice (some ⟨bg,0,none⟩) m m):=by
    rw[S0.out.rows.cell]
    refine(flat_get Lr.two _ i 0 _ hr (by decide)).trans ?_
    show some (Value.slice r.ba r.bs.length r.bc)=_
    rw[eb,oR.bc,<-hm]
   have c:=fun W B Bc=>Oa r.bs n bg cb m W B Bc hm.symm (by rw[hm,<-oR.bc];exact f1)
   have neg:∀j,some bg=some j->j≠g:=by
    intro j e
    obtain rfl:=Option.some.inj e
    rintro rfl
    exact absurd (bV B S0.out.rows) (by decide)
   have sub:∀x∈eo n r.bs,x∈r.bs:=fun x hx=>(List.mem_filter.1 hx).1
   have kr:(⟨eo n r.bs,some ⟨bg,0,none⟩,m,r.hd,r.ha,r.hc⟩:Lr).rw=fb n r.rw:=by unfold Lr.rw fb;simp only[Ln]
   generalize eo n r.bs=kept at*
   have m7:=S0.out.base
   replace hr:=aa hr
   replace hm:=aa hm
   replace eb:=aa eb
   replace neg:=aa neg
   replace sub:=aa sub
   replace kr:=aa kr
   clear oR ho
   go_wp2_with fail
   go_at_call 161
   refine(c _ B FG).mono ?_
   rintro e w2 ⟨tail,rfl,hlen,B2,eM⟩
   have G2:=S0.out.rows.grown eM neg.out
   have e2:w2.cell? ⟨g,i*2,none⟩=some (.slice (some ⟨bg,0,none⟩) m m):=by rw[G2.cell,<-S0.out.rows.cell];exact e0
   have fz:=G2.free (i*2)
   obtain⟨S3,b3⟩:=S0.out.step hr.out eb.out hm.out eM B2 hlen sub.out
   have m3:=aa (IM m0.out l4.out hr.out kr.out)
   have b4:=b0.trans b3
   replace S3:=aa S3
   replace hlen:=aa hlen
   clear B B2 eM c FG G2 b3 d1 e0
   go_wp2_with fail
   go_roundw
   case rel=>exact⟨i+1,_,by omega,by go_num,aa (by rw[List.length_set];exact l4.out),m3,S3,b4⟩
   case measure=>simp[intOf];omega
  obtain rfl:i=4:=by omega
  have m1:=m0.out
  rw[List.take_of_length_le (by rw[hl.out];exact Nat.le_refl _),List.drop_eq_nil_of_le (by rw[hl.out];exact Nat.le_refl _),List.append_nil] at m1
  have F:=aa S0.out.fin
  have O:=S0.out.out
  have qx:=aa S0.out.hdLo
  replace m1:=aa m1
  clear S0
  go_wp2_with fail
  go_ret
  exact⟨rfl,b0,fun _=>⟨iG,F.out,⟨by rw[l4.out,hl.out],qx.out⟩,m1.out,O⟩⟩
theorem IG (n:Int)(cb:Nat)(l:List Rw)(base box g:Nat)(rs:List Lr)(W:World)(hR:eY l)(Bc:ag W cb [.int .i64 n] 3)(NO:cb<base)(C:bv l base box g rs W):
  Calls Tryz.prog 159 #[.pointer (some ⟨box,0,none⟩),.pointer (some ⟨cb,0,none⟩)] W (Does (fN n) (iI l n) base box g W):=by
 cases h:dG n 0 100001 with
 |false=>
  have e:fN n=3:=by unfold fN;rw[if_pos h]
  rw[e]
  refine(Co n cb box W (Bc.cell 0) h).mono ?_
  rintro e W' ⟨rfl,rfl⟩
  exact⟨rfl,Below.refl _ _,fun h=>by cases h⟩
 |true=>
  have e:fN n=0:=by unfold fN;rw[h];rfl
  have e2:iI l n=l.map (fb n):=by unfold iI;rw[if_pos e]
  rw[e,e2]
  exact Lx n cb l base box g rs W hR Bc NO C h
theorem GF (l:List Lr)(ao:Option Addr)(cap:Nat)(n:Int)(w:World)(hs:bL w ao cap l):
  Calls Tryz.prog 123 #[.agg #[.slice ao l.length cap],.int .i64 n] w fun e w'=>∃rs a' G,e=.returned (.tuple #[.agg #[.slice a' rs.length G],.int .i64 (iY (l.map Lr.rw) (fN n))])/\rs.map Lr.rw=ia (l.map Lr.rw) (fN n) (iI (l.map Lr.rw) n)/\bL w' a' G rs/\fv w.heap.size rs/\Below w.heap.size w w':=by
 have B1:=(ag.laid (w.alloc (.cells #[.slice ao l.length cap] 24)) [.int .i64 n] 3 (w.heap.size+1) (by simp)).alc (.cells #[.slice none 0 0] 24)
 have R1:=ag.laid ((w.alloc (.cells #[.slice ao l.length cap] 24)).alloc (.cells #[.int .i64 n] 3)) [.slice none 0 0] 24 (w.heap.size+2) (by simp)
 have aY:=k6 w (.cells #[.slice ao l.length cap] 24) (.cells #[.int .i64 n] 3) (.cells #[.slice none 0 0] 24)
 have s1:=hs.keep aY (Nat.le_refl _)
 have c:=fun W (S:bL W ao cap l) (B:ag W (w.heap.size+1) [.int .i64 n] 3)=>Pb (.pointer (some ⟨w.heap.size+1,0,none⟩)) (fN n) (iI (l.map Lr.rw) n) l ao cap W S
  (fun hE W2 base box g rs hb b2 C=>IG n (w.heap.size+1) (l.map Lr.rw) base box g rs W2 (jO hE) (B.keep b2 B.lt) (Nat.lt_of_lt_of_le B.lt hb) C)
 generalize ia (l.map Lr.rw) (fN n) (iI (l.map Lr.rw) n)=X at*
 generalize iY (l.map Lr.rw) (fN n)=E at*
 generalize l.length=m at*
 go_enter Tryz.func123,Tryz.ntmps123
 go_wp2_with fail
 generalize((w.alloc _).alloc _).alloc _=w1 at*
 go_at_call 150
 refine(c _ s1 B1).mono ?_
 rintro e w2 ⟨rs,a',G,rfl,hX,s2,fr,b2⟩
 have R2:=R1.keep b2 R1.lt
 have am:=ac aY b2
 have r0:w2.cell? ⟨w.heap.size+2,0,none⟩=some (.slice none 0 0):=R2.cell 0
 have r1:=R2.free 0
 have s3:=s2.written (io none 0 0) R2 (i:=0) (u:=.slice a' rs.length G) (fun ad e=>by have:=fr.1 ad e;have:=R1.lt;omega)
 have aC:=am.setCell (p:=⟨w.heap.size+2,0,none⟩) (by show w.heap.size<=w.heap.size+2;omega) (.slice a' rs.length G)
 have qx:=aa (fr.2.mono aY.size)
 replace s3:=aa s3
 replace hX:=aa hX
 clear s2 R1 R2 s1 B1 c hs
 go_wp2_with fail
 exact bodyPost_ret (v:=.tuple #[.agg #[.slice a' rs.length G],.int .i64 E]) (by simp[results,Tryz.results123,go_sem,r0]) rfl ⟨rs,a',G,rfl,hX.out,s3.out,qx.out,aC⟩
structure cu (W:World)(a:Option Addr)(G:Nat)(C:List Rw):Prop where
 ex:∃rs:List Lr,rs.map Lr.rw=C/\bL W a G rs
theorem cu.call {W W':World}{a:Option Addr}{G:Nat}{C:List Rw}(h:cu W a G C)(hb:Below W.heap.size W W'):cu W' a G C:=by
 obtain⟨rs,e,s⟩:=h.ex
 exact⟨rs,e,s.call hb⟩
theorem cu.keep {W W':World}{a:Option Addr}{G B:Nat}{C:List Rw}(h:cu W a G C)(hb:Below B W W')(hB:W.heap.size<=B):cu W' a G C:=by
 obtain⟨rs,e,s⟩:=h.ex
 exact⟨rs,e,s.keep hb hB⟩
theorem cu.alloc {W:World}{a:Option Addr}{G:Nat}{C:List Rw}(h:cu W a G C)(o:Obj):cu (W.alloc o) a G C:=by
 obtain⟨rs,e,s⟩:=h.ex
 exact⟨rs,e,s.alloc o⟩
theorem OZ {w:World}{base base':Nat}{e:TypeId}{size n:Nat}{v:Value}{xs:List Value}(h:w.ownsRow base e size v n xs)(hb:base'<=base):w.ownsRow base' e size v n xs:=by
 refine⟨h.1,?_⟩
 rcases h.2 with h0| ⟨g,cap,cur,e1,h1,h2⟩
 .exact .inl h0
 exact .inr ⟨g,cap,cur,e1,Nat.le_trans hb h1,h2⟩
theorem Row.offOne {w:World}{ao:Option Addr}{g:Nat}{C:List Value}{c:Value}{t:TypeId}(h:Row w ao C)(B:ag w g [c] t)(hC:2<=C.length):Off g ao:=by
 obtain⟨b,off,rfl,hb,hc⟩:=h.at (by intro e;rw[e] at hC;simp at hC)
 intro ad e
 cases e
 intro e
 have e:b=g:=e
 subst e
 have h0:=hc 0 C[0] (List.getElem?_eq_getElem (by omega))
 have h1:=hc 1 C[1] (List.getElem?_eq_getElem (by omega))
 rw[B.cell] at h0 h1
 have l0:=(List.getElem?_eq_some_iff.1 h0).1
 have l1:=(List.getElem?_eq_some_iff.1 h1).1
 simp at l0 l1
theorem cu.wrote {w:World}{a:Option Addr}{G g:Nat}{C:List Rw}{a1:Option Addr}{n1 c1:Nat}{u:Value}(h:cu w a G C)(B:ag w g [.slice a1 n1 c1] 24)(hC:C≠[]):cu (w.setCell ⟨g,0,none⟩ u) a G C:=by
 obtain⟨rs,rfl,s⟩:=h.ex
 have grow:=al (au w (some g)) 0 u
 have hl:=av Lr.two rs
 have hp:0<rs.length:=by
  cases rs with
  |nil=>simp at hC
  |cons x r=>simp
 exact⟨rs,rfl,⟨⟨s.sl.row.off grow (s.sl.row.offOne B (by rw[hl];omega)),s.sl.le,s.sl.max,s.sl.nil⟩,fun r hr=>(s.good r hr).offSl grow B (io _ _ _)⟩⟩
def uO (E:Int)(C:List Rw)(W:World)(e:Ending)(w':World):Prop:=
 ∃a' G',e=.returned (.tuple #[.agg #[.slice a' C.length G'],.int .i64 E])/\cu w' a' G' C/\Below W.heap.size W w'
theorem qS {E:Int}{C:List Rw}{W:World}{e:Ending}{w':World}(h:∃rs a' G,e=.returned (.tuple #[.agg #[.slice a' rs.length G],.int .i64 E])/\rs.map Lr.rw=C/\bL w' a' G rs/\Below W.heap.size W w'):uO E C W e w':=by
 obtain⟨rs,a',G,he,rfl,s,b⟩:=h
 exact⟨a',G,by rw[he,List.length_map],⟨rs,rfl,s⟩,b⟩
theorem Gb {C:List Rw}{a:Option Addr}{G:Nat}{W:World}(h:cu W a G C):
  Calls Tryz.prog 79 #[.agg #[.slice a C.length G]] W fun e w'=>e=.returned (.int .i64 (az C))/\Below W.heap.size W w':=by
 obtain⟨rs,rfl,s⟩:=h.ex
 rw[List.length_map]
 exact lI rs a G W s
theorem Jm {C:List Rw}{a:Option Addr}{G:Nat}{W:World}(s:Int)(h:cu W a G C):
  Calls Tryz.prog 38 #[.agg #[.slice a C.length G],.int .i64 s] W fun e w'=>∃a' G',e=.returned (.tuple #[.slice a' (gU C s).length G',.int .i64 (mj C s)])/\
   w'.ownsRow W.heap.size 56 2 (.slice a' (gU C s).length G') (gU C s).length (ar (gU C s))/\Below W.heap.size W w':=by
 obtain⟨rs,rfl,t⟩:=h.ex
 rw[List.length_map]
 exact KQ rs a G s W t
def Do:List Rw:=[fj,fj,fj,fj]
theorem JQ (W:World):
  Calls Tryz.prog 44 #[] W fun e w'=>∃a' G',e=.returned (.agg #[.slice a' 4 G'])/\cu w' a' G' Do/\Below W.heap.size W w':=by
 refine(A1 W).mono ?_
 rintro e w' ⟨a',G',rfl,s,b⟩
 exact⟨a',G',rfl,⟨_,rfl,s⟩,b⟩
theorem LK (C:List Rw)(s:Int):(gU C s).length<=40:=by
 unfold gU
 split
 .rename_i h
  unfold mj at h
  split at h
  .rename_i hz
   split at h
   .cases h
   rename_i hi
   obtain⟨k,rfl,hk⟩:=qO (by simpa using hi)
   obtain⟨h4,hm⟩:=jN hz
   rw[Int.toNat_natCast]
   exact(eN (ig (hm _ (vA (by omega)))).2.2).1
  rename_i h0
  exact absurd h h0
 simp
theorem KJ {C:List Rw}{a:Option Addr}{G cn:Nat}{w:World}(s f t:Int)(h:cu w a G C)(wy:cn=C.length):
  Calls Tryz.prog 55 #[.agg #[.slice a cn G],.int .i64 s,.int .i64 f,.int .i64 t] w fun e w'=>∃a' G',e=.returned (.tuple #[.slice a' (qo (gU C s) f t).length G',.int .i64 (mj C s)])/\
   w'.ownsRow w.heap.size 56 2 (.slice a' (qo (gU C s) f t).length G') (qo (gU C s) f t).length (ar (qo (gU C s) f t))/\Below w.heap.size w w':=by
 have hl:=LK C s
 have c1:=fun W (h:cu W a G C)=>Jm s h
 rw[<-wy] at c1
 have S1:=((h.alloc (.cells #[.slice a cn G] 24)).alloc (.cells #[.int .i64 f] 3)).alloc (.cells #[.int .i64 t] 3)
 have Bf:=(ag.laid (w.alloc (.cells #[.slice a cn G] 24)) [.int .i64 f] 3 (w.heap.size+1) (by simp)).alc (.cells #[.int .i64 t] 3)
 have Bt:=ag.laid ((w.alloc (.cells #[.slice a cn G] 24)).alloc (.cells #[.int .i64 f] 3)) [.int .i64 t] 3 (w.heap.size+2) (by simp)
 have bel:=k6 w (.cells #[.slice a cn G] 24) (.cells #[.int .i64 f] 3) (.cells #[.int .i64 t] 3)
 by_cases hE:mj C s=0
 .rw[hE] at c1⊢
  obtain⟨A,hA⟩:∃A,A=gU C s:=⟨_,rfl⟩
  rw[<-hA] at c1 hl⊢
  obtain⟨n,hn⟩:∃n,n=A.length:=⟨_,rfl⟩
  rw[<-hn] at c1 hl
  obtain⟨m,hm⟩:∃m,m=(qo A f t).length:=⟨_,rfl⟩
  have T8:m<=n:=by rw[hm,hn];exact OW A f t
  rw[<-hm]
  replace hm:=aa hm
  replace hn:=aa hn
  clear hE hA wy
  go_enter Tryz.func55,Tryz.ntmps55
  go_wp2_with fail
  go_at_call 38
  refine(c1 _ S1).mono ?_
  rintro e w2 ⟨a2,G2,rfl,o2,b2⟩
  replace Bf:=Bf.keep b2 Bf.lt
  replace Bt:=Bt.keep b2 Bt.lt
  replace bel:=ac bel b2
  rcases Kz o2 with⟨e2,rfl,rfl⟩| ⟨g,G',sp,e2,hb,B,h1,h2,h3⟩
  .simp only[Value.slice.injEq,true_and] at e2
   obtain⟨rfl,rfl⟩:=e2
   obtain rfl:m=0:=by omega
   have cI:=fun W h k m=>JK [] none 0 0 f t (w.heap.size+1) (w.heap.size+2) W h k m rfl (by decide)
   have cD:Calls Tryz.prog 92 #[.slice none 0 0,.func (.func 91) #[] #[.pointer (some ⟨w.heap.size+1,0,none⟩),.pointer (some ⟨w.heap.size+2,0,none⟩)]] w2 fun e w'=>e=.returned (.slice none 0 0)/\Below w2.heap.size w2 w':=by
    go_enter Tryz.func92,Tryz.ntmps92
    go_wp2_with fail
    go_at_call 124
    refine(cI _ (aV.ofNil _) Bf Bt).mono ?_
    rintro e w3 ⟨b3,⟨rfl,_⟩| ⟨k0,x0,_,pS,_⟩⟩
    .go_wp2_with fail
     go_ret
     exact⟨rfl,b3⟩
    simp at pS
   clear cI b2 o2
   go_wp2_with fail
   go_at_call 92
   refine cD.mono ?_
   rintro e w3 ⟨rfl,b3⟩
   go_wp2_with fail
   go_ret2
   exact⟨none,0,rfl,World.ownsRow_nil _ _ _ _,ac bel b3⟩
  simp only[Value.slice.injEq,true_and] at e2
  obtain⟨rfl,rfl⟩:=e2
  rw[kf] at B h3
  have cD:=Nj A sp f t g (w.heap.size+1) (w.heap.size+2) n G2 w2 B Bf Bt hn.out.symm hl h1 (by unfold maxLen at h2;exact h2)
  rw[Kd] at cD
  rw[<-hm.out] at cD
  have P9:=aa h3
  have ld:w.heap.size<=g:=by simp at hb;omega
  clear b2 o2 B h3
  go_wp2_with fail
  go_at_call 92
  refine cD.mono ?_
  rintro e w3 ⟨tail,rfl,hlen,B3,yv⟩
  have aC:Below w.heap.size w w3:=bel.grown yv bel.size (fun k hk=>by obtain rfl:=Option.some.inj hk;exact ld)
  have eF:w3.ownsRow w.heap.size 56 2 (.slice (some ⟨g,0,none⟩) m G2) m (ar (qo A f t)):=by
   rw[List.flatMap_append,List.append_assoc,<-kf] at B3
   refine KT ld B3 hm.out.symm (by omega) h2 ?_
   rw[<-P9.out,List.length_append,List.length_append,List.length_append,kf,av ge,av ge,av ge,<-hm.out,<-hn.out]
   rw[List.length_append,<-hm.out] at hlen
   omega
  replace hlen:=aa hlen
  clear B3
  go_wp2_with fail
  go_ret2
  exact⟨_,_,rfl,eF,aC⟩
 have hR:gU C s=[]:=by unfold gU;rw[if_neg hE]
 rw[hR] at c1⊢
 generalize mj C s=E at*
 clear hR wy
 go_enter Tryz.func55,Tryz.ntmps55
 go_wp2_with fail
 go_at_call 38
 refine(c1 _ S1).mono ?_
 rintro e w2 ⟨a2,G2,rfl,o2,b2⟩
 replace bel:=ac bel b2
 go_wp2_with fail
 go_ret2
 exact⟨none,0,rfl,World.ownsRow_nil _ _ _ _,bel⟩
theorem rf {w:Wd}{x:Hp}(h:bR w x=0):(1<=x.k/\x.k<=9)/\w.up=decide (x.k≠8):=by
 unfold bR at h
 split at h
 .cases h
 rename_i h1
 split at h
 .cases h
 rename_i h2
 exact⟨Decidable.not_not.1 h1,Decidable.not_not.1 h2⟩
theorem yq {w:Wd}{x:Hp}(hk:(1<=x.k/\x.k<=4)\/x.k=9)(hu:w.up=true):
  bR w x=(if bJ w.c (aK x)≠0 then bJ w.c (aK x) else if dX w.d (aK x)≠0 then dX w.d (aK x) else if x.k=9 then 0 else gk (cU w.d (aK x))):=by
 unfold bR
 rw[if_neg (fun h=>h ⟨by omega,by omega⟩),if_neg (fun h=>h (by rw[hu];exact(decide_eq_true (by omega)).symm)),if_neg (by omega),if_neg (by omega),if_neg (by omega)]
theorem Br {w:Wd}{x:Hp}(hk:(1<=x.k/\x.k<=4)\/x.k=9)(h:bR w x=0):
  w.up=true/\bJ w.c (aK x)=0/\dX w.d (aK x)=0/\(x.k≠9->gk (cU w.d (aK x))=0):=by
 have hu:w.up=true:=by rw[(rf h).2];exact decide_eq_true (by omega)
 rw[yq hk hu] at h
 split at h
 .contradiction
 rename_i h1
 split at h
 .contradiction
 rename_i h2
 refine⟨hu,Decidable.not_not.1 h1,Decidable.not_not.1 h2,fun h9=>?_⟩
 rw[if_neg h9] at h
 exact h
theorem H9 {L:List Rc}{r:Rc}(h:du L=0)(hn:bJ (cd L) r=0)(tS:(L++[r]).length<=60):du (L++[r])=0/\cd (L++[r])=dH (cd L) r:=by
 have FT:¬60<L.length:=by rw[List.length_append] at tS;simp only[List.length_cons,List.length_nil] at tS;omega
 have e1:(aW dm L).2=0:=by unfold du at h;rw[if_neg FT] at h;exact h
 have e2:cd L=(aW dm L).1:=if_neg FT
 rw[e2] at hn
 have:=sd L r dm e1
 rw[if_pos hn] at this
 unfold du cd
 rw[if_neg (by omega),if_neg (by omega),if_neg FT,this]
 exact⟨rfl,rfl⟩
theorem IP {L:List Rc}(h:du L=0)(k:Nat):du (L.take k)=0:=by
 unfold du at h⊢
 split at h
 .cases h
 rename_i tS
 rw[if_neg (by rw[List.length_take];omega)]
 exact Ku h k
theorem fV {L:List Rc}(h:du L=0):az (cd L)=0:=by
 unfold du at h
 unfold cd
 split at h
 .cases h
 rename_i tS
 rw[if_neg tS]
 exact mK L dm mv h
theorem NC {n m:Nat}{v:Int}(h:fl true n v=true)(hm:n<=m):fl true m v=true:=by
 unfold fl at h⊢
 simp only[Bool.true_or,Bool.and_true,decide_eq_true_eq] at h⊢
 omega
theorem GK {n m:Nat}{v:Int}(h:fl false n v=true):fl true m v=true:=by
 unfold fl at h⊢
 simp only[Bool.false_or,Bool.true_or,Bool.and_true,Bool.and_eq_true,decide_eq_true_eq] at h⊢
 omega
theorem G0 {w:Wd}{x:Hp}(hr:dw w=0)(hk:1<=x.k/\x.k<=4)(h:bR w x=0):
  dz w x=⟨dH w.c (aK x),mh (aO w.d++[aK x]),true,w.rd⟩/\aO (dz w x).d=aO w.d++[aK x]/\dw (dz w x)=0/\(aO w.d++[aK x]).length<=60:=by
 obtain⟨hu,h1,h2,h3⟩:=Br (.inl hk) h
 obtain⟨u1,u2,u3,u4,u5⟩:=MY hr hu
 obtain⟨r1,r2,r3,r4,r5,r6⟩:=fi hr
 have hL:iW w=aO w.d:=if_pos hu
 rw[hL,hu] at r6
 have P9:=h3 (by omega)
 have e:dz w x=⟨dH w.c (aK x),iJ (cU w.d (aK x)),w.up,w.rd⟩:=by
  unfold dz
  rw[if_neg (by simp[h]),if_neg (by omega),if_neg (by omega),if_neg (by omega),if_neg (by omega),if_neg (by omega)]
 obtain⟨L,eL⟩:∃L,L=aO w.d:=⟨_,rfl⟩
 rw[<-eL] at u1 u2 u3 u4 u5 r6⊢
 rw[u1] at h2 P9
 obtain⟨m1,m2,m3⟩:=Lv u4 u5 h2 P9
 rw[u3] at h1
 obtain⟨p1,p2⟩:=H9 u2 h1 m3
 have oks:∀r∈L++[aK x],aP r=0:=by
  intro r Dq
  rcases List.mem_append.1 Dq with Dq|Dq
  .exact u4 r Dq
  rw[List.mem_singleton.1 Dq];exact m2
 have e2:dz w x=⟨dH w.c (aK x),mh (L++[aK x]),true,w.rd⟩:=by rw[e,u1,m1,hu]
 have eR:aO (mh (L++[aK x]))=L++[aK x]:=Qh oks m3
 refine⟨e2,by rw[e2];exact eR,?_,m3⟩
 rw[e2]
 have eW:iW ⟨dH w.c (aK x),mh (L++[aK x]),true,w.rd⟩=L++[aK x]:=by unfold iW;rw[if_pos rfl];exact eR
 refine Cp (F7 oks m3) (fun _=>rfl) ?_ ?_ r5 ?_
 .rw[eW];exact p1
 .rw[eW,p2,u3]
 rw[eW]
 intro v hv
 exact NC (r6 v hv) (by rw[List.length_append];omega)
theorem lF {w:Wd}{x:Hp}(hr:dw w=0)(hk:x.k=5\/x.k=6)(h:bR w x=0):
  0<=x.n/\x.n<=2/\w.up=true/\dz w x=⟨w.c,w.d,true,w.rd.set x.n.toNat (if x.k=5 then((aO w.d).length:Int) else-1)⟩/\dw (dz w x)=0:=by
 have hu:w.up=true:=by rw[(rf h).2];exact decide_eq_true (by omega)
 have hL:iW w=aO w.d:=if_pos hu
 obtain⟨r1,r2,r3,r4,r5,r6⟩:=fi hr
 have hn:0<=x.n/\x.n<=2:=by
  unfold bR at h
  rw[if_neg (fun h=>h ⟨by omega,by omega⟩),if_neg (fun h=>h (by rw[hu];exact(decide_eq_true (by omega)).symm)),if_pos hk] at h
  split at h
  .assumption
  cases h
 have e:dz w x=⟨w.c,w.d,true,w.rd.set x.n.toNat (if x.k=5 then((aO w.d).length:Int) else-1)⟩:=by
  unfold dz
  rw[if_neg (by simp[h])]
  rcases hk with hk|hk
  .rw[if_pos hk,if_pos hk,hu]
  rw[if_neg (by omega),if_pos hk,if_neg (by omega),hu]
 refine⟨hn.1,hn.2,hu,e,?_⟩
 rw[e]
 refine Cp r1 (fun _=>r2 hu) ?_ ?_ (by rw[List.length_set];exact r5) ?_
 .show du (if true=true then aO w.d else [])=0
  rw[if_pos rfl,<-hL];exact r3
 .show w.c=cd (if true=true then aO w.d else [])
  rw[if_pos rfl,<-hL];exact r4
 show∀v∈_,fl true (if true=true then aO w.d else []).length v=true
 rw[if_pos rfl]
 intro v hv
 rw[hL,hu] at r6
 rcases List.mem_or_eq_of_mem_set hv with hv|rfl
 .exact r6 v hv
 unfold fl
 split<;>simp<;>omega
theorem EM {d:Dk}(h:cy d=0)(n:Nat):cy ⟨d.safe,d.wait.take n⟩=0:=by
 unfold cy at h⊢
 split at h
 .cases h
 rename_i h1
 rw[if_neg (by simp only[List.length_take];omega)]
 exact h
theorem qf {d:Dk}(h:cy d=0):dw ⟨dm,d,false,fJ⟩=0:=
 Cp h (fun h=>(by cases h)) rfl rfl rfl (Mo _ _)
theorem IQ {w:Wd}{x:Hp}(hr:dw w=0)(hk:x.k=7)(h:bR w x=0):dz w x=⟨dm,w.d,false,fJ⟩/\dw (dz w x)=0:=by
 have e:dz w x=⟨dm,w.d,false,fJ⟩:=by
  unfold dz
  rw[if_neg (by simp[h]),if_neg (by omega),if_neg (by omega),if_pos hk]
 exact⟨e,by rw[e];exact qf (fi hr).1⟩
theorem uZ {w:Wd}{x:Hp}(hk:x.k=9)(h:bR w x=0):dz w x=⟨dm,⟨w.d.safe,(cU w.d (aK x)).wait.take x.n.toNat⟩,false,fJ⟩/\dw (dz w x)=0:=by
 obtain⟨hu,h1,h2,_⟩:=Br (.inr hk) h
 have e:dz w x=⟨dm,⟨w.d.safe,(cU w.d (aK x)).wait.take x.n.toNat⟩,false,fJ⟩:=by
  unfold dz
  rw[if_neg (by simp[h]),if_neg (by omega),if_neg (by omega),if_neg (by omega),if_neg (by omega),if_pos hk]
 refine⟨e,?_⟩
 rw[e]
 obtain⟨_,_,p3,p4⟩:=mD h2
 have:=EM p4 x.n.toNat
 have es:(cU w.d (aK x)).safe=w.d.safe:=by rw[p3]
 rw[es] at this
 exact qf this
theorem AM {w:Wd}{x:Hp}(hr:dw w=0)(hk:x.k=8)(h:bR w x=0):
  w.up=false/\du (aO w.d)=0/\dz w x=⟨cd (aO w.d),fQ w.d,true,w.rd⟩/\dw (dz w x)=0/\aO (dz w x).d=aO w.d:=by
 have hu:w.up=false:=by rw[(rf h).2];exact decide_eq_false (by omega)
 obtain⟨r1,r2,r3,r4,r5,r6⟩:=fi hr
 have hz:du (aO w.d)=0:=by
  unfold bR at h
  rw[if_neg (fun h=>h ⟨by omega,by omega⟩),if_neg (fun h=>h (by rw[hu];exact(decide_eq_false (by omega)).symm)),if_neg (by omega),if_neg (by omega),if_pos hk] at h
  exact h
 have e:dz w x=⟨cd (aO w.d),fQ w.d,true,w.rd⟩:=by
  unfold dz
  rw[if_neg (by simp[h]),if_neg (by omega),if_neg (by omega),if_neg (by omega),if_pos hk]
 obtain⟨c1,c2,c3,c4,c5,c6,c7,c8⟩:=qv r1
 have eW:iW ⟨cd (aO w.d),fQ w.d,true,w.rd⟩=aO w.d:=by unfold iW;rw[if_pos rfl];exact c7
 refine⟨hu,hz,e,?_,by rw[e];exact c7⟩
 rw[e]
 refine Cp c6 (fun _=>by show(fQ w.d).wait=[];rw[c4]) (by rw[eW];exact hz) (by rw[eW]) r5 ?_
 rw[eW]
 intro v hv
 have:=r6 v hv
 rw[hu] at this
 exact GK this
theorem sD {w:Wd}{x:Hp}(hr:dw w=0)(h:bR w x=0):dw (dz w x)=0:=by
 obtain⟨hk,_⟩:=rf h
 by_cases k1:x.k<=4
 .exact(G0 hr ⟨hk.1,k1⟩ h).2.2.1
 by_cases k2:x.k=5\/x.k=6
 .exact(lF hr k2 h).2.2.2.2
 by_cases k3:x.k=7
 .exact(IQ hr k3 h).2
 by_cases k4:x.k=8
 .exact(AM hr k4 h).2.2.2.1
 exact(uZ (by omega) h).2
def kt (w:Wd)(r s:Int):Int:=
 if dw w≠0 then dw w else if¬(0<=r/\r<=2) then 5 else if w.rd.getD r.toNat 0<0 then 7 else mj (cd ((aO w.d).take (w.rd.getD r.toNat 0).toNat)) s
def qA (w:Wd)(r s f t:Int):List Pt:=
 if kt w r s=0 then qo (gU (cd ((aO w.d).take (w.rd.getD r.toNat 0).toNat)) s) f t else []
theorem Rj {W:World}{a:Option Addr}{c:Nat}{l:List Nt}(h:be ec W a c l):be En.cells W a c (yc l):=by
 have e:(yc l).flatMap En.cells=l.flatMap ec:=by
  unfold yc
  rw[List.flatMap_map]
  rfl
 exact⟨by rw[e];exact h.row,by unfold yc;rw[List.length_map];exact h.le,h.max,h.nil⟩
theorem uc (l:List Nt):(yc l).length=l.length:=List.length_map _
theorem cu.boxed {w:World}{a:Option Addr}{G g:Nat}{C:List Rw}{a1:Option Addr}{n1 c1:Nat}(h:cu w a G C)(B:ag w g [.slice a1 n1 c1] 24)(u:Value):cu (w.setCell ⟨g,0,none⟩ u) a G C:=by
 by_cases hC:C=[]
 .subst hC
  obtain⟨rs,e,s⟩:=h.ex
  obtain rfl:=List.map_eq_nil_iff.1 e
  exact⟨[],rfl,⟨⟨.inl rfl,s.sl.le,s.sl.max,s.sl.nil⟩,fun r hr=>(by cases hr)⟩⟩
 exact h.wrote B hC
theorem cu.none (w:World):cu w none 0 []:=⟨[],rfl,⟨⟨.inl rfl,Nat.le_refl _,by decide,fun _=>rfl⟩,fun r hr=>(by cases hr)⟩⟩
def Mk (E:Int)(D:List Rw)(dn:Nat)(W:World)(e:Ending)(w':World):Prop:=
 ∃a' G',e=.returned (.tuple #[.agg #[.slice a' dn G'],.int .i64 E])/\cu w' a' G' D/\Below W.heap.size W w'
theorem C0 {E:Int}{D:List Rw}{dn:Nat}{W:World}{f:Nat}{args:Array Value}(hd:Hid (dn=D.length))(c:Calls Tryz.prog f args W (uO E D W)):Calls Tryz.prog f args W (Mk E D dn W):=by
 obtain rfl:=hd.out
 exact c
theorem NW {C:List Rw}(hz:az C=0):(∀x,iY C x=x)/\(∀L,ia C (fB C L) (iO C L)=iO C L)/\(∀s n,ia C (eB C s n) (gA C s n)=gA C s n)/\(∀s n,ia C (gG C s n) (j7 C s n)=j7 C s n)/\(∀n,ia C (fN n) (iI C n)=iI C n):=by
 have e:∀x,iY C x=x:=fun x=>if_pos hz
 refine⟨e,fun L=>?_,fun s n=>?_,fun s n=>?_,fun n=>?_⟩
 .unfold ia;rw[e];unfold iO;split<;>rfl
 .unfold ia;rw[e];unfold gA;split<;>rfl
 .unfold ia;rw[e];unfold j7;split<;>rfl
 unfold ia;rw[e];unfold iI;split<;>rfl
theorem Fzs {r:Rc}(h:aP r=0):r.e.length<=10:=by
 unfold aP at h
 split at h
 .split at h
  .cases h
  split at h
  .cases h
  omega
 split at h
 .split at h
  .cases h
  rename_i h1
  have:r.e=[]:=Decidable.byContradiction fun e=>h1 (.inl e)
  rw[this]
  exact Nat.zero_le _
 cases h
theorem AJ {r:Rc}(h:aP r=0):r.k=1\/r.k=2\/r.k=3\/r.k=4:=by
 unfold aP at h
 split at h
 .exact .inl (by assumption)
 split at h
 .rename_i h1
  exact .inr h1
 cases h
theorem yN {R:List Rc}(h:60<R.length):du R=2/\cd R=[]:=⟨if_pos h,if_pos h⟩
theorem Bo {R:List Rc}(h:¬60<R.length):du R=(aW dm R).2/\cd R=(aW dm R).1:=⟨if_neg h,if_neg h⟩
theorem yC {R:List Rc}{k:Nat}{C:List Rw}{x:Rc}(h:aW dm (R.take k)=(C,0))(hx:R[k]? =some x):
  (bJ C x=0->aW dm (R.take (k+1))=(dH C x,0))/\(bJ C x≠0->aW dm R=([],bJ C x)):=by
 have h1:(aW dm (R.take k)).1=C:=by rw[h]
 have h2:(aW dm (R.take k)).2=0:=by rw[h]
 refine⟨fun hz=>?_,fun hz=>?_⟩
 .rw[List.take_add_one,hx]
  have:=sd (R.take k) x dm h2
  rw[h1,if_pos hz] at this
  exact this
 have hk:k<R.length:=(List.getElem?_eq_some_iff.1 hx).1
 have e:R=R.take k++x::R.drop (k+1):=by
  conv=>lhs;rw[<-List.take_append_drop k R]
  rw[List.drop_eq_getElem_cons hk]
  have:=(List.getElem?_eq_some_iff.1 hx).2
  rw[this]
 rw[e]
 have:=Ar (R.take k) (R.drop (k+1)) x dm h2 (by rw[h1];exact hz)
 rw[h1] at this
 exact this
theorem vL {R:List Rc}{k:Nat}{C:List Rw}(h:aW dm (R.take k)=(C,0)):az C=0:=by
 have:=mK (R.take k) dm mv (by rw[h])
 rwa[h] at this
end Go.Proofs.YtoonnbhoiocoeaaGreatDoor
