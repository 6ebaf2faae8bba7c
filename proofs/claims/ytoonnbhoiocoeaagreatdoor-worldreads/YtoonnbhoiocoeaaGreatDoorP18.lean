/-
  shelf.Merge: what it answers of a shelf, whatever it is.
-/
import Derived.Test.YtoonnbhoiocoeaaGreatDoorHSMerge
import Derived.Test.YtoonnbhoiocoeaaGreatDoorP11
import Derived.Test.YtoonnbhoiocoeaaGreatDoorP16
import Derived.Test.YtoonnbhoiocoeaaGreatDoorP08
import Derived.Test.YtoonnbhoiocoeaaGreatDoorHChange
import Derived.Test.YtoonnbhoiocoeaaGreatDoorP13
import Derived.Test.YtoonnbhoiocoeaaGreatDoorP12
import Derived.Test.YtoonnbhoiocoeaaGreatDoorP10
import Derived.Test.YtoonnbhoiocoeaaGreatDoorP06
import Derived.Test.YtoonnbhoiocoeaaGreatDoorP07
set_option maxHeartbeats 40000000
set_option maxRecDepth 100000
set_option linter.unusedVariables false
namespace Go.Proofs.YtoonnbhoiocoeaaGreatDoor
open Go.RowKit
theorem Fj (n:Int)(cb:Nat)(l:List Rw)(hE:aE l=0)(base box g k:Nat)(rs:List Lr)(W:World)(hk:k<4)(Bc:ac W cb [.int .i64 n] 3)(C:bt l base box g rs W):
  Calls Tryz.prog 156 #[.pointer (some ⟨g,k*2,none⟩),.pointer (some ⟨cb,0,none⟩)] W (Does (gm l k n) (jQ l k n) base box g W):=by
 have hR:=jJ hE
 obtain⟨r,hr,mW,e0,e1,oR,f1,f2⟩:=C.row hR k hk
 have d0:W.cell? ⟨cb,0,none⟩=some (.int .i64 n):=Bc.cell 0
 have hi:dw (k:Int) 0 3=true:=by unfold dw;simp;omega
 have LI:(l.getD k dN).blocks=r.bs.map Lb.b:=by rw[<-mW];rfl
 have Dc:(l.getD k dN).head=r.hd:=by rw[<-mW];rfl
 cases hn:dw n 0 ((r.bs.length:Int)-2) with
 |false=>
  have e:gm l k n=3:=by unfold gm;rw[hi,Int.toNat_natCast,LI,List.length_map,hn];rfl
  rw[e]
  refine(zm n cb g k r.bs.length r.bc r.ba W d0 e0 f1 hn).mono ?_
  rintro e W' ⟨rfl,q,rfl⟩
  exact⟨rfl,bj (Below.refl _ _) _,fun h=>by cases h⟩
 |true=>
  have O0:0<=n/\n<=(r.bs.length:Int)-2:=by unfold dw at hn;simpa using hn
  obtain⟨q,rfl⟩:∃q:Nat,n=q:=⟨n.toNat,by omega⟩
  obtain⟨x,hx⟩:∃x,r.bs[q]? =some x:=⟨_,List.getElem?_eq_getElem (by omega)⟩
  obtain⟨y,hy⟩:∃y,r.bs[q+1]? =some y:=⟨_,List.getElem?_eq_getElem (by omega)⟩
  have bx:ls (l.getD k dN) q=x.b:=by unfold ls;rw[LI];simp[List.getD,hx]
  have b_y:ls (l.getD k dN) (q+1)=y.b:=by unfold ls;rw[LI];simp[List.getD,hy]
  have e:gm l k q=eG x.b y.b:=by unfold gm;rw[hi,Int.toNat_natCast,Int.toNat_natCast,LI,List.length_map,hn,bx,b_y];rfl
  refine(FY q cb l base box g k (r.bs.length-1) rs r x y W hR C hr Bc (by omega) (by omega) (by omega) hx hy).mono ?_
  rintro e' W' ⟨rfl,b,hf⟩
  refine⟨by rw[e],b,fun hz=>?_⟩
  obtain⟨iE,p1,p2,p3,p4⟩:=hf (by rw[<-e];exact hz)
  refine⟨iE,p1,p2,?_,p4⟩
  unfold jQ
  rw[if_pos hz,p3,Int.toNat_natCast,Int.toNat_natCast,bx,b_y,LI,Dc,List.map_take,List.map_drop]
theorem Fr (l:List Lr)(ao:Option Addr)(cap:Nat)(s n:Int)(w:World)(hs:bJ w ao cap l):
  Calls Tryz.prog 122 #[.agg #[.slice ao l.length cap],.int .i64 s,.int .i64 n] w fun e w'=>∃rs a' G,e=.returned (.tuple #[.agg #[.slice a' rs.length G],.int .i64 (iX (l.map Lr.rw) (gm (l.map Lr.rw) s n))])/\rs.map Lr.rw=ia (l.map Lr.rw) (gm (l.map Lr.rw) s n) (jQ (l.map Lr.rw) s n)/\bJ w' a' G rs/\fw w.heap.size rs/\Below w.heap.size w w':=by
 have B1:=(ac.laid (w.alloc (.cells #[.slice ao l.length cap] 24)) [.int .i64 n] 3 (w.heap.size+1) (by simp)).alc (.cells #[.slice none 0 0] 24)
 have R1:=ac.laid ((w.alloc (.cells #[.slice ao l.length cap] 24)).alloc (.cells #[.int .i64 n] 3)) [.slice none 0 0] 24 (w.heap.size+2) (by simp)
 have aU:=pC w (.cells #[.slice ao l.length cap] 24) (.cells #[.int .i64 n] 3) (.cells #[.slice none 0 0] 24)
 have s1:=hs.keep aU (Nat.le_refl _)
 have c:=fun W (S:bJ W ao cap l) (B:ac W (w.heap.size+1) [.int .i64 n] 3)=>DW (.pointer (some ⟨w.heap.size+1,0,none⟩)) s (gm (l.map Lr.rw) s n) (jQ (l.map Lr.rw) s n) l ao cap W S
  (fun h=>by unfold gm;rw[if_pos h])
  (fun hE W2 base box g rs hb b2 C k hk yV=>by
   subst hk
   exact Fj n (w.heap.size+1) (l.map Lr.rw) hE base box g k rs W2 yV (B.keep b2 B.lt) C)
 generalize ia (l.map Lr.rw) (gm (l.map Lr.rw) s n) (jQ (l.map Lr.rw) s n)=X at*
 generalize iX (l.map Lr.rw) (gm (l.map Lr.rw) s n)=E at*
 generalize l.length=m at*
 go_enter Tryz.func122,Tryz.ntmps122
 go_wp2_with fail
 generalize((w.alloc _).alloc _).alloc _=w1 at*
 go_at_call 153
 refine(c _ s1 B1).mono ?_
 rintro e w2 ⟨rs,a',G,rfl,hX,s2,fr,b2⟩
 have R2:=R1.keep b2 R1.lt
 have al:=aa aU b2
 have r0:w2.cell? ⟨w.heap.size+2,0,none⟩=some (.slice none 0 0):=R2.cell 0
 have r1:=R2.free 0
 have s3:=s2.written (ik none 0 0) R2 (i:=0) (u:=.slice a' rs.length G) (fun ad e=>by have:=fr.1 ad e;have:=R1.lt;omega)
 have ay:=al.setCell (p:=⟨w.heap.size+2,0,none⟩) (by show w.heap.size<=w.heap.size+2;omega) (.slice a' rs.length G)
 have pT:=hide (fr.2.mono aU.size)
 replace s3:=hide s3
 replace hX:=hide hX
 clear s2 R1 R2 s1 B1 c hs
 go_wp2_with fail
 exact bodyPost_ret (v:=.tuple #[.agg #[.slice a' rs.length G],.int .i64 E]) (by simp[results,Tryz.results122,go_sem,r0]) rfl ⟨rs,a',G,rfl,hX.out,s3.out,pT.out,ay⟩
end Go.Proofs.YtoonnbhoiocoeaaGreatDoor
namespace Go.Proofs.YtoonnbhoiocoeaaGreatDoor
open Go.RowKit
theorem Cj (n:Int)(cb box:Nat)(W:World)(d0:W.cell? ⟨cb,0,none⟩=some (.int .i64 n))(h:dw n 0 100001=false):
  Calls Tryz.prog 159 #[.pointer (some ⟨box,0,none⟩),.pointer (some ⟨cb,0,none⟩)] W fun e W'=>e=.returned (.int .i64 3)/\W'=W:=by
 by_cases h0:n<0
 .clear h
  go_enter Tryz.func159,Tryz.ntmps159
  go_wp2_with fail
  go_ret
  exact⟨rfl,rfl⟩
 .have h1:100001<n:=by unfold dw at h;simp at h;omega
  clear h
  go_enter Tryz.func159,Tryz.ntmps159
  go_wp2_with fail
  go_ret
  exact⟨rfl,rfl⟩
theorem KL (n:Int)(l:List Lb):(ei n l).map Lb.b=(l.map Lb.b).filter (fun b=> !decide (b.to<n)):=by
 unfold ei jZ
 rw[List.filter_map]
 rfl
theorem Hd {n:Int}{l:List Rw}{rs:List Lr}{r y:Lr}{i:Nat}(h:rs.map Lr.rw=(l.take i).map (fh n)++l.drop i)(hl:rs.length=l.length)(hr:rs[i]? =some r)(hy:y.rw=fh n r.rw):
  (rs.set i y).map Lr.rw=(l.take (i+1)).map (fh n)++l.drop (i+1):=by
 have hi:i<l.length:=by rw[<-hl];exact(List.getElem?_eq_some_iff.1 hr).1
 have e:(rs.map Lr.rw)[i]? =some r.rw:=by rw[List.getElem?_map,hr];rfl
 have lt:((l.take i).map (fh n)).length=i:=by rw[List.length_map,List.length_take];omega
 rw[h,List.getElem?_append_right (by omega),lt,Nat.sub_self,List.getElem?_drop,Nat.add_zero] at e
 have hd:l.drop i=r.rw::l.drop (i+1):=by
  obtain⟨fK,e'⟩:=List.getElem?_eq_some_iff.1 e
  rw[<-e']
  exact List.drop_eq_getElem_cons fK
 rw[List.map_set,h,List.set_append_right _ _ (by omega),lt,Nat.sub_self,hd,List.set_cons_zero,hy,List.take_add_one,e,List.map_append,List.append_assoc]
 rfl
theorem KB (n:Int)(cb:Nat)(l:List Rw)(base box g:Nat)(rs:List Lr)(W:World)(hR:ff l)(Bc:ac W cb [.int .i64 n] 3)(LY:cb<base)(C:bt l base box g rs W)(h:dw n 0 100001=true):
  Calls Tryz.prog 159 #[.pointer (some ⟨box,0,none⟩),.pointer (some ⟨cb,0,none⟩)] W (Does 0 (l.map (fh n)) base box g W):=by
 have d0:W.cell? ⟨cb,0,none⟩=some (.int .i64 n):=Bc.cell 0
 have h0:¬n<0:=by unfold dw at h;simp at h;omega
 have h1:¬100001<n:=by unfold dw at h;simp at h;omega
 have d1:W.cell? ⟨box,0,none⟩=some (.slice (some ⟨g,0,none⟩) 4 4):=C.out.cell 0
 have S0:=nW.start C hR
 have l4:rs.length=l.length:=by rw[<-C.same,List.length_map]
 have hl:=hR.four
 have m0:rs.map Lr.rw=(l.take 0).map (fh n)++l.drop 0:=by rw[C.same];simp
 have b0:=Below.refl base W
 have pB:=C.base
 replace S0:=hide S0
 replace l4:=hide l4
 replace hl:=hide hl
 replace m0:=hide m0
 clear h C hR
 go_enter Tryz.func159,Tryz.ntmps159
 go_wp2_with fail
 go_loopw [19] (fun s wr=>∃(i:Nat) (iE:List Lr),i<=4/\s=.int .i64 i/\Hid (iE.length=l.length)/\Hid (iE.map Lr.rw=(l.take i).map (fh n)++l.drop i)/\Hid (nW base box g i iE wr)/\Below base W wr) (fun s _=>4-(intOf s).toNat)
 case atStart=>exact⟨0,rs,by omega,rfl,l4,m0,S0,b0⟩
 case round=>
  clear S0 l4 m0 b0 d0 d1
  obtain⟨i,iE,hi,rfl,l4,m0,S0,b0⟩:=hrel
  by_cases az:i<4
  .obtain⟨r,hr⟩:∃r,iE[i]? =some r:=⟨_,List.getElem?_eq_getElem (by rw[l4.out,hl.out];exact az)⟩
   obtain⟨-,f1,f2,ho⟩:=S0.out.each i r hr
   have oR:=ho (Nat.le_refl _)
   obtain⟨bg,eb,lo,B⟩:=oR.bs
   have EP:=Bc.keep b0 LY
   have d1:wr.cell? ⟨box,0,none⟩=some (.slice (some ⟨g,0,none⟩) 4 4):=S0.out.out.cell 0
   obtain⟨m,hm⟩:∃m,m=r.bs.length:=⟨_,rfl⟩
   have e0:wr.cell? ⟨g,i*2,none⟩=some (.slice (some ⟨bg,0,none⟩) m m):=by
    rw[S0.out.rows.cell]
    refine(flat_get Lr.two _ i 0 _ hr (by decide)).trans ?_
    show some (Value.slice r.ba r.bs.length r.bc)=_
    rw[eb,oR.bc,<-hm]
   have c:=fun W B Bc=>MK r.bs n bg cb m W B Bc hm.symm (by rw[hm,<-oR.bc];exact f1)
   have neg:∀j,some bg=some j->j≠g:=by
    intro j e
    obtain rfl:=Option.some.inj e
    rintro rfl
    exact absurd (bY B S0.out.rows) (by decide)
   have sub:∀x∈ei n r.bs,x∈r.bs:=fun x hx=>(List.mem_filter.1 hx).1
   have kr:(⟨ei n r.bs,some ⟨bg,0,none⟩,m,r.hd,r.ha,r.hc⟩:Lr).rw=fh n r.rw:=by unfold Lr.rw fh;simp only[KL]
   generalize ei n r.bs=kept at*
   have mX:=S0.out.base
   replace hr:=hide hr
   replace hm:=hide hm
   replace eb:=hide eb
   replace neg:=hide neg
   replace sub:=hide sub
   replace kr:=hide kr
   clear oR ho
   go_wp2_with fail
   go_at_call 161
   refine(c _ B EP).mono ?_
   rintro e w2 ⟨tail,rfl,aw,B2,eV⟩
   have G2:=S0.out.rows.grown eV neg.out
   have e2:w2.cell? ⟨g,i*2,none⟩=some (.slice (some ⟨bg,0,none⟩) m m):=by rw[G2.cell,<-S0.out.rows.cell];exact e0
   have fz:=G2.free (i*2)
   obtain⟨S3,b3⟩:=S0.out.step hr.out eb.out hm.out eV B2 aw sub.out
   have m3:=hide (Hd m0.out l4.out hr.out kr.out)
   have b4:=b0.trans b3
   replace S3:=hide S3
   replace aw:=hide aw
   clear B B2 eV c EP G2 b3 d1 e0
   go_wp2_with fail
   go_roundw
   case rel=>exact⟨i+1,_,by omega,by go_num,hide (by rw[List.length_set];exact l4.out),m3,S3,b4⟩
   case measure=>simp[intOf];omega
  .obtain rfl:i=4:=by omega
   have m1:=m0.out
   rw[List.take_of_length_le (by rw[hl.out];exact Nat.le_refl _),List.drop_eq_nil_of_le (by rw[hl.out];exact Nat.le_refl _),List.append_nil] at m1
   have F:=hide S0.out.fin
   have O:=S0.out.out
   have pT:=hide S0.out.hdLo
   replace m1:=hide m1
   clear S0
   go_wp2_with fail
   go_ret
   exact⟨rfl,b0,fun _=>⟨iE,F.out,⟨by rw[l4.out,hl.out],pT.out⟩,m1.out,O⟩⟩
theorem HZ (n:Int)(cb:Nat)(l:List Rw)(base box g:Nat)(rs:List Lr)(W:World)(hR:ff l)(Bc:ac W cb [.int .i64 n] 3)(LY:cb<base)(C:bt l base box g rs W):
  Calls Tryz.prog 159 #[.pointer (some ⟨box,0,none⟩),.pointer (some ⟨cb,0,none⟩)] W (Does (fP n) (ip l n) base box g W):=by
 cases h:dw n 0 100001 with
 |false=>
  have e:fP n=3:=by unfold fP;rw[if_pos h]
  rw[e]
  refine(Cj n cb box W (Bc.cell 0) h).mono ?_
  rintro e W' ⟨rfl,rfl⟩
  exact⟨rfl,Below.refl _ _,fun h=>by cases h⟩
 |true=>
  have e:fP n=0:=by unfold fP;rw[h];rfl
  have e2:ip l n=l.map (fh n):=by unfold ip;rw[if_pos e]
  rw[e,e2]
  exact KB n cb l base box g rs W hR Bc LY C h
theorem Gp (l:List Lr)(ao:Option Addr)(cap:Nat)(n:Int)(w:World)(hs:bJ w ao cap l):
  Calls Tryz.prog 123 #[.agg #[.slice ao l.length cap],.int .i64 n] w fun e w'=>∃rs a' G,e=.returned (.tuple #[.agg #[.slice a' rs.length G],.int .i64 (iX (l.map Lr.rw) (fP n))])/\rs.map Lr.rw=ia (l.map Lr.rw) (fP n) (ip (l.map Lr.rw) n)/\bJ w' a' G rs/\fw w.heap.size rs/\Below w.heap.size w w':=by
 have B1:=(ac.laid (w.alloc (.cells #[.slice ao l.length cap] 24)) [.int .i64 n] 3 (w.heap.size+1) (by simp)).alc (.cells #[.slice none 0 0] 24)
 have R1:=ac.laid ((w.alloc (.cells #[.slice ao l.length cap] 24)).alloc (.cells #[.int .i64 n] 3)) [.slice none 0 0] 24 (w.heap.size+2) (by simp)
 have aU:=pC w (.cells #[.slice ao l.length cap] 24) (.cells #[.int .i64 n] 3) (.cells #[.slice none 0 0] 24)
 have s1:=hs.keep aU (Nat.le_refl _)
 have c:=fun W (S:bJ W ao cap l) (B:ac W (w.heap.size+1) [.int .i64 n] 3)=>Lm (.pointer (some ⟨w.heap.size+1,0,none⟩)) (fP n) (ip (l.map Lr.rw) n) l ao cap W S
  (fun hE W2 base box g rs hb b2 C=>HZ n (w.heap.size+1) (l.map Lr.rw) base box g rs W2 (jJ hE) (B.keep b2 B.lt) (Nat.lt_of_lt_of_le B.lt hb) C)
 generalize ia (l.map Lr.rw) (fP n) (ip (l.map Lr.rw) n)=X at*
 generalize iX (l.map Lr.rw) (fP n)=E at*
 generalize l.length=m at*
 go_enter Tryz.func123,Tryz.ntmps123
 go_wp2_with fail
 generalize((w.alloc _).alloc _).alloc _=w1 at*
 go_at_call 150
 refine(c _ s1 B1).mono ?_
 rintro e w2 ⟨rs,a',G,rfl,hX,s2,fr,b2⟩
 have R2:=R1.keep b2 R1.lt
 have al:=aa aU b2
 have r0:w2.cell? ⟨w.heap.size+2,0,none⟩=some (.slice none 0 0):=R2.cell 0
 have r1:=R2.free 0
 have s3:=s2.written (ik none 0 0) R2 (i:=0) (u:=.slice a' rs.length G) (fun ad e=>by have:=fr.1 ad e;have:=R1.lt;omega)
 have ay:=al.setCell (p:=⟨w.heap.size+2,0,none⟩) (by show w.heap.size<=w.heap.size+2;omega) (.slice a' rs.length G)
 have pT:=hide (fr.2.mono aU.size)
 replace s3:=hide s3
 replace hX:=hide hX
 clear s2 R1 R2 s1 B1 c hs
 go_wp2_with fail
 exact bodyPost_ret (v:=.tuple #[.agg #[.slice a' rs.length G],.int .i64 E]) (by simp[results,Tryz.results123,go_sem,r0]) rfl ⟨rs,a',G,rfl,hX.out,s3.out,pT.out,ay⟩
end Go.Proofs.YtoonnbhoiocoeaaGreatDoor
namespace Go.Proofs.YtoonnbhoiocoeaaGreatDoor
open Go.RowKit
structure dC (W:World)(a:Option Addr)(G:Nat)(C:List Rw):Prop where
 ex:∃rs:List Lr,rs.map Lr.rw=C/\bJ W a G rs
theorem dC.call {W W':World}{a:Option Addr}{G:Nat}{C:List Rw}(h:dC W a G C)(hb:Below W.heap.size W W'):dC W' a G C:=by
 obtain⟨rs,e,s⟩:=h.ex
 exact⟨rs,e,s.call hb⟩
theorem dC.keep {W W':World}{a:Option Addr}{G B:Nat}{C:List Rw}(h:dC W a G C)(hb:Below B W W')(hB:W.heap.size<=B):dC W' a G C:=by
 obtain⟨rs,e,s⟩:=h.ex
 exact⟨rs,e,s.keep hb hB⟩
theorem dC.alloc {W:World}{a:Option Addr}{G:Nat}{C:List Rw}(h:dC W a G C)(o:Obj):dC (W.alloc o) a G C:=by
 obtain⟨rs,e,s⟩:=h.ex
 exact⟨rs,e,s.alloc o⟩
theorem xM {w:World}{base base':Nat}{e:TypeId}{size n:Nat}{v:Value}{xs:List Value}(h:w.ownsRow base e size v n xs)(hb:base'<=base):w.ownsRow base' e size v n xs:=by
 refine⟨h.1,?_⟩
 rcases h.2 with h0| ⟨g,cap,cur,e1,h1,h2⟩
 .exact .inl h0
 .exact .inr ⟨g,cap,cur,e1,Nat.le_trans hb h1,h2⟩
theorem Row.offOne {w:World}{ao:Option Addr}{g:Nat}{C:List Value}{c:Value}{t:TypeId}(h:Row w ao C)(B:ac w g [c] t)(hC:2<=C.length):Off g ao:=by
 obtain⟨b,off,rfl,hb,hc⟩:=h.at (by intro e;rw[e] at hC;simp at hC)
 intro ad e
 cases e
 intro e
 have e:b=g:=e
 subst e
 have h0:=hc 0 C[0] (List.getElem?_eq_getElem (by omega))
 have h1:=hc 1 C[1] (List.getElem?_eq_getElem (by omega))
 rw[B.cell] at h0 h1
 have l0:=(List.getElem?_eq_some_iff.1 h0).1
 have l1:=(List.getElem?_eq_some_iff.1 h1).1
 simp at l0 l1
theorem dC.wrote {w:World}{a:Option Addr}{G g:Nat}{C:List Rw}{a1:Option Addr}{n1 c1:Nat}{u:Value}(h:dC w a G C)(B:ac w g [.slice a1 n1 c1] 24)(hC:C≠[]):dC (w.setCell ⟨g,0,none⟩ u) a G C:=by
 obtain⟨rs,rfl,s⟩:=h.ex
 have grow:=ak (au w (some g)) 0 u
 have hl:=ar Lr.two rs
 have hp:0<rs.length:=by
  cases rs with
  |nil=>simp at hC
  |cons x r=>simp
 exact⟨rs,rfl,⟨⟨s.sl.row.off grow (s.sl.row.offOne B (by rw[hl];omega)),s.sl.le,s.sl.max,s.sl.nil⟩,fun r hr=>(s.good r hr).offSl grow B (ik _ _ _)⟩⟩
def uy (E:Int)(C:List Rw)(W:World)(e:Ending)(w':World):Prop:=
 ∃a' G',e=.returned (.tuple #[.agg #[.slice a' C.length G'],.int .i64 E])/\dC w' a' G' C/\Below W.heap.size W w'
theorem qZ {E:Int}{C:List Rw}{W:World}{e:Ending}{w':World}(h:∃rs a' G,e=.returned (.tuple #[.agg #[.slice a' rs.length G],.int .i64 E])/\rs.map Lr.rw=C/\bJ w' a' G rs/\Below W.heap.size W w'):uy E C W e w':=by
 obtain⟨rs,a',G,he,rfl,s,b⟩:=h
 exact⟨a',G,by rw[he,List.length_map],⟨rs,rfl,s⟩,b⟩
theorem Dv {C:List Rw}{a:Option Addr}{G:Nat}{W:World}(h:dC W a G C):
  Calls Tryz.prog 79 #[.agg #[.slice a C.length G]] W fun e w'=>e=.returned (.int .i64 (aE C))/\Below W.heap.size W w':=by
 obtain⟨rs,rfl,s⟩:=h.ex
 rw[List.length_map]
 exact kF rs a G W s
theorem Bp {C:List Rw}{a:Option Addr}{G:Nat}{W:World}(s:Int)(h:dC W a G C):
  Calls Tryz.prog 38 #[.agg #[.slice a C.length G],.int .i64 s] W fun e w'=>∃a' G',e=.returned (.tuple #[.slice a' (fC C s).length G',.int .i64 (iK C s)])/\
   w'.ownsRow W.heap.size 56 2 (.slice a' (fC C s).length G') (fC C s).length (am (fC C s))/\Below W.heap.size W w':=by
 obtain⟨rs,rfl,t⟩:=h.ex
 rw[List.length_map]
 exact KH rs a G s W t
def Ct:List Rw:=[dN,dN,dN,dN]
theorem IA (W:World):
  Calls Tryz.prog 44 #[] W fun e w'=>∃a' G',e=.returned (.agg #[.slice a' 4 G'])/\dC w' a' G' Ct/\Below W.heap.size W w':=by
 refine(zP W).mono ?_
 rintro e w' ⟨a',G',rfl,s,b⟩
 exact⟨a',G',rfl,⟨_,rfl,s⟩,b⟩
end Go.Proofs.YtoonnbhoiocoeaaGreatDoor
namespace Go.Proofs.YtoonnbhoiocoeaaGreatDoor
open Go.RowKit
theorem ud (C:List Rw)(s:Int):(fC C s).length<=40:=by
 unfold fC
 split
 .rename_i h
  unfold iK at h
  split at h
  .rename_i hz
   split at h
   .cases h
   .rename_i hi
    obtain⟨k,rfl,hk⟩:=nX (by simpa using hi)
    obtain⟨h4,hm⟩:=fX hz
    rw[Int.toNat_natCast]
    exact(eU (ii (hm _ (mr (by omega)))).2.2).1
  .rename_i h0
   exact absurd h h0
 .simp
theorem Ka {C:List Rw}{a:Option Addr}{G cn:Nat}{w:World}(s f t:Int)(h:dC w a G C)(CU:cn=C.length):
  Calls Tryz.prog 55 #[.agg #[.slice a cn G],.int .i64 s,.int .i64 f,.int .i64 t] w fun e w'=>∃a' G',e=.returned (.tuple #[.slice a' (gH (fC C s) f t).length G',.int .i64 (iK C s)])/\
   w'.ownsRow w.heap.size 56 2 (.slice a' (gH (fC C s) f t).length G') (gH (fC C s) f t).length (am (gH (fC C s) f t))/\Below w.heap.size w w':=by
 have hl:=ud C s
 have c1:=fun W (h:dC W a G C)=>Bp s h
 rw[<-CU] at c1
 have S1:=((h.alloc (.cells #[.slice a cn G] 24)).alloc (.cells #[.int .i64 f] 3)).alloc (.cells #[.int .i64 t] 3)
 have Bf:=(ac.laid (w.alloc (.cells #[.slice a cn G] 24)) [.int .i64 f] 3 (w.heap.size+1) (by simp)).alc (.cells #[.int .i64 t] 3)
 have Bt:=ac.laid ((w.alloc (.cells #[.slice a cn G] 24)).alloc (.cells #[.int .i64 f] 3)) [.int .i64 t] 3 (w.heap.size+2) (by simp)
 have bel:=pC w (.cells #[.slice a cn G] 24) (.cells #[.int .i64 f] 3) (.cells #[.int .i64 t] 3)
 by_cases hE:iK C s=0
 .rw[hE] at c1⊢
  obtain⟨A,hA⟩:∃A,A=fC C s:=⟨_,rfl⟩
  rw[<-hA] at c1 hl⊢
  obtain⟨n,hn⟩:∃n,n=A.length:=⟨_,rfl⟩
  rw[<-hn] at c1 hl
  obtain⟨m,hm⟩:∃m,m=(gH A f t).length:=⟨_,rfl⟩
  have Tp:m<=n:=by rw[hm,hn];exact Nu A f t
  rw[<-hm]
  replace hm:=hide hm
  replace hn:=hide hn
  clear hE hA CU
  go_enter Tryz.func55,Tryz.ntmps55
  go_wp2_with fail
  go_at_call 38
  refine(c1 _ S1).mono ?_
  rintro e w2 ⟨a2,G2,rfl,o2,b2⟩
  replace Bf:=Bf.keep b2 Bf.lt
  replace Bt:=Bt.keep b2 Bt.lt
  replace bel:=aa bel b2
  rcases Ke o2 with⟨e2,rfl,rfl⟩| ⟨g,G',sp,e2,hb,B,h1,h2,h3⟩
  .simp only[Value.slice.injEq,true_and] at e2
   obtain⟨rfl,rfl⟩:=e2
   obtain rfl:m=0:=by omega
   have cI:=fun W h k m=>IQ [] none 0 0 f t (w.heap.size+1) (w.heap.size+2) W h k m rfl (by decide)
   have cD:Calls Tryz.prog 92 #[.slice none 0 0,.func (.func 91) #[] #[.pointer (some ⟨w.heap.size+1,0,none⟩),.pointer (some ⟨w.heap.size+2,0,none⟩)]] w2 fun e w'=>e=.returned (.slice none 0 0)/\Below w2.heap.size w2 w':=by
    go_enter Tryz.func92,Tryz.ntmps92
    go_wp2_with fail
    go_at_call 124
    refine(cI _ (aI.ofNil _) Bf Bt).mono ?_
    rintro e w3 ⟨b3,⟨rfl,_⟩| ⟨k0,x0,_,pN,_⟩⟩
    .go_wp2_with fail
     go_ret
     exact⟨rfl,b3⟩
    .simp at pN
   clear cI b2 o2
   go_wp2_with fail
   go_at_call 92
   refine cD.mono ?_
   rintro e w3 ⟨rfl,b3⟩
   go_wp2_with fail
   go_ret2
   exact⟨none,0,rfl,World.ownsRow_nil _ _ _ _,aa bel b3⟩
  .simp only[Value.slice.injEq,true_and] at e2
   obtain⟨rfl,rfl⟩:=e2
   rw[jY] at B h3
   have cD:=M2 A sp f t g (w.heap.size+1) (w.heap.size+2) n G2 w2 B Bf Bt hn.out.symm hl h1 (by unfold maxLen at h2;exact h2)
   rw[JP] at cD
   rw[<-hm.out] at cD
   have Pd:=hide h3
   have pL:w.heap.size<=g:=by simp at hb;omega
   clear b2 o2 B h3
   go_wp2_with fail
   go_at_call 92
   refine cD.mono ?_
   rintro e w3 ⟨tail,rfl,aw,B3,yK⟩
   have ay:Below w.heap.size w w3:=bel.grown yK bel.size (fun k hk=>by obtain rfl:=Option.some.inj hk;exact pL)
   have eN:w3.ownsRow w.heap.size 56 2 (.slice (some ⟨g,0,none⟩) m G2) m (am (gH A f t)):=by
    rw[List.flatMap_append,List.append_assoc,<-jY] at B3
    refine Jw pL B3 hm.out.symm (by omega) h2 ?_
    rw[<-Pd.out,List.length_append,List.length_append,List.length_append,jY,ar gh,ar gh,ar gh,<-hm.out,<-hn.out]
    rw[List.length_append,<-hm.out] at aw
    omega
   replace aw:=hide aw
   clear B3
   go_wp2_with fail
   go_ret2
   exact⟨_,_,rfl,eN,ay⟩
 .have hR:fC C s=[]:=by unfold fC;rw[if_neg hE]
  rw[hR] at c1⊢
  generalize iK C s=E at*
  clear hR CU
  go_enter Tryz.func55,Tryz.ntmps55
  go_wp2_with fail
  go_at_call 38
  refine(c1 _ S1).mono ?_
  rintro e w2 ⟨a2,G2,rfl,o2,b2⟩
  replace bel:=aa bel b2
  go_wp2_with fail
  go_ret2
  exact⟨none,0,rfl,World.ownsRow_nil _ _ _ _,bel⟩
end Go.Proofs.YtoonnbhoiocoeaaGreatDoor
namespace Go.Proofs.YtoonnbhoiocoeaaGreatDoor
theorem oo {w:Wd}{x:Hp}(h:ci w x=0):(1<=x.k/\x.k<=9)/\w.up=decide (x.k≠8):=by
 unfold ci at h
 split at h
 .cases h
 .rename_i h1
  split at h
  .cases h
  .rename_i h2
   exact⟨Decidable.not_not.1 h1,Decidable.not_not.1 h2⟩
theorem Ey {w:Wd}{x:Hp}(hk:(1<=x.k/\x.k<=4)\/x.k=9)(hu:w.up=true):
  ci w x=(if cd w.c (aO x)≠0 then cd w.c (aO x) else if fq w.d (aO x)≠0 then fq w.d (aO x) else if x.k=9 then 0 else jX (dj w.d (aO x))):=by
 unfold ci
 rw[if_neg (fun h=>h ⟨by omega,by omega⟩),if_neg (fun h=>h (by rw[hu];exact(decide_eq_true (by omega)).symm)),if_neg (by omega),if_neg (by omega),if_neg (by omega)]
theorem uP {w:Wd}{x:Hp}(hk:(1<=x.k/\x.k<=4)\/x.k=9)(h:ci w x=0):
  w.up=true/\cd w.c (aO x)=0/\fq w.d (aO x)=0/\(x.k≠9->jX (dj w.d (aO x))=0):=by
 have hu:w.up=true:=by rw[(oo h).2];exact decide_eq_true (by omega)
 rw[Ey hk hu] at h
 split at h
 .contradiction
 .rename_i h1
  split at h
  .contradiction
  .rename_i h2
   refine⟨hu,Decidable.not_not.1 h1,Decidable.not_not.1 h2,fun h9=>?_⟩
   rw[if_neg h9] at h
   exact h
theorem ye {L:List Rc}{r:Rc}(h:bP L=0)(hn:cd (aZ L) r=0)(kw:(L++[r]).length<=60):bP (L++[r])=0/\aZ (L++[r])=dW (aZ L) r:=by
 have Eo:¬60<L.length:=by rw[List.length_append] at kw;simp only[List.length_cons,List.length_nil] at kw;omega
 have e1:(aG dg L).2=0:=by unfold bP at h;rw[if_neg Eo] at h;exact h
 have e2:aZ L=(aG dg L).1:=if_neg Eo
 rw[e2] at hn
 have:=nQ L r dg e1
 rw[if_pos hn] at this
 unfold bP aZ
 rw[if_neg (by omega),if_neg (by omega),if_neg Eo,this]
 exact⟨rfl,rfl⟩
theorem rM {L:List Rc}(h:bP L=0)(k:Nat):bP (L.take k)=0:=by
 unfold bP at h⊢
 split at h
 .cases h
 .rename_i kw
  rw[if_neg (by rw[List.length_take];omega)]
  exact uQ h k
theorem fp {L:List Rc}(h:bP L=0):aE (aZ L)=0:=by
 unfold bP at h
 unfold aZ
 split at h
 .cases h
 .rename_i kw
  rw[if_neg kw]
  exact mE L dg tq h
theorem Nj {n m:Nat}{v:Int}(h:fd true n v=true)(hm:n<=m):fd true m v=true:=by
 unfold fd at h⊢
 simp only[Bool.true_or,Bool.and_true,decide_eq_true_eq] at h⊢
 omega
theorem H3 {n m:Nat}{v:Int}(h:fd false n v=true):fd true m v=true:=by
 unfold fd at h⊢
 simp only[Bool.false_or,Bool.true_or,Bool.and_true,Bool.and_eq_true,decide_eq_true_eq] at h⊢
 omega
theorem xD {w:Wd}{x:Hp}(hr:cu w=0)(hk:1<=x.k/\x.k<=4)(h:ci w x=0):
  dr w x=⟨dW w.c (aO x),ja (ax w.d++[aO x]),true,w.rd⟩/\ax (dr w x).d=ax w.d++[aO x]/\cu (dr w x)=0/\(ax w.d++[aO x]).length<=60:=by
 obtain⟨hu,h1,h2,h3⟩:=uP (.inl hk) h
 obtain⟨u1,u2,u3,u4,u5⟩:=wk hr hu
 obtain⟨r1,r2,r3,r4,r5,r6⟩:=dQ hr
 have hL:iv w=ax w.d:=if_pos hu
 rw[hL,hu] at r6
 have Pd:=h3 (by omega)
 have e:dr w x=⟨dW w.c (aO x),lu (dj w.d (aO x)),w.up,w.rd⟩:=by
  unfold dr
  rw[if_neg (by simp[h]),if_neg (by omega),if_neg (by omega),if_neg (by omega),if_neg (by omega),if_neg (by omega)]
 obtain⟨L,eL⟩:∃L,L=ax w.d:=⟨_,rfl⟩
 rw[<-eL] at u1 u2 u3 u4 u5 r6⊢
 rw[u1] at h2 Pd
 obtain⟨m1,m2,m3⟩:=Jg u4 u5 h2 Pd
 rw[u3] at h1
 obtain⟨p1,p2⟩:=ye u2 h1 m3
 have oks:∀r∈L++[aO x],aV r=0:=by
  intro r CV
  rcases List.mem_append.1 CV with CV|CV
  .exact u4 r CV
  .rw[List.mem_singleton.1 CV];exact m2
 have e2:dr w x=⟨dW w.c (aO x),ja (L++[aO x]),true,w.rd⟩:=by rw[e,u1,m1,hu]
 have eR:ax (ja (L++[aO x]))=L++[aO x]:=Pf oks m3
 refine⟨e2,by rw[e2];exact eR,?_,m3⟩
 rw[e2]
 have eW:iv ⟨dW w.c (aO x),ja (L++[aO x]),true,w.rd⟩=L++[aO x]:=by unfold iv;rw[if_pos rfl];exact eR
 refine AW (DF oks m3) (fun _=>rfl) ?_ ?_ r5 ?_
 .rw[eW];exact p1
 .rw[eW,p2,u3]
 .rw[eW]
  intro v hv
  exact Nj (r6 v hv) (by rw[List.length_append];omega)
theorem nk {w:Wd}{x:Hp}(hr:cu w=0)(hk:x.k=5\/x.k=6)(h:ci w x=0):
  0<=x.n/\x.n<=2/\w.up=true/\dr w x=⟨w.c,w.d,true,w.rd.set x.n.toNat (if x.k=5 then((ax w.d).length:Int) else-1)⟩/\cu (dr w x)=0:=by
 have hu:w.up=true:=by rw[(oo h).2];exact decide_eq_true (by omega)
 have hL:iv w=ax w.d:=if_pos hu
 obtain⟨r1,r2,r3,r4,r5,r6⟩:=dQ hr
 have hn:0<=x.n/\x.n<=2:=by
  unfold ci at h
  rw[if_neg (fun h=>h ⟨by omega,by omega⟩),if_neg (fun h=>h (by rw[hu];exact(decide_eq_true (by omega)).symm)),if_pos hk] at h
  split at h
  .assumption
  .cases h
 have e:dr w x=⟨w.c,w.d,true,w.rd.set x.n.toNat (if x.k=5 then((ax w.d).length:Int) else-1)⟩:=by
  unfold dr
  rw[if_neg (by simp[h])]
  rcases hk with hk|hk
  .rw[if_pos hk,if_pos hk,hu]
  .rw[if_neg (by omega),if_pos hk,if_neg (by omega),hu]
 refine⟨hn.1,hn.2,hu,e,?_⟩
 rw[e]
 refine AW r1 (fun _=>r2 hu) ?_ ?_ (by rw[List.length_set];exact r5) ?_
 .show bP (if true=true then ax w.d else [])=0
  rw[if_pos rfl,<-hL];exact r3
 .show w.c=aZ (if true=true then ax w.d else [])
  rw[if_pos rfl,<-hL];exact r4
 .show∀v∈_,fd true (if true=true then ax w.d else []).length v=true
  rw[if_pos rfl]
  intro v hv
  rw[hL,hu] at r6
  rcases List.mem_or_eq_of_mem_set hv with hv|rfl
  .exact r6 v hv
  .unfold fd
   split<;>simp<;>omega
theorem yD {d:Dk}(h:cT d=0)(n:Nat):cT ⟨d.safe,d.wait.take n⟩=0:=by
 unfold cT at h⊢
 split at h
 .cases h
 .rename_i h1
  rw[if_neg (by simp only[List.length_take];omega)]
  exact h
theorem p7 {d:Dk}(h:cT d=0):cu ⟨dg,d,false,iw⟩=0:=
 AW h (fun h=>(by cases h)) rfl rfl rfl (Mh _ _)
theorem wu {w:Wd}{x:Hp}(hr:cu w=0)(hk:x.k=7)(h:ci w x=0):dr w x=⟨dg,w.d,false,iw⟩/\cu (dr w x)=0:=by
 have e:dr w x=⟨dg,w.d,false,iw⟩:=by
  unfold dr
  rw[if_neg (by simp[h]),if_neg (by omega),if_neg (by omega),if_pos hk]
 exact⟨e,by rw[e];exact p7 (dQ hr).1⟩
theorem uK {w:Wd}{x:Hp}(hk:x.k=9)(h:ci w x=0):dr w x=⟨dg,⟨w.d.safe,(dj w.d (aO x)).wait.take x.n.toNat⟩,false,iw⟩/\cu (dr w x)=0:=by
 obtain⟨hu,h1,h2,_⟩:=uP (.inr hk) h
 have e:dr w x=⟨dg,⟨w.d.safe,(dj w.d (aO x)).wait.take x.n.toNat⟩,false,iw⟩:=by
  unfold dr
  rw[if_neg (by simp[h]),if_neg (by omega),if_neg (by omega),if_neg (by omega),if_neg (by omega),if_pos hk]
 refine⟨e,?_⟩
 rw[e]
 obtain⟨_,_,p3,p4⟩:=oD h2
 have:=yD p4 x.n.toNat
 have es:(dj w.d (aO x)).safe=w.d.safe:=by rw[p3]
 rw[es] at this
 exact p7 this
theorem uB {w:Wd}{x:Hp}(hr:cu w=0)(hk:x.k=8)(h:ci w x=0):
  w.up=false/\bP (ax w.d)=0/\dr w x=⟨aZ (ax w.d),gu w.d,true,w.rd⟩/\cu (dr w x)=0/\ax (dr w x).d=ax w.d:=by
 have hu:w.up=false:=by rw[(oo h).2];exact decide_eq_false (by omega)
 obtain⟨r1,r2,r3,r4,r5,r6⟩:=dQ hr
 have hz:bP (ax w.d)=0:=by
  unfold ci at h
  rw[if_neg (fun h=>h ⟨by omega,by omega⟩),if_neg (fun h=>h (by rw[hu];exact(decide_eq_false (by omega)).symm)),if_neg (by omega),if_neg (by omega),if_pos hk] at h
  exact h
 have e:dr w x=⟨aZ (ax w.d),gu w.d,true,w.rd⟩:=by
  unfold dr
  rw[if_neg (by simp[h]),if_neg (by omega),if_neg (by omega),if_neg (by omega),if_pos hk]
 obtain⟨c1,c2,c3,c4,c5,c6,c7,c8⟩:=kQ r1
 have eW:iv ⟨aZ (ax w.d),gu w.d,true,w.rd⟩=ax w.d:=by unfold iv;rw[if_pos rfl];exact c7
 refine⟨hu,hz,e,?_,by rw[e];exact c7⟩
 rw[e]
 refine AW c6 (fun _=>by show(gu w.d).wait=[];rw[c4]) (by rw[eW];exact hz) (by rw[eW]) r5 ?_
 rw[eW]
 intro v hv
 have:=r6 v hv
 rw[hu] at this
 exact H3 this
theorem sc {w:Wd}{x:Hp}(hr:cu w=0)(h:ci w x=0):cu (dr w x)=0:=by
 obtain⟨hk,_⟩:=oo h
 by_cases k1:x.k<=4
 .exact(xD hr ⟨hk.1,k1⟩ h).2.2.1
 by_cases k2:x.k=5\/x.k=6
 .exact(nk hr k2 h).2.2.2.2
 by_cases k3:x.k=7
 .exact(wu hr k3 h).2
 by_cases k4:x.k=8
 .exact(uB hr k4 h).2.2.2.1
 .exact(uK (by omega) h).2
theorem FL {L:List Rc}{r:Rc}(hL:∀x∈L,aV x=0)(kw:L.length<=60)(hp:fq (ja L) r=0)(n:Nat):
  cT ⟨bK L,(dj (ja L) r).wait.take n⟩=0/\(ax ⟨bK L,(dj (ja L) r).wait.take n⟩=L\/L.length<60/\ax ⟨bK L,(dj (ja L) r).wait.take n⟩=L++[r]):=by
 obtain⟨_,hr,hd,h0⟩:=oD hp
 have e:dj (ja L) r=⟨bK L,dh r++[10]⟩:=by rw[hd];rfl
 rw[e] at h0⊢
 have d0:=yD h0 n
 simp only at d0⊢
 refine⟨d0,?_⟩
 by_cases az:L.length<60
 .have h1:dh r++[10]=bK [r]:=(AH r).symm
  have dz:(bK L).length+(bK [r]).length<=60000:=by
   rw[<-h1]
   unfold cT at h0
   split at h0
   .cases h0
   .simp only at*
    omega
  obtain⟨_,m,hm,k1,_⟩:=z' L [r] n hL (fun x hx=>by rw[List.mem_singleton.1 hx];exact hr) (by simp only[List.length_cons,List.length_nil];omega) dz
  rw[h1,k1]
  simp only[List.length_cons,List.length_nil] at hm
  by_cases m0:m=0
  .left;rw[m0];simp
  .right
   obtain rfl:m=1:=by omega
   exact⟨az,by simp⟩
 .left
  have hl:iN ⟨bK L,(dh r++[10]).take n⟩=L:=by
   unfold iN
   rw[if_pos d0]
   simp only
   rw[mw L hL kw]
  unfold ax
  rw[if_pos d0,hl,dL (by omega),List.append_nil]
def jB (w:Wd)(r s:Int):Int:=
 if cu w≠0 then cu w else if¬(0<=r/\r<=2) then 5 else if w.rd.getD r.toNat 0<0 then 7 else iK (aZ ((ax w.d).take (w.rd.getD r.toNat 0).toNat)) s
def mz (w:Wd)(r s f t:Int):List Pt:=
 if jB w r s=0 then gH (fC (aZ ((ax w.d).take (w.rd.getD r.toNat 0).toNat)) s) f t else []
theorem sD {C:List Rw}{s:Nat}(h:aE C=0)(hs:s<4):iK C s=0/\fC C s=be (C.getD s dN):=by
 have e:iK C s=0:=by
  unfold iK
  rw[if_pos h,if_neg (by unfold dw;simp;omega)]
 refine⟨e,?_⟩
 unfold fC
 rw[if_pos e,Int.toNat_natCast]
end Go.Proofs.YtoonnbhoiocoeaaGreatDoor
namespace Go.Proofs.YtoonnbhoiocoeaaGreatDoor
open Go.RowKit
theorem QG {W:World}{a:Option Addr}{c:Nat}{l:List Nt}(h:aY ec W a c l):aY En.cells W a c (jd l):=by
 have e:(jd l).flatMap En.cells=l.flatMap ec:=by
  unfold jd
  rw[List.flatMap_map]
  rfl
 exact⟨by rw[e];exact h.row,by unfold jd;rw[List.length_map];exact h.le,h.max,h.nil⟩
theorem tE (l:List Nt):(jd l).length=l.length:=List.length_map _
theorem dC.boxed {w:World}{a:Option Addr}{G g:Nat}{C:List Rw}{a1:Option Addr}{n1 c1:Nat}(h:dC w a G C)(B:ac w g [.slice a1 n1 c1] 24)(u:Value):dC (w.setCell ⟨g,0,none⟩ u) a G C:=by
 by_cases hC:C=[]
 .subst hC
  obtain⟨rs,e,s⟩:=h.ex
  obtain rfl:=List.map_eq_nil_iff.1 e
  exact⟨[],rfl,⟨⟨.inl rfl,s.sl.le,s.sl.max,s.sl.nil⟩,fun r hr=>(by cases hr)⟩⟩
 .exact h.wrote B hC
theorem dC.none (w:World):dC w none 0 []:=⟨[],rfl,⟨⟨.inl rfl,Nat.le_refl _,by decide,fun _=>rfl⟩,fun r hr=>(by cases hr)⟩⟩
def Mk (E:Int)(D:List Rw)(dn:Nat)(W:World)(e:Ending)(w':World):Prop:=
 ∃a' G',e=.returned (.tuple #[.agg #[.slice a' dn G'],.int .i64 E])/\dC w' a' G' D/\Below W.heap.size W w'
theorem A6 {E:Int}{D:List Rw}{dn:Nat}{W:World}{f:Nat}{args:Array Value}(hd:Hid (dn=D.length))(c:Calls Tryz.prog f args W (uy E D W)):Calls Tryz.prog f args W (Mk E D dn W):=by
 obtain rfl:=hd.out
 exact c
theorem NW {C:List Rw}(hz:aE C=0):(∀x,iX C x=x)/\(∀L,ia C (fG C L) (iH C L)=iH C L)/\(∀s n,ia C (eJ C s n) (gn C s n)=gn C s n)/\(∀s n,ia C (gm C s n) (jQ C s n)=jQ C s n)/\(∀n,ia C (fP n) (ip C n)=ip C n):=by
 have e:∀x,iX C x=x:=fun x=>if_pos hz
 refine⟨e,fun L=>?_,fun s n=>?_,fun s n=>?_,fun n=>?_⟩
 .unfold ia;rw[e];unfold iH;split<;>rfl
 .unfold ia;rw[e];unfold gn;split<;>rfl
 .unfold ia;rw[e];unfold jQ;split<;>rfl
 .unfold ia;rw[e];unfold ip;split<;>rfl
theorem yh {r:Rc}(h:aV r=0):r.e.length<=10:=by
 unfold aV at h
 split at h
 .split at h
  .cases h
  .split at h
   .cases h
   .omega
 .split at h
  .split at h
   .cases h
   .rename_i h1
    have:r.e=[]:=Decidable.byContradiction fun e=>h1 (.inl e)
    rw[this]
    exact Nat.zero_le _
  .cases h
theorem AF {r:Rc}(h:aV r=0):r.k=1\/r.k=2\/r.k=3\/r.k=4:=by
 unfold aV at h
 split at h
 .exact .inl (by assumption)
 .split at h
  .rename_i h1
   exact .inr h1
  .cases h
end Go.Proofs.YtoonnbhoiocoeaaGreatDoor
namespace Go.Proofs.YtoonnbhoiocoeaaGreatDoor
open Go.RowKit
theorem x5 {R:List Rc}(h:60<R.length):bP R=2/\aZ R=[]:=⟨if_pos h,if_pos h⟩
theorem Az {R:List Rc}(h:¬60<R.length):bP R=(aG dg R).2/\aZ R=(aG dg R).1:=⟨if_neg h,if_neg h⟩
theorem wN {R:List Rc}{k:Nat}{C:List Rw}{x:Rc}(h:aG dg (R.take k)=(C,0))(hx:R[k]? =some x):
  (cd C x=0->aG dg (R.take (k+1))=(dW C x,0))/\(cd C x≠0->aG dg R=([],cd C x)):=by
 have h1:(aG dg (R.take k)).1=C:=by rw[h]
 have h2:(aG dg (R.take k)).2=0:=by rw[h]
 refine⟨fun hz=>?_,fun hz=>?_⟩
 .rw[List.take_add_one,hx]
  have:=nQ (R.take k) x dg h2
  rw[h1,if_pos hz] at this
  exact this
 .have hk:k<R.length:=(List.getElem?_eq_some_iff.1 hx).1
  have e:R=R.take k++x::R.drop (k+1):=by
   conv=>lhs;rw[<-List.take_append_drop k R]
   rw[List.drop_eq_getElem_cons hk]
   have:=(List.getElem?_eq_some_iff.1 hx).2
   rw[this]
  rw[e]
  have:=zJ (R.take k) (R.drop (k+1)) x dg h2 (by rw[h1];exact hz)
  rw[h1] at this
  exact this
theorem vp {R:List Rc}{k:Nat}{C:List Rw}(h:aG dg (R.take k)=(C,0)):aE C=0:=by
 have:=mE (R.take k) dg tq (by rw[h])
 rwa[h] at this
end Go.Proofs.YtoonnbhoiocoeaaGreatDoor
