/-
  rainbookref.Sealed, of a shelf that is right: all cases in one.
-/
import Derived.Lib.AppendZeros
import Derived.Test.YtoonnbhoiocoeaaGreatDoorS34
import Derived.Test.YtoonnbhoiocoeaaGreatDoorQ12
set_option maxHeartbeats 40000000
set_option maxRecDepth 100000
set_option linter.unusedVariables false
namespace Go.Proofs.YtoonnbhoiocoeaaGreatDoor
open Go.RowKit
theorem OV {l:List Lr}{k:Nat}{r:Lr}(hr:l[k]? =some r):(l.map Lr.rw).getD k fj=r.rw:=by
 rw[List.getD,List.getElem?_map,hr]
 rfl
theorem Cx (l:List Lr)(ao:Option Addr)(cap:Nat)(s n:Int)(w:World)(hs:bL w ao cap l)(hR:eY (l.map Lr.rw)):
  Calls Tryz.prog 100 #[.agg #[.slice ao l.length cap],.int .i64 s,.int .i64 n] w fun e w'=>
   ∃rs a' G,e=.returned (.tuple #[.agg #[.slice a' rs.length G],.int .i64 (eB (l.map Lr.rw) s n)])/\rs.map Lr.rw=gA (l.map Lr.rw) s n/\bL w' a' G rs/\Below w.heap.size w w'/\ae w.heap.size l rs:=by
 have h4:l.length=4:=by have:=hR.four;rwa[List.length_map] at this
 have no:∀E:Int,E≠0->eB (l.map Lr.rw) s n=E->(Calls Tryz.prog 100 #[.agg #[.slice ao l.length cap],.int .i64 s,.int .i64 n] w fun e w'=>e=.returned (.tuple #[.agg #[.slice none 0 0],.int .i64 E])/\Below w.heap.size w w')->
   Calls Tryz.prog 100 #[.agg #[.slice ao l.length cap],.int .i64 s,.int .i64 n] w fun e w'=>
   ∃rs a' G,e=.returned (.tuple #[.agg #[.slice a' rs.length G],.int .i64 (eB (l.map Lr.rw) s n)])/\rs.map Lr.rw=gA (l.map Lr.rw) s n/\bL w' a' G rs/\Below w.heap.size w w'/\ae w.heap.size l rs:=by
  intro E hE hS h
  refine h.mono ?_
  rintro e w' ⟨rfl,hb⟩
  refine⟨[],none,0,by rw[hS];rfl,?_,bL.ofNil _,hb,ae.nil _ _⟩
  unfold gA
  rw[hS,if_neg hE]
  rfl
 by_cases h0:dG s 0 3=false
 .exact no 5 (by decide) (by unfold eB;rw[if_pos h0]) (CL _ _ _ _ _ _ h0)
 have OH:0<=s/\s<=3:=by
  have:dG s 0 3=true:=by simpa using h0
  exact of_decide_eq_true this
 obtain⟨k,rfl⟩:=Int.eq_ofNat_of_zero_le OH.1
 have hk:k<4:=by omega
 obtain⟨r,hr⟩:∃r,l[k]? =some r:=⟨_,List.getElem?_eq_getElem (by rw[h4];exact hk)⟩
 have hg:=OV hr
 have hf:=hR.few r.rw (List.mem_map.2 ⟨r,List.mem_of_getElem? hr,rfl⟩)
 have SI:r.bs.length<=8:=by have:=hf.1;unfold Lr.rw at this;simpa using this
 have Tf:r.hd.length<=40:=hf.2
 have hh:r.rw.head=r.hd:=rfl
 have Gg:((k:Int)).toNat=k:=Int.toNat_natCast k
 rw[h4] at no⊢
 by_cases h1:dG n 1 r.hd.length=false
 .exact no 3 (by decide) (by unfold eB;rw[if_neg h0,Gg,hg,hh,if_pos h1]) (zj l ao cap k n w hs h4 hk r hr h1)
 have rO:dG n 1 r.hd.length=true:=by simpa using h1
 have hn:1<=n/\n<=r.hd.length:=of_decide_eq_true rO
 obtain⟨q,rfl⟩:=Int.eq_ofNat_of_zero_le (show 0<=n by omega)
 by_cases h8:8<=r.bs.length
 .exact no 2 (by decide) (by unfold eB;rw[if_neg h0,Gg,hg,hh,if_neg h1,if_pos (by unfold Lr.rw;simpa using h8)]) (Av l ao cap k q w hs h4 hk r hr rO h8 SI)
 have hE:eB (l.map Lr.rw) k q=0:=by unfold eB;rw[if_neg h0,Gg,hg,hh,if_neg h1,if_neg (by unfold Lr.rw;simpa using h8)]
 refine(Gk l ao cap k q w hs h4 hk r hr Tf (by omega) (by omega) (by omega)).mono ?_
 rintro e w' ⟨rs,a',G,rfl,Jk,hS,hb⟩
 have hl:rs.length=4:=by
  have:=congrArg List.length Jk
  rw[List.length_map,List.length_set,List.length_map,h4] at this
  exact this
 refine⟨rs,a',G,by rw[hE,hl],?_,hS,hb⟩
 unfold gA
 rw[hE,if_pos rfl,Gg,hg,Jk]
 rfl
theorem TU (n:Nat)(w:World)(h0:0<n)(hn:n<=1000000000000):
  Calls Tryz.prog 169 #[.slice none 0 0,.int .i64 n] w fun e w'=>∃G,e=.returned (.slice (some ⟨w.heap.size,0,none⟩) 0 G)/\n<=G/\G<=maxLen/\w'.ownsRow w.heap.size 107 4 (.slice (some ⟨w.heap.size,0,none⟩) 0 G) 0 []/\Below w.heap.size w w':=by
 obtain⟨i0,hi,bK,bm,bQ⟩:=info_parts x7
 have NP:=fun ty=>Lib.run_append_nil_zeros (P:=Tryz.prog) w 51 3 ty 107 i0 (.agg #[.int .i64 0,.int .i64 0,.int .i64 0,.slice none 0 0]) .i64 .i64 Tryz.underlying51 Tryz.underlying3 hi bK n h0 (by omega) (by omega) (by rw[bQ];omega)
 have Fm:n<=grownCap w n 0 107:=grownCap_ge w _ _ _
 have rH:grownCap w n 0 107<=maxLen:=grownCap_le_maxLen w n 0 _ (by unfold maxLen;omega)
 generalize grownCap w n 0 107=G at*
 have Nu:=rH
 unfold maxLen at Nu
 go_enter Tryz.func169,Tryz.ntmps169
 go_wp2_with (at_builtin;refine Lib.wpList_append_run _ rfl _ _ _ _ rfl _ _ rfl rfl _ _ (NP _) ?_)
 go_ret
 refine⟨G,rfl,Fm,rH,?_,?_⟩
 .refine⟨rfl,.inr ⟨w.heap.size,G,_,rfl,Nat.le_refl _,heap_alloc_new _ _,Nat.zero_le _,rH,?_,by simp⟩⟩
  rw[Array.size_append,size_zeroCells,size_zeroCells]
  show n*4+(G-n)*4=G*4
  omega
 repeat(first|exact Below.refl _ _|apply Below.drew|refine Below.alloc ?_ (by simp) _)
theorem Row.src {w:World}{ao:Option Addr}{cs:List Value}(h:Row w ao cs):∀ad,ao=some ad->∀j u,cs[j]? =some u->w.cell? (ad.add j)=some u:=by
 intro ad yA j u hu
 obtain⟨b,off,e,_,hc⟩:=h.at (by intro e;rw[e] at hu;simp at hu)
 rw[e] at yA
 obtain rfl:=Option.some.inj yA
 rw[Addr.add_lit]
 exact hc j u hu
theorem Lc (B:Nat)(a1 a2 a3:Option Addr)(c1 c2 c3 n1 n2 n3:Nat)(C1 C2 C3:List Value)(w:World)(e0:w.cell? ⟨B,0,none⟩=some (.slice a1 n1 c1))(e1:w.cell? ⟨B,1,none⟩=some (.slice a2 n2 c2))(e2:w.cell? ⟨B,2,none⟩=some (.slice a3 n3 c3))
  (s1:Row w a1 C1) (s2:Row w a2 C2) (s3:Row w a3 C3) (h1:C1.length=n1*4) (h2:C2.length=n2*4) (h3:C3.length=n3*4) (y1:a1=none->n1=0/\c1=0) (y2:a2=none->n2=0/\c2=0) (y3:a3=none->n3=0/\c3=0)
  (o1:∀v∈C1,v.oneCell'=true) (o2:∀v∈C2,v.oneCell'=true) (o3:∀v∈C3,v.oneCell'=true) (h0:0<n1+n2+n3) (hm:n1+n2+n3<=1000000000000) (hB:B<w.heap.size):
  Calls Tryz.prog 134 #[.slice (some ⟨B,0,none⟩) 3 3] w fun e w'=>∃g G,e=.returned (.slice (some ⟨g,0,none⟩) (n1+n2+n3) G)/\w'.ownsRow w.heap.size 107 4 (.slice (some ⟨g,0,none⟩) (n1+n2+n3) G) (n1+n2+n3) (C1++(C2++C3))/\Below w.heap.size w w':=by
 obtain⟨i0,hi,bK,bm,bQ⟩:=info_parts x7
 replace h1:=aa h1
 replace h2:=aa h2
 replace h3:=aa h3
 go_enter Tryz.func134,Tryz.ntmps134
 go_wp2_with fail
 refine wp_loop_rounds 4 ?_
 rw[rounds_succ]
 go_wp2_with fail
 rw[rounds_succ]
 go_wp2_with fail
 rw[rounds_succ]
 go_wp2_with fail
 rw[rounds_succ]
 go_wp2_with fail
 have hg:=TU (n1+n2+n3) w h0 hm
 rw[Int.natCast_add,Int.natCast_add] at hg
 refine hg.mono ?_
 rintro e w1 ⟨G,rfl,Fm,rH,fh,bel⟩
 clear hg
 have f0:w1.cell? ⟨B,0,none⟩=some (.slice a1 n1 c1):=(bel.cell (p:=⟨B,0,none⟩) hB).trans e0
 have f1:w1.cell? ⟨B,1,none⟩=some (.slice a2 n2 c2):=(bel.cell (p:=⟨B,1,none⟩) hB).trans e1
 have f2:w1.cell? ⟨B,2,none⟩=some (.slice a3 n3 c3):=(bel.cell (p:=⟨B,2,none⟩) hB).trans e2
 have t1:=(s1.keep bel (Nat.le_refl _)).src
 have aE:=(fh.lt w.heap.size rfl).2
 clear e0 e1 e2
 have b1:0+n1<=G:=by omega
 go_wp2_with fail
 refine wp_loop_rounds 4 ?_
 rw[rounds_succ]
 go_wp2_with (at_builtin;refine wpList_append_fits_any _ rfl (.tmp 31) (.tmp 32) 51 rfl w.heap.size 107 i0 4 Tryz.underlying51 hi bm w.heap.size 0 G [] rfl fh a1 n1 c1 C1 rfl h1.out y1 t1 o1 b1 ?_)
 intro w2 ez cz
 have am:Below w.heap.size w w2:=bel.grown cz (by omega) (fun k h=>by cases h;exact Nat.le_refl _)
 have f3:w2.cell? ⟨B,1,none⟩=some (.slice a2 n2 c2):=cz.cell f1 (by intro e;have h:B=w.heap.size:=Option.some.inj e;omega)
 have f4:w2.cell? ⟨B,2,none⟩=some (.slice a3 n3 c3):=cz.cell f2 (by intro e;have h:B=w.heap.size:=Option.some.inj e;omega)
 have t2:=(s2.keep am (Nat.le_refl _)).src
 clear f0 f1 f2 t1 fh bel cz b1
 have b2:n1+n2<=G:=by omega
 go_wp2_with fail
 rw[rounds_succ]
 go_wp2_with (at_builtin;refine wpList_append_fits_any _ rfl (.tmp 31) (.tmp 32) 51 rfl w.heap.size 107 i0 4 Tryz.underlying51 hi bm w.heap.size n1 G C1 rfl ez a2 n2 c2 C2 rfl h2.out y2 t2 o2 b2 ?_)
 intro w3 eV eM
 have aC:Below w.heap.size w w3:=am.grown eM (am.size) (fun k h=>by cases h;exact Nat.le_refl _)
 have f5:w3.cell? ⟨B,2,none⟩=some (.slice a3 n3 c3):=eM.cell f4 (by intro e;have h:B=w.heap.size:=Option.some.inj e;omega)
 have t3:=(s3.keep aC (Nat.le_refl _)).src
 clear f3 f4 t2 ez am eM
 have b3:n1+n2+n3<=G:=by omega
 go_wp2_with fail
 rw[rounds_succ]
 go_wp2_with (at_builtin;refine wpList_append_fits_any _ rfl (.tmp 31) (.tmp 32) 51 rfl w.heap.size 107 i0 4 Tryz.underlying51 hi bm w.heap.size (n1+n2) G (C1++C2) rfl eV a3 n3 c3 C3 rfl h3.out y3 t3 o3 b3 ?_)
 intro w4 eF ji
 have ay:Below w.heap.size w w4:=aC.grown ji (aC.size) (fun k h=>by cases h;exact Nat.le_refl _)
 go_wp2_with fail
 rw[rounds_succ]
 go_wp2_with fail
 go_ret
 exact⟨w.heap.size,G,rfl,eF,ay⟩
theorem zU (a b:Bk)(ao bo:Option Addr)(ca cb:Nat)(w:World)(ha:Sl w ao ca (a.bits.map Value.bool))(la:a.bits.length<=140737488355328)(h:¬bP a=0):
  Calls Tryz.prog 133 #[ej a ao ca,ej b bo cb] w fun e w'=>e=.returned (.tuple #[.agg #[.int .i64 0,.int .i64 0,.int .i64 0,.slice none 0 0],.int .i64 (bP a)])/\Below w.heap.size w w':=by
 have c1:=fun W h=>gp a ao ca W h la
 generalize bP a=E at*
 generalize bi a=P at*
 obtain⟨an,af,aT,X⟩:=a
 obtain⟨bn,bf,bT,Y⟩:=b
 unfold ej at*
 simp only at*
 have h3:=three w [.int .i64 an,.int .i64 af,.int .i64 aT,.slice ao X.length ca] [.int .i64 bn,.int .i64 bf,.int .i64 bT,.slice bo Y.length cb] [.int .i64 0,.int .i64 0,.int .i64 0,.slice none 0 0] 107
 have sa:=fun o1 o2 o3=>((ha.alloc o1).alloc o2).alloc o3
 clear la ha
 go_enter Tryz.func133,Tryz.ntmps133
 go_wp2_with fail
 go_at_call 61
 refine(c1 _ (sa _ _ _)).mono ?_
 rintro e w1 ⟨a1,G1,rfl,s1,b1⟩
 obtain⟨_,BR,bel⟩:=h3
 have BR:=BR.keep b1 BR.lt
 have bel:=ac bel b1
 clear c1 b1 sa
 obtain⟨f0,f1,f2,f3⟩:=BR.f4
 have d0:w1.cell? ⟨w.heap.size+2,0,none⟩=some (.int .i64 0):=BR.cell 0
 have d1:w1.cell? ⟨w.heap.size+2,1,none⟩=some (.int .i64 0):=BR.cell 1
 have d2:w1.cell? ⟨w.heap.size+2,2,none⟩=some (.int .i64 0):=BR.cell 2
 have d3:w1.cell? ⟨w.heap.size+2,3,none⟩=some (.slice none 0 0):=BR.cell 3
 have jF:=BR.lt
 go_wp2_with fail
 have B4:=BR.put4 (.int .i64 0) (.int .i64 0) (.int .i64 0) (.slice none 0 0)
 have ay:=ic bel (g:=w.heap.size+2) (by omega) (.int .i64 0) (.int .i64 0) (.int .i64 0) (.slice none 0 0)
 generalize World.setCell _ _ _=w5 at*
 have i0:w5.cell? ⟨w.heap.size+2,0,none⟩=some (.int .i64 0):=B4.cell 0
 have i1:w5.cell? ⟨w.heap.size+2,1,none⟩=some (.int .i64 0):=B4.cell 1
 have i2:w5.cell? ⟨w.heap.size+2,2,none⟩=some (.int .i64 0):=B4.cell 2
 have i3:w5.cell? ⟨w.heap.size+2,3,none⟩=some (.slice none 0 0):=B4.cell 3
 exact bodyPost_ret (v:=.tuple #[.agg #[.int .i64 0,.int .i64 0,.int .i64 0,.slice none 0 0],.int .i64 E]) (by simp[results,Tryz.results133,go_sem,i0,i1,i2,i3]) rfl ⟨rfl,ay⟩
theorem As (a b:Bk)(ao bo:Option Addr)(ca cb:Nat)(w:World)(ha:Sl w ao ca (a.bits.map Value.bool))(hb:Sl w bo cb (b.bits.map Value.bool))(la:a.bits.length<=140737488355328)(lb:b.bits.length<=140737488355328)(h0:bP a=0)(h:¬bP b=0):
  Calls Tryz.prog 133 #[ej a ao ca,ej b bo cb] w fun e w'=>e=.returned (.tuple #[.agg #[.int .i64 0,.int .i64 0,.int .i64 0,.slice none 0 0],.int .i64 (bP b)])/\Below w.heap.size w w':=by
 have c1:=fun W h=>gp a ao ca W h la
 have c2:=fun W h=>gp b bo cb W h lb
 rw[h0] at c1
 generalize bP b=E at*
 generalize bi a=P at*
 generalize bi b=Q at*
 clear h0
 obtain⟨an,af,aT,X⟩:=a
 obtain⟨bn,bf,bT,Y⟩:=b
 unfold ej at*
 simp only at*
 have h3:=three w [.int .i64 an,.int .i64 af,.int .i64 aT,.slice ao X.length ca] [.int .i64 bn,.int .i64 bf,.int .i64 bT,.slice bo Y.length cb] [.int .i64 0,.int .i64 0,.int .i64 0,.slice none 0 0] 107
 have sa:=fun o1 o2 o3=>((ha.alloc o1).alloc o2).alloc o3
 clear la lb ha
 go_enter Tryz.func133,Tryz.ntmps133
 go_wp2_with fail
 go_at_call 61
 refine(c1 _ (sa _ _ _)).mono ?_
 rintro e w1 ⟨a1,G1,rfl,s1,b1⟩
 obtain⟨BB,BR,bel⟩:=h3
 have BB:=BB.keep b1 BB.lt
 have BR:=BR.keep b1 BR.lt
 have bel:=ac bel b1
 have hb:=hb.keep bel (Nat.le_refl _)
 clear c1 b1 sa
 have m0:w1.cell? ⟨w.heap.size+1,0,none⟩=some (.int .i64 bn):=BB.cell 0
 have m1:w1.cell? ⟨w.heap.size+1,1,none⟩=some (.int .i64 bf):=BB.cell 1
 have m2:w1.cell? ⟨w.heap.size+1,2,none⟩=some (.int .i64 bT):=BB.cell 2
 have m3:w1.cell? ⟨w.heap.size+1,3,none⟩=some (.slice bo Y.length cb):=BB.cell 3
 go_wp2_with fail
 go_at_call 61
 refine(c2 _ hb).mono ?_
 rintro e w2 ⟨a2,G2,rfl,s2,b2⟩
 have BR:=BR.keep b2 BR.lt
 have bel:=ac bel b2
 clear c2 b2 m0 m1 m2 m3 BB hb s1 s2
 obtain⟨f0,f1,f2,f3⟩:=BR.f4
 have d0:w2.cell? ⟨w.heap.size+2,0,none⟩=some (.int .i64 0):=BR.cell 0
 have d1:w2.cell? ⟨w.heap.size+2,1,none⟩=some (.int .i64 0):=BR.cell 1
 have d2:w2.cell? ⟨w.heap.size+2,2,none⟩=some (.int .i64 0):=BR.cell 2
 have d3:w2.cell? ⟨w.heap.size+2,3,none⟩=some (.slice none 0 0):=BR.cell 3
 have jF:=BR.lt
 go_wp2_with fail
 have B4:=BR.put4 (.int .i64 0) (.int .i64 0) (.int .i64 0) (.slice none 0 0)
 have ay:=ic bel (g:=w.heap.size+2) (by omega) (.int .i64 0) (.int .i64 0) (.int .i64 0) (.slice none 0 0)
 generalize World.setCell _ _ _=w5 at*
 have i0:w5.cell? ⟨w.heap.size+2,0,none⟩=some (.int .i64 0):=B4.cell 0
 have i1:w5.cell? ⟨w.heap.size+2,1,none⟩=some (.int .i64 0):=B4.cell 1
 have i2:w5.cell? ⟨w.heap.size+2,2,none⟩=some (.int .i64 0):=B4.cell 2
 have i3:w5.cell? ⟨w.heap.size+2,3,none⟩=some (.slice none 0 0):=B4.cell 3
 exact bodyPost_ret (v:=.tuple #[.agg #[.int .i64 0,.int .i64 0,.int .i64 0,.slice none 0 0],.int .i64 E]) (by simp[results,Tryz.results133,go_sem,i0,i1,i2,i3]) rfl ⟨rfl,ay⟩
theorem Ch (a b:Bk)(ao bo:Option Addr)(ca cb:Nat)(w:World)(ha:Sl w ao ca (a.bits.map Value.bool))(hb:Sl w bo cb (b.bits.map Value.bool))(la:a.bits.length<=140737488355328)(lb:b.bits.length<=140737488355328)(h0:bP a=0)(h1:bP b=0):
  Calls Tryz.prog 133 #[ej a ao ca,ej b bo cb] w fun e w'=>
   ∃a' G,e=.returned (.tuple #[ej (dC (bi a++bi b)) a' G,.int .i64 (fk (bi a++bi b))])/\Sl w' a' G ((dC (bi a++bi b)).bits.map Value.bool)/\Below w.heap.size w w':=by
 have c1:=fun W h=>gp a ao ca W h la
 have c2:=fun W h=>gp b bo cb W h lb
 rw[h0] at c1
 rw[h1] at c2
 have p1:=jb h0
 have p2:=jb h1
 have q1:=i' a
 have q2:=i' b
 generalize bi a=P at*
 generalize bi b=Q at*
 have c3:=fun a cap W h=>uE a cap (P++Q) W h
 have c4:=fun b off cap W h=>M5 b off cap P W h p1 (by omega)
 clear h0 h1
 generalize fk (P++Q)=E at*
 generalize dC (P++Q)=M at*
 obtain⟨an,af,aT,X⟩:=a
 obtain⟨bn,bf,bT,Y⟩:=b
 obtain⟨mn,mf,mT,Z⟩:=M
 unfold ej at*
 simp only at*
 have hP:P≠[]:=by intro e;rw[e] at p1;simp at p1
 have hQ:Q≠[]:=by intro e;rw[e] at p2;simp at p2
 obtain⟨n,hn⟩:∃n,n=P.length:=⟨_,rfl⟩
 obtain⟨m,hm⟩:∃m,m=Q.length:=⟨_,rfl⟩
 have je:(P++Q).length=n+m:=by rw[List.length_append,hn,hm]
 rw[je] at c3
 rw[<-hn] at c1 p1 q1 c4
 rw[<-hm] at c2 p2 q2
 replace hn:=aa hn
 replace hm:=aa hm
 replace je:=aa je
 obtain⟨i0,hi,bK,bm,bQ⟩:=info_parts kL
 have h3:=three w [.int .i64 an,.int .i64 af,.int .i64 aT,.slice ao X.length ca] [.int .i64 bn,.int .i64 bf,.int .i64 bT,.slice bo Y.length cb] [.int .i64 0,.int .i64 0,.int .i64 0,.slice none 0 0] 107
 have sa:=fun o1 o2 o3=>((ha.alloc o1).alloc o2).alloc o3
 clear la lb ha
 go_enter Tryz.func133,Tryz.ntmps133
 go_wp2_with fail
 go_at_call 61
 refine(c1 _ (sa _ _ _)).mono ?_
 rintro e w1 ⟨a1,G1,rfl,s1,b1⟩
 obtain⟨BB,BR,bel⟩:=h3
 have BB:=BB.keep b1 BB.lt
 have BR:=BR.keep b1 BR.lt
 have bel:=ac bel b1
 have hb:=hb.keep bel (Nat.le_refl _)
 clear c1 b1 sa
 have m0:w1.cell? ⟨w.heap.size+1,0,none⟩=some (.int .i64 bn):=BB.cell 0
 have m1:w1.cell? ⟨w.heap.size+1,1,none⟩=some (.int .i64 bf):=BB.cell 1
 have m2:w1.cell? ⟨w.heap.size+1,2,none⟩=some (.int .i64 bT):=BB.cell 2
 have m3:w1.cell? ⟨w.heap.size+1,3,none⟩=some (.slice bo Y.length cb):=BB.cell 3
 go_wp2_with fail
 go_at_call 61
 refine(c2 _ hb).mono ?_
 rintro e w2 ⟨a2,G2,rfl,s2,b2⟩
 have BR:=BR.keep b2 BR.lt
 have bel:=ac bel b2
 have s1:=s1.call b2
 clear c2 b2 m0 m1 m2 m3 BB hb
 obtain⟨xb,xo,rfl,VO⟩:=s1.where hP
 obtain⟨yb,yo,rfl,Qv⟩:=s2.where hQ
 have yl:(ar Q).length=m*2:=by rw[aI,<-hm.out]
 replace yl:=aa yl
 have XT:=fU Q
 go_wp2_with fail
 go_at_call 130
 refine(c4 _ _ _ _ s1).mono ?_
 rintro e w3 ⟨v3,rfl,eF,aC⟩
 have s3:=s2.call aC
 have dW:=aC.size
 have xA:=BR.lt
 obtain⟨a3,zO,rfl⟩:∃a3 zO,v3=.slice a3 n zO:=by
  rcases eF.2 with⟨rfl,rfl⟩| ⟨g,cp,cur,rfl,_⟩
  .exact⟨_,_,rfl⟩
  exact⟨_,_,rfl⟩
 have tL:∀j u,(ar Q)[j]? =some u->w3.cell? ((⟨yb,yo,none⟩:Addr).add j)=some u:=by
  intro j u hu
  obtain⟨b',lB,e,_,hc⟩:=s3.row.at (by intro e;rw[e] at hu;simp at hu)
  simp only[Option.some.injEq,Addr.mk.injEq,and_true] at e
  obtain⟨rfl,rfl⟩:=e
  rw[Addr.add_lit]
  exact hc j u hu
 clear c4 s3
 go_wp2_with (at_builtin;refine ed _ rfl (.tmp 28) (.tmp 29) 42 rfl w2.heap.size 56 i0 (.agg #[.int .i64 0,.int .i64 0]) 2 16 Tryz.underlying42 hi bK bm bQ rfl (by decide) _ n _ rfl eF ⟨yb,yo,none⟩ m _ (ar Q) rfl yl.out tL XT p2 (by unfold maxLen;omega) (by omega) dW ?_)
 intro v5 w5 dM gI _
 have br:=aG aC eF gI (Nat.le_refl _) dW
 rw[<-dF] at dM
 obtain⟨a5,c5,rfl,s5,_,_⟩:=aV.ofOwn dM
 have Cn:=BR.keep br xA
 have fO:=bel.trans (br.mono (by omega))
 clear dM gI eF aC br bel BR s1 s2 hn hm
 go_wp2_with fail
 go_at_call 131
 refine(c3 _ _ _ s5).mono ?_
 rintro e w6 ⟨a6,G6,rfl,t6,b6⟩
 have jZ:=Cn.keep b6 Cn.lt
 have dD:=ac fO b6
 clear c3 b6 Cn fO s5
 obtain⟨f0,f1,f2,f3⟩:=jZ.f4
 have d0:w6.cell? ⟨w.heap.size+2,0,none⟩=some (.int .i64 0):=jZ.cell 0
 have d1:w6.cell? ⟨w.heap.size+2,1,none⟩=some (.int .i64 0):=jZ.cell 1
 have d2:w6.cell? ⟨w.heap.size+2,2,none⟩=some (.int .i64 0):=jZ.cell 2
 have d3:w6.cell? ⟨w.heap.size+2,3,none⟩=some (.slice none 0 0):=jZ.cell 3
 have Xy:=jZ.lt
 go_wp2_with fail
 have B4:=jZ.put4 (.int .i64 mn) (.int .i64 mf) (.int .i64 mT) (.slice a6 Z.length G6)
 have ay:=ic dD (g:=w.heap.size+2) (by omega) (.int .i64 mn) (.int .i64 mf) (.int .i64 mT) (.slice a6 Z.length G6)
 have t4:=t6.put4 jZ (.int .i64 mn) (.int .i64 mf) (.int .i64 mT) (.slice a6 Z.length G6)
 generalize World.setCell _ _ _=w7 at*
 have i0:w7.cell? ⟨w.heap.size+2,0,none⟩=some (.int .i64 mn):=B4.cell 0
 have i1:w7.cell? ⟨w.heap.size+2,1,none⟩=some (.int .i64 mf):=B4.cell 1
 have i2:w7.cell? ⟨w.heap.size+2,2,none⟩=some (.int .i64 mT):=B4.cell 2
 have i3:w7.cell? ⟨w.heap.size+2,3,none⟩=some (.slice a6 Z.length G6):=B4.cell 3
 exact bodyPost_ret (v:=.tuple #[.agg #[.int .i64 mn,.int .i64 mf,.int .i64 mT,.slice a6 Z.length G6],.int .i64 E]) (by simp[results,Tryz.results133,go_sem,i0,i1,i2,i3]) rfl ⟨a6,G6,rfl,t4,ay⟩
theorem Ap (a b:Bk)(ao bo:Option Addr)(ca cb:Nat)(w:World)(ha:Sl w ao ca (a.bits.map Value.bool))(hb:Sl w bo cb (b.bits.map Value.bool))(la:a.bits.length<=140737488355328)(lb:b.bits.length<=140737488355328):
  Calls Tryz.prog 133 #[ej a ao ca,ej b bo cb] w fun e w'=>
   ∃a' G,e=.returned (.tuple #[ej (eO a b) a' G,.int .i64 (eA a b)])/\Sl w' a' G ((eO a b).bits.map Value.bool)/\Below w.heap.size w w':=by
 by_cases h0:bP a=0
 .by_cases h1:bP b=0
  .have hB:eO a b=dC (bi a++bi b):=if_pos ⟨h0,h1⟩
   have hE:eA a b=fk (bi a++bi b):=by unfold eA;rw[if_pos h0,if_pos h1]
   rw[hB,hE]
   exact Ch a b ao bo ca cb w ha hb la lb h0 h1
  have hB:eO a b=wR:=if_neg (fun h=>h1 h.2)
  have hE:eA a b=bP b:=by unfold eA;rw[if_pos h0,if_neg h1]
  rw[hB,hE]
  refine(As a b ao bo ca cb w ha hb la lb h0 h1).mono ?_
  rintro e w' ⟨rfl,hb⟩
  exact⟨none,0,rfl,Sl.ofNil _,hb⟩
 have hB:eO a b=wR:=if_neg (fun h=>h0 h.1)
 have hE:eA a b=bP a:=by unfold eA;rw[if_neg h0]
 rw[hB,hE]
 refine(zU a b ao bo ca cb w ha la h0).mono ?_
 rintro e w' ⟨rfl,hb⟩
 exact⟨none,0,rfl,Sl.ofNil _,hb⟩
end Go.Proofs.YtoonnbhoiocoeaaGreatDoor
