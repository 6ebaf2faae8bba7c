/-
  rainbookref.Sealed, of a shelf that is right: all cases in one.
-/
import Derived.Test.YtoonnbhoiocoeaaGreatDoorQ33
set_option maxHeartbeats 40000000
set_option maxRecDepth 100000
set_option linter.unusedVariables false
namespace Go.Proofs.YtoonnbhoiocoeaaGreatDoor
open Go.RowKit
theorem OV {l:List Lr}{k:Nat}{r:Lr}(hr:l[k]? =some r):(l.map Lr.rw).getD k fj=r.rw:=by
 rw[List.getD,List.getElem?_map,hr]
 rfl
theorem Cx (l:List Lr)(ao:Option Addr)(cap:Nat)(s n:Int)(w:World)(hs:bL w ao cap l)(hR:eY (l.map Lr.rw)):
  Calls Tryz.prog 100 #[.agg #[.slice ao l.length cap],.int .i64 s,.int .i64 n] w fun e w'=>
   ∃rs a' G,e=.returned (.tuple #[.agg #[.slice a' rs.length G],.int .i64 (eB (l.map Lr.rw) s n)])/\rs.map Lr.rw=gA (l.map Lr.rw) s n/\bL w' a' G rs/\Below w.heap.size w w':=by
 have h4:l.length=4:=by have:=hR.four;rwa[List.length_map] at this
 have no:∀E:Int,E≠0->eB (l.map Lr.rw) s n=E->(Calls Tryz.prog 100 #[.agg #[.slice ao l.length cap],.int .i64 s,.int .i64 n] w fun e w'=>e=.returned (.tuple #[.agg #[.slice none 0 0],.int .i64 E])/\Below w.heap.size w w')->
   Calls Tryz.prog 100 #[.agg #[.slice ao l.length cap],.int .i64 s,.int .i64 n] w fun e w'=>
   ∃rs a' G,e=.returned (.tuple #[.agg #[.slice a' rs.length G],.int .i64 (eB (l.map Lr.rw) s n)])/\rs.map Lr.rw=gA (l.map Lr.rw) s n/\bL w' a' G rs/\Below w.heap.size w w':=by
  intro E hE hS h
  refine h.mono ?_
  rintro e w' ⟨rfl,hb⟩
  refine⟨[],none,0,by rw[hS];rfl,?_,bL.ofNil _,hb⟩
  unfold gA
  rw[hS,if_neg hE]
  rfl
 by_cases h0:dG s 0 3=false
 .exact no 5 (by decide) (by unfold eB;rw[if_pos h0]) (CL _ _ _ _ _ _ h0)
 have OH:0<=s/\s<=3:=by
  have:dG s 0 3=true:=by simpa using h0
  exact of_decide_eq_true this
 obtain⟨k,rfl⟩:=Int.eq_ofNat_of_zero_le OH.1
 have hk:k<4:=by omega
 obtain⟨r,hr⟩:∃r,l[k]? =some r:=⟨_,List.getElem?_eq_getElem (by rw[h4];exact hk)⟩
 have hg:=OV hr
 have hf:=hR.few r.rw (List.mem_map.2 ⟨r,List.mem_of_getElem? hr,rfl⟩)
 have SI:r.bs.length<=8:=by have:=hf.1;unfold Lr.rw at this;simpa using this
 have Tf:r.hd.length<=40:=hf.2
 have hh:r.rw.head=r.hd:=rfl
 have Gg:((k:Int)).toNat=k:=Int.toNat_natCast k
 rw[h4] at no⊢
 by_cases h1:dG n 1 r.hd.length=false
 .exact no 3 (by decide) (by unfold eB;rw[if_neg h0,Gg,hg,hh,if_pos h1]) (zj l ao cap k n w hs h4 hk r hr h1)
 have rO:dG n 1 r.hd.length=true:=by simpa using h1
 have hn:1<=n/\n<=r.hd.length:=of_decide_eq_true rO
 obtain⟨q,rfl⟩:=Int.eq_ofNat_of_zero_le (show 0<=n by omega)
 by_cases h8:8<=r.bs.length
 .exact no 2 (by decide) (by unfold eB;rw[if_neg h0,Gg,hg,hh,if_neg h1,if_pos (by unfold Lr.rw;simpa using h8)]) (Av l ao cap k q w hs h4 hk r hr rO h8 SI)
 have hE:eB (l.map Lr.rw) k q=0:=by unfold eB;rw[if_neg h0,Gg,hg,hh,if_neg h1,if_neg (by unfold Lr.rw;simpa using h8)]
 refine(Gk l ao cap k q w hs h4 hk r hr Tf (by omega) (by omega) (by omega)).mono ?_
 rintro e w' ⟨rs,a',G,rfl,Jk,hS,hb⟩
 have hl:rs.length=4:=by
  have:=congrArg List.length Jk
  rw[List.length_map,List.length_set,List.length_map,h4] at this
  exact this
 refine⟨rs,a',G,by rw[hE,hl],?_,hS,hb⟩
 unfold gA
 rw[hE,if_pos rfl,Gg,hg,Jk]
 rfl
theorem TU (n:Nat)(w:World)(h0:0<n)(hn:n<=1000000000000):
  Calls Tryz.prog 169 #[.slice none 0 0,.int .i64 n] w fun e w'=>∃G,e=.returned (.slice (some ⟨w.heap.size,0,none⟩) 0 G)/\n<=G/\G<=maxLen/\w'.ownsRow w.heap.size 107 4 (.slice (some ⟨w.heap.size,0,none⟩) 0 G) 0 []/\Below w.heap.size w w':=by
 obtain⟨i0,hi,bK,bm,bQ⟩:=info_parts x7
 have NP:=fun ty=>Lib.run_append_nil_zeros (P:=Tryz.prog) w 51 3 ty 107 i0 (.agg #[.int .i64 0,.int .i64 0,.int .i64 0,.slice none 0 0]) .i64 .i64 Tryz.underlying51 Tryz.underlying3 hi bK n h0 (by omega) (by omega) (by rw[bQ];omega)
 have Fm:n<=grownCap w n 0 107:=grownCap_ge w _ _ _
 have rH:grownCap w n 0 107<=maxLen:=grownCap_le_maxLen w n 0 _ (by unfold maxLen;omega)
 generalize grownCap w n 0 107=G at*
 have Nu:=rH
 unfold maxLen at Nu
 go_enter Tryz.func169,Tryz.ntmps169
 go_wp2_with (at_builtin;refine Lib.wpList_append_run _ rfl _ _ _ _ rfl _ _ rfl rfl _ _ (NP _) ?_)
 go_ret
 refine⟨G,rfl,Fm,rH,?_,?_⟩
 .refine⟨rfl,.inr ⟨w.heap.size,G,_,rfl,Nat.le_refl _,heap_alloc_new _ _,Nat.zero_le _,rH,?_,by simp⟩⟩
  rw[Array.size_append,size_zeroCells,size_zeroCells]
  show n*4+(G-n)*4=G*4
  omega
 repeat(first|exact Below.refl _ _|apply Below.drew|refine Below.alloc ?_ (by simp) _)
theorem Row.src {w:World}{ao:Option Addr}{cs:List Value}(h:Row w ao cs):∀ad,ao=some ad->∀j u,cs[j]? =some u->w.cell? (ad.add j)=some u:=by
 intro ad yA j u hu
 obtain⟨b,off,e,_,hc⟩:=h.at (by intro e;rw[e] at hu;simp at hu)
 rw[e] at yA
 obtain rfl:=Option.some.inj yA
 rw[Addr.add_lit]
 exact hc j u hu
theorem Lc (B:Nat)(a1 a2 a3:Option Addr)(c1 c2 c3 n1 n2 n3:Nat)(C1 C2 C3:List Value)(w:World)(e0:w.cell? ⟨B,0,none⟩=some (.slice a1 n1 c1))(e1:w.cell? ⟨B,1,none⟩=some (.slice a2 n2 c2))(e2:w.cell? ⟨B,2,none⟩=some (.slice a3 n3 c3))
  (s1:Row w a1 C1) (s2:Row w a2 C2) (s3:Row w a3 C3) (h1:C1.length=n1*4) (h2:C2.length=n2*4) (h3:C3.length=n3*4) (y1:a1=none->n1=0/\c1=0) (y2:a2=none->n2=0/\c2=0) (y3:a3=none->n3=0/\c3=0)
  (o1:∀v∈C1,v.oneCell'=true) (o2:∀v∈C2,v.oneCell'=true) (o3:∀v∈C3,v.oneCell'=true) (h0:0<n1+n2+n3) (hm:n1+n2+n3<=1000000000000) (hB:B<w.heap.size):
  Calls Tryz.prog 134 #[.slice (some ⟨B,0,none⟩) 3 3] w fun e w'=>∃g G,e=.returned (.slice (some ⟨g,0,none⟩) (n1+n2+n3) G)/\w'.ownsRow w.heap.size 107 4 (.slice (some ⟨g,0,none⟩) (n1+n2+n3) G) (n1+n2+n3) (C1++(C2++C3))/\Below w.heap.size w w':=by
 obtain⟨i0,hi,bK,bm,bQ⟩:=info_parts x7
 replace h1:=aa h1
 replace h2:=aa h2
 replace h3:=aa h3
 go_enter Tryz.func134,Tryz.ntmps134
 go_wp2_with fail
 refine wp_loop_rounds 4 ?_
 rw[rounds_succ]
 go_wp2_with fail
 rw[rounds_succ]
 go_wp2_with fail
 rw[rounds_succ]
 go_wp2_with fail
 rw[rounds_succ]
 go_wp2_with fail
 have hg:=TU (n1+n2+n3) w h0 hm
 rw[Int.natCast_add,Int.natCast_add] at hg
 refine hg.mono ?_
 rintro e w1 ⟨G,rfl,Fm,rH,fh,bel⟩
 clear hg
 have f0:w1.cell? ⟨B,0,none⟩=some (.slice a1 n1 c1):=(bel.cell (p:=⟨B,0,none⟩) hB).trans e0
 have f1:w1.cell? ⟨B,1,none⟩=some (.slice a2 n2 c2):=(bel.cell (p:=⟨B,1,none⟩) hB).trans e1
 have f2:w1.cell? ⟨B,2,none⟩=some (.slice a3 n3 c3):=(bel.cell (p:=⟨B,2,none⟩) hB).trans e2
 have t1:=(s1.keep bel (Nat.le_refl _)).src
 have aE:=(fh.lt w.heap.size rfl).2
 clear e0 e1 e2
 have b1:0+n1<=G:=by omega
 go_wp2_with fail
 refine wp_loop_rounds 4 ?_
 rw[rounds_succ]
 go_wp2_with (at_builtin;refine wpList_append_fits_any _ rfl (.tmp 31) (.tmp 32) 51 rfl w.heap.size 107 i0 4 Tryz.underlying51 hi bm w.heap.size 0 G [] rfl fh a1 n1 c1 C1 rfl h1.out y1 t1 o1 b1 ?_)
 intro w2 ez cz
 have am:Below w.heap.size w w2:=bel.grown cz (by omega) (fun k h=>by cases h;exact Nat.le_refl _)
 have f3:w2.cell? ⟨B,1,none⟩=some (.slice a2 n2 c2):=cz.cell f1 (by intro e;have h:B=w.heap.size:=Option.some.inj e;omega)
 have f4:w2.cell? ⟨B,2,none⟩=some (.slice a3 n3 c3):=cz.cell f2 (by intro e;have h:B=w.heap.size:=Option.some.inj e;omega)
 have t2:=(s2.keep am (Nat.le_refl _)).src
 clear f0 f1 f2 t1 fh bel cz b1
 have b2:n1+n2<=G:=by omega
 go_wp2_with fail
 rw[rounds_succ]
 go_wp2_with (at_builtin;refine wpList_append_fits_any _ rfl (.tmp 31) (.tmp 32) 51 rfl w.heap.size 107 i0 4 Tryz.underlying51 hi bm w.heap.size n1 G C1 rfl ez a2 n2 c2 C2 rfl h2.out y2 t2 o2 b2 ?_)
 intro w3 eV eM
 have aC:Below w.heap.size w w3:=am.grown eM (am.size) (fun k h=>by cases h;exact Nat.le_refl _)
 have f5:w3.cell? ⟨B,2,none⟩=some (.slice a3 n3 c3):=eM.cell f4 (by intro e;have h:B=w.heap.size:=Option.some.inj e;omega)
 have t3:=(s3.keep aC (Nat.le_refl _)).src
 clear f3 f4 t2 ez am eM
 have b3:n1+n2+n3<=G:=by omega
 go_wp2_with fail
 rw[rounds_succ]
 go_wp2_with (at_builtin;refine wpList_append_fits_any _ rfl (.tmp 31) (.tmp 32) 51 rfl w.heap.size 107 i0 4 Tryz.underlying51 hi bm w.heap.size (n1+n2) G (C1++C2) rfl eV a3 n3 c3 C3 rfl h3.out y3 t3 o3 b3 ?_)
 intro w4 eF ji
 have ay:Below w.heap.size w w4:=aC.grown ji (aC.size) (fun k h=>by cases h;exact Nat.le_refl _)
 go_wp2_with fail
 rw[rounds_succ]
 go_wp2_with fail
 go_ret
 exact⟨w.heap.size,G,rfl,eF,ay⟩
theorem zU (a b:Bk)(ao bo:Option Addr)(ca cb:Nat)(w:World)(ha:Sl w ao ca (a.bits.map Value.bool))(la:a.bits.length<=140737488355328)(h:¬bP a=0):
  Calls Tryz.prog 133 #[ej a ao ca,ej b bo cb] w fun e w'=>e=.returned (.tuple #[.agg #[.int .i64 0,.int .i64 0,.int .i64 0,.slice none 0 0],.int .i64 (bP a)])/\Below w.heap.size w w':=by
 have c1:=fun W h=>gp a ao ca W h la
 generalize bP a=E at*
 generalize bi a=P at*
 obtain⟨an,af,aT,X⟩:=a
 obtain⟨bn,bf,bT,Y⟩:=b
 unfold ej at*
 simp only at*
 have h3:=three w [.int .i64 an,.int .i64 af,.int .i64 aT,.slice ao X.length ca] [.int .i64 bn,.int .i64 bf,.int .i64 bT,.slice bo Y.length cb] [.int .i64 0,.int .i64 0,.int .i64 0,.slice none 0 0] 107
 have sa:=fun o1 o2 o3=>((ha.alloc o1).alloc o2).alloc o3
 clear la ha
 go_enter Tryz.func133,Tryz.ntmps133
 go_wp2_with fail
 go_at_call 61
 refine(c1 _ (sa _ _ _)).mono ?_
 rintro e w1 ⟨a1,G1,rfl,s1,b1⟩
 obtain⟨_,BR,bel⟩:=h3
 have BR:=BR.keep b1 BR.lt
 have bel:=ac bel b1
 clear c1 b1 sa
 obtain⟨f0,f1,f2,f3⟩:=BR.f4
 have d0:w1.cell? ⟨w.heap.size+2,0,none⟩=some (.int .i64 0):=BR.cell 0
 have d1:w1.cell? ⟨w.heap.size+2,1,none⟩=some (.int .i64 0):=BR.cell 1
 have d2:w1.cell? ⟨w.heap.size+2,2,none⟩=some (.int .i64 0):=BR.cell 2
 have d3:w1.cell? ⟨w.heap.size+2,3,none⟩=some (.slice none 0 0):=BR.cell 3
 have jF:=BR.lt
 go_wp2_with fail
 have B4:=BR.put4 (.int .i64 0) (.int .i64 0) (.int .i64 0) (.slice none 0 0)
 have ay:=ic bel (g:=w.heap.size+2) (by omega) (.int .i64 0) (.int .i64 0) (.int .i64 0) (.slice none 0 0)
 generalize World.setCell _ _ _=w5 at*
 have i0:w5.cell? ⟨w.heap.size+2,0,none⟩=some (.int .i64 0):=B4.cell 0
 have i1:w5.cell? ⟨w.heap.size+2,1,none⟩=some (.int .i64 0):=B4.cell 1
 have i2:w5.cell? ⟨w.heap.size+2,2,none⟩=some (.int .i64 0):=B4.cell 2
 have i3:w5.cell? ⟨w.heap.size+2,3,none⟩=some (.slice none 0 0):=B4.cell 3
 exact bodyPost_ret (v:=.tuple #[.agg #[.int .i64 0,.int .i64 0,.int .i64 0,.slice none 0 0],.int .i64 E]) (by simp[results,Tryz.results133,go_sem,i0,i1,i2,i3]) rfl ⟨rfl,ay⟩
theorem As (a b:Bk)(ao bo:Option Addr)(ca cb:Nat)(w:World)(ha:Sl w ao ca (a.bits.map Value.bool))(hb:Sl w bo cb (b.bits.map Value.bool))(la:a.bits.length<=140737488355328)(lb:b.bits.length<=140737488355328)(h0:bP a=0)(h:¬bP b=0):
  Calls Tryz.prog 133 #[ej a ao ca,ej b bo cb] w fun e w'=>e=.returned (.tuple #[.agg #[.int .i64 0,.int .i64 0,.int .i64 0,.slice none 0 0],.int .i64 (bP b)])/\Below w.heap.size w w':=by
 have c1:=fun W h=>gp a ao ca W h la
 have c2:=fun W h=>gp b bo cb W h lb
 rw[h0] at c1
 generalize bP b=E at*
 generalize bi a=P at*
 generalize bi b=Q at*
 clear h0
 obtain⟨an,af,aT,X⟩:=a
 obtain⟨bn,bf,bT,Y⟩:=b
 unfold ej at*
 simp only at*
 have h3:=three w [.int .i64 an,.int .i64 af,.int .i64 aT,.slice ao X.length ca] [.int .i64 bn,.int .i64 bf,.int .i64 bT,.slice bo Y.length cb] [.int .i64 0,.int .i64 0,.int .i64 0,.slice none 0 0] 107
 have sa:=fun o1 o2 o3=>((ha.alloc o1).alloc o2).alloc o3
 clear la lb ha
 go_enter Tryz.func133,Tryz.ntmps133
 go_wp2_with fail
 go_at_call 61
 refine(c1 _ (sa _ _ _)).mono ?_
 rintro e w1 ⟨a1,G1,rfl,s1,b1⟩
 obtain⟨BB,BR,bel⟩:=h3
 have BB:=BB.keep b1 BB.lt
 have BR:=BR.keep b1 BR.lt
 have bel:=ac bel b1
 have hb:=hb.keep bel (Nat.le_refl _)
 clear c1 b1 sa
 have m0:w1.cell? ⟨w.heap.size+1,0,none⟩=some (.int .i64 bn):=BB.cell 0
 have m1:w1.cell? ⟨w.heap.size+1,1,none⟩=some (.int .i64 bf):=BB.cell 1
 have m2:w1.cell? ⟨w.heap.size+1,2,none⟩=some (.int .i64 bT):=BB.cell 2
 have m3:w1.cell? ⟨w.heap.size+1,3,none⟩=some (.slice bo Y.length cb):=BB.cell 3
 go_wp2_with fail
 go_at_call 61
 refine(c2 _ hb).mono ?_
 rintro e w2 ⟨a2,G2,rfl,s2,b2⟩
 have BR:=BR.keep b2 BR.lt
 have bel:=ac bel b2
 clear c2 b2 m0 m1 m2 m3 BB hb s1 s2
 obtain⟨f0,f1,f2,f3⟩:=BR.f4
 have d0:w2.cell? ⟨w.heap.size+2,0,none⟩=some (.int .i64 0):=BR.cell 0
 have d1:w2.cell? ⟨w.heap.size+2,1,none⟩=some (.int .i64 0):=BR.cell 1
 have d2:w2.cell? ⟨w.heap.size+2,2,none⟩=some (.int .i64 0):=BR.cell 2
 have d3:w2.cell? ⟨w.heap.size+2,3,none⟩=some (.slice none 0 0):=BR.cell 3
 have jF:=BR.lt
 go_wp2_with fail
 have B4:=BR.put4 (.int .i64 0) (.int .i64 0) (.int .i64 0) (.slice none 0 0)
 have ay:=ic bel (g:=w.heap.size+2) (by omega) (.int .i64 0) (.int .i64 0) (.int .i64 0) (.slice none 0 0)
 generalize World.setCell _ _ _=w5 at*
 have i0:w5.cell? ⟨w.heap.size+2,0,none⟩=some (.int .i64 0):=B4.cell 0
 have i1:w5.cell? ⟨w.heap.size+2,1,none⟩=some (.int .i64 0):=B4.cell 1
 have i2:w5.cell? ⟨w.heap.size+2,2,none⟩=some (.int .i64 0):=B4.cell 2
 have i3:w5.cell? ⟨w.heap.size+2,3,none⟩=some (.slice none 0 0):=B4.cell 3
 exact bodyPost_ret (v:=.tuple #[.agg #[.int .i64 0,.int .i64 0,.int .i64 0,.slice none 0 0],.int .i64 E]) (by simp[results,Tryz.results133,go_sem,i0,i1,i2,i3]) rfl ⟨rfl,ay⟩
theorem Ch (a b:Bk)(ao bo:Option Addr)(ca cb:Nat)(w:World)(ha:Sl w ao ca (a.bits.map Value.bool))(hb:Sl w bo cb (b.bits.map Value.bool))(la:a.bits.length<=140737488355328)(lb:b.bits.length<=140737488355328)(h0:bP a=0)(h1:bP b=0):
  Calls Tryz.prog 133 #[ej a ao ca,ej b bo cb] w fun e w'=>
   ∃a' G,e=.returned (.tuple #[ej (dC (bi a++bi b)) a' G,.int .i64 (fk (bi a++bi b))])/\Sl w' a' G ((dC (bi a++bi b)).bits.map Value.bool)/\Below w.heap.size w w':=by
 have c1:=fun W h=>gp a ao ca W h la
 have c2:=fun W h=>gp b bo cb W h lb
 rw[h0] at c1
 rw[h1] at c2
 have p1:=jb h0
 have p2:=jb h1
 have q1:=i' a
 have q2:=i' b
 generalize bi a=P at*
 generalize bi b=Q at*
 have c3:=fun a cap W h=>uE a cap (P++Q) W h
 have c4:=fun b off cap W h=>M5 b off cap P W h p1 (by omega)
 clear h0 h1
 generalize fk (P++Q)=E at*
 generalize dC (P++Q)=M at*
 obtain⟨an,af,aT,X⟩:=a
 obtain⟨bn,bf,bT,Y⟩:=b
 obtain⟨mn,mf,mT,Z⟩:=M
 unfold ej at*
 simp only at*
 have hP:P≠[]:=by intro e;rw[e] at p1;simp at p1
 have hQ:Q≠[]:=by intro e;rw[e] at p2;simp at p2
 obtain⟨n,hn⟩:∃n,n=P.length:=⟨_,rfl⟩
 obtain⟨m,hm⟩:∃m,m=Q.length:=⟨_,rfl⟩
 have je:(P++Q).length=n+m:=by rw[List.length_append,hn,hm]
 rw[je] at c3
 rw[<-hn] at c1 p1 q1 c4
 rw[<-hm] at c2 p2 q2
 replace hn:=aa hn
 replace hm:=aa hm
 replace je:=aa je
 obtain⟨i0,hi,bK,bm,bQ⟩:=info_parts kL
 have h3:=three w [.int .i64 an,.int .i64 af,.int .i64 aT,.slice ao X.length ca] [.int .i64 bn,.int .i64 bf,.int .i64 bT,.slice bo Y.length cb] [.int .i64 0,.int .i64 0,.int .i64 0,.slice none 0 0] 107
 have sa:=fun o1 o2 o3=>((ha.alloc o1).alloc o2).alloc o3
 clear la lb ha
 go_enter Tryz.func133,Tryz.ntmps133
 go_wp2_with fail
 go_at_call 61
 refine(c1 _ (sa _ _ _)).mono ?_
 rintro e w1 ⟨a1,G1,rfl,s1,b1⟩
 obtain⟨BB,BR,bel⟩:=h3
 have BB:=BB.keep b1 BB.lt
 have BR:=BR.keep b1 BR.lt
 have bel:=ac bel b1
 have hb:=hb.keep bel (Nat.le_refl _)
 clear c1 b1 sa
 have m0:w1.cell? ⟨w.heap.size+1,0,none⟩=some (.int .i64 bn):=BB.cell 0
 have m1:w1.cell? ⟨w.heap.size+1,1,none⟩=some (.int .i64 bf):=BB.cell 1
 have m2:w1.cell? ⟨w.heap.size+1,2,none⟩=some (.int .i64 bT):=BB.cell 2
 have m3:w1.cell? ⟨w.heap.size+1,3,none⟩=some (.slice bo Y.length cb):=BB.cell 3
 go_wp2_with fail
 go_at_call 61
 refine(c2 _ hb).mono ?_
 rintro e w2 ⟨a2,G2,rfl,s2,b2⟩
 have BR:=BR.keep b2 BR.lt
 have bel:=ac bel b2
 have s1:=s1.call b2
 clear c2 b2 m0 m1 m2 m3 BB hb
 obtain⟨xb,xo,rfl,VO⟩:=s1.where hP
 obtain⟨yb,yo,rfl,Qv⟩:=s2.where hQ
 have yl:(ar Q).length=m*2:=by rw[aI,<-hm.out]
 replace yl:=aa yl
 have XT:=fU Q
 go_wp2_with fail
 go_at_call 130
 refine(c4 _ _ _ _ s1).mono ?_
 rintro e w3 ⟨v3,rfl,eF,aC⟩
 have s3:=s2.call aC
 have dW:=aC.size
 have xA:=BR.lt
 obtain⟨a3,zO,rfl⟩:∃a3 zO,v3=.slice a3 n zO:=by
  rcases eF.2 with⟨rfl,rfl⟩| ⟨g,cp,cur,rfl,_⟩
  .exact⟨_,_,rfl⟩
  exact⟨_,_,rfl⟩
 have tL:∀j u,(ar Q)[j]? =some u->w3.cell? ((⟨yb,yo,none⟩:Addr).add j)=some u:=by
  intro j u hu
  obtain⟨b',lB,e,_,hc⟩:=s3.row.at (by intro e;rw[e] at hu;simp at hu)
  simp only[Option.some.injEq,Addr.mk.injEq,and_true] at e
  obtain⟨rfl,rfl⟩:=e
  rw[Addr.add_lit]
  exact hc j u hu
 clear c4 s3
 go_wp2_with (at_builtin;refine ed _ rfl (.tmp 28) (.tmp 29) 42 rfl w2.heap.size 56 i0 (.agg #[.int .i64 0,.int .i64 0]) 2 16 Tryz.underlying42 hi bK bm bQ rfl (by decide) _ n _ rfl eF ⟨yb,yo,none⟩ m _ (ar Q) rfl yl.out tL XT p2 (by unfold maxLen;omega) (by omega) dW ?_)
 intro v5 w5 dM gI _
 have br:=aG aC eF gI (Nat.le_refl _) dW
 rw[<-dF] at dM
 obtain⟨a5,c5,rfl,s5,_,_⟩:=aV.ofOwn dM
 have Cn:=BR.keep br xA
 have fO:=bel.trans (br.mono (by omega))
 clear dM gI eF aC br bel BR s1 s2 hn hm
 go_wp2_with fail
 go_at_call 131
 refine(c3 _ _ _ s5).mono ?_
 rintro e w6 ⟨a6,G6,rfl,t6,b6⟩
 have jZ:=Cn.keep b6 Cn.lt
 have dD:=ac fO b6
 clear c3 b6 Cn fO s5
 obtain⟨f0,f1,f2,f3⟩:=jZ.f4
 have d0:w6.cell? ⟨w.heap.size+2,0,none⟩=some (.int .i64 0):=jZ.cell 0
 have d1:w6.cell? ⟨w.heap.size+2,1,none⟩=some (.int .i64 0):=jZ.cell 1
 have d2:w6.cell? ⟨w.heap.size+2,2,none⟩=some (.int .i64 0):=jZ.cell 2
 have d3:w6.cell? ⟨w.heap.size+2,3,none⟩=some (.slice none 0 0):=jZ.cell 3
 have Xy:=jZ.lt
 go_wp2_with fail
 have B4:=jZ.put4 (.int .i64 mn) (.int .i64 mf) (.int .i64 mT) (.slice a6 Z.length G6)
 have ay:=ic dD (g:=w.heap.size+2) (by omega) (.int .i64 mn) (.int .i64 mf) (.int .i64 mT) (.slice a6 Z.length G6)
 have t4:=t6.put4 jZ (.int .i64 mn) (.int .i64 mf) (.int .i64 mT) (.slice a6 Z.length G6)
 generalize World.setCell _ _ _=w7 at*
 have i0:w7.cell? ⟨w.heap.size+2,0,none⟩=some (.int .i64 mn):=B4.cell 0
 have i1:w7.cell? ⟨w.heap.size+2,1,none⟩=some (.int .i64 mf):=B4.cell 1
 have i2:w7.cell? ⟨w.heap.size+2,2,none⟩=some (.int .i64 mT):=B4.cell 2
 have i3:w7.cell? ⟨w.heap.size+2,3,none⟩=some (.slice a6 Z.length G6):=B4.cell 3
 exact bodyPost_ret (v:=.tuple #[.agg #[.int .i64 mn,.int .i64 mf,.int .i64 mT,.slice a6 Z.length G6],.int .i64 E]) (by simp[results,Tryz.results133,go_sem,i0,i1,i2,i3]) rfl ⟨a6,G6,rfl,t4,ay⟩
theorem Ap (a b:Bk)(ao bo:Option Addr)(ca cb:Nat)(w:World)(ha:Sl w ao ca (a.bits.map Value.bool))(hb:Sl w bo cb (b.bits.map Value.bool))(la:a.bits.length<=140737488355328)(lb:b.bits.length<=140737488355328):
  Calls Tryz.prog 133 #[ej a ao ca,ej b bo cb] w fun e w'=>
   ∃a' G,e=.returned (.tuple #[ej (eO a b) a' G,.int .i64 (eA a b)])/\Sl w' a' G ((eO a b).bits.map Value.bool)/\Below w.heap.size w w':=by
 by_cases h0:bP a=0
 .by_cases h1:bP b=0
  .have hB:eO a b=dC (bi a++bi b):=if_pos ⟨h0,h1⟩
   have hE:eA a b=fk (bi a++bi b):=by unfold eA;rw[if_pos h0,if_pos h1]
   rw[hB,hE]
   exact Ch a b ao bo ca cb w ha hb la lb h0 h1
  have hB:eO a b=wR:=if_neg (fun h=>h1 h.2)
  have hE:eA a b=bP b:=by unfold eA;rw[if_pos h0,if_neg h1]
  rw[hB,hE]
  refine(As a b ao bo ca cb w ha hb la lb h0 h1).mono ?_
  rintro e w' ⟨rfl,hb⟩
  exact⟨none,0,rfl,Sl.ofNil _,hb⟩
 have hB:eO a b=wR:=if_neg (fun h=>h0 h.1)
 have hE:eA a b=bP a:=by unfold eA;rw[if_neg h0]
 rw[hB,hE]
 refine(zU a b ao bo ca cb w ha la h0).mono ?_
 rintro e w' ⟨rfl,hb⟩
 exact⟨none,0,rfl,Sl.ofNil _,hb⟩
theorem Fq (m:Nat)(ao:Option Addr)(cap:Nat)(s n:Int)(w:World)(h:dG s 0 3=false):
  Calls Tryz.prog 101 #[.agg #[.slice ao m cap],.int .i64 s,.int .i64 n] w fun e w'=>e=.returned (.tuple #[.agg #[.slice none 0 0],.int .i64 5])/\Below w.heap.size w w':=by
 have c:=fun W=>bG s 0 3 W
 unfold dG at h
 rw[h] at c
 clear h
 go_enter Tryz.func101,Tryz.ntmps101
 go_wp2_with fail
 go_at_call 36
 refine(c _).mono ?_
 rintro e w1 ⟨rfl,rfl⟩
 go_wp2_with fail
 exact bodyPost_ret (v:=.tuple #[.agg #[.slice none 0 0],.int .i64 5]) (by simp[results,Tryz.results101,go_sem]) rfl ⟨rfl,dN w _ _⟩
theorem Ak (l:List Lr)(ao:Option Addr)(cap:Nat)(k:Nat)(n:Int)(w:World)(hs:bL w ao cap l)(h4:l.length=4)(hk:k<4)(r:Lr)(hr:l[k]? =some r)(hw:(Lit.int .i64 n).wf=true)(h:dG n 0 ((r.bs.length:Int)-2)=false):
  Calls Tryz.prog 101 #[.agg #[.slice ao 4 cap],.int .i64 k,.int .i64 n] w fun e w'=>e=.returned (.tuple #[.agg #[.slice none 0 0],.int .i64 3])/\Below w.heap.size w w':=by
 have c:=fun W=>bG (k:Int) 0 3 W
 rw[decide_eq_true (show(0:Int)<=k/\(k:Int)<=3 by omega)] at c
 obtain⟨lb,lo,rfl,-⟩:=hs.where (by intro e;rw[e] at h4;simp at h4)
 have c3:=fun W (hW:be Lr.cells W (some ⟨lb,lo,none⟩) cap l)=>tQ ⟨lb,lo,none⟩ cap (l.flatMap Lr.cells) 4 W hW.row (by rw[av Lr.two,h4]) (by decide) (by decide)
 have s2:=fun o1 o2=>(hs.sl.alloc o1).alloc o2
 have fC:(k:Int)<4:=by omega
 have hn:=(of_decide_eq_false h:¬(0<=n/\n<=(r.bs.length:Int)-2))
 have rc:=fun W g G (h:dL W g G l)=>h.cells k r hr
 replace h4:=aa h4
 generalize r.hd.length=m at*
 generalize r.bs.length=bn at*
 clear h hr hs
 simp only[Lit.wf,IntKind.min,IntKind.max,IntKind.signed,IntKind.bits,Bool.and_eq_true,decide_eq_true_eq,if_true] at hw
 have key:n<0\/(0<=n/\n=9223372036854775807)\/(0<=n/\n<9223372036854775807/\(bn:Int)<=n+1):=by omega
 clear hn
 obtain⟨DU,xd⟩:=hw
 have hww:wrap64 9223372036854775808=-9223372036854775808:=by unfold wrap64;omega
 rcases key with h1| ⟨h1,rfl⟩| ⟨h1,h2,h3⟩
 all_goals(
  go_enter Tryz.func101,Tryz.ntmps101
  go_wp2_with fail
  go_at_call 36
  refine(c _).mono ?_
  rintro e w1 ⟨rfl,rfl⟩
  go_wp2_with fail
  have BR:=(rh w [.slice (some ⟨lb,lo,none⟩) 4 cap] [.slice none 0 0] 24)
  go_at_call 129
  refine(c3 _ (s2 _ _)).mono ?_
  rintro e w1 ⟨g,G,L,rfl,B1,hL,hG,pT,zn,b1⟩
  have rows:dL w1 g G l:=⟨⟨L,B1,hL⟩,by rw[h4.out];exact hG,pT⟩
  obtain⟨BR,bel⟩:=BR
  replace BR:=BR.keep b1 BR.lt
  replace bel:=ac bel b1
  clear b1 s2 c3 c B1 hL
  simp only[World.size_alloc] at zn
  obtain⟨e0,e1⟩:=rc _ _ _ rows
  have QC:=rows.lt
  have f0:=BR.free 0
  have d0:w1.cell? ⟨w.heap.size+1,0,none⟩=some (.slice none 0 0):=BR.cell 0
  have jF:=BR.lt
  go_wp2_with fail
  exact bodyPost_ret (v:=.tuple #[.agg #[.slice none 0 0],.int .i64 3]) (by simp[results,Tryz.results101,go_sem,d0,jF]) rfl ⟨rfl,ax (bel.setCell (by simp) _) _⟩)
theorem Iz (l:List Lr)(ao:Option Addr)(cap:Nat)(k j:Nat)(w:World)(hs:bL w ao cap l)(h4:l.length=4)(hk:k<4)(r:Lr)(hr:l[k]? =some r)(hb:r.bs.length<=8)(hm:r.hd.length<=40)(x y:Lb)(hx:r.bs[j]? =some x)(hy:r.bs[j+1]? =some y):
  Calls Tryz.prog 101 #[.agg #[.slice ao 4 cap],.int .i64 k,.int .i64 j] w fun e w'=>
   (eA x.b y.b≠0/\e=.returned (.tuple #[.agg #[.slice none 0 0],.int .i64 (eA x.b y.b)])/\Below w.heap.size w w')\/
   (eA x.b y.b=0/\∃rs a' G,e=.returned (.tuple #[.agg #[.slice a' 4 G],.int .i64 0])/\rs.map Lr.rw=(l.map Lr.rw).set k ⟨(r.bs.map Lb.b).take j++(eO x.b y.b::(r.bs.map Lb.b).drop (j+2)),r.hd⟩/\bL w' a' G rs/\Below w.heap.size w w'):=by
 have c:=fun W=>bG (k:Int) 0 3 W
 rw[decide_eq_true (show(0:Int)<=k/\(k:Int)<=3 by omega)] at c
 obtain⟨lb,lo,rfl,-⟩:=hs.where (by intro e;rw[e] at h4;simp at h4)
 have c3:=fun W (hW:be Lr.cells W (some ⟨lb,lo,none⟩) cap l)=>tQ ⟨lb,lo,none⟩ cap (l.flatMap Lr.cells) 4 W hW.row (by rw[av Lr.two,h4]) (by decide) (by decide)
 have s2:=fun o1 o2=>(hs.sl.alloc o1).alloc o2
 have gr:=hs.good r (List.mem_of_getElem? hr)
 have gl:=hs.good
 have Ft:j+2<=r.bs.length:=by have:=(List.getElem?_eq_some_iff.1 hy).1;omega
 obtain⟨bs,ba,bc,hd,ha,hc⟩:=r
 simp only at*
 have gx:=gr.bs.good x (List.mem_of_getElem? hx)
 have gy:=gr.bs.good y (List.mem_of_getElem? hy)
 have fx:=gx.few
 have fy:=gy.few
 have c4:=fun W hX hY=>Ap x.b y.b x.a y.a x.c y.c W hX hY fx fy
 have lM:=ur x.b y.b
 generalize eO x.b y.b=M at*
 generalize eA x.b y.b=ME at*
 have fC:(k:Int)<4:=by omega
 obtain⟨m,em⟩:∃m,m=hd.length:=⟨_,rfl⟩
 obtain⟨bn,eb⟩:∃bn,bn=bs.length:=⟨_,rfl⟩
 rw[<-em] at hm
 rw[<-eb] at hb Ft
 have tP:bn<=bc:=by have:=gr.bs.sl.le;rw[<-eb] at this;exact this
 have ZB:=gr.bs.sl.max
 simp only at ZB
 have EL:(j:Int)+1<bn:=by omega
 have pf:(0:Int)<=j:=by omega
 have TD:(j:Int)<bn:=by omega
 have ZL:(bn:Int)<=8:=by omega
 have SP:(0:Int)<=(j:Int)+1:=by omega
 have Zi:(0:Int)<=(j:Int)+2:=by omega
 have YU:(j:Int)+2<=bn:=by omega
 have DU:IntKind.i64.wrap ((j:Int)+1)=(j:Int)+1:=by rw[IntKind.wrap_i64];omega
 have xd:IntKind.i64.wrap ((j:Int)+2)=(j:Int)+2:=by rw[IntKind.wrap_i64];omega
 replace em:=aa em
 replace eb:=aa eb
 replace hr:=aa hr
 replace h4:=aa h4
 replace hx:=aa hx
 replace hy:=aa hy
 have gW:=fun W (hW:Below w.heap.size w W)=>gr.keep hW (Nat.le_refl _)
 obtain⟨bb,bo,rfl,QF⟩:=gr.bs.where (by intro e;have e':bs=[]:=e;have:=eb.out;rw[e'] at this;simp at this;omega)
 clear gr hs gx gy
 go_enter Tryz.func101,Tryz.ntmps101
 go_wp2_with fail
 go_at_call 36
 refine(c _).mono ?_
 rintro e w1 ⟨rfl,rfl⟩
 go_wp2_with fail
 have BR:=(rh w [.slice (some ⟨lb,lo,none⟩) 4 cap] [.slice none 0 0] 24)
 go_at_call 129
 refine(c3 _ (s2 _ _)).mono ?_
 rintro e w1 ⟨g,G,L,rfl,B1,hL,hG,pT,zn,b1⟩
 have rows:dL w1 g G l:=⟨⟨L,B1,hL⟩,by rw[h4.out];exact hG,pT⟩
 obtain⟨BR,bel⟩:=BR
 replace BR:=BR.keep b1 BR.lt
 replace bel:=ac bel b1
 clear b1 s2 c3 c B1 hL L
 simp only[World.size_alloc] at zn
 obtain⟨e0,e1⟩:=rows.cells k _ hr.out
 simp only at e0 e1
 rw[<-eb.out] at e0
 rw[<-em.out] at e1
 have QC:=rows.lt
 go_wp2_with fail
 have B9:=ag.laid w1 [.slice (some ⟨bb,bo,none⟩) bn bc,.slice ha m hc] 53 _ rfl
 replace rows:=rows.alloc (.cells #[.slice (some ⟨bb,bo,none⟩) bn bc,.slice ha m hc] 53)
 replace BR:=BR.alc (.cells #[.slice (some ⟨bb,bo,none⟩) bn bc,.slice ha m hc] 53)
 replace bel:=ax bel (.cells #[.slice (some ⟨bb,bo,none⟩) bn bc,.slice ha m hc] 53)
 clear e0 e1
 generalize Oz:w1.heap.size=g9 at*
 generalize w1.alloc _=w2 at*
 clear Oz
 have q0:w2.cell? ⟨g9,0,none⟩=some (.slice (some ⟨bb,bo,none⟩) bn bc):=B9.cell 0
 have l9:=B9.lt
 obtain⟨x0,x1,x2,x3,gx⟩:=(gW w2 bel).bs.at j x hx.out
 obtain⟨y0,y1,y2,y3,gy⟩:=(gW w2 bel).bs.at (j+1) y hy.out
 have cM:∀W,Below w2.heap.size w2 W->Calls Tryz.prog 133 #[ej x.b x.a x.c,ej y.b y.a y.c] W fun e w'=>∃a' G,e=.returned (.tuple #[ej M a' G,.int .i64 ME])/\Sl w' a' G (M.bits.map Value.bool)/\Below W.heap.size W w'/\Below w2.heap.size w2 w'/\w'.cell? ⟨g9,0,none⟩=some (.slice (some ⟨bb,bo,none⟩) bn bc)/\w'.cell? ⟨bb,bo+j*4,none⟩=some (.int .i64 x.b.n)/\w'.cell? ⟨bb,bo+j*4+1,none⟩=some (.int .i64 x.b.fr)/\w'.cell? ⟨bb,bo+j*4+2,none⟩=some (.int .i64 x.b.to)/\w'.cell? ⟨bb,bo+j*4+3,none⟩=some (.slice x.a x.b.bits.length x.c)/\w'.cell? ⟨bb,bo+(j+1)*4,none⟩=some (.int .i64 y.b.n)/\w'.cell? ⟨bb,bo+(j+1)*4+1,none⟩=some (.int .i64 y.b.fr)/\w'.cell? ⟨bb,bo+(j+1)*4+2,none⟩=some (.int .i64 y.b.to)/\w'.cell? ⟨bb,bo+(j+1)*4+3,none⟩=some (.slice y.a y.b.bits.length y.c):=by
  intro W hW
  refine(c4 W (gx.bits.keep hW (Nat.le_refl _)) (gy.bits.keep hW (Nat.le_refl _))).mono ?_
  rintro e w' ⟨a',G',rfl,t',b'⟩
  have Qq:=hW.trans (b'.mono hW.size)
  obtain⟨x0,x1,x2,x3,_⟩:=(gW w' (bel.trans (Qq.mono bel.size))).bs.at j x hx.out
  obtain⟨y0,y1,y2,y3,_⟩:=(gW w' (bel.trans (Qq.mono bel.size))).bs.at (j+1) y hy.out
  exact⟨a',G',rfl,t',b',Qq,(B9.keep Qq l9).cell 0,x0,x1,x2,x3,y0,y1,y2,y3⟩
 unfold ej at cM
 have ld:=Nat.lt_of_lt_of_le QF bel.size
 have PF:¬g9=w2.heap.size:=by omega
 have Pi:¬w2.heap.size=g9:=by omega
 have UP:¬bb=w2.heap.size:=by omega
 have UK:¬w2.heap.size=bb:=by omega
 go_region_held3 (fun w'=>w'.cell? ⟨g9,0,none⟩=some (.slice (some ⟨bb,bo,none⟩) bn bc)/\w'.cell? ⟨bb,bo+j*4,none⟩=some (.int .i64 x.b.n)/\w'.cell? ⟨bb,bo+j*4+1,none⟩=some (.int .i64 x.b.fr)/\w'.cell? ⟨bb,bo+j*4+2,none⟩=some (.int .i64 x.b.to)/\w'.cell? ⟨bb,bo+j*4+3,none⟩=some (.slice x.a x.b.bits.length x.c)/\w'.cell? ⟨bb,bo+(j+1)*4,none⟩=some (.int .i64 y.b.n)/\w'.cell? ⟨bb,bo+(j+1)*4+1,none⟩=some (.int .i64 y.b.fr)/\w'.cell? ⟨bb,bo+(j+1)*4+2,none⟩=some (.int .i64 y.b.to)/\w'.cell? ⟨bb,bo+(j+1)*4+3,none⟩=some (.slice y.a y.b.bits.length y.c)) (go_keep)
  (first
   | (go_at_call 133;refine(cM _ ?_).mono ?_;exact ak (Below.refl _ _);rintro e w3 ⟨a3,G3,rfl,t3,b3,bb3,z0,z1,z2,z3,z4,z5,z6,z7,z8⟩)
   | (go_at_call 133;refine(cM _ ?_).mono ?_;exact ak (ax (Below.refl _ _) _);rintro e w3 ⟨a3,G3,rfl,t3,b3,bb3,z0,z1,z2,z3,z4,z5,z6,z7,z8⟩;have BZ:=(ag.laid w2 [.int .i64 0,.int .i64 0,.int .i64 0,.slice none 0 0] 107 _ rfl).drewS.keep b3 (by simp);have u0:w3.cell? ⟨w2.heap.size,0,none⟩=some (.int .i64 0):=BZ.cell 0;have u1:w3.cell? ⟨w2.heap.size,1,none⟩=some (.int .i64 0):=BZ.cell 1;have u2:w3.cell? ⟨w2.heap.size,2,none⟩=some (.int .i64 0):=BZ.cell 2;have u3:w3.cell? ⟨w2.heap.size,3,none⟩=some (.slice none 0 0):=BZ.cell 3;have v0:=BZ.free 0;have v1:=BZ.free 1;have v2:=BZ.free 2;have v3:=BZ.free 3))
 all_goals
  first
  | (
    have sw:=BZ.put4 (.int .i64 M.n) (.int .i64 M.fr) (.int .i64 M.to) (.slice a3 M.bits.length G3)
    replace rows:=((((rows.keep bb3 rows.lt).other w2.heap.size 0 (.int .i64 M.n) (by omega)).other w2.heap.size 1 (.int .i64 M.fr) (by omega)).other w2.heap.size 2 (.int .i64 M.to) (by omega)).other w2.heap.size 3 (.slice a3 M.bits.length G3) (by omega)
    replace BR:=((((BR.keep bb3 BR.lt).other 0 (.int .i64 M.n) (g':=w2.heap.size) (by have:=BR.lt;omega)).other 1 (.int .i64 M.fr) (g':=w2.heap.size) (by have:=BR.lt;omega)).other 2 (.int .i64 M.to) (g':=w2.heap.size) (by have:=BR.lt;omega)).other 3 (.slice a3 M.bits.length G3) (g':=w2.heap.size) (by have:=BR.lt;omega)
    replace B9:=((((B9.keep bb3 l9).other 0 (.int .i64 M.n) (g':=w2.heap.size) (by omega)).other 1 (.int .i64 M.fr) (g':=w2.heap.size) (by omega)).other 2 (.int .i64 M.to) (g':=w2.heap.size) (by omega)).other 3 (.slice a3 M.bits.length G3) (g':=w2.heap.size) (by omega)
    replace t3:=t3.put4 BZ (.int .i64 M.n) (.int .i64 M.fr) (.int .i64 M.to) (.slice a3 M.bits.length G3)
    replace bel:=ic (bel.trans (bb3.mono bel.size)) (g:=w2.heap.size) bel.size (.int .i64 M.n) (.int .i64 M.fr) (.int .i64 M.to) (.slice a3 M.bits.length G3)
    have Yh:g9<w2.heap.size:=l9
    clear b3 bb3 BZ u0 u1 u2 u3 v0 v1 v2 v3 z0 z1 z2 z3 z4 z5 z6 z7 z8 x0 x1 x2 x3 y0 y1 y2 y3 gx gy q0 l9 PF Pi UP UK cM ld
    generalize(((w3.setCell ⟨w2.heap.size,0,none⟩ (.int .i64 M.n)).setCell ⟨w2.heap.size,1,none⟩ (.int .i64 M.fr)).setCell ⟨w2.heap.size,2,none⟩ (.int .i64 M.to)).setCell ⟨w2.heap.size,3,none⟩ (.slice a3 M.bits.length G3)=w4 at*
    generalize w2.heap.size=g10 at*)
  | (
    have sw:=ag.laid w3 [.int .i64 M.n,.int .i64 M.fr,.int .i64 M.to,.slice a3 M.bits.length G3] 107 _ rfl
    replace rows:=(rows.keep bb3 rows.lt).alloc (.cells #[.int .i64 M.n,.int .i64 M.fr,.int .i64 M.to,.slice a3 M.bits.length G3] 107)
    replace BR:=(BR.keep bb3 BR.lt).alc (.cells #[.int .i64 M.n,.int .i64 M.fr,.int .i64 M.to,.slice a3 M.bits.length G3] 107)
    replace B9:=(B9.keep bb3 l9).alc (.cells #[.int .i64 M.n,.int .i64 M.fr,.int .i64 M.to,.slice a3 M.bits.length G3] 107)
    replace bel:=ax (bel.trans (bb3.mono bel.size)) (.cells #[.int .i64 M.n,.int .i64 M.fr,.int .i64 M.to,.slice a3 M.bits.length G3] 107)
    replace t3:=t3.alloc (.cells #[.int .i64 M.n,.int .i64 M.fr,.int .i64 M.to,.slice a3 M.bits.length G3] 107)
    have Yh:g9<w3.heap.size:=Nat.lt_of_lt_of_le l9 bb3.size
    clear b3 bb3 z0 z1 z2 z3 z4 z5 z6 z7 z8
    generalize w3.heap.size=g10 at*
    generalize w3.alloc _=w4 at*)
 all_goals(
  by_cases hE:ME=0
  .have q0:w4.cell? ⟨g9,0,none⟩=some (.slice (some ⟨bb,bo,none⟩) bn bc):=B9.cell 0
   have q1:w4.cell? ⟨g9,1,none⟩=some (.slice ha m hc):=B9.cell 1
   have p0:w4.cell? ⟨g10,0,none⟩=some (.int .i64 M.n):=sw.cell 0
   have p1:w4.cell? ⟨g10,1,none⟩=some (.int .i64 M.fr):=sw.cell 1
   have p2:w4.cell? ⟨g10,2,none⟩=some (.int .i64 M.to):=sw.cell 2
   have p3:w4.cell? ⟨g10,3,none⟩=some (.slice a3 M.bits.length G3):=sw.cell 3
   have l9:=B9.lt
   have l10:=sw.lt
   have oJ:=rows.lt
   have lR:=BR.lt
   have U8:¬g=g9:=by omega
   have To:¬g=g10:=by omega
   have Xk:¬g=w.heap.size+1:=by omega
   have Uj:¬w.heap.size+1=g:=by omega
   have cC:∀aD nD cD,be Lb.cells w aD cD (bs.drop (j+2))->(bs.drop (j+2)).length=nD->Calls Tryz.prog 134 #[.slice (some ⟨w4.heap.size+1,0,none⟩) 3 3] (((w4.alloc (.cells #[.int .i64 M.n,.int .i64 M.fr,.int .i64 M.to,.slice a3 M.bits.length G3] 107)).alloc (.cells #[.slice (some ⟨bb,bo,none⟩) j bc,.slice (some ⟨w4.heap.size,0,none⟩) 1 1,.slice aD nD cD] 51)).drew) fun e w'=>∃g6 c6,e=.returned (.slice (some ⟨g6,0,none⟩) (j+1+nD) c6)/\w'.ownsRow w4.heap.size 107 4 (.slice (some ⟨g6,0,none⟩) (j+1+nD) c6) (j+1+nD) ((bs.take j).flatMap Lb.cells++([.int .i64 M.n,.int .i64 M.fr,.int .i64 M.to,.slice a3 M.bits.length G3]++(bs.drop (j+2)).flatMap Lb.cells))/\Below w4.heap.size w4 w'/\w'.cell? ⟨g9,0,none⟩=some (.slice (some ⟨bb,bo,none⟩) bn bc)/\w'.cell? ⟨g9,1,none⟩=some (.slice ha m hc)/\w'.cell? ⟨g10,0,none⟩=some (.int .i64 M.n)/\w'.cell? ⟨g10,1,none⟩=some (.int .i64 M.fr)/\w'.cell? ⟨g10,2,none⟩=some (.int .i64 M.to)/\w'.cell? ⟨g10,3,none⟩=some (.slice a3 M.bits.length G3)/\w'.cell? ⟨g,k*2,none⟩=some (.slice (some ⟨bb,bo,none⟩) bs.length bc)/\w'.cell? ⟨g,k*2+1,none⟩=some (.slice ha hd.length hc)/\w'.frozen? ⟨g,k*2,none⟩=false/\w'.frozen? ⟨g,k*2+1,none⟩=false/\w'.cell? ⟨w.heap.size+1,0,none⟩=some (.slice none 0 0)/\w'.frozen? ⟨w.heap.size+1,0,none⟩=false:=by
    intro aD nD cD pD lD
    have bW:Below w4.heap.size w4 (((w4.alloc (.cells #[.int .i64 M.n,.int .i64 M.fr,.int .i64 M.to,.slice a3 M.bits.length G3] 107)).alloc (.cells #[.slice (some ⟨bb,bo,none⟩) j bc,.slice (some ⟨w4.heap.size,0,none⟩) 1 1,.slice aD nD cD] 51)).drew):=ak (dN w4 _ _)
    have WC:=bel.trans (bW.mono bel.size)
    have gg:=(gW _ WC).bs.sl
    have BX:=(ag.laid (w4.alloc (.cells #[.int .i64 M.n,.int .i64 M.fr,.int .i64 M.to,.slice a3 M.bits.length G3] 107)) [.slice (some ⟨bb,bo,none⟩) j bc,.slice (some ⟨w4.heap.size,0,none⟩) 1 1,.slice aD nD cD] 51 (w4.heap.size+1) (by simp)).drewS
    have BM:=((ag.laid w4 [.int .i64 M.n,.int .i64 M.fr,.int .i64 M.to,.slice a3 M.bits.length G3] 107 _ rfl).alc (.cells #[.slice (some ⟨bb,bo,none⟩) j bc,.slice (some ⟨w4.heap.size,0,none⟩) 1 1,.slice aD nD cD] 51)).drewS
    have hlen:=pD.le
    have UY:=Lc (w4.heap.size+1) (some ⟨bb,bo,none⟩) (some ⟨w4.heap.size,0,none⟩) aD bc 1 cD j 1 nD ((bs.take j).flatMap Lb.cells) [.int .i64 M.n,.int .i64 M.fr,.int .i64 M.to,.slice a3 M.bits.length G3] ((bs.drop (j+2)).flatMap Lb.cells) (((w4.alloc (.cells #[.int .i64 M.n,.int .i64 M.fr,.int .i64 M.to,.slice a3 M.bits.length G3] 107)).alloc (.cells #[.slice (some ⟨bb,bo,none⟩) j bc,.slice (some ⟨w4.heap.size,0,none⟩) 1 1,.slice aD nD cD] 51)).drew) (BX.cell 0) (BX.cell 1) (BX.cell 2)
     (gg.front Lb.four j).row (BM.row 0 _ (fun i v hv=>by rw[Nat.zero_add];exact hv)) (pD.keep WC (Nat.le_refl _)).row (by rw[av Lb.four,List.length_take,<-eb.out,Nat.min_eq_left (by omega)]) rfl (by rw[av Lb.four,lD])
     (by intro e;cases e) (by intro e;cases e) (by intro e;have:=pD.nil e;exact⟨by omega,this⟩) (qz _) (by intro u hu;simp only[List.mem_cons,List.not_mem_nil,or_false] at hu;rcases hu with rfl|rfl|rfl|rfl<;>rfl) (qz _) (by omega) (by rw[<-lD,List.length_drop,<-eb.out];omega) BX.lt
    refine UY.mono ?_
    rintro e w' ⟨g6,c6,rfl,o6,b6⟩
    have eg:=bW.trans (b6.mono bW.size)
    have k9:=B9.keep eg l9
    have yZ:=sw.keep eg l10
    have kR:=BR.keep eg lR
    have kr:=rows.keep eg oJ
    obtain⟨u0,u1⟩:=kr.cells k _ hr.out
    exact⟨g6,c6,rfl,rg o6 bW.size,eg,k9.cell 0,k9.cell 1,yZ.cell 0,yZ.cell 1,yZ.cell 2,yZ.cell 3,u0,u1,kr.free _,kr.free _,kR.cell 0,kR.free 0⟩
   have fin:∀nD,(bs.drop (j+2)).length=nD->∀(g6 c6:Nat) (w6:World),w6.ownsRow w4.heap.size 107 4 (.slice (some ⟨g6,0,none⟩) (j+1+nD) c6) (j+1+nD) ((bs.take j).flatMap Lb.cells++([.int .i64 M.n,.int .i64 M.fr,.int .i64 M.to,.slice a3 M.bits.length G3]++(bs.drop (j+2)).flatMap Lb.cells))->Below w4.heap.size w4 w6->
     (l.set k ⟨bs.take j++(⟨M,a3,G3⟩::bs.drop (j+2)),some ⟨g6,0,none⟩,c6,hd,ha,hc⟩).map Lr.rw=(l.map Lr.rw).set k ⟨(bs.map Lb.b).take j++(M::(bs.map Lb.b).drop (j+2)),hd⟩/\
     bL (((w6.setCell ⟨g,k*2,none⟩ (.slice (some ⟨g6,0,none⟩) (j+1+nD) c6)).setCell ⟨g,k*2+1,none⟩ (.slice ha m hc)).setCell ⟨w.heap.size+1,0,none⟩ (.slice (some ⟨g,0,none⟩) 4 G)) (some ⟨g,0,none⟩) G (l.set k ⟨bs.take j++(⟨M,a3,G3⟩::bs.drop (j+2)),some ⟨g6,0,none⟩,c6,hd,ha,hc⟩)/\Below w.heap.size w (((w6.setCell ⟨g,k*2,none⟩ (.slice (some ⟨g6,0,none⟩) (j+1+nD) c6)).setCell ⟨g,k*2+1,none⟩ (.slice ha m hc)).setCell ⟨w.heap.size+1,0,none⟩ (.slice (some ⟨g,0,none⟩) 4 G)):=by
    intro nD lD g6 c6 w6 d8 eg
    obtain⟨x,hx⟩:∃x:Lr,x=⟨bs.take j++(⟨M,a3,G3⟩::bs.drop (j+2)),some ⟨g6,0,none⟩,c6,hd,ha,hc⟩:=⟨_,rfl⟩
    have hlen:(bs.take j++((⟨M,a3,G3⟩:Lb)::bs.drop (j+2))).length=j+1+nD:=by
     rw[List.length_append,List.length_cons,lD,List.length_take,<-eb.out,Nat.min_eq_left (by omega)]
     omega
    have UQ:((w6.setCell ⟨g,k*2,none⟩ (.slice (some ⟨g6,0,none⟩) (j+1+nD) c6)).setCell ⟨g,k*2+1,none⟩ (.slice ha m hc)).setCell ⟨w.heap.size+1,0,none⟩ (.slice (some ⟨g,0,none⟩) 4 G)=wrote w6 g k x (w.heap.size+1) (.slice (some ⟨g,0,none⟩) 4 G):=by
     rw[hx]
     simp only[wrote,hlen,<-em.out]
    rw[UQ]
    have dD:=bel.trans (eg.mono bel.size)
    have b8:=um dD (g:=g) (gR:=w.heap.size+1) (by omega) (by omega) k x (.slice (some ⟨g,0,none⟩) 4 G)
    have yX:=rows.keep eg rows.lt
    have jZ:=BR.keep eg BR.lt
    have t6:=vN (t3.keep eg (Nat.le_refl _)) yX jZ (by intro v hv b e;simp at hv;subst hv;cases e) k x (.slice (some ⟨g,0,none⟩) 4 G)
    have nt:=y7 d8 oJ lR k x (.slice (some ⟨g,0,none⟩) 4 G)
    rw[show((bs.take j).flatMap Lb.cells++([.int .i64 M.n,.int .i64 M.fr,.int .i64 M.to,.slice a3 M.bits.length G3]++(bs.drop (j+2)).flatMap Lb.cells))=(bs.take j++((⟨M,a3,G3⟩:Lb)::bs.drop (j+2))).flatMap Lb.cells by rw[List.flatMap_append,List.flatMap_cons];rfl] at nt
    obtain⟨a9,c9,ev,Sx,_,_⟩:=be.ofOwn Lb.four (by decide) nt
    simp only[Value.slice.injEq,true_and] at ev
    obtain⟨rfl,rfl⟩:=ev
    have gx:x.Good (wrote w6 g k x (w.heap.size+1) (.slice (some ⟨g,0,none⟩) 4 G)):=by
     generalize wrote w6 g k x (w.heap.size+1) (.slice (some ⟨g,0,none⟩) 4 G)=w8 at*
     rw[hx]
     have gb:=gW w8 b8
     refine⟨⟨Sx,fun y hy=>?_⟩,gb.hd,?_,gb.hfew⟩
     .rcases List.mem_append.1 hy with hy|hy
      .exact gb.bs.good y (List.mem_of_mem_take hy)
      rcases List.mem_cons.1 hy with rfl|hy
      .exact⟨t6,by simp only;omega⟩
      exact gb.bs.good y (List.mem_of_mem_drop hy)
     simp only
     rw[hlen,<-lD,List.length_drop,<-eb.out]
     omega
    refine⟨?_,?_,b8⟩
    .rw[List.map_set]
     congr 1
     unfold Lr.rw
     simp
    rw[<-hx]
    exact vJ yX (by omega) k (by rw[h4.out];exact hk) x _ b8 gl gx
   have pt:=(gW w (Below.refl _ _)).bs.sl.part Lb.four (j+2) bs.length (by rw[<-eb.out];exact Ft) (Nat.le_refl _)
   simp only at pt
   rw[List.take_length] at pt
   have WR:(bs.drop (j+2)).length=bn-(j+2):=by rw[List.length_drop,<-eb.out]
   have Fd:=aa hE
   have aaF:(j:Int)<=bc:=by omega
   have hz:(ME==0)=true:=by simpa using hE
   clear hE
   rw[Option.map_some,Addr.add_lit] at pt
   have ht:((j:Int)+2).toNat=j+2:=by omega
   have pD:be Lb.cells w (if bc=((j:Int)+2).toNat then some ⟨bb,bo,none⟩ else some ⟨bb,bo+((j:Int)+2).toNat*4,none⟩) (bc-((j:Int)+2).toNat) (bs.drop (j+2)):=by rw[ht];exact pt
   have lD:(bs.drop (j+2)).length=bn-((j:Int)+2).toNat:=by rw[ht];exact WR
   clear pt WR ht
   by_cases sE:bc=((j:Int)+2).toNat
   .rw[if_pos sE] at pD
    have hqb:(bc=((j:Int)+2).toNat)=True:=eq_true sE
    clear sE
    have Tn:=cC (some ⟨bb,bo,none⟩) (bn-((j:Int)+2).toNat) (bc-((j:Int)+2).toNat) pD lD
    have O0:=fin (bn-((j:Int)+2).toNat) lD
    clear cC fin pD lD gW gl hr hx hy c4
    go_wp2_with fail
    go_region_held3 (fun w'=>w'.cell? ⟨g9,0,none⟩=some (.slice (some ⟨bb,bo,none⟩) bn bc)/\w'.cell? ⟨g9,1,none⟩=some (.slice ha m hc)/\w'.cell? ⟨g10,0,none⟩=some (.int .i64 M.n)/\w'.cell? ⟨g10,1,none⟩=some (.int .i64 M.fr)/\w'.cell? ⟨g10,2,none⟩=some (.int .i64 M.to)/\w'.cell? ⟨g10,3,none⟩=some (.slice a3 M.bits.length G3)) (go_keep)
     (first
      | (go_at_call 134;refine Tn.mono ?_;rintro e w6 ⟨g6,c6,rfl,d8,eg,z0,z1,z2,z3,z4,z5,u0,u1,x0,x1,j0,j1⟩))
    go_wp2_with fail
    obtain⟨E1,E2,E3⟩:=O0 _ _ _ d8 eg
    exact bodyPost_ret (v:=.tuple #[.agg #[.slice (some ⟨g,0,none⟩) 4 G],.int .i64 0]) (by simp[results,Tryz.results101,go_sem,j0]) rfl (Or.inr ⟨Fd.out,_,_,_,rfl,E1,E2,E3⟩)
   rw[if_neg sE] at pD
   have Tn:=cC (some ⟨bb,bo+((j:Int)+2).toNat*4,none⟩) (bn-((j:Int)+2).toNat) (bc-((j:Int)+2).toNat) pD lD
   have O0:=fin (bn-((j:Int)+2).toNat) lD
   clear cC fin pD lD gW gl hr hx hy c4
   go_wp2_with fail
   go_region_held3 (fun w'=>w'.cell? ⟨g9,0,none⟩=some (.slice (some ⟨bb,bo,none⟩) bn bc)/\w'.cell? ⟨g9,1,none⟩=some (.slice ha m hc)/\w'.cell? ⟨g10,0,none⟩=some (.int .i64 M.n)/\w'.cell? ⟨g10,1,none⟩=some (.int .i64 M.fr)/\w'.cell? ⟨g10,2,none⟩=some (.int .i64 M.to)/\w'.cell? ⟨g10,3,none⟩=some (.slice a3 M.bits.length G3)) (go_keep)
    (first
     | (go_at_call 134;refine Tn.mono ?_;rintro e w6 ⟨g6,c6,rfl,d8,eg,z0,z1,z2,z3,z4,z5,u0,u1,x0,x1,j0,j1⟩))
   go_wp2_with fail
   obtain⟨E1,E2,E3⟩:=O0 _ _ _ d8 eg
   exact bodyPost_ret (v:=.tuple #[.agg #[.slice (some ⟨g,0,none⟩) 4 G],.int .i64 0]) (by simp[results,Tryz.results101,go_sem,j0]) rfl (Or.inr ⟨Fd.out,_,_,_,rfl,E1,E2,E3⟩)
  have f0:=BR.free 0
  have d0:w4.cell? ⟨w.heap.size+1,0,none⟩=some (.slice none 0 0):=BR.cell 0
  have jF:=BR.lt
  clear gW gl hr hx hy rows B9 sw t3 DU xd pf EL TD SP Zi YU ZL
  go_wp2_with fail
  refine bodyPost_ret (v:=.tuple #[.agg #[.slice none 0 0],.int .i64 ME]) (by simp[results,Tryz.results101,go_sem,d0]) rfl ?_
  exact Or.inl ⟨hE,rfl,bel.setCell (by simp) _⟩)
theorem xq {r:Lr}{j:Nat}{x:Lb}(h:r.bs[j]? =some x):mc r.rw j=x.b:=by
 unfold mc Lr.rw
 simp only
 rw[List.getD,List.getElem?_map,h]
 rfl
theorem Eu (l:List Lr)(ao:Option Addr)(cap:Nat)(s n:Int)(w:World)(hs:bL w ao cap l)(hR:eY (l.map Lr.rw))(hw:(Lit.int .i64 n).wf=true):
  Calls Tryz.prog 101 #[.agg #[.slice ao l.length cap],.int .i64 s,.int .i64 n] w fun e w'=>
   ∃rs a' G,e=.returned (.tuple #[.agg #[.slice a' rs.length G],.int .i64 (gG (l.map Lr.rw) s n)])/\rs.map Lr.rw=j7 (l.map Lr.rw) s n/\bL w' a' G rs/\Below w.heap.size w w':=by
 have h4:l.length=4:=by have:=hR.four;rwa[List.length_map] at this
 have no:∀E:Int,E≠0->gG (l.map Lr.rw) s n=E->∀(e:Ending) (w':World),(e=.returned (.tuple #[.agg #[.slice none 0 0],.int .i64 E])/\Below w.heap.size w w')->
   ∃rs a' G,e=.returned (.tuple #[.agg #[.slice a' rs.length G],.int .i64 (gG (l.map Lr.rw) s n)])/\rs.map Lr.rw=j7 (l.map Lr.rw) s n/\bL w' a' G rs/\Below w.heap.size w w':=by
  rintro E hE hS e w' ⟨rfl,hb⟩
  refine⟨[],none,0,by rw[hS];rfl,?_,bL.ofNil _,hb⟩
  unfold j7
  rw[hS,if_neg hE]
  rfl
 by_cases h0:dG s 0 3=false
 .exact(Fq _ _ _ _ _ _ h0).mono (no 5 (by decide) (by unfold gG;rw[if_pos h0]))
 have OH:0<=s/\s<=3:=by
  have:dG s 0 3=true:=by simpa using h0
  exact of_decide_eq_true this
 obtain⟨k,rfl⟩:=Int.eq_ofNat_of_zero_le OH.1
 have hk:k<4:=by omega
 obtain⟨r,hr⟩:∃r,l[k]? =some r:=⟨_,List.getElem?_eq_getElem (by rw[h4];exact hk)⟩
 have hg:=OV hr
 have hf:=hR.few r.rw (List.mem_map.2 ⟨r,List.mem_of_getElem? hr,rfl⟩)
 have rQ:r.rw.blocks.length=r.bs.length:=by unfold Lr.rw;simp
 have SI:r.bs.length<=8:=by rw[<-rQ];exact hf.1
 have Tf:r.hd.length<=40:=hf.2
 have Gg:((k:Int)).toNat=k:=Int.toNat_natCast k
 rw[h4]
 by_cases h1:dG n 0 ((r.bs.length:Int)-2)=false
 .exact(Ak l ao cap k n w hs h4 hk r hr hw h1).mono (no 3 (by decide) (by unfold gG;rw[if_neg h0,Gg,hg,rQ,if_pos h1]))
 have rO:dG n 0 ((r.bs.length:Int)-2)=true:=by simpa using h1
 have hn:0<=n/\n<=(r.bs.length:Int)-2:=of_decide_eq_true rO
 obtain⟨j,rfl⟩:=Int.eq_ofNat_of_zero_le hn.1
 have Wt:((j:Int)).toNat=j:=Int.toNat_natCast j
 obtain⟨x,hx⟩:∃x,r.bs[j]? =some x:=⟨_,List.getElem?_eq_getElem (by omega)⟩
 obtain⟨y,hy⟩:∃y,r.bs[j+1]? =some y:=⟨_,List.getElem?_eq_getElem (by omega)⟩
 have hE:gG (l.map Lr.rw) k j=eA x.b y.b:=by unfold gG;rw[if_neg h0,Gg,hg,rQ,if_neg h1,Wt,xq hx,xq hy]
 refine(Iz l ao cap k j w hs h4 hk r hr SI Tf x y hx hy).mono ?_
 rintro e w' (⟨h2,rfl,hb⟩| ⟨h2,rs,a',G,rfl,Jk,hS,hb⟩)
 .exact no _ h2 hE _ _ ⟨rfl,hb⟩
 have hl:rs.length=4:=by
  have:=congrArg List.length Jk
  rw[List.length_map,List.length_set,List.length_map,h4] at this
  exact this
 refine⟨rs,a',G,by rw[hE,h2,hl],?_,hS,hb⟩
 unfold j7
 rw[hE,if_pos h2,Gg,hg,Wt,xq hx,xq hy,Jk]
 rfl
theorem Ik {w:World}{b1 b2 s1 s2 n m:Nat}{t1 t2:TypeId}{u v:Value}{xs ys:List Value}(h:w.ownsRow b1 t1 s1 u n xs)(k:w.ownsRow b2 t2 s2 v m ys)(ht:t1≠t2):Apart u v:=by
 intro g hu hv
 rcases h.2 with⟨rfl,_⟩| ⟨g1,c1,Fn,rfl,_,h1,_⟩
 .simp[Value.ownBlock] at hu
 rcases k.2 with⟨rfl,_⟩| ⟨g2,c2,Ri,rfl,_,h2,_⟩
 .simp[Value.ownBlock] at hv
 have e1:g1=g:=Option.some.inj hu
 have e2:g2=g:=Option.some.inj hv
 subst e1
 subst e2
 rw[h1] at h2
 simp only[Option.some.injEq,Obj.cells.injEq] at h2
 exact ht h2.2.1
theorem Bx {w:World}{b1 s1 n g:Nat}{t1 t2:TypeId}{u:Value}{xs cs:List Value}(h:w.ownsRow b1 t1 s1 u n xs)(B:ag w g cs t2)(ht:t1≠t2):u.ownBlock=none\/u.ownBlock≠some g:=by
 rcases h.2 with⟨rfl,_⟩| ⟨g1,c1,Fn,rfl,_,h1,_⟩
 .exact .inl rfl
 refine .inr (fun e=>?_)
 have e1:g1=g:=Option.some.inj e
 subst e1
 unfold ag at B
 rw[h1] at B
 simp only[Option.some.injEq,Obj.cells.injEq] at B
 exact ht B.2.1
def ve (n:Int)(x:Lb):Bool:= !decide (x.b.to<n)
structure lU (base:Nat)(n:Int)(w:World)(q r:Lr):Prop where
 hd:r.hd=q.hd
 ha:r.ha=q.ha
 hc:r.hc=q.hc
 bs:r.bs=q.bs.filter (ve n)
 own:w.ownsRow base 107 4 (.slice r.ba r.bs.length r.bc) r.bs.length (r.bs.flatMap Lb.cells)
theorem lU.call {base:Nat}{n:Int}{w w':World}{q r:Lr}(h:lU base n w q r)(hb:Below w.heap.size w w'):lU base n w' q r:=⟨h.hd,h.ha,h.hc,h.bs,dx h.own hb⟩
theorem lU.wrote {base:Nat}{n:Int}{w w':World}{q r:Lr}{g:Nat}{cs:List Value}{t:TypeId}(h:lU base n w q r)(hg:w.grownBy w' (some g))(B:ag w g cs t)(ht:107≠t):lU base n w' q r:=
 ⟨h.hd,h.ha,h.hc,h.bs,h.own.kept hg (Bx h.own B ht)⟩
theorem lU.apart {base b2:Nat}{n:Int}{w w':World}{q r:Lr}{v:Value}{m:Nat}{ys:List Value}(h:lU base n w q r)(hg:w.grownBy w' v.ownBlock)(k:w.ownsRow b2 53 2 v m ys):lU base n w' q r:=
 ⟨h.hd,h.ha,h.hc,h.bs,rj h.own hg (Ik h.own k (by decide))⟩
theorem lU.good {base:Nat}{n:Int}{w w':World}{q r:Lr}(h:lU base n w' q r)(hq:q.Good w)(hb:Below w.heap.size w w'):r.Good w':=by
 have g:=hq.keep hb (Nat.le_refl _)
 obtain⟨a3,c3,e3,s3,_,_⟩:=be.ofOwn Lb.four (by decide) h.own
 simp only[Value.slice.injEq,true_and] at e3
 obtain⟨e1,e2⟩:=e3
 rw[<-e1,<-e2] at s3
 have hl:r.bs.length<=q.bs.length:=by rw[h.bs];exact List.length_filter_le _ _
 have h1:=g.few
 have h2:=g.hfew
 have h3:=g.hd
 refine⟨⟨s3,fun x hx=>g.bs.good x (List.mem_filter.1 (h.bs▸hx)).1⟩,?_,by omega,by rw[h.hd];exact h2⟩
 rw[h.hd,h.ha,h.hc]
 exact h3
theorem lU.rw {base:Nat}{n:Int}{w:World}{q r:Lr}(h:lU base n w q r):r.rw=fb n q.rw:=by
 unfold Lr.rw fb
 rw[h.hd,h.bs,List.filter_map]
 rfl
theorem yH (m:Nat)(ao:Option Addr)(cap:Nat)(n:Int)(w:World)(h:dG n 0 100001=false):
  Calls Tryz.prog 102 #[.agg #[.slice ao m cap],.int .i64 n] w fun e w'=>e=.returned (.tuple #[.agg #[.slice none 0 0],.int .i64 3])/\Below w.heap.size w w':=by
 have c:=fun W=>bG n 0 100001 W
 unfold dG at h
 rw[h] at c
 clear h
 go_enter Tryz.func102,Tryz.ntmps102
 go_wp2_with fail
 go_at_call 36
 refine(c _).mono ?_
 rintro e w1 ⟨rfl,rfl⟩
 go_wp2_with fail
 exact bodyPost_ret (v:=.tuple #[.agg #[.slice none 0 0],.int .i64 3]) (by simp[results,Tryz.results102,go_sem]) rfl ⟨rfl,dN w _ _⟩
theorem EO (l:List Lr)(ao:Option Addr)(cap:Nat)(n:Int)(w:World)(hs:bL w ao cap l)(h4:l.length=4)(few:∀r∈l,r.bs.length<=8)(h:dG n 0 100001=true):
  Calls Tryz.prog 102 #[.agg #[.slice ao 4 cap],.int .i64 n] w fun e w'=>
   ∃rs a' G,e=.returned (.tuple #[.agg #[.slice a' 4 G],.int .i64 0])/\rs.map Lr.rw=(l.map Lr.rw).map (fb n)/\rs.length=4/\bL w' a' G rs/\Below w.heap.size w w':=by
 have c:=fun W=>bG n 0 100001 W
 unfold dG at h
 rw[h] at c
 clear h
 obtain⟨lb,lo,rfl,-⟩:=hs.where (by intro e;rw[e] at h4;simp at h4)
 replace h4:=aa h4
 replace few:=aa few
 obtain⟨i0,Sv,z0,z1,z2⟩:=info_parts xL
 obtain⟨i1,km,y0,y1,y2⟩:=info_parts x7
 go_enter Tryz.func102,Tryz.ntmps102
 go_wp2_with fail
 go_at_call 36
 refine(c _).mono ?_
 rintro e w1 ⟨rfl,rfl⟩
 clear c
 go_wp2_with fail
 obtain⟨BR,BO,bel⟩:=three w [.slice (some ⟨lb,lo,none⟩) 4 cap] [.slice none 0 0] [.slice none 0 0] 24
 generalize World.alloc _ _=w1 at*
 go_loopw [19] (fun i wr=>∃(k:Nat) (rs:List Lr) (a':Option Addr) (G:Nat),k<=4/\i=.int .i64 k/\Hid (rs.length=k)/\ag wr (w.heap.size+2) [.slice a' k G] 24/\wr.ownsRow (w.heap.size+3) 53 2 (.slice a' k G) k (rs.flatMap Lr.cells)/\
   Hid (∀(j:Nat) (r:Lr),rs[j]? =some r->∃q,l[j]? =some q/\lU (w.heap.size+3) n wr q r)/\ag wr (w.heap.size+1) [.slice none 0 0] 24/\Below w.heap.size w wr) (fun i _=>4-(intOf i).toNat)
 case atStart=>exact⟨0,[],none,0,by omega,rfl,rfl,BO,World.ownsRow_nil _ _ _ _,fun j r h=>by simp at h,BR,bel⟩
 case round=>
  clear BR BO bel
  obtain⟨k,rs,a',G,hk,rfl,hl,BO,own,H,BR,bel⟩:=hrel
  rename World=>wo
  by_cases aE:k<4
  .have Ad:(k:Int)<4:=by omega
   have dZ:=hs.keep bel (Nat.le_refl _)
   obtain⟨r,hr⟩:∃r,l[k]? =some r:=⟨_,List.getElem?_eq_getElem (by rw[h4.out];exact aE)⟩
   obtain⟨e0,e1,gr⟩:=dZ.at k r hr
   have fr:=few.out r (List.mem_of_getElem? hr)
   replace hr:=aa hr
   obtain⟨bs,ba,bc,hd,ha,hc⟩:=r
   simp only at*
   obtain⟨m,em⟩:∃m,m=hd.length:=⟨_,rfl⟩
   obtain⟨bn,eb⟩:∃bn,bn=bs.length:=⟨_,rfl⟩
   rw[<-eb] at e0 fr
   rw[<-em] at e1
   replace em:=aa em
   replace eb:=aa eb
   clear dZ
   have BX:=ag.laid (wo.alloc (.cells #[.slice ba bn bc,.slice ha m hc] 53)) [.slice none 0 0,.slice ha m hc] 53 (wo.heap.size+1) (by simp)
   have ei:=dN wo (.cells #[.slice ba bn bc,.slice ha m hc] 53) (.cells #[.slice none 0 0,.slice ha m hc] 53)
   have hob:=BO.lt
   go_wp2_with fail
   generalize World.alloc _ _=w2 at*
   clear e0 e1
   go_loopw [29] (fun i wr=>∃(j X1:Nat) (X:List Lb) (a3:Option Addr) (G3:Nat),j<=bn/\i=.int .i64 j/\X1<=j/\Hid (X1=X.length)/\Hid (X=(bs.take j).filter (ve n))/\ag wr (wo.heap.size+1) [.slice a3 X1 G3,.slice ha m hc] 53/\wr.ownsRow (wo.heap.size+2) 107 4 (.slice a3 X1 G3) X1 (X.flatMap Lb.cells)/\Below wo.heap.size wo wr) (fun i _=>bn-(intOf i).toNat)
   case atStart=>exact⟨0,0,[],none,0,by omega,rfl,by omega,rfl,by simp[Hid],BX,World.ownsRow_nil _ _ _ _,ei⟩
   case round=>
    clear BX ei
    obtain⟨j,X1,X,a3,G3,hj,rfl,hX1,Q8,eX,BX,tI,ei⟩:=hrel
    by_cases Tk:j<bn
    .have sb:=gr.bs.keep ei (Nat.le_refl _)
     obtain⟨b,off,rfl,ld⟩:=sb.where (by intro e;have e':bs=[]:=e;rw[eb.out,e'] at Tk;simp at Tk)
     obtain⟨x,hx⟩:∃x,bs[j]? =some x:=⟨_,List.getElem?_eq_getElem (by rw[<-eb.out];exact Tk)⟩
     obtain⟨u0,u1,u2,u3,gx⟩:=sb.at j x hx
     have tk:bs.take (j+1)=bs.take j++[x]:=by rw[List.take_add_one,hx];rfl
     replace tk:=aa tk
     obtain⟨⟨xn,xf,xT,xb⟩,xa,xc⟩:=x
     simp only at*
     obtain⟨xl,PY⟩:∃xl,xl=xb.length:=⟨_,rfl⟩
     rw[<-PY] at u3
     replace PY:=aa PY
     clear gx hx sb
     by_cases Zy:xT<n
     .have YZ:¬n<=xT:=by omega
      have RK:Hid (X=(bs.take (j+1)).filter (ve n)):=by
       rw[tk.out,List.filter_append,<-eX.out,List.filter_cons_of_neg (by simp[ve];exact Zy)]
       simp[Hid]
      have am:=ax ei (.cells #[.int .i64 xn,.int .i64 xf,.int .i64 xT,.slice xa xl xc] 107)
      have B2:=BX.alc (.cells #[.int .i64 xn,.int .i64 xf,.int .i64 xT,.slice xa xl xc] 107)
      have o2:=tI.alloc (.cells #[.int .i64 xn,.int .i64 xf,.int .i64 xT,.slice xa xl xc] 107)
      go_wp2_with fail
      go_roundw
      case rel=>exact⟨j+1,X1,X,a3,G3,by omega,by go_num,by omega,Q8,RK,B2,o2,am⟩
      case measure=>simp[intOf];omega
     have YZ:n<=xT:=by omega
     have RK:Hid (X++[⟨⟨xn,xf,xT,xb⟩,xa,xc⟩]=(bs.take (j+1)).filter (ve n)):=by
      rw[tk.out,List.filter_append,<-eX.out,List.filter_cons_of_pos (by simp[ve];omega)]
      simp[Hid]
     have am:=ax ei (.cells #[.int .i64 xn,.int .i64 xf,.int .i64 xT,.slice xa xl xc] 107)
     have B2:=BX.alc (.cells #[.int .i64 xn,.int .i64 xf,.int .i64 xT,.slice xa xl xc] 107)
     have o2:=tI.alloc (.cells #[.int .i64 xn,.int .i64 xf,.int .i64 xT,.slice xa xl xc] 107)
     have P2:=ag.laid wr [.int .i64 xn,.int .i64 xf,.int .i64 xT,.slice xa xl xc] 107 _ rfl
     go_upto_region 12 with fail
     generalize wr.heap.size=g11 at*
     generalize wr.alloc _=w3 at*
     have c0:w3.cell? ⟨wo.heap.size+1,0,none⟩=some (.slice a3 X1 G3):=B2.cell 0
     have v0:w3.cell? ⟨g11,0,none⟩=some (.int .i64 xn):=P2.cell 0
     have v1:w3.cell? ⟨g11,1,none⟩=some (.int .i64 xf):=P2.cell 1
     have v2:w3.cell? ⟨g11,2,none⟩=some (.int .i64 xT):=P2.cell 2
     have v3:w3.cell? ⟨g11,3,none⟩=some (.slice xa xl xc):=P2.cell 3
     have lx:=B2.lt
     have fc:∀u∈(#[Value.int .i64 xn,.int .i64 xf,.int .i64 xT,.slice xa xl xc]:Array Value).toList,u.oneCell'=true:=by
      intro u hu
      simp only[List.mem_cons,List.not_mem_nil,or_false] at hu
      rcases hu with rfl|rfl|rfl|rfl<;>rfl
     clear u0 u1 u2 u3
     go_wp2_with (at_builtin;refine bE w3 rfl (.tmp 38) (.tmp 40) 51 rfl (wo.heap.size+2) 107 i1 _ 4 48 Tryz.underlying51 km y0 y1 y2 rfl (by decide) (.slice a3 X1 G3) X1 _ (by rfl) o2 1 #[.int .i64 xn,.int .i64 xf,.int .i64 xT,.slice xa xl xc] 107 (by rfl) (by rfl) fc (by decide) (by unfold maxLen;omega) (by omega) (by omega) ?_)
     intro v4 w4 jR Nw YO
     have B4:=B2.grown Nw (fun q hq=>by have:=(o2.lt q hq).1;omega)
     have ay:=aG am o2 Nw (by omega) am.size
     rw[show X.flatMap Lb.cells++(#[Value.int .i64 xn,.int .i64 xf,.int .i64 xT,.slice xa xl xc]:Array Value).toList=(X++[(⟨⟨xn,xf,xT,xb⟩,xa,xc⟩:Lb)]).flatMap Lb.cells by rw[List.flatMap_append,PY.out];rfl] at jR
     obtain⟨a4,G4,rfl,_,_,_⟩:=be.ofOwn Lb.four (by decide) jR
     have l4':=B4.lt
     have f4:=B4.free 0
     have c4:w4.cell? ⟨wo.heap.size+1,0,none⟩=some (.slice a3 X1 G3):=B4.cell 0
     have B5:=B4.set 0 (.slice a4 (X1+1) G4)
     have dM:=jR.kept (row:=some (wo.heap.size+1)) (al (au w4 (some (wo.heap.size+1))) 0 (.slice a4 (X1+1) G4)) (by
      cases hv:(Value.slice a4 (X1+1) G4).ownBlock with
      |none=>exact .inl rfl
      |some q=>exact .inr (fun e=>by have:=(jR.lt q hv).1;have:=Option.some.inj e;omega))
     have br:=ay.setCell (p:=⟨wo.heap.size+1,0,none⟩) (Nat.le_succ _) (.slice a4 (X1+1) G4)
     have Z8:Hid (X1+1=(X++[(⟨⟨xn,xf,xT,xb⟩,xa,xc⟩:Lb)]).length):=by
      rw[List.length_append,<-Q8.out]
      exact aa rfl
     clear jR o2 B2 am BX tI ei
     go_wp2_with fail
     go_roundw
     case rel=>exact⟨j+1,X1+1,_,a4,G4,by omega,by go_num,by omega,Z8,RK,B5,dM,br⟩
     case measure=>simp[intOf];omega
    obtain rfl:j=bn:=by omega
    have Q6:=eX.out
    rw[eb.out,List.take_length] at Q6
    have Pe:=BO.keep ei BO.lt
    have ma:=BR.keep ei BR.lt
    have eV:=dx own ei
    have am:Below w.heap.size w wr:=bel.trans (ei.mono bel.size)
    have c0:wr.cell? ⟨wo.heap.size+1,0,none⟩=some (.slice a3 X1 G3):=BX.cell 0
    have c1:wr.cell? ⟨wo.heap.size+1,1,none⟩=some (.slice ha m hc):=BX.cell 1
    have c2:wr.cell? ⟨w.heap.size+2,0,none⟩=some (.slice a' k G):=Pe.cell 0
    have U0:=Pe.lt
    have lx:=BX.lt
    replace Q6:=aa Q6
    have fc:∀u∈(#[Value.slice a3 X1 G3,.slice ha m hc]:Array Value).toList,u.oneCell'=true:=by
     intro u hu
     simp only[List.mem_cons,List.not_mem_nil,or_false] at hu
     rcases hu with rfl|rfl<;>rfl
    go_wp2_with (at_builtin;refine bE wr rfl (.tmp 45) (.tmp 47) 22 rfl (w.heap.size+3) 53 i0 _ 2 48 Tryz.underlying22 Sv z0 z1 z2 rfl (by decide) (.slice a' k G) k _ (by rfl) eV 1 #[.slice a3 X1 G3,.slice ha m hc] 53 (by rfl) (by rfl) fc (by decide) (by unfold maxLen;omega) (by omega) (by omega) ?_)
    intro v5 w5 dM gI Cj
    have L4:=Pe.grown gI (fun q hq=>by have:=(eV.lt q hq).1;omega)
    have Cn:=ma.grown gI (fun q hq=>by have:=(eV.lt q hq).1;omega)
    have br:=aG am eV gI (by omega) am.size
    rw[show rs.flatMap Lr.cells++(#[Value.slice a3 X1 G3,.slice ha m hc]:Array Value).toList=(rs++[(⟨X,a3,G3,hd,ha,hc⟩:Lr)]).flatMap Lr.cells by rw[List.flatMap_append,Q8.out,em.out];rfl] at dM
    obtain⟨a5,G5,rfl,_,_,_⟩:=be.ofOwn Lr.two (by decide) dM
    have H5:∀(j:Nat) (r:Lr),(rs++[(⟨X,a3,G3,hd,ha,hc⟩:Lr)])[j]? =some r->∃q,l[j]? =some q/\lU (w.heap.size+3) n (w5.setCell ⟨w.heap.size+2,0,none⟩ (.slice a5 (k+1) G5)) q r:=by
     intro i r hi
     have hg:=al (au w5 (some (w.heap.size+2))) 0 (.slice a5 (k+1) G5)
     by_cases ZA:i<k
     .rw[List.getElem?_append_left (by rw[hl.out];exact ZA)] at hi
      obtain⟨q,h1,h2⟩:=H.out i r hi
      exact⟨q,h1,((h2.call ei).apart gI eV).wrote hg L4 (by decide)⟩
     rw[List.getElem?_append_right (by rw[hl.out];omega),hl.out] at hi
     have e0:i-k=0:=by
      have:=(List.getElem?_eq_some_iff.1 hi).1
      simpa using this
     rw[e0] at hi
     obtain rfl:i=k:=by omega
     simp at hi
     subst hi
     have o:=rg tI (show w.heap.size+3<=wo.heap.size+2 by omega)
     rw[Q8.out] at o
     have C:lU (w.heap.size+3) n wr ⟨bs,ba,bc,hd,ha,hc⟩ ⟨X,a3,G3,hd,ha,hc⟩:=⟨rfl,rfl,rfl,Q6.out,o⟩
     exact⟨_,hr.out,(C.apart gI eV).wrote hg L4 (by decide)⟩
    have d8:=dM.kept (row:=some (w.heap.size+2)) (al (au w5 (some (w.heap.size+2))) 0 (.slice a5 (k+1) G5)) (by
     cases hv:(Value.slice a5 (k+1) G5).ownBlock with
     |none=>exact .inl rfl
     |some q=>exact .inr (fun e=>by have:=(dM.lt q hv).1;have:=Option.some.inj e;omega))
    have B6:=L4.set 0 (.slice a5 (k+1) G5)
    have R6:=Cn.other 0 (.slice a5 (k+1) G5) (show w.heap.size+2≠w.heap.size+1 by omega)
    have dD:=br.setCell (p:=⟨w.heap.size+2,0,none⟩) (show w.heap.size<=w.heap.size+2 by omega) (.slice a5 (k+1) G5)
    have l5:=L4.lt
    have f5:=L4.free 0
    have c5:w5.cell? ⟨w.heap.size+2,0,none⟩=some (.slice a' k G):=L4.cell 0
    have Yl:Hid ((rs++[(⟨X,a3,G3,hd,ha,hc⟩:Lr)]).length=k+1):=by
     rw[List.length_append,hl.out]
     exact aa rfl
    replace H5:=aa H5
    clear dM eV Pe ma am gI Cj
    go_wp2_with fail
    go_roundw
    case rel=>exact⟨k+1,_,a5,G5,by omega,by go_num,Yl,B6,d8,H5,R6,dD⟩
    case measure=>simp[intOf];omega
  obtain rfl:k=4:=by omega
  have c2:wo.cell? ⟨w.heap.size+2,0,none⟩=some (.slice a' 4 G):=BO.cell 0
  have lR:=BR.lt
  have lO:=BO.lt
  have fR:=BR.free 0
  have dR:wo.cell? ⟨w.heap.size+1,0,none⟩=some (.slice none 0 0):=BR.cell 0
  have hg:=al (au wo (some (w.heap.size+1))) 0 (.slice a' 4 G)
  have dD:=bel.setCell (p:=⟨w.heap.size+1,0,none⟩) (Nat.le_succ _) (.slice a' 4 G)
  have d8:=own.kept hg (Bx own BR (by decide))
  have H6:∀(j:Nat) (r:Lr),rs[j]? =some r->∃q,l[j]? =some q/\lU (w.heap.size+3) n (wo.setCell ⟨w.heap.size+1,0,none⟩ (.slice a' 4 G)) q r:=by
   intro j r hj
   obtain⟨q,h1,h2⟩:=H.out j r hj
   exact⟨q,h1,h2.wrote hg BR (by decide)⟩
  obtain⟨a9,G9,e9,s9,_,_⟩:=be.ofOwn Lr.two (by decide) d8
  simp only[Value.slice.injEq,true_and] at e9
  obtain⟨rfl,rfl⟩:=e9
  have S9:bL (wo.setCell ⟨w.heap.size+1,0,none⟩ (.slice a' 4 G)) a' G rs:=by
   refine⟨s9,fun r hr=>?_⟩
   obtain⟨j,hj⟩:=List.mem_iff_getElem?.1 hr
   obtain⟨q,h1,h2⟩:=H6 j r hj
   exact h2.good (hs.good q (List.mem_of_getElem? h1)) dD
  have E9:rs.map Lr.rw=(l.map Lr.rw).map (fb n):=by
   apply List.ext_getElem?
   intro j
   rw[List.getElem?_map,List.getElem?_map,List.getElem?_map]
   cases hj:rs[j]? with
   |none=>
    have:l[j]? =none:=by
     rw[List.getElem?_eq_none_iff] at hj⊢
     rw[h4.out,<-hl.out]
     exact hj
    rw[this]
    rfl
   |some r=>
    obtain⟨q,h1,h2⟩:=H6 j r hj
    rw[h1]
    simp[h2.rw]
  replace E9:=aa E9
  clear H6 H own d8 s9 hg
  go_wp2_with fail
  exact bodyPost_ret (v:=.tuple #[.agg #[.slice a' 4 G],.int .i64 0]) (by simp[results,Tryz.results102,go_sem,dR]) rfl ⟨rs,_,_,rfl,E9.out,hl.out,S9,dD⟩
theorem DA (l:List Lr)(ao:Option Addr)(cap:Nat)(n:Int)(w:World)(hs:bL w ao cap l)(hR:eY (l.map Lr.rw)):
  Calls Tryz.prog 102 #[.agg #[.slice ao l.length cap],.int .i64 n] w fun e w'=>
   ∃rs a' G,e=.returned (.tuple #[.agg #[.slice a' rs.length G],.int .i64 (fN n)])/\rs.map Lr.rw=iI (l.map Lr.rw) n/\bL w' a' G rs/\Below w.heap.size w w':=by
 have h4:l.length=4:=by have:=hR.four;rwa[List.length_map] at this
 cases h:dG n 0 100001 with
 |false=>
  have e:fN n=3:=by unfold fN;rw[if_pos h]
  refine(yH l.length ao cap n w h).mono ?_
  rintro _ w' ⟨rfl,b⟩
  exact⟨[],none,0,by rw[e];rfl,by unfold iI;rw[e];rfl,bL.ofNil _,b⟩
 |true=>
  have e:fN n=0:=by unfold fN;rw[if_neg (by rw[h];decide)]
  rw[h4]
  refine(EO l ao cap n w hs h4 (fun r hr=>?_) h).mono ?_
  .have:=(hR.few r.rw (List.mem_map.2 ⟨r,hr,rfl⟩)).1
   unfold Lr.rw at this
   simpa using this
  rintro _ w' ⟨rs,a',G,rfl,h1,h2,h3,h5⟩
  exact⟨rs,a',G,by rw[e,h2],by unfold iI;rw[if_pos e];exact h1,h3,h5⟩
end Go.Proofs.YtoonnbhoiocoeaaGreatDoor
