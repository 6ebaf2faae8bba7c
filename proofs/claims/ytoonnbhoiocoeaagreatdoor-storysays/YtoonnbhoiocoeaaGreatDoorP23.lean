/-
  slices.Grow of a nil slice and slices.Concat of two, at bytes: the new row, in new memory.
-/
import Derived.Lib.AppendZeros
import Derived.Maps.OwnSet
import Derived.Maps.Views
import Derived.Maps.StringElems
import Derived.Test.YtoonnbhoiocoeaaGreatDoorP07
import Derived.Test.YtoonnbhoiocoeaaGreatDoorP03
import Derived.Test.YtoonnbhoiocoeaaGreatDoorP22
import Derived.Test.YtoonnbhoiocoeaaGreatDoorP19
import Derived.Test.YtoonnbhoiocoeaaGreatDoorP20
import Derived.Test.YtoonnbhoiocoeaaGreatDoorP04
import Derived.Test.YtoonnbhoiocoeaaGreatDoorP21
set_option maxHeartbeats 40000000
set_option maxRecDepth 100000
set_option linter.unusedVariables false
namespace Go.Proofs.YtoonnbhoiocoeaaGreatDoor
open Go.RowKit
theorem EM (w:World):
  Calls Tryz.prog 96 #[.slice none 0 0,.int .i64 0] w fun e w'=>e=.returned (.slice none 0 0)/\w=w':=by
 go_enter Tryz.func96,Tryz.ntmps96
 go_wp2
 go_ret
 exact⟨rfl,rfl⟩
theorem oc (z:Value)(n:Nat):(Builtin.zeroCells #[z] n)=(List.replicate n z).toArray:=by
 unfold Builtin.zeroCells
 apply Array.ext
 .simp
 .intro i h1 h2
  simp[Nat.mod_one]
theorem Ff (n:Nat)(w:World)(h0:0<n)(hn:n<=140737488355328):
  Calls Tryz.prog 96 #[.slice none 0 0,.int .i64 n] w fun e w'=>∃G,e=.returned (.slice (some ⟨w.heap.size,0,none⟩) 0 G)/\n<=G/\G<=maxLen/\ac w' w.heap.size (List.replicate G (.int .u8 0)) 5/\Below w.heap.size w w':=by
 obtain⟨i0,hi,bU,bi,bk⟩:=info_parts yd
 have LA:=fun ty=>Lib.run_append_nil_zeros (P:=Tryz.prog) w 25 3 ty 5 i0 (.int .u8 0) .i64 .i64 Tryz.underlying25 Tryz.underlying3 hi bU n h0 (by omega) (by omega) (by rw[bk];omega)
 have FB:n<=grownCap w n 0 5:=grownCap_ge w _ _ _
 have rp:grownCap w n 0 5<=maxLen:=grownCap_le_maxLen w n 0 _ (by unfold maxLen;omega)
 generalize grownCap w n 0 5=G at*
 have Lx:=rp
 unfold maxLen at Lx
 go_enter Tryz.func96,Tryz.ntmps96
 go_wp2_with (at_builtin;refine Lib.wpList_append_run _ rfl _ _ _ _ rfl _ _ rfl rfl _ _ (LA _) ?_)
 go_ret
 refine⟨G,rfl,FB,rp,?_,?_⟩
 .have e:Builtin.zeroCells #[Value.int .u8 0] n++Builtin.zeroCells #[Value.int .u8 0] (G-n)=(List.replicate G (Value.int .u8 0)).toArray:=by
   rw[oc,oc,List.append_toArray,List.replicate_append_replicate]
   congr 2
   omega
  have h:=ac.laid w (List.replicate G (Value.int .u8 0)) 5 _ rfl
  rw[<-e] at h
  exact h
 .repeat(first|exact Below.refl _ _|apply Below.drew|refine Below.alloc ?_ (by simp) _)
theorem yT (B:Nat)(a1 a2:Option Addr)(c1 c2:Nat)(l1 l2:List Value)(w:World)(e0:w.cell? ⟨B,0,none⟩=some (.slice a1 l1.length c1))(e1:w.cell? ⟨B,1,none⟩=some (.slice a2 l2.length c2))
  (s1:Sl w a1 c1 l1) (s2:Sl w a2 c2 l2) (o1:∀v∈l1,v.oneCell'=true) (o2:∀v∈l2,v.oneCell'=true) (h0:0<l1.length+l2.length) (hm:l1.length+l2.length<=140737488355328) (hB:B<w.heap.size):
  Calls Tryz.prog 57 #[.slice (some ⟨B,0,none⟩) 2 2] w fun e w'=>∃g G,e=.returned (.slice (some ⟨g,0,none⟩) (l1.length+l2.length) G)/\Sl w' (some ⟨g,0,none⟩) G (l1++l2)/\Below w.heap.size w w':=by
 obtain⟨i0,hi,bU,bi,bk⟩:=info_parts yd
 go_enter Tryz.func57,Tryz.ntmps57
 go_wp2_with fail
 refine wp_loop_rounds 3 ?_
 rw[rounds_succ]
 go_wp2_with fail
 rw[rounds_succ]
 go_wp2_with fail
 rw[rounds_succ]
 go_wp2_with fail
 have hg:=Ff (l1.length+l2.length) w h0 hm
 rw[Int.natCast_add] at hg
 refine hg.mono ?_
 rintro e w1 ⟨G,rfl,FB,rp,B0,bel⟩
 clear hg
 have f0:w1.cell? ⟨B,0,none⟩=some (.slice a1 l1.length c1):=(bel.cell (p:=⟨B,0,none⟩) hB).trans e0
 have f1:w1.cell? ⟨B,1,none⟩=some (.slice a2 l2.length c2):=(bel.cell (p:=⟨B,1,none⟩) hB).trans e1
 have t1:=s1.keep bel (Nat.le_refl _)
 have fj:w1.ownsRow w.heap.size 5 1 (.slice (some ⟨w.heap.size,0,none⟩) 0 G) 0 []:=by
  have h:=ui B0 w.heap.size (Nat.le_refl _) 0 (Nat.zero_le _) (by simpa using rp)
  simpa using h
 have az:=B0.lt
 clear e0 e1 B0
 have b1:0+l1.length<=G:=by omega
 have x1:=t1.src
 have y1:=t1.src0
 go_wp2_with fail
 refine wp_loop_rounds 3 ?_
 rw[rounds_succ]
 go_wp2_with (at_builtin;refine wpList_append_fits_any _ rfl (.tmp 31) (.tmp 32) 25 rfl w.heap.size 5 i0 1 Tryz.underlying25 hi bi w.heap.size 0 G [] rfl fj a1 l1.length c1 l1 rfl (Nat.mul_one _).symm y1 x1 o1 b1 ?_)
 intro w2 eB cY
 have al:Below w.heap.size w w2:=bel.grown cY (by omega) (fun k h=>by cases h;exact Nat.le_refl _)
 have f2:w2.cell? ⟨B,1,none⟩=some (.slice a2 l2.length c2):=cY.cell f1 (by intro e;have h:B=w.heap.size:=Option.some.inj e;omega)
 have t2:=s2.keep al (Nat.le_refl _)
 have x2:=t2.src
 have y2:=t2.src0
 clear f0 f1 x1 y1 t1 fj bel cY b1
 have b2:l1.length+l2.length<=G:=by omega
 go_wp2_with fail
 rw[rounds_succ]
 go_wp2_with (at_builtin;refine wpList_append_fits_any _ rfl (.tmp 31) (.tmp 32) 25 rfl w.heap.size 5 i0 1 Tryz.underlying25 hi bi w.heap.size l1.length G l1 rfl eB a2 l2.length c2 l2 rfl (Nat.mul_one _).symm y2 x2 o2 b2 ?_)
 intro w3 eM eV
 have ay:Below w.heap.size w w3:=al.grown eV (al.size) (fun k h=>by cases h;exact Nat.le_refl _)
 clear f2 x2 y2 t2 eB al eV
 go_wp2_with fail
 rw[rounds_succ]
 go_wp2_with fail
 go_ret
 exact⟨w.heap.size,G,rfl,(Dq eM).1,ay⟩
theorem oB (w:World)(ty:TypeId)(ao:Option Addr)(c:Nat):
  (Builtin.append_ #[25,25] ty #[.slice none 0 0,.slice ao 0 c]).run Tryz.prog w=.ok (.slice none 0 0) w:=by
 obtain⟨i0,hi,bU,bi,bk⟩:=info_parts yd
 cases ao with
 |none=>simp[Builtin.append_,run_underlying Tryz.underlying25,sizeOf,typeInfo,hi,Builtin.lenOf,run_firstCells_none]
 |some a=>
  have hf:=run_firstCells_some (P:=Tryz.prog) w i0.size 0 a 0 c [] (by simp) (fun j v h=>by simp at h)
  simp[Builtin.append_,run_underlying Tryz.underlying25,sizeOf,typeInfo,hi,Builtin.lenOf,hf]
theorem zr (B:Nat)(a1 a2:Option Addr)(c1 c2:Nat)(w:World)(e0:w.cell? ⟨B,0,none⟩=some (.slice a1 0 c1))(e1:w.cell? ⟨B,1,none⟩=some (.slice a2 0 c2)):
  Calls Tryz.prog 57 #[.slice (some ⟨B,0,none⟩) 2 2] w fun e w'=>e=.returned (.slice none 0 0)/\w=w':=by
 go_enter Tryz.func57,Tryz.ntmps57
 go_wp2_with fail
 refine wp_loop_rounds 3 ?_
 rw[rounds_succ]
 go_wp2_with fail
 rw[rounds_succ]
 go_wp2_with fail
 rw[rounds_succ]
 go_wp2_with (go_at_call 96;refine(EM _).mono ?_;rintro e w' ⟨rfl,rfl⟩)
 refine wp_loop_rounds 3 ?_
 rw[rounds_succ]
 go_wp2_with (at_builtin;refine Lib.wpList_append_run _ rfl _ _ _ _ rfl _ _ rfl rfl _ _ (oB _ _ _ _) ?_)
 rw[rounds_succ]
 go_wp2_with (at_builtin;refine Lib.wpList_append_run _ rfl _ _ _ _ rfl _ _ rfl rfl _ _ (oB _ _ _ _) ?_)
 rw[rounds_succ]
 go_wp2_with fail
 go_ret
 exact⟨rfl,rfl⟩
theorem Cb (B:Nat)(a1 a2:Option Addr)(c1 c2:Nat)(l1 l2:List Value)(w:World)(e0:w.cell? ⟨B,0,none⟩=some (.slice a1 l1.length c1))(e1:w.cell? ⟨B,1,none⟩=some (.slice a2 l2.length c2))
  (s1:Sl w a1 c1 l1) (s2:Sl w a2 c2 l2) (o1:∀v∈l1,v.oneCell'=true) (o2:∀v∈l2,v.oneCell'=true) (hm:l1.length+l2.length<=140737488355328) (hB:B<w.heap.size):
  Calls Tryz.prog 57 #[.slice (some ⟨B,0,none⟩) 2 2] w fun e w'=>∃ao G,e=.returned (.slice ao (l1++l2).length G)/\Sl w' ao G (l1++l2)/\Below w.heap.size w w':=by
 rw[List.length_append]
 by_cases h0:0<l1.length+l2.length
 .refine(yT B a1 a2 c1 c2 l1 l2 w e0 e1 s1 s2 o1 o2 h0 hm hB).mono ?_
  rintro e w' ⟨g,G,he,hs,hb⟩
  exact⟨_,G,he,hs,hb⟩
 .obtain rfl:l1=[]:=List.eq_nil_of_length_eq_zero (by omega)
  obtain rfl:l2=[]:=List.eq_nil_of_length_eq_zero (by omega)
  refine(zr B a1 a2 c1 c2 w e0 e1).mono ?_
  rintro e w' ⟨he,rfl⟩
  exact⟨none,0,he,Sl.ofNil _,Below.refl _ _⟩
end Go.Proofs.YtoonnbhoiocoeaaGreatDoor
namespace Go.Proofs.YtoonnbhoiocoeaaGreatDoor
open Go.RowKit
open Go.Lib (byteCells)
theorem wh {d:Dk}(h:cT d=0):d.safe.length+d.wait.length<=60000:=by
 unfold cT at h
 split at h
 .cases h
 .omega
theorem MS (B:Nat)(a1 a2:Option Addr)(c1 c2 n1 n2:Nat)(l m:List UInt8)(w:World)(e0:w.cell? ⟨B,0,none⟩=some (.slice a1 n1 c1))(e1:w.cell? ⟨B,1,none⟩=some (.slice a2 n2 c2))(s1:Sl w a1 c1 (byteCells l))(s2:Sl w a2 c2 (byteCells m))(h1:n1=l.length)(h2:n2=m.length)(few:n1+n2<=1000000)(hB:B<w.heap.size):
  Calls Tryz.prog 57 #[.slice (some ⟨B,0,none⟩) 2 2] w fun e w'=>∃ao G,e=.returned (.slice ao (n1+n2) G)/\Sl w' ao G (byteCells (l++m))/\Below w.heap.size w w':=by
 have k1:n1=(byteCells l).length:=by rw[Lib.byteCells_length];exact h1
 have k2:n2=(byteCells m).length:=by rw[Lib.byteCells_length];exact h2
 have e:byteCells (l++m)=byteCells l++byteCells m:=by simp[byteCells]
 rw[e]
 have c:=Cb B a1 a2 c1 c2 (byteCells l) (byteCells m) w (by rw[<-k1];exact e0) (by rw[<-k2];exact e1) s1 s2 (byteCells_one l) (byteCells_one m) (by rw[<-k1,<-k2];omega) hB
 rw[List.length_append,<-k1,<-k2] at c
 exact c
end Go.Proofs.YtoonnbhoiocoeaaGreatDoor
namespace Go.Proofs.YtoonnbhoiocoeaaGreatDoor
open Go.RowKit
theorem yQ (w:World):Calls Tryz.prog 97 #[.slice none 0 0,.int .i64 0] w fun e w'=>e=.returned (.slice none 0 0)/\w=w':=by
 go_enter Tryz.func97,Tryz.ntmps97
 go_wp2
 go_ret
 exact⟨rfl,rfl⟩
theorem vj (z:Array Value)(n:Nat):(Builtin.zeroCells z n).size=n*z.size:=by
 unfold Builtin.zeroCells
 simp
theorem K6 (n:Nat)(w:World)(h0:0<n)(hn:n<=1000000):
  Calls Tryz.prog 97 #[.slice none 0 0,.int .i64 n] w fun e w'=>∃G,e=.returned (.slice (some ⟨w.heap.size,0,none⟩) 0 G)/\n<=G/\G<=maxLen/\w'.ownsRow w.heap.size 73 4 (.slice (some ⟨w.heap.size,0,none⟩) 0 G) 0 []/\Below w.heap.size w w':=by
 obtain⟨i0,hi,bU,bi,bk⟩:=info_parts od
 have LA:=fun ty=>Lib.run_append_nil_zeros (P:=Tryz.prog) w 45 3 ty 73 i0 (.agg #[.int .i64 0,.int .i64 0,.int .i64 0,.slice none 0 0]) .i64 .i64 Tryz.underlying45 Tryz.underlying3 hi bU n h0 (by omega) (by omega) (by rw[bk];omega)
 have FB:n<=grownCap w n 0 73:=grownCap_ge w _ _ _
 have rp:grownCap w n 0 73<=maxLen:=grownCap_le_maxLen w n 0 _ (by unfold maxLen;omega)
 generalize grownCap w n 0 73=G at*
 have Lx:=rp
 unfold maxLen at Lx
 go_enter Tryz.func97,Tryz.ntmps97
 go_wp2_with (at_builtin;refine Lib.wpList_append_run _ rfl _ _ _ _ rfl _ _ rfl rfl _ _ (LA _) ?_)
 go_ret
 refine⟨G,rfl,FB,rp,?_,?_⟩
 .refine⟨rfl,.inr ⟨w.heap.size,G,_,rfl,Nat.le_refl _,heap_alloc_new _ _,Nat.zero_le _,rp,?_,by simp⟩⟩
  rw[Array.size_append,vj,vj]
  show n*4+(G-n)*4=G*4
  omega
 .repeat(first|exact Below.refl _ _|apply Below.drew|refine Below.alloc ?_ (by simp) _)
theorem rI (w:World)(ty:TypeId)(ao:Option Addr)(c:Nat):
  (Builtin.append_ #[45,45] ty #[.slice none 0 0,.slice ao 0 c]).run Tryz.prog w=.ok (.slice none 0 0) w:=by
 obtain⟨i0,hi,bU,bi,bk⟩:=info_parts od
 cases ao with
 |none=>simp[Builtin.append_,run_underlying Tryz.underlying45,sizeOf,typeInfo,hi,Builtin.lenOf,run_firstCells_none]
 |some a=>
  have hf:=run_firstCells_some (P:=Tryz.prog) w i0.size 0 a 0 c [] (by simp) (fun j v h=>by simp at h)
  simp[Builtin.append_,run_underlying Tryz.underlying45,sizeOf,typeInfo,hi,Builtin.lenOf,hf]
theorem yX (B:Nat)(a1 a2:Option Addr)(c1 c2:Nat)(w:World)(e0:w.cell? ⟨B,0,none⟩=some (.slice a1 0 c1))(e1:w.cell? ⟨B,1,none⟩=some (.slice a2 0 c2)):
  Calls Tryz.prog 58 #[.slice (some ⟨B,0,none⟩) 2 2] w fun e w'=>e=.returned (.slice none 0 0)/\w=w':=by
 go_enter Tryz.func58,Tryz.ntmps58
 go_wp2_with fail
 refine wp_loop_rounds 3 ?_
 rw[rounds_succ]
 go_wp2_with fail
 rw[rounds_succ]
 go_wp2_with fail
 rw[rounds_succ]
 go_wp2_with (go_at_call 97;refine(yQ _).mono ?_;rintro e w' ⟨rfl,rfl⟩)
 refine wp_loop_rounds 3 ?_
 rw[rounds_succ]
 go_wp2_with (at_builtin;refine Lib.wpList_append_run _ rfl _ _ _ _ rfl _ _ rfl rfl _ _ (rI _ _ _ _) ?_)
 rw[rounds_succ]
 go_wp2_with (at_builtin;refine Lib.wpList_append_run _ rfl _ _ _ _ rfl _ _ rfl rfl _ _ (rI _ _ _ _) ?_)
 rw[rounds_succ]
 go_wp2_with fail
 go_ret
 exact⟨rfl,rfl⟩
theorem Row.srcR {w:World}{ao:Option Addr}{cs:List Value}(h:Row w ao cs):∀ad,ao=some ad->∀j u,cs[j]? =some u->w.cell? (ad.add j)=some u:=by
 intro ad wS j u hu
 obtain⟨b,off,e,_,hc⟩:=h.at (by intro e;rw[e] at hu;simp at hu)
 rw[e] at wS
 obtain rfl:=Option.some.inj wS
 rw[Addr.add_lit]
 exact hc j u hu
theorem zv (B:Nat)(a1 a2:Option Addr)(c1 c2 n1 n2:Nat)(C1 C2:List Value)(w:World)(e0:w.cell? ⟨B,0,none⟩=some (.slice a1 n1 c1))(e1:w.cell? ⟨B,1,none⟩=some (.slice a2 n2 c2))
  (s1:Row w a1 C1) (s2:Row w a2 C2) (h1:C1.length=n1*4) (h2:C2.length=n2*4) (y1:a1=none->n1=0/\c1=0) (y2:a2=none->n2=0/\c2=0)
  (o1:∀v∈C1,v.oneCell'=true) (o2:∀v∈C2,v.oneCell'=true) (h0:0<n1+n2) (hm:n1+n2<=1000000) (hB:B<w.heap.size):
  Calls Tryz.prog 58 #[.slice (some ⟨B,0,none⟩) 2 2] w fun e w'=>∃g G,e=.returned (.slice (some ⟨g,0,none⟩) (n1+n2) G)/\w'.ownsRow w.heap.size 73 4 (.slice (some ⟨g,0,none⟩) (n1+n2) G) (n1+n2) (C1++C2)/\Below w.heap.size w w':=by
 obtain⟨i0,hi,bU,bi,bk⟩:=info_parts od
 replace h1:=hide h1
 replace h2:=hide h2
 go_enter Tryz.func58,Tryz.ntmps58
 go_wp2_with fail
 refine wp_loop_rounds 3 ?_
 rw[rounds_succ]
 go_wp2_with fail
 rw[rounds_succ]
 go_wp2_with fail
 rw[rounds_succ]
 go_wp2_with fail
 have hg:=K6 (n1+n2) w h0 hm
 rw[Int.natCast_add] at hg
 refine hg.mono ?_
 rintro e w1 ⟨G,rfl,FB,rp,fj,bel⟩
 clear hg
 have f0:w1.cell? ⟨B,0,none⟩=some (.slice a1 n1 c1):=(bel.cell (p:=⟨B,0,none⟩) hB).trans e0
 have f1:w1.cell? ⟨B,1,none⟩=some (.slice a2 n2 c2):=(bel.cell (p:=⟨B,1,none⟩) hB).trans e1
 have t1:=(s1.keep bel (Nat.le_refl _)).srcR
 have az:=(fj.lt w.heap.size rfl).2
 clear e0 e1
 have b1:0+n1<=G:=by omega
 go_wp2_with fail
 refine wp_loop_rounds 3 ?_
 rw[rounds_succ]
 go_wp2_with (at_builtin;refine wpList_append_fits_any _ rfl (.tmp 31) (.tmp 32) 45 rfl w.heap.size 73 i0 4 Tryz.underlying45 hi bi w.heap.size 0 G [] rfl fj a1 n1 c1 C1 rfl h1.out y1 t1 o1 b1 ?_)
 intro w2 eB cY
 have al:Below w.heap.size w w2:=bel.grown cY (by omega) (fun k h=>by cases h;exact Nat.le_refl _)
 have f3:w2.cell? ⟨B,1,none⟩=some (.slice a2 n2 c2):=cY.cell f1 (by intro e;have h:B=w.heap.size:=Option.some.inj e;omega)
 have t2:=(s2.keep al (Nat.le_refl _)).srcR
 clear f0 f1 t1 fj bel cY b1
 have b2:n1+n2<=G:=by omega
 go_wp2_with fail
 rw[rounds_succ]
 go_wp2_with (at_builtin;refine wpList_append_fits_any _ rfl (.tmp 31) (.tmp 32) 45 rfl w.heap.size 73 i0 4 Tryz.underlying45 hi bi w.heap.size n1 G C1 rfl eB a2 n2 c2 C2 rfl h2.out y2 t2 o2 b2 ?_)
 intro w3 eM eV
 have ay:Below w.heap.size w w3:=al.grown eV (al.size) (fun k h=>by cases h;exact Nat.le_refl _)
 go_wp2_with fail
 rw[rounds_succ]
 go_wp2_with fail
 go_ret
 exact⟨w.heap.size,G,rfl,eM,ay⟩
theorem vA (l:List bF):∀v∈l.flatMap bF.cells,v.oneCell'=true:=by
 intro v hv
 obtain⟨x,_,h⟩:=List.mem_flatMap.1 hv
 simp only[bF.cells,List.mem_cons,List.not_mem_nil,or_false] at h
 rcases h with rfl|rfl|rfl|rfl<;>rfl
theorem vx (l:List bF):(l.flatMap bF.cells).length=l.length*4:=by
 induction l with
 |nil=>rfl
 |cons x r ih=>rw[List.flatMap_cons,List.length_append,ih,bF.four,List.length_cons];omega
theorem H8 (B:Nat)(a1 a2:Option Addr)(c1 c2 n1 n2:Nat)(l m:List bF)(w:World)(e0:w.cell? ⟨B,0,none⟩=some (.slice a1 n1 c1))(e1:w.cell? ⟨B,1,none⟩=some (.slice a2 n2 c2))(s1:dI w a1 c1 l)(s2:dI w a2 c2 m)(h1:n1=l.length)(h2:n2=m.length)(few:n1+n2<=1000000)(hB:B<w.heap.size):
  Calls Tryz.prog 58 #[.slice (some ⟨B,0,none⟩) 2 2] w fun e w'=>∃ao G,e=.returned (.slice ao (n1+n2) G)/\dI w' ao G (l++m)/\Below w.heap.size w w':=by
 by_cases h0:0<n1+n2
 .refine(zv B a1 a2 c1 c2 n1 n2 (l.flatMap bF.cells) (m.flatMap bF.cells) w e0 e1 s1.row.row s2.row.row (by rw[vx,h1]) (by rw[vx,h2]) (fun h=>⟨by have:=s1.row.nil h;have:=s1.row.le;omega,s1.row.nil h⟩) (fun h=>⟨by have:=s2.row.nil h;have:=s2.row.le;omega,s2.row.nil h⟩) (vA l) (vA m) h0 few hB).mono ?_
  rintro e w' ⟨g,G,rfl,own,b⟩
  rw[<-List.flatMap_append] at own
  obtain⟨a9,G9,e9,S9,_,_⟩:=aY.ofOwn bF.four (by decide) own
  simp only[Value.slice.injEq,true_and] at e9
  obtain⟨rfl,rfl⟩:=e9
  refine⟨_,_,rfl,⟨S9,fun x hx=>?_⟩,b⟩
  rcases List.mem_append.1 hx with hx|hx
  .exact(s1.ent x hx).call b
  .exact(s2.ent x hx).call b
 .obtain rfl:n1=0:=by omega
  obtain rfl:n2=0:=by omega
  obtain rfl:=List.length_eq_zero_iff.1 h1.symm
  obtain rfl:=List.length_eq_zero_iff.1 h2.symm
  refine(yX B a1 a2 c1 c2 w e0 e1).mono ?_
  rintro e w' ⟨rfl,rfl⟩
  exact⟨none,0,rfl,⟨aY.ofNil _ _,fun x h=>by simp at h⟩,Below.refl _ _⟩
end Go.Proofs.YtoonnbhoiocoeaaGreatDoor
namespace Go.Proofs.YtoonnbhoiocoeaaGreatDoor
open Go.RowKit
open Go.Lib (byteCells)
def Wx (w:World)(D:Dk)(L:List Rc)(e:Ending)(w':World):Prop:=
 ∃(a1 a2 a3:Option Addr) (n1 n2 c1 c2 n3 G3:Nat) (l:List bF),e=.returned (.tuple #[.agg #[.slice a1 n1 c1,.slice a2 n2 c2],.slice a3 n3 G3])/\n1=D.safe.length/\n2=D.wait.length/\Sl w' a1 c1 (byteCells D.safe)/\Sl w' a2 c2 (byteCells D.wait)/\dI w' a3 G3 l/\n3=l.length/\l.map (·.r)=L/\Below w.heap.size w w'
theorem dI.set2 {w:World}{a:Option Addr}{G g:Nat}{l:List bF}{a1 a2:Option Addr}{n1 n2 c1 c2:Nat}(h:dI w a G l)(B:ac w g [.slice a1 n1 c1,.slice a2 n2 c2] 27)(u0 u1:Value):dI ((w.setCell ⟨g,0,none⟩ u0).setCell ⟨g,1,none⟩ u1) a G l:=by
 have one:∀ {α:Type} {f:α->List Value} {a:Option Addr} {cap:Nat} {xs:List α} (sz:Nat),(∀x,(f x).length=sz)->0<sz->(∀x,∃v,(f x)[0]? =some (.int .i64 v))->aY f w a cap xs->aY f ((w.setCell ⟨g,0,none⟩ u0).setCell ⟨g,1,none⟩ u1) a cap xs:=by
  intro α f a cap xs sz dz h0 hk S
  obtain⟨hr,h1,h2,h3⟩:=S
  refine⟨?_,h1,h2,h3⟩
  rcases hr with hr| ⟨b,off,e,hb,hc⟩
  .exact .inl hr
  .by_cases hx:xs=[]
   .subst hx
    exact .inl rfl
   .refine .inr ⟨b,off,e,by simpa using hb,fun j u hu=>?_⟩
    have aF:b≠g:=by
     rintro rfl
     obtain⟨x,r,rfl⟩:=List.exists_cons_of_ne_nil hx
     obtain⟨v,hv⟩:=hk x
     have Ii:((x::r).flatMap f)[0]? =some (.int .i64 v):=by
      rw[List.flatMap_cons,List.getElem?_append_left (by rw[dz];exact h0)]
      exact hv
     have fL:=hc 0 _ Ii
     rw[B.cell] at fL
     have:=List.mem_of_getElem? fL
     simp at this
    rw[<-hc j u hu]
    simp only[World.cell?]
    rw[heap_setCell_other _ ⟨g,1,none⟩ b u1 aF,heap_setCell_other _ ⟨g,0,none⟩ b u0 aF]
 exact⟨one 4 bF.four (by decide) (fun x=>⟨_,rfl⟩) h.row,fun x hx=>one 3 bZ (by decide) (fun y=>⟨_,rfl⟩) (h.ent x hx)⟩
theorem Ts (n2 N k:Nat)(wait KP:List UInt8)(h2:n2=wait.length)(hN:N+(tail k wait).2.length=wait.length)(xh:KP=wait.take (wait.length-(tail k wait).2.length)):N<=n2/\KP=wait.take N/\N=KP.length:=by
 have e:wait.length-(tail k wait).2.length=N:=by omega
 rw[e] at xh
 exact⟨by omega,xh,by rw[xh,List.length_take];omega⟩
theorem qH (d:Dk)(a1 a2:Option Addr)(c1 c2 n1 n2:Nat)(w:World)(hg:Gl w)(s1:Sl w a1 c1 (byteCells d.safe))(s2:Sl w a2 c2 (byteCells d.wait))(h1:n1=d.safe.length)(h2:n2=d.wait.length)(h0:cT d=0):
  Calls Tryz.prog 18 #[.agg #[.slice a1 n1 c1,.slice a2 n2 c2]] w (Wx w (gu d) (ax d)):=by
 have B1:=(ac.laid w [.slice a1 n1 c1,.slice a2 n2 c2] 27 _ rfl).alc (.cells #[.slice none 0 0,.slice none 0 0] 27)
 have B2:=ac.laid (w.alloc (.cells #[.slice a1 n1 c1,.slice a2 n2 c2] 27)) [.slice none 0 0,.slice none 0 0] 27 (w.heap.size+1) (by simp)
 have bel:=newB (newB (Below.refl w.heap.size w) (.cells #[.slice a1 n1 c1,.slice a2 n2 c2] 27)) (.cells #[.slice none 0 0,.slice none 0 0] 27)
 have S1:=s1.keep bel (Nat.le_refl _)
 have S2:=s2.keep bel (Nat.le_refl _)
 have g:=hg.call bel
 have hf:=wh h0
 have few:n1+n2<=60000:=by rw[h1,h2];exact hf
 have hD:gu d=⟨d.safe++kept d,[]⟩:=if_pos h0
 have hL:ax d=iN d++(tail (iN d).length d.wait).1:=if_pos h0
 have zj:iN d=(tail 0 d.safe).1:=by
  unfold iN
  rw[if_pos h0,rP d.safe.length 0 d.safe (Nat.le_refl _) (by decide)]
 have tK:=CO d
 have vO:kept d=d.wait.take (d.wait.length-(tail (iN d).length d.wait).2.length):=rfl
 have VK:=fun W (S:Sl W a1 c1 (byteCells d.safe))=>p9 S h1
 have WZ:=fun W (S:Sl W a2 c2 (byteCells d.wait))=>p9 S h2
 have PY:=fun W g=>rY (iz d.safe) 0 60 W g (by rw[io];omega) rfl
 have S7:=fun k most W g (h:most+k=60)=>rY (iz d.wait) k most W g (by rw[io];omega) h
 simp only[ju] at PY S7
 rw[<-zj] at PY
 rw[hD,hL]
 generalize kept d=KP at*
 generalize iN d=L0 at*
 generalize(scan 0 d.safe).2=E1 at*
 have x0:=B1.cell 0
 have x1:=B1.cell 1
 have l1:=B1.lt
 have Wq:=VK _ S1
 have dz:w.heap.size<=((w.alloc (.cells #[.slice a1 n1 c1,.slice a2 n2 c2] 27)).alloc (.cells #[.slice none 0 0,.slice none 0 0] 27)).heap.size:=bel.size
 replace h1:=hide h1
 replace h2:=hide h2
 replace vO:=hide vO
 clear hD hL zj hf h0
 go_enter Tryz.func18,Tryz.ntmps18
 go_wp2_with fail
 generalize World.alloc (World.alloc w _) _=w2 at*
 go_at_call 56
 refine(PY _ g).mono ?_
 rintro e w3 ⟨aL,nL,GL,N0,lL,rfl,RL,pb,Y7,b3⟩
 clear x0 x1 l1 Wq PY
 replace B1:=B1.keep b3 B1.lt
 replace B2:=B2.keep b3 B2.lt
 replace S1:=S1.call b3
 replace S2:=S2.call b3
 replace g:=g.call b3
 replace bel:=aa bel b3
 have Bm:nL=L0.length:=by rw[RL.len,<-pb,List.length_map]
 have Qx:=WZ _ S2
 have LD:nL<=60:=by rw[Bm];exact tK
 have Ny:(60-nL)+nL=60:=Nat.sub_add_cancel LD
 have UZ:(60:Int)-(nL:Int)=((60-nL:Nat):Int):=by rw[Int.ofNat_sub LD];rfl
 have Vy:wrap64 ((60-nL:Nat):Int)=((60-nL:Nat):Int):=by unfold wrap64;omega
 have Ug:=fun W g=>S7 nL (60-nL) W g Ny
 generalize Se:60-nL=most at*
 generalize(scan nL d.wait).2=E2 at*
 have x0:=B1.cell 0
 have x1:=B1.cell 1
 have l1:=B1.lt
 clear S7 Ny Se
 replace Bm:=hide Bm
 replace pb:=hide pb
 go_wp2_with fail
 go_at_call 56
 refine(Ug _ g).mono ?_
 rintro e w5 ⟨aM,nM,GM,N,lM,rfl,RM,MB,hN,b5⟩
 clear x0 x1 l1 Qx Ug VK WZ
 replace B1:=B1.keep b5 B1.lt
 replace B2:=B2.keep b5 B2.lt
 replace S1:=S1.call b5
 replace S2:=S2.call b5
 replace bel:=aa bel b5
 have SL:=(RL.call b5).sl
 have SM:=RM.sl
 rw[Bm.out] at MB hN
 obtain⟨Sw,xh,Gb⟩:=Ts n2 N L0.length d.wait KP h2.out hN vO.out
 have NQ:nM=lM.length:=RM.len
 have Ir:nL=lL.length:=RL.len
 have Oy:(N:Int)<=n2:=Int.ofNat_le.2 Sw
 have tS:n1+N=(d.safe++KP).length:=by rw[List.length_append,<-h1.out,<-Gb]
 have Ez:n1+N<=1000000:=Nat.le_trans (Nat.add_le_add_left Sw n1) (Nat.le_trans few (by decide))
 have lE:n2<=c2:=by have:=s2.le;rw[Lib.byteCells_length,<-h2.out] at this;exact this
 have Y4:N<=c2:=Nat.le_trans Sw lE
 have ZJ:(N:Int)<=c2:=Int.ofNat_le.2 Y4
 have oM:(lL++lM).map (·.r)=L0++(tail L0.length d.wait).1:=by rw[List.map_append,pb.out,MB]
 have Vi:nM<=60:=by
  have h':nM=(tail L0.length d.wait).1.length:=by rw[NQ,<-MB,List.length_map]
  have Py:=rP d.wait.length L0.length d.wait (Nat.le_refl _) tK
  have h3:=xy d.wait.length L0.length d.wait (Nat.le_refl _) tK
  rw[h']
  rw[<-Py]
  omega
 have XO:nL+nM<=1000000:=Nat.le_trans (Nat.add_le_add LD Vi) (by decide)
 have Ns:nL+nM=(lL++lM).length:=by rw[List.length_append,<-Ir,<-NQ]
 have kC:∀W B,Below w5.heap.size w5 W->W.cell? ⟨B,0,none⟩=some (.slice a1 n1 c1)->W.cell? ⟨B,1,none⟩=some (.slice a2 N c2)->B<W.heap.size->Calls Tryz.prog 57 #[.slice (some ⟨B,0,none⟩) 2 2] W fun e w'=>∃ao G,e=.returned (.slice ao (n1+N) G)/\w'.cell? ⟨w.heap.size,0,none⟩=some (.slice a1 n1 c1)/\w'.cell? ⟨w.heap.size,1,none⟩=some (.slice a2 n2 c2)/\Sl w' ao G (byteCells (d.safe++KP))/\Below W.heap.size W w'/\Below w5.heap.size w5 w':=by
  intro W B h e0 e1 hB
  refine(MS B a1 a2 c1 c2 n1 N d.safe KP W e0 e1 (S1.call h) (xh▸(S2.call h).takeU N) h1.out Gb Ez hB).mono ?_
  rintro e w' ⟨ao,G,rfl,s9,b9⟩
  have bb:=aa h b9
  exact⟨ao,G,rfl,(B1.keep bb B1.lt).cell 0,(B1.keep bb B1.lt).cell 1,s9,b9,bb⟩
 have kR:∀W B,Below w5.heap.size w5 W->W.cell? ⟨B,0,none⟩=some (.slice aL nL GL)->W.cell? ⟨B,1,none⟩=some (.slice aM nM GM)->B<W.heap.size->Calls Tryz.prog 58 #[.slice (some ⟨B,0,none⟩) 2 2] W fun e w'=>∃ao G,e=.returned (.slice ao (nL+nM) G)/\w'.cell? ⟨w.heap.size,0,none⟩=some (.slice a1 n1 c1)/\w'.cell? ⟨w.heap.size,1,none⟩=some (.slice a2 n2 c2)/\w'.cell? ⟨w.heap.size+1,0,none⟩=some (.slice none 0 0)/\w'.cell? ⟨w.heap.size+1,1,none⟩=some (.slice none 0 0)/\w'.frozen? ⟨w.heap.size+1,0,none⟩=false/\w'.frozen? ⟨w.heap.size+1,1,none⟩=false/\w.heap.size+1<w'.heap.size/\dI w' ao G (lL++lM)/\Below W.heap.size W w'/\Below w5.heap.size w5 w':=by
  intro W B h e0 e1 hB
  refine(H8 B aL aM GL GM nL nM lL lM W e0 e1 (SL.keep h (Nat.le_refl _)) (SM.keep h (Nat.le_refl _)) Ir NQ XO hB).mono ?_
  rintro e w' ⟨ao,G,rfl,s9,b9⟩
  have bb:=aa h b9
  have pU:=B2.keep bb B2.lt
  exact⟨ao,G,rfl,(B1.keep bb B1.lt).cell 0,(B1.keep bb B1.lt).cell 1,pU.cell 0,pU.cell 1,pU.free 0,pU.free 1,pU.lt,s9,b9,bb⟩
 have x0:w5.cell? ⟨w.heap.size,0,none⟩=some (.slice a1 n1 c1):=B1.cell 0
 have x1:w5.cell? ⟨w.heap.size,1,none⟩=some (.slice a2 n2 c2):=B1.cell 1
 have l1:=B1.lt
 have l2:=B2.lt
 have SA:¬w.heap.size+1=w.heap.size:=by omega
 have ZT:¬w.heap.size=w5.heap.size:=Nat.ne_of_lt l1
 replace xh:=hide xh
 replace Gb:=hide Gb
 replace NQ:=hide NQ
 replace Ir:=hide Ir
 replace hN:=hide hN
 replace MB:=hide MB
 replace tS:=hide tS
 replace oM:=hide oM
 replace Ns:=hide Ns
 clear UZ Vy few tK RL RM Y7
 go_upto_region 3 with fail
 go_region_held3 (fun w'=>w'.cell? ⟨w.heap.size,0,none⟩=some (.slice a1 n1 c1)/\w'.cell? ⟨w.heap.size,1,none⟩=some (.slice a2 n2 c2)) (go_keep)
  (first
   | (have hzA:=zA;go_at_call 58;refine(kR _ _ ?r1 ?r2 ?r3 ?r4).mono ?_;(case r1=>first|exact zA|exact newB zA _|exact ai (newB zA _));(case r2=>first| (simp;done)|exact(bA.cell (by first| (simp;done)| (simp;omega))).trans (by simp));(case r3=>first| (simp;done)|exact(bA.cell (by first| (simp;done)| (simp;omega))).trans (by simp));(case r4=>first| (simp;done)|exact Nat.lt_of_lt_of_le (by first| (simp;done)| (simp;omega)) bA.size);rintro e wB ⟨aB,GB,rfl,p0,p1,q0,q1,VN,VF,lq,sB,bB,zB⟩)
   | (go_at_call 57;refine(kC _ _ ?c1 ?c2 ?c3 ?c4).mono ?_;(case c1=>(repeat(first|exact Below.refl _ _|refine ai ?_|refine newB ?_ _)));(case c2=>(simp;done));(case c3=>(simp;done));(case c4=>first| (simp;done)| (simp;omega));rintro e wA ⟨aA,GA,rfl,z0,z1,sA,bA,zA⟩))
 all_goals(
  go_wp2_with fail
  have Pi:=B2.keep zB B2.lt
  have B9:=jl Pi (.slice aA (n1+N) GA) (.slice none 0 0)
  have aq:=d8 (aa bel zB) (Nat.le_succ _) (.slice aA (n1+N) GA) (.slice none 0 0)
  have Zf:Sl wB aA GA (byteCells (d.safe++KP)):=by first|exact sA.call bB|exact(sA.alloc _).call bB
  have S9:=ta (i:=1) (ta (i:=0) Zf Pi (kq _ _ _ _ _ _) (.slice aA (n1+N) GA)) (Pi.set 0 (.slice aA (n1+N) GA)) (kq _ _ _ _ _ _) (.slice none 0 0)
  have R9:=sB.set2 Pi (.slice aA (n1+N) GA) (.slice none 0 0)
  have i0:=B9.cell 0
  have i1:=B9.cell 1
  exact bodyPost_ret (v:=.tuple #[.agg #[.slice aA (n1+N) GA,.slice none 0 0],.slice aB (nL+nM) GB]) (by simp[results,Tryz.results18,go_sem,i0,i1]) rfl ⟨_,none,_,n1+N,0,GA,0,nL+nM,GB,lL++lM,rfl,tS.out,rfl,S9,Sl.ofNil _,R9,Ns.out,oM.out,aq⟩)
end Go.Proofs.YtoonnbhoiocoeaaGreatDoor
namespace Go.Proofs.YtoonnbhoiocoeaaGreatDoor
open Go.RowKit Go.Maps
end Go.Proofs.YtoonnbhoiocoeaaGreatDoor
namespace Go.Proofs.YtoonnbhoiocoeaaGreatDoor
open Go.RowKit
end Go.Proofs.YtoonnbhoiocoeaaGreatDoor
namespace Go.Proofs.YtoonnbhoiocoeaaGreatDoor
open Go.RowKit
open Go.Lib (byteCells)
end Go.Proofs.YtoonnbhoiocoeaaGreatDoor
