/-
  Texts as numbers, as plain lists: what note.readNumbers says. No program is named.
-/
import Derived.Lib.AtoiAllCases
import Derived.Laws.MakeOwn
import Derived.Deep.Cut
import Derived.Deep.CutRange
import Derived.RangeFuncNested
import Derived.RangeFuncBound
import Derived.RangeFuncCalls
import Derived.RangeFuncLeaves
import Derived.RangeFuncBox
import Derived.Shelf.Abstract
import Derived.Shelf.RegionOpen
import Derived.OwnWalkIn
import Derived.TacticsInMore
import Derived.LoopNIn
import Derived.LoopIn
import Derived.Maps.AppendAt
import Derived.OrdersIn
import Derived.TacticsIn
import Derived.RangeFuncSeq
import Derived.Deep.AppendLies
import Derived.Lib.AppendZeros
import Derived.Deep.RegionHeld
import Derived.Test.YtoonnbhoiocoeaaGreatDoorQ04
set_option maxHeartbeats 40000000
set_option maxRecDepth 100000
set_option linter.unusedVariables false
namespace Go.Proofs.YtoonnbhoiocoeaaGreatDoor
def dQ (w:List UInt8):Option Int:=
 match Lib.atoiAll w with
 | .ok v=>if Lib.itoa v=w then some v else none
 |_=>none
def bu:List (List UInt8)->Option (List Int)
 | []=>some []
 |w::r=>(dQ w).bind fun v=>(bu r).map (v::·)
theorem qm (l:List (List UInt8))(w:List UInt8)(vs:List Int)(h:bu l=some vs):bu (l++[w])=(dQ w).map fun v=>vs++[v]:=by
 induction l generalizing vs with
 |nil=>
  simp only[bu,Option.some.injEq] at h
  subst h
  simp only[List.nil_append,bu]
  cases dQ w<;>rfl
 |cons x r ih=>
  simp only[bu] at h
  cases hx:dQ x with
  |none=>rw[hx] at h;cases h
  |some v=>
   rw[hx] at h
   simp only[Option.bind_some] at h
   cases hr:bu r with
   |none=>rw[hr] at h;cases h
   |some vr=>
    rw[hr] at h
    simp only[Option.map_some,Option.some.injEq] at h
    subst h
    simp only[List.cons_append,bu,hx,Option.bind_some,ih vr hr]
    cases dQ w<;>rfl
theorem sc (l:List (List UInt8))(w:List UInt8)(r:List (List UInt8))(h:dQ w=none):bu (l++w::r)=none:=by
 induction l with
 |nil=>simp only[List.nil_append,bu,h,Option.bind_none]
 |cons x q ih=>
  simp only[List.cons_append,bu,ih]
  cases dQ x<;>rfl
theorem kZ:∀(l:List (List UInt8)) (vs:List Int),bu l=some vs->vs.length=l.length
 | [],vs,h=>by simp only[bu,Option.some.injEq] at h;subst h;rfl
 |w::r,vs,h=>by
  simp only[bu] at h
  cases hx:dQ w with
  |none=>rw[hx] at h;cases h
  |some v=>
   rw[hx] at h
   simp only[Option.bind_some] at h
   cases hr:bu r with
   |none=>rw[hr] at h;cases h
   |some vr=>
    rw[hr] at h
    simp only[Option.map_some,Option.some.injEq] at h
    subst h
    simp[kZ r vr hr]
open Go.RowKit
theorem Ho:(Tryz.prog.info? 3).map (fun i=>(i.zero,i.size,i.bytes))=some (some (.int .i64 0),1,8):=by kernel_rfl
theorem gE:∀l:List Nt,(dI l).length=l.length*3
 | []=>rfl
 |x::r=>by
  have:=gE r
  unfold dI at this⊢
  rw[List.flatMap_cons,List.length_append,this]
  simp only[List.length_cons,List.length_nil]
  omega
theorem D6 (l:List Nt)(a:Option Addr)(cap n:Nat)(w:World)(S:be ec w a cap l)(hn:n=l.length)(few:n<=10):
  Calls Tryz.prog 205 #[.slice a n cap] w fun e w'=>∃a' G,e=.returned (.slice a' (n*3) G)/\w'.ownsRow w.heap.size 3 1 (.slice a' (n*3) G) (n*3) ((dI l).map (Value.int .i64))/\Below w.heap.size w w':=by
 obtain⟨i0,hi,bK,bm,bQ⟩:=info_parts Ho
 obtain⟨c3,M6⟩:∃c3,c3=n*3:=⟨_,rfl⟩
 obtain⟨w1,hr,own,gr⟩:=run_make_own (P:=Tryz.prog) w w.heap.size 28 3 i0 (.int .i64 0) 1 Tryz.underlying28 hi bK bm .i64 .i64 c3 (by rw[bQ];omega) (by unfold maxLen;omega) (Nat.le_refl _)
 have bel:Below w.heap.size w w1:=(Below.refl _ _).grown gr (Nat.le_refl _) (fun k hk=>by cases hk)
 have u3:IntKind.i64.wrap (3*(n:Int))=(c3:Int):=by rw[IntKind.wrap_i64];omega
 replace hn:=aa hn
 replace M6:=aa M6
 clear gr
 go_enter Tryz.func205,Tryz.ntmps205
 go_wp2_with fail
 go_loopw [12,3] (fun i s3 wr=>∃(k:Nat) (ao:Option Addr) (G k3:Nat),k<=n/\i=.int .i64 k/\s3=.slice ao k3 G/\k3=k*3/\wr.ownsRow w.heap.size 3 1 (.slice ao k3 G) k3 ((dI (l.take k)).map (Value.int .i64))/\Below w.heap.size w wr) (fun i _ _=>n-(intOf i).toNat)
 case atStart=>exact⟨0,_,_,0,Nat.zero_le _,rfl,rfl,rfl,own,bel⟩
 case round=>
  clear own bel hr
  obtain⟨k,ao,G,k3,hk,rfl,rfl,m6,own,bel⟩:=hrel
  by_cases aE:k<n
  .have dy:k<l.length:=by rw[<-hn.out];exact aE
   obtain⟨b1,o1,rfl,Mw⟩:=S.where dq (by decide) (by intro h;subst h;simp at dy)
   obtain⟨x,hx⟩:∃x,l[k]? =some x:=⟨_,List.getElem?_eq_getElem dy⟩
   have s1:=S.keep bel (Nat.le_refl _)
   have d0:=s1.cell dq k 0 x _ hx rfl
   have d1:=s1.cell dq k 1 x _ hx rfl
   have d2:=s1.cell dq k 2 x _ hx rfl
   simp only[Nat.add_zero] at d0
   have hT:(dI (l.take k)).map (Value.int .i64)++(#[Value.int .i64 x.1,.int .i64 x.2.1,.int .i64 x.2.2]:Array Value).toList=(dI (l.take (k+1))).map (Value.int .i64):=by
    rw[List.take_add_one,hx]
    unfold dI
    simp
   obtain⟨xs,xt,xv⟩:=x
   simp only at*
   replace hx:=aa hx
   generalize(dI (l.take k)).map (Value.int .i64)=X at*
   replace hT:=aa hT
   replace m6:=aa m6
   clear s1 dy
   have BX:=ag.laid wr [.int .i64 xs,.int .i64 xt,.int .i64 xv] 75 _ rfl
   have bX:=newB bel (.cells #[.int .i64 xs,.int .i64 xt,.int .i64 xv] 75)
   have eV:=own.alloc (.cells #[.int .i64 xs,.int .i64 xt,.int .i64 xv] 75)
   have aao:k3<=30:=by rw[m6.out];omega
   go_upto_region 5 with fail
   generalize wr.alloc _=w2 at*
   have z0:w2.cell? ⟨wr.heap.size,0,none⟩=some (.int .i64 xs):=BX.cell 0
   have z1:w2.cell? ⟨wr.heap.size,1,none⟩=some (.int .i64 xt):=BX.cell 1
   have z2:w2.cell? ⟨wr.heap.size,2,none⟩=some (.int .i64 xv):=BX.cell 2
   have lX:=BX.lt
   go_wp2_with (at_builtin;refine bE w2 rfl (.tmp 16) (.tmp 23) 28 rfl w.heap.size 3 i0 _ 1 8 Tryz.underlying28 hi bK bm bQ rfl (by decide) (.slice ao k3 G) k3 _ (by rfl) eV 3 #[.int .i64 xs,.int .i64 xt,.int .i64 xv] 3 (by rfl) (by rfl) (by simp[Value.oneCell']) (by decide) (by unfold maxLen;omega) (by omega) bX.size ?_)
   intro v7 w7 jw iP yJ
   have lH:=aG bX eV iP (Nat.le_refl _) bX.size
   have nt:w7.ownsRow w.heap.size 3 1 v7 (k3+3) ((dI (l.take (k+1))).map (Value.int .i64)):=by rw[<-hT.out];exact jw
   obtain⟨g7,G7,rfl⟩:∃g7 G7,v7=.slice (some ⟨g7,0,none⟩) (k3+3) G7:=by
    rcases nt.2 with⟨_,h⟩| ⟨g,cap,cur,h,_⟩
    .omega
    exact⟨_,_,h⟩
   go_wp2_with fail
   go_roundw
   case rel=>exact⟨k+1,some ⟨g7,0,none⟩,G7,k3+3,by omega,by go_num,rfl,by rw[m6.out,Nat.succ_mul],nt,lH⟩
   case measure=>simp[intOf];omega
  obtain rfl:n=k:=by omega
  rw[List.take_of_length_le (by rw[<-hn.out];exact Nat.le_refl _)] at own
  subst m6
  go_wp2_with fail
  go_ret
  exact⟨_,_,rfl,own,bel⟩
def bytes (b:ByteArray):List UInt8:=b.data.toList
theorem Cu (b:ByteArray):∀(n i:Nat) (acc:List UInt8),b.size-i=n->ByteArray.toList.loop b i acc=acc.reverse++b.data.toList.drop i:=by
 intro n
 induction n with
 |zero=>
  intro i acc h
  unfold ByteArray.toList.loop
  rw[if_neg (by omega)]
  have:b.data.toList.drop i=[]:=List.drop_eq_nil_of_le (by show b.data.toList.length<=i;rw[Array.length_toList];exact Nat.le_of_sub_eq_zero h)
  rw[this];simp
 |succ n ih=>
  intro i acc h
  unfold ByteArray.toList.loop
  have hi:i<b.size:=by omega
  rw[if_pos hi,ih (i+1) _ (by omega)]
  have hl:i<b.data.toList.length:=by rw[Array.length_toList];exact hi
  rw[List.drop_eq_getElem_cons hl]
  have:b.get! i=b.data.toList[i]:=by
   show b.data[i]! =_
   rw[getElem!_pos b.data i hi];rfl
  simp[this]
theorem ai (b:ByteArray):b.toList=bytes b:=by
 unfold ByteArray.toList bytes
 rw[Cu b _ 0 [] rfl];simp
theorem jU {l:List UInt8}{b:ByteArray} :(⟨l.toArray⟩:ByteArray)=b↔l=bytes b:=by
 constructor
 .rintro rfl;simp[bytes]
 rintro rfl;simp[bytes]
theorem uT (ws:List ByteArray)(a:Option Addr)(cap n:Nat)(w:World)(hg:Gl w)(S:Sl w a cap (ws.map Value.string))(hn:n=ws.length)(few:n<=100000)(dW:∀b∈ws,b.size<=100000):
  Calls Tryz.prog 172 #[.slice a n cap] w fun e w'=>((∃vs a' G,bu (ws.map bytes)=some vs/\e=.returned (.tuple #[.slice a' n G,.bool true])/\w'.ownsRow w.heap.size 3 1 (.slice a' n G) n (vs.map (Value.int .i64)))\/(bu (ws.map bytes)=none/\e=.returned (.tuple #[.slice none 0 0,.bool false])))/\Below w.heap.size w w':=by
 obtain⟨i0,hi,bK,bm,bQ⟩:=info_parts Ho
 obtain⟨w1,hr,own,gr⟩:=run_make_own (P:=Tryz.prog) w w.heap.size 28 3 i0 (.int .i64 0) 1 Tryz.underlying28 hi bK bm .i64 .i64 n (by rw[bQ];omega) (by unfold maxLen;omega) (Nat.le_refl _)
 have bel:Below w.heap.size w w1:=(Below.refl _ _).grown gr (Nat.le_refl _) (fun k hk=>by cases hk)
 obtain⟨R,hR⟩:∃R,R=bu (ws.map bytes):=⟨_,rfl⟩
 rw[<-hR]
 replace hR:=aa hR
 replace hn:=aa hn
 replace dW:=aa dW
 clear gr
 go_enter Tryz.func172,Tryz.ntmps172
 go_wp2_with fail
 go_loopw [14,4] (fun i s4 wr=>∃(k:Nat) (ao:Option Addr) (G:Nat) (vs:List Int),k<=n/\i=.int .i64 k/\s4=.slice ao k G/\Hid (bu ((ws.take k).map bytes)=some vs)/\wr.ownsRow w.heap.size 3 1 (.slice ao k G) k (vs.map (Value.int .i64))/\Below w.heap.size w wr) (fun i _ _=>n-(intOf i).toNat)
 case atStart=>exact⟨0,_,_,[],Nat.zero_le _,rfl,rfl,aa rfl,own,bel⟩
 case round=>
  clear own bel hr
  obtain⟨k,ao,G,vs,hk,rfl,rfl,hv,own,bel⟩:=hrel
  by_cases aE:k<n
  .have dy:k<ws.length:=by rw[<-hn.out];exact aE
   obtain⟨x,hx⟩:∃x,ws[k]? =some x:=⟨_,List.getElem?_eq_getElem dy⟩
   have S1:=S.keep bel (Nat.le_refl _)
   obtain⟨b1,o1,rfl,-,hc⟩:=S1.row.at (by intro h;have:=congrArg List.length h;simp at this;subst this;simp at dy)
   have d0:wr.cell? ⟨b1,o1+k,none⟩=some (.string x):=hc k _ (by rw[List.getElem?_map,hx];rfl)
   have hxs:=dW.out x (List.mem_of_getElem? hx)
   have g1:=hg.call bel
   have jT:dQ (bytes x)=none->R=none:=by
    intro h
    rw[hR.out]
    have e:ws=ws.take k++x::ws.drop (k+1):=by
     obtain⟨fC,rfl⟩:=List.getElem?_eq_some_iff.1 hx
     rw[<-List.drop_eq_getElem_cons fC,List.take_append_drop]
    rw[e,List.map_append,List.map_cons]
    exact sc _ _ _ h
   have pj:∀v,dQ (bytes x)=some v->Hid (bu ((ws.take (k+1)).map bytes)=some (vs++[v])):=by
    intro v h
    rw[List.take_add_one,hx,List.map_append]
    simp only[Option.toList_some,List.map_cons,List.map_nil]
    rw[qm _ _ _ hv.out,h]
    exact aa rfl
   replace hx:=aa hx
   clear S1 hc dy
   cases jY:Lib.atoiAll x.data.toList with
   |«syntax»=>
    obtain⟨te,pe,he⟩:=g1.syn
    have ye:=aa (jT (by unfold dQ bytes;rw[jY]))
    replace jY:=aa jY
    go_wp2_with fail
    go_at_call 202
    refine(Tryz.strconv_Atoi_syntax x (by omega) jY.out _ _ he (.inr ⟨_,_,rfl⟩)).mono ?_
    rintro e w2 ⟨N,rfl,-,-,b2⟩
    go_wp2_with fail
    go_ret2
    exact⟨.inr ⟨ye.out,rfl⟩,ac bel b2⟩
   |range=>
    obtain⟨te,pe,he⟩:=g1.rng
    have ye:=aa (jT (by unfold dQ bytes;rw[jY]))
    replace jY:=aa jY
    go_wp2_with fail
    go_at_call 202
    refine(Tryz.strconv_Atoi_range x (by omega) jY.out _ _ he (.inr ⟨_,_,rfl⟩)).mono ?_
    rintro e w2 ⟨N,rfl,-,-,b2⟩
    go_wp2_with fail
    go_ret2
    exact⟨.inr ⟨ye.out,rfl⟩,ac bel b2⟩
   |ok v=>
    obtain⟨v0,v1⟩:=Lib.atoiAll_bounds jY
    have pr:dQ (bytes x)=if Lib.itoa v=bytes x then some v else none:=by unfold dQ bytes;rw[jY]
    replace jY:=aa jY
    go_wp2_with fail
    go_at_call 202
    refine(Tryz.strconv_Atoi_ok x (by omega) v jY.out _).mono ?_
    rintro e w2 ⟨rfl,xd⟩
    have b2:Below wr.heap.size wr w2:=by
     rcases xd with rfl| ⟨t,rfl⟩
     .exact Below.refl _ _
     exact Lib.bytesWorld_below _ _ _
    have am:=ac bel b2
    have eV:=dx own b2
    have g2:=g1.call b2
    clear xd b2
    go_wp2_with fail
    go_at_call 117
    refine(Tryz.strconv_Itoa v v0 v1 _ g2.tab).mono ?_
    rintro e w3 ⟨rfl,q,os,Qs⟩
    have b3:Below w2.heap.size w2 w3:=by rw[Qs];exact Lib.below_grow _ _ (Nat.le_refl _) _ _
    have aC:=ac am b3
    have eF:=dx eV b3
    clear Qs b3 am eV g2
    by_cases heq:(⟨(Lib.itoa v).toArray⟩:ByteArray)=x
    .have KH:=pj v (by rw[pr,if_pos (jU.1 heq)])
     clear pr jT pj
     go_wp2_with (at_builtin;refine bE w3 rfl (.tmp 31) (.tmp 33) 28 rfl w.heap.size 3 i0 _ 1 8 Tryz.underlying28 hi bK bm bQ rfl (by decide) (.slice ao k G) k _ (by rfl) eF 1 #[.int .i64 v] 3 (by rfl) (by rfl) (by simp[Value.oneCell']) (by decide) (by unfold maxLen;omega) (by omega) aC.size ?_)
     intro v7 w7 jw iP yJ
     have lH:=aG aC eF iP (Nat.le_refl _) aC.size
     have nt:w7.ownsRow w.heap.size 3 1 v7 (k+1) ((vs++[v]).map (Value.int .i64)):=by rw[List.map_append];exact jw
     obtain⟨g7,G7,rfl⟩:∃g7 G7,v7=.slice (some ⟨g7,0,none⟩) (k+1) G7:=by
      rcases nt.2 with⟨_,h⟩| ⟨g,cap,cur,h,_⟩
      .omega
      exact⟨_,_,h⟩
     go_wp2_with fail
     go_roundw
     case rel=>exact⟨k+1,some ⟨g7,0,none⟩,G7,vs++[v],by omega,by go_num,rfl,KH,nt,lH⟩
     case measure=>simp[intOf];omega
    have ye:=aa (jT (by rw[pr,if_neg (fun h=>heq (jU.2 h))]))
    have aF:(Lib.itoa v==x.toList)=false:=by
     rw[beq_eq_false_iff_ne]
     intro h
     exact heq (jU.2 (by rw[h];exact ai x))
    clear pr jT pj
    go_wp2_with fail
    go_ret2
    exact⟨.inr ⟨ye.out,rfl⟩,aC⟩
  obtain rfl:n=k:=by omega
  have hRs:Hid (R=some vs):=by
   rw[hR.out]
   have:=hv.out
   rw[List.take_of_length_le (by rw[<-hn.out];exact Nat.le_refl _)] at this
   exact this
  go_wp2_with fail
  go_ret2
  exact⟨.inl ⟨vs,_,_,hRs.out,rfl,own⟩,bel⟩
open Go.RowKit Go.Shelf
attribute [local go_sem] Oper.semAt_some
def Kc (kb Bs Bn:Nat)(W W':World):Prop:=Below kb W W'/\W'.heap[Bs]? =W.heap[Bs]? /\W'.heap[Bn]? =W.heap[Bn]?
theorem Kc.refl (kb Bs Bn:Nat)(W:World):Kc kb Bs Bn W W:=⟨Below.refl _ _,rfl,rfl⟩
theorem Kc.trans {kb Bs Bn:Nat}{A B C:World}(h:Kc kb Bs Bn A B)(k:Kc kb Bs Bn B C):Kc kb Bs Bn A C:=⟨h.1.trans k.1,k.2.1.trans h.2.1,k.2.2.trans h.2.2⟩
theorem chunks (m k:Nat)(pre:List (Fin m))(h:pre.map Fin.val=List.range k):pre.length=k:=by
 have:=congrArg List.length h
 simpa using this
theorem GD (F:Fence)(n:Nat)(hf:F.fn 230)(Ck:F.round=none)(hn:1<=n)(l Bs Bn kb b off m m3 cap:Nat)(Ky:m3=m*3)(hm:m3<=1000000)(M6:m3<=cap)(hcap:cap<=9223372036854775807)(J Jx:List (Fin m)->World->Prop)(W:World)(Ww:AbidesFrom W.heap.size J)
  (hY:∀pre x W,J pre W->pre.length<m->YieldAt F (n-1) Tryz.prog l #[.slice (some ⟨b,off+x.val*3,none⟩) 3 3] W fun e W'=>
   (e=.returned (.bool true)/\J (pre++[x]) W'/\Kc kb Bs Bn W W')\/(e=.returned (.bool false)/\Jx (pre++[x]) W'))
  (Cq:Boxed W Bs 28 (.slice (some ⟨b,off,none⟩) m3 cap)) (Nv:Boxed W Bn 3 (.int .i64 3)) (h0:J [] W):
  CallsIn F n Tryz.prog 230 #[.func (.yield l) #[] #[],.pointer (some ⟨Bs,0,none⟩),.pointer (some ⟨Bn,0,none⟩)] W fun e W'=>(∃v,e=.returned v)/\
   ((∃ys:List (Fin m),ys.map Fin.val=List.range m/\J ys W')\/(∃pre,True/\Jx pre W')):=by
 refine callsIn_of_wp Tryz.func230 rfl hf ?_ Ck
 simp only[Tryz.ntmps230,List.size_toArray,List.length_cons,List.length_nil,Nat.reduceAdd,Nat.reduceSub,Array.replicate_succ,Array.replicate_zero,List.push_toArray,List.append_toArray,List.nil_append,List.cons_append]
 gi_wp2
 gi_loopw [4] (fun i wr=>∃(k k3:Nat) (pre:List (Fin m)),k<=m/\k3=k*3/\i=.int .i64 k3/\pre.map Fin.val=List.range k/\J pre wr/\Kc kb Bs Bn W wr)
  (fun i _=>m3-(intOf i).toNat)
 case atStart=>exact⟨0,0,[],Nat.zero_le _,rfl,rfl,rfl,h0,Kc.refl _ _ _ _⟩
 case round=>
  obtain⟨k,k3,pre,hk,m6,rfl,Gh,Qj,hK⟩:=hrel
  have cs:wr.cell? ⟨Bs,0,none⟩=some (.slice (some ⟨b,off,none⟩) m3 cap):=(show Boxed wr Bs _ _ from hK.2.1.trans Cq).cell
  have cn:wr.cell? ⟨Bn,0,none⟩=some (.int .i64 3):=(show Boxed wr Bn _ _ from hK.2.2.trans Nv).cell
  by_cases aE:k<m
  .have q1:(k3:Int)<m3:=by omega
   have q2:(0:Int)<=k3:=by omega
   have q3:(k3:Int)<=m3:=by omega
   have q4:(m3:Int)<=cap:=by omega
   have q5:(k3:Int)<=cap:=by omega
   have q6:(3:Int)<=((m3-k3:Nat):Int):=by omega
   have q7:¬((m3-k3:Nat):Int)<3:=by omega
   have q8:(k3:Int)+3<=cap:=by omega
   have q9:(k3:Int)+3<=m3:=by omega
   have Q7:(0:Int)<=(k3:Int)+3:=by omega
   have MZ:(k3:Int)<=(k3:Int)+3:=by omega
   have u1:IntKind.i64.wrap ((k3:Int)+3)=(k3:Int)+3:=by rw[IntKind.wrap_i64];omega
   have t1:((k3:Int)+3).toNat-k3=3:=by omega
   have mixed:Tryz.prog.follows .mixedOrders=true:=by kernel_rfl
   have gd:wr.grownBy wr.drew none:=⟨rfl,rfl,rfl,Nat.le_refl _,fun k hk _=>rfl⟩
   have hJ2:J pre wr.drew:=Ww _ _ _ none Qj gd (fun r e=>by cases e)
   obtain⟨fn,tmps,assign,body,hy,hR⟩:=hY pre ⟨k,aE⟩ wr.drew hJ2 (by rw[chunks m k pre Gh];exact aE)
   rw[<-m6] at hy
   replace Ky:=Lib.hid Ky
   replace m6:=Lib.hid m6
   have kp:min (3:Int) ((m3-k3:Nat):Int)=3:=by omega
   gi_wp2
   gi_region_o
   all_goals gi_wp2
   all_goals(
    refine hR.mono ?_
    rintro e W3 (⟨rfl,ZY,Ad⟩| ⟨rfl,Xb⟩)
    .have SO:Kc kb Bs Bn W W3:=hK.trans (Kc.trans ⟨ak (Below.refl _ _),rfl,rfl⟩ Ad)
     have cs3:W3.cell? ⟨Bs,0,none⟩=some (.slice (some ⟨b,off,none⟩) m3 cap):=(show Boxed W3 Bs _ _ from SO.2.1.trans Cq).cell
     have cn3:W3.cell? ⟨Bn,0,none⟩=some (.int .i64 3):=(show Boxed W3 Bn _ _ from SO.2.2.trans Nv).cell
     gi_wp2
     go_roundw
     case rel=>exact⟨k+1,k3+3,pre++[⟨k,aE⟩],aE,by rw[m6.out,Nat.succ_mul],by go_num,by rw[List.map_append,Gh,List.range_succ];rfl,ZY,SO⟩
     case measure=>simp[intOf];omega
    gi_wp2
    refine bodyPost_ret (results_none rfl _ _ _) rfl ?_
    exact⟨⟨_,rfl⟩,.inr ⟨_,trivial,Xb⟩⟩)
  obtain rfl:k=m:=by omega
  have q1:¬(k3:Int)<m3:=by omega
  replace Ky:=Lib.hid Ky
  replace m6:=Lib.hid m6
  gi_wp2
  go_end0
  exact⟨⟨_,rfl⟩,.inl ⟨_,Gh,Qj⟩⟩
def og:List Bool->Nat
 | []=>0
 |b::r=>(if b then 0 else 1)+og r
theorem vo:∀(l:List Bool) (i:Nat),l[i]? =some false->og (l.set i true)+1=og l
 | [],i,h=>by simp at h
 |b::r,0,h=>by
  simp at h
  subst h
  simp[og]
  omega
 |b::r,i+1,h=>by
  have:=vo r i (by simpa using h)
  simp only[List.set_cons_succ,og]
  omega
theorem mQ:∀(l:List Bool) (i:Nat),og l=0->l[i]? ≠some false
 | [],i,_=>by simp
 |b::r,0,h=>by
  cases b with
  |false=>simp[og] at h
  |true=>simp
 |b::r,i+1,h=>by
  have:og r=0:=by simp only[og] at h;omega
  simpa using mQ r i this
def Down (md:Region.Mode)(ops:Array Oper)(d:Nat->Bool):Prop:=
 ∀i o,ops[i]? =some o->d i=true->∀e∈o.after,Region.binds md e=true->d e.on=true
theorem no {md:Region.Mode}{ops:Array Oper}{d:Nat->Bool}(h:Down md ops d)(i:Nat)(o:Oper)(ho:ops[i]? =some o)(e:Edge)(he:e∈o.after)(hb:Region.binds md e=true)(hd:d e.on=false):d i=false:=by
 cases hi:d i with
 |false=>rfl
 |true=>
  have:=h i o ho hi e he hb
  rw[hd] at this
  cases this
theorem jV {L:Array Bool}{i:Nat}(h:L.getD i true=false):i<L.size/\L.getD i false=false/\L.toList[i]? =some false:=by
 by_cases hi:i<L.size
 .have e:L[i]=false:=by simpa[Array.getD,hi] using h
  refine⟨hi,by simp[Array.getD,hi,e],?_⟩
  rw[Array.getElem?_toList,Array.getElem?_eq_getElem hi,e]
 simp[Array.getD,hi] at h
theorem oM {L:Array Bool}{i:Nat}(hi:i<L.size)(h:L.getD i false=false):L.getD i true=false:=by
 simpa[Array.getD,hi] using h
theorem vI (L:Array Bool)(i k:Nat)(hi:i<L.size):(L.setIfInBounds i true).getD k false=(k==i||L.getD k false):=by
 by_cases hk:k=i
 .subst hk
  simp[Array.getD,hi]
 by_cases hs:k<L.size
 .have:(L.setIfInBounds i true)[k]'(by simpa using hs)=L[k]:=by rw[Array.getElem_setIfInBounds_ne (hj:=hs) (h:=fun e=>hk e.symm)]
  simp[Array.getD,hs,hk,this]
 simp[Array.getD,hs,hk]
theorem Iq {P:Program}{md:Region.Mode}{ops:Array Oper}{Q:Exit->Act->World->Prop}(Inv:(Nat->Bool)->Act->World->Prop)
  (xS:∀(i:Nat) (o:Oper),ops[i]? =some o->∀e∈o.after,e.on<i)
  (hstep:∀(i:Nat) (o:Oper) (d:Nat->Bool) (a:Act) (w:World),ops[i]? =some o->d i=false->(∀e∈o.after,Region.binds md e=true->d e.on=true)->Down md ops d->Inv d a w->
   ∀K:Act->World->Prop,(∀a' w',Inv (fun k=>k==i||d k) a' w'->K a' w')->if Region.wanted o (yielded ops a.tmps)=true then Oper.wp P o a w K Q else K (a.put o.dst undef) w)
  (pN:∀d a w,(∀i,i<ops.size->d i=true)->Inv d a w->Q .normal a w):
  ∀(fuel:Nat) (L:Array Bool) (a:Act) (w:World),L.size=ops.size->og L.toList<=fuel->Down md ops (fun k=>L.getD k false)->Inv (fun k=>L.getD k false) a w->wpAny P md ops Q fuel L a w:=by
 intro fuel
 induction fuel with
 |zero=>
  intro L a w hs ht hd inv
  have all:∀i,i<ops.size->L.getD i false=true:=by
   intro i hi
   cases e:L.getD i false with
   |true=>rfl
   |false=>exact absurd (jV (oM (by omega) e)).2.2 (mQ _ i (by omega))
  refine⟨?_,pN _ a w all inv⟩
  cases hr:Region.ready md ops L with
  |nil=>rfl
  |cons j rs=>
   obtain⟨hu,_⟩:=mem_ready.1 (show j∈Region.ready md ops L by rw[hr];exact List.mem_cons_self)
   exact absurd (jV hu).2.2 (mQ _ j (by omega))
 |succ fuel ih=>
  intro L a w hs ht hd inv
  refine⟨fun hr=>?_,fun i hi=>?_⟩
  .refine pN _ a w ?_ inv
   intro i
   induction i using Nat.strongRecOn with
   |_ i ihi=>
    intro hi
    cases e:L.getD i false with
    |true=>rfl
    |false=>
     exfalso
     have ho:ops[i]? =some ops[i]:=Array.getElem?_eq_getElem hi
     have:i∈Region.ready md ops L:=mem_ready.2 ⟨oM (by omega) e,_,ho,fun x hx _=>ihi x.on (xS i _ ho x hx) (by have:=xS i _ ho x hx;omega)⟩
     rw[hr] at this
     cases this
  obtain⟨hu,o,ho,aU⟩:=mem_ready.1 hi
  obtain⟨aE,OD,Ou⟩:=jV hu
  have EF:(fun k=>(L.setIfInBounds i true).getD k false)=(fun k=>k==i||L.getD k false):=funext fun k=>vI L i k aE
  refine wpOp_step ho (fun K hK=>?_)
  refine hstep i o (fun k=>L.getD k false) a w ho OD aU hd inv K (fun a' w' NF=>?_)
  refine hK _ _ (ih _ a' w' (by simpa using hs) ?_ ?_ ?_)
  .have:=vo L.toList i Ou
   rw[Array.toList_setIfInBounds]
   omega
  .rw[EF]
   intro j oj It hj e he hb
   by_cases Mb:j=i
   .subst Mb
    rw[ho] at It
    obtain rfl:=Option.some.inj It
    have:=aU e he hb
    simp only[this,Bool.or_true]
   have h1:L.getD j false=true:=by
    have:(j==i)=false:=by simp[Mb]
    simpa[this] using hj
   have:=hd j oj It h1 e he hb
   simp only at this
   simp only[this,Bool.or_true]
  rw[EF];exact NF
def HF (ops:Array Oper):Bool:=(List.range ops.size).all fun i=>((ops[i]?).map fun o=>o.after.all fun e=>decide (e.on<i)).getD true
theorem Gn {ops:Array Oper}(h:HF ops=true):∀(i:Nat) (o:Oper),ops[i]? =some o->∀e∈o.after,e.on<i:=by
 intro i o ho e he
 have hi:=(Array.getElem?_eq_some_iff.1 ho).1
 have:=List.all_eq_true.1 h i (List.mem_range.2 hi)
 rw[ho] at this
 simp only[Option.map_some,Option.getD_some] at this
 have:=(Array.all_eq_true_iff_forall_mem.1 this) e he
 simpa using this
theorem u':∀n:Nat,og (List.replicate n false)=n
 |0=>rfl
 |n+1=>by
  rw[List.replicate_succ,og,u' n]
  simp
  omega
theorem mY {P:Program}{ops:Array Oper}{Q:Exit->Act->World->Prop}{id:Nat}{a:Act}{w:World}(hm:P.follows .mixedOrders=true)(hb:HF ops=true)(Inv:(Nat->Bool)->Act->World->Prop)
  (hstep:∀(i:Nat) (o:Oper) (d:Nat->Bool) (a:Act) (w:World),i<ops.size->ops[i]? =some o->d i=false->(∀e∈o.after,Region.binds .any e=true->d e.on=true)->Down .any ops d->Inv d a w->
   ∀K:Act->World->Prop,(∀a' w',Inv (fun k=>k==i||d k) a' w'->K a' w')->if Region.wanted o (yielded ops a.tmps)=true then Oper.wp P o a w K Q else K (a.put o.dst undef) w)
  (pN:∀d a w,(∀i,i<ops.size->d i=true)->Inv d a w->Q .normal a w) (My:Inv (fun _=>false) a w.drew):(Code.region id ops true).wp P Q a w:=by
 have e:(fun k=>(Array.replicate ops.size false).getD k false)=fun _=>false:=funext fun k=>by
  by_cases hk:k<ops.size
  .simp[Array.getD,hk]
  simp[Array.getD,hk]
 refine wp_region_any hm (Iq Inv (Gn hb) (fun i o d a w ho=>hstep i o d a w (Array.getElem?_eq_some_iff.1 ho).1 ho) pN _ _ _ _ (by simp) (by rw[Array.toList_replicate,u'];exact Nat.le_refl _) ?_ (by rw[e];exact My))
 intro i o _ hd
 rw[e] at hd
 cases hd
def nI:Result Next->Prop
 | .ok (.value _) _=>True
 | .ok .skip _=>True
 | .halt _ _=>True
 |_=>False
theorem uS (P:Program)(w:World)(s:Sem Value):nI (Sem.run P (do pure (Next.value (<-s))) w):=by
 simp only[Sem.run_bind]
 cases h:Sem.run P s w with
 |ok v w'=>simp[Result.andThen,nI]
 |halt e w'=>simp[Result.andThen,nI]
theorem KZ (P:Program)(w:World)(s:Sem Unit):nI (Sem.run P (do s;pure Next.skip) w):=by
 simp only[Sem.run_bind]
 cases h:Sem.run P s w with
 |ok v w'=>simp[Result.andThen,nI]
 |halt e w'=>simp[Result.andThen,nI]
def xJ:Op->Bool
 | .move _| .assign _| .build _ _| .buildSlice _ _ _| .load _ _| .store _ _ _| .indexAddr _ _ _| .fieldAddr _ _ _=>true
 | .call c=>match c.callee with
  | .builtin .append=>true
  | .builtin .len=>true
  |_=>false
 |_=>false
theorem CG (P:Program)(w:World)(ρ:Operand->Value)(o:Oper)(h:xJ o.op=true):nI (Sem.run P (execOp ρ o) w):=by
 unfold execOp
 cases ho:o.op<;>rw[ho] at h<;>first| (cases h;done)|skip
 all_goals first
  |trivial
  |exact uS _ _ _
  |exact KZ _ _ _
  |skip
 rename_i c
 obtain⟨callee,args,at'⟩:=c
 cases callee with
 |builtin b=>
  cases b<;>first| (cases h;done)|skip
  .exact uS _ _ _
  .exact uS _ _ _
 |invoke _ _=>cases h
 |value _=>cases h
theorem Nh {P:Program}{F:Fence}{n:Nat}{o:Oper}{a:Act}{K:Act->World->Prop}{Q:Exit->Act->World->Prop} :∀r:Result Next,nI r->Oper.upon P o a K Q r->Oper.uponIn F n P o a K Q r
 | .ok (.value _) _,_,h=>h
 | .ok .skip _,_,h=>h
 | .halt (.panic _) _,_,h=>h
 | .halt _ _,_,h=>by revert h;unfold Oper.upon Oper.uponIn;split<;>simp_all
theorem wj (P:Program)(w:World)(ρ:Operand->Value)(o:Oper)(h:xJ o.op=true):o.about P w ρ=none:=by
 unfold Oper.about
 cases ho:o.op<;>rw[ho] at h<;>first|rfl| (cases h;done)|skip
 rename_i c
 obtain⟨callee,args,at'⟩:=c
 cases callee with
 |builtin b=>simp[resolve,Target.leads]
 |invoke _ _=>cases h
 |value _=>cases h
theorem Gz {P:Program}{F:Fence}{n l:Nat}{o:Oper}{a:Act}{w:World}{K:Act->World->Prop}{Q:Exit->Act->World->Prop}(h:xJ o.op=true)(hw:Oper.wp P o a w K Q):Oper.wpIn (F.inRound l) n P o a w K Q:=by
 refine⟨fun f hf=>?_,?_⟩
 .rw[wj P w a.eval o h] at hf
  cases hf
 show Oper.uponIn _ _ _ _ _ _ _ (Sem.run P (Oper.semAt (some l) a.eval o) w)
 rw[Oper.semAt_some l a.eval o (fun c hc=>by rw[hc] at h;cases h)]
 exact Nh _ (CG P w a.eval o h) hw
theorem Dl {P:Program}{F:Fence}{n l:Nat}{md:Region.Mode}{ops:Array Oper}{Q:Exit->Act->World->Prop}(Inv:(Nat->Bool)->Act->World->Prop)(Iv:∀(i:Nat) (o:Oper),ops[i]? =some o->xJ o.op=true)
  (xS:∀(i:Nat) (o:Oper),ops[i]? =some o->∀e∈o.after,e.on<i)
  (hstep:∀(i:Nat) (o:Oper) (d:Nat->Bool) (a:Act) (w:World),ops[i]? =some o->d i=false->(∀e∈o.after,Region.binds md e=true->d e.on=true)->Down md ops d->Inv d a w->
   ∀K:Act->World->Prop,(∀a' w',Inv (fun k=>k==i||d k) a' w'->K a' w')->if Region.wanted o (yielded ops a.tmps)=true then Oper.wp P o a w K Q else K (a.put o.dst undef) w)
  (pN:∀d a w,(∀i,i<ops.size->d i=true)->Inv d a w->Q .normal a w):
  ∀(fuel:Nat) (L:Array Bool) (a:Act) (w:World),L.size=ops.size->og L.toList<=fuel->Down md ops (fun k=>L.getD k false)->Inv (fun k=>L.getD k false) a w->wpAnyIn (F.inRound l) n P md ops Q fuel L a w:=by
 intro fuel
 induction fuel with
 |zero=>
  intro L a w hs ht hd inv
  have all:∀i,i<ops.size->L.getD i false=true:=by
   intro i hi
   cases e:L.getD i false with
   |true=>rfl
   |false=>exact absurd (jV (oM (by omega) e)).2.2 (mQ _ i (by omega))
  refine⟨?_,pN _ a w all inv⟩
  cases hr:Region.ready md ops L with
  |nil=>rfl
  |cons j rs=>
   obtain⟨hu,_⟩:=mem_ready.1 (show j∈Region.ready md ops L by rw[hr];exact List.mem_cons_self)
   exact absurd (jV hu).2.2 (mQ _ j (by omega))
 |succ fuel ih=>
  intro L a w hs ht hd inv
  refine⟨fun hr=>?_,fun i hi=>?_⟩
  .refine pN _ a w ?_ inv
   intro i
   induction i using Nat.strongRecOn with
   |_ i ihi=>
    intro hi
    cases e:L.getD i false with
    |true=>rfl
    |false=>
     exfalso
     have ho:ops[i]? =some ops[i]:=Array.getElem?_eq_getElem hi
     have:i∈Region.ready md ops L:=mem_ready.2 ⟨oM (by omega) e,_,ho,fun x hx _=>ihi x.on (xS i _ ho x hx) (by have:=xS i _ ho x hx;omega)⟩
     rw[hr] at this
     cases this
  obtain⟨hu,o,ho,aU⟩:=mem_ready.1 hi
  obtain⟨aE,OD,Ou⟩:=jV hu
  have EF:(fun k=>(L.setIfInBounds i true).getD k false)=(fun k=>k==i||L.getD k false):=funext fun k=>vI L i k aE
  refine wpOpIn_step ho (fun K hK=>?_)
  have NM:=Iv i o ho
  have st:=hstep i o (fun k=>L.getD k false) a w ho OD aU hd inv K (fun a' w' NF=>?_)
  .by_cases hw:Region.wanted o (yielded ops a.tmps)=true
   .rw[if_pos hw] at st⊢
    exact Gz NM st
   rw[if_neg hw] at st⊢
   exact⟨fun f hf=>(by rw[wj P w a.eval o NM] at hf;cases hf),st⟩
  refine hK _ _ (ih _ a' w' (by simpa using hs) ?_ ?_ ?_)
  .have:=vo L.toList i Ou
   rw[Array.toList_setIfInBounds]
   omega
  .rw[EF]
   intro j oj It hj e he hb
   by_cases Mb:j=i
   .subst Mb
    rw[ho] at It
    obtain rfl:=Option.some.inj It
    have:=aU e he hb
    simp only[this,Bool.or_true]
   have h1:L.getD j false=true:=by
    have:(j==i)=false:=by simp[Mb]
    simpa[this] using hj
   have:=hd j oj It h1 e he hb
   simp only at this
   simp only[this,Bool.or_true]
  rw[EF];exact NF
theorem vc {P:Program}{F:Fence}{n l:Nat}{ops:Array Oper}{Q:Exit->Act->World->Prop}{id:Nat}{a:Act}{w:World}(hm:P.follows .mixedOrders=true)(hb:HF ops=true)(Iv:∀(i:Nat) (o:Oper),ops[i]? =some o->xJ o.op=true)(Inv:(Nat->Bool)->Act->World->Prop)
  (hstep:∀(i:Nat) (o:Oper) (d:Nat->Bool) (a:Act) (w:World),i<ops.size->ops[i]? =some o->d i=false->(∀e∈o.after,Region.binds .any e=true->d e.on=true)->Down .any ops d->Inv d a w->
   ∀K:Act->World->Prop,(∀a' w',Inv (fun k=>k==i||d k) a' w'->K a' w')->if Region.wanted o (yielded ops a.tmps)=true then Oper.wp P o a w K Q else K (a.put o.dst undef) w)
  (pN:∀d a w,(∀i,i<ops.size->d i=true)->Inv d a w->Q .normal a w) (My:Inv (fun _=>false) a w.drew):(Code.region id ops true).wpIn (F.inRound l) n P Q a w:=by
 have e:(fun k=>(Array.replicate ops.size false).getD k false)=fun _=>false:=funext fun k=>by
  by_cases hk:k<ops.size
  .simp[Array.getD,hk]
  simp[Array.getD,hk]
 refine wpIn_region_any hm (Dl Inv Iv (Gn hb) (fun i o d a w ho=>hstep i o d a w (Array.getElem?_eq_some_iff.1 ho).1 ho) pN _ _ _ _ (by simp) (by rw[Array.toList_replicate,u'];exact Nat.le_refl _) ?_ (by rw[e];exact My))
 intro i o _ hd
 rw[e] at hd
 cases hd
def Td (ops:Array Oper):Bool:=ops.all fun o=>xJ o.op
theorem MF {ops:Array Oper}(h:Td ops=true)(i:Nat)(o:Oper)(ho:ops[i]? =some o):xJ o.op=true:=by
 obtain⟨hi,rfl⟩:=Array.getElem?_eq_some_iff.1 ho
 exact(Array.all_eq_true_iff_forall_mem.1 h) _ (Array.getElem_mem hi)
attribute [local go_sem] Oper.semAt_some
def fq:List Int->List Nt
 |a::b::c::r=>(a,b,c)::fq r
 |_=>[]
def ent (ns:List Int)(j:Nat):Nt:=(ns.getD (j*3) 0,ns.getD (j*3+1) 0,ns.getD (j*3+2) 0)
theorem mA:∀(m:Nat) (ns:List Int),ns.length=m*3->(List.range m).map (ent ns)=fq ns
 |0,[],_=>rfl
 |0,_::_,h=>by simp at h
 |m+1,[],h=>by simp at h
 |m+1,[_],h=>by simp at h;omega
 |m+1,[_,_],h=>by simp at h;omega
 |m+1,a::b::c::r,h=>by
  have ih:=mA m r (by simp at h;omega)
  rw[List.range_succ_eq_map,List.map_cons,List.map_map,fq,<-ih]
  congr 1
  refine List.map_congr_left (fun j _=>?_)
  simp[ent,Function.comp,Nat.succ_mul]
theorem OQ:(Tryz.prog.info? 75).map (fun i=>(i.zero,i.size,i.bytes))=some (some (.agg #[.int .i64 0,.int .i64 0,.int .i64 0]),3,24):=by kernel_rfl
theorem IU (F:Fence)(n:Nat)(hf:F.fn 230)(Ck:F.round=none)(l Bs Bn cap:Nat)(a:Option Addr)(J:List (Fin 0)->World->Prop)(W:World)(Cq:W.cell? ⟨Bs,0,none⟩=some (.slice a 0 cap))(h0:J [] W):
  CallsIn F n Tryz.prog 230 #[.func (.yield l) #[] #[],.pointer (some ⟨Bs,0,none⟩),.pointer (some ⟨Bn,0,none⟩)] W fun e W'=>(∃v,e=.returned v)/\J [] W':=by
 refine callsIn_of_wp Tryz.func230 rfl hf ?_ Ck
 simp only[Tryz.ntmps230,List.size_toArray,List.length_cons,List.length_nil,Nat.reduceAdd,Nat.reduceSub,Array.replicate_succ,Array.replicate_zero,List.push_toArray,List.append_toArray,List.nil_append,List.cons_append]
 gi_wp2
 gi_loopw [4] (fun i wr=>i=.int .i64 0/\J [] wr/\wr=W) (fun _ _=>0)
 case atStart=>exact⟨rfl,h0,rfl⟩
 case round=>
  obtain⟨rfl,Qj,rfl⟩:=hrel
  gi_wp2
  go_end0
  exact⟨⟨_,rfl⟩,Qj⟩
theorem Kn (F:Fence)(n:Nat)(hf:F.fn 203)(Ck:F.round=none)(a:Option Addr)(len cap:Nat)(w:World):
  CallsIn F n Tryz.prog 203 #[.slice a len cap,.int .i64 3] w fun e w'=>e=.returned (.func (.func 230) #[] #[.pointer (some ⟨w.heap.size,0,none⟩),.pointer (some ⟨w.heap.size+1,0,none⟩)])/\w'=(w.alloc (.cells #[.slice a len cap] 28)).alloc (.cells #[.int .i64 3] 3):=by
 refine callsIn_of_wp Tryz.func203 rfl hf ?_ Ck
 simp only[Tryz.ntmps203,List.size_toArray,List.length_cons,List.length_nil,Nat.reduceAdd,Nat.reduceSub,Array.replicate_succ,Array.replicate_zero,List.push_toArray,List.append_toArray,List.nil_append,List.cons_append]
 gi_wp2
 go_ret
 exact⟨rfl,rfl⟩
theorem CU (F:Fence)(n:Nat)(hf:F.fn 230)(Ck:F.round=none)(hn:1<=n)(Bs Bn kb b off m m3 cap:Nat)(Ky:m3=m*3)(hm:m3<=1000000)(M6:m3<=cap)(hcap:cap<=9223372036854775807)(w:World)(Cq:Boxed w Bs 28 (.slice (some ⟨b,off,none⟩) m3 cap))(Nv:Boxed w Bn 3 (.int .i64 3)):
  SeqStopsK F n Tryz.prog 230 #[.pointer (some ⟨Bs,0,none⟩),.pointer (some ⟨Bn,0,none⟩)] (fun x:Fin m=>#[Value.slice (some ⟨b,off+x.val*3,none⟩) 3 3]) (Kc kb Bs Bn) (fun ys=>ys.map Fin.val=List.range m) (fun _=>True) m w:=fun l J Jx W hW hJ _ hY h0=>
 GD F n hf Ck hn l Bs Bn kb b off m m3 cap Ky hm M6 hcap J Jx W hJ hY ((hW.block Bs Cq.lt).trans Cq) ((hW.block Bn Nv.lt).trans Nv) h0
theorem Ax (F:Fence)(n:Nat)(hf:F.fn 230)(Ck:F.round=none)(Bs Bn kb b off cap:Nat)(a:Option Addr)(w:World)(Cq:Boxed w Bs 28 (.slice a 0 cap)):
  SeqStopsK F n Tryz.prog 230 #[.pointer (some ⟨Bs,0,none⟩),.pointer (some ⟨Bn,0,none⟩)] (fun x:Fin 0=>#[Value.slice (some ⟨b,off+x.val*3,none⟩) 3 3]) (Kc kb Bs Bn) (fun ys=>ys.map Fin.val=List.range 0) (fun _=>True) 0 w:=fun l J _ W hW _ _ _ h0=>
 (IU F n hf Ck l Bs Bn cap a J W (show Boxed W Bs _ _ from(hW.block Bs Cq.lt).trans Cq).cell h0).mono fun _ _ ⟨he,hj⟩=>⟨he,.inl ⟨[],rfl,hj⟩⟩
def kn (a:Option Addr)(n cap B b o2:Nat)(V:Nat->Value):Act:=
 {tmps:=#[.slice a n cap,undef,.slice none 0 0,.pointer (some ⟨B,0,none⟩),.slice (some ⟨b,o2,none⟩) 3 3,.slice a n cap,.func (.func 230) #[] #[.pointer (some ⟨B+1,0,none⟩),.pointer (some ⟨B+2,0,none⟩)],.slice (some ⟨b,o2,none⟩) 3 3,V 0,V 1,V 2,V 3,V 4,V 5,V 6,V 7,V 8,V 9,V 10,V 11,V 12,undef],defers:=[]}
def bH (V:Nat->Value)(i:Nat)(v:Value):Nat->Value:=fun k=>if k=i then v else V k
def Tj (v0:Value)(b o2 q:Nat)(e0 e1 e2:Int)(v1:Value):Nat->Value->Prop
 |0,v=>v=v0
 |1,v=>v=.slice (some ⟨b,o2,none⟩) 3 3
 |2,v=>v=.pointer (some ⟨b,o2,none⟩)
 |3,v=>v=.int .i64 e0
 |4,v=>v=.slice (some ⟨b,o2,none⟩) 3 3
 |5,v=>v=.pointer (some ⟨b,o2+1,none⟩)
 |6,v=>v=.int .i64 e1
 |7,v=>v=.slice (some ⟨b,o2,none⟩) 3 3
 |8,v=>v=.pointer (some ⟨b,o2+2,none⟩)
 |9,v=>v=.int .i64 e2
 |10,v=>v=.agg #[.int .i64 e0,.int .i64 e1,.int .i64 e2]
 |11,v=>v=.slice (some ⟨q,0,none⟩) 1 1
 |12,v=>v=v1
 |_,_=>True
theorem aZ {P:Nat->Value->Prop}{d:Nat->Bool}{V:Nat->Value}(h:∀i,d i=true->P i (V i))(i:Nat)(v:Value)(hv:P i v):∀k,(k==i||d k)=true->P k (bH V i v k):=by
 intro k hk
 unfold bH
 by_cases e:k=i
 .subst e
  rw[if_pos rfl]
  exact hv
 rw[if_neg e]
 exact h k (by simpa[e] using hk)
def su (Wd Wa w1 wF:World)(d:Nat->Bool):World:=if d 13 then wF else if d 12 then w1 else if d 11 then Wa else Wd
theorem gt (Wd Wa w1 wF:World)(d:Nat->Bool)(i:Nat)(h1:i≠11)(h2:i≠12)(h3:i≠13):su Wd Wa w1 wF (fun k=>k==i||d k)=su Wd Wa w1 wF d:=by
 unfold su
 simp[Ne.symm h1,Ne.symm h2,Ne.symm h3]
theorem Kc.putObj {kb Bs Bn:Nat}{w:World}(hn:kb<=w.heap.size)(h1:Bs<w.heap.size)(h2:Bn<w.heap.size)(W:World)(l:Nat)(o o':Obj)(hl:w.heap.size<=l)(h:W.heap[l]? =some o)(hc:o.isCells=false)(hw:o.isWalk=false):Kc kb Bs Bn W (W.putObj l o'):=by
 have g:=grownBy_putObj' W l o'
 have lt:=(Array.getElem?_eq_some_iff.1 h).1
 exact⟨belowK_b hn W l o o' hl h hc hw,g.block Bs (by omega) (by intro e;cases e;omega),g.block Bn (by omega) (by intro e;cases e;omega)⟩
theorem tY (ns:List Int)(m b off n cap:Nat)(a:Option Addr)(w:World)(hm:m<=100000)
  (fH:∀j,j<m*3->w.cell? ⟨b,off+j,none⟩=some (.int .i64 (ns.getD j 0))) (hb:m≠0->b<w.heap.size)
  (hs:∀W:World,Boxed W (w.heap.size+1) 28 (.slice a n cap)->Boxed W (w.heap.size+2) 3 (.int .i64 3)->SeqStopsK Fence.wide 4 Tryz.prog 230 #[.pointer (some ⟨w.heap.size+1,0,none⟩),.pointer (some ⟨w.heap.size+2,0,none⟩)] (fun x:Fin m=>#[Value.slice (some ⟨b,off+x.val*3,none⟩) 3 3]) (Kc w.heap.size (w.heap.size+1) (w.heap.size+2)) (fun ys=>ys.map Fin.val=List.range m) (fun _=>True) m W):
  Calls Tryz.prog 173 #[.slice a n cap] w fun e w'=>∃v,e=.returned v/\w'.ownsRow w.heap.size 75 3 v m (((List.range m).map (ent ns)).flatMap ec)/\Below w.heap.size w w':=by
 obtain⟨i0,hi,bK,bm,bQ⟩:=info_parts OQ
 refine(callsIn_wide (n:=5)).1 ?_
 refine callsIn_of_wp_marks Tryz.func173 rfl trivial ?_ rfl
 simp only[Tryz.ntmps173,List.size_toArray,List.length_cons,List.length_nil,Nat.reduceAdd,Nat.reduceSub,Array.replicate_succ,Array.replicate_zero,List.push_toArray,List.append_toArray,List.nil_append,List.cons_append]
 gi_wp2
 refine⟨trivial,?_⟩
 refine(Kn Fence.wide 4 trivial rfl _ _ _ _).mono ?_
 rintro e w' ⟨rfl,rfl⟩
 gi_wp2
 have bO:=((Boxed.new w 31 (.slice none 0 0)).alloc (.cells #[.slice a n cap] 28)).alloc (.cells #[.int .i64 3] 3)
 have bS:=(Boxed.new (w.alloc (.cells #[.slice none 0 0] 31)) 28 (.slice a n cap)).alloc (.cells #[.int .i64 3] 3)
 have bN:=Boxed.new ((w.alloc (.cells #[.slice none 0 0] 31)).alloc (.cells #[.slice a n cap] 28)) 3 (.int .i64 3)
 rw[World.size_alloc] at bS
 rw[World.size_alloc,World.size_alloc] at bN
 have Sf:Below w.heap.size w (((w.alloc (.cells #[.slice none 0 0] 31)).alloc (.cells #[.slice a n cap] 28)).alloc (.cells #[.int .i64 3] 3)):=newB (newB (newB (Below.refl _ w) _) _) _
 have dW:(((w.alloc (.cells #[.slice none 0 0] 31)).alloc (.cells #[.slice a n cap] 28)).alloc (.cells #[.int .i64 3] 3)).heap.size=w.heap.size+3:=by simp
 generalize((w.alloc (.cells #[.slice none 0 0] 31)).alloc (.cells #[.slice a n cap] 28)).alloc (.cells #[.int .i64 3] 3)=W3 at*
 have qR:1<=5:=by decide
 refine wpIn_rangeFunc_ownG (α:=Fin m) (ps:=#[7]) rfl qR (gf:=230) (lb:=#[.pointer (some ⟨w.heap.size+1,0,none⟩),.pointer (some ⟨w.heap.size+2,0,none⟩)]) rfl trivial (enters_of Tryz.func230 (by kernel_rfl) rfl)
  (hs W3 bS bN) Kc.trans (Kc.putObj (w:=W3) (by omega) (by omega) (by omega)) (Below.refl _ _) (fun _=>rfl)
  (fun(pre:List (Fin m)) W=>(∃v,Boxed W w.heap.size 31 v/\W.ownsRow w.heap.size 75 3 v pre.length ((pre.map (fun x=>ent ns x.val)).flatMap ec)/\True)/\(Boxed W (w.heap.size+1) 28 (.slice a n cap)/\Boxed W (w.heap.size+2) 3 (.int .i64 3))/\Below w.heap.size w W)
  (fun _ _ _=>False)
  (OwnFrom.and (Own.from (holdsRow_own w.heap.size w.heap.size 31 75 3 (fun pre:List (Fin m)=>pre.length) (fun pre:List (Fin m)=>(pre.map (fun x=>ent ns x.val)).flatMap ec) (fun _ _=>True)) _) (OwnFrom.and (OwnFrom.and (Own.from (boxed_own _ _ (fun _=>.slice a n cap)) _) (Own.from (boxed_own _ _ (fun _=>.int .i64 3)) _)) (ownFrom_below (Nat.le_refl _) (by omega))))
  (fun _ _ _ _ _ hs _ _=>hs)
  ⟨⟨_,bO,World.ownsRow_nil _ _ _ _,trivial⟩,⟨bS,bN⟩,Sf⟩
  (fun x:Fin m=> {tmps:=#[.slice a n cap,undef,.slice none 0 0,.pointer (some ⟨w.heap.size,0,none⟩),.slice (some ⟨b,off+x.val*3,none⟩) 3 3,.slice a n cap,.func (.func 230) #[] #[.pointer (some ⟨w.heap.size+1,0,none⟩),.pointer (some ⟨w.heap.size+2,0,none⟩)],.slice (some ⟨b,off+x.val*3,none⟩) 3 3,undef,undef,undef,undef,undef,undef,undef,undef,undef,undef,undef,undef,undef,undef],defers:=[]}) ?assign ?body ?done ?stop
 case assign=>
  intro l x W K hK
  gi_wp2
  exact hK
 case body=>
  rintro l pre x W ⟨⟨v,hv,ew,-⟩,⟨hS,hN⟩,hB⟩ aE
  have mixed:Tryz.prog.follows .mixedOrders=true:=by kernel_rfl
  have hx3:x.val*3+2<m*3:=by have:=x.isLt;omega
  have rQ:b<w.heap.size:=hb (by have:=x.isLt;omega)
  have c0:=(hB.cell (p:=⟨b,off+x.val*3,none⟩) rQ).trans (fH (x.val*3) (by omega))
  have c1:=(hB.cell (p:=⟨b,off+x.val*3+1,none⟩) rQ).trans (fH (x.val*3+1) (by omega))
  have c2:=(hB.cell (p:=⟨b,off+x.val*3+2,none⟩) rQ).trans (fH (x.val*3+2) (by omega))
  have pL:ent ns x.val=(ns.getD (x.val*3) 0,ns.getD (x.val*3+1) 0,ns.getD (x.val*3+2) 0):=rfl
  generalize ns.getD (x.val*3) 0=e0 at*
  generalize ns.getD (x.val*3+1) 0=e1 at*
  generalize ns.getD (x.val*3+2) 0=e2 at*
  obtain⟨ao,G,rfl⟩:∃ao G,v=.slice ao pre.length G:=by
   rcases ew.2 with⟨h,h'⟩| ⟨g,rZ,cur,h,_⟩
   .exact⟨none,0,by rw[h,h']⟩
   exact⟨_,_,h⟩
  have Uu:=hv.cell
  have hD:Below W.heap.size W W.drew:=ak (Below.refl _ _)
  have Im:=dx ew hD
  have X6:Boxed W.drew w.heap.size 31 (.slice ao pre.length G):=hv
  obtain⟨g7,G7,w1,j5,ez,cz,-,Hc⟩:=run_append_lies (P:=Tryz.prog) (W.drew.alloc (.cells #[.int .i64 e0,.int .i64 e1,.int .i64 e2] 75)) 31 31 w.heap.size 75 i0 _ 3 24 Tryz.underlying31 hi bK bm bQ rfl (by decide) (.slice ao pre.length G) pre.length _ (Im.alloc _) ⟨W.heap.size,0,none⟩ 1 1 [.int .i64 e0,.int .i64 e1,.int .i64 e2] rfl (World.news_of_block (cs:=#[.int .i64 e0,.int .i64 e1,.int .i64 e2]) (t:=75) (fr:=(0,0)) (heap_alloc_new W.drew _)) (by simp[Value.oneCell']) (by decide) (by unfold maxLen;omega) (by omega) (by have:=hB.size;simp;omega) _ rfl
  obtain⟨Ce,W6,UG,Ia,jJ⟩:=X6.appended (by decide) Im hB.size (Nat.le_refl _) ez cz
  have cw1:=Ce.cell
  have fw1:=Ce.frozen
  have kS:some (w.heap.size+1)≠(Value.slice ao pre.length G).ownBlock:=hS.not_row (by decide) ew
  have kN:some (w.heap.size+2)≠(Value.slice ao pre.length G).ownBlock:=hN.not_row (by decide) ew
  have Xx:Boxed w1 (w.heap.size+1) 28 (.slice a n cap):=((show Boxed W.drew _ _ _ from hS).alloc _).kept cz kS
  have XR:Boxed w1 (w.heap.size+2) 3 (.int .i64 3):=((show Boxed W.drew _ _ _ from hN).alloc _).kept cz kN
  have RD:=Xx.other (B':=w.heap.size) (by omega) (.slice (some ⟨g7,0,none⟩) (pre.length+1) G7)
  have Ul:=XR.other (B':=w.heap.size) (by omega) (.slice (some ⟨g7,0,none⟩) (pre.length+1) G7)
  have fin:∀W',W'=w1.setCell ⟨w.heap.size,0,none⟩ (.slice (some ⟨g7,0,none⟩) (pre.length+1) G7)->KeepsFrom W3.heap.size W W'/\Kc w.heap.size (w.heap.size+1) (w.heap.size+2) W W'/\((∃v,Boxed W' w.heap.size 31 v/\W'.ownsRow w.heap.size 75 3 v (pre++[x]).length (((pre++[x]).map (fun x=>ent ns x.val)).flatMap ec)/\True)/\(Boxed W' (w.heap.size+1) 28 (.slice a n cap)/\Boxed W' (w.heap.size+2) 3 (.int .i64 3))/\Below w.heap.size w W'):=by
   rintro W' rfl
   have bb:Below w.heap.size W _:=(hD.mono hB.size).trans jJ
   refine⟨((KeepsOthers.drew W).trans Ia).from _,⟨bb,RD.trans hS.symm,Ul.trans hN.symm⟩,⟨_,W6,?_,trivial⟩,⟨RD,Ul⟩,hB.trans bb⟩
   rw[List.length_append,List.map_append,List.flatMap_append]
   simpa[pL,ec] using UG
  clear hs Xx XR RD Ul Ce W6 UG Ia jJ ez cz kS kN Im X6 ew hS hN
  gi_wp2
  have cOa:(W.drew.alloc (.cells #[.int .i64 e0,.int .i64 e1,.int .i64 e2] 75)).cell? ⟨w.heap.size,0,none⟩=some (.slice ao pre.length G):=(World.cell?_alloc_some W.drew _ _ (by rw[show W.drew.cell? ⟨w.heap.size,0,none⟩=_ from Uu];rfl)).trans Uu
  refine vc (by kernel_rfl) (by kernel_rfl) (MF (by kernel_rfl)) (fun d a' W'=>∃V,a'=kn a n cap w.heap.size b (off+x.val*3) V/\(∀i,d i=true->Tj (.slice ao pre.length G) b (off+x.val*3) W.heap.size e0 e1 e2 (.slice (some ⟨g7,0,none⟩) (pre.length+1) G7) i (V i))/\W'=su W.drew (W.drew.alloc (.cells #[.int .i64 e0,.int .i64 e1,.int .i64 e2] 75)) w1 (w1.setCell ⟨w.heap.size,0,none⟩ (.slice (some ⟨g7,0,none⟩) (pre.length+1) G7)) d) ?step ?fin ?start
  case start=>exact⟨fun _=>undef,rfl,fun _ h=>Bool.noConfusion h,rfl⟩
  case fin=>
   intro d a' W' aU inv
   obtain⟨V,rfl,_,hW⟩:=inv
   have jp:d 13=true:=aU 13 (by decide)
   unfold su at hW
   rw[if_pos jp] at hW
   subst hW
   unfold kn
   gi_wp2
   exact fin _ rfl
  case step=>
   intro i o d a' W' tg ho hd aU down inv K' hK
   obtain⟨V,rfl,hv,hW⟩:=inv
   have HW:=aa hW
   clear hW
   have key:i=0\/i=1\/i=2\/i=3\/i=4\/i=5\/i=6\/i=7\/i=8\/i=9\/i=10\/i=11\/i=12\/i=13:=by
    have:i<14:=tg
    omega
   clear tg
   rcases key with rfl|rfl|rfl|rfl|rfl|rfl|rfl|rfl|rfl|rfl|rfl|rfl|rfl|rfl
   .obtain rfl:=Option.some.inj ho
    rw[if_pos (by rfl)]
    have jL:d 12=false:=no down 12 _ rfl ⟨0,.data⟩ (by simp) rfl hd
    have jp:d 13=false:=no down 13 _ rfl ⟨12,.data⟩ (by simp) rfl jL
    have tu:W'.cell? ⟨w.heap.size,0,none⟩=some (.slice ao pre.length G):=by
     rw[HW.out]
     unfold su
     rw[jp,jL]
     cases d 11
     .exact Uu
     exact cOa
    have Po:w.heap.size<W'.heap.size:=World.block_lt_of_cell? _ _ tu
    unfold kn
    go_simp
    refine hK _ _ ⟨bH V 0 _,?_,aZ hv 0 _ rfl,by rw[HW.out,gt _ _ _ _ _ _ (by decide) (by decide) (by decide)]⟩
    unfold kn bH
    simp
   .obtain rfl:=Option.some.inj ho
    rw[if_pos (by rfl)]
    unfold kn
    go_simp
    refine hK _ _ ⟨bH V 1 _,?_,aZ hv 1 _ rfl,by rw[HW.out,gt _ _ _ _ _ _ (by decide) (by decide) (by decide)]⟩
    unfold kn bH
    simp
   .obtain rfl:=Option.some.inj ho
    rw[if_pos (by rfl)]
    have q1:V 1=.slice (some ⟨b,off+x.val*3,none⟩) 3 3:=hv 1 (aU ⟨1,.data⟩ (by simp) rfl)
    unfold kn
    rw[q1]
    go_simp
    refine hK _ _ ⟨bH V 2 _,?_,aZ hv 2 _ rfl,by rw[HW.out,gt _ _ _ _ _ _ (by decide) (by decide) (by decide)]⟩
    unfold kn bH
    simp[q1]
   .obtain rfl:=Option.some.inj ho
    rw[if_pos (by rfl)]
    have q2:V 2=.pointer (some ⟨b,off+x.val*3,none⟩):=hv 2 (aU ⟨2,.data⟩ (by simp) rfl)
    have uY:d 10=false:=no down 10 _ rfl ⟨3,.data⟩ (by simp) rfl hd
    have rE:d 11=false:=no down 11 _ rfl ⟨10,.data⟩ (by simp) rfl uY
    have jL:d 12=false:=no down 12 _ rfl ⟨11,.data⟩ (by simp) rfl rE
    have jp:d 13=false:=no down 13 _ rfl ⟨12,.data⟩ (by simp) rfl jL
    have tu:W'.cell? ⟨b,off+x.val*3,none⟩=some (.int .i64 e0):=by
     rw[HW.out]
     unfold su
     rw[jp,jL,rE]
     exact c0
    have Xv:=World.block_lt_of_cell? _ _ tu
    unfold kn
    rw[q2]
    go_simp
    refine hK _ _ ⟨bH V 3 _,?_,aZ hv 3 _ rfl,by rw[HW.out,gt _ _ _ _ _ _ (by decide) (by decide) (by decide)]⟩
    unfold kn bH
    simp[q2]
   .obtain rfl:=Option.some.inj ho
    rw[if_pos (by rfl)]
    unfold kn
    go_simp
    refine hK _ _ ⟨bH V 4 _,?_,aZ hv 4 _ rfl,by rw[HW.out,gt _ _ _ _ _ _ (by decide) (by decide) (by decide)]⟩
    unfold kn bH
    simp
   .obtain rfl:=Option.some.inj ho
    rw[if_pos (by rfl)]
    have q4:V 4=.slice (some ⟨b,off+x.val*3,none⟩) 3 3:=hv 4 (aU ⟨4,.data⟩ (by simp) rfl)
    unfold kn
    rw[q4]
    go_simp
    refine hK _ _ ⟨bH V 5 _,?_,aZ hv 5 _ rfl,by rw[HW.out,gt _ _ _ _ _ _ (by decide) (by decide) (by decide)]⟩
    unfold kn bH
    simp[q4]
   .obtain rfl:=Option.some.inj ho
    rw[if_pos (by rfl)]
    have q5:V 5=.pointer (some ⟨b,off+x.val*3+1,none⟩):=hv 5 (aU ⟨5,.data⟩ (by simp) rfl)
    have uY:d 10=false:=no down 10 _ rfl ⟨6,.data⟩ (by simp) rfl hd
    have rE:d 11=false:=no down 11 _ rfl ⟨10,.data⟩ (by simp) rfl uY
    have jL:d 12=false:=no down 12 _ rfl ⟨11,.data⟩ (by simp) rfl rE
    have jp:d 13=false:=no down 13 _ rfl ⟨12,.data⟩ (by simp) rfl jL
    have tu:W'.cell? ⟨b,off+x.val*3+1,none⟩=some (.int .i64 e1):=by
     rw[HW.out]
     unfold su
     rw[jp,jL,rE]
     exact c1
    have Xv:=World.block_lt_of_cell? _ _ tu
    unfold kn
    rw[q5]
    go_simp
    refine hK _ _ ⟨bH V 6 _,?_,aZ hv 6 _ rfl,by rw[HW.out,gt _ _ _ _ _ _ (by decide) (by decide) (by decide)]⟩
    unfold kn bH
    simp[q5]
   .obtain rfl:=Option.some.inj ho
    rw[if_pos (by rfl)]
    unfold kn
    go_simp
    refine hK _ _ ⟨bH V 7 _,?_,aZ hv 7 _ rfl,by rw[HW.out,gt _ _ _ _ _ _ (by decide) (by decide) (by decide)]⟩
    unfold kn bH
    simp
   .obtain rfl:=Option.some.inj ho
    rw[if_pos (by rfl)]
    have q7:V 7=.slice (some ⟨b,off+x.val*3,none⟩) 3 3:=hv 7 (aU ⟨7,.data⟩ (by simp) rfl)
    unfold kn
    rw[q7]
    go_simp
    refine hK _ _ ⟨bH V 8 _,?_,aZ hv 8 _ rfl,by rw[HW.out,gt _ _ _ _ _ _ (by decide) (by decide) (by decide)]⟩
    unfold kn bH
    simp[q7]
   .obtain rfl:=Option.some.inj ho
    rw[if_pos (by rfl)]
    have q8:V 8=.pointer (some ⟨b,off+x.val*3+2,none⟩):=hv 8 (aU ⟨8,.data⟩ (by simp) rfl)
    have uY:d 10=false:=no down 10 _ rfl ⟨9,.data⟩ (by simp) rfl hd
    have rE:d 11=false:=no down 11 _ rfl ⟨10,.data⟩ (by simp) rfl uY
    have jL:d 12=false:=no down 12 _ rfl ⟨11,.data⟩ (by simp) rfl rE
    have jp:d 13=false:=no down 13 _ rfl ⟨12,.data⟩ (by simp) rfl jL
    have tu:W'.cell? ⟨b,off+x.val*3+2,none⟩=some (.int .i64 e2):=by
     rw[HW.out]
     unfold su
     rw[jp,jL,rE]
     exact c2
    have Xv:=World.block_lt_of_cell? _ _ tu
    unfold kn
    rw[q8]
    go_simp
    refine hK _ _ ⟨bH V 9 _,?_,aZ hv 9 _ rfl,by rw[HW.out,gt _ _ _ _ _ _ (by decide) (by decide) (by decide)]⟩
    unfold kn bH
    simp[q8]
   .obtain rfl:=Option.some.inj ho
    rw[if_pos (by rfl)]
    have q3:V 3=.int .i64 e0:=hv 3 (aU ⟨3,.data⟩ (by simp) rfl)
    have q6:V 6=.int .i64 e1:=hv 6 (aU ⟨6,.data⟩ (by simp) rfl)
    have q9:V 9=.int .i64 e2:=hv 9 (aU ⟨9,.data⟩ (by simp) rfl)
    unfold kn
    rw[q3,q6,q9]
    go_simp
    refine hK _ _ ⟨bH V 10 _,?_,aZ hv 10 _ rfl,by rw[HW.out,gt _ _ _ _ _ _ (by decide) (by decide) (by decide)]⟩
    unfold kn bH
    simp[q3,q6,q9]
   .obtain rfl:=Option.some.inj ho
    rw[if_pos (by rfl)]
    have Q7:V 10=.agg #[.int .i64 e0,.int .i64 e1,.int .i64 e2]:=hv 10 (aU ⟨10,.data⟩ (by simp) rfl)
    have jL:d 12=false:=no down 12 _ rfl ⟨11,.data⟩ (by simp) rfl hd
    have jp:d 13=false:=no down 13 _ rfl ⟨12,.data⟩ (by simp) rfl jL
    have hW:=HW.out
    unfold su at hW
    rw[jp,jL,hd] at hW
    simp only[Bool.false_eq_true,if_false] at hW
    clear HW
    subst hW
    unfold kn
    rw[Q7]
    go_simp
    refine hK _ _ ⟨bH V 11 _,?_,aZ hv 11 _ rfl,?_⟩
    .unfold kn bH
     simp[Q7]
    unfold su
    simp[jL,jp]
    rfl
   .obtain rfl:=Option.some.inj ho
    rw[if_pos (by rfl)]
    have q0:V 0=.slice ao pre.length G:=hv 0 (aU ⟨0,.data⟩ (by simp) rfl)
    have MZ:V 11=.slice (some ⟨W.heap.size,0,none⟩) 1 1:=hv 11 (aU ⟨11,.data⟩ (by simp) rfl)
    have jp:d 13=false:=no down 13 _ rfl ⟨12,.data⟩ (by simp) rfl hd
    have rE:d 11=true:=aU ⟨11,.data⟩ (by simp) rfl
    have hW:=HW.out
    unfold su at hW
    rw[jp,hd,rE] at hW
    simp only[Bool.false_eq_true,if_false,if_true] at hW
    clear HW
    subst hW
    refine Lib.wp_append_run _ (.tmp 8) (.tmp 19) _ _ rfl (.slice ao pre.length G) (.slice (some ⟨W.heap.size,0,none⟩) 1 1) q0 MZ _ _ j5 ?_
    refine hK _ _ ⟨bH V 12 _,?_,aZ hv 12 _ rfl,?_⟩
    .rfl
    unfold su
    simp[jp]
   obtain rfl:=Option.some.inj ho
   rw[if_pos (by rfl)]
   have Qu:V 12=.slice (some ⟨g7,0,none⟩) (pre.length+1) G7:=hv 12 (aU ⟨12,.data⟩ (by simp) rfl)
   have jL:d 12=true:=aU ⟨12,.data⟩ (by simp) rfl
   have hW:=HW.out
   unfold su at hW
   rw[hd,jL] at hW
   simp only[Bool.false_eq_true,if_false,if_true] at hW
   clear HW
   subst hW
   have l1:=World.block_lt_of_cell? _ _ cw1
   unfold kn
   rw[Qu]
   go_simp
   refine hK _ _ ⟨V,?_,?_,?_⟩
   .unfold kn
    simp[Qu]
   .intro k hk
    by_cases e:k=13
    .subst e
     trivial
    exact hv k (by simpa[e] using hk)
   unfold su
   simp
 case done=>
  rintro D ys W hD WP ⟨⟨v,hv,ew,-⟩,-,hB⟩ hK
  have hc:=hv.cell
  gi_wp2
  refine⟨by simp,.inl ⟨_,_,rfl,run_takeDeferred hK,?_⟩⟩
  have hl:ys.length=m:=chunks m m ys WP
  have he:ys.map (fun x=>ent ns x.val)=(List.range m).map (ent ns):=by rw[<-WP,List.map_map];rfl
  rw[hl,he] at ew
  exact⟨_,results_tmp rfl _ _ _,v,rfl,ownsRow_putObj ew _ hK rfl,hB.trans (belowK_b (w:=w) (Nat.le_refl _) W D _ _ (by omega) hK rfl rfl)⟩
 case stop=>
  rintro D c pre W _ _ h _
  exact h.elim
theorem uw (ns:List Int)(m n cap:Nat)(a:Option Addr)(w:World)(S:Sl w a cap (ns.map (Value.int .i64)))(hn:n=ns.length)(h3:n=m*3)(hm:m<=100000):
  Calls Tryz.prog 173 #[.slice a n cap] w fun e w'=>∃v,e=.returned v/\w'.ownsRow w.heap.size 75 3 v m ((fq ns).flatMap ec)/\Below w.heap.size w w':=by
 rw[<-mA m ns (by omega)]
 by_cases h0:m=0
 .subst h0
  obtain rfl:n=0:=by omega
  exact tY ns 0 0 0 0 cap a w hm (fun j hj=>absurd hj (by omega)) (fun h=>absurd rfl h) (fun W hS _=>Ax Fence.wide 4 trivial rfl _ _ _ 0 0 cap a W hS)
 obtain⟨b,off,rfl,hb,hc⟩:=S.row.at (by intro h;have:=congrArg List.length h;simp at this;subst this;simp at hn;omega)
 have fE:=S.le
 rw[List.length_map,<-hn] at fE
 refine tY ns m b off n cap _ w hm (fun j hj=>?_) (fun _=>hb) (fun W hS hN=>CU Fence.wide 4 trivial rfl (by decide) _ _ _ b off m n cap h3 (by omega) fE S.max W hS hN)
 have FV:j<ns.length:=by omega
 refine hc j _ ?_
 rw[List.getElem?_map,List.getElem?_eq_getElem FV]
 simp[List.getD,FV]
end Go.Proofs.YtoonnbhoiocoeaaGreatDoor
