/-
  rainbookref.MergedRow, of a shelf that is right: all cases in one.
-/
import Derived.Test.YtoonnbhoiocoeaaGreatDoorHSRefMergeS
import Derived.Test.YtoonnbhoiocoeaaGreatDoorHSRefPutS
import Derived.Test.YtoonnbhoiocoeaaGreatDoorQ21
set_option maxHeartbeats 40000000
set_option maxRecDepth 100000
set_option linter.unusedVariables false
namespace Go.Proofs.YtoonnbhoiocoeaaGreatDoor
open Go.RowKit
theorem xq {r:Lr}{j:Nat}{x:Lb}(h:r.bs[j]? =some x):mc r.rw j=x.b:=by
 unfold mc Lr.rw
 simp only
 rw[List.getD,List.getElem?_map,h]
 rfl
theorem Eu (l:List Lr)(ao:Option Addr)(cap:Nat)(s n:Int)(w:World)(hs:bL w ao cap l)(hR:eY (l.map Lr.rw))(hw:(Lit.int .i64 n).wf=true):
  Calls Tryz.prog 101 #[.agg #[.slice ao l.length cap],.int .i64 s,.int .i64 n] w fun e w'=>
   ∃rs a' G,e=.returned (.tuple #[.agg #[.slice a' rs.length G],.int .i64 (gG (l.map Lr.rw) s n)])/\rs.map Lr.rw=j7 (l.map Lr.rw) s n/\bL w' a' G rs/\Below w.heap.size w w'/\ae w.heap.size l rs:=by
 have h4:l.length=4:=by have:=hR.four;rwa[List.length_map] at this
 have no:∀E:Int,E≠0->gG (l.map Lr.rw) s n=E->∀(e:Ending) (w':World),(e=.returned (.tuple #[.agg #[.slice none 0 0],.int .i64 E])/\Below w.heap.size w w')->
   ∃rs a' G,e=.returned (.tuple #[.agg #[.slice a' rs.length G],.int .i64 (gG (l.map Lr.rw) s n)])/\rs.map Lr.rw=j7 (l.map Lr.rw) s n/\bL w' a' G rs/\Below w.heap.size w w'/\ae w.heap.size l rs:=by
  rintro E hE hS e w' ⟨rfl,hb⟩
  refine⟨[],none,0,by rw[hS];rfl,?_,bL.ofNil _,hb,ae.nil _ _⟩
  unfold j7
  rw[hS,if_neg hE]
  rfl
 by_cases h0:dG s 0 3=false
 .exact(Fq _ _ _ _ _ _ h0).mono (no 5 (by decide) (by unfold gG;rw[if_pos h0]))
 have OH:0<=s/\s<=3:=by
  have:dG s 0 3=true:=by simpa using h0
  exact of_decide_eq_true this
 obtain⟨k,rfl⟩:=Int.eq_ofNat_of_zero_le OH.1
 have hk:k<4:=by omega
 obtain⟨r,hr⟩:∃r,l[k]? =some r:=⟨_,List.getElem?_eq_getElem (by rw[h4];exact hk)⟩
 have hg:=OV hr
 have hf:=hR.few r.rw (List.mem_map.2 ⟨r,List.mem_of_getElem? hr,rfl⟩)
 have rQ:r.rw.blocks.length=r.bs.length:=by unfold Lr.rw;simp
 have SI:r.bs.length<=8:=by rw[<-rQ];exact hf.1
 have Tf:r.hd.length<=40:=hf.2
 have Gg:((k:Int)).toNat=k:=Int.toNat_natCast k
 rw[h4]
 by_cases h1:dG n 0 ((r.bs.length:Int)-2)=false
 .exact(Ak l ao cap k n w hs h4 hk r hr hw h1).mono (no 3 (by decide) (by unfold gG;rw[if_neg h0,Gg,hg,rQ,if_pos h1]))
 have rO:dG n 0 ((r.bs.length:Int)-2)=true:=by simpa using h1
 have hn:0<=n/\n<=(r.bs.length:Int)-2:=of_decide_eq_true rO
 obtain⟨j,rfl⟩:=Int.eq_ofNat_of_zero_le hn.1
 have Wt:((j:Int)).toNat=j:=Int.toNat_natCast j
 obtain⟨x,hx⟩:∃x,r.bs[j]? =some x:=⟨_,List.getElem?_eq_getElem (by omega)⟩
 obtain⟨y,hy⟩:∃y,r.bs[j+1]? =some y:=⟨_,List.getElem?_eq_getElem (by omega)⟩
 have hE:gG (l.map Lr.rw) k j=eA x.b y.b:=by unfold gG;rw[if_neg h0,Gg,hg,rQ,if_neg h1,Wt,xq hx,xq hy]
 refine(Iz l ao cap k j w hs h4 hk r hr SI Tf x y hx hy).mono ?_
 rintro e w' (⟨h2,rfl,hb⟩| ⟨h2,rs,a',G,rfl,Jk,hS,hb⟩)
 .exact no _ h2 hE _ _ ⟨rfl,hb⟩
 have hl:rs.length=4:=by
  have:=congrArg List.length Jk
  rw[List.length_map,List.length_set,List.length_map,h4] at this
  exact this
 refine⟨rs,a',G,by rw[hE,h2,hl],?_,hS,hb⟩
 unfold j7
 rw[hE,if_pos h2,Gg,hg,Wt,xq hx,xq hy,Jk]
 rfl
theorem Ik {w:World}{b1 b2 s1 s2 n m:Nat}{t1 t2:TypeId}{u v:Value}{xs ys:List Value}(h:w.ownsRow b1 t1 s1 u n xs)(k:w.ownsRow b2 t2 s2 v m ys)(ht:t1≠t2):Apart u v:=by
 intro g hu hv
 rcases h.2 with⟨rfl,_⟩| ⟨g1,c1,Fn,rfl,_,h1,_⟩
 .simp[Value.ownBlock] at hu
 rcases k.2 with⟨rfl,_⟩| ⟨g2,c2,Ri,rfl,_,h2,_⟩
 .simp[Value.ownBlock] at hv
 have e1:g1=g:=Option.some.inj hu
 have e2:g2=g:=Option.some.inj hv
 subst e1
 subst e2
 rw[h1] at h2
 simp only[Option.some.injEq,Obj.cells.injEq] at h2
 exact ht h2.2.1
theorem Bx {w:World}{b1 s1 n g:Nat}{t1 t2:TypeId}{u:Value}{xs cs:List Value}(h:w.ownsRow b1 t1 s1 u n xs)(B:ag w g cs t2)(ht:t1≠t2):u.ownBlock=none\/u.ownBlock≠some g:=by
 rcases h.2 with⟨rfl,_⟩| ⟨g1,c1,Fn,rfl,_,h1,_⟩
 .exact .inl rfl
 refine .inr (fun e=>?_)
 have e1:g1=g:=Option.some.inj e
 subst e1
 unfold ag at B
 rw[h1] at B
 simp only[Option.some.injEq,Obj.cells.injEq] at B
 exact ht B.2.1
def ve (n:Int)(x:Lb):Bool:= !decide (x.b.to<n)
structure lU (base:Nat)(n:Int)(w:World)(q r:Lr):Prop where
 hd:r.hd=q.hd
 ha:r.ha=q.ha
 hc:r.hc=q.hc
 bs:r.bs=q.bs.filter (ve n)
 own:w.ownsRow base 107 4 (.slice r.ba r.bs.length r.bc) r.bs.length (r.bs.flatMap Lb.cells)
theorem lU.call {base:Nat}{n:Int}{w w':World}{q r:Lr}(h:lU base n w q r)(hb:Below w.heap.size w w'):lU base n w' q r:=⟨h.hd,h.ha,h.hc,h.bs,dx h.own hb⟩
theorem lU.wrote {base:Nat}{n:Int}{w w':World}{q r:Lr}{g:Nat}{cs:List Value}{t:TypeId}(h:lU base n w q r)(hg:w.grownBy w' (some g))(B:ag w g cs t)(ht:107≠t):lU base n w' q r:=
 ⟨h.hd,h.ha,h.hc,h.bs,h.own.kept hg (Bx h.own B ht)⟩
theorem lU.apart {base b2:Nat}{n:Int}{w w':World}{q r:Lr}{v:Value}{m:Nat}{ys:List Value}(h:lU base n w q r)(hg:w.grownBy w' v.ownBlock)(k:w.ownsRow b2 53 2 v m ys):lU base n w' q r:=
 ⟨h.hd,h.ha,h.hc,h.bs,rj h.own hg (Ik h.own k (by decide))⟩
theorem lU.good {base:Nat}{n:Int}{w w':World}{q r:Lr}(h:lU base n w' q r)(hq:q.Good w)(hb:Below w.heap.size w w'):r.Good w':=by
 have g:=hq.keep hb (Nat.le_refl _)
 obtain⟨a3,c3,e3,s3,_,_⟩:=be.ofOwn Lb.four (by decide) h.own
 simp only[Value.slice.injEq,true_and] at e3
 obtain⟨e1,e2⟩:=e3
 rw[<-e1,<-e2] at s3
 have hl:r.bs.length<=q.bs.length:=by rw[h.bs];exact List.length_filter_le _ _
 have h1:=g.few
 have h2:=g.hfew
 have h3:=g.hd
 refine⟨⟨s3,fun x hx=>g.bs.good x (List.mem_filter.1 (h.bs▸hx)).1⟩,?_,by omega,by rw[h.hd];exact h2⟩
 rw[h.hd,h.ha,h.hc]
 exact h3
theorem lU.rw {base:Nat}{n:Int}{w:World}{q r:Lr}(h:lU base n w q r):r.rw=fb n q.rw:=by
 unfold Lr.rw fb
 rw[h.hd,h.bs,List.filter_map]
 rfl
theorem yH (m:Nat)(ao:Option Addr)(cap:Nat)(n:Int)(w:World)(h:dG n 0 100001=false):
  Calls Tryz.prog 102 #[.agg #[.slice ao m cap],.int .i64 n] w fun e w'=>e=.returned (.tuple #[.agg #[.slice none 0 0],.int .i64 3])/\Below w.heap.size w w':=by
 have c:=fun W=>bG n 0 100001 W
 unfold dG at h
 rw[h] at c
 clear h
 go_enter Tryz.func102,Tryz.ntmps102
 go_wp2_with fail
 go_at_call 36
 refine(c _).mono ?_
 rintro e w1 ⟨rfl,rfl⟩
 go_wp2_with fail
 exact bodyPost_ret (v:=.tuple #[.agg #[.slice none 0 0],.int .i64 3]) (by simp[results,Tryz.results102,go_sem]) rfl ⟨rfl,dN w _ _⟩
theorem EO (l:List Lr)(ao:Option Addr)(cap:Nat)(n:Int)(w:World)(hs:bL w ao cap l)(h4:l.length=4)(few:∀r∈l,r.bs.length<=8)(h:dG n 0 100001=true):
  Calls Tryz.prog 102 #[.agg #[.slice ao 4 cap],.int .i64 n] w fun e w'=>
   ∃rs a' G,e=.returned (.tuple #[.agg #[.slice a' 4 G],.int .i64 0])/\rs.map Lr.rw=(l.map Lr.rw).map (fb n)/\rs.length=4/\bL w' a' G rs/\Below w.heap.size w w'/\ae w.heap.size l rs:=by
 have c:=fun W=>bG n 0 100001 W
 unfold dG at h
 rw[h] at c
 clear h
 obtain⟨lb,lo,rfl,-⟩:=hs.where (by intro e;rw[e] at h4;simp at h4)
 replace h4:=aa h4
 replace few:=aa few
 obtain⟨i0,Sv,z0,z1,z2⟩:=info_parts xL
 obtain⟨i1,km,y0,y1,y2⟩:=info_parts x7
 go_enter Tryz.func102,Tryz.ntmps102
 go_wp2_with fail
 go_at_call 36
 refine(c _).mono ?_
 rintro e w1 ⟨rfl,rfl⟩
 clear c
 go_wp2_with fail
 obtain⟨BR,BO,bel⟩:=three w [.slice (some ⟨lb,lo,none⟩) 4 cap] [.slice none 0 0] [.slice none 0 0] 24
 generalize World.alloc _ _=w1 at*
 go_loopw [19] (fun i wr=>∃(k:Nat) (rs:List Lr) (a':Option Addr) (G:Nat),k<=4/\i=.int .i64 k/\Hid (rs.length=k)/\ag wr (w.heap.size+2) [.slice a' k G] 24/\wr.ownsRow (w.heap.size+3) 53 2 (.slice a' k G) k (rs.flatMap Lr.cells)/\
   Hid (∀(j:Nat) (r:Lr),rs[j]? =some r->∃q,l[j]? =some q/\lU (w.heap.size+3) n wr q r)/\ag wr (w.heap.size+1) [.slice none 0 0] 24/\Below w.heap.size w wr) (fun i _=>4-(intOf i).toNat)
 case atStart=>exact⟨0,[],none,0,by omega,rfl,rfl,BO,World.ownsRow_nil _ _ _ _,fun j r h=>by simp at h,BR,bel⟩
 case round=>
  clear BR BO bel
  obtain⟨k,rs,a',G,hk,rfl,hl,BO,own,H,BR,bel⟩:=hrel
  rename World=>wo
  by_cases aE:k<4
  .have Ad:(k:Int)<4:=by omega
   have dZ:=hs.keep bel (Nat.le_refl _)
   obtain⟨r,hr⟩:∃r,l[k]? =some r:=⟨_,List.getElem?_eq_getElem (by rw[h4.out];exact aE)⟩
   obtain⟨e0,e1,gr⟩:=dZ.at k r hr
   have fr:=few.out r (List.mem_of_getElem? hr)
   replace hr:=aa hr
   obtain⟨bs,ba,bc,hd,ha,hc⟩:=r
   simp only at*
   obtain⟨m,em⟩:∃m,m=hd.length:=⟨_,rfl⟩
   obtain⟨bn,eb⟩:∃bn,bn=bs.length:=⟨_,rfl⟩
   rw[<-eb] at e0 fr
   rw[<-em] at e1
   replace em:=aa em
   replace eb:=aa eb
   clear dZ
   have BX:=ag.laid (wo.alloc (.cells #[.slice ba bn bc,.slice ha m hc] 53)) [.slice none 0 0,.slice ha m hc] 53 (wo.heap.size+1) (by simp)
   have ei:=dN wo (.cells #[.slice ba bn bc,.slice ha m hc] 53) (.cells #[.slice none 0 0,.slice ha m hc] 53)
   have kM:=BO.lt
   go_wp2_with fail
   generalize World.alloc _ _=w2 at*
   clear e0 e1
   go_loopw [29] (fun i wr=>∃(j X1:Nat) (X:List Lb) (a3:Option Addr) (G3:Nat),j<=bn/\i=.int .i64 j/\X1<=j/\Hid (X1=X.length)/\Hid (X=(bs.take j).filter (ve n))/\ag wr (wo.heap.size+1) [.slice a3 X1 G3,.slice ha m hc] 53/\wr.ownsRow (wo.heap.size+2) 107 4 (.slice a3 X1 G3) X1 (X.flatMap Lb.cells)/\Below wo.heap.size wo wr) (fun i _=>bn-(intOf i).toNat)
   case atStart=>exact⟨0,0,[],none,0,by omega,rfl,by omega,rfl,by simp[Hid],BX,World.ownsRow_nil _ _ _ _,ei⟩
   case round=>
    clear BX ei
    obtain⟨j,X1,X,a3,G3,hj,rfl,kT,Q8,eX,BX,tI,ei⟩:=hrel
    by_cases Tk:j<bn
    .have sb:=gr.bs.keep ei (Nat.le_refl _)
     obtain⟨b,off,rfl,ld⟩:=sb.where (by intro e;have e':bs=[]:=e;rw[eb.out,e'] at Tk;simp at Tk)
     obtain⟨x,hx⟩:∃x,bs[j]? =some x:=⟨_,List.getElem?_eq_getElem (by rw[<-eb.out];exact Tk)⟩
     obtain⟨u0,u1,u2,u3,gx⟩:=sb.at j x hx
     have tk:bs.take (j+1)=bs.take j++[x]:=by rw[List.take_add_one,hx];rfl
     replace tk:=aa tk
     obtain⟨⟨xn,xf,xT,xb⟩,xa,xc⟩:=x
     simp only at*
     obtain⟨xl,PY⟩:∃xl,xl=xb.length:=⟨_,rfl⟩
     rw[<-PY] at u3
     replace PY:=aa PY
     clear gx hx sb
     by_cases Zy:xT<n
     .have YZ:¬n<=xT:=by omega
      have RK:Hid (X=(bs.take (j+1)).filter (ve n)):=by
       rw[tk.out,List.filter_append,<-eX.out,List.filter_cons_of_neg (by simp[ve];exact Zy)]
       simp[Hid]
      have am:=ax ei (.cells #[.int .i64 xn,.int .i64 xf,.int .i64 xT,.slice xa xl xc] 107)
      have B2:=BX.alc (.cells #[.int .i64 xn,.int .i64 xf,.int .i64 xT,.slice xa xl xc] 107)
      have o2:=tI.alloc (.cells #[.int .i64 xn,.int .i64 xf,.int .i64 xT,.slice xa xl xc] 107)
      go_wp2_with fail
      go_roundw
      case rel=>exact⟨j+1,X1,X,a3,G3,by omega,by go_num,by omega,Q8,RK,B2,o2,am⟩
      case measure=>simp[intOf];omega
     have YZ:n<=xT:=by omega
     have RK:Hid (X++[⟨⟨xn,xf,xT,xb⟩,xa,xc⟩]=(bs.take (j+1)).filter (ve n)):=by
      rw[tk.out,List.filter_append,<-eX.out,List.filter_cons_of_pos (by simp[ve];omega)]
      simp[Hid]
     have am:=ax ei (.cells #[.int .i64 xn,.int .i64 xf,.int .i64 xT,.slice xa xl xc] 107)
     have B2:=BX.alc (.cells #[.int .i64 xn,.int .i64 xf,.int .i64 xT,.slice xa xl xc] 107)
     have o2:=tI.alloc (.cells #[.int .i64 xn,.int .i64 xf,.int .i64 xT,.slice xa xl xc] 107)
     have P2:=ag.laid wr [.int .i64 xn,.int .i64 xf,.int .i64 xT,.slice xa xl xc] 107 _ rfl
     go_upto_region 12 with fail
     generalize wr.heap.size=g11 at*
     generalize wr.alloc _=w3 at*
     have c0:w3.cell? ⟨wo.heap.size+1,0,none⟩=some (.slice a3 X1 G3):=B2.cell 0
     have v0:w3.cell? ⟨g11,0,none⟩=some (.int .i64 xn):=P2.cell 0
     have v1:w3.cell? ⟨g11,1,none⟩=some (.int .i64 xf):=P2.cell 1
     have v2:w3.cell? ⟨g11,2,none⟩=some (.int .i64 xT):=P2.cell 2
     have v3:w3.cell? ⟨g11,3,none⟩=some (.slice xa xl xc):=P2.cell 3
     have lx:=B2.lt
     have fc:∀u∈(#[Value.int .i64 xn,.int .i64 xf,.int .i64 xT,.slice xa xl xc]:Array Value).toList,u.oneCell'=true:=by
      intro u hu
      simp only[List.mem_cons,List.not_mem_nil,or_false] at hu
      rcases hu with rfl|rfl|rfl|rfl<;>rfl
     clear u0 u1 u2 u3
     go_wp2_with (at_builtin;refine bE w3 rfl (.tmp 38) (.tmp 40) 51 rfl (wo.heap.size+2) 107 i1 _ 4 48 Tryz.underlying51 km y0 y1 y2 rfl (by decide) (.slice a3 X1 G3) X1 _ (by rfl) o2 1 #[.int .i64 xn,.int .i64 xf,.int .i64 xT,.slice xa xl xc] 107 (by rfl) (by rfl) fc (by decide) (by unfold maxLen;omega) (by omega) (by omega) ?_)
     intro v4 w4 jR Nw YO
     have B4:=B2.grown Nw (fun q hq=>by have:=(o2.lt q hq).1;omega)
     have ay:=aG am o2 Nw (by omega) am.size
     rw[show X.flatMap Lb.cells++(#[Value.int .i64 xn,.int .i64 xf,.int .i64 xT,.slice xa xl xc]:Array Value).toList=(X++[(⟨⟨xn,xf,xT,xb⟩,xa,xc⟩:Lb)]).flatMap Lb.cells by rw[List.flatMap_append,PY.out];rfl] at jR
     obtain⟨a4,G4,rfl,_,_,_⟩:=be.ofOwn Lb.four (by decide) jR
     have kA:=B4.lt
     have f4:=B4.free 0
     have c4:w4.cell? ⟨wo.heap.size+1,0,none⟩=some (.slice a3 X1 G3):=B4.cell 0
     have B5:=B4.set 0 (.slice a4 (X1+1) G4)
     have dM:=jR.kept (row:=some (wo.heap.size+1)) (al (au w4 (some (wo.heap.size+1))) 0 (.slice a4 (X1+1) G4)) (by
      cases hv:(Value.slice a4 (X1+1) G4).ownBlock with
      |none=>exact .inl rfl
      |some q=>exact .inr (fun e=>by have:=(jR.lt q hv).1;have:=Option.some.inj e;omega))
     have br:=ay.setCell (p:=⟨wo.heap.size+1,0,none⟩) (Nat.le_succ _) (.slice a4 (X1+1) G4)
     have Z8:Hid (X1+1=(X++[(⟨⟨xn,xf,xT,xb⟩,xa,xc⟩:Lb)]).length):=by
      rw[List.length_append,<-Q8.out]
      exact aa rfl
     clear jR o2 B2 am BX tI ei
     go_wp2_with fail
     go_roundw
     case rel=>exact⟨j+1,X1+1,_,a4,G4,by omega,by go_num,by omega,Z8,RK,B5,dM,br⟩
     case measure=>simp[intOf];omega
    obtain rfl:j=bn:=by omega
    have Q6:=eX.out
    rw[eb.out,List.take_length] at Q6
    have Pe:=BO.keep ei BO.lt
    have ma:=BR.keep ei BR.lt
    have eV:=dx own ei
    have am:Below w.heap.size w wr:=bel.trans (ei.mono bel.size)
    have c0:wr.cell? ⟨wo.heap.size+1,0,none⟩=some (.slice a3 X1 G3):=BX.cell 0
    have c1:wr.cell? ⟨wo.heap.size+1,1,none⟩=some (.slice ha m hc):=BX.cell 1
    have c2:wr.cell? ⟨w.heap.size+2,0,none⟩=some (.slice a' k G):=Pe.cell 0
    have U0:=Pe.lt
    have lx:=BX.lt
    replace Q6:=aa Q6
    have fc:∀u∈(#[Value.slice a3 X1 G3,.slice ha m hc]:Array Value).toList,u.oneCell'=true:=by
     intro u hu
     simp only[List.mem_cons,List.not_mem_nil,or_false] at hu
     rcases hu with rfl|rfl<;>rfl
    go_wp2_with (at_builtin;refine bE wr rfl (.tmp 45) (.tmp 47) 22 rfl (w.heap.size+3) 53 i0 _ 2 48 Tryz.underlying22 Sv z0 z1 z2 rfl (by decide) (.slice a' k G) k _ (by rfl) eV 1 #[.slice a3 X1 G3,.slice ha m hc] 53 (by rfl) (by rfl) fc (by decide) (by unfold maxLen;omega) (by omega) (by omega) ?_)
    intro v5 w5 dM gI Cj
    have L4:=Pe.grown gI (fun q hq=>by have:=(eV.lt q hq).1;omega)
    have Cn:=ma.grown gI (fun q hq=>by have:=(eV.lt q hq).1;omega)
    have br:=aG am eV gI (by omega) am.size
    rw[show rs.flatMap Lr.cells++(#[Value.slice a3 X1 G3,.slice ha m hc]:Array Value).toList=(rs++[(⟨X,a3,G3,hd,ha,hc⟩:Lr)]).flatMap Lr.cells by rw[List.flatMap_append,Q8.out,em.out];rfl] at dM
    obtain⟨a5,G5,rfl,_,_,_⟩:=be.ofOwn Lr.two (by decide) dM
    have H5:∀(j:Nat) (r:Lr),(rs++[(⟨X,a3,G3,hd,ha,hc⟩:Lr)])[j]? =some r->∃q,l[j]? =some q/\lU (w.heap.size+3) n (w5.setCell ⟨w.heap.size+2,0,none⟩ (.slice a5 (k+1) G5)) q r:=by
     intro i r hi
     have hg:=al (au w5 (some (w.heap.size+2))) 0 (.slice a5 (k+1) G5)
     by_cases ZA:i<k
     .rw[List.getElem?_append_left (by rw[hl.out];exact ZA)] at hi
      obtain⟨q,h1,h2⟩:=H.out i r hi
      exact⟨q,h1,((h2.call ei).apart gI eV).wrote hg L4 (by decide)⟩
     rw[List.getElem?_append_right (by rw[hl.out];omega),hl.out] at hi
     have e0:i-k=0:=by
      have:=(List.getElem?_eq_some_iff.1 hi).1
      simpa using this
     rw[e0] at hi
     obtain rfl:i=k:=by omega
     simp at hi
     subst hi
     have o:=rg tI (show w.heap.size+3<=wo.heap.size+2 by omega)
     rw[Q8.out] at o
     have C:lU (w.heap.size+3) n wr ⟨bs,ba,bc,hd,ha,hc⟩ ⟨X,a3,G3,hd,ha,hc⟩:=⟨rfl,rfl,rfl,Q6.out,o⟩
     exact⟨_,hr.out,(C.apart gI eV).wrote hg L4 (by decide)⟩
    have d8:=dM.kept (row:=some (w.heap.size+2)) (al (au w5 (some (w.heap.size+2))) 0 (.slice a5 (k+1) G5)) (by
     cases hv:(Value.slice a5 (k+1) G5).ownBlock with
     |none=>exact .inl rfl
     |some q=>exact .inr (fun e=>by have:=(dM.lt q hv).1;have:=Option.some.inj e;omega))
    have B6:=L4.set 0 (.slice a5 (k+1) G5)
    have R6:=Cn.other 0 (.slice a5 (k+1) G5) (show w.heap.size+2≠w.heap.size+1 by omega)
    have dD:=br.setCell (p:=⟨w.heap.size+2,0,none⟩) (show w.heap.size<=w.heap.size+2 by omega) (.slice a5 (k+1) G5)
    have l5:=L4.lt
    have f5:=L4.free 0
    have c5:w5.cell? ⟨w.heap.size+2,0,none⟩=some (.slice a' k G):=L4.cell 0
    have Yl:Hid ((rs++[(⟨X,a3,G3,hd,ha,hc⟩:Lr)]).length=k+1):=by
     rw[List.length_append,hl.out]
     exact aa rfl
    replace H5:=aa H5
    clear dM eV Pe ma am gI Cj
    go_wp2_with fail
    go_roundw
    case rel=>exact⟨k+1,_,a5,G5,by omega,by go_num,Yl,B6,d8,H5,R6,dD⟩
    case measure=>simp[intOf];omega
  obtain rfl:k=4:=by omega
  have c2:wo.cell? ⟨w.heap.size+2,0,none⟩=some (.slice a' 4 G):=BO.cell 0
  have lR:=BR.lt
  have lO:=BO.lt
  have fR:=BR.free 0
  have dR:wo.cell? ⟨w.heap.size+1,0,none⟩=some (.slice none 0 0):=BR.cell 0
  have hg:=al (au wo (some (w.heap.size+1))) 0 (.slice a' 4 G)
  have dD:=bel.setCell (p:=⟨w.heap.size+1,0,none⟩) (Nat.le_succ _) (.slice a' 4 G)
  have d8:=own.kept hg (Bx own BR (by decide))
  have H6:∀(j:Nat) (r:Lr),rs[j]? =some r->∃q,l[j]? =some q/\lU (w.heap.size+3) n (wo.setCell ⟨w.heap.size+1,0,none⟩ (.slice a' 4 G)) q r:=by
   intro j r hj
   obtain⟨q,h1,h2⟩:=H.out j r hj
   exact⟨q,h1,h2.wrote hg BR (by decide)⟩
  obtain⟨a9,G9,e9,s9,_,_⟩:=be.ofOwn Lr.two (by decide) d8
  simp only[Value.slice.injEq,true_and] at e9
  obtain⟨rfl,rfl⟩:=e9
  have S9:bL (wo.setCell ⟨w.heap.size+1,0,none⟩ (.slice a' 4 G)) a' G rs:=by
   refine⟨s9,fun r hr=>?_⟩
   obtain⟨j,hj⟩:=List.mem_iff_getElem?.1 hr
   obtain⟨q,h1,h2⟩:=H6 j r hj
   exact h2.good (hs.good q (List.mem_of_getElem? h1)) dD
  have E9:rs.map Lr.rw=(l.map Lr.rw).map (fb n):=by
   apply List.ext_getElem?
   intro j
   rw[List.getElem?_map,List.getElem?_map,List.getElem?_map]
   cases hj:rs[j]? with
   |none=>
    have:l[j]? =none:=by
     rw[List.getElem?_eq_none_iff] at hj⊢
     rw[h4.out,<-hl.out]
     exact hj
    rw[this]
    rfl
   |some r=>
    obtain⟨q,h1,h2⟩:=H6 j r hj
    rw[h1]
    simp[h2.rw]
  have HF:Hid (ae w.heap.size l rs):=aa (fun r hr aF ad e=>by
   obtain⟨j,hj⟩:=List.mem_iff_getElem?.1 hr
   obtain⟨q,h1,h2⟩:=H6 j r hj
   exact .inr ⟨q,List.mem_of_getElem? h1,by rw[<-h2.hd];exact aF,ad,by rw[<-h2.ha];exact e,rfl⟩)
  replace E9:=aa E9
  clear H6 H own d8 s9 hg
  go_wp2_with fail
  exact bodyPost_ret (v:=.tuple #[.agg #[.slice a' 4 G],.int .i64 0]) (by simp[results,Tryz.results102,go_sem,dR]) rfl ⟨rs,_,_,rfl,E9.out,hl.out,S9,dD,HF.out⟩
theorem DA (l:List Lr)(ao:Option Addr)(cap:Nat)(n:Int)(w:World)(hs:bL w ao cap l)(hR:eY (l.map Lr.rw)):
  Calls Tryz.prog 102 #[.agg #[.slice ao l.length cap],.int .i64 n] w fun e w'=>
   ∃rs a' G,e=.returned (.tuple #[.agg #[.slice a' rs.length G],.int .i64 (fN n)])/\rs.map Lr.rw=iI (l.map Lr.rw) n/\bL w' a' G rs/\Below w.heap.size w w'/\ae w.heap.size l rs:=by
 have h4:l.length=4:=by have:=hR.four;rwa[List.length_map] at this
 cases h:dG n 0 100001 with
 |false=>
  have e:fN n=3:=by unfold fN;rw[if_pos h]
  refine(yH l.length ao cap n w h).mono ?_
  rintro _ w' ⟨rfl,b⟩
  exact⟨[],none,0,by rw[e];rfl,by unfold iI;rw[e];rfl,bL.ofNil _,b,ae.nil _ _⟩
 |true=>
  have e:fN n=0:=by unfold fN;rw[if_neg (by rw[h];decide)]
  rw[h4]
  refine(EO l ao cap n w hs h4 (fun r hr=>?_) h).mono ?_
  .have:=(hR.few r.rw (List.mem_map.2 ⟨r,hr,rfl⟩)).1
   unfold Lr.rw at this
   simpa using this
  rintro _ w' ⟨rs,a',G,rfl,h1,h2,h3,h5⟩
  exact⟨rs,a',G,by rw[e,h2],by unfold iI;rw[if_pos e];exact h1,h3,h5⟩
theorem Aj (w:World):
  Calls Tryz.prog 46 #[] w fun e w'=>∃a' G,e=.returned (.agg #[.slice a' 4 G])/\bL w' a' G pa/\Below w.heap.size w w':=by
 obtain⟨i0,hi,bK,bm,bQ⟩:=info_parts xL
 have B0:=ag.laid w [.slice none 0 0] 24 _ rfl
 go_enter Tryz.func46,Tryz.ntmps46
 go_wp2_with (at_make;refine wpList_make_full _ rfl (.const (.int .i64 4)) (.const (.int .i64 4)) 22 rfl (w.heap.size+1) 53 i0 (.agg #[.slice none 0 0,.slice none 0 0]) 2 Tryz.underlying22 hi bK bm _ _ _ _ 4 rfl rfl rfl rfl (by rw[bQ];omega) (by unfold maxLen;omega) (by simp) ?_)
 intro w1 own grow
 rw[show(madeCells #[Value.slice none 0 0,Value.slice none 0 0] 8).toList=pa.flatMap Lr.cells by kernel_rfl] at own
 have bel:Below w.heap.size w w1:=((Below.refl _ _).alloc (Nat.le_refl _) _).grown grow (by simp) (fun k h=>by cases h)
 have B1:=B0.grown grow (fun k h=>by cases h)
 have f0:=B1.free 0
 have d0:w1.cell? ⟨w.heap.size,0,none⟩=some (.slice none 0 0):=B1.cell 0
 have jF:=B1.lt
 go_wp2_with fail
 have eV:=own.kept (row:=some w.heap.size) (al (au w1 (some w.heap.size)) 0 (.slice (some ⟨w.heap.size+1,0,none⟩) 4 4)) (.inr (by intro e;have:w.heap.size+1=w.heap.size:=Option.some.inj e;omega))
 obtain⟨a9,c9,ev,s9,_,_⟩:=be.ofOwn Lr.two (by decide) eV
 simp only[Value.slice.injEq,true_and] at ev
 obtain⟨rfl,rfl⟩:=ev
 refine bodyPost_ret (v:=.agg #[.slice (some ⟨w.heap.size+1,0,none⟩) 4 4]) (by simp[results,Tryz.results46,go_sem,d0]) rfl ?_
 refine⟨_,_,rfl,⟨s9,fun r hr=>?_⟩,bel.setCell (Nat.le_refl _) _⟩
 simp only[pa,List.mem_cons,List.not_mem_nil,or_false,or_self] at hr
 subst hr
 exact A4 _
theorem C7 {C:List Rw}{a:Option Addr}{G:Nat}{W:World}(h:cu W a G C):
  Calls Tryz.prog 88 #[.agg #[.slice a C.length G]] W fun e w'=>e=.returned (.int .i64 (az C))/\Below W.heap.size W w':=by
 obtain⟨rs,rfl,s⟩:=h.ex
 rw[List.length_map]
 exact Am rs a G W s
theorem pU {C D:List Rw}{a b:Option Addr}{G H:Nat}{W:World}(h:cu W a G C)(k:cu W b H D)(hl:C.length<=140737488355328):
  Calls Tryz.prog 35 #[.agg #[.slice a C.length G],.agg #[.slice b D.length H]] W fun e w'=>e=.returned (.bool (bp C D))/\Below W.heap.size W w':=by
 obtain⟨rs,rfl,s⟩:=h.ex
 obtain⟨qs,rfl,t⟩:=k.ex
 rw[List.length_map] at hl
 rw[List.length_map,List.length_map]
 exact Au rs qs a b G H W s t hl
theorem pI (W:World):
  Calls Tryz.prog 46 #[] W fun e w'=>∃a' G',e=.returned (.agg #[.slice a' 4 G'])/\cu w' a' G' Do/\Below W.heap.size W w':=by
 refine(Aj W).mono ?_
 rintro e w' ⟨a',G',rfl,s,b⟩
 exact⟨a',G',rfl,⟨_,rfl,s⟩,b⟩
structure ab (P:Nat->Prop)(W:World)(a:Option Addr)(G:Nat)(C:List Rw):Prop where
 ex:∃rs:List Lr,rs.map Lr.rw=C/\bL W a G rs/\∀r∈rs,r.hd≠[]->∀q,P q->Off q r.ha
theorem ab.is {P:Nat->Prop}{W:World}{a:Option Addr}{G:Nat}{C:List Rw}(k:ab P W a G C):cu W a G C:=by
 obtain⟨rs,e,s,_⟩:=k.ex
 exact⟨rs,e,s⟩
theorem ab.keep {P:Nat->Prop}{W W':World}{a:Option Addr}{G B:Nat}{C:List Rw}(k:ab P W a G C)(hb:Below B W W')(hB:W.heap.size<=B):ab P W' a G C:=by
 obtain⟨rs,e,s,o⟩:=k.ex
 exact⟨rs,e,s.keep hb hB,o⟩
theorem ab.call {P:Nat->Prop}{W W':World}{a:Option Addr}{G:Nat}{C:List Rw}(k:ab P W a G C)(hb:Below W.heap.size W W'):ab P W' a G C:=k.keep hb (Nat.le_refl _)
theorem ab.alloc {P:Nat->Prop}{W:World}{a:Option Addr}{G:Nat}{C:List Rw}(k:ab P W a G C)(o:Obj):ab P (W.alloc o) a G C:=k.call ((Below.refl _ _).alloc (Nat.le_refl _) o)
theorem cu.empt {P:Nat->Prop}{W:World}{a:Option Addr}{G:Nat}{C:List Rw}(k:cu W a G C)(hC:∀x∈C,x.head=[]):ab P W a G C:=by
 obtain⟨rs,rfl,s⟩:=k.ex
 exact⟨rs,rfl,s,fun r hr aF=>absurd (hC r.rw (List.mem_map.2 ⟨r,hr,rfl⟩)) aF⟩
def gB:Nat->Prop:=fun _=>False
theorem ab.none (P:Nat->Prop)(w:World):ab P w none 0 []:=by
 obtain⟨rs,e,s⟩:=(cu.none w).ex
 obtain rfl:=List.map_eq_nil_iff.1 e
 exact⟨[],rfl,s,fun _ h=>by cases h⟩
theorem bL.wrote1 {w:World}{a:Option Addr}{G g:Nat}{rs:List Lr}{a1:Option Addr}{n1 c1:Nat}(s:bL w a G rs)(B:ag w g [.slice a1 n1 c1] 24)(hC:rs≠[])(u:Value):bL (w.setCell ⟨g,0,Option.none⟩ u) a G rs:=by
 have grow:=al (au w (some g)) 0 u
 have hl:=av Lr.two rs
 have hp:0<rs.length:=List.length_pos_iff.2 hC
 exact⟨⟨s.sl.row.off grow (s.sl.row.offOne B (by rw[hl];omega)),s.sl.le,s.sl.max,s.sl.nil⟩,fun r hr=>(s.good r hr).offSl grow B (io _ _ _)⟩
theorem ab.boxed {P:Nat->Prop}{w:World}{a:Option Addr}{G g:Nat}{C:List Rw}{a1:Option Addr}{n1 c1:Nat}(h:ab P w a G C)(B:ag w g [.slice a1 n1 c1] 24)(u:Value):ab P (w.setCell ⟨g,0,Option.none⟩ u) a G C:=by
 obtain⟨rs,rfl,s,o⟩:=h.ex
 obtain⟨iG,e,s'⟩:=(cu.boxed ⟨rs,rfl,s⟩ B u).ex
 by_cases hC:rs=[]
 .subst hC
  obtain rfl:=List.map_eq_nil_iff.1 e
  exact⟨[],rfl,s',fun _ h=>by cases h⟩
 exact⟨rs,rfl,s.wrote1 B hC u,o⟩
def aw (P:Nat->Prop)(E:Int)(C:List Rw)(W:World)(e:Ending)(w':World):Prop:=
 ∃a' G',e=.returned (.tuple #[.agg #[.slice a' C.length G'],.int .i64 E])/\ab P w' a' G' C/\Below W.heap.size W w'
theorem aj {P:Nat->Prop}{l:List Lr}{E:Int}{C:List Rw}{W:World}{e:Ending}{w':World}(hP:∀q,P q->q<W.heap.size)(k:∀r∈l,r.hd≠[]->∀q,P q->Off q r.ha)
  (h:∃rs a' G,e=.returned (.tuple #[.agg #[.slice a' rs.length G],.int .i64 E])/\rs.map Lr.rw=C/\bL w' a' G rs/\Below W.heap.size W w'/\ae W.heap.size l rs):aw P E C W e w':=by
 obtain⟨rs,a',G,he,rfl,s,b,f⟩:=h
 exact⟨a',G,by rw[he,List.length_map],⟨rs,rfl,s,f.off hP k⟩,b⟩
def bN (P:Nat->Prop)(E:Int)(D:List Rw)(dn:Nat)(W:World)(e:Ending)(w':World):Prop:=
 ∃a' G',e=.returned (.tuple #[.agg #[.slice a' dn G'],.int .i64 E])/\ab P w' a' G' D/\Below W.heap.size W w'
theorem aQ {P:Nat->Prop}{E:Int}{D:List Rw}{dn:Nat}{W:World}{f:Nat}{args:Array Value}(hd:Hid (dn=D.length))(c:Calls Tryz.prog f args W (aw P E D W)):Calls Tryz.prog f args W (bN P E D dn W):=by
 obtain rfl:=hd.out
 exact c
theorem bN.mk {P:Nat->Prop}{E:Int}{D:List Rw}{dn:Nat}{W:World}{e:Ending}{w':World}(h:bN P E D dn W e w'):Mk E D dn W e w':=by
 obtain⟨a',G',e1,s,b⟩:=h
 exact⟨a',G',e1,s.is,b⟩
theorem cH {P:Nat->Prop}{C:List Rw}{a:Option Addr}{G:Nat}{W:World}(L:List En)(la:Option Addr)(lc:Nat)(hP:∀q,P q->q<W.heap.size)(h:ab P W a G C)(hL:be En.cells W la lc L)(few:L.length<=140737488355328)(hR:eY C):
  Calls Tryz.prog 99 #[.agg #[.slice a C.length G],.slice la L.length lc] W (aw P (fB C L) (iO C L) W):=by
 obtain⟨rs,rfl,t,k⟩:=h.ex
 rw[List.length_map]
 exact(EP rs a G L la lc W t hL few hR).mono fun e w' h=>aj hP k h
theorem ce {P:Nat->Prop}{C:List Rw}{a:Option Addr}{G:Nat}{W:World}(s n:Int)(hP:∀q,P q->q<W.heap.size)(h:ab P W a G C)(hR:eY C):
  Calls Tryz.prog 100 #[.agg #[.slice a C.length G],.int .i64 s,.int .i64 n] W (aw P (eB C s n) (gA C s n) W):=by
 obtain⟨rs,rfl,t,k⟩:=h.ex
 rw[List.length_map]
 exact(Cx rs a G s n W t hR).mono fun e w' h=>aj hP k h
theorem bB {P:Nat->Prop}{C:List Rw}{a:Option Addr}{G:Nat}{W:World}(s n:Int)(hP:∀q,P q->q<W.heap.size)(h:ab P W a G C)(hR:eY C)(hw:(Lit.int .i64 n).wf=true):
  Calls Tryz.prog 101 #[.agg #[.slice a C.length G],.int .i64 s,.int .i64 n] W (aw P (gG C s n) (j7 C s n) W):=by
 obtain⟨rs,rfl,t,k⟩:=h.ex
 rw[List.length_map]
 exact(Eu rs a G s n W t hR hw).mono fun e w' h=>aj hP k h
theorem ch {P:Nat->Prop}{C:List Rw}{a:Option Addr}{G:Nat}{W:World}(n:Int)(hP:∀q,P q->q<W.heap.size)(h:ab P W a G C)(hR:eY C):
  Calls Tryz.prog 102 #[.agg #[.slice a C.length G],.int .i64 n] W (aw P (fN n) (iI C n) W):=by
 obtain⟨rs,rfl,t,k⟩:=h.ex
 rw[List.length_map]
 exact(DA rs a G n W t hR).mono fun e w' h=>aj hP k h
theorem Kh {n:Int}(h0:0<=n)(h1:n<=100001):(Lit.int .i64 n).wf=true:=by
 have a:IntKind.i64.min<=n:=Int.le_trans (by decide) h0
 have b:n<=IntKind.i64.max:=Int.le_trans h1 (by decide)
 show(decide (IntKind.i64.min<=n)&&decide (n<=IntKind.i64.max))=true
 rw[decide_eq_true a,decide_eq_true b]
 rfl
theorem UO {r:Rc}(h:aP r=0)(hk:r.k=3):0<=r.n/\r.n<=100001:=by
 unfold aP at h
 rw[if_neg (by rw[hk];decide),if_pos (by rw[hk];decide)] at h
 split at h
 .cases h
 split at h
 .rename_i h1
  exact⟨h1.2.2.1,h1.2.2.2⟩
 cases h
theorem a8 {P:Nat->Prop}(C:List Rw)(r:Rc)(a a3:Option Addr)(G c3 n3 cn dn:Nat)(w:World)(hP:∀q,P q->q<w.heap.size)(h:ab P w a G C)(s3:be ec w a3 c3 r.e)(h3:Hid (n3=r.e.length))(wy:Hid (cn=C.length))(ck:Hid (dn=(gj C r).length))(hz:az C=0)(hr:aP r=0):
  Calls Tryz.prog 60 #[.agg #[.slice a cn G],.agg #[.int .i64 r.k,.int .i64 r.s,.int .i64 r.n,.slice a3 n3 c3]] w (bN P (gm C r) (gj C r) dn w):=by
 have bel:=newB (newB (newB (Below.refl w.heap.size w) (.cells #[.slice a cn G] 24)) (.cells #[.int .i64 r.k,.int .i64 r.s,.int .i64 r.n,.slice a3 n3 c3] 73)) (.cells #[.slice none 0 0] 24)
 have B1:=((ag.laid w [.slice a cn G] 24 _ rfl).alc (.cells #[.int .i64 r.k,.int .i64 r.s,.int .i64 r.n,.slice a3 n3 c3] 73)).alc (.cells #[.slice none 0 0] 24)
 have B2:=(ag.laid (w.alloc (.cells #[.slice a cn G] 24)) [.int .i64 r.k,.int .i64 r.s,.int .i64 r.n,.slice a3 n3 c3] 73 (w.heap.size+1) (by simp)).alc (.cells #[.slice none 0 0] 24)
 have B3:=ag.laid ((w.alloc (.cells #[.slice a cn G] 24)).alloc (.cells #[.int .i64 r.k,.int .i64 r.s,.int .i64 r.n,.slice a3 n3 c3] 73)) [.slice none 0 0] 24 (w.heap.size+1+1) (by simp)
 have S:=h.keep bel (Nat.le_refl _)
 have S3:=s3.keep bel (Nat.le_refl _)
 have hR:=jO hz
 have few:=Fzs hr
 have hn:=UO hr
 have c7:=fun(W:World) (hW:w.heap.size<=W.heap.size) q k=>Nat.lt_of_lt_of_le (hP q k) hW
 have cP:=fun W (hW:w.heap.size<=W.heap.size) (h:ab P W a G C) (t:be ec W a3 c3 r.e)=>cH (yc r.e) a3 c3 (c7 W hW) h (Rj t) (by rw[uc];omega) hR
 have cS:=fun W (hW:w.heap.size<=W.heap.size) (h:ab P W a G C)=>ce r.s r.n (c7 W hW) h hR
 have cM:=fun hk W (hW:w.heap.size<=W.heap.size) (h:ab P W a G C)=>bB r.s r.n (c7 W hW) h hR (Kh (hn hk).1 (hn hk).2)
 have cD:=fun W (hW:w.heap.size<=W.heap.size) (h:ab P W a G C)=>ch r.n (c7 W hW) h hR
 simp only[uc] at cP
 rw[<-wy.out] at cP cS cD
 simp only[<-wy.out] at cM
 rw[<-h3.out] at cP
 obtain⟨w1,w2,w3,w4⟩:=EB C r
 have kd:=AJ hr
 obtain⟨K,s',m',l⟩:=r
 simp only at*
 generalize gm C ⟨K,s',m',l⟩=E at*
 generalize gj C ⟨K,s',m',l⟩=D at*
 clear hr hz hn hR
 rcases kd with rfl|rfl|rfl|rfl
 .obtain⟨w5,w6⟩:=w1 rfl
  rw[<-w5,<-w6] at cP
  clear w1 w2 w3 w4 w5 w6 cS cM cD
  go_enter Tryz.func60,Tryz.ntmps60
  go_upto_region 1 with fail
  generalize World.alloc (World.alloc (World.alloc w _) _) _=wa at*
  have iU:=B1.cell 0
  have iQ:=B1.lt
  obtain⟨jE,jG,jI,jK,jH⟩:=B2.c4
  go_wp2_with fail
  go_at_call 99
  refine(aQ ck (cP _ bel.size S S3)).mono ?_
  rintro e wd ⟨a',G',rfl,I,bb⟩
  clear iU iQ jE jG jI jK jH
  replace B3:=B3.keep bb B3.lt
  replace bel:=ac bel bb
  clear bb
  have wD:=B3.cell 0
  have xh:=B3.lt
  have f0:=B3.free 0
  go_wp2_with fail
  have B9:=B3.set 0 (.slice a' dn G')
  have aq:=bel.setCell (p:=⟨w.heap.size+1+1,0,none⟩) (Nat.le_trans (Nat.le_succ _) (Nat.le_succ _)) (.slice a' dn G')
  have I9:=ab.boxed (I) B3 (.slice a' dn G')
  have i0:=B9.cell 0
  exact bodyPost_ret (v:=.tuple #[.agg #[.slice a' dn G'],.int .i64 E]) (by simp[results,Tryz.results60,go_sem,i0]) rfl ⟨_,_,rfl,I9,aq⟩
 .obtain⟨w5,w6⟩:=w2 rfl
  rw[<-w5,<-w6] at cS
  clear w1 w2 w3 w4 w5 w6 cP cM cD
  go_enter Tryz.func60,Tryz.ntmps60
  go_upto_region 1 with fail
  generalize World.alloc (World.alloc (World.alloc w _) _) _=wa at*
  have iU:=B1.cell 0
  have iQ:=B1.lt
  obtain⟨jE,jG,jI,jK,jH⟩:=B2.c4
  go_wp2_with fail
  go_at_call 100
  refine(aQ ck (cS _ bel.size S)).mono ?_
  rintro e wd ⟨a',G',rfl,I,bb⟩
  clear iU iQ jE jG jI jK jH
  replace B3:=B3.keep bb B3.lt
  replace bel:=ac bel bb
  clear bb
  have wD:=B3.cell 0
  have xh:=B3.lt
  have f0:=B3.free 0
  go_wp2_with fail
  have B9:=B3.set 0 (.slice a' dn G')
  have aq:=bel.setCell (p:=⟨w.heap.size+1+1,0,none⟩) (Nat.le_trans (Nat.le_succ _) (Nat.le_succ _)) (.slice a' dn G')
  have I9:=ab.boxed (I) B3 (.slice a' dn G')
  have i0:=B9.cell 0
  exact bodyPost_ret (v:=.tuple #[.agg #[.slice a' dn G'],.int .i64 E]) (by simp[results,Tryz.results60,go_sem,i0]) rfl ⟨_,_,rfl,I9,aq⟩
 .obtain⟨w5,w6⟩:=w3 rfl
  replace cM:=cM rfl
  rw[<-w5,<-w6] at cM
  clear w1 w2 w3 w4 w5 w6 cP cS cD
  go_enter Tryz.func60,Tryz.ntmps60
  go_upto_region 1 with fail
  generalize World.alloc (World.alloc (World.alloc w _) _) _=wa at*
  have iU:=B1.cell 0
  have iQ:=B1.lt
  obtain⟨jE,jG,jI,jK,jH⟩:=B2.c4
  go_wp2_with fail
  go_at_call 101
  refine(aQ ck (cM _ bel.size S)).mono ?_
  rintro e wd ⟨a',G',rfl,I,bb⟩
  clear iU iQ jE jG jI jK jH
  replace B3:=B3.keep bb B3.lt
  replace bel:=ac bel bb
  clear bb
  have wD:=B3.cell 0
  have xh:=B3.lt
  have f0:=B3.free 0
  go_wp2_with fail
  have B9:=B3.set 0 (.slice a' dn G')
  have aq:=bel.setCell (p:=⟨w.heap.size+1+1,0,none⟩) (Nat.le_trans (Nat.le_succ _) (Nat.le_succ _)) (.slice a' dn G')
  have I9:=ab.boxed (I) B3 (.slice a' dn G')
  have i0:=B9.cell 0
  exact bodyPost_ret (v:=.tuple #[.agg #[.slice a' dn G'],.int .i64 E]) (by simp[results,Tryz.results60,go_sem,i0]) rfl ⟨_,_,rfl,I9,aq⟩
 obtain⟨w5,w6⟩:=w4 rfl
 rw[<-w5,<-w6] at cD
 clear w1 w2 w3 w4 w5 w6 cP cS cM
 go_enter Tryz.func60,Tryz.ntmps60
 go_upto_region 1 with fail
 generalize World.alloc (World.alloc (World.alloc w _) _) _=wa at*
 have iU:=B1.cell 0
 have iQ:=B1.lt
 obtain⟨jE,jG,jI,jK,jH⟩:=B2.c4
 go_wp2_with fail
 go_at_call 102
 refine(aQ ck (cD _ bel.size S)).mono ?_
 rintro e wd ⟨a',G',rfl,I,bb⟩
 clear iU iQ jE jG jI jK jH
 replace B3:=B3.keep bb B3.lt
 replace bel:=ac bel bb
 clear bb
 have wD:=B3.cell 0
 have xh:=B3.lt
 have f0:=B3.free 0
 go_wp2_with fail
 have B9:=B3.set 0 (.slice a' dn G')
 have aq:=bel.setCell (p:=⟨w.heap.size+1+1,0,none⟩) (Nat.le_trans (Nat.le_succ _) (Nat.le_succ _)) (.slice a' dn G')
 have I9:=ab.boxed (I) B3 (.slice a' dn G')
 have i0:=B9.cell 0
 exact bodyPost_ret (v:=.tuple #[.agg #[.slice a' dn G'],.int .i64 E]) (by simp[results,Tryz.results60,go_sem,i0]) rfl ⟨_,_,rfl,I9,aq⟩
theorem bX {P:Nat->Prop}(C:List Rw)(r:Rc)(a a3:Option Addr)(G c3 n3 cn dn:Nat)(w:World)(hP:∀q,P q->q<w.heap.size)(h:ab P w a G C)(s3:be ec w a3 c3 r.e)(h3:Hid (n3=r.e.length))(wy:Hid (cn=C.length))(ck:Hid (dn=(dH C r).length)):
  Calls Tryz.prog 50 #[.agg #[.slice a cn G],.agg #[.int .i64 r.k,.int .i64 r.s,.int .i64 r.n,.slice a3 n3 c3]] w (bN P (bJ C r) (dH C r) dn w):=by
 have bel:=newB (newB (newB (Below.refl w.heap.size w) (.cells #[.slice a cn G] 24)) (.cells #[.int .i64 r.k,.int .i64 r.s,.int .i64 r.n,.slice a3 n3 c3] 73)) (.cells #[.slice none 0 0] 24)
 have B1:=((ag.laid w [.slice a cn G] 24 _ rfl).alc (.cells #[.int .i64 r.k,.int .i64 r.s,.int .i64 r.n,.slice a3 n3 c3] 73)).alc (.cells #[.slice none 0 0] 24)
 have B2:=(ag.laid (w.alloc (.cells #[.slice a cn G] 24)) [.int .i64 r.k,.int .i64 r.s,.int .i64 r.n,.slice a3 n3 c3] 73 (w.heap.size+1) (by simp)).alc (.cells #[.slice none 0 0] 24)
 have B3:=ag.laid ((w.alloc (.cells #[.slice a cn G] 24)).alloc (.cells #[.int .i64 r.k,.int .i64 r.s,.int .i64 r.n,.slice a3 n3 c3] 73)) [.slice none 0 0] 24 (w.heap.size+1+1) (by simp)
 have S:=h.keep bel (Nat.le_refl _)
 have S3:=s3.keep bel (Nat.le_refl _)
 have cC:=fun W (h:ab P W a G C)=>C7 h.is
 have cN:=fun W (s:be ec W a3 c3 r.e)=>pu r a3 c3 n3 W s h3.out
 rw[<-wy.out] at cC
 by_cases hz:az C=0
 .by_cases hr:aP r=0
  .have hE:bJ C r=gm C r:=by unfold bJ;rw[if_neg (by simp[hz]),if_neg (by simp[hr])]
   have hL:dH C r=gj C r:=by unfold dH;rw[if_neg (by simp[hz]),if_neg (by simp[hr])]
   rw[hL] at ck⊢
   rw[hE]
   have cX:=fun W (hW:w.heap.size<=W.heap.size) h t=>a8 (P:=P) C r a a3 G c3 n3 cn dn W (fun q k=>Nat.lt_of_lt_of_le (hP q k) hW) h t h3 wy ck hz hr
   rw[hz] at cC
   rw[hr] at cN
   obtain⟨K,s',m',l⟩:=r
   simp only at*
   generalize gm C ⟨K,s',m',l⟩=E at*
   generalize gj C ⟨K,s',m',l⟩=D at*
   clear hE hL hr hz
   go_enter Tryz.func50,Tryz.ntmps50
   go_upto_region 1 with fail
   generalize World.alloc (World.alloc (World.alloc w _) _) _=wa at*
   have iU:=B1.cell 0
   have iQ:=B1.lt
   go_wp2_with fail
   go_at_call 88
   refine(cC _ S).mono ?_
   rintro e wb ⟨rfl,bb⟩
   clear iU iQ
   replace B1:=B1.keep bb B1.lt
   replace B2:=B2.keep bb B2.lt
   replace B3:=B3.keep bb B3.lt
   replace S:=S.call bb
   replace S3:=S3.call bb
   replace bel:=ac bel bb
   clear bb
   obtain⟨jE,jG,jI,jK,jH⟩:=B2.c4
   go_wp2_with fail
   go_at_call 59
   refine(cN _ S3).mono ?_
   rintro e wc ⟨rfl,bb⟩
   clear jE jG jI jK jH
   replace B1:=B1.keep bb B1.lt
   replace B2:=B2.keep bb B2.lt
   replace B3:=B3.keep bb B3.lt
   replace S:=S.call bb
   replace S3:=S3.call bb
   replace bel:=ac bel bb
   clear bb
   have iU:=B1.cell 0
   have iQ:=B1.lt
   obtain⟨jE,jG,jI,jK,jH⟩:=B2.c4
   go_wp2_with fail
   go_at_call 60
   refine(cX _ bel.size S S3).mono ?_
   rintro e wd ⟨a',G',rfl,I,bb⟩
   clear iU iQ jE jG jI jK jH
   replace B3:=B3.keep bb B3.lt
   replace bel:=ac bel bb
   clear bb
   have wD:=B3.cell 0
   have xh:=B3.lt
   have f0:=B3.free 0
   go_wp2_with fail
   have B9:=B3.set 0 (.slice a' dn G')
   have aq:=bel.setCell (p:=⟨w.heap.size+1+1,0,none⟩) (Nat.le_trans (Nat.le_succ _) (Nat.le_succ _)) (.slice a' dn G')
   have I9:=ab.boxed (I) B3 (.slice a' dn G')
   have i0:=B9.cell 0
   exact bodyPost_ret (v:=.tuple #[.agg #[.slice a' dn G'],.int .i64 E]) (by simp[results,Tryz.results50,go_sem,i0]) rfl ⟨_,_,rfl,I9,aq⟩
  have hE:bJ C r=aP r:=by unfold bJ;rw[if_neg (by simp[hz]),if_pos hr]
  have hD:dH C r=[]:=AG (by rw[hE];exact hr)
  have K5:decide (aP r=0)=false:=decide_eq_false hr
  rw[hz] at cC
  rw[hD] at ck⊢
  rw[hE]
  obtain rfl:dn=0:=ck.out
  generalize aP r=E at*
  obtain⟨K,s',m',l⟩:=r
  simp only at*
  clear hE hD ck hz
  go_enter Tryz.func50,Tryz.ntmps50
  go_upto_region 1 with fail
  generalize World.alloc (World.alloc (World.alloc w _) _) _=wa at*
  have iU:=B1.cell 0
  have iQ:=B1.lt
  go_wp2_with fail
  go_at_call 88
  refine(cC _ S).mono ?_
  rintro e wb ⟨rfl,bb⟩
  clear iU iQ
  replace B1:=B1.keep bb B1.lt
  replace B2:=B2.keep bb B2.lt
  replace B3:=B3.keep bb B3.lt
  replace S:=S.call bb
  replace S3:=S3.call bb
  replace bel:=ac bel bb
  clear bb
  obtain⟨jE,jG,jI,jK,jH⟩:=B2.c4
  go_wp2_with fail
  go_at_call 59
  refine(cN _ S3).mono ?_
  rintro e wc ⟨rfl,bb⟩
  clear jE jG jI jK jH
  replace B1:=B1.keep bb B1.lt
  replace B2:=B2.keep bb B2.lt
  replace B3:=B3.keep bb B3.lt
  replace S:=S.call bb
  replace S3:=S3.call bb
  replace bel:=ac bel bb
  clear bb
  have wD:=B3.cell 0
  have xh:=B3.lt
  have f0:=B3.free 0
  go_wp2_with fail
  have B9:=B3.set 0 (.slice none 0 0)
  have aq:=bel.setCell (p:=⟨w.heap.size+1+1,0,none⟩) (Nat.le_trans (Nat.le_succ _) (Nat.le_succ _)) (.slice none 0 0)
  have I9:=ab.boxed (ab.none P _) B3 (.slice none 0 0)
  have i0:=B9.cell 0
  exact bodyPost_ret (v:=.tuple #[.agg #[.slice none 0 0],.int .i64 E]) (by simp[results,Tryz.results50,go_sem,i0]) rfl ⟨_,_,rfl,I9,aq⟩
 have hE:bJ C r=az C:=if_pos hz
 have hD:dH C r=[]:=if_pos hz
 have K5:decide (az C=0)=false:=decide_eq_false hz
 rw[hD] at ck⊢
 rw[hE]
 obtain rfl:dn=0:=ck.out
 generalize az C=E at*
 obtain⟨K,s',m',l⟩:=r
 simp only at*
 clear hE hD ck
 go_enter Tryz.func50,Tryz.ntmps50
 go_upto_region 1 with fail
 generalize World.alloc (World.alloc (World.alloc w _) _) _=wa at*
 have iU:=B1.cell 0
 have iQ:=B1.lt
 go_wp2_with fail
 go_at_call 88
 refine(cC _ S).mono ?_
 rintro e wb ⟨rfl,bb⟩
 clear iU iQ
 replace B1:=B1.keep bb B1.lt
 replace B2:=B2.keep bb B2.lt
 replace B3:=B3.keep bb B3.lt
 replace S:=S.call bb
 replace S3:=S3.call bb
 replace bel:=ac bel bb
 clear bb
 have wD:=B3.cell 0
 have xh:=B3.lt
 have f0:=B3.free 0
 go_wp2_with fail
 have B9:=B3.set 0 (.slice none 0 0)
 have aq:=bel.setCell (p:=⟨w.heap.size+1+1,0,none⟩) (Nat.le_trans (Nat.le_succ _) (Nat.le_succ _)) (.slice none 0 0)
 have I9:=ab.boxed (ab.none P _) B3 (.slice none 0 0)
 have i0:=B9.cell 0
 exact bodyPost_ret (v:=.tuple #[.agg #[.slice none 0 0],.int .i64 E]) (by simp[results,Tryz.results50,go_sem,i0]) rfl ⟨_,_,rfl,I9,aq⟩
end Go.Proofs.YtoonnbhoiocoeaaGreatDoor
