/-
  shelf.change: a whole copy of a shelf, on which the function that is handed has worked; for each of the three that it is handed.
-/
import Derived.Test.YtoonnbhoiocoeaaGreatDoorHQCopyOf
set_option maxHeartbeats 40000000
set_option maxRecDepth 100000
set_option linter.unusedVariables false
namespace Go.Proofs.YtoonnbhoiocoeaaGreatDoor
open Go.RowKit
theorem MN (c1:Value)(E:Int)(L:List Rw)(l:List Lr)(ao:Option Addr)(cap:Nat)(w:World)(hs:bL w ao cap l)
  (gM:az (l.map Lr.rw)=0->∀W base box g rs,w.heap.size<=base->Below w.heap.size w W->bv (l.map Lr.rw) base box g rs W->Calls Tryz.prog 151 #[.pointer (some ⟨box,0,none⟩),c1] W (Does E L base box g W)):
  Calls Tryz.prog 150 #[.agg #[.slice ao l.length cap],.func (.func 151) #[] #[c1]] w fun e w'=>∃rs a' G,e=.returned (.tuple #[.agg #[.slice a' rs.length G],.int .i64 (iY (l.map Lr.rw) E)])/\rs.map Lr.rw=ia (l.map Lr.rw) E L/\bL w' a' G rs/\((∀ad,a'=some ad->w.heap.size<=ad.block)/\fv w.heap.size rs)/\Below w.heap.size w w':=by
 have c1:=fun W h=>lI l ao cap W h
 by_cases hE:az (l.map Lr.rw)=0
 .have e1:iY (l.map Lr.rw) E=E:=by unfold iY;rw[if_pos hE]
  have e2:ia (l.map Lr.rw) E L=if E=0 then L else []:=by unfold ia;rw[e1]
  rw[e1,e2]
  have gM:=gM hE
  have hR:=jO hE
  have h4:=hR.four
  rw[List.length_map] at h4
  have c2:=fun W h=>p7 l ao cap W h h4 (fun r hr=>by
   have:=hR.few r.rw (List.mem_map.2 ⟨r,hr,rfl⟩)
   unfold Lr.rw at this
   simpa using this)
  rw[hE] at c1
  rw[h4] at c1⊢
  replace e2:=aa e2
  clear e1 hR h4 hE e2
  go_enter Tryz.func150,Tryz.ntmps150
  go_wp2_with fail
  have D0:=(ag.laid w [.slice ao 4 cap] 24 _ rfl).alc (.cells #[.slice none 0 0] 24)
  have R0:=ag.laid (w.alloc (.cells #[.slice ao 4 cap] 24)) [.slice none 0 0] 24 (w.heap.size+1) (by simp)
  have cq:=dN w (.cells #[.slice ao 4 cap] 24) (.cells #[.slice none 0 0] 24)
  have jq:=(hs.alloc (.cells #[.slice ao 4 cap] 24)).alloc (.cells #[.slice none 0 0] 24)
  generalize(w.alloc _).alloc _=w1 at*
  go_at_call 79
  refine(c1 _ jq).mono ?_
  rintro e w2 ⟨rfl,b2⟩
  have D2:=D0.keep b2 D0.lt
  have R2:=R0.keep b2 R0.lt
  have am:=ac cq b2
  have ij:=jq.call b2
  have d0:w2.cell? ⟨w.heap.size,0,none⟩=some (.slice ao 4 cap):=D2.cell 0
  clear D0 R0 cq jq b2 c1
  go_wp2_with fail
  go_at_call 181
  refine(c2 _ ij).mono ?_
  rintro e w3 ⟨g,rs,rfl,zg,G3,b3⟩
  have R3:=R2.keep b3 R2.lt
  have aC:=ac am b3
  have O4:=ag.laid w3 [.slice (some ⟨g,0,none⟩) 4 4] 24 _ rfl
  have R4:=R3.alc (.cells #[.slice (some ⟨g,0,none⟩) 4 4] 24)
  have ay:=ax aC (.cells #[.slice (some ⟨g,0,none⟩) 4 4] 24)
  have G4:=G3.alloc (.cells #[.slice (some ⟨g,0,none⟩) 4 4] 24)
  have F8:w2.heap.size<=w3.heap.size:=b3.size
  have H7:=R2.lt
  clear b3 G3 aC c2 ij D2 d0 R2 R3
  go_wp2_with fail
  generalize w3.alloc _=w4 at*
  generalize w3.heap.size=box at*
  have yK:=gM w4 w2.heap.size box g rs am.size ay ⟨O4,F8,G4,zg⟩
  have jJ:=am.size
  generalize w2.heap.size=base at*
  go_at_call 151
  refine yK.mono ?_
  rintro e w5 ⟨rfl,b5,qr⟩
  have R5:=R4.keep b5 H7
  have br:Below w.heap.size w w5:=ay.trans (b5.mono jJ)
  have r0:w5.cell? ⟨w.heap.size+1,0,none⟩=some (.slice none 0 0):=R5.cell 0
  have r1:=R5.free 0
  by_cases hz:E=0
  .obtain⟨iG,F5,⟨pR,iZ⟩,yS,O5⟩:=qr hz
   replace iZ:=aa iZ
   have o0:w5.cell? ⟨box,0,none⟩=some (.slice (some ⟨g,0,none⟩) 4 4):=O5.cell 0
   have grow:w5.grownBy (w5.setCell ⟨w.heap.size+1,0,none⟩ (.slice (some ⟨g,0,none⟩) 4 4)) (some (w.heap.size+1)):=al (au w5 _) _ _
   have qx:=F5.lo
   have FR:w.heap.size+1≠g:=by omega
   have F6:=F5.offSl grow R5 (io _ _ _) FR
   have s6:=F6.slr 4 pR (by decide)
   have dD:=br.setCell (p:=⟨w.heap.size+1,0,none⟩) (Nat.le_succ _) (.slice (some ⟨g,0,none⟩) 4 4)
   subst hz
   replace s6:=aa s6
   replace pR:=aa pR
   replace yS:=aa yS
   clear F5 F6 O5 qr grow G4 gM yK hs O4 R4
   go_wp2_with fail
   exact bodyPost_ret (v:=.tuple #[.agg #[.slice (some ⟨g,0,none⟩) 4 4],.int .i64 0]) (by simp[results,Tryz.results150,go_sem,r0]) rfl ⟨iG,_,_,by rw[pR.out],yS.out,s6.out,⟨(fun ad e=>by cases e;exact Nat.le_trans jJ qx),iZ.out.mono jJ⟩,dD⟩
  have dD:=br.setCell (p:=⟨w.heap.size+1,0,none⟩) (Nat.le_succ _) (.slice none 0 0)
  clear qr G4 gM yK hs O4 R4
  go_wp2_with fail
  exact bodyPost_ret (v:=.tuple #[.agg #[.slice none 0 0],.int .i64 E]) (by simp[results,Tryz.results150,go_sem,r0]) rfl ⟨[],none,0,rfl,rfl,bL.ofNil _,⟨(fun ad e=>by cases e),fv.nil _⟩,dD⟩
 have e1:iY (l.map Lr.rw) E=az (l.map Lr.rw):=by unfold iY;rw[if_neg hE]
 have e2:ia (l.map Lr.rw) E L=[]:=by unfold ia;rw[e1,if_neg hE]
 rw[e1,e2]
 have jq:=(hs.alloc (.cells #[.slice ao l.length cap] 24)).alloc (.cells #[.slice none 0 0] 24)
 clear gM e1 e2
 generalize az (l.map Lr.rw)=F at*
 generalize l.length=n at*
 have R0:=ag.laid (w.alloc (.cells #[.slice ao n cap] 24)) [.slice none 0 0] 24 (w.heap.size+1) (by simp)
 have cq:=dN w (.cells #[.slice ao n cap] 24) (.cells #[.slice none 0 0] 24)
 go_enter Tryz.func150,Tryz.ntmps150
 go_wp2_with fail
 generalize(w.alloc _).alloc _=w1 at*
 go_at_call 79
 refine(c1 _ jq).mono ?_
 rintro e w2 ⟨rfl,b2⟩
 have R2:=R0.keep b2 R0.lt
 have am:=ac cq b2
 have r0:w2.cell? ⟨w.heap.size+1,0,none⟩=some (.slice none 0 0):=R2.cell 0
 have r1:=R2.free 0
 have dD:=am.setCell (p:=⟨w.heap.size+1,0,none⟩) (Nat.le_succ _) (.slice none 0 0)
 clear jq hs c1 R0 R2
 go_wp2_with fail
 exact bodyPost_ret (v:=.tuple #[.agg #[.slice none 0 0],.int .i64 F]) (by simp[results,Tryz.results150,go_sem,r0]) rfl ⟨[],none,0,rfl,rfl,bL.ofNil _,⟨(fun ad e=>by cases e),fv.nil _⟩,dD⟩
theorem Ey (c1 c2:Value)(E:Int)(L:List Rw)(l:List Lr)(ao:Option Addr)(cap:Nat)(w:World)(hs:bL w ao cap l)
  (gM:az (l.map Lr.rw)=0->∀W base box g rs,w.heap.size<=base->Below w.heap.size w W->bv (l.map Lr.rw) base box g rs W->Calls Tryz.prog 182 #[.pointer (some ⟨box,0,none⟩),c1,c2] W (Does E L base box g W)):
  Calls Tryz.prog 150 #[.agg #[.slice ao l.length cap],.func (.func 182) #[] #[c1,c2]] w fun e w'=>∃rs a' G,e=.returned (.tuple #[.agg #[.slice a' rs.length G],.int .i64 (iY (l.map Lr.rw) E)])/\rs.map Lr.rw=ia (l.map Lr.rw) E L/\bL w' a' G rs/\((∀ad,a'=some ad->w.heap.size<=ad.block)/\fv w.heap.size rs)/\Below w.heap.size w w':=by
 have c1:=fun W h=>lI l ao cap W h
 by_cases hE:az (l.map Lr.rw)=0
 .have e1:iY (l.map Lr.rw) E=E:=by unfold iY;rw[if_pos hE]
  have e2:ia (l.map Lr.rw) E L=if E=0 then L else []:=by unfold ia;rw[e1]
  rw[e1,e2]
  have gM:=gM hE
  have hR:=jO hE
  have h4:=hR.four
  rw[List.length_map] at h4
  have c2:=fun W h=>p7 l ao cap W h h4 (fun r hr=>by
   have:=hR.few r.rw (List.mem_map.2 ⟨r,hr,rfl⟩)
   unfold Lr.rw at this
   simpa using this)
  rw[hE] at c1
  rw[h4] at c1⊢
  replace e2:=aa e2
  clear e1 hR h4 hE e2
  go_enter Tryz.func150,Tryz.ntmps150
  go_wp2_with fail
  have D0:=(ag.laid w [.slice ao 4 cap] 24 _ rfl).alc (.cells #[.slice none 0 0] 24)
  have R0:=ag.laid (w.alloc (.cells #[.slice ao 4 cap] 24)) [.slice none 0 0] 24 (w.heap.size+1) (by simp)
  have cq:=dN w (.cells #[.slice ao 4 cap] 24) (.cells #[.slice none 0 0] 24)
  have jq:=(hs.alloc (.cells #[.slice ao 4 cap] 24)).alloc (.cells #[.slice none 0 0] 24)
  generalize(w.alloc _).alloc _=w1 at*
  go_at_call 79
  refine(c1 _ jq).mono ?_
  rintro e w2 ⟨rfl,b2⟩
  have D2:=D0.keep b2 D0.lt
  have R2:=R0.keep b2 R0.lt
  have am:=ac cq b2
  have ij:=jq.call b2
  have d0:w2.cell? ⟨w.heap.size,0,none⟩=some (.slice ao 4 cap):=D2.cell 0
  clear D0 R0 cq jq b2 c1
  go_wp2_with fail
  go_at_call 181
  refine(c2 _ ij).mono ?_
  rintro e w3 ⟨g,rs,rfl,zg,G3,b3⟩
  have R3:=R2.keep b3 R2.lt
  have aC:=ac am b3
  have O4:=ag.laid w3 [.slice (some ⟨g,0,none⟩) 4 4] 24 _ rfl
  have R4:=R3.alc (.cells #[.slice (some ⟨g,0,none⟩) 4 4] 24)
  have ay:=ax aC (.cells #[.slice (some ⟨g,0,none⟩) 4 4] 24)
  have G4:=G3.alloc (.cells #[.slice (some ⟨g,0,none⟩) 4 4] 24)
  have F8:w2.heap.size<=w3.heap.size:=b3.size
  have H7:=R2.lt
  clear b3 G3 aC c2 ij D2 d0 R2 R3
  go_wp2_with fail
  generalize w3.alloc _=w4 at*
  generalize w3.heap.size=box at*
  have yK:=gM w4 w2.heap.size box g rs am.size ay ⟨O4,F8,G4,zg⟩
  have jJ:=am.size
  generalize w2.heap.size=base at*
  go_at_call 182
  refine yK.mono ?_
  rintro e w5 ⟨rfl,b5,qr⟩
  have R5:=R4.keep b5 H7
  have br:Below w.heap.size w w5:=ay.trans (b5.mono jJ)
  have r0:w5.cell? ⟨w.heap.size+1,0,none⟩=some (.slice none 0 0):=R5.cell 0
  have r1:=R5.free 0
  by_cases hz:E=0
  .obtain⟨iG,F5,⟨pR,iZ⟩,yS,O5⟩:=qr hz
   replace iZ:=aa iZ
   have o0:w5.cell? ⟨box,0,none⟩=some (.slice (some ⟨g,0,none⟩) 4 4):=O5.cell 0
   have grow:w5.grownBy (w5.setCell ⟨w.heap.size+1,0,none⟩ (.slice (some ⟨g,0,none⟩) 4 4)) (some (w.heap.size+1)):=al (au w5 _) _ _
   have qx:=F5.lo
   have FR:w.heap.size+1≠g:=by omega
   have F6:=F5.offSl grow R5 (io _ _ _) FR
   have s6:=F6.slr 4 pR (by decide)
   have dD:=br.setCell (p:=⟨w.heap.size+1,0,none⟩) (Nat.le_succ _) (.slice (some ⟨g,0,none⟩) 4 4)
   subst hz
   replace s6:=aa s6
   replace pR:=aa pR
   replace yS:=aa yS
   clear F5 F6 O5 qr grow G4 gM yK hs O4 R4
   go_wp2_with fail
   exact bodyPost_ret (v:=.tuple #[.agg #[.slice (some ⟨g,0,none⟩) 4 4],.int .i64 0]) (by simp[results,Tryz.results150,go_sem,r0]) rfl ⟨iG,_,_,by rw[pR.out],yS.out,s6.out,⟨(fun ad e=>by cases e;exact Nat.le_trans jJ qx),iZ.out.mono jJ⟩,dD⟩
  have dD:=br.setCell (p:=⟨w.heap.size+1,0,none⟩) (Nat.le_succ _) (.slice none 0 0)
  clear qr G4 gM yK hs O4 R4
  go_wp2_with fail
  exact bodyPost_ret (v:=.tuple #[.agg #[.slice none 0 0],.int .i64 E]) (by simp[results,Tryz.results150,go_sem,r0]) rfl ⟨[],none,0,rfl,rfl,bL.ofNil _,⟨(fun ad e=>by cases e),fv.nil _⟩,dD⟩
 have e1:iY (l.map Lr.rw) E=az (l.map Lr.rw):=by unfold iY;rw[if_neg hE]
 have e2:ia (l.map Lr.rw) E L=[]:=by unfold ia;rw[e1,if_neg hE]
 rw[e1,e2]
 have jq:=(hs.alloc (.cells #[.slice ao l.length cap] 24)).alloc (.cells #[.slice none 0 0] 24)
 clear gM e1 e2
 generalize az (l.map Lr.rw)=F at*
 generalize l.length=n at*
 have R0:=ag.laid (w.alloc (.cells #[.slice ao n cap] 24)) [.slice none 0 0] 24 (w.heap.size+1) (by simp)
 have cq:=dN w (.cells #[.slice ao n cap] 24) (.cells #[.slice none 0 0] 24)
 go_enter Tryz.func150,Tryz.ntmps150
 go_wp2_with fail
 generalize(w.alloc _).alloc _=w1 at*
 go_at_call 79
 refine(c1 _ jq).mono ?_
 rintro e w2 ⟨rfl,b2⟩
 have R2:=R0.keep b2 R0.lt
 have am:=ac cq b2
 have r0:w2.cell? ⟨w.heap.size+1,0,none⟩=some (.slice none 0 0):=R2.cell 0
 have r1:=R2.free 0
 have dD:=am.setCell (p:=⟨w.heap.size+1,0,none⟩) (Nat.le_succ _) (.slice none 0 0)
 clear jq hs c1 R0 R2
 go_wp2_with fail
 exact bodyPost_ret (v:=.tuple #[.agg #[.slice none 0 0],.int .i64 F]) (by simp[results,Tryz.results150,go_sem,r0]) rfl ⟨[],none,0,rfl,rfl,bL.ofNil _,⟨(fun ad e=>by cases e),fv.nil _⟩,dD⟩
theorem Pb (c1:Value)(E:Int)(L:List Rw)(l:List Lr)(ao:Option Addr)(cap:Nat)(w:World)(hs:bL w ao cap l)
  (gM:az (l.map Lr.rw)=0->∀W base box g rs,w.heap.size<=base->Below w.heap.size w W->bv (l.map Lr.rw) base box g rs W->Calls Tryz.prog 159 #[.pointer (some ⟨box,0,none⟩),c1] W (Does E L base box g W)):
  Calls Tryz.prog 150 #[.agg #[.slice ao l.length cap],.func (.func 159) #[] #[c1]] w fun e w'=>∃rs a' G,e=.returned (.tuple #[.agg #[.slice a' rs.length G],.int .i64 (iY (l.map Lr.rw) E)])/\rs.map Lr.rw=ia (l.map Lr.rw) E L/\bL w' a' G rs/\((∀ad,a'=some ad->w.heap.size<=ad.block)/\fv w.heap.size rs)/\Below w.heap.size w w':=by
 have c1:=fun W h=>lI l ao cap W h
 by_cases hE:az (l.map Lr.rw)=0
 .have e1:iY (l.map Lr.rw) E=E:=by unfold iY;rw[if_pos hE]
  have e2:ia (l.map Lr.rw) E L=if E=0 then L else []:=by unfold ia;rw[e1]
  rw[e1,e2]
  have gM:=gM hE
  have hR:=jO hE
  have h4:=hR.four
  rw[List.length_map] at h4
  have c2:=fun W h=>p7 l ao cap W h h4 (fun r hr=>by
   have:=hR.few r.rw (List.mem_map.2 ⟨r,hr,rfl⟩)
   unfold Lr.rw at this
   simpa using this)
  rw[hE] at c1
  rw[h4] at c1⊢
  replace e2:=aa e2
  clear e1 hR h4 hE e2
  go_enter Tryz.func150,Tryz.ntmps150
  go_wp2_with fail
  have D0:=(ag.laid w [.slice ao 4 cap] 24 _ rfl).alc (.cells #[.slice none 0 0] 24)
  have R0:=ag.laid (w.alloc (.cells #[.slice ao 4 cap] 24)) [.slice none 0 0] 24 (w.heap.size+1) (by simp)
  have cq:=dN w (.cells #[.slice ao 4 cap] 24) (.cells #[.slice none 0 0] 24)
  have jq:=(hs.alloc (.cells #[.slice ao 4 cap] 24)).alloc (.cells #[.slice none 0 0] 24)
  generalize(w.alloc _).alloc _=w1 at*
  go_at_call 79
  refine(c1 _ jq).mono ?_
  rintro e w2 ⟨rfl,b2⟩
  have D2:=D0.keep b2 D0.lt
  have R2:=R0.keep b2 R0.lt
  have am:=ac cq b2
  have ij:=jq.call b2
  have d0:w2.cell? ⟨w.heap.size,0,none⟩=some (.slice ao 4 cap):=D2.cell 0
  clear D0 R0 cq jq b2 c1
  go_wp2_with fail
  go_at_call 181
  refine(c2 _ ij).mono ?_
  rintro e w3 ⟨g,rs,rfl,zg,G3,b3⟩
  have R3:=R2.keep b3 R2.lt
  have aC:=ac am b3
  have O4:=ag.laid w3 [.slice (some ⟨g,0,none⟩) 4 4] 24 _ rfl
  have R4:=R3.alc (.cells #[.slice (some ⟨g,0,none⟩) 4 4] 24)
  have ay:=ax aC (.cells #[.slice (some ⟨g,0,none⟩) 4 4] 24)
  have G4:=G3.alloc (.cells #[.slice (some ⟨g,0,none⟩) 4 4] 24)
  have F8:w2.heap.size<=w3.heap.size:=b3.size
  have H7:=R2.lt
  clear b3 G3 aC c2 ij D2 d0 R2 R3
  go_wp2_with fail
  generalize w3.alloc _=w4 at*
  generalize w3.heap.size=box at*
  have yK:=gM w4 w2.heap.size box g rs am.size ay ⟨O4,F8,G4,zg⟩
  have jJ:=am.size
  generalize w2.heap.size=base at*
  go_at_call 159
  refine yK.mono ?_
  rintro e w5 ⟨rfl,b5,qr⟩
  have R5:=R4.keep b5 H7
  have br:Below w.heap.size w w5:=ay.trans (b5.mono jJ)
  have r0:w5.cell? ⟨w.heap.size+1,0,none⟩=some (.slice none 0 0):=R5.cell 0
  have r1:=R5.free 0
  by_cases hz:E=0
  .obtain⟨iG,F5,⟨pR,iZ⟩,yS,O5⟩:=qr hz
   replace iZ:=aa iZ
   have o0:w5.cell? ⟨box,0,none⟩=some (.slice (some ⟨g,0,none⟩) 4 4):=O5.cell 0
   have grow:w5.grownBy (w5.setCell ⟨w.heap.size+1,0,none⟩ (.slice (some ⟨g,0,none⟩) 4 4)) (some (w.heap.size+1)):=al (au w5 _) _ _
   have qx:=F5.lo
   have FR:w.heap.size+1≠g:=by omega
   have F6:=F5.offSl grow R5 (io _ _ _) FR
   have s6:=F6.slr 4 pR (by decide)
   have dD:=br.setCell (p:=⟨w.heap.size+1,0,none⟩) (Nat.le_succ _) (.slice (some ⟨g,0,none⟩) 4 4)
   subst hz
   replace s6:=aa s6
   replace pR:=aa pR
   replace yS:=aa yS
   clear F5 F6 O5 qr grow G4 gM yK hs O4 R4
   go_wp2_with fail
   exact bodyPost_ret (v:=.tuple #[.agg #[.slice (some ⟨g,0,none⟩) 4 4],.int .i64 0]) (by simp[results,Tryz.results150,go_sem,r0]) rfl ⟨iG,_,_,by rw[pR.out],yS.out,s6.out,⟨(fun ad e=>by cases e;exact Nat.le_trans jJ qx),iZ.out.mono jJ⟩,dD⟩
  have dD:=br.setCell (p:=⟨w.heap.size+1,0,none⟩) (Nat.le_succ _) (.slice none 0 0)
  clear qr G4 gM yK hs O4 R4
  go_wp2_with fail
  exact bodyPost_ret (v:=.tuple #[.agg #[.slice none 0 0],.int .i64 E]) (by simp[results,Tryz.results150,go_sem,r0]) rfl ⟨[],none,0,rfl,rfl,bL.ofNil _,⟨(fun ad e=>by cases e),fv.nil _⟩,dD⟩
 have e1:iY (l.map Lr.rw) E=az (l.map Lr.rw):=by unfold iY;rw[if_neg hE]
 have e2:ia (l.map Lr.rw) E L=[]:=by unfold ia;rw[e1,if_neg hE]
 rw[e1,e2]
 have jq:=(hs.alloc (.cells #[.slice ao l.length cap] 24)).alloc (.cells #[.slice none 0 0] 24)
 clear gM e1 e2
 generalize az (l.map Lr.rw)=F at*
 generalize l.length=n at*
 have R0:=ag.laid (w.alloc (.cells #[.slice ao n cap] 24)) [.slice none 0 0] 24 (w.heap.size+1) (by simp)
 have cq:=dN w (.cells #[.slice ao n cap] 24) (.cells #[.slice none 0 0] 24)
 go_enter Tryz.func150,Tryz.ntmps150
 go_wp2_with fail
 generalize(w.alloc _).alloc _=w1 at*
 go_at_call 79
 refine(c1 _ jq).mono ?_
 rintro e w2 ⟨rfl,b2⟩
 have R2:=R0.keep b2 R0.lt
 have am:=ac cq b2
 have r0:w2.cell? ⟨w.heap.size+1,0,none⟩=some (.slice none 0 0):=R2.cell 0
 have r1:=R2.free 0
 have dD:=am.setCell (p:=⟨w.heap.size+1,0,none⟩) (Nat.le_succ _) (.slice none 0 0)
 clear jq hs c1 R0 R2
 go_wp2_with fail
 exact bodyPost_ret (v:=.tuple #[.agg #[.slice none 0 0],.int .i64 F]) (by simp[results,Tryz.results150,go_sem,r0]) rfl ⟨[],none,0,rfl,rfl,bL.ofNil _,⟨(fun ad e=>by cases e),fv.nil _⟩,dD⟩
end Go.Proofs.YtoonnbhoiocoeaaGreatDoor
