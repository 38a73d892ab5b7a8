/- A part. -/
import Derived.Test.YteefjeddboefcaaGreatDoorPart15
set_option maxRecDepth 100000
set_option maxHeartbeats 4000000
namespace Go.Proofs.YteefjeddboefcaaGreatDoor
open Go Go.RowKit Go.Maps Go.WideMaps
theorem kidFor_form (k:Kd) (t:Tr) (i:Nat) (P Q:Nat→Prop) (c:C4) (d:C5) (w:World) (hP:∀ b,P b→b < w.heap.size) (hQ:∀ b,Q b→b < w.heap.size) (hrep:NRep P w k c) (hrep2:Rep Q w t d)
 (h5:k.sort=5) (hne:k.names=t.names) (hnd:k.names.Nodup) (hi:i < k.kids.length) (hil:i < t.names.length) :
 Calls Tryz.prog 154 #[.agg #[c.c0,c.c1,c.c2,c.c3],.agg #[d.c0,d.c1,d.c2,d.c3,d.c4],.int .i64 i] w fun e w'=>∃ x:C4,e=.returned (.agg #[x.c0,x.c1,x.c2,x.c3])∧NRep P w' k.kids[i] x∧Below w.heap.size w w':=by
 obtain ⟨c0,c1,c2,c3⟩:=c
 obtain ⟨d0,d1,d2,d3,d4⟩:=d
 obtain ⟨e0,-,⟨a3,cap3,e1,-,-⟩,⟨B,e2,hPB,hm⟩,a,cap,e3,hlk,hks⟩:=hrep.open
 obtain ⟨g0,g1,g2,-,-,-,⟨a5,cap5,g3,-,hnc⟩,a6,cap6,g4,-,-⟩:=hrep2.open
 simp only at e0 e1 e2 e3 g0 g1 g2 g3 g4
 subst e0 e1 e2 e3 g0 g1 g2 g3 g4
 obtain ⟨nb,no,rfl,hpn,hcn,hnsz⟩:=hnc i hil
 obtain ⟨kb,ko,kc,rfl,hpk,hck,hrk⟩:=hks i hi
 obtain ⟨W0,hW0⟩:∃ W0,(((w.alloc (.cells #[.int .i64 k.sort,.slice a3 k.names.length cap3,.map (some B),.slice (some ⟨kb,ko,none⟩) k.kids.length cap] 75)).alloc (.cells #[.int .i64 t.sort,.int .i64 t.num,.string t.text,.slice (some ⟨nb,no,none⟩) t.names.length cap5,.slice a6 t.kids.length cap6] 29)).alloc (.cells #[.int .i64 0,.slice none 0 0,.map none,.slice none 0 0] 75))=W0:=⟨_,rfl⟩
 have hb0:Below w.heap.size w W0:=by rw [← hW0];exact (((Below.refl _ _).alloc (Nat.le_refl _) _).alloc (by simp) _).alloc (by simp;omega) _
 have hs0:W0.heap.size=w.heap.size+3:=by rw [← hW0];simp
 have hr0:W0.rowIs w.heap.size 75 4 (row4 (.int .i64 k.sort) (.slice a3 k.names.length cap3) (.map (some B)) (.slice (some ⟨kb,ko,none⟩) k.kids.length cap)):=by rw [← hW0];exact ((row4_alloc w _ _ _ _ _).alloc _).alloc _
 have hr1:W0.rowIs (w.heap.size+1) 29 5 (row5 (.int .i64 t.sort) (.int .i64 t.num) (.string t.text) (.slice (some ⟨nb,no,none⟩) t.names.length cap5) (.slice a6 t.kids.length cap6)):=by
  rw [← hW0]
  have q:=row5_alloc (w.alloc (.cells #[.int .i64 k.sort,.slice a3 k.names.length cap3,.map (some B),.slice (some ⟨kb,ko,none⟩) k.kids.length cap] 75)) (.int .i64 t.sort) (.int .i64 t.num) (.string t.text) (.slice (some ⟨nb,no,none⟩) t.names.length cap5) (.slice a6 t.kids.length cap6) 29
  rw [World.size_alloc] at q
  exact q.alloc _
 have hr2:W0.rowIs (w.heap.size+1+1) 75 4 (row4 (.int .i64 0) (.slice none 0 0) (.map none) (.slice none 0 0)):=by
  rw [← hW0]
  have q:=row4_alloc ((w.alloc (.cells #[.int .i64 k.sort,.slice a3 k.names.length cap3,.map (some B),.slice (some ⟨kb,ko,none⟩) k.kids.length cap] 75)).alloc (.cells #[.int .i64 t.sort,.int .i64 t.num,.string t.text,.slice (some ⟨nb,no,none⟩) t.names.length cap5,.slice a6 t.kids.length cap6] 29)) (.int .i64 0) (.slice none 0 0) (.map none) (.slice none 0 0) 75
  rw [World.size_alloc,World.size_alloc] at q
  exact q
 have hm0:NMap W0.drew B k.names:=hm.carry (hb0.drew.block B (hP B hPB))
 have hkey:keyOf Tryz.prog 9 (.string t.names[i])=some (nkey t.names[i]):=keyOf_string_mk Tryz.underlying9 (by unfold maxLen;omega)
 obtain ⟨cv,hrun,hat,-⟩:=hm0.lookup_int keyLaw Tryz.underlying70 Tryz.underlying3 (zeroInt _) hkey
 have hcv:cv=(i:Int):=by
  have h1:=at_nmap k.names hnd i (by rw [hne];exact hil) k.names.length (Nat.le_refl _) (by rw [hne];exact hil)
  have h2:k.names[i]'(by rw [hne];exact hil)=t.names[i]:=by simp only [hne]
  rw [h2] at h1
  rw [h1] at hat
  simpa using hat.symm
 subst hcv
 have k0:=hr0.cell (i:=0) (by omega);have k2:=hr0.cell (i:=2) (by omega);have k3:=hr0.cell (i:=3) (by omega)
 have t3:=hr1.cell (i:=3) (by omega)
 have z:=hr2.frozen
 obtain ⟨y0,y1,y2,y3⟩:=cs4 hr2 (by omega)
 simp only [row4,row5] at k0 k2 k3 t3 y0 y1 y2 y3
 have en:W0.cell? ⟨nb,no+i,none⟩=some (.string t.names[i]):=by rw [hb0.cell (hQ nb hpn)];exact hcn
 have hck':=hck.carry (hb0.block kb (hP kb hpk))
 obtain ⟨x0,x1,x2,x3⟩:=kc
 obtain ⟨f0,-,⟨a7,cap7,f1,-⟩,⟨B2,f2,-⟩,a8,cap8,f3,-⟩:=hrk.open
 simp only at f0 f1 f2 f3
 subst f0 f1 f2 f3
 obtain ⟨u0,u1,u2,u3⟩:=hck'
 simp only at u0 u1 u2 u3
 have HRK:=xH hrk;have HB0:=xH hb0;have HP:=xH hP
 clear hck hcn hpn hrk hb0 hP hQ hrep hrep2 hr0 hr1 hr2 hks hnc hat hm hm0 hkey hpk hPB
 have hd5:(k.sort==5)=true:=by rw [h5];rfl
 generalize k.kids[i]=kk at *
 generalize t.names[i]=nm at *
 clear h5 hnd hne
 go_enter Tryz.func154,Tryz.ntmps154
 go_wp2_with fail
 go_region
 all_goals
  go_wp2_with fail
  refine bodyPost_ret (v:=.agg #[.int .i64 kk.sort,.slice a7 kk.names.length cap7,.map (some B2),.slice a8 kk.kids.length cap8]) (by simp [results,Tryz.results154,go_sem,y0,y1,y2,y3]) rfl ⟨⟨_,_,_,_⟩,rfl,?_,?_⟩
  · exact NRep.carry (fun b hb=>(heap_set4n _ _ _ _ _ _ _ (by have:=xU HP b hb;omega)).trans ((xU HB0).drew.block b (xU HP b hb))) (fun _ h=>h) kk _ (xU HRK)
  · exact below_set4 (xU HB0).drew _ _ _ _ _ (by omega)
theorem kidFor_else (k:Kd) (t:Tr) (i:Nat) (P Q:Nat→Prop) (c:C4) (d:C5) (w:World) (hP:∀ b,P b→b < w.heap.size) (hrep:NRep P w k c) (hrep2:Rep Q w t d)
 (h5:k.sort≠5) (hi:0 < k.kids.length) :
 Calls Tryz.prog 154 #[.agg #[c.c0,c.c1,c.c2,c.c3],.agg #[d.c0,d.c1,d.c2,d.c3,d.c4],.int .i64 i] w fun e w'=>∃ x:C4,e=.returned (.agg #[x.c0,x.c1,x.c2,x.c3])∧NRep P w' k.kids[0] x∧Below w.heap.size w w':=by
 obtain ⟨c0,c1,c2,c3⟩:=c
 obtain ⟨d0,d1,d2,d3,d4⟩:=d
 obtain ⟨e0,-,⟨a3,cap3,e1,-,-⟩,⟨B,e2,hPB,hm⟩,a,cap,e3,hlk,hks⟩:=hrep.open
 obtain ⟨g0,g1,g2,-,-,-,⟨a5,cap5,g3,-,hnc⟩,a6,cap6,g4,-,-⟩:=hrep2.open
 simp only at e0 e1 e2 e3 g0 g1 g2 g3 g4
 subst e0 e1 e2 e3 g0 g1 g2 g3 g4
 obtain ⟨kb,ko,kc,rfl,hpk,hck,hrk⟩:=hks 0 hi
 obtain ⟨W0,hW0⟩:∃ W0,(((w.alloc (.cells #[.int .i64 k.sort,.slice a3 k.names.length cap3,.map (some B),.slice (some ⟨kb,ko,none⟩) k.kids.length cap] 75)).alloc (.cells #[.int .i64 t.sort,.int .i64 t.num,.string t.text,.slice a5 t.names.length cap5,.slice a6 t.kids.length cap6] 29)).alloc (.cells #[.int .i64 0,.slice none 0 0,.map none,.slice none 0 0] 75))=W0:=⟨_,rfl⟩
 have hb0:Below w.heap.size w W0:=by rw [← hW0];exact (((Below.refl _ _).alloc (Nat.le_refl _) _).alloc (by simp) _).alloc (by simp;omega) _
 have hs0:W0.heap.size=w.heap.size+3:=by rw [← hW0];simp
 have hr0:W0.rowIs w.heap.size 75 4 (row4 (.int .i64 k.sort) (.slice a3 k.names.length cap3) (.map (some B)) (.slice (some ⟨kb,ko,none⟩) k.kids.length cap)):=by rw [← hW0];exact ((row4_alloc w _ _ _ _ _).alloc _).alloc _
 have hr1:W0.rowIs (w.heap.size+1) 29 5 (row5 (.int .i64 t.sort) (.int .i64 t.num) (.string t.text) (.slice a5 t.names.length cap5) (.slice a6 t.kids.length cap6)):=by
  rw [← hW0]
  have q:=row5_alloc (w.alloc (.cells #[.int .i64 k.sort,.slice a3 k.names.length cap3,.map (some B),.slice (some ⟨kb,ko,none⟩) k.kids.length cap] 75)) (.int .i64 t.sort) (.int .i64 t.num) (.string t.text) (.slice a5 t.names.length cap5) (.slice a6 t.kids.length cap6) 29
  rw [World.size_alloc] at q
  exact q.alloc _
 have hr2:W0.rowIs (w.heap.size+1+1) 75 4 (row4 (.int .i64 0) (.slice none 0 0) (.map none) (.slice none 0 0)):=by
  rw [← hW0]
  have q:=row4_alloc ((w.alloc (.cells #[.int .i64 k.sort,.slice a3 k.names.length cap3,.map (some B),.slice (some ⟨kb,ko,none⟩) k.kids.length cap] 75)).alloc (.cells #[.int .i64 t.sort,.int .i64 t.num,.string t.text,.slice a5 t.names.length cap5,.slice a6 t.kids.length cap6] 29)) (.int .i64 0) (.slice none 0 0) (.map none) (.slice none 0 0) 75
  rw [World.size_alloc,World.size_alloc] at q
  exact q
 have k0:=hr0.cell (i:=0) (by omega);have k2:=hr0.cell (i:=2) (by omega);have k3:=hr0.cell (i:=3) (by omega)
 have t3:=hr1.cell (i:=3) (by omega)
 have z:=hr2.frozen
 obtain ⟨y0,y1,y2,y3⟩:=cs4 hr2 (by omega)
 simp only [row4,row5] at k0 k2 k3 t3 y0 y1 y2 y3
 have hck':=hck.carry (hb0.block kb (hP kb hpk))
 obtain ⟨x0,x1,x2,x3⟩:=kc
 obtain ⟨f0,-,⟨a7,cap7,f1,-⟩,⟨B2,f2,-⟩,a8,cap8,f3,-⟩:=hrk.open
 simp only at f0 f1 f2 f3
 subst f0 f1 f2 f3
 obtain ⟨u0,u1,u2,u3⟩:=hck'
 simp only [Nat.zero_mul,Nat.add_zero] at u0 u1 u2 u3
 have HRK:=xH hrk;have HB0:=xH hb0;have HP:=xH hP
 clear hck hrk hb0 hP hrep hrep2 hr0 hr1 hr2 hks hnc hm hpk hPB
 have hd5:(k.sort==5)=false:=by simpa using h5
 generalize k.kids[0]=kk at *
 clear h5
 go_enter Tryz.func154,Tryz.ntmps154
 go_wp2_with fail
 all_goals
  refine bodyPost_ret (v:=.agg #[.int .i64 kk.sort,.slice a7 kk.names.length cap7,.map (some B2),.slice a8 kk.kids.length cap8]) (by simp [results,Tryz.results154,go_sem,y0,y1,y2,y3]) rfl ⟨⟨_,_,_,_⟩,rfl,?_,?_⟩
  · exact NRep.carry (fun b hb=>(heap_set4n _ _ _ _ _ _ _ (by have:=xU HP b hb;omega)).trans ((xU HB0).block b (xU HP b hb))) (fun _ h=>h) kk _ (xU HRK)
  · exact below_set4 (xU HB0) _ _ _ _ _ (by omega)
end Go.Proofs.YteefjeddboefcaaGreatDoor

namespace Go.Proofs.YteefjeddboefcaaGreatDoor
open Go Go.RowKit Go.Maps
def d5l (d:C5):List Value:=[d.c0,d.c1,d.c2,d.c3,d.c4]
def c9l (c:C4) (d:C5):List Value:=c4l c++d5l d
def clm (K:Kd):List Tr→Nat→List (Kd × Tr)
 | [],_=>[]
 | t::r,i=>(kidOf K i,t)::clm K r (i+1)
theorem clm_len (K:Kd):∀ (l:List Tr) (i:Nat),(clm K l i).length=l.length
 | [],_=>rfl
 | t::r,i=>by rw [clm,List.length_cons,clm_len K r,List.length_cons]
theorem clm_snoc (K:Kd) (t:Tr):∀ (l:List Tr) (i:Nat),clm K (l++[t]) i=clm K l i++[(kidOf K (i+l.length),t)]
 | [],i=>by simp [clm]
 | a::r,i=>by
   rw [List.cons_append,clm,clm_snoc K t r (i+1),clm,List.cons_append,List.length_cons,show i+1+r.length=i+(r.length+1) from by omega]
theorem clm_take (K:Kd) (l:List Tr) (k:Nat) (h:k < l.length):clm K (l.take (k+1)) 0=clm K (l.take k) 0++[(kidOf K k,l[k])]:=by
 rw [List.take_succ_eq_append_getElem h,clm_snoc]
 congr 4
 simp;omega
def CRepL (P:Nat→Prop) (w:World):List (Kd × Tr)→List Value→Prop
 | [],xs=>xs=[]
 | p::r,xs=>∃ c d xs',xs=c9l c d++xs'∧NRep P w p.1 c∧Rep P w p.2 d∧CRepL P w r xs'
theorem CRepL.snoc {P:Nat→Prop} {w:World} {ps:List (Kd × Tr)} {xs:List Value} {k:Kd} {t:Tr} {c:C4} {d:C5} (h:CRepL P w ps xs) (hk:NRep P w k c) (ht:Rep P w t d):CRepL P w (ps++[(k,t)]) (xs++c9l c d):=by
 induction ps generalizing xs with
 | nil =>
   have h':xs=[]:=h
   subst h'
   exact ⟨c,d,[],by simp,hk,ht,rfl⟩
 | cons a r ih =>
   obtain ⟨c',d',xs',rfl,h1,h2,h3⟩:=h
   exact ⟨c',d',xs'++c9l c d,by simp,h1,h2,ih h3⟩
theorem CRepL.carry {P Q:Nat→Prop} {w w':World} {ps:List (Kd × Tr)} {xs:List Value} (h:CRepL P w ps xs) (hP:∀ b,P b→w'.heap[b]? = w.heap[b]?) (hQ:∀ b,P b→Q b):CRepL Q w' ps xs:=by
 induction ps generalizing xs with
 | nil=>exact h
 | cons a r ih =>
   obtain ⟨c',d',xs',rfl,h1,h2,h3⟩:=h
   exact ⟨c',d',xs',rfl,NRep.carry hP hQ _ _ h1,Rep.carry hP hQ _ _ h2,ih h3⟩
theorem CRepL.get {P:Nat→Prop} {w:World} {g:Nat} {ps:List (Kd × Tr)} {xs:List Value} {o:Nat} (h:CRepL P w ps xs) (hc:∀ j u,xs[j]? = some u→w.cell? ⟨g,o+j,none⟩=some u) (i:Nat) (hi:i < ps.length) :
 ∃ c d,C4.at w g (o+i * 9) c∧C5.at w g (o+i * 9+4) d∧NRep P w ps[i].1 c∧Rep P w ps[i].2 d:=by
 induction ps generalizing xs o i with
 | nil=>simp at hi
 | cons a r ih =>
   obtain ⟨c',d',xs',rfl,h1,h2,h3⟩:=h
   match i with
   | 0 =>
     refine ⟨c',d',?_,?_,h1,h2⟩
     · rw [Nat.zero_mul,Nat.add_zero];exact ⟨hc 0 _ rfl,hc 1 _ rfl,hc 2 _ rfl,hc 3 _ rfl⟩
     · rw [Nat.zero_mul,Nat.add_zero];exact ⟨hc 4 _ rfl,hc 5 _ rfl,hc 6 _ rfl,hc 7 _ rfl,hc 8 _ rfl⟩
   | i+1 =>
     obtain ⟨c,d,q1,q2,q3,q4⟩:=ih (o:=o+9) h3 (fun j u hj=>by
      have:=hc (9+j) u (by
       rw [List.getElem?_append_right (by simp [c9l,c4l,d5l]),show 9+j - (c9l c' d').length=j from by simp [c9l,c4l,d5l]];exact hj)
      rw [show o+9+j=o+(9+j) from by omega];exact this) i (by simpa using hi)
     exact ⟨c,d,by rw [show o+(i+1) * 9=o+9+i * 9 from by omega];exact q1,by rw [show o+(i+1) * 9+4=o+9+i * 9+4 from by omega];exact q2,q3,q4⟩
theorem cell_nine (w:World) (c:C4) (d:C5) (t:TypeId):∀ j u,(c9l c d)[j]? = some u→(w.alloc (.cells #[c.c0,c.c1,c.c2,c.c3,d.c0,d.c1,d.c2,d.c3,d.c4] t)).cell? ((⟨w.heap.size,0,none⟩:Addr).add j)=some u:=by
 intro j u hj
 have hrow:=row9_alloc w c d t
 rw [Addr.add_lit,Nat.zero_add]
 match j with
 | 0=>rw [hrow.cell (by omega)];exact hj
 | 1=>rw [hrow.cell (by omega)];exact hj
 | 2=>rw [hrow.cell (by omega)];exact hj
 | 3=>rw [hrow.cell (by omega)];exact hj
 | 4=>rw [hrow.cell (by omega)];exact hj
 | 5=>rw [hrow.cell (by omega)];exact hj
 | 6=>rw [hrow.cell (by omega)];exact hj
 | 7=>rw [hrow.cell (by omega)];exact hj
 | 8=>rw [hrow.cell (by omega)];exact hj
 | j+9=>simp [c9l,c4l,d5l] at hj
end Go.Proofs.YteefjeddboefcaaGreatDoor

namespace Go.Proofs.YteefjeddboefcaaGreatDoor
open Go Go.RowKit Go.Maps Go.WideMaps
theorem infoClaim:(Tryz.prog.info? 77).map (fun i=>(i.zero,i.size,i.bytes))=some (some (.agg #[.int .i64 0,.slice none 0 0,.map none,.slice none 0 0,.int .i64 0,.int .i64 0,.string ByteArray.empty,.slice none 0 0,.slice none 0 0]),9,144):=by kernel_rfl
theorem kidFor_any (k:Kd) (t:Tr) (i:Nat) (P:Nat→Prop) (c:C4) (d:C5) (w:World) (hP:∀ b,P b→b < w.heap.size) (hrep:NRep P w k c) (hrep2:Rep P w t d)
 (hk:shB k=true) (ht:aloneB t=true) (hs:k.sort=t.sort) (hne:k.names=t.names) (hi:i < t.kids.length) :
 Calls Tryz.prog 154 #[.agg #[c.c0,c.c1,c.c2,c.c3],.agg #[d.c0,d.c1,d.c2,d.c3,d.c4],.int .i64 i] w fun e w'=>∃ x:C4,e=.returned (.agg #[x.c0,x.c1,x.c2,x.c3])∧NRep P w' (kidOf k i) x∧Below w.heap.size w w':=by
 obtain ⟨h0,h5⟩:=kid_at hk ht hs hne hi
 by_cases e:k.sort=5
 · have hr:riseB k.names=true∧k.kids.length=k.names.length:=by
    rcases shB_cases hk with ⟨h,-⟩ | ⟨h,-⟩ | ⟨-,h2,h⟩
    · omega
    · omega
    · exact ⟨h,h2⟩
   rw [kidOf_form e (h5 e)]
   exact kidFor_form k t i P P c d w hP hP hrep hrep2 e hne (rise_nodup hr.1) (h5 e) (by rw [← hne,← hr.2];exact h5 e)
 · rw [kidOf_else e i h0]
   exact kidFor_else k t i P P c d w hP hrep hrep2 e h0
theorem nine_one {P:Nat→Prop} {w:World} {k:Kd} {t:Tr} {c:C4} {d:C5} (h:NRep P w k c) (h2:Rep P w t d):∀ u∈c9l c d,u.oneCell'=true:=by
 intro u hu
 rcases List.mem_append.1 hu with hu | hu
 · exact h.one u hu
 · obtain ⟨r0,r1,r2,-,-,-,⟨aa,capa,r3,-⟩,ab,capb,r4,-⟩:=h2.open
   simp only [d5l,r0,r1,r2,r3,r4,List.mem_cons,List.not_mem_nil,or_false] at hu
   rcases hu with rfl | rfl | rfl | rfl | rfl <;> rfl
theorem claimKids_any (k:Kd) (t:Tr) (P:Nat→Prop) (c:C4) (d:C5) (w:World) (hP:∀ b,P b→b < w.heap.size) (hrep:NRep P w k c) (hrep2:Rep P w t d)
 (hk:shB k=true) (ht:aloneB t=true) (hs:k.sort=t.sort) (hne:k.names=t.names) (hlen:t.kids.length≤1000000) :
 Calls Tryz.prog 155 #[.agg #[c.c0,c.c1,c.c2,c.c3,d.c0,d.c1,d.c2,d.c3,d.c4]] w fun e w'=>∃ a cap xs,e=.returned (.slice a t.kids.length cap)∧w'.ownsRow (w.heap.size+1) 77 9 (.slice a t.kids.length cap) t.kids.length xs∧CRepL P w' (clm k t.kids 0) xs∧Below w.heap.size w w':=by
 have hkf:=fun (i:Nat) (hi:i < t.kids.length) (W:World) (hW:Below w.heap.size w W)=>kidFor_any k t i P c d W (fun b hb=>Nat.lt_of_lt_of_le (hP b hb) hW.size) (NRep.carry (fun b hb=>hW.block b (hP b hb)) (fun _ h=>h) _ _ hrep) (Rep.carry (fun b hb=>hW.block b (hP b hb)) (fun _ h=>h) _ _ hrep2) hk ht hs hne hi
 obtain ⟨c0,c1,c2,c3⟩:=c
 obtain ⟨d0,d1,d2,d3,d4⟩:=d
 obtain ⟨e0,-,⟨a3,cap3,e1,-,-⟩,⟨B,e2,-,-⟩,a,cap,e3,-,-⟩:=hrep.open
 obtain ⟨g0,g1,g2,-,-,-,⟨a5,cap5,g3,-,-⟩,a6,cap6,g4,-,hks⟩:=hrep2.open
 simp only at e0 e1 e2 e3 g0 g1 g2 g3 g4
 subst e0 e1 e2 e3 g0 g1 g2 g3 g4
 obtain ⟨i0,hi,hz0,hz1,hz2⟩:=info_parts infoClaim
 have HKF:=xH hkf;have HP:=xH hP;have HK:=xH hks
 have HII:=xH hi;have HZ0:=xH hz0;have HZ1:=xH hz1;have HZ2:=xH hz2
 clear hkf hP hks hrep hrep2 hk ht hs hne hi hz0 hz1 hz2
 go_enter Tryz.func155,Tryz.ntmps155
 go_wp2_with fail
 have hr0:=row9_alloc w ⟨.int .i64 k.sort,.slice a3 k.names.length cap3,.map (some B),.slice a k.kids.length cap⟩ ⟨.int .i64 t.sort,.int .i64 t.num,.string t.text,.slice a5 t.names.length cap5,.slice a6 t.kids.length cap6⟩ 77
 simp only at hr0
 have hb0:Below w.heap.size w (w.alloc (.cells #[.int .i64 k.sort,.slice a3 k.names.length cap3,.map (some B),.slice a k.kids.length cap,.int .i64 t.sort,.int .i64 t.num,.string t.text,.slice a5 t.names.length cap5,.slice a6 t.kids.length cap6] 77)):=(Below.refl _ _).alloc (Nat.le_refl _) _
 have hs0:(w.alloc (.cells #[.int .i64 k.sort,.slice a3 k.names.length cap3,.map (some B),.slice a k.kids.length cap,.int .i64 t.sort,.int .i64 t.num,.string t.text,.slice a5 t.names.length cap5,.slice a6 t.kids.length cap6] 77)).heap.size=w.heap.size+1:=by simp
 generalize (w.alloc (.cells #[.int .i64 k.sort,.slice a3 k.names.length cap3,.map (some B),.slice a k.kids.length cap,.int .i64 t.sort,.int .i64 t.num,.string t.text,.slice a5 t.names.length cap5,.slice a6 t.kids.length cap6] 77))=W0 at *
 have HR0:=xH hr0;have HB0:=xH hb0
 clear hr0 hb0
 go_loopw [3,10] (fun s i wr=>∃ (j:Nat) (a':Option Addr) (cap':Nat) (xs:List Value),j≤t.kids.length∧i=.int .i64 j∧s=.slice a' j cap'∧Hid (wr.ownsRow (w.heap.size+1) 77 9 (.slice a' j cap') j xs)∧Hid (CRepL P wr (clm k (t.kids.take j) 0) xs)∧Hid (Below (w.heap.size+1) W0 wr)) (fun _ i _=>t.kids.length - (intOf i).toNat)
 case atStart=>exact ⟨0,none,0,[],Nat.zero_le _,rfl,rfl,World.ownsRow_nil _ _ _ _,rfl,Below.refl _ _⟩
 case round =>
  obtain ⟨j,a',cap',xs,hj,rfl,rfl,HOWN,HCL,HB⟩:=hrel
  have hbw:Below w.heap.size w wr:=(xU HB0).trans (HB.out.mono (by omega))
  have hsw:=HB.out.size
  by_cases hlt:j < t.kids.length
  · obtain ⟨mb,mo,mc,rfl,hpm,hcm,hrm⟩:=xU HK j hlt
    have hcm':=hcm.carry (hbw.block mb (xU HP mb hpm))
    obtain ⟨m0,m1,m2,m3,m4⟩:=mc
    obtain ⟨r0,r1,r2,-,-,-,⟨aa,capa,r3,-⟩,ab,capb,r4,-⟩:=hrm.open
    simp only at r0 r1 r2 r3 r4
    subst r0 r1 r2 r3 r4
    obtain ⟨x0,x1,x2,x3,x4⟩:=hcm'
    simp only at x0 x1 x2 x3 x4
    have hrw:Rep P wr t.kids[j] ⟨_,_,_,_,_⟩:=Rep.carry (fun b hb=>hbw.block b (xU HP b hb)) (fun _ h=>h) _ _ hrm
    have q0:=(xU HR0).of_block (HB.out.block w.heap.size (by omega))
    have p0:=fun o=>(q0.alloc o).cell (i:=0) (by omega);have p1:=fun o=>(q0.alloc o).cell (i:=1) (by omega);have p2:=fun o=>(q0.alloc o).cell (i:=2) (by omega);have p3:=fun o=>(q0.alloc o).cell (i:=3) (by omega);have p4:=fun o=>(q0.alloc o).cell (i:=4) (by omega);have p5:=fun o=>(q0.alloc o).cell (i:=5) (by omega);have p6:=fun o=>(q0.alloc o).cell (i:=6) (by omega);have p7:=fun o=>(q0.alloc o).cell (i:=7) (by omega);have p8:=fun o=>(q0.alloc o).cell (i:=8) (by omega)
    simp only [row9] at p0 p1 p2 p3 p4 p5 p6 p7 p8
    have hba:∀ ob,Below w.heap.size w (wr.alloc ob).drew:=fun ob=>(hbw.alloc hbw.size ob).drew
    have hrB:=row5_alloc wr (.int .i64 t.kids[j].sort) (.int .i64 t.kids[j].num) (.string t.kids[j].text) (.slice aa t.kids[j].names.length capa) (.slice ab t.kids[j].kids.length capb) 29
    have hcall:Calls Tryz.prog 154 #[.agg #[.int .i64 k.sort,.slice a3 k.names.length cap3,.map (some B),.slice a k.kids.length cap],.agg #[.int .i64 t.sort,.int .i64 t.num,.string t.text,.slice a5 t.names.length cap5,.slice (some ⟨mb,mo,none⟩) t.kids.length cap6],.int .i64 j] (wr.alloc (.cells #[.int .i64 t.kids[j].sort,.int .i64 t.kids[j].num,.string t.kids[j].text,.slice aa t.kids[j].names.length capa,.slice ab t.kids[j].kids.length capb] 29)).drew fun e w6=>∃ n0 a7 n1 cap7 B2 a8 n2 cap8,e=.returned (.agg #[.int .i64 n0,.slice a7 n1 cap7,.map (some B2),.slice a8 n2 cap8])∧Hid (NRep P w6 (kidOf k j) ⟨.int .i64 n0,.slice a7 n1 cap7,.map (some B2),.slice a8 n2 cap8⟩)∧Hid (Below wr.heap.size wr w6)∧wr.heap.size≤w6.heap.size∧Hid (w6.ownsRow (w.heap.size+1) 77 9 (.slice a' j cap') j xs)∧w6.cell? ⟨wr.heap.size,0,none⟩=some (.int .i64 t.kids[j].sort)∧w6.cell? ⟨wr.heap.size,1,none⟩=some (.int .i64 t.kids[j].num)∧w6.cell? ⟨wr.heap.size,2,none⟩=some (.string t.kids[j].text)∧w6.cell? ⟨wr.heap.size,3,none⟩=some (.slice aa t.kids[j].names.length capa)∧w6.cell? ⟨wr.heap.size,4,none⟩=some (.slice ab t.kids[j].kids.length capb):=by
     refine (xU HKF j hlt _ (hba _)).mono ?_
     rintro e w6 ⟨⟨y0,y1,y2,y3⟩,rfl,hnr,hb6⟩
     obtain ⟨f0,-,⟨a7,cap7,f1,-⟩,⟨B2,f2,-⟩,a8,cap8,f3,-⟩:=hnr.open
     simp only at f0 f1 f2 f3
     subst f0 f1 f2 f3
     have q6:=hrB.of_block (hb6.block wr.heap.size (by show wr.heap.size < (wr.alloc _).heap.size;simp))
     have hb6':Below wr.heap.size wr w6:=(((Below.refl wr.heap.size wr).alloc (Nat.le_refl _) _).drew).trans (hb6.mono (((Below.refl wr.heap.size wr).alloc (Nat.le_refl _) _).drew).size)
     exact ⟨_,_,_,_,_,_,_,_,rfl,hnr,hb6',hb6'.size,HOWN.out.kept (row:=none) ⟨hb6'.os,hb6'.tape,hb6'.output,hb6'.size,fun i hi _=>hb6'.block i hi⟩ (by rcases e:(Value.slice a' j cap').ownBlock with _ | g <;> simp),q6.cell (i:=0) (by omega),q6.cell (i:=1) (by omega),q6.cell (i:=2) (by omega),q6.cell (i:=3) (by omega),q6.cell (i:=4) (by omega)⟩
    have htk:=clm_take k t.kids j hlt
    have hcl:(clm k (t.kids.take j) 0).length=j:=by rw [clm_len];simp;omega
    have HCALL:=xH hcall;have HTK:=xH htk;have HRW:=xH hrw;have HBW:=xH hbw
    clear hcall htk hrw hbw hrB hba q0 hcm hrm hpm
    go_wp2_with fail
    go_region_law (first
     | ((refine step_append_lies _ (by rfl) _ _ _ (by rfl) (w.heap.size+1) 77 i0 _ 9 144 Tryz.underlying145 (xU HII) (xU HZ0) (xU HZ1) (xU HZ2) rfl (by decide) (.slice a' j cap') j xs (by rfl) ((xU HOWN6).alloc _) ⟨w6.heap.size,0,none⟩ 1 1 (c9l ⟨.int .i64 n0,.slice a7 n1 cap7,.map (some B2),.slice a8 n2 cap8⟩ ⟨.int .i64 t.kids[j].sort,.int .i64 t.kids[j].num,.string t.kids[j].text,.slice aa t.kids[j].names.length capa,.slice ab t.kids[j].kids.length capb⟩) (by rfl) (by rfl) (cell_nine w6 _ _ _) (nine_one (xU HNR) (xU HRT6)) (by decide) (by unfold maxLen;omega) (by omega) (by simp;omega) (w6.heap.size+1) (by simp) ?_;intro g2 cap2 w8 hown8 hgrow8 hat8 hlt8))
     | (rw [if_pos (by first | rfl | simp [Region.wanted])];go_simp;refine (xU HCALL).mono ?_;rintro e w6 ⟨n0,a7,n1,cap7,B2,a8,n2,cap8,rfl,HNR,HB6,hs6,HOWN6,l0,l1,l2,l3,l4⟩;have HRT6:Hid (Rep P w6 t.kids[j] ⟨.int .i64 t.kids[j].sort,.int .i64 t.kids[j].num,.string t.kids[j].text,.slice aa t.kids[j].names.length capa,.slice ab t.kids[j].kids.length capb⟩):=Rep.carry (fun b hb=>(xU HB6).block b (by have:=xU HP b hb;have:=(xU HBW).size;omega)) (fun _ h=>h) _ _ (xU HRW)))
    all_goals
     have hz6:∀ o,(w6.alloc o).heap.size=w6.heap.size+1:=fun o=>World.size_alloc _ _
     have hk6:∀ b,P b→w8.heap[b]? = w6.heap[b]? := fun b hb=>by
      have hbl:=xU HP b hb
      have hbs:=(xU HBW).size
      rw [hgrow8.block b (by rw [hz6];omega) (fun e=>by have:=((xU HOWN6).lt b e.symm).1;omega)]
      exact Below.heap_alloc _ _ _ (by omega)
     have hkr:∀ b,P b→w8.heap[b]? = wr.heap[b]? := fun b hb=>(hk6 b hb).trans ((xU HB6).block b (by have:=xU HP b hb;have:=(xU HBW).size;omega))
     have hcl8:=CRepL.snoc (HCL.out.carry hkr (fun _ h=>h)) (NRep.carry hk6 (fun _ h=>h) _ _ (xU HNR)) (Rep.carry hk6 (fun _ h=>h) _ _ (xU HRT6))
     rw [← xU HTK] at hcl8
     have hb8:Below (w.heap.size+1) W0 w8 :=
      ((HB.out.trans ((xU HB6).mono (by omega))).alloc (by omega) (.cells #[.int .i64 n0,.slice a7 n1 cap7,.map (some B2),.slice a8 n2 cap8,.int .i64 t.kids[j].sort,.int .i64 t.kids[j].num,.string t.kids[j].text,.slice aa t.kids[j].names.length capa,.slice ab t.kids[j].kids.length capb] 77)).grown hgrow8 (by rw [hz6];omega) (fun b e=>((xU HOWN6).lt b e).1)
     have HO8:=xH hown8;have HC8:=xH hcl8;have HB8:=xH hb8
     clear hown8 hcl8 hb8 hgrow8 hat8 hlt8 hk6 hkr hz6 l0 l1 l2 l3 l4 p0 p1 p2 p3 p4 p5 p6 p7 p8
     go_wp2_with fail
     go_roundw
     case rel=>exact ⟨j+1,some ⟨g2,0,none⟩,cap2,_,by omega,by go_num,rfl,xU HO8,xU HC8,xU HB8⟩
     case measure=>simp [intOf];omega
  · obtain rfl:j=t.kids.length:=by omega
    have HBW:=xH hbw
    clear hbw
    go_wp2_with fail
    go_ret
    have hcl:=HCL.out
    rw [List.take_length] at hcl
    exact ⟨a',cap',xs,rfl,HOWN.out,hcl,xU HBW⟩
end Go.Proofs.YteefjeddboefcaaGreatDoor

namespace Go.Proofs.YteefjeddboefcaaGreatDoor
open Go Go.RowKit
def SeqH {α:Type} (n:Nat) (P:Program) (gf:Nat) (lb:Array Value) (encs:α→Array Value) (H:α→Prop) (Kp:World→World→Prop) (S Sp:List α→Prop) (w:World):Prop :=
 ∀ (l:Nat) (J Jx:List α→World→Prop) (W:World),Below w.heap.size w W→(∀ s A B,J s A→A.grownBy B none→J s B)→(∀ pre x V,J (pre++[x]) V→H x) →
   (∀ pre x V,J pre V→YieldAt Fence.wide (n - 1) P l (encs x) V fun e V'=>(e=.returned (.bool true)∧J (pre++[x]) V'∧Kp V V')∨(e=.returned (.bool false)∧Jx (pre++[x]) V')) →
   J [] W→CallsIn Fence.wide n P gf (#[.func (.yield l) #[] #[]]++lb) W fun e W'=>(∃ v,e=.returned v)∧((∃ xs,S xs∧J xs W')∨∃ pre,Sp pre∧Jx pre W')
def postH {α:Type} (B:Nat) (Kp:World→World→Prop) (I Ix:List α→World→Prop) (xs:List α) (W:World):Exit→Act→World→Prop
 | .normal,_,W'=>KeepsFrom B W W'∧Kp W W'∧I xs W'
 | .ret,_,W'=>KeepsFrom B W W'∧Ix xs W'
 | _,_,_=>False
theorem range_H {α:Type} {n:Nat} {P:Program} {g:Operand} {ps:Array Tmp} {assign body:Code} {Q:Exit→Act→World→Prop} {a:Act} {w:World} (h1:1≤n) {gf:Nat} {lb:Array Value}
 (hg:a.eval g=.func (.func gf) #[] lb) (eg:∀ args w,(callFunc gf args).run P w=.ok (.enter gf args) w) {encs:α→Array Value} {H:α→Prop} {Kp:World→World→Prop} {S Sp:List α→Prop}
 (hseq:SeqH (n - 1) P gf lb encs H Kp S Sp w) (hKt:∀ {A B C:World},Kp A B→Kp B C→Kp A C)
 (hKb:∀ (W:World) (l:Nat) (o o':Obj),w.heap.size≤l→W.heap[l]? = some o→o.isCells=false→o.isWalk=false→Kp W (W.putObj l o')) (hps:∀ x,(encs x).size=ps.size)
 (I Ix:List α→World→Prop) (hI:OwnFrom w.heap.size I) (hIx:OwnFrom w.heap.size Ix) (hHy:∀ pre x W,I (pre++[x]) W→H x) (h0:I [] w)
 (Ax:α→Act→World→Prop) (hAx:∀ x a',OwnFrom w.heap.size (fun (_:Unit) W=>Ax x a' W))
 (hassign:∀ (l:Nat) (pre:List α) (x:α) (W:World) (K:Act→World→Prop),I pre W→(∀ a' W',KeepsFrom w.heap.size W W'→Kp W W'→I pre W'→Ax x a' W'→K a' W') →
   assign.wpIn (Fence.wide.inRound l) (n - 1 - 1) P (Exit.then K (fun _ _ _=>False)) { tmps:=(ps.zip (encs x)).foldl (fun t (p,v)=>t.setIfInBounds p v) a.tmps,defers:=[] } W)
 (hbody:∀ (l:Nat) (pre:List α) (x:α) (a':Act) (W:World),I pre W→Ax x a' W→body.wpIn (Fence.wide.inRound l) (n - 1 - 1) P (postH w.heap.size Kp I Ix (pre++[x]) W) a' W)
 (hdone:∀ (xs:List α) (W:World),S xs→I xs W→W.heap[w.heap.size]? = some (.deferred (some []))→Q .normal { a with defers:={ target:=.collected w.heap.size,args:=#[] }::a.defers } W)
 (hstop:∀ (pre:List α) (W:World),Sp pre→Ix pre W→W.heap[w.heap.size]? = some (.deferred (some []))→Code.ret.wpIn Fence.wide n P Q { a with defers:={ target:=.collected w.heap.size,args:=#[] }::a.defers } W) :
 (Code.rangeFunc g ps assign body).wpIn Fence.wide n P Q a w:=by
 refine wpIn_rangeFunc fun fn hfn=>?_
 obtain ⟨R,hR⟩:∃ R:LoopState→Option Code→Loop,∀ s p,R s p={ state:=s,pending:=p,fn,tmps:=a.tmps,params:=ps,assign,body,defers:=w.heap.size }:=⟨_,fun _ _=>rfl⟩
 have hsz:((w.alloc (.deferred (some []))).alloc (.loop (R .ready none))).heap.size=w.heap.size+2:=by simp
 have hL:((w.alloc (.deferred (some []))).alloc (.loop (R .ready none))).heap[w.heap.size+1]? = some (.loop (R .ready none)):=by
  have:=World.alloc_heap_new (w.alloc (.deferred (some []))) (.loop (R .ready none));rwa [World.size_alloc] at this
 have hD:((w.alloc (.deferred (some []))).alloc (.loop (R .ready none))).heap[w.heap.size]? = some (.deferred (some [])) :=
  (Below.heap_alloc _ _ _ (by simp)).trans (World.alloc_heap_new w _)
 refine ⟨w.heap.size+1,[{ target:=.collected w.heap.size,args:=#[] }],(w.alloc (.deferred (some []))).alloc (.loop (R .ready none)),{ target:=.fn (.func gf) lb,args:=#[.func (.yield (w.heap.size+1)) #[] #[]] },(w.alloc (.deferred (some []))).alloc (.loop (R .ready none)),gf,
  #[.func (.yield (w.heap.size+1)) #[] #[]]++lb,(w.alloc (.deferred (some []))).alloc (.loop (R .ready none)),by rw [hR];exact run_enterLoop_outer _ _ _ _ _,?_,fun _ _=>trivial,?_,fun _=>h1,?_⟩
 · simp only [resolve,hg]
   simp [go_sem]
 · simp [invoke,go_sem,eg]
 refine (hseq (w.heap.size+1) (fun pre W=>I pre W∧W.heap[w.heap.size+1]? = some (.loop (R .ready none))∧W.heap[w.heap.size]? = some (.deferred (some [])))
  (fun pre W=>Ix pre W∧W.heap[w.heap.size+1]? = some (.loop (R .done (some .ret)))∧W.heap[w.heap.size]? = some (.deferred (some []))) _
  (((Below.refl _ w).alloc (Nat.le_refl _) _).alloc (by simp) _)
  (fun s A B hs hg'=>⟨hI s A B none hs.1 hg' (fun r e=>by cases e),(hg'.block _ (Array.getElem?_eq_some_iff.1 hs.2.1).1 (by simp)).trans hs.2.1,(hg'.block _ (Array.getElem?_eq_some_iff.1 hs.2.2).1 (by simp)).trans hs.2.2⟩)
  (fun pre x V hV=>hHy pre x V hV.1) ?round ⟨hI.alloc _ (hI.alloc _ h0),hL,hD⟩).mono ?behind
 case behind =>
  rintro e W2 ⟨⟨v,rfl⟩,⟨xs,hS,hi,hl,hd⟩ | ⟨pre,hSp,hi,hl,hd⟩⟩
  · have:=run_endLoop (P:=P) hl (by rw [hR];simp)
    exact ⟨_,_,this,by rw [hR];exact hdone xs _ hS (hI.putObj _ hi (by omega) hl rfl) ((World.putObj_heap_other (by omega)).trans hd)⟩
  · have:=run_endLoop (P:=P) hl (by rw [hR];simp)
    exact ⟨_,_,this,by rw [hR];exact hstop pre _ hSp (hIx.putObj _ hi (by omega) hl rfl) ((World.putObj_heap_other (by omega)).trans hd)⟩
 case round =>
  rintro pre x W ⟨hi,hl,hd⟩
  have hy:=run_yield (P:=P) (args:=encs x) hl (by rw [hR];exact hps x)
  rw [hR] at hy
  refine ⟨fn,_,assign,body,hy,roundIn_of_wpIn hfn (hassign _ pre x W _ hi ?_)⟩
  intro a' V hkf hkp hiV hax
  have hlV:=hkf.same _ _ (by omega) hl rfl
  have hdV:=hkf.same _ _ (Nat.le_refl _) hd rfl
  have hlt:=(Array.getElem?_eq_some_iff.1 hlV).1
  refine ⟨_,run_beginRound hlV (by rw [hR]),?_⟩
  have hl2:(V.putObj (w.heap.size+1) (.loop { R .ready none with state:=.busy })).heap[w.heap.size+1]? = some (.loop { R .ready none with state:=.busy }):=World.putObj_heap_same hlt
  have hd2:(V.putObj (w.heap.size+1) (.loop { R .ready none with state:=.busy })).heap[w.heap.size]? = some (.deferred (some [])):=(World.putObj_heap_other (by omega)).trans hdV
  refine wpIn_mono (hbody _ pre x a' _ (hI.putObj _ hiV (by omega) hlV rfl) ((hAx x a').putObj (s:=()) _ hax (by omega) hlV rfl)) ?_
  rintro e a3 W3 hp
  cases e with
  | normal =>
    obtain ⟨hk3,hkp3,hi3⟩:=hp
    have hl3:=hk3.same _ _ (by omega) hl2 rfl
    have hlt3:=(Array.getElem?_eq_some_iff.1 hl3).1
    refine ⟨_,_,run_endRound (P:=P) none hl3,.inl ⟨rfl,⟨hI.putObj _ hi3 (by omega) hl3 rfl,?_,(World.putObj_heap_other (by omega)).trans (hk3.same _ _ (Nat.le_refl _) hd2 rfl)⟩,hKt hkp (hKt (hKt (hKb _ _ _ _ (by omega) hlV rfl rfl) hkp3) (hKb _ _ _ _ (by omega) hl3 rfl rfl))⟩⟩
    rw [World.putObj_heap_same hlt3];simp only [hR];rfl
  | ret =>
    obtain ⟨hk3,hi3⟩:=hp
    have hl3:=hk3.same _ _ (by omega) hl2 rfl
    have hlt3:=(Array.getElem?_eq_some_iff.1 hl3).1
    refine ⟨_,_,run_endRound (P:=P) (some .ret) hl3,.inr ⟨rfl,hIx.putObj _ hi3 (by omega) hl3 rfl,?_,(World.putObj_heap_other (by omega)).trans (hk3.same _ _ (Nat.le_refl _) hd2 rfl)⟩⟩
    rw [World.putObj_heap_same hlt3];simp only [hR];rfl
  | exit id=>exact hp.elim
  | goto t=>exact hp.elim
  | panic ch=>exact hp.elim
  | outgrown=>exact hp.elim
end Go.Proofs.YteefjeddboefcaaGreatDoor

namespace Go.Proofs.YteefjeddboefcaaGreatDoor
open Go Go.RowKit Go.Shelf Go.Maps
attribute [local go_sem] Oper.semAt_some
mutual
def cord:Tr→Kd→List (Kd × Tr)
 | .mk s n tx ns ks,k=>(k,.mk s n tx ns ks)::cordK ks k 0
def cordK:List Tr→Kd→Nat→List (Kd × Tr)
 | [],_,_=>[]
 | t::r,k,i=>cord t (kidOf k i)++cordK r k (i+1)
end
theorem cord_eq (t:Tr) (k:Kd):cord t k=(k,t)::cordK t.kids k 0:=by obtain ⟨s,n,tx,ns,ks⟩:=t;rw [cord];rfl
def clB (p:Kd × Tr):Bool:=decide (p.1.sort=p.2.sort) && decide (p.1.names=p.2.names)
mutual
theorem hT_cord:∀ (t:Tr) (k:Kd),hT t k=(cord t k).all clB
 | .mk s n tx ns ks,k=>by rw [hT,cord,List.all_cons,hK_cord ks k 0];rfl
theorem hK_cord:∀ (ks:List Tr) (k:Kd) (i:Nat),hK ks k i=(cordK ks k i).all clB
 | [],k,i=>by rw [hK,cordK];rfl
 | t::r,k,i=>by rw [hK,cordK,List.all_append,hT_cord t,hK_cord r]
end
theorem cordK_take (K:Kd):∀ (ks:List Tr) (j i:Nat) (h:j < ks.length),cordK (ks.take (j+1)) K i=cordK (ks.take j) K i++cord ks[j] (kidOf K (i+j))
 | [],j,i,h=>by simp at h
 | a::r,0,i,h=>by simp [cordK]
 | a::r,j+1,i,h=>by
   simp only [List.take_succ_cons,cordK,List.getElem_cons_succ]
   rw [cordK_take K r j (i+1) (by simpa using h),List.append_assoc,show i+1+j=i+(j+1) from by omega]
theorem cordK_take_pre (K:Kd):∀ (ks:List Tr) (j i:Nat),cordK (ks.take j) K i <+: cordK ks K i
 | [],j,i=>by simp [cordK]
 | a::r,0,i=>by simp [cordK]
 | a::r,j+1,i=>by simp only [List.take_succ_cons,cordK];exact (List.prefix_append_right_inj _).2 (cordK_take_pre K r j (i+1))
abbrev CX (n₀:Nat) (w0:World):={ x:Int × (Kd × Tr) × C4 × C5 // NRep (fun b=>b < n₀) w0 x.2.1.1 x.2.2.1∧Rep (fun b=>b < n₀) w0 x.2.1.2 x.2.2.2∧okD x.2.1.1=true∧okH x.2.1.2=true }
def cKey {n₀:Nat} {w0:World} (x:CX n₀ w0):Kd × Tr:=x.1.2.1
def cEnc {n₀:Nat} {w0:World} (x:CX n₀ w0):Array Value:=#[.int .i64 x.1.1,.agg #[x.1.2.2.1.c0,x.1.2.2.1.c1,x.1.2.2.1.c2,x.1.2.2.1.c3,x.1.2.2.2.c0,x.1.2.2.2.c1,x.1.2.2.2.c2,x.1.2.2.2.c3,x.1.2.2.2.c4]]
abbrev KeptC (n₀:Nat):=Kept n₀ (fun _=>False)
theorem keptC_of {n₀:Nat} {A B:World} (h:Below A.heap.size A B) (hn:n₀≤A.heap.size):KeptC n₀ A B :=
 ⟨h.mono hn,fun k _ _ hk _=>(h.block k (Array.getElem?_eq_some_iff.1 hk).1).trans hk⟩
theorem claim_row {P:Nat→Prop} {w:World} {base n cap:Nat} {e:TypeId} {a:Option Addr} {xs:List Value} {ps:List (Kd × Tr)} (hown:w.ownsRow base e 9 (.slice a n cap) n xs) (hcl:CRepL P w ps xs) (hl:ps.length=n) (i:Nat) (hi:i < ps.length) :
 ∃ g o c d,a=some ⟨g,o,none⟩∧base≤g∧(∃ ob:Obj,w.heap[g]? = some ob∧ob.isCells=true)∧C4.at w g (o+i * 9) c∧C5.at w g (o+i * 9+4) d∧NRep P w ps[i].1 c∧Rep P w ps[i].2 d:=by
 have hown':=hown
 obtain ⟨h1,h2⟩:=hown
 rcases h2 with ⟨-,h0⟩ | ⟨g,cap',cur,hv,hb,hg,-⟩
 · omega
 · cases hv
   obtain ⟨c,d,q1,q2,q3,q4⟩:=hcl.get (g:=g) (o:=0) (fun j u hj=>by
    have:=hown'.cells (g:=g) rfl j u hj
    rwa [Addr.add_lit] at this) i hi
   exact ⟨g,0,c,d,rfl,hb,⟨_,hg,rfl⟩,q1,q2,q3,q4⟩
def WalkC (l n₀:Nat) (w0:World) (J Jx:List (CX n₀ w0)→World→Prop) (sz:Nat):Prop :=
 ∀ (T:Tr),tsz T < sz→∀ (n:Nat) (K:Kd) (c:C4) (d:C5) (lv:Int) (pre:List (CX n₀ w0)) (W:World),NRep (fun b=>b < n₀) w0 K c→Rep (fun b=>b < n₀) w0 T d→okD K=true→okH T=true→Below n₀ w0 W→J pre W→0≤lv→lv+tsz T≤1000000 →
   CallsIn Fence.wide n Tryz.prog 58 #[.agg #[c.c0,c.c1,c.c2,c.c3,d.c0,d.c1,d.c2,d.c3,d.c4],.int .i64 lv,.func (.yield l) #[] #[]] W fun e W' =>
    (e=.returned (.bool true)∧∃ q:List (CX n₀ w0),q.map cKey=cord T K∧J (pre++q) W'∧KeptC n₀ W W')∨(e=.returned (.bool false)∧∃ q:List (CX n₀ w0),q.map cKey <+: cord T K∧Jx (pre++q) W')
theorem walkC_step (l n₀:Nat) (w0:World) (hn₀:n₀≤w0.heap.size)
 (J Jx:List (CX n₀ w0)→World→Prop) (hJ:∀ s A B,J s A→A.grownBy B none→J s B) (hHy:∀ pre (x:CX n₀ w0) V,J (pre++[x]) V→clB (cKey x)=true)
 (hY:∀ m pre (x:CX n₀ w0) W,J pre W→YieldAt Fence.wide m Tryz.prog l (cEnc x) W fun e W' =>
   (e=.returned (.bool true)∧J (pre++[x]) W'∧KeptC n₀ W W')∨(e=.returned (.bool false)∧Jx (pre++[x]) W')) (sz:Nat)
 (IH:WalkC l n₀ w0 J Jx sz):WalkC l n₀ w0 J Jx (sz+1):=by
 intro T hT n K c d lv pre W hrep hrep2 hoK hoT hb hJp h0 hlv
 obtain ⟨x,hx⟩:∃ x:CX n₀ w0,x=⟨(lv,(K,T),c,d),hrep,hrep2,hoK,hoT⟩:=⟨_,rfl⟩
 have hxk:cKey x=(K,T):=by rw [hx];rfl
 have hxe:cEnc x=#[.int .i64 lv,.agg #[c.c0,c.c1,c.c2,c.c3,d.c0,d.c1,d.c2,d.c3,d.c4]]:=by rw [hx];rfl
 have hsz:=hb.size
 have hnW:n₀≤W.heap.size:=by omega
 have hshK:shB K=true∧okDs K.kids=true:=by rw [okD_eq,Bool.and_eq_true] at hoK;exact hoK
 have halT:aloneB T=true∧okHs T.kids=true:=by rw [okH_eq,Bool.and_eq_true] at hoT;exact hoT
 have hl:T.kids.length≤1000000:=by
  have:∀ ks:List Tr,ks.length≤lsz ks:=fun ks=>by
   induction ks with
   | nil=>simp
   | cons a r ih => rw [lsz, List.length_cons]; have : 1 ≤ tsz a := by obtain ⟨s, n, tx, ns, ks⟩ := a; rw [tsz]; omega
                    omega
  have h1:=this T.kids
  have h2:lsz T.kids≤tsz T:=by obtain ⟨s,n,tx,ns,ks⟩:=T;rw [tsz];exact Nat.le_add_left _ _
  omega
 -- the kids,asked for where the claim holds
 have hkids:∀ V,J (pre++[x]) V→KeptC n₀ W V→Calls Tryz.prog 155 #[.agg #[c.c0,c.c1,c.c2,c.c3,d.c0,d.c1,d.c2,d.c3,d.c4]] V fun e V'=>∃ a cap,e=.returned (.slice a T.kids.length cap)∧Hid (J (pre++[x]) V')∧Hid (KeptC n₀ W V')∧Hid (∀ i,(hi:i < T.kids.length)→∃ g o c d,a=some ⟨g,o,none⟩∧(∃ ob:Obj,V'.heap[g]? = some ob∧ob.isCells=true)∧C4.at V' g (o+i * 9) c∧C5.at V' g (o+i * 9+4) d∧NRep (fun b=>b < n₀) w0 (kidOf K i) c∧Rep (fun b=>b < n₀) w0 T.kids[i] d∧okD (kidOf K i)=true∧okH T.kids[i]=true):=fun V hV hKV=>by
  have hcl:=hHy _ _ _ hV
  rw [hxk] at hcl
  unfold clB at hcl
  rw [Bool.and_eq_true,decide_eq_true_eq,decide_eq_true_eq] at hcl
  have hbV:=hb.trans hKV.below
  have hnV:n₀≤V.heap.size:=Nat.le_trans hnW hKV.below.size
  refine (claimKids_any K T (fun b=>b < n₀) c d V (fun b hb'=>by omega) (NRep.carry (fun b hb'=>hbV.block b hb') (fun _ h=>h) _ _ hrep) (Rep.carry (fun b hb'=>hbV.block b hb') (fun _ h=>h) _ _ hrep2) hshK.1 halT.1 hcl.1 hcl.2 hl).mono ?_
  rintro e V' ⟨a,cap,xs,rfl,hown,hcr,hb'⟩
  have hKV':KeptC n₀ V V':=keptC_of hb' hnV
  refine ⟨a,cap,rfl,hJ _ _ _ hV ⟨hb'.os,hb'.tape,hb'.output,hb'.size,fun i hi _=>hb'.block i hi⟩,hKV.trans hKV',fun i hi=>?_⟩
  have hlen:(clm K T.kids 0).length=T.kids.length:=clm_len _ _ _
  obtain ⟨g,o,c',d',e1,-,e3,e4,e5,e6,e7⟩:=claim_row hown hcr hlen i (by omega)
  have hget:(clm K T.kids 0)[i]'(by omega)=(kidOf K i,T.kids[i]):=by
   have h1:=clm_take K T.kids i hi
   have h2:(clm K (T.kids.take (i+1)) 0)[i]? = some (kidOf K i,T.kids[i]):=by
    rw [h1,List.getElem?_append_right (by rw [clm_len];simp;omega),clm_len]
    simp [Nat.min_eq_left (Nat.le_of_lt hi)]
   have h3:∀ (l:List Tr) (j m:Nat),(clm K (l.take (m+1)) j)[m]? = (clm K l j)[m]? := fun l=>by
    induction l with
    | nil=>intro j m;simp
    | cons a r ih =>
      intro j m
      cases m with
      | zero=>simp [clm]
      | succ m=>simp only [List.take_succ_cons,clm,List.getElem?_cons_succ];exact ih (j+1) m
   rw [h3] at h2
   exact (List.getElem?_eq_some_iff.1 h2).2
  rw [hget] at e6 e7
  have hback:∀ b,b < n₀→w0.heap[b]? = V'.heap[b]? := fun b hb2=>((hbV.trans hKV'.below).block b hb2).symm
  have hka:=kid_at hshK.1 halT.1 hcl.1 hcl.2 hi
  have hok:okD (kidOf K i)=true:=by
   by_cases h5:K.sort=5
   · rw [kidOf_form h5 (hka.2 h5)];exact okDs_get hshK.2 i (hka.2 h5)
   · rw [kidOf_else h5 i hka.1];exact okDs_get hshK.2 0 hka.1
  exact ⟨g,o,c',d',e1,e3,e4,e5,NRep.carry hback (fun _ h=>h) _ _ e6,Rep.carry hback (fun _ h=>h) _ _ e7,hok,okHs_get halT.2 i hi⟩
 have hrepN:=hrep
 have hrepT:=hrep2
 obtain ⟨c0,c1,c2,c3⟩:=c
 obtain ⟨d0,d1,d2,d3,d4⟩:=d
 obtain ⟨e0,-,⟨a3,cap3,e1,-,-⟩,⟨B,e2,-,-⟩,a,cap,e3,-,-⟩:=hrep.open
 obtain ⟨g0,g1,g2,-,-,-,⟨a5,cap5,g3,-,-⟩,a6,cap6,g4,-,-⟩:=hrep2.open
 simp only at e0 e1 e2 e3 g0 g1 g2 g3 g4
 subst e0 e1 e2 e3 g0 g1 g2 g3 g4
 simp only at hkids hxe
 have hdd:∀ k:Nat,(Fence.wide.depth.isSome=true→1≤k):=fun k h=>by cases h
 have hg0:=World.grownBy_alloc W (.cells #[.int .i64 K.sort,.slice a3 K.names.length cap3,.map (some B),.slice a K.kids.length cap,.int .i64 T.sort,.int .i64 T.num,.string T.text,.slice a5 T.names.length cap5,.slice a6 T.kids.length cap6] 77) none
 have hJ0:=hJ pre _ _ hJp hg0
 have hK0:KeptC n₀ W (W.alloc (.cells #[.int .i64 K.sort,.slice a3 K.names.length cap3,.map (some B),.slice a K.kids.length cap,.int .i64 T.sort,.int .i64 T.num,.string T.text,.slice a5 T.names.length cap5,.slice a6 T.kids.length cap6] 77)):=Kept.grown hg0 (by omega)
 have hr0:=row9_alloc W ⟨.int .i64 K.sort,.slice a3 K.names.length cap3,.map (some B),.slice a K.kids.length cap⟩ ⟨.int .i64 T.sort,.int .i64 T.num,.string T.text,.slice a5 T.names.length cap5,.slice a6 T.kids.length cap6⟩ 77
 simp only at hr0
 obtain ⟨fn,tmps,assign,body,hy,hR⟩:=YieldAt.mono (R':=fun e W1=>(e=.returned (.bool true)∧Hid (J (pre++[x]) W1)∧Hid (KeptC n₀ W W1)∧W1.cell? ⟨W.heap.size,0,none⟩=some (.int .i64 K.sort)∧W1.cell? ⟨W.heap.size,1,none⟩=some (.slice a3 K.names.length cap3)∧W1.cell? ⟨W.heap.size,2,none⟩=some (.map (some B))∧W1.cell? ⟨W.heap.size,3,none⟩=some (.slice a K.kids.length cap)∧W1.cell? ⟨W.heap.size,4,none⟩=some (.int .i64 T.sort)∧W1.cell? ⟨W.heap.size,5,none⟩=some (.int .i64 T.num)∧W1.cell? ⟨W.heap.size,6,none⟩=some (.string T.text)∧W1.cell? ⟨W.heap.size,7,none⟩=some (.slice a5 T.names.length cap5)∧W1.cell? ⟨W.heap.size,8,none⟩=some (.slice a6 T.kids.length cap6))∨(e=.returned (.bool false)∧Hid (Jx (pre++[x]) W1)))
  (hY (n - 1) pre x _ hJ0) (fun e W1 h=>h.elim (fun ⟨he,hj,hb1⟩=>by
    have q1:=hr0.of_block ((hb1.same W.heap.size _ (fun h=>h) (World.alloc_heap_new W _) rfl).trans (World.alloc_heap_new W _).symm)
    exact .inl ⟨he,hj,hK0.trans hb1,q1.cell (i:=0) (by omega),q1.cell (i:=1) (by omega),q1.cell (i:=2) (by omega),q1.cell (i:=3) (by omega),q1.cell (i:=4) (by omega),q1.cell (i:=5) (by omega),q1.cell (i:=6) (by omega),q1.cell (i:=7) (by omega),q1.cell (i:=8) (by omega)⟩) (fun ⟨he,hj⟩=>.inr ⟨he,hj⟩))
 rw [hxe] at hy
 have HI:=xH IH;have HB:=xH hb;have HJ:=xH hJ;have HX:=xH hxk;have HKD:=xH hkids
 clear hx hxe hg0 hJ0 hK0 IH hb hJ hxk hrep hrep2 hrepN hrepT hY hJp hr0 hsz hkids hHy hshK halT hoK hoT
 have hm:∀ w,(method 349 77 (.agg #[.int .i64 K.sort,.slice a3 K.names.length cap3,.map (some B),.slice a K.kids.length cap,.int .i64 T.sort,.int .i64 T.num,.string T.text,.slice a5 T.names.length cap5,.slice a6 T.kids.length cap6]) "loop.example/teagle/impl.kids").run Tryz.prog w=.ok (155,.agg #[.int .i64 K.sort,.slice a3 K.names.length cap3,.map (some B),.slice a K.kids.length cap,.int .i64 T.sort,.int .i64 T.num,.string T.text,.slice a5 T.names.length cap5,.slice a6 T.kids.length cap6]) w:=fun _=>by kernel_rfl
 refine callsIn_of_wp Tryz.func58 rfl trivial ?_ rfl
 simp only [Tryz.ntmps58,List.size_toArray,List.length_cons,List.length_nil,Nat.reduceAdd,Nat.reduceSub,Array.replicate_succ,Array.replicate_zero,List.push_toArray,List.append_toArray,List.nil_append,List.cons_append]
 gi_wp2_with (first
  | ((try refine ⟨hdd _,?_⟩);refine hR.mono ?_;clear hR hy;rintro e W1 (⟨rfl,HJ1,HK1,k0,k1,k2,k3,k4,k5,k6,k7,k8⟩ | ⟨rfl,HX1⟩))
  | ((try refine ⟨trivial,?_⟩);(try refine ⟨hdd _,?_⟩);gi_at_call 155;refine (callsIn_wide.2 (xU HKD _ (xU HJ1) (xU HK1))).mono ?_;rintro e w' ⟨ar,capr,rfl,HJL,HKL,HKS⟩))
 · clear hm k0 k1 k2 k3 k4 k5 k6 k7 k8 HKD HJ1 HK1
   generalize hks:T.kids=ks at *
   have HKE:=xH hks;clear hks
   gi_loopw [18] (fun i wr=>∃ (k:Nat) (q:List (CX n₀ w0)),k≤ks.length∧i=.int .i64 k∧Hid (q.map cKey=(K,T)::cordK (ks.take k) K 0)∧Hid (J (pre++q) wr)∧Hid (KeptC n₀ W wr)∧Hid (KeptC n₀ w' wr)) (fun i _=>ks.length - (intOf i).toNat)
   case atStart=>exact ⟨0,[x],Nat.zero_le _,rfl,by simp [Hid,cordK,xU HX],xU HJL,xU HKL,Kept.refl _ _ _⟩
   case round =>
    obtain ⟨k,q,hk',rfl,HQ,HJQ,HKQ,HKR⟩:=hrel
    by_cases hlt:k < ks.length
    · obtain ⟨b,o,c,d,rfl,⟨ob,hob,hobc⟩,hat4,hat5,hrepk,hrept,hokk,hokt⟩:=xU HKS k hlt
      have hbw:=(xU HB).trans HKQ.out.below
      have hblk:wr.heap[b]? = w'.heap[b]? := (HKR.out.same b ob (fun h=>h) hob hobc).trans hob.symm
      have hat4':=hat4.carry hblk
      have hat5':=hat5.carry hblk
      have hcall0 := fun m pr V => unhide HI ks[k] (by have : ks[k] ∈ T.kids := by rw [unhide HKE]; exact List.getElem_mem hlt
                                                       have:=tsz_kid this;omega) m (kidOf K k) c d (lv+1) pr V hrepk hrept hokk hokt
      obtain ⟨c0,c1,c2,c3⟩:=c
      obtain ⟨d0,d1,d2,d3,d4⟩:=d
      obtain ⟨y0,-,⟨b3,cpa,y1,-,-⟩,⟨B2,y2,-,-⟩,b4,cpb,y3,-,-⟩:=hrepk.open
      obtain ⟨z0,z1,z2,-,-,-,⟨b5,cpc,z3,-,-⟩,b6,cpd,z4,-,-⟩:=hrept.open
      simp only at y0 y1 y2 y3 z0 z1 z2 z3 z4
      subst y0 y1 y2 y3 z0 z1 z2 z3 z4
      obtain ⟨f0,f1,f2,f3⟩:=hat4'
      obtain ⟨f4,f5,f6,f7,f8⟩:=hat5'
      simp only at f0 f1 f2 f3 f4 f5 f6 f7 f8 hcall0
      replace f5:wr.cell? ⟨b,o+k * 9+5,none⟩=_:=f5
      replace f6:wr.cell? ⟨b,o+k * 9+6,none⟩=_:=f6
      replace f7:wr.cell? ⟨b,o+k * 9+7,none⟩=_:=f7
      replace f8:wr.cell? ⟨b,o+k * 9+8,none⟩=_:=f8
      have hmem:ks[k]∈T.kids:=by rw [xU HKE];exact List.getElem_mem hlt
      have hsm':tsz ks[k] < tsz T:=tsz_kid hmem
      have hnext:q.map cKey++cord ks[k] (kidOf K k)=(K,T)::cordK (ks.take (k+1)) K 0:=by rw [HQ.out,cordK_take K ks k 0 hlt];simp
      have hpre:q.map cKey++cord ks[k] (kidOf K k) <+: cord T K:=by
       rw [hnext,cord_eq,xU HKE]
       exact (List.prefix_cons_inj _).2 (cordK_take_pre K ks (k+1) 0)
      have hsWr:n₀≤wr.heap.size:=Nat.le_trans hnW HKQ.out.below.size
      have hcall:=fun m (ob2:Obj)=>hcall0 m (pre++q) (wr.alloc ob2) (hbw.trans ((Below.refl n₀ wr).alloc hsWr ob2)) (xU HJ _ _ _ HJQ.out (World.grownBy_alloc wr ob2 none)) (by omega) (by omega)
      have hKN:=fun (ob2:Obj)=>HKQ.out.trans (Kept.grown (S:=fun _=>False) (World.grownBy_alloc wr ob2 none) hsWr)
      have hKN2:=fun (ob2:Obj)=>HKR.out.trans (Kept.grown (S:=fun _=>False) (World.grownBy_alloc wr ob2 none) hsWr)
      have HCALL:=xH hcall;have HKN:=xH hKN;have HKN2:=xH hKN2
      have HNX:=xH hnext;have HPR:=xH hpre
      clear hcall hcall0 hKN hKN2 hnext hpre hmem hrepk hrept hat4 hat5 hbw hob hobc hblk hokk hokt
      gi_wp2_with ((try refine ⟨trivial,?_⟩);(try refine ⟨hdd _,?_⟩);gi_at_call 58;refine (xU HCALL _ _).mono ?_;clear HCALL;rintro e W2 (⟨rfl,q2,hq2,hJ2,hk2⟩ | ⟨rfl,q2,hq2,hx2⟩))
      · go_roundw
        case rel =>
         refine ⟨k+1,q++q2,by omega,by go_num,?_,?_,(xU HKN _).trans hk2,(xU HKN2 _).trans hk2⟩
         · show _=_
           rw [List.map_append,hq2];exact xU HNX
         · show J _ _
           rw [← List.append_assoc];exact hJ2
        case measure=>simp [intOf];omega
      · go_ret
        refine .inr ⟨rfl,q++q2,?_,by rw [← List.append_assoc];exact hx2⟩
        rw [List.map_append]
        exact ((List.prefix_append_right_inj _).2 hq2).trans (xU HPR)
    · gi_wp2
      go_ret
      obtain rfl:k=ks.length:=by omega
      refine .inl ⟨rfl,q,?_,HJQ.out,HKQ.out⟩
      rw [HQ.out,List.take_length,cord_eq,xU HKE]
 · go_ret
   exact .inr ⟨rfl,[x],by rw [cord_eq];simp [xU HX],xU HX1⟩
theorem walkC_all (l n₀:Nat) (w0:World) (hn₀:n₀≤w0.heap.size)
 (J Jx:List (CX n₀ w0)→World→Prop) (hJ:∀ s A B,J s A→A.grownBy B none→J s B) (hHy:∀ pre (x:CX n₀ w0) V,J (pre++[x]) V→clB (cKey x)=true)
 (hY:∀ m pre (x:CX n₀ w0) W,J pre W→YieldAt Fence.wide m Tryz.prog l (cEnc x) W fun e W' =>
   (e=.returned (.bool true)∧J (pre++[x]) W'∧KeptC n₀ W W')∨(e=.returned (.bool false)∧Jx (pre++[x]) W')):∀ sz,WalkC l n₀ w0 J Jx sz
 | 0=>fun T h=>by omega
 | sz+1=>walkC_step l n₀ w0 hn₀ J Jx hJ hHy hY sz (walkC_all l n₀ w0 hn₀ J Jx hJ hHy hY sz)
theorem walkC_in (n:Nat) (c0:Int) (a1:Option Addr) (n1 p1 B:Nat) (a2:Option Addr) (n2 p2:Nat) (d0 d1:Int) (d2:ByteArray) (a3:Option Addr) (n3 p3:Nat) (a4:Option Addr) (n4 p4:Nat) (w:World) :
 CallsIn Fence.wide n Tryz.prog 31 #[.agg #[.int .i64 c0,.slice a1 n1 p1,.map (some B),.slice a2 n2 p2,.int .i64 d0,.int .i64 d1,.string d2,.slice a3 n3 p3,.slice a4 n4 p4]] w fun e w'=>e=.returned (.func (.func 57) #[] #[.pointer (some ⟨w.heap.size,0,none⟩)])∧w'=w.alloc (.cells #[.int .i64 c0,.slice a1 n1 p1,.map (some B),.slice a2 n2 p2,.int .i64 d0,.int .i64 d1,.string d2,.slice a3 n3 p3,.slice a4 n4 p4] 77):=by
 refine callsIn_of_wp Tryz.func31 rfl trivial ?_ rfl
 simp only [Tryz.ntmps31,List.size_toArray,List.length_cons,List.length_nil,Nat.reduceAdd,Nat.reduceSub,Array.replicate_succ,Array.replicate_zero,List.push_toArray,List.append_toArray,List.nil_append,List.cons_append]
 gi_wp2
 go_ret
 exact ⟨rfl,rfl⟩
theorem walkC1_in (n:Nat) (l Bt n₀:Nat) (w0:World) (hn₀:n₀≤w0.heap.size)
 (T:Tr) (K:Kd) (c:C4) (d:C5) (hrep:NRep (fun b=>b < n₀) w0 K c) (hrep2:Rep (fun b=>b < n₀) w0 T d) (hoK:okD K=true) (hoT:okH T=true) (hlv:tsz T≤999990)
 (J Jx:List (CX n₀ w0)→World→Prop) (hJ:∀ s A B,J s A→A.grownBy B none→J s B) (hHy:∀ pre (x:CX n₀ w0) V,J (pre++[x]) V→clB (cKey x)=true)
 (hY:∀ pre (x:CX n₀ w0) W,J pre W→YieldAt Fence.wide (n - 1) Tryz.prog l (cEnc x) W fun e W' =>
   (e=.returned (.bool true)∧J (pre++[x]) W'∧KeptC n₀ W W')∨(e=.returned (.bool false)∧Jx (pre++[x]) W'))
 (W:World) (hB4:C4.at W Bt 0 c) (hB5:C5.at W Bt 4 d) (hb:Below n₀ w0 W) (h0:J [] W) :
 CallsIn Fence.wide n Tryz.prog 57 #[.func (.yield l) #[] #[],.pointer (some ⟨Bt,0,none⟩)] W fun e W'=>(∃ v,e=.returned v) ∧
  ((∃ ys:List (CX n₀ w0),ys.map cKey=cord T K∧J ys W')∨(∃ pre:List (CX n₀ w0),pre.map cKey <+: cord T K∧Jx pre W')):=by
 have hdd:∀ k:Nat,(Fence.wide.depth.isSome=true→1≤k):=fun k h=>by cases h
 have hp:=walkC_all l n₀ w0 hn₀ J Jx hJ hHy (fun m pre x W hj=>yield_any rfl m (hY pre x W hj)) (tsz T+1) T (by omega) (n - 1) K c d 1 [] W hrep hrep2 hoK hoT hb h0 (by omega) (by omega)
 obtain ⟨c0,c1,c2,c3⟩:=c
 obtain ⟨d0,d1,d2,d3,d4⟩:=d
 obtain ⟨e0,e1,e2,e3⟩:=hB4
 obtain ⟨f0,f1,f2,f3,f4⟩:=hB5
 simp only [Nat.reduceAdd,Nat.zero_add] at e0 e1 e2 e3 f0 f1 f2 f3 f4 hp
 obtain ⟨y0,-,⟨b3,cpa,y1,-,-⟩,⟨B2,y2,-,-⟩,b4,cpb,y3,-,-⟩:=hrep.open
 obtain ⟨z0,z1,z2,-,-,-,⟨b5,cpc,z3,-,-⟩,b6,cpd,z4,-,-⟩:=hrep2.open
 simp only at y0 y1 y2 y3 z0 z1 z2 z3 z4
 subst y0 y1 y2 y3 z0 z1 z2 z3 z4
 have HP:=xH hp
 clear hp hrep hrep2 hY hJ hHy hb
 refine callsIn_of_wp Tryz.func57 rfl trivial ?_ rfl
 simp only [Tryz.ntmps57,List.size_toArray,List.length_cons,List.length_nil,Nat.reduceAdd,Nat.reduceSub,Array.replicate_succ,Array.replicate_zero,List.push_toArray,List.append_toArray,List.nil_append,List.cons_append]
 gi_wp2_with ((try refine ⟨trivial,?_⟩);(try refine ⟨hdd _,?_⟩);gi_at_call 58;refine (xU HP).mono ?_;clear HP;rintro e W1 (⟨rfl,q,hq,hJ1,_⟩ | ⟨rfl,q,hq,hx⟩))
 · go_end0
   exact ⟨⟨_,rfl⟩,.inl ⟨q,hq,by simpa using hJ1⟩⟩
 · go_end0
   exact ⟨⟨_,rfl⟩,.inr ⟨q,hq,by simpa using hx⟩⟩
end Go.Proofs.YteefjeddboefcaaGreatDoor

namespace Go.Proofs.YteefjeddboefcaaGreatDoor
open Go Go.RowKit
abbrev fltE:Ending:=.panicked [{ v:=.iface 169 (.agg #[]),recovered:=false }]
theorem treeWant_yes (w:World):Calls Tryz.prog 87 #[.bool true] w fun e w'=>e=.returned (.tuple #[])∧w'=w:=by
 go_enter Tryz.func87,Tryz.ntmps87
 go_wp2_with fail
 go_end0
 exact ⟨rfl,rfl⟩
theorem treeWant_no (w:World):Calls Tryz.prog 87 #[.bool false] w fun e w'=>e=fltE∧w'=w:=by
 go_enter Tryz.func87,Tryz.ntmps87
 go_wp2_with fail
 exact ⟨rfl,rfl,rfl⟩
end Go.Proofs.YteefjeddboefcaaGreatDoor

namespace Go.Proofs.YteefjeddboefcaaGreatDoor
open Go Go.RowKit
theorem try_panicking (p:Addr) (x:Bool) (u:TypeId) (pv:Value) (older:List PanicEntry) (w:World) (hc:w.cell? p=some (.bool x)) (hz:w.frozen? p=false) :
 CallsD Tryz.prog 85 #[.pointer (some p)] (.panicking ({ v:=.iface u pv,recovered:=false }::older)) w fun e u' w' =>
  e=.returned (.tuple #[])∧u'=.panicking ({ v:=.iface u pv,recovered:=true }::older)∧w'=w.setCell p (.bool false):=by
 refine callsD_of_wpS Tryz.func85 rfl fun c₀ cs hu=>?_
 apply wpS_region
 simp [wpOpsS,go_sem,recoverD,hu,Tryz.ntmps85,hc,hz,bodyPostS,results,Tryz.results85]
theorem try_returning (p:Addr) (x:Bool) (w:World) (hc:w.cell? p=some (.bool x)) (hz:w.frozen? p=false) :
 CallsD Tryz.prog 85 #[.pointer (some p)] .returning w fun e u' w'=>e=.returned (.tuple #[])∧u'=.returning∧w'=w.setCell p (.bool true):=by
 refine callsD_of_wpS Tryz.func85 rfl fun c₀ cs hu=>?_
 apply wpS_region
 simp [wpOpsS,go_sem,recoverD,hu,Tryz.ntmps85,hc,hz,bodyPostS,results,Tryz.results85]
 cases c₀
 simp_all
theorem cell_new1 {w w':World} {x:Value} {t:TypeId} (h:w'.heap[w.heap.size]? = (w.alloc (.cells #[x] t)).heap[w.heap.size]?):w'.cell? ⟨w.heap.size,0,none⟩=some x∧w'.frozen? ⟨w.heap.size,0,none⟩=false:=by
 rw [World.cell?_of_block (a:=⟨w.heap.size,0,none⟩) h,World.frozen?_of_block (a:=⟨w.heap.size,0,none⟩) h]
 exact ⟨by simp [go_sem],by simp [go_sem]⟩
theorem treeTry_yes (f:FuncId) (caps:Array Value) (w:World) (R:World→Prop) (hent:∀ W,Sem.run Tryz.prog (callFunc f caps) W=.ok (.enter f caps) W)
 (hwork:∀ o,Calls Tryz.prog f caps (w.alloc o) fun e w'=>e=.returned (.tuple #[])∧R w'∧w'.heap[w.heap.size]? = (w.alloc o).heap[w.heap.size]?) :
 Calls Tryz.prog 61 #[.func (.func f) #[] caps] w fun e w'=>e=.returned (.bool true)∧∃ w1,R w1∧But w.heap.size w1 w':=by
 have hmf:∀ (fn:Fn) (first cap:Array Value) (w:World),(Instr.makeFunc fn first cap).run Tryz.prog w=.ok (.func fn first cap) w:=fun _ _ _ _=>rfl
 have HW:=xH hwork;clear hwork
 go_enter_defers Tryz.func61,Tryz.ntmps61
 go_wp2_with fail
 refine (xU HW _).mono ?_
 rintro e w1 ⟨rfl,hr,hbk⟩
 obtain ⟨hc,hz⟩:=cell_new1 hbk
 have HR:=xH hr
 clear hr hbk
 go_wp2_with fail
 refine leaves_cons (f:=85) (args:=#[.pointer (some ⟨w.heap.size,0,none⟩)]) (by simp) (by simp [go_sem]) ?_
 refine (try_returning ⟨w.heap.size,0,none⟩ true _ ?_ ?_).mono ?_
 · simp [go_sem,hc]
 · simp [go_sem,hz]
 rintro e u' w'' ⟨rfl,rfl,rfl⟩
 simp [Leaves,settle,results,Tryz.results61,go_sem,hc]
 exact ⟨w1,xU HR,(But.set w1 0 _).trans (But.set _ 0 _)⟩
theorem treeTry_no (f:FuncId) (caps:Array Value) (w:World) (R:World→Prop) (hent:∀ W,Sem.run Tryz.prog (callFunc f caps) W=.ok (.enter f caps) W)
 (hwork:∀ o,Calls Tryz.prog f caps (w.alloc o) fun e w'=>e=fltE∧R w'∧w'.heap[w.heap.size]? = (w.alloc o).heap[w.heap.size]?) :
 Calls Tryz.prog 61 #[.func (.func f) #[] caps] w fun e w'=>e=.returned (.bool false)∧∃ w1,R w1∧But w.heap.size w1 w':=by
 have hmf:∀ (fn:Fn) (first cap:Array Value) (w:World),(Instr.makeFunc fn first cap).run Tryz.prog w=.ok (.func fn first cap) w:=fun _ _ _ _=>rfl
 have HW:=xH hwork;clear hwork
 go_enter_defers Tryz.func61,Tryz.ntmps61
 go_wp2_with fail
 refine (xU HW _).mono ?_
 rintro e w1 ⟨rfl,hr,hbk⟩
 obtain ⟨hc,hz⟩:=cell_new1 hbk
 have HR:=xH hr
 clear hr hbk
 go_wp2_with fail
 refine leaves_cons (f:=85) (args:=#[.pointer (some ⟨w.heap.size,0,none⟩)]) (by simp) (by simp [go_sem]) ?_
 refine (try_panicking ⟨w.heap.size,0,none⟩ false 169 _ [] _ hc hz).mono ?_
 rintro e u' w'' ⟨rfl,rfl,rfl⟩
 simp [Leaves,settle,results,Tryz.results61,go_sem,hc]
 exact ⟨w1,xU HR,But.set w1 0 _⟩
end Go.Proofs.YteefjeddboefcaaGreatDoor
