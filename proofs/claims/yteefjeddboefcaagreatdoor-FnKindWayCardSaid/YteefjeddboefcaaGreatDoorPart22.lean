/- A part. -/
import Derived.Test.YteefjeddboefcaaGreatDoorPart21
namespace Go.Proofs.YteefjeddboefcaaGreatDoor
open Go Go.RowKit
set_option maxRecDepth 100000
set_option maxHeartbeats 800000
theorem infoSorted:(Tryz.prog.info? 82).map (fun i=>(i.zero,i.size,i.bytes))=some (some .nilIface,1,16):=by kernel_rfl
def TreeSaid (n:Nat):Prop:=∀ (t:Tr),tsz t < n→∀ (P:Nat→Prop) (c:C5) (w:World) (B:Nat) (p l:Int),(∀ b,P b→b < w.heap.size∧b≠B)→Rep P w t c→Bnd w B p l→Tab w→1 < B→0≤p→p≤120→0≤l→l≤6 →
    Calls Tryz.prog 63 #[.pointer (some ⟨B,0,none⟩),.agg #[c.c0,c.c1,c.c2,c.c3,c.c4]] w fun e w'=>But B w w' ∧
     ((∃ q v,wlk t p l=some q∧e=.returned v∧SRep (fun b=>P b∨(w.heap.size≤b∧b < w'.heap.size)) w' t v∧Bnd w' B q l)∨(wlk t p l=none∧e=fltE))
theorem trees_any (n:Nat) (IH:TreeSaid n) (t:Tr) (hn:tsz t≤n) (P:Nat→Prop) (a:Option Addr) (cap:Nat) (w:World) (B:Nat) (p l:Int) (hP:∀ b,P b→b < w.heap.size∧b≠B)
 (hlen:t.kids.length≤9223372036854775807)
 (hc:∀ i,(hi:i < t.kids.length)→∃ b o c,a=some ⟨b,o,none⟩∧P b∧C5.at w b (o+i * 5) c∧Rep P w t.kids[i] c)
 (hB:Bnd w B p l) (hT:Tab w) (hB0:1 < B) (hp0:0≤p) (hp1:p≤120) (hl0:0≤l) (hl1:l≤6) :
 Calls Tryz.prog 105 #[.pointer (some ⟨B,0,none⟩),.slice a t.kids.length cap] w fun e w'=>But B w w' ∧
  ((∃ q v,wlkK t.kids p l=some q∧e=.returned v∧SKids (fun b=>P b∨(w.heap.size≤b∧b < w'.heap.size)) w' v t.kids∧Bnd w' B q l)∨(wlkK t.kids p l=none∧e=fltE)):=by
 have hBw:=hB.lt
 obtain ⟨i0,hi,hz0,hz1,hz2⟩:=info_parts infoSorted
 generalize hks:t.kids=ks at *
 have HK:=xH hks;clear hks
 have HC:=xH hc;clear hc
 have HP:=xH hP;clear hP
 have HI:=xH IH;clear IH
 have HT:=xH hT;clear hT
 have HB:=xH hB;clear hB
 have HIF:=xH (And.intro hi (And.intro hz0 (And.intro hz1 hz2)));clear hi hz0 hz1 hz2
 go_enter Tryz.func105,Tryz.ntmps105
 go_wp2_with fail
 go_loopw [5,10] (fun s i wr=>∃ (k:Nat) (q:Int) (a':Option Addr) (cap':Nat),k≤ks.length∧i=.int .i64 k∧s=.slice a' k cap'∧0≤q∧q≤120∧Hid (wlkK (ks.drop k) q l=wlkK ks p l)∧Hid (Got P w wr s ks k)∧Hid (Bnd wr B q l)∧Hid (But B w wr)∧(k:Int)≤q) (fun _ i _=>ks.length - (intOf i).toNat)
 case atStart=>exact ⟨0,p,none,0,Nat.zero_le _,rfl,rfl,hp0,hp1,rfl,xH (Got.start P w ks),HB,xH (But.refl B w),by simpa using hp0⟩
 case round =>
  obtain ⟨k,q,a',cap',hk,rfl,rfl,hq0,hq1,HQ,HG,HBQ,HBT,hkq⟩:=hrel
  by_cases hlt:k < ks.length
  · obtain ⟨b,o,c,rfl,hpb,hcell,hrep⟩:=xU HC k hlt
    have hsw:=HBT.out.size
    have hcell':=hcell.carry (HBT.out.at (xU HP b hpb).1 (xU HP b hpb).2)
    obtain ⟨c0,c1,c2,c3,c4⟩:=c
    obtain ⟨e0,e1,e2,e3,e4⟩:=hcell'
    simp only at e0 e1 e2 e3 e4
    have HR:=xH hrep;clear hrep hcell hpb
    have hmem:ks[k]∈t.kids:=by rw [xU HK];exact List.getElem_mem hlt
    have hsm:tsz ks[k] < n:=by have:=tsz_kid hmem;omega
    clear hmem
    have hrw:Rep P wr ks[k] ⟨c0,c1,c2,c3,c4⟩:=Rep.carry (fun b hb=>HBT.out.at (xU HP b hb).1 (xU HP b hb).2) (fun _ h=>h) _ _ (xU HR)
    have hcall:∀ o,Calls Tryz.prog 63 #[.pointer (some ⟨B,0,none⟩),.agg #[c0,c1,c2,c3,c4]] (wr.alloc o) fun e w'=>But B (wr.alloc o) w' ∧
     ((∃ q' v,wlk ks[k] q l=some q'∧e=.returned v∧SRep (fun b=>P b∨((wr.alloc o).heap.size≤b∧b < w'.heap.size)) w' ks[k] v∧Bnd w' B q' l)∨(wlk ks[k] q l=none∧e=fltE)):=fun o =>
     xU HI ks[k] hsm P ⟨c0,c1,c2,c3,c4⟩ (wr.alloc o) B q l (fun b hb=>⟨by have:=(xU HP b hb).1;simp;omega,(xU HP b hb).2⟩) (Rep.carry (fun b hb=>Below.heap_alloc _ _ _ (by have:=(xU HP b hb).1;omega)) (fun _ h=>h) _ _ hrw) (HBQ.out.alloc o) ((xU HT).but (HBT.out.trans (But.alloc B wr o)) hB0) hB0 hq0 hq1 hl0 hl1
    have HCALL:=xH hcall
    obtain ⟨g0,g1,g2,-,-,-,⟨a3,cap3,g3,-⟩,a4,cap4,g4,-⟩:=hrw.open
    simp only at g0 g1 g2 g3 g4
    subst g0 g1 g2 g3 g4
    clear hcall hrw HR
    have HST:=xH (wlkK_step hlt q l)
    go_wp2_with fail
    refine (xU HCALL _).mono ?_
    rintro e w2 ⟨hbt,⟨q',v,hwl,rfl,hsr,hbnd⟩ | ⟨hwl,rfl⟩⟩
    · have hst:=xU HST
      rw [hwl] at hst
      simp only at hst
      have hbd:=wlk_bd _ _ _ _ hq0 hq1 hwl
      have hfin:wlkK (ks.drop (k+1)) q' l=wlkK ks p l:=by rw [← HQ.out,hst]
      have HFIN:=xH hfin
      have hbt1:=(But.alloc B wr _).trans hbt
      have hg0:=HG.out
      have hg2:=hg0.kept (xU HP) hBw hsw hbt1
      obtain ⟨xs0,hown0,-⟩:=hg0
      obtain ⟨xs,hown,hx⟩:=hg2
      have hnew:SRep (fun b=>P b∨(w.heap.size≤b∧b < w2.heap.size∧some b≠(Value.slice a' k cap').ownBlock)) w2 ks[k] v:=by
       refine SRep.carry (fun _ _=>rfl) (fun b hb=>?_) _ _ hsr
       rcases hb with hb | ⟨hb1,hb2⟩
       · exact Or.inl hb
       · have hb1':wr.heap.size+1≤b:=by simpa using hb1
         exact Or.inr ⟨by omega,hb2,fun e=>by have:=(hown0.lt b e.symm).2;omega⟩
      obtain ⟨T,x,rfl⟩:=hsr.iface
      have hbt2:=HBT.out.trans hbt1
      have hs2:=hbt2.size
      have HBT2:=xH hbt2;have HX:=xH hx;have HNEW:=xH hnew;have HOWN:=xH hown;have HBN:=xH hbnd
      obtain ⟨hi,hz0,hz1,hz2⟩:=xU HIF
      clear hfin hst hwl hbt hbt1 hbt2 hown0 hx hnew hsr hbnd hown e0 e1 e2 e3 e4 HCALL HST HBQ
      have HII:=xH hi;have HZ0:=xH hz0;have HZ1:=xH hz1;have HZ2:=xH hz2
      clear hi hz0 hz1 hz2
      go_wp2_with (at_builtin;refine append_row _ rfl _ _ 179 rfl w.heap.size 82 i0 .nilIface 1 16 Tryz.underlying179 (xU HII) (xU HZ0) (xU HZ1) (xU HZ2) rfl (by decide) (.slice a' k cap') k xs rfl ((xU HOWN).alloc _) ⟨w2.heap.size,0,none⟩ 1 1 [.iface T x] rfl rfl (cell_one _ _ _) (fun u hu=>by simp at hu;subst hu;rfl) (by decide) (by unfold maxLen;omega) (by omega) (by simp;omega) ?_;intro v' w4 hown' hgrow hv')
      have hown2:=xU HOWN
      obtain ⟨g',cap'',hv''⟩:∃ g' cap'',v'=.slice (some ⟨g',0,none⟩) (k+1) cap'':=by
       rcases hown'.2 with ⟨_,h⟩ | ⟨g',cap'',_,h,_⟩
       · omega
       · exact ⟨g',cap'',h⟩
      have hb3:Below w2.heap.size w2 (w2.alloc (.cells #[.iface T x] 82)):=(Below.refl _ _).alloc (Nat.le_refl _) _
      have hgot:=Got.push (xU HP) hlt hs2 hown2 (xU HX) (xU HNEW) hb3 hown' hgrow hv'
      have hs3:=hb3.size
      have hs4:=hgrow.size
      have hbnd4:Bnd w4 B q' l:=by
       refine (xU HBN).of_block ?_
       rw [hgrow.block B (by omega) (fun e=>by have:=(hown2.lt B e.symm).1;omega),hb3.block B (by omega)]
      have hbut4:But B w w4:=by
       have h2:=xU HBT2
       refine ⟨hgrow.os.trans (hb3.os.trans h2.os),hgrow.tape.trans (hb3.tape.trans h2.tape),hgrow.output.trans (hb3.output.trans h2.output),by omega,fun i hi hne=>?_⟩
       rw [hgrow.block i (by omega) (fun e=>by have:=(hown2.lt i e.symm).1;omega),hb3.block i (by omega),h2.block i hi hne]
      clear hown2
      go_roundw
      case rel=>exact ⟨k+1,q',some ⟨g',0,none⟩,cap'',by omega,by go_num,hv'',by omega,hbd.2,HFIN,hgot,hbnd4,hbut4,by omega⟩
      case measure=>simp [intOf];omega
    · have hfin:wlkK ks p l=none:=by rw [← HQ.out,xU HST,hwl]
      have HFIN:=xH hfin
      have hbt2:=HBT.out.trans ((But.alloc B wr _).trans hbt)
      have HBT2:=xH hbt2
      clear hfin hbt hwl hbt2
      go_wp2_with fail
      exact ⟨rfl,xU HBT2,Or.inr ⟨xU HFIN,rfl⟩⟩
  · go_wp2_with fail
    go_ret
    obtain rfl:k=ks.length:=by omega
    refine ⟨HBT.out,Or.inl ⟨q,_,?_,rfl,HG.out.done,HBQ.out⟩⟩
    rw [← HQ.out,List.drop_of_length_le (Nat.le_refl _),wlkK]

theorem newFlag_yes (n:Int) (w:World) (h:0≤n∧n≤1):Calls Tryz.prog 103 #[.int .i64 n] w fun e w'=>e=.returned (.bool (n==1))∧w'=w:=by
 have h':n=0∨n=1:=by omega
 clear h
 rcases h' with rfl | rfl
 · go_enter Tryz.func103,Tryz.ntmps103
   go_wp2_with (go_at_call 87;refine (treeWant_yes _).mono ?_;rintro e w' ⟨rfl,rfl⟩)
   go_ret
   exact ⟨rfl,rfl⟩
 · go_enter Tryz.func103,Tryz.ntmps103
   go_wp2_with (go_at_call 87;refine (treeWant_yes _).mono ?_;rintro e w' ⟨rfl,rfl⟩)
   go_ret
   exact ⟨rfl,rfl⟩
theorem newFlag_no (n:Int) (w:World) (h:¬ (0≤n∧n≤1)):Calls Tryz.prog 103 #[.int .i64 n] w fun e w'=>e=fltE∧w'=w:=by
 have h0:(n==0)=false:=by simp;omega
 have h1:(n==1)=false:=by simp;omega
 clear h
 go_enter Tryz.func103,Tryz.ntmps103
 go_wp2_with (go_at_call 87;refine (treeWant_no _).mono ?_;rintro e w' ⟨rfl,rfl⟩)
 exact ⟨rfl,rfl,rfl⟩

def ofS (t:Tr) (p l:Int):Option Int:=match wlkK t.kids p l with
 | none=>none
 | some q=>if newB t=true then some q else none
theorem wlk_of (t:Tr) (p l:Int) (h:p+1≤120∧l+1≤6) (ho:ownB t=true):wlk t p l=ofS t (p+1) (l+1):=by
 rw [wlk_eq,if_pos h,if_pos ho];rfl
def OfPost (P:Nat→Prop) (t:Tr) (B:Nat) (p l:Int) (w:World) (e:Ending) (w':World):Prop :=
 But B w w'∧((∃ q v,ofS t p l=some q∧e=.returned v∧SRep (fun b=>P b∨(w.heap.size≤b∧b < w'.heap.size)) w' t v∧Bnd w' B q l)∨(ofS t p l=none∧e=fltE))
theorem own_kids {t:Tr} (h:ownB t=true) (hs:t.sort=1∨t.sort=2∨t.sort=3):t.kids=[]:=by
 unfold ownB at h
 apply List.eq_nil_of_length_eq_zero
 rcases hs with hs | hs | hs <;> · simp [hs] at h;simp [h]
theorem ofIts_1 (t:Tr) (P:Nat→Prop) (c:C5) (w:World) (B:Nat) (p l:Int) (hrep:Rep P w t c) (hB:Bnd w B p l) (ho:ownB t=true) (hs:t.sort=1) :
 Calls Tryz.prog 89 #[.pointer (some ⟨B,0,none⟩),.agg #[c.c0,c.c1,c.c2,c.c3,c.c4]] w (OfPost P t B p l w):=by
 have hk:=own_kids ho (Or.inl hs)
 have hof:ofS t p l=if newB t=true then some p else none:=by unfold ofS;rw [hk,wlkK]
 have hnb:newB t=decide (-999999999≤t.num∧t.num≤999999999):=by unfold newB;rw [if_pos hs]
 obtain ⟨c0,c1,c2,c3,c4⟩:=c
 obtain ⟨e0,e1,e2,-,-,htx,⟨a3,cap3,e3,hl3,-⟩,a,cap,e4,hlen,-⟩:=hrep.open
 simp only at e0 e1 e2 e3 e4
 subst e0 e1 e2 e3 e4
 have HOF:=xH hof;have HNB:=xH hnb;have HB:=xH hB
 clear hrep hk hof hnb hB ho
 by_cases hr:-999999999≤t.num∧t.num≤999999999
 · have HR:=xH hr
   clear hr
   go_enter Tryz.func89,Tryz.ntmps89
   go_wp2_with (go_at_call 101;refine (newNum_yes _ _ (xU HR)).mono ?_;rintro e w' ⟨rfl,rfl⟩)
   go_ret
   refine ⟨But.alloc B w _,Or.inl ⟨p,_,?_,rfl,srep1 hs,(xU HB).alloc _⟩⟩
   rw [xU HOF,if_pos (by rw [xU HNB];simpa using xU HR)]
 · have HR:=xH hr
   clear hr
   go_enter Tryz.func89,Tryz.ntmps89
   go_wp2_with (go_at_call 101;refine (newNum_no _ _ (xU HR)).mono ?_;rintro e w' ⟨rfl,rfl⟩)
   refine ⟨rfl,But.alloc B w _,Or.inr ⟨?_,rfl⟩⟩
   rw [xU HOF,if_neg (by rw [xU HNB];simpa using xU HR)]
theorem ofIts_2 (t:Tr) (P:Nat→Prop) (c:C5) (w:World) (B:Nat) (p l:Int) (hrep:Rep P w t c) (hB:Bnd w B p l) (ho:ownB t=true) (hs:t.sort=2) :
 Calls Tryz.prog 89 #[.pointer (some ⟨B,0,none⟩),.agg #[c.c0,c.c1,c.c2,c.c3,c.c4]] w (OfPost P t B p l w):=by
 have hk:=own_kids ho (Or.inr (Or.inl hs))
 have hof:ofS t p l=if newB t=true then some p else none:=by unfold ofS;rw [hk,wlkK]
 have hnb:newB t=textOkB t.text:=by unfold newB;rw [if_neg (by omega),if_pos hs]
 obtain ⟨c0,c1,c2,c3,c4⟩:=c
 obtain ⟨e0,e1,e2,-,-,htx,⟨a3,cap3,e3,hl3,-⟩,a,cap,e4,hlen,-⟩:=hrep.open
 simp only at e0 e1 e2 e3 e4
 subst e0 e1 e2 e3 e4
 have HOF:=xH hof;have HNB:=xH hnb;have HB:=xH hB
 clear hrep hk hof hnb hB ho
 go_enter Tryz.func89,Tryz.ntmps89
 go_wp2_with fail
 refine (newText_any t.text _ htx).mono ?_
 rintro e w' ⟨⟨hok,rfl⟩ | ⟨hok,rfl⟩,rfl⟩
 · have HOK:=xH hok;clear hok
   go_wp2_with fail
   go_ret
   refine ⟨But.alloc B w _,Or.inl ⟨p,_,?_,rfl,srep2 hs,(xU HB).alloc _⟩⟩
   rw [xU HOF,if_pos (by rw [xU HNB];exact xU HOK)]
 · have HOK:=xH hok;clear hok
   go_wp2_with fail
   refine ⟨rfl,But.alloc B w _,Or.inr ⟨?_,rfl⟩⟩
   rw [xU HOF,if_neg (by rw [xU HNB,xU HOK];simp)]
theorem ofIts_3 (t:Tr) (P:Nat→Prop) (c:C5) (w:World) (B:Nat) (p l:Int) (hrep:Rep P w t c) (hB:Bnd w B p l) (ho:ownB t=true) (hs:t.sort=3) :
 Calls Tryz.prog 89 #[.pointer (some ⟨B,0,none⟩),.agg #[c.c0,c.c1,c.c2,c.c3,c.c4]] w (OfPost P t B p l w):=by
 have hk:=own_kids ho (Or.inr (Or.inr hs))
 have hof:ofS t p l=if newB t=true then some p else none:=by unfold ofS;rw [hk,wlkK]
 have hnb:newB t=decide (0≤t.num∧t.num≤1):=by unfold newB;rw [if_neg (by omega),if_neg (by omega),if_pos hs]
 obtain ⟨c0,c1,c2,c3,c4⟩:=c
 obtain ⟨e0,e1,e2,-,-,htx,⟨a3,cap3,e3,hl3,-⟩,a,cap,e4,hlen,-⟩:=hrep.open
 simp only at e0 e1 e2 e3 e4
 subst e0 e1 e2 e3 e4
 have HOF:=xH hof;have HNB:=xH hnb;have HB:=xH hB
 clear hrep hk hof hnb hB ho
 by_cases hr:0≤t.num∧t.num≤1
 · have HR:=xH hr
   clear hr
   go_enter Tryz.func89,Tryz.ntmps89
   go_wp2_with (go_at_call 103;refine (newFlag_yes _ _ (xU HR)).mono ?_;rintro e w' ⟨rfl,rfl⟩)
   go_ret
   refine ⟨But.alloc B w _,Or.inl ⟨p,_,?_,rfl,srep3 hs,(xU HB).alloc _⟩⟩
   rw [xU HOF,if_pos (by rw [xU HNB];simpa using xU HR)]
 · have HR:=xH hr
   clear hr
   go_enter Tryz.func89,Tryz.ntmps89
   go_wp2_with (go_at_call 103;refine (newFlag_no _ _ (xU HR)).mono ?_;rintro e w' ⟨rfl,rfl⟩)
   refine ⟨rfl,But.alloc B w _,Or.inr ⟨?_,rfl⟩⟩
   rw [xU HOF,if_neg (by rw [xU HNB];simpa using xU HR)]
theorem ofIts_4 (n:Nat) (IH:TreeSaid n) (t:Tr) (hn:tsz t≤n) (P:Nat→Prop) (c:C5) (w:World) (B:Nat) (p l:Int) (hP:∀ b,P b→b < w.heap.size∧b≠B) (hrep:Rep P w t c) (hB:Bnd w B p l) (hT:Tab w) (hB0:1 < B) (hp0:0≤p) (hp1:p≤120) (hl0:0≤l) (hl1:l≤6) (hs:t.sort=4) :
 Calls Tryz.prog 89 #[.pointer (some ⟨B,0,none⟩),.agg #[c.c0,c.c1,c.c2,c.c3,c.c4]] w (OfPost P t B p l w):=by
 have hnb:newB t=decide (t.kids.length≤20):=by unfold newB;rw [if_neg (by omega),if_neg (by omega),if_neg (by omega),if_pos hs]
 obtain ⟨c0,c1,c2,c3,c4⟩:=c
 obtain ⟨e0,e1,e2,-,-,-,hns,a,cap,e4,hlen,hks⟩:=hrep.open
 simp only at e0 e1 e2 hns e4
 have HNS:=xH hns
 obtain ⟨a3,cap3,e3,hl3,-⟩:=hns
 subst e0 e1 e2 e3 e4
 have htrees:∀ o,Calls Tryz.prog 105 #[.pointer (some ⟨B,0,none⟩),.slice a t.kids.length cap] (w.alloc o) fun e w'=>But B (w.alloc o) w' ∧
  ((∃ q v,wlkK t.kids p l=some q∧e=.returned v∧SKids (fun b=>P b∨(w.heap.size≤b∧b < w'.heap.size)) w' v t.kids∧Bnd w' B q l)∨(wlkK t.kids p l=none∧e=fltE)):=fun o =>
  (trees_any n IH t hn P a cap (w.alloc o) B p l (fun b hb=>⟨by have:=(hP b hb).1;simp;omega,(hP b hb).2⟩) hlen (fun i hi=>by
    obtain ⟨b,o2,c,h1,h2,h3,h4⟩:=hks i hi
    exact ⟨b,o2,c,h1,h2,h3.carry (Below.heap_alloc _ _ _ (hP b h2).1),Rep.carry (fun b hb=>Below.heap_alloc _ _ _ (hP b hb).1) (fun _ h=>h) _ _ h4⟩) (hB.alloc o) (hT.but (But.alloc B w o) hB0) hB0 hp0 hp1 hl0 hl1).mono
    fun e w' ⟨h1,h2⟩=>⟨h1,h2.imp (fun ⟨q,v,g1,g2,g3,g4⟩=>⟨q,v,g1,g2,g3.carry (fun _ _=>rfl) (fun b hb=>hb.imp id (fun hb=>⟨by have:=hb.1;simp at this;omega,hb.2⟩)),g4⟩) id⟩
 have HNB:=xH hnb;have HTR:=xH htrees;have HP:=xH hP
 clear hrep hnb hB htrees hks hP IH hT
 go_enter Tryz.func89,Tryz.ntmps89
 go_wp2_with fail
 refine (xU HTR _).mono ?_
 rintro e w' ⟨hbt,⟨q,v,hwl,rfl,hk,hbnd⟩ | ⟨hwl,rfl⟩⟩
 · have hbt2:=(But.alloc B w _).trans hbt
   have HBT:=xH hbt2;have HWL:=xH hwl;have HK:=xH hk;have HBN:=xH hbnd
   obtain ⟨a',cap',rfl,-⟩:=hk
   clear hbt hbt2 hwl hbnd
   by_cases hr:t.kids.length≤20
   · have HR:=xH hr;clear hr
     go_wp2_with (go_at_call 104;refine (newList_yes _ _ _ _ (xU HR)).mono ?_;rintro e w2 ⟨rfl,rfl⟩)
     go_ret
     refine ⟨xU HBT,Or.inl ⟨q,_,?_,rfl,srep4 hs (xU HK),xU HBN⟩⟩
     unfold ofS
     rw [xU HWL]
     simp only
     rw [if_pos (by rw [xU HNB];simpa using xU HR)]
   · have HR:=xH hr;clear hr
     go_wp2_with (go_at_call 104;refine (newList_no _ _ _ _ (xU HR)).mono ?_;rintro e w2 ⟨rfl,rfl⟩)
     refine ⟨rfl,xU HBT,Or.inr ⟨?_,rfl⟩⟩
     unfold ofS
     rw [xU HWL]
     simp only
     rw [if_neg (by rw [xU HNB];simpa using xU HR)]
 · have hbt2:=(But.alloc B w _).trans hbt
   have HBT:=xH hbt2;have HWL:=xH hwl
   clear hbt hbt2 hwl
   go_wp2_with fail
   refine ⟨rfl,xU HBT,Or.inr ⟨?_,rfl⟩⟩
   unfold ofS
   rw [xU HWL]
theorem ofIts_6 (n:Nat) (IH:TreeSaid n) (t:Tr) (hn:tsz t≤n) (P:Nat→Prop) (c:C5) (w:World) (B:Nat) (p l:Int) (hP:∀ b,P b→b < w.heap.size∧b≠B) (hrep:Rep P w t c) (hB:Bnd w B p l) (hT:Tab w) (hB0:1 < B) (hp0:0≤p) (hp1:p≤120) (hl0:0≤l) (hl1:l≤6) (hs:t.sort=6) :
 Calls Tryz.prog 89 #[.pointer (some ⟨B,0,none⟩),.agg #[c.c0,c.c1,c.c2,c.c3,c.c4]] w (OfPost P t B p l w):=by
 have hnb:newB t=decide (t.kids.length≤1):=by unfold newB;rw [if_neg (by omega),if_neg (by omega),if_neg (by omega),if_neg (by omega),if_neg (by omega),if_pos hs]
 obtain ⟨c0,c1,c2,c3,c4⟩:=c
 obtain ⟨e0,e1,e2,-,-,-,hns,a,cap,e4,hlen,hks⟩:=hrep.open
 simp only at e0 e1 e2 hns e4
 have HNS:=xH hns
 obtain ⟨a3,cap3,e3,hl3,-⟩:=hns
 subst e0 e1 e2 e3 e4
 have htrees:∀ o,Calls Tryz.prog 105 #[.pointer (some ⟨B,0,none⟩),.slice a t.kids.length cap] (w.alloc o) fun e w'=>But B (w.alloc o) w' ∧
  ((∃ q v,wlkK t.kids p l=some q∧e=.returned v∧SKids (fun b=>P b∨(w.heap.size≤b∧b < w'.heap.size)) w' v t.kids∧Bnd w' B q l)∨(wlkK t.kids p l=none∧e=fltE)):=fun o =>
  (trees_any n IH t hn P a cap (w.alloc o) B p l (fun b hb=>⟨by have:=(hP b hb).1;simp;omega,(hP b hb).2⟩) hlen (fun i hi=>by
    obtain ⟨b,o2,c,h1,h2,h3,h4⟩:=hks i hi
    exact ⟨b,o2,c,h1,h2,h3.carry (Below.heap_alloc _ _ _ (hP b h2).1),Rep.carry (fun b hb=>Below.heap_alloc _ _ _ (hP b hb).1) (fun _ h=>h) _ _ h4⟩) (hB.alloc o) (hT.but (But.alloc B w o) hB0) hB0 hp0 hp1 hl0 hl1).mono
    fun e w' ⟨h1,h2⟩=>⟨h1,h2.imp (fun ⟨q,v,g1,g2,g3,g4⟩=>⟨q,v,g1,g2,g3.carry (fun _ _=>rfl) (fun b hb=>hb.imp id (fun hb=>⟨by have:=hb.1;simp at this;omega,hb.2⟩)),g4⟩) id⟩
 have HNB:=xH hnb;have HTR:=xH htrees;have HP:=xH hP
 clear hrep hnb hB htrees hks hP IH hT
 go_enter Tryz.func89,Tryz.ntmps89
 go_wp2_with fail
 refine (xU HTR _).mono ?_
 rintro e w' ⟨hbt,⟨q,v,hwl,rfl,hk,hbnd⟩ | ⟨hwl,rfl⟩⟩
 · have hbt2:=(But.alloc B w _).trans hbt
   have HBT:=xH hbt2;have HWL:=xH hwl;have HK:=xH hk;have HBN:=xH hbnd
   obtain ⟨a',cap',rfl,-⟩:=hk
   clear hbt hbt2 hwl hbnd
   by_cases hr:t.kids.length≤1
   · have HR:=xH hr;clear hr
     go_wp2_with (go_at_call 107;refine (newMaybe_yes _ _ _ _ (xU HR)).mono ?_;rintro e w2 ⟨rfl,rfl⟩)
     go_ret
     refine ⟨xU HBT,Or.inl ⟨q,_,?_,rfl,srep6 hs (xU HK),xU HBN⟩⟩
     unfold ofS
     rw [xU HWL]
     simp only
     rw [if_pos (by rw [xU HNB];simpa using xU HR)]
   · have HR:=xH hr;clear hr
     go_wp2_with (go_at_call 107;refine (newMaybe_no _ _ _ _ (xU HR)).mono ?_;rintro e w2 ⟨rfl,rfl⟩)
     refine ⟨rfl,xU HBT,Or.inr ⟨?_,rfl⟩⟩
     unfold ofS
     rw [xU HWL]
     simp only
     rw [if_neg (by rw [xU HNB];simpa using xU HR)]
 · have hbt2:=(But.alloc B w _).trans hbt
   have HBT:=xH hbt2;have HWL:=xH hwl
   clear hbt hbt2 hwl
   go_wp2_with fail
   refine ⟨rfl,xU HBT,Or.inr ⟨?_,rfl⟩⟩
   unfold ofS
   rw [xU HWL]
theorem ofIts_5 (n:Nat) (IH:TreeSaid n) (t:Tr) (hn:tsz t≤n) (P:Nat→Prop) (c:C5) (w:World) (B:Nat) (p l:Int) (hP:∀ b,P b→b < w.heap.size∧b≠B) (hrep:Rep P w t c) (hB:Bnd w B p l) (hT:Tab w) (hB0:1 < B) (hp0:0≤p) (hp1:p≤120) (hl0:0≤l) (hl1:l≤6) (hs:t.sort=5) :
 Calls Tryz.prog 89 #[.pointer (some ⟨B,0,none⟩),.agg #[c.c0,c.c1,c.c2,c.c3,c.c4]] w (OfPost P t B p l w):=by
 have hnb:newB t=(decide (t.names.length=t.kids.length) && riseB t.names):=by unfold newB;rw [if_neg (by omega),if_neg (by omega),if_neg (by omega),if_neg (by omega),if_pos hs]
 obtain ⟨c0,c1,c2,c3,c4⟩:=c
 obtain ⟨e0,e1,e2,-,-,-,hns,a,cap,e4,hlen,hks⟩:=hrep.open
 simp only at e0 e1 e2 hns e4
 have HNS:=xH hns
 obtain ⟨a3,cap3,e3,hl3,-⟩:=hns
 subst e0 e1 e2 e3 e4
 have hPd:∀ o,∀ b,P b→b < ((w.alloc o).drew).heap.size∧b≠B:=fun o b hb=>⟨by have:=(hP b hb).1;simp;omega,(hP b hb).2⟩
 have hbd:∀ o,But B w ((w.alloc o).drew):=fun o=>But.of_below ((Below.refl _ _).alloc (Nat.le_refl _) o).drew
 have htrees:∀ o,Calls Tryz.prog 105 #[.pointer (some ⟨B,0,none⟩),.slice a t.kids.length cap] ((w.alloc o).drew) fun e w'=>But B ((w.alloc o).drew) w' ∧
  ((∃ q v,wlkK t.kids p l=some q∧e=.returned v∧SKids (fun b=>P b∨(w.heap.size≤b∧b < w'.heap.size)) w' v t.kids∧Bnd w' B q l)∨(wlkK t.kids p l=none∧e=fltE)):=fun o =>
  (trees_any n IH t hn P a cap ((w.alloc o).drew) B p l (hPd o) hlen (fun i hi=>by
    obtain ⟨b,o2,c,h1,h2,h3,h4⟩:=hks i hi
    exact ⟨b,o2,c,h1,h2,h3.carry ((hbd o).at (hP b h2).1 (hP b h2).2),Rep.carry (fun b hb=>(hbd o).at (hP b hb).1 (hP b hb).2) (fun _ h=>h) _ _ h4⟩) (hB.of_block (((Below.refl _ _).alloc (Nat.le_refl _) o).drew.block B hB.lt)) (hT.but (hbd o) hB0) hB0 hp0 hp1 hl0 hl1).mono
    fun e w' ⟨h1,h2⟩=>⟨h1,h2.imp (fun ⟨q,v,g1,g2,g3,g4⟩=>⟨q,v,g1,g2,g3.carry (fun _ _=>rfl) (fun b hb=>hb.imp id (fun hb=>⟨by have:=hb.1;simp at this;omega,hb.2⟩)),g4⟩) id⟩
 have hBw:=hB.lt
 have HNB:=xH hnb;have HP:=xH hP;have HBD:=xH hbd
 clear hrep hnb hB hks hP IH hT hPd hbd
 cases hw:wlkK t.kids p l with
 | none =>
   have htr:∀ o,Calls Tryz.prog 105 #[.pointer (some ⟨B,0,none⟩),.slice a t.kids.length cap] ((w.alloc o).drew) fun e w'=>But B w w'∧e=fltE:=fun o=>(htrees o).mono fun e w' ⟨h1,h2⟩=>by
    rcases h2 with ⟨q,v,g1,_⟩ | ⟨_,g2⟩
    · rw [hw] at g1;cases g1
    · exact ⟨(xU HBD o).trans h1,g2⟩
   have HTR:=xH htr
   have HOF:Hid (ofS t p l=none):=by show _=_;unfold ofS;rw [hw]
   clear htrees htr hw
   go_enter Tryz.func89,Tryz.ntmps89
   go_wp2_with fail
   refine wp_region_any (by kernel_rfl) ?_
   change wpAny _ _ _ _ _ _ _ (World.drew _)
   refine wpAny_take (i:=0) (v:=.pointer (some ⟨w.heap.size,3,none⟩)) rfl (by kernel_rfl) (by kernel_rfl) (by kernel_rfl) (fun _ _ _ h=>h) (Or.inl ⟨by rfl,fun w=>by go_simp⟩) ?_
   refine wpAny_take (i:=2) (v:=.pointer (some ⟨B,0,none⟩)) rfl (by kernel_rfl) (by kernel_rfl) (by kernel_rfl) (fun _ _ _ h=>h) (Or.inl ⟨by rfl,fun w=>by go_simp⟩) ?_
   refine wpAny_take (i:=3) (v:=.pointer (some ⟨w.heap.size,4,none⟩)) rfl (by kernel_rfl) (by kernel_rfl) (by kernel_rfl) (fun _ _ _ h=>h) (Or.inl ⟨by rfl,fun w=>by go_simp⟩) ?_
   refine wpAny_ready (rs:=[1,4]) (by kernel_rfl) (by simp) ?_
   refine AllReady.cons rfl (fun K hK=>?_) (AllReady.cons rfl (fun K hK=>?_) AllReady.nil)
   · go_simp
     refine hK _ _ ?_;clear hK K
     refine wpAny_ready (rs:=[4]) (by kernel_rfl) (by simp) ?_
     refine AllReady.cons rfl (fun K hK=>?_) AllReady.nil
     go_simp
     refine hK _ _ ?_;clear hK K
     refine wpAny_ready (rs:=[5]) (by kernel_rfl) (by simp) ?_
     refine AllReady.cons rfl (fun K hK=>?_) AllReady.nil
     go_simp
     refine (xU HTR _).mono ?_
     rintro e w1 ⟨hbt,rfl⟩
     exact ⟨rfl,hbt,Or.inr ⟨xU HOF,rfl⟩⟩
   · go_simp
     refine hK _ _ ?_;clear hK K
     refine wpAny_ready (rs:=[1,5]) (by kernel_rfl) (by simp) ?_
     refine AllReady.cons rfl (fun K hK=>?_) (AllReady.cons rfl (fun K hK=>?_) AllReady.nil)
     · go_simp
       refine hK _ _ ?_;clear hK K
       refine wpAny_ready (rs:=[5]) (by kernel_rfl) (by simp) ?_
       refine AllReady.cons rfl (fun K hK=>?_) AllReady.nil
       go_simp
       refine (xU HTR _).mono ?_
       rintro e w1 ⟨hbt,rfl⟩
       exact ⟨rfl,hbt,Or.inr ⟨xU HOF,rfl⟩⟩
     · go_simp
       refine (xU HTR _).mono ?_
       rintro e w1 ⟨hbt,rfl⟩
       exact ⟨rfl,hbt,Or.inr ⟨xU HOF,rfl⟩⟩
 | some q =>
   have htr:∀ (x0 x1 x2:Value),Calls Tryz.prog 105 #[.pointer (some ⟨B,0,none⟩),.slice a t.kids.length cap] ((w.alloc (.cells #[x0,x1,x2,.slice a3 t.names.length cap3,.slice a t.kids.length cap] 29)).drew) fun e w' =>
    But B w w'∧w'.cell? ⟨w.heap.size,3,none⟩=some (.slice a3 t.names.length cap3)∧∃ a' cap',e=.returned (.slice a' t.kids.length cap')∧SKids (fun b=>P b∨(w.heap.size≤b∧b < w'.heap.size)) w' (.slice a' t.kids.length cap') t.kids∧Bnd w' B q l∧StrsAt P w' (.slice a3 t.names.length cap3) t.names∧(∀ b,P b→b < w'.heap.size):=fun x0 x1 x2=>(htrees _).mono fun e w' ⟨h1,h2⟩=>by
    rcases h2 with ⟨q',v,g1,g2,g3,g4⟩ | ⟨g1,_⟩
    · rw [hw] at g1
      simp only [Option.some.injEq] at g1
      subst g1
      have hb1:=(xU HBD (.cells #[x0,x1,x2,.slice a3 t.names.length cap3,.slice a t.kids.length cap] 29)).trans h1
      obtain ⟨a',cap',hv,-⟩:=id g3
      subst hv
      refine ⟨hb1,?_,a',cap',g2,g3,g4,(xU HNS).carry (fun b hb=>hb1.at (xU HP b hb).1 (xU HP b hb).2) (fun _ h=>h),fun b hb=>Nat.lt_of_lt_of_le (xU HP b hb).1 hb1.size⟩
      rw [World.cell?_of_block (a:=⟨w.heap.size,3,none⟩) (h1.at (b:=w.heap.size) (by simp) (by omega))]
      simp [go_sem]
    · rw [hw] at g1;cases g1
   have HTR0:=xH htr
   clear htrees htr
   by_cases hyes:t.names.length=t.kids.length∧riseB t.names=true
   · have HOF:Hid (ofS t p l=some q):=by show _=_;unfold ofS;rw [hw];simp only;rw [if_pos (by rw [xU HNB];simpa using hyes)]
     have HYES:=xH hyes
     have HTR:=xH (xU HTR0)
     clear hw hyes HTR0
     go_enter Tryz.func89,Tryz.ntmps89
     go_wp2_with fail
     go_region_with (first
      | (go_at_call 105;refine (xU HTR _ _ _).mono ?_;rintro e w1 ⟨hbt,q3,a',cap',rfl,hk,hbnd,hS1,hP1⟩;have HBT:=xH hbt;have HS1:=xH hS1;have HP1:=xH hP1;have HK:=xH hk;have HBN:=xH hbnd;clear hbt hS1 hP1 hk hbnd)
      | (go_at_call 106;refine (newForm_any _ t.names _ _ _ _ (P:=P) (xU HP1) (xU HS1)).mono ?_;rintro e w2 ⟨hor,hb2⟩;obtain rfl:=(hor.resolve_right (fun h=>h.1 (xU HYES))).2;clear hor))
     all_goals
      go_wp2_with fail
      go_ret
      have hs2:=hb2.size
      have hbt2:=xU HBT
      have hcar:∀ b,(P b∨(w.heap.size≤b∧b < w1.heap.size))→b < w1.heap.size:=fun b hb=>by
       rcases hb with hb | hb
       · exact xU HP1 b hb
       · exact hb.2
      refine ⟨hbt2.trans (But.of_below hb2),Or.inl ⟨q,_,xU HOF,rfl,srep5 hs (((xU HS1).carry (fun _ _=>rfl) (fun b hb=>Or.inl hb)).carry (P:=fun b=>P b∨(w.heap.size≤b∧b < w1.heap.size)) (fun b hb=>hb2.block b (hcar b hb)) (fun b hb=>hb.imp id (fun hb=>⟨hb.1,by omega⟩))) ((xU HK).carry (fun b hb=>hb2.block b (hcar b hb)) (fun b hb=>hb.imp id (fun hb=>⟨hb.1,by omega⟩))),(xU HBN).below hb2⟩⟩
   · have HOF:Hid (ofS t p l=none):=by show _=_;unfold ofS;rw [hw];simp only;rw [if_neg (by rw [xU HNB];simpa using hyes)]
     have HNO:=xH hyes
     have HTR:Hid (∀ (x:Value × Value × Value),_):=xH fun x=>xU HTR0 x.1 x.2.1 x.2.2
     clear hw hyes HTR0
     go_enter Tryz.func89,Tryz.ntmps89
     go_wp2_with fail
     refine wp_region_any (by kernel_rfl) ?_
     change wpAny _ _ _ _ _ _ _ (World.drew _)
     refine wpAny_take (i:=0) (v:=.pointer (some ⟨w.heap.size,3,none⟩)) rfl (by kernel_rfl) (by kernel_rfl) (by kernel_rfl) (fun _ _ _ h=>h) (Or.inl ⟨by rfl,fun w=>by go_simp⟩) ?_
     refine wpAny_take (i:=2) (v:=.pointer (some ⟨B,0,none⟩)) rfl (by kernel_rfl) (by kernel_rfl) (by kernel_rfl) (fun _ _ _ h=>h) (Or.inl ⟨by rfl,fun w=>by go_simp⟩) ?_
     refine wpAny_take (i:=3) (v:=.pointer (some ⟨w.heap.size,4,none⟩)) rfl (by kernel_rfl) (by kernel_rfl) (by kernel_rfl) (fun _ _ _ h=>h) (Or.inl ⟨by rfl,fun w=>by go_simp⟩) ?_
     refine wpAny_ready (rs:=[1,4]) (by kernel_rfl) (by simp) ?_
     refine AllReady.cons rfl (fun K hK=>?_) (AllReady.cons rfl (fun K hK=>?_) AllReady.nil)
     · go_simp
       refine hK _ _ ?_;clear hK K
       refine wpAny_ready (rs:=[4]) (by kernel_rfl) (by simp) ?_
       refine AllReady.cons rfl (fun K hK=>?_) AllReady.nil
       go_simp
       refine hK _ _ ?_;clear hK K
       refine wpAny_ready (rs:=[5]) (by kernel_rfl) (by simp) ?_
       refine AllReady.cons rfl (fun K hK=>?_) AllReady.nil
       go_simp
       refine (xU HTR (_,_,_)).mono ?_
       rintro e w1 ⟨hbt,q3,a',cap',rfl,hk,hbnd,hS1,hP1⟩
       have HBT:=xH hbt;have HS1:=xH hS1;have HP1:=xH hP1
       clear hbt hS1 hP1 hk hbnd
       dsimp only
       refine hK _ _ ?_;clear hK K
       refine wpAny_ready (rs:=[6]) (by kernel_rfl) (by simp) ?_
       refine AllReady.cons rfl (fun K hK=>?_) AllReady.nil
       go_simp
       refine (newForm_any _ t.names _ _ _ _ (P:=P) (xU HP1) (xU HS1)).mono ?_
       rintro e w2 ⟨⟨hyes,_⟩ | ⟨_,rfl⟩,hb2⟩
       · exact absurd hyes (xU HNO)
       · exact ⟨rfl,(xU HBT).trans (But.of_below hb2),Or.inr ⟨xU HOF,rfl⟩⟩
     · go_simp
       refine hK _ _ ?_;clear hK K
       refine wpAny_ready (rs:=[1,5]) (by kernel_rfl) (by simp) ?_
       refine AllReady.cons rfl (fun K hK=>?_) (AllReady.cons rfl (fun K hK=>?_) AllReady.nil)
       · go_simp
         refine hK _ _ ?_;clear hK K
         refine wpAny_ready (rs:=[5]) (by kernel_rfl) (by simp) ?_
         refine AllReady.cons rfl (fun K hK=>?_) AllReady.nil
         go_simp
         refine (xU HTR (_,_,_)).mono ?_
         rintro e w1 ⟨hbt,q3,a',cap',rfl,hk,hbnd,hS1,hP1⟩
         have HBT:=xH hbt;have HS1:=xH hS1;have HP1:=xH hP1
         clear hbt hS1 hP1 hk hbnd
         dsimp only
         refine hK _ _ ?_;clear hK K
         refine wpAny_ready (rs:=[6]) (by kernel_rfl) (by simp) ?_
         refine AllReady.cons rfl (fun K hK=>?_) AllReady.nil
         go_simp
         refine (newForm_any _ t.names _ _ _ _ (P:=P) (xU HP1) (xU HS1)).mono ?_
         rintro e w2 ⟨⟨hyes,_⟩ | ⟨_,rfl⟩,hb2⟩
         · exact absurd hyes (xU HNO)
         · exact ⟨rfl,(xU HBT).trans (But.of_below hb2),Or.inr ⟨xU HOF,rfl⟩⟩
       · go_simp
         refine (xU HTR (_,_,_)).mono ?_
         rintro e w1 ⟨hbt,q3,a',cap',rfl,hk,hbnd,hS1,hP1⟩
         have HBT:=xH hbt;have HS1:=xH hS1;have HP1:=xH hP1
         clear hbt hS1 hP1 hk hbnd
         dsimp only
         refine hK _ _ ?_;clear hK K
         refine wpAny_ready (rs:=[1]) (by kernel_rfl) (by simp) ?_
         refine AllReady.cons rfl (fun K hK=>?_) AllReady.nil
         go_simp
         refine hK _ _ ?_;clear hK K
         refine wpAny_ready (rs:=[6]) (by kernel_rfl) (by simp) ?_
         refine AllReady.cons rfl (fun K hK=>?_) AllReady.nil
         go_simp
         refine (newForm_any _ t.names _ _ _ _ (P:=P) (xU HP1) (xU HS1)).mono ?_
         rintro e w2 ⟨⟨hyes,_⟩ | ⟨_,rfl⟩,hb2⟩
         · exact absurd hyes (xU HNO)
         · exact ⟨rfl,(xU HBT).trans (But.of_below hb2),Or.inr ⟨xU HOF,rfl⟩⟩

theorem ofIts_any (n:Nat) (IH:TreeSaid n) (t:Tr) (hn:tsz t≤n) (P:Nat→Prop) (c:C5) (w:World) (B:Nat) (p l:Int) (hP:∀ b,P b→b < w.heap.size∧b≠B) (hrep:Rep P w t c) (hB:Bnd w B p l) (hT:Tab w) (hB0:1 < B) (hp0:0≤p) (hp1:p≤120) (hl0:0≤l) (hl1:l≤6) (ho:ownB t=true) :
 Calls Tryz.prog 89 #[.pointer (some ⟨B,0,none⟩),.agg #[c.c0,c.c1,c.c2,c.c3,c.c4]] w (OfPost P t B p l w):=by
 have h:(t.sort < 1∨6 < t.sort)∨t.sort=1∨t.sort=2∨t.sort=3∨t.sort=4∨t.sort=5∨t.sort=6:=by omega
 rcases h with h | h | h | h | h | h | h
 · rw [own_out h] at ho;cases ho
 · exact ofIts_1 t P c w B p l hrep hB ho h
 · exact ofIts_2 t P c w B p l hrep hB ho h
 · exact ofIts_3 t P c w B p l hrep hB ho h
 · exact ofIts_4 n IH t hn P c w B p l hP hrep hB hT hB0 hp0 hp1 hl0 hl1 h
 · exact ofIts_5 n IH t hn P c w B p l hP hrep hB hT hB0 hp0 hp1 hl0 hl1 h
 · exact ofIts_6 n IH t hn P c w B p l hP hrep hB hT hB0 hp0 hp1 hl0 hl1 h
theorem tree_step (n:Nat) (IH:TreeSaid n):TreeSaid (n+1):=by
 intro t hn P c w B p l hP hrep hB hT hB0 hp0 hp1 hl0 hl1
 have hBw:=hB.lt
 have hBne:¬ w.heap.size=B:=by omega
 by_cases hin:p+1≤120∧l+1≤6
 · have hen:∀ x0 x1 x2 x3 x4:Value,Calls Tryz.prog 86 #[.pointer (some ⟨B,0,none⟩)] (w.alloc (.cells #[x0,x1,x2,x3,x4] 29)) fun e w'=>e=.returned (.tuple #[])∧w'.rowIs w.heap.size 29 5 (row5 x0 x1 x2 x3 x4)∧Bnd w' B (p+1) (l+1)∧But B w w'∧w.heap.size < w'.heap.size:=fun x0 x1 x2 x3 x4 =>
    (enter_yes B p l _ (hB.alloc _) hp0 hl0 hin.1 hin.2).mono fun e w' ⟨h1,h2⟩=>by
      have hb:=((But.set (B:=B) (w.alloc (.cells #[x0,x1,x2,x3,x4] 29)) 0 (.int .i64 (p+1))).trans (But.set _ 1 (.int .i64 (l+1))))
      rw [h2]
      refine ⟨h1,(row5_alloc w x0 x1 x2 x3 x4 _).of_block (hb.at (by simp) hBne),(hB.alloc _).set2 _ _,(But.alloc B w _).trans hb,?_⟩
      have:=hb.size
      simp at this ⊢
   have hwo:ownB t=true→wlk t p l=ofS t (p+1) (l+1):=wlk_of t p l hin
   have hwn:ownB t=false→wlk t p l=none:=fun h=>by rw [wlk_eq,if_pos hin,if_neg (by rw [h];simp)]
   have HEN:=xH hen;have HREP:=xH hrep;have HP:=xH hP;have HT:=xH hT;have HI:=xH IH;have HWO:=xH hwo;have HWN:=xH hwn
   obtain ⟨h120,h6⟩:=hin
   obtain ⟨c0,c1,c2,c3,c4⟩:=c
   clear hen hP hrep hB hT IH hwo hwn
   go_enter Tryz.func63,Tryz.ntmps63
   go_wp2_with fail
   refine (xU HEN _ _ _ _ _).mono ?_
   rintro e w1 ⟨rfl,q1,hb1,hbt1,hs1⟩
   have hrep1:Rep P w1 t ⟨c0,c1,c2,c3,c4⟩:=Rep.carry (fun b hb=>hbt1.at (xU HP b hb).1 (xU HP b hb).2) (fun _ h=>h) _ _ (xU HREP)
   have hT1:=(xU HT).but hbt1 hB0
   have hown:=own_any t P ⟨c0,c1,c2,c3,c4⟩ w1 hrep1 hT1 hT1.lt
   have HOWN:=xH hown;have HREP1:=xH hrep1;have HT1:=xH hT1;have Q1:=xH q1;have HB1:=xH hb1;have HBT1:=xH hbt1
   obtain ⟨k0,k1,k2,k3,k4⟩:=cs5 q1 (by omega)
   simp only [row5] at k0 k1 k2 k3 k4
   clear hown hrep1 hT1 q1 hb1 hbt1
   go_wp2_with fail
   refine (xU HOWN).mono ?_
   rintro e w2 ⟨rfl,hb2⟩
   clear k0 k1 k2 k3 k4
   have hs2:=hb2.size
   by_cases ho:ownB t=true
   · have q2:=(xU Q1).of_block (hb2.block _ hs1)
     have hbt2:=(xU HBT1).trans (But.of_below hb2)
     have hb2':=(xU HB1).below hb2
     have hrep2:Rep P w2 t ⟨c0,c1,c2,c3,c4⟩:=Rep.carry (fun b hb=>hbt2.at (xU HP b hb).1 (xU HP b hb).2) (fun _ h=>h) _ _ (xU HREP)
     have hT2:=(xU HT).but hbt2 hB0
     have hof:=ofIts_any n (xU HI) t (by omega) P ⟨c0,c1,c2,c3,c4⟩ w2 B (p+1) (l+1) (fun b hb=>⟨by have:=(xU HP b hb).1;omega,(xU HP b hb).2⟩) hrep2 hb2' hT2 hB0 (by omega) h120 (by omega) h6 ho
     have HOF:=xH hof;have HBT2:=xH hbt2
     have HW:=xH (xU HWO ho)
     obtain ⟨k0,k1,k2,k3,k4⟩:=cs5 q2 (by omega)
     simp only [row5] at k0 k1 k2 k3 k4
     clear hof hrep2 hT2 q2 hb2' hbt2 hb2 HOWN HREP1 HT1 Q1 HB1 HBT1 HEN
     go_wp2_with (go_at_call 87;refine (treeWant_yes _).mono ?_;rintro e w' ⟨rfl,hw'⟩;subst hw')
     refine (xU HOF).mono ?_
     rintro e w3 ⟨hbt3,⟨q,v,hof,rfl,hsr,hb3⟩ | ⟨hof,rfl⟩⟩
     · have hlv:=leave_any B q (l+1) w3 hb3 (by omega) (by omega)
       rw [show l+1 - 1=l from by omega] at hlv
       have hbt4:=((xU HBT2).trans hbt3).trans (But.set (B:=B) w3 1 (.int .i64 l))
       have hsr4:SRep (fun b=>P b∨(w.heap.size≤b∧b < (w3.setCell ⟨B,1,none⟩ (.int .i64 l)).heap.size)) (w3.setCell ⟨B,1,none⟩ (.int .i64 l)) t v:=by
        refine SRep.carry (fun b hb=>Below.heap_setCell _ _ _ _ ?_) (fun b hb=>?_) _ _ hsr
        · rcases hb with hb | hb
          · exact (xU HP b hb).2
          · have:=hb.1;show b≠B;omega
        · rcases hb with hb | hb
          · exact Or.inl hb
          · exact Or.inr ⟨by have:=hb.1;omega,by simpa [World.setCell] using hb.2⟩
       have HLV:=xH hlv;have HBT4:=xH hbt4;have HSR:=xH hsr4;have HB4:=xH (hb3.set1 l)
       have HQ:Hid (wlk t p l=some q):=by show _=_;rw [xU HW,hof]
       clear hlv hbt4 hsr4 hsr hb3 hbt3 hof k0 k1 k2 k3 k4
       go_wp2_with (go_at_call 90;refine (xU HLV).mono ?_;rintro e w4 ⟨rfl,rfl⟩)
       go_ret
       exact ⟨xU HBT4,Or.inl ⟨q,v,xU HQ,rfl,xU HSR,xU HB4⟩⟩
     · have HBT4:=xH ((xU HBT2).trans hbt3)
       have HQ:Hid (wlk t p l=none):=by show _=_;rw [xU HW,hof]
       clear hbt3 hof
       go_wp2_with fail
       exact ⟨rfl,xU HBT4,Or.inr ⟨xU HQ,rfl⟩⟩
   · have ho':ownB t=false:=by simpa using ho
     have HW:=xH (xU HWN ho')
     have hbt2:=(xU HBT1).trans (But.of_below hb2)
     have HBT2:=xH hbt2
     clear ho hb2 hbt2
     go_wp2_with (go_at_call 87;refine (treeWant_no _).mono ?_;rintro e w' ⟨rfl,rfl⟩)
     exact ⟨rfl,xU HBT2,Or.inr ⟨xU HW,rfl⟩⟩
 · have HW:Hid (wlk t p l=none):=by show _=_;rw [wlk_eq,if_neg hin]
   have hen:∀ o,Calls Tryz.prog 86 #[.pointer (some ⟨B,0,none⟩)] (w.alloc o) fun e w'=>e=fltE∧But B w w':=fun o =>
    (enter_no B p l (w.alloc o) (hB.alloc o) hp0 hl0 hp1 hl1 hin).mono fun e w' ⟨h1,h2⟩=>⟨h1,by rw [h2];exact ((But.alloc B w o).trans (But.set _ _ _)).trans (But.set _ _ _)⟩
   have HEN:=xH hen
   clear hen hP hrep hB hT IH hin
   go_enter Tryz.func63,Tryz.ntmps63
   go_wp2_with (go_at_call 86;refine (xU HEN _).mono ?_;rintro e w1 ⟨rfl,hbt⟩)
   exact ⟨rfl,hbt,Or.inr ⟨xU HW,rfl⟩⟩
theorem tree_all:∀ n,TreeSaid n
 | 0=>fun t h=>by omega
 | n+1=>tree_step n (tree_all n)

structure Seat (P:Nat→Prop) (w:World) (X B Y:Nat) (t:Tr) (c:C5):Prop where
 box:w.rowIs X 29 5 (row5 c.c0 c.c1 c.c2 c.c3 c.c4)
 bnd:Bnd w B 0 0
 ans:w.cell? ⟨Y,0,none⟩=some .nilIface
 frz:w.frozen? ⟨Y,0,none⟩=false
 rep:Rep P w t c
 old:∀ b,P b→b < X
 tab:Tab w
 xb:X < B
 by':B < Y
 x0:1 < X
structure Sorted (P:Nat→Prop) (w w':World) (X B Y:Nat) (t:Tr) (q:Int) (v:Value):Prop where
 ans:w'.cell? ⟨Y,0,none⟩=some v
 rep:SRep (fun b=>P b∨(w.heap.size≤b∧b < w'.heap.size)) w' t v
 bnd:Bnd w' B q 0
 size:w.heap.size≤w'.heap.size
 low:Below X w w'
 kept:∀ b,b < w.heap.size→b≠B→b≠Y→w'.heap[b]? = w.heap[b]?
theorem sort1_yes (P:Nat→Prop) (w:World) (X B Y:Nat) (t:Tr) (c:C5) (q:Int) (h:Seat P w X B Y t c) (hq:wlk t 0 0=some q) :
 Calls Tryz.prog 62 #[.pointer (some ⟨B,0,none⟩),.pointer (some ⟨X,0,none⟩),.pointer (some ⟨Y,0,none⟩)] w fun e w'=>e=.returned (.tuple #[])∧∃ v,Sorted P w w' X B Y t q v:=by
 obtain ⟨box,bnd,ans,frz,rep,old,tab,xb,by',x0⟩:=h
 have hBw:=bnd.lt
 have hYw:Y < w.heap.size:=World.block_lt_of_cell? w _ ans
 have hcall:=tree_all (tsz t+1) t (by omega) P c w B 0 0 (fun b hb=>⟨by have:=old b hb;omega,by have:=old b hb;omega⟩) rep bnd tab (by omega) (by omega) (by omega) (by omega) (by omega)
 have HCALL:Hid (Calls Tryz.prog 63 #[.pointer (some ⟨B,0,none⟩),.agg #[c.c0,c.c1,c.c2,c.c3,c.c4]] w fun e w'=>∃ v,e=.returned v∧But B w w'∧SRep (fun b=>P b∨(w.heap.size≤b∧b < w'.heap.size)) w' t v∧Bnd w' B q 0) :=
  hcall.mono fun e w' ⟨h1,h2⟩=>by
   rcases h2 with ⟨q',v,g1,g2,g3,g4⟩ | ⟨g1,_⟩
   · rw [hq] at g1;simp only [Option.some.injEq] at g1;subst g1;exact ⟨v,g2,h1,g3,g4⟩
   · rw [hq] at g1;cases g1
 have HOLD:=xH old
 obtain ⟨k0,k1,k2,k3,k4⟩:=cs5 box (by omega)
 simp only [row5] at k0 k1 k2 k3 k4
 have HANS:=xH ans;have HFRZ:=xH frz
 clear hcall box bnd rep tab hq old ans frz
 go_enter Tryz.func62,Tryz.ntmps62
 go_wp2_with fail
 refine (xU HCALL).mono ?_
 rintro e w1 ⟨v,rfl,hbt,hsr,hbn⟩
 have hs1:=hbt.size
 have ya:w1.cell? ⟨Y,0,none⟩=some .nilIface:=by rw [World.cell?_of_block (a:=⟨Y,0,none⟩) (hbt.at hYw (show Y≠B by omega))];exact xU HANS
 have yf:w1.frozen? ⟨Y,0,none⟩=false:=by rw [World.frozen?_of_block (a:=⟨Y,0,none⟩) (hbt.at hYw (show Y≠B by omega))];exact xU HFRZ
 obtain ⟨T,x,rfl⟩:=hsr.iface
 have hfin:Sorted P w (w1.setCell ⟨Y,0,none⟩ (.iface T x)) X B Y t q (.iface T x):=by
  have he:∀ b,b≠Y→(w1.setCell ⟨Y,0,none⟩ (.iface T x)).heap[b]? = w1.heap[b]? := fun b hb=>Below.heap_setCell _ _ _ _ hb
  have hsz:(w1.setCell ⟨Y,0,none⟩ (.iface T x)).heap.size=w1.heap.size:=by simp [World.setCell]
  refine ⟨by simp [go_sem,ya],SRep.carry (fun b hb=>he b ?_) (fun b hb=>by rw [hsz];exact hb) _ _ hsr,hbn.of_block (he B (by omega)),by omega,?_,fun b h1 h2 h3=>(he b h3).trans (hbt.at h1 h2)⟩
  · rcases hb with hb | hb
    · have:=xU HOLD b hb;omega
    · omega
  · exact ⟨hbt.os,hbt.tape,hbt.output,by omega,fun b hb=>(he b (by omega)).trans (hbt.at (by omega) (by omega))⟩
 have HFIN:=xH hfin
 clear hbt hsr hbn hfin k0 k1 k2 k3 k4
 go_wp2_with fail
 go_end0
 exact ⟨rfl,_,xU HFIN⟩
theorem sort1_no (P:Nat→Prop) (w:World) (X B Y:Nat) (t:Tr) (c:C5) (h:Seat P w X B Y t c) (hq:wlk t 0 0=none) :
 Calls Tryz.prog 62 #[.pointer (some ⟨B,0,none⟩),.pointer (some ⟨X,0,none⟩),.pointer (some ⟨Y,0,none⟩)] w fun e w'=>e=fltE∧But B w w':=by
 obtain ⟨box,bnd,ans,frz,rep,old,tab,xb,by',x0⟩:=h
 have hcall:=tree_all (tsz t+1) t (by omega) P c w B 0 0 (fun b hb=>⟨by have:=old b hb;have:=bnd.lt;omega,by have:=old b hb;omega⟩) rep bnd tab (by omega) (by omega) (by omega) (by omega) (by omega)
 have HCALL:Hid (Calls Tryz.prog 63 #[.pointer (some ⟨B,0,none⟩),.agg #[c.c0,c.c1,c.c2,c.c3,c.c4]] w fun e w'=>e=fltE∧But B w w') :=
  hcall.mono fun e w' ⟨h1,h2⟩=>by
   rcases h2 with ⟨q',v,g1,g2,g3,g4⟩ | ⟨_,g2⟩
   · rw [hq] at g1;cases g1
   · exact ⟨g2,h1⟩
 obtain ⟨k0,k1,k2,k3,k4⟩:=cs5 box (by omega)
 simp only [row5] at k0 k1 k2 k3 k4
 clear hcall box bnd rep tab hq old ans frz
 go_enter Tryz.func62,Tryz.ntmps62
 go_wp2_with (go_at_call 63;refine (xU HCALL).mono ?_;rintro e w1 ⟨rfl,hbt⟩)
 exact ⟨rfl,rfl,hbt⟩
theorem enter40 (caps:Array Value) (W:World):Sem.run Tryz.prog (callFunc 62 caps) W=.ok (.enter 62 caps) W:=by
 kernel_rfl
theorem seat_here {P:Nat→Prop} {w:World} {t:Tr} {c:C5} (hrep:Rep P w t c) (hP:∀ b,P b→b < w.heap.size) (hT:Tab w) (o:Obj) :
 Seat P ((((w.alloc (.cells #[c.c0,c.c1,c.c2,c.c3,c.c4] 29)).alloc (.cells #[.int .i64 0,.int .i64 0] 116)).alloc (.cells #[.nilIface] 82)).alloc o) w.heap.size (w.heap.size+1) (w.heap.size+1+1) t c:=by
 have hb:Below w.heap.size w ((((w.alloc (.cells #[c.c0,c.c1,c.c2,c.c3,c.c4] 29)).alloc (.cells #[.int .i64 0,.int .i64 0] 116)).alloc (.cells #[.nilIface] 82)).alloc o) :=
  ((((Below.refl _ _).alloc (Nat.le_refl _) _).alloc (by simp) _).alloc (by simp;omega) _).alloc (by simp;omega) _
 refine ⟨(((row5_alloc w c.c0 c.c1 c.c2 c.c3 c.c4 _).alloc _).alloc _).alloc _,⟨?_,?_,?_,?_⟩,?_,?_,Rep.carry (fun b hb'=>hb.block b (hP b hb')) (fun _ h=>h) _ _ hrep,hP,hT.of_block (hb.block 1 hT.lt),by omega,by omega,hT.lt⟩
 all_goals simp [go_sem]
theorem tryWork_yes {P:Nat→Prop} {w:World} {t:Tr} {c:C5} {q:Int} (hrep:Rep P w t c) (hP:∀ b,P b→b < w.heap.size) (hT:Tab w) (hq:wlk t 0 0=some q) :
 Calls Tryz.prog 61 #[.func (.func 62) #[] #[.pointer (some ⟨w.heap.size+1,0,none⟩),.pointer (some ⟨w.heap.size,0,none⟩),.pointer (some ⟨w.heap.size+1+1,0,none⟩)]]
  (((w.alloc (.cells #[c.c0,c.c1,c.c2,c.c3,c.c4] 29)).alloc (.cells #[.int .i64 0,.int .i64 0] 116)).alloc (.cells #[.nilIface] 82)) fun e w' =>
    e=.returned (.bool true)∧∃ v,w'.cell? ⟨w.heap.size+1+1,0,none⟩=some v∧Bnd w' (w.heap.size+1) q 0∧SRep (fun b=>P b∨(w.heap.size≤b∧b < w'.heap.size)) w' t v∧Below w.heap.size w w':=by
 generalize hW:(((w.alloc (.cells #[c.c0,c.c1,c.c2,c.c3,c.c4] 29)).alloc (.cells #[.int .i64 0,.int .i64 0] 116)).alloc (.cells #[.nilIface] 82))=W
 have hsz:W.heap.size=w.heap.size+3:=by rw [← hW];simp
 have hbw:Below w.heap.size w W:=by rw [← hW];exact (((Below.refl _ _).alloc (Nat.le_refl _) _).alloc (by simp) _).alloc (by simp;omega) _
 refine (treeTry_yes 62 _ W (fun w1=>∃ o v,Sorted P (W.alloc o) w1 w.heap.size (w.heap.size+1) (w.heap.size+1+1) t q v) (enter40 _) (fun o=>?_)).mono ?_
 · have hs:=seat_here hrep hP hT o
   rw [hW] at hs
   refine (sort1_yes P (W.alloc o) _ _ _ t c q hs hq).mono fun e w' ⟨h1,v,h2⟩=>⟨h1,⟨o,v,h2⟩,h2.kept _ (by simp) (by omega) (by omega)⟩
 · rintro e w' ⟨rfl,w1,⟨o,v,hs⟩,hb⟩
   have hs1:=hs.size
   have hs2:=hb.size
   have hsa:(W.alloc o).heap.size=w.heap.size+4:=by simp [hsz]
   refine ⟨rfl,v,?_,?_,?_,?_⟩
   · rw [World.cell?_of_block (a:=⟨w.heap.size+1+1,0,none⟩) (hb.at (by simp only;omega) (by simp only;omega))];exact hs.ans
   · exact hs.bnd.of_block (hb.at (by omega) (by omega))
   · refine SRep.carry (fun b hb'=>?_) (fun b hb'=>?_) _ _ hs.rep
     · rcases hb' with hb' | hb'
       · have:=hP b hb';exact hb.at (by omega) (by omega)
       · exact hb.at hb'.2 (by omega)
     · rcases hb' with hb' | hb'
       · exact Or.inl hb'
       · exact Or.inr ⟨by omega,by omega⟩
   · have h1:=(hbw.trans (((Below.refl _ _).alloc (by omega) o).trans hs.low))
     exact ⟨hb.os.trans h1.os,hb.tape.trans h1.tape,hb.output.trans h1.output,by have:=h1.size;omega,fun b hb'=>(hb.at (by omega) (by omega)).trans (h1.block b hb')⟩
theorem tryWork_no {P:Nat→Prop} {w:World} {t:Tr} {c:C5} (hrep:Rep P w t c) (hP:∀ b,P b→b < w.heap.size) (hT:Tab w) (hq:wlk t 0 0=none) :
 Calls Tryz.prog 61 #[.func (.func 62) #[] #[.pointer (some ⟨w.heap.size+1,0,none⟩),.pointer (some ⟨w.heap.size,0,none⟩),.pointer (some ⟨w.heap.size+1+1,0,none⟩)]]
  (((w.alloc (.cells #[c.c0,c.c1,c.c2,c.c3,c.c4] 29)).alloc (.cells #[.int .i64 0,.int .i64 0] 116)).alloc (.cells #[.nilIface] 82)) fun e w' =>
    e=.returned (.bool false)∧Below w.heap.size w w':=by
 generalize hW:(((w.alloc (.cells #[c.c0,c.c1,c.c2,c.c3,c.c4] 29)).alloc (.cells #[.int .i64 0,.int .i64 0] 116)).alloc (.cells #[.nilIface] 82))=W
 have hsz:W.heap.size=w.heap.size+3:=by rw [← hW];simp
 have hbw:Below w.heap.size w W:=by rw [← hW];exact (((Below.refl _ _).alloc (Nat.le_refl _) _).alloc (by simp) _).alloc (by simp;omega) _
 refine (treeTry_no 62 _ W (fun w1=>∃ o,But (w.heap.size+1) (W.alloc o) w1) (enter40 _) (fun o=>?_)).mono ?_
 · have hs:=seat_here hrep hP hT o
   rw [hW] at hs
   refine (sort1_no P (W.alloc o) _ _ _ t c hs hq).mono fun e w' ⟨h1,h2⟩=>⟨h1,⟨o,h2⟩,h2.at (by simp) (by omega)⟩
 · rintro e w' ⟨rfl,w1,⟨o,hs⟩,hb⟩
   have hs1:=hs.size
   have hs2:=hb.size
   have hsa:(W.alloc o).heap.size=w.heap.size+4:=by simp [hsz]
   have h1:=hbw.trans ((Below.refl _ _).alloc (by omega) o)
   refine ⟨rfl,hb.os.trans (hs.os.trans h1.os),hb.tape.trans (hs.tape.trans h1.tape),hb.output.trans (hs.output.trans h1.output),by have:=h1.size;omega,fun b hb'=>(hb.at (by omega) (by omega)).trans ((hs.at (by omega) (by omega)).trans (h1.block b hb'))⟩
theorem sortTree_yes (P:Nat→Prop) (w:World) (t:Tr) (c:C5) (q:Int) (hrep:Rep P w t c) (hP:∀ b,P b→b < w.heap.size) (hT:Tab w) (hq:wlk t 0 0=some q) :
 Calls Tryz.prog 35 #[.agg #[c.c0,c.c1,c.c2,c.c3,c.c4]] w fun e w'=>∃ v,e=.returned (.tuple #[v,.int .i64 q])∧SRep (fun b=>P b∨(w.heap.size≤b∧b < w'.heap.size)) w' t v∧Below w.heap.size w w':=by
 have hmf:∀ (fn:Fn) (first cap:Array Value) (w:World),(Instr.makeFunc fn first cap).run Tryz.prog w=.ok (.func fn first cap) w:=fun _ _ _ _=>rfl
 obtain ⟨c0,c1,c2,c3,c4⟩:=c
 have HTRY:=xH (tryWork_yes hrep hP hT hq)
 clear hrep hT hq hP
 go_enter Tryz.func35,Tryz.ntmps35
 go_wp2_with fail
 refine (xU HTRY).mono ?_
 rintro e w1 ⟨rfl,v,hv,⟨b0,b1,-,-⟩,hsr,hb⟩
 have HSR:=xH hsr;have HB:=xH hb
 clear hsr hb hmf
 go_wp2_with fail
 go_quiet (fail)
 go_wp2_with fail
 go_ret2
 refine ⟨v,rfl,?_,below_drewN (xU HB) _⟩
 refine SRep.carry (w:=w1) (P:=fun b=>P b∨(w.heap.size≤b∧b < w1.heap.size)) (fun _ _=>?_) (fun _ h=>h) _ _ (xU HSR)
 rfl
theorem sortTree_no (P:Nat→Prop) (w:World) (t:Tr) (c:C5) (hrep:Rep P w t c) (hP:∀ b,P b→b < w.heap.size) (hT:Tab w) (hq:wlk t 0 0=none) :
 Calls Tryz.prog 35 #[.agg #[c.c0,c.c1,c.c2,c.c3,c.c4]] w fun e w'=>e=.returned (.tuple #[.nilIface,.int .i64 0])∧Below w.heap.size w w':=by
 have hmf:∀ (fn:Fn) (first cap:Array Value) (w:World),(Instr.makeFunc fn first cap).run Tryz.prog w=.ok (.func fn first cap) w:=fun _ _ _ _=>rfl
 obtain ⟨c0,c1,c2,c3,c4⟩:=c
 have HTRY:=xH (tryWork_no hrep hP hT hq)
 clear hrep hT hq hP
 go_enter Tryz.func35,Tryz.ntmps35
 go_wp2_with fail
 refine (xU HTRY).mono ?_
 rintro e w1 ⟨rfl,hb⟩
 have HB:=xH hb
 clear hb hmf
 go_wp2_with fail
 go_ret2
 exact ⟨rfl,xU HB⟩
theorem sortTree_parts (P:Nat→Prop) (w:World) (t:Tr) (c:C5) (hrep:Rep P w t c) (hP:∀ b,P b→b < w.heap.size) (hT:Tab w) :
 Calls Tryz.prog 35 #[.agg #[c.c0,c.c1,c.c2,c.c3,c.c4]] w fun e w'=>∃ v,e=.returned (.tuple #[v,.int .i64 (if pT t 1 < 0 then 0 else pT t 1)])∧Below w.heap.size w w':=by
 by_cases h:pT t 1 < 0
 · rw [if_pos h]
   exact (sortTree_no P w t c hrep hP hT (by rw [wlk_start,if_pos h])).mono fun e w' ⟨h1,h2⟩=>⟨_,h1,h2⟩
 · rw [if_neg h]
   exact (sortTree_yes P w t c _ hrep hP hT (by rw [wlk_start,if_neg h])).mono fun e w' ⟨v,h1,_,h2⟩=>⟨v,h1,h2⟩
theorem implTreeOk_any (t:Tr) (P:Nat→Prop) (c:C5) (w:World) (hP:∀ b,P b→b < w.heap.size) (hrep:Rep P w t c) (hT:Tab w) :
 Calls Tryz.prog 29 #[.agg #[c.c0,c.c1,c.c2,c.c3,c.c4]] w fun e w'=>e=.returned (.bool (decide (0 < pT t 1)))∧Below w.heap.size w w':=by
 have hbx:∀ o,Below w.heap.size w (w.alloc o):=fun o=>(Below.refl _ _).alloc (Nat.le_refl _) o
 have hcall:∀ o,Calls Tryz.prog 35 #[.agg #[c.c0,c.c1,c.c2,c.c3,c.c4]] (w.alloc o) fun e w'=>∃ v,e=.returned (.tuple #[v,.int .i64 (if pT t 1 < 0 then 0 else pT t 1)])∧Below w.heap.size w w':=fun o =>
  (sortTree_parts P (w.alloc o) t c (Rep.carry (fun b hb=>(hbx o).block b (hP b hb)) (fun _ h=>h) _ _ hrep) (fun b hb=>Nat.lt_of_lt_of_le (hP b hb) (hbx o).size) (hT.of_block ((hbx o).block 1 hT.lt))).mono
    fun e w' ⟨v,h1,h2⟩=>⟨v,h1,(hbx o).trans (h2.mono (hbx o).size)⟩
 have hd:decide (0 < pT t 1)=decide (0 < (if pT t 1 < 0 then 0 else pT t 1)):=by
  by_cases h:pT t 1 < 0
  · rw [if_pos h];simp;omega
  · rw [if_neg h]
 rw [hd]
 generalize (if pT t 1 < 0 then 0 else pT t 1)=r at *
 have HCALL:=xH hcall
 clear hbx hcall hP hrep hT hd
 go_enter Tryz.func29,Tryz.ntmps29
 go_wp2_with (go_at_call 35;refine (xU HCALL _).mono ?_;rintro e w2 ⟨v,rfl,hb2⟩)
 go_ret
 exact ⟨rfl,hb2⟩
end Go.Proofs.YteefjeddboefcaaGreatDoor
