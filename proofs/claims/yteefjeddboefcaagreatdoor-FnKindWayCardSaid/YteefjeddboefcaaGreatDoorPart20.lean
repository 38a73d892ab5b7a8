/- A part. -/
import Derived.Test.YteefjeddboefcaaGreatDoorPart19
set_option maxRecDepth 100000
set_option maxHeartbeats 6400000
namespace Go.Proofs.YteefjeddboefcaaGreatDoor
open Go Go.RowKit
structure KInv (B:Nat) (wr:World) (vN vK:Value) (ks:List Tr) (xs:List Value) (G:List Nat):Prop where
 cells:wr.rowIs B 29 5 (row5 (.int .i64 5) (.int .i64 0) (.string ⟨#[]⟩) vN vK)
 got:GotO (B+1) wr vK ks xs G
 size:B+1≤wr.heap.size
theorem KInv.kept {B:Nat} {w w':World} {vN vK:Value} {ks:List Tr} {xs:List Value} {G:List Nat} (h:KInv B w vN vK ks xs G) (hg:w.grownBy w' none):KInv B w' vN vK ks xs G :=
 ⟨h.cells.of_block (hg.block B h.cells.lt (by simp)),h.got.kept hg,Nat.le_trans h.size hg.size⟩
theorem KInv.kid {B m:Nat} {w w':World} {vN vK v':Value} {ks:List Tr} {xs:List Value} {G F:List Nat} {t:Tr} {c:C5} (h:KInv B w vN vK ks xs G)
 (ht:Own w t c F) (hnd:F.Nodup) (hF:∀ b,b∈F→m≤b∧b < w.heap.size) (hGm:∀ b,b∈G→b < m) (hvm:∀ b,vK.ownBlock=some b→b < m) (hbm:B+1≤m)
 (hown:w'.ownsRow (B+1) 29 5 v' (ks.length+1) (xs++c5l c)) (hg:w.grownBy w' vK.ownBlock) (hv:v'.ownBlock=vK.ownBlock∨∃ g,v'.ownBlock=some g∧w.heap.size≤g) :
 KInv B (w'.setCell ⟨B,4,none⟩ v') vN v' (ks++[t]) (xs++c5l c) (G++F):=by
 have hBk:vK.ownBlock≠some B:=fun e=>by have:=(h.got.row.lt B e).1;omega
 have hset:w'.grownBy (w'.setCell ⟨B,4,none⟩ v') (some B):=⟨rfl,rfl,rfl,by simp [World.setCell],fun k _ hk=>Below.heap_setCell _ _ _ _ (fun e=>hk (by rw [e]))⟩
 have hBv:v'.ownBlock≠some B:=fun e=>by have:=(hown.lt B e).1;omega
 have hpush:=GotO.push h.got ht hnd hF hGm hvm hbm hown hg hv
 exact ⟨row5_set4 (h.cells.of_block (hg.block B h.cells.lt (fun e=>hBk e.symm))) v',hpush.other hset (fun b e=>by cases e;exact ⟨hBv,fun hm=>by have:=(hpush.lt _ hm).1;omega⟩),by have:=hg.size;have:=h.size;simp [World.setCell];omega⟩
theorem KInv.atK {B:Nat} {w w':World} {vN vK:Value} {ks:List Tr} {xs:List Value} {G:List Nat} (h:KInv B w vN vK ks xs G) {o:Obj} (hg:(w.alloc o).grownBy w' vK.ownBlock):w'.rowIs B 29 5 (row5 (.int .i64 5) (.int .i64 0) (.string ⟨#[]⟩) vN vK) :=
 (h.cells.alloc o).of_block (hg.block B (h.cells.alloc o).lt (fun e=>by have:=(h.got.row.lt B e.symm).1;omega))
theorem form1_any (t:Tr) (U:List ByteArray) (g:ByteArray→Tr) (c:C5) (w:World) (g1 g2:Nat) (na fa:Option Addr) (nc fc:Nat) (hr:Rep (fun x=>x < w.heap.size) w t c) (hrise:t.names.Pairwise nlt) (hlk:t.kids.length=t.names.length) (hl:t.names.length≤1000) (hUl:U.length≤2000) (hUz:∀ nm,nm∈U→nm.size≤1000)
 (h1:w.cell? ⟨g1,0,none⟩=some (.slice na U.length nc)) (h2:w.cell? ⟨g2,0,none⟩=some (.slice fa U.length fc)) (hst:StrsAt (fun x=>x < w.heap.size) w (.slice na U.length nc) U)
 (hfld:∀ i,(hi:i < U.length)→∃ (fb f:Nat) (caps:Array Value),fa=some ⟨fb,0,none⟩∧w.cell? ⟨fb,i,none⟩=some (.func (.func f) #[] caps)∧(∀ args w,(callFunc f args).run Tryz.prog w=.ok (.enter f args) w)∧∀ W' (d:C5),Below w.heap.size w W'→Rep (fun x=>x < W'.heap.size) W' (fldZ t U[i]) d→Calls Tryz.prog f (#[.agg #[d.c0,d.c1,d.c2,d.c3,d.c4]]++caps) W' (TE (g U[i]) W')) :
 Calls Tryz.prog 75 #[.agg #[c.c0,c.c1,c.c2,c.c3,c.c4],.pointer (some ⟨g1,0,none⟩),.pointer (some ⟨g2,0,none⟩)] w (TE (.mk 5 0 ByteArray.empty U (U.map g)) w):=by
 have HFN:Hid (∀ W' nm,Below w.heap.size w W'→Calls Tryz.prog 77 #[.agg #[c.c0,c.c1,c.c2,c.c3,c.c4],.string nm] W' fun e w'=>Below W'.heap.size W' w'∧∃ (y:C5),e=.returned (.agg #[y.c0,y.c1,y.c2,y.c3,y.c4])∧Rep (fun x=>x < w'.heap.size) w' (fldZ t nm) y):=fun W' nm hW =>
  fieldNamed_any t c W' (Rep.carry (fun x hx=>hW.block x hx) (fun x hx=>Nat.lt_of_lt_of_le hx hW.size) _ _ hr) hrise hlk hl nm
 have HCN:Hid (∀ W',Below w.heap.size w W'→Calls Tryz.prog 76 #[.slice na U.length nc] W' fun e w'=>∃ v' F,e=.returned v'∧StrsOwn w' v' U F∧F.Nodup∧(∀ b,b∈F→W'.heap.size≤b∧b < w'.heap.size)∧Below W'.heap.size W' w'):=fun W' hW =>
  copyNames_any _ U W' (P:=fun x=>x < w.heap.size) (fun b hb=>Nat.lt_of_lt_of_le hb hW.size) (hst.carry (fun b hb=>hW.block b hb) (fun _ h=>h)) (by omega) (fun x hx=>by have:=hUz x hx;omega)
 obtain ⟨a5,cap5,a6,cap6,rfl⟩:=hr.form
 obtain ⟨i0,hi,hz0,hz1,hz2⟩:=info_parts infoTreeS
 obtain ⟨hr1,hr2,hbw,hsz⟩:=wd_boxes w t.sort t.num t.text a5 a6 t.names.length cap5 t.kids.length cap6
 have hl1:=World.block_lt_of_cell? w _ h1
 have hl2:=World.block_lt_of_cell? w _ h2
 have HII:=xH hi;have HZ0:=xH hz0;have HZ1:=xH hz1;have HZ2:=xH hz2
 have HF:=xH hfld;have HST:=xH hst;have HUL:=xH hUl;have HR1:=xH hr1;have HR2:=xH hr2;have HBW:=xH hbw;have HSZ:=xH hsz;have H1:=xH h1;have H2:=xH h2;have HL1:=xH hl1;have HL2:=xH hl2;have HUZ:=xH hUz
 rw [← hbw.cell hl1] at h1
 clear hi hz0 hz1 hz2 hfld hst hUl hr1 hr2 hbw hsz hr hrise hlk hl h2 hl1 hl2 hUz
 go_enter Tryz.func75,Tryz.ntmps75
 go_wp2_with fail
 generalize ((w.alloc (.cells #[.int .i64 t.sort,.int .i64 t.num,.string t.text,.slice a5 t.names.length cap5,.slice a6 t.kids.length cap6] 29)).alloc (.cells #[.int .i64 0,.int .i64 0,.string ⟨#[]⟩,.slice none 0 0,.slice none 0 0] 29))=W0 at h1 HR1 HR2 HBW HSZ ⊢
 refine (xU HCN W0 (xU HBW)).mono ?_
 rintro e V ⟨vN,FN,rfl,hsN,hndN,hFN,hbV⟩
 obtain ⟨nA,nC,rfl,-⟩:=id hsN
 have hbwV:Below w.heap.size w V:=(xU HBW).trans (hbV.mono (xU HBW).size)
 have HSN:=xH hsN;have HNDN:=xH hndN;have HFNL:=xH hFN;have HBV:=xH hbV;have HBWV:=xH hbwV
 clear hsN hndN hFN hbV hbwV h1
 have hbA:Below V.heap.size V (V.alloc (.cells #[.int .i64 5,.int .i64 0,.string ⟨#[]⟩,.slice nA U.length nC,.slice none 0 0] 29)):=(Below.refl _ _).alloc (Nat.le_refl _) _
 have HKI:Hid (KInv V.heap.size (V.alloc (.cells #[.int .i64 5,.int .i64 0,.string ⟨#[]⟩,.slice nA U.length nC,.slice none 0 0] 29)) (.slice nA U.length nC) (.slice none 0 0) [] [] []):=⟨row5_alloc V _ _ _ _ _ _,GotO.start _ _,by simp⟩
 have HBA:=xH hbA
 clear hbA
 have h1':(V.alloc (.cells #[.int .i64 5,.int .i64 0,.string ⟨#[]⟩,.slice nA U.length nC,.slice none 0 0] 29)).cell? ⟨g1,0,none⟩=some (.slice na U.length nc):=by rw [(xU HBA).cell (Nat.lt_of_lt_of_le (xU HL1) (xU HBWV).size),(xU HBWV).cell (xU HL1)];exact xU H1
 go_wp2_with fail
 generalize (V.alloc (.cells #[.int .i64 5,.int .i64 0,.string ⟨#[]⟩,.slice nA U.length nC,.slice none 0 0] 29))=V1 at h1' HKI HBA ⊢
 clear h1'
 go_loopw [13] (fun i wr=>∃ (k:Nat) (aK:Option Addr) (capK:Nat) (xs:List Value) (G:List Nat),k≤U.length∧i=.int .i64 k∧Hid (KInv V.heap.size wr (.slice nA U.length nC) (.slice aK k capK) ((U.take k).map g) xs G)∧Hid (Below V.heap.size V wr)) (fun i _=>U.length - (intOf i).toNat)
 case atStart=>exact ⟨0,none,0,[],[],Nat.zero_le _,rfl,xU HKI,xU HBA⟩
 case round =>
  obtain ⟨k,aK,capK,xs,G,hk,rfl,HS,HB⟩:=hrel
  have hsw:=HB.out.size
  have hbw:Below w.heap.size w wr:=(xU HBWV).trans (HB.out.mono (xU HBWV).size)
  by_cases hlt:k < U.length
  · obtain ⟨na',nc',e9,-,hcs⟩:=xU HST
    simp only [Value.slice.injEq,true_and] at e9
    obtain ⟨rfl,rfl⟩:=e9
    obtain ⟨nb,no,rfl,hnbl,hcn,-⟩:=hcs k hlt
    obtain ⟨fb,f,caps,rfl,hfc,hent,hcl⟩:=xU HF k hlt
    have hfbl:=World.block_lt_of_cell? w _ hfc
    have htk:(U.take (k+1)).map g=(U.take k).map g++[g U[k]]:=by
     rw [List.take_succ_eq_append_getElem hlt,List.map_append];rfl
    have hlkl:((U.take k).map g).length=k:=by simp;omega
    have en:wr.cell? ⟨nb,no+k,none⟩=some (.string U[k]):=by rw [hbw.cell hnbl];exact hcn
    have ef:wr.cell? ⟨fb,k,none⟩=some (.func (.func f) #[] caps):=by rw [hbw.cell hfbl];exact hfc
    have ef2:wr.cell? ⟨g2,0,none⟩=some (.slice (some ⟨fb,0,none⟩) U.length fc):=by rw [hbw.cell (xU HL2)];exact xU H2
    have hrow:=((xU HR1).of_block ((xU HBV).block w.heap.size (xU HR1).lt)).of_block (HB.out.block w.heap.size (Nat.lt_of_lt_of_le (xU HR1).lt (xU HBV).size))
    obtain ⟨k0,k1,k2,k3,k4⟩:=cs5 hrow (by omega)
    have t4:=HS.out.cells.cell (i:=4) (by omega)
    simp only [row5] at k0 k1 k2 k3 k4 t4
    have hsW:V.heap.size+1≤wr.heap.size:=HS.out.size
    have hlow:w.heap.size < wr.heap.size:=hrow.lt
    have hcf:=xU HFN wr.drew U[k] hbw.drew
    have HCF:Hid (Calls Tryz.prog 77 #[.agg #[.int .i64 t.sort,.int .i64 t.num,.string t.text,.slice a5 t.names.length cap5,.slice a6 t.kids.length cap6],.string U[k]] wr.drew fun e w5=>∃ y0 y1 y2 y3 y4,e=.returned (.agg #[y0,y1,y2,y3,y4])∧Hid (Below wr.heap.size wr w5)∧Hid (Rep (fun x=>x < w5.heap.size) w5 (fldZ t U[k]) ⟨y0,y1,y2,y3,y4⟩)∧Hid (KInv V.heap.size w5 (.slice nA U.length nC) (.slice aK k capK) ((U.take k).map g) xs G)∧w5.cell? ⟨V.heap.size,4,none⟩=some (.slice aK k capK)∧w5.cell? ⟨fb,k,none⟩=some (.func (.func f) #[] caps)∧w5.cell? ⟨g2,0,none⟩=some (.slice (some ⟨fb,0,none⟩) U.length fc)):=by
     refine hcf.mono ?_
     rintro e w5 ⟨hb5,⟨y0,y1,y2,y3,y4⟩,rfl,hy⟩
     have hb5':Below wr.heap.size wr w5:=(Below.refl _ wr).drew.trans hb5
     have hs5:=HS.out.kept (w':=w5) ⟨hb5'.os,hb5'.tape,hb5'.output,hb5'.size,fun i hi _=>hb5'.block i hi⟩
     exact ⟨y0,y1,y2,y3,y4,rfl,hb5',hy,hs5,hs5.cells.cell (i:=4) (by omega),cell_onQ hb5' ef,cell_onQ hb5' ef2⟩
    have HCG:Hid (∀ w5 y0 y1 y2 y3 y4,Below wr.heap.size wr w5→Rep (fun x=>x < w5.heap.size) w5 (fldZ t U[k]) ⟨y0,y1,y2,y3,y4⟩→KInv V.heap.size w5 (.slice nA U.length nC) (.slice aK k capK) ((U.take k).map g) xs G→Calls Tryz.prog f (#[.agg #[y0,y1,y2,y3,y4]]++caps) w5 fun e w6=>∃ e0 e1 e2 a7 n7 cap7 a8 n8 cap8 F,e=.returned (.agg #[.int .i64 e0,.int .i64 e1,.string e2,.slice a7 n7 cap7,.slice a8 n8 cap8])∧Hid (Own w6 (g U[k]) ⟨.int .i64 e0,.int .i64 e1,.string e2,.slice a7 n7 cap7,.slice a8 n8 cap8⟩ F)∧F.Nodup∧Hid (∀ b,b∈F→wr.heap.size≤b∧b < w6.heap.size)∧Hid (Below wr.heap.size wr w6)∧wr.heap.size≤w6.heap.size∧Hid (KInv V.heap.size w6 (.slice nA U.length nC) (.slice aK k capK) ((U.take k).map g) xs G)∧w6.cell? ⟨V.heap.size,4,none⟩=some (.slice aK k capK)∧∀ ob,(w6.alloc ob).cell? ⟨V.heap.size,4,none⟩=some (.slice aK k capK)):=by
     intro w5 y0 y1 y2 y3 y4 hb5 hy hs5
     refine (hcl w5 ⟨y0,y1,y2,y3,y4⟩ (hbw.trans (hb5.mono hbw.size)) hy).mono ?_
     rintro e w6 ⟨d,F,rfl,ho,hn1,hl1,hb6⟩
     have hb6':Below wr.heap.size wr w6:=hb5.trans (hb6.mono hb5.size)
     obtain ⟨a7,cap7,a8,cap8,rfl⟩:=ho.forms
     have hs6:=hs5.kept (w':=w6) ⟨hb6.os,hb6.tape,hb6.output,hb6.size,fun i hi _=>hb6.block i hi⟩
     exact ⟨_,_,_,_,_,_,_,_,_,F,rfl,ho,hn1,fun b hb=>⟨Nat.le_trans hb5.size (hl1 b hb).1,(hl1 b hb).2⟩,hb6',hb6'.size,hs6,hs6.cells.cell (i:=4) (by omega),fun ob=>(hs6.cells.alloc ob).cell (i:=4) (by omega)⟩
    have HTK:=xH htk;have HLK:=xH hlkl;have HBWR:=xH hbw
    clear hcf hcl hcs hnbl hcn hfc hfbl htk hlkl hrow hbw
    generalize g U[k]=gx at *
    generalize U[k]=nm at *
    go_upto_region 5 with fail
    go_region_law (first
     | ((refine step_append_lies _ (by rfl) _ _ _ (by rfl) (V.heap.size+1) 29 i0 _ 5 80 Tryz.underlying27 (xU HII) (xU HZ0) (xU HZ1) (xU HZ2) rfl (by decide) (.slice aK k capK) k xs (by rfl) (by have:=(xU HS6).got.row;rw [xU HLK] at this;exact this.alloc _) ⟨w6.heap.size,0,none⟩ 1 1 (c5l ⟨.int .i64 e0,.int .i64 e1,.string e2,.slice a7 n7 cap7,.slice a8 n8 cap8⟩) (by rfl) (by rfl) (cell_five w6 _ _) (xU HOW).one (by decide) (by have:=xU HUL;unfold maxLen;omega) (by have:=xU HUL;omega) (by simp;omega) (w6.heap.size+1) (by simp) ?_;intro g9 cap2 w8 hown8 hgrow8 hat8 hlt8;have u4:=(KInv.atK (xU HS6) hgrow8).cell (i:=4) (by omega);have uz4:=(KInv.atK (xU HS6) hgrow8).frozen 4;simp only [row5] at u4))
     | (rw [if_pos (by first | rfl | simp [Region.wanted])];go_simp;refine (xU HCG w5 y0 y1 y2 y3 y4 (xU HB5) (xU HY5) (xU HS5)).mono ?_;rintro e w6 ⟨e0,e1,e2,a7,n7,cap7,a8,n8,cap8,F,rfl,HOW,hFn,HFL,HB6,hs6,HS6,t4c,t4d⟩)
     | (rw [if_pos (by first | rfl | simp [Region.wanted])];go_simp;refine (xU HCF).mono ?_;rintro e w5 ⟨y0,y1,y2,y3,y4,rfl,HB5,HY5,HS5,t4e,ef5,ef6⟩))
    all_goals
     have hz6:∀ o,(w6.alloc o).heap.size=w6.heap.size+1:=fun o=>World.size_alloc _ _
     have hinv8:=KInv.kid (m:=wr.heap.size) ((xU HS6).kept (World.grownBy_alloc w6 (.cells #[.int .i64 e0,.int .i64 e1,.string e2,.slice a7 n7 cap7,.slice a8 n8 cap8] 29) none)) (Own.carry gx _ F (fun b hb=>Below.heap_alloc _ _ _ (xU HFL b hb).2) (xU HOW)) hFn (fun b hb=>⟨(xU HFL b hb).1,by rw [hz6];have:=(xU HFL b hb).2;omega⟩)
      (fun b hb=>(HS.out.got.lt b hb).2.1) (fun b hb=>(HS.out.got.row.lt b hb).2) HS.out.size (by rw [xU HLK];exact hown8) hgrow8 (hat8.elim (fun e=>Or.inl (by rw [e];rfl)) (fun e=>Or.inr ⟨g9,rfl,by rw [hz6,e];exact Nat.le_refl _⟩))
     rw [← xU HTK] at hinv8
     have hb8:Below V.heap.size V (w8.setCell ⟨V.heap.size,4,none⟩ (.slice (some ⟨g9,0,none⟩) (k+1) cap2)) :=
      (((HB.out.trans ((xU HB6).mono hsw)).alloc (by omega) (.cells #[.int .i64 e0,.int .i64 e1,.string e2,.slice a7 n7 cap7,.slice a8 n8 cap8] 29)).grown hgrow8 (by rw [hz6];omega) (fun b e=>by have:=((xU HS6).got.row.lt b e).1;omega)).setCell (by simp) _
     have HI8:=xH hinv8;have HB8:=xH hb8
     have ke:=wrkU (Nat.le_trans hk (xU HUL))
     clear hinv8 hb8 hown8 hgrow8 hat8 hlt8 u4 uz4 HS6 HOW HFL HB6 t4c t4d k0 k1 k2 k3 k4 t4 HS5 HB5 HY5 t4e ef5 ef6 en ef ef2
     go_wp2_with fail
     go_roundw
     case rel=>exact ⟨k+1,some ⟨g9,0,none⟩,cap2,_,_,hlt,(by first | exact numU k | (rw [ke];exact numU k)),xU HI8,xU HB8⟩
     case measure=>first | exact measU hlt | (rw [ke];exact measU hlt)
  · obtain rfl:k=U.length:=by omega
    have hmk:(U.take U.length).map g=U.map g:=by rw [List.take_length]
    obtain ⟨F,hkids,hnd,hFl,-⟩:=HS.out.got.done
    rw [hmk] at hkids
    obtain ⟨t0,t1,t2,t3,t4⟩:=cs5 HS.out.cells (by omega)
    have hl9:=(xU HR2).lt
    have q2:=((xU HR2).of_block ((xU HBV).block (w.heap.size+1) hl9)).of_block (HB.out.block (w.heap.size+1) (Nat.lt_of_lt_of_le hl9 (xU HBV).size))
    have z:=q2.frozen
    obtain ⟨y0,y1,y2,y3,y4⟩:=cs5 q2 (by omega)
    simp only [row5] at t0 t1 t2 t3 t4 y0 y1 y2 y3 y4
    have HKD:=xH hkids;have HFL:=xH hFl;have HBX:=xH hbw;have HND:=xH hnd
    have hszv:w.heap.size+2≤V.heap.size:=by have:=(xU HBV).size;rw [xU HSZ] at this;exact this
    have HSV:=xH hszv
    clear hkids hFl q2 hmk hbw hnd hszv hl9
    go_wp2_with fail
    refine bodyPost_ret (v:=.agg #[.int .i64 5,.int .i64 0,.string ⟨#[]⟩,.slice nA U.length nC,.slice aK U.length capK]) (by simp [results,Tryz.results75,go_sem,y0,y1,y2,y3,y4]) rfl ⟨⟨_,_,_,_,_⟩,FN++F,rfl,?_,?_,?_,?_⟩
    · have hN:=(xU HSN).carry (w':=wr) (fun b hb=>HB.out.block b (xU HFNL b hb).2)
      exact Own.make (t:=.mk 5 0 ByteArray.empty U (U.map g)) rfl rfl rfl (show I64 5 from ⟨by decide,by decide⟩) (show I64 0 from ⟨by decide,by decide⟩) (by simp [Tr.text])
       (hN.carry (fun b hb=>heap_set5s _ _ _ _ _ _ _ _ (by have:=(xU HFNL b hb).1;have:=xU HSZ;omega)))
       ((xU HKD).carry (fun b hb=>heap_set5s _ _ _ _ _ _ _ _ (by have:=(xU HFL b hb).1;have:=xU HSV;omega)))
    · exact List.nodup_append.2 ⟨xU HNDN,xU HND,fun a ha b hb e=>by have:=(xU HFNL a ha).2;have:=(xU HFL b hb).1;omega⟩
    · intro b hb
      rw [size_set5s]
      rcases List.mem_append.1 hb with hb | hb
      · have h5:=xU HFNL b hb;have:=xU HSZ;exact ⟨by omega,Nat.lt_of_lt_of_le h5.2 hsw⟩
      · have h5:=xU HFL b hb;have:=xU HSV;exact ⟨by omega,h5.2⟩
    · exact below_set5s (xU HBX) _ _ _ _ _ _ (Nat.le_succ _)
end Go.Proofs.YteefjeddboefcaaGreatDoor

namespace Go.Proofs.YteefjeddboefcaaGreatDoor
open Go Go.RowKit
theorem StrsAt.bound {P:Nat→Prop} {w:World} {v:Value} {ss:List ByteArray} (h:StrsAt P w v ss):StrsAt (fun x=>P x∧x < w.heap.size) w v ss:=by
 obtain ⟨a,cap,h1,h2,h3⟩:=h
 refine ⟨a,cap,h1,h2,fun i hi=>?_⟩
 obtain ⟨b,o,h4,h5,h6,h7⟩:=h3 i hi
 exact ⟨b,o,h4,⟨h5,World.block_lt_of_cell? w _ h6⟩,h6,h7⟩
theorem uni_n {L:Nat} {Q:Nat→Nat→Prop} (hmono:∀ i n m,Q i n→n≤m→Q i m) (h:∀ i,i < L→∃ n,Q i n):∃ n,∀ i,i < L→Q i n:=by
 induction L with
 | zero=>exact ⟨0,fun i hi=>by omega⟩
 | succ L ih =>
   obtain ⟨n,hn⟩:=ih (fun i hi=>h i (by omega))
   obtain ⟨m,hm⟩:=h L (by omega)
   refine ⟨max n m,fun i hi=>?_⟩
   by_cases e:i=L
   · subst e;exact hmono _ _ _ hm (Nat.le_max_right _ _)
   · exact hmono _ _ _ (hn i (by omega)) (Nat.le_max_left _ _)
theorem cell_same {W W':World} {P:Nat→Prop} (hW:∀ x,P x→x < W.heap.size→W'.heap[x]? = W.heap[x]?) {a:Addr} {v:Value} (hP:P a.block) (h:W.cell? a=some v):W'.cell? a=some v:=by
 rw [World.cell?_of_block (w:=W) (hW a.block hP (World.block_lt_of_cell? W _ h))]
 exact h
theorem same_on {W W' W'':World} {P:Nat→Prop} (hW:∀ x,P x→x < W.heap.size→W'.heap[x]? = W.heap[x]?) (hb:Below W'.heap.size W' W''):∀ x,P x→x < W.heap.size→W''.heap[x]? = W.heap[x]? := fun x hx hl =>
 (hb.block x (lt_same (hW x hx hl) hl)).trans (hW x hx hl)
theorem app_nil (x:Value):(#[x]++#[]:Array Value)=#[x]:=rfl
theorem app_one (x y:Value):(#[x]++#[y]:Array Value)=#[x,y]:=rfl
theorem app_two (x y z:Value):(#[x]++#[y,z]:Array Value)=#[x,y,z]:=rfl
theorem gWd:GLaws GWd where
 on:=fun a b P Q W W' fv ⟨n,h⟩ h1 h2=>⟨n,h.on h1 h2⟩
 zero:=fun a b P W ha hb=>⟨1,wOk_zero ha (by omega),_,_,rfl,enW _ Tryz.func69 (by kernel_rfl) rfl,fun W' hW t c hr ht=>by
  rw [app_nil]
  exact none1_any t c 0 a b ha W' hr⟩
 leaf:=fun a b P W hab h1=>⟨1,⟨by omega,fun _=>⟨fun h=>by omega,fun h=>by omega,fun h=>by omega⟩⟩,_,_,rfl,enW _ Tryz.func70 (by kernel_rfl) rfl,fun W' hW t c hr ht=>by
  rw [app_nil]
  rcases ht with h0 | ⟨-,h2⟩
  · omega
  · exact leaf1_any t c 0 a b hab h1 W' hr (by have:=(alone_open (okH_open h2).1).1;omega)⟩
 each:=fun a b P W B fv hab ha hb hoa hob hPB hc hf ⟨n,h⟩=>by
  obtain ⟨k1,f,caps,rfl,k3,k4⟩:=h
  refine ⟨n+1,⟨by omega,fun _=>⟨fun h=>by omega,fun h=>?_,fun h=>by omega⟩⟩,_,_,rfl,enW _ Tryz.func93 (by kernel_rfl) rfl,fun W' hW t c hr ht=>?_⟩
  · rw [getD_kid ha,getD_kid hb];exact k1
  · rw [app_one,widF_each hab ha hb]
    rcases ht with h0 | ⟨h1,h2⟩
    · omega
    · obtain ⟨g1,g2,g3⟩:=hT_open h1
      obtain ⟨g4,g5⟩:=okH_open h2
      have g6:=(alone_open g4).2.1 (by omega)
      refine each1_any t (widF n a.kids[0] b.kids[0]) c W' B f caps hr (cell_same hW hPB hc) k3 (by omega) (fun i hi W'' d hb' hr'=>k4 W'' (same_on hW hb') _ d hr' (Or.inr ⟨?_,g5 i hi⟩))
      have:=g3 i hi
      rwa [kidOf_else (by omega) i ha] at this
 into:=fun a b P W B fv hb6 ha6 ha0 hb hoa hob hPB hc hf ⟨n,h⟩=>by
  obtain ⟨k1,f,caps,rfl,k3,k4⟩:=h
  refine ⟨n+1,⟨by omega,fun _=>⟨fun h=>?_,fun h=>by omega,fun h=>by omega⟩⟩,_,_,rfl,enW _ Tryz.func72 (by kernel_rfl) rfl,fun W' hW t c hr ht=>?_⟩
  · rw [getD_kid hb];exact k1
  · rw [app_one,widF_into ha0 hb6 ha6 hb]
    exact into1_any t _ c W' B f caps hr (cell_same hW hPB hc) k3 (fun W'' hb'=>k4 W'' (same_on hW hb') t c (Rep.carry (fun x hx=>hb'.block x hx) (fun x hx=>Nat.lt_of_lt_of_le hx hb'.size) _ _ hr) ht)
 form:=fun a b P W g1 g2 ha5 hb5 hla hlb hoa hob hfm=>by
  obtain ⟨na,nc,fa,fc,fvs,hp1,hp2,hc1,hc2,hst,hfl,hfs⟩:=hfm
  obtain ⟨n,hn⟩:=uni_n (L:=(uniN a.names b.names).length) (Q:=fun i n=>∀ (hi:i < (uniN a.names b.names).length) (hf:i < fvs.length),WidC n (kidZ a (uniN a.names b.names)[i]) (kidZ b (uniN a.names b.names)[i]) P W fvs[i])
   (fun i n m h hm hi hf=>(h hi hf).le hm) (fun i hi=>by
     obtain ⟨fb,-,-,-,⟨n,hn⟩,-⟩:=hfs i hi (by omega)
     exact ⟨n,fun _ _=>hn⟩)
  refine ⟨n+1,⟨by omega,fun _=>⟨fun h=>by omega,fun h=>by omega,fun _ nm hm=>?_⟩⟩,_,_,rfl,enW _ Tryz.func75 (by kernel_rfl) rfl,fun W' hW t c hr ht=>?_⟩
  · obtain ⟨i,hi,rfl⟩:=List.mem_iff_getElem.1 hm
    exact (hn i hi hi (by omega)).1
  · rw [app_two,widF_form ha5 hb5]
    rcases ht with h0 | ⟨h1,h2⟩
    · omega
    · obtain ⟨g1',g2',g3'⟩:=hT_open h1
      obtain ⟨g4,g5⟩:=okH_open h2
      obtain ⟨g6,g7⟩:=(alone_open g4).2.2 (by omega)
      have hka:a.kids.length=a.names.length:=by
       rw [okD_eq,Bool.and_eq_true] at hoa
       have:=hoa.1
       unfold shB at this
       rw [if_neg (by omega),if_neg (by omega),if_pos ha5,Bool.and_eq_true,decide_eq_true_eq] at this
       omega
      have hrb:riseB b.names=true:=by
       rw [okD_eq,Bool.and_eq_true] at hob
       have:=hob.1
       unfold shB at this
       rw [if_neg (by omega),if_neg (by omega),if_pos hb5,Bool.and_eq_true] at this
       exact this.2
      have hra:riseB a.names=true:=by rw [g2'];exact g7
      refine form1_any t (uniN a.names b.names) (fun nm=>widF n (kidZ a nm) (kidZ b nm) (fldZ t nm)) c W' g1 g2 na fa nc fc hr (rise_pairs g7) g6 (by rw [← g2'];exact hla) ?_ ?_ (cell_same hW hp1 hc1) (cell_same hW hp2 hc2) ?_ (fun i hi=>?_)
      · rw [uniN_len]
        have:=uniL_len a.names b.names
        omega
      · intro nm hm
        have:nm.size≤8:=by
         rcases (uniN_mem nm).1 hm with h | h
         · exact rise_szU hra h
         · exact rise_szU hrb h
        omega
      · exact hst.bound.carry (fun x hx=>hW x hx.1 hx.2) (fun x hx=>lt_same (hW x hx.1 hx.2) hx.2)
      · obtain ⟨fb,e1,e2,e3,-,-⟩:=hfs i hi (by omega)
        obtain ⟨k1,f,caps,k2,k3,k4⟩:=hn i hi hi (by omega)
        refine ⟨fb,f,caps,e1,?_,k3,fun W'' d hb' hr'=>k4 W'' (same_on hW hb') _ d hr' (fld_has ha5 h1 h2 hka _)⟩
        rw [← k2]
        exact cell_same hW e2 e3
end Go.Proofs.YteefjeddboefcaaGreatDoor

namespace Go.Proofs.YteefjeddboefcaaGreatDoor
open Go Go.RowKit Go.Maps Go.WideMaps
theorem kidFor_form (k:Kd) (t:Tr) (i:Nat) (P Q:Nat→Prop) (c:C4) (d:C5) (w:World) (hP:∀ b,P b→b < w.heap.size) (hQ:∀ b,Q b→b < w.heap.size) (hrep:NRep P w k c) (hrep2:Rep Q w t d)
 (h5:k.sort=5) (hne:k.names=t.names) (hnd:k.names.Nodup) (hi:i < k.kids.length) (hil:i < t.names.length) :
 Calls Tryz.prog 154 #[.agg #[c.c0,c.c1,c.c2,c.c3],.agg #[d.c0,d.c1,d.c2,d.c3,d.c4],.int .i64 i] w fun e w'=>∃ x:C4,e=.returned (.agg #[x.c0,x.c1,x.c2,x.c3])∧NRep P w' k.kids[i] x∧Below w.heap.size w w':=by
 obtain ⟨c0,c1,c2,c3⟩:=c
 obtain ⟨d0,d1,d2,d3,d4⟩:=d
 obtain ⟨e0,-,⟨a3,cap3,e1,-,-⟩,⟨B,e2,hPB,hm⟩,a,cap,e3,hlk,hks⟩:=hrep.open
 obtain ⟨g0,g1,g2,-,-,-,⟨a5,cap5,g3,-,hnc⟩,a6,cap6,g4,-,-⟩:=hrep2.open
 simp only at e0 e1 e2 e3 g0 g1 g2 g3 g4
 subst e0 e1 e2 e3 g0 g1 g2 g3 g4
 obtain ⟨nb,no,rfl,hpn,hcn,hnsz⟩:=hnc i hil
 obtain ⟨kb,ko,kc,rfl,hpk,hck,hrk⟩:=hks i hi
 obtain ⟨W0,hW0⟩:∃ W0,(((w.alloc (.cells #[.int .i64 k.sort,.slice a3 k.names.length cap3,.map (some B),.slice (some ⟨kb,ko,none⟩) k.kids.length cap] 75)).alloc (.cells #[.int .i64 t.sort,.int .i64 t.num,.string t.text,.slice (some ⟨nb,no,none⟩) t.names.length cap5,.slice a6 t.kids.length cap6] 29)).alloc (.cells #[.int .i64 0,.slice none 0 0,.map none,.slice none 0 0] 75))=W0:=⟨_,rfl⟩
 have hb0:Below w.heap.size w W0:=by rw [← hW0];exact (((Below.refl _ _).alloc (Nat.le_refl _) _).alloc (by simp) _).alloc (by simp;omega) _
 have hs0:W0.heap.size=w.heap.size+3:=by rw [← hW0];simp
 have hr0:W0.rowIs w.heap.size 75 4 (row4 (.int .i64 k.sort) (.slice a3 k.names.length cap3) (.map (some B)) (.slice (some ⟨kb,ko,none⟩) k.kids.length cap)):=by rw [← hW0];exact ((row4_alloc w _ _ _ _ _).alloc _).alloc _
 have hr1:W0.rowIs (w.heap.size+1) 29 5 (row5 (.int .i64 t.sort) (.int .i64 t.num) (.string t.text) (.slice (some ⟨nb,no,none⟩) t.names.length cap5) (.slice a6 t.kids.length cap6)):=by
  rw [← hW0]
  have q:=row5_alloc (w.alloc (.cells #[.int .i64 k.sort,.slice a3 k.names.length cap3,.map (some B),.slice (some ⟨kb,ko,none⟩) k.kids.length cap] 75)) (.int .i64 t.sort) (.int .i64 t.num) (.string t.text) (.slice (some ⟨nb,no,none⟩) t.names.length cap5) (.slice a6 t.kids.length cap6) 29
  rw [World.size_alloc] at q
  exact q.alloc _
 have hr2:W0.rowIs (w.heap.size+1+1) 75 4 (row4 (.int .i64 0) (.slice none 0 0) (.map none) (.slice none 0 0)):=by
  rw [← hW0]
  have q:=row4_alloc ((w.alloc (.cells #[.int .i64 k.sort,.slice a3 k.names.length cap3,.map (some B),.slice (some ⟨kb,ko,none⟩) k.kids.length cap] 75)).alloc (.cells #[.int .i64 t.sort,.int .i64 t.num,.string t.text,.slice (some ⟨nb,no,none⟩) t.names.length cap5,.slice a6 t.kids.length cap6] 29)) (.int .i64 0) (.slice none 0 0) (.map none) (.slice none 0 0) 75
  rw [World.size_alloc,World.size_alloc] at q
  exact q
 have hm0:NMap W0.drew B k.names:=hm.carry (hb0.drew.block B (hP B hPB))
 have hkey:keyOf Tryz.prog 9 (.string t.names[i])=some (nkey t.names[i]):=keyOf_string_mk Tryz.underlying9 (by unfold maxLen;omega)
 obtain ⟨cv,hrun,hat,-⟩:=hm0.lookup_int keyLaw Tryz.underlying70 Tryz.underlying3 (zeroInt _) hkey
 have hcv:cv=(i:Int):=by
  have h1:=at_nmap k.names hnd i (by rw [hne];exact hil) k.names.length (Nat.le_refl _) (by rw [hne];exact hil)
  have h2:k.names[i]'(by rw [hne];exact hil)=t.names[i]:=by simp only [hne]
  rw [h2] at h1
  rw [h1] at hat
  simpa using hat.symm
 subst hcv
 have k0:=hr0.cell (i:=0) (by omega);have k2:=hr0.cell (i:=2) (by omega);have k3:=hr0.cell (i:=3) (by omega)
 have t3:=hr1.cell (i:=3) (by omega)
 have z:=hr2.frozen
 obtain ⟨y0,y1,y2,y3⟩:=cs4 hr2 (by omega)
 simp only [row4,row5] at k0 k2 k3 t3 y0 y1 y2 y3
 have en:W0.cell? ⟨nb,no+i,none⟩=some (.string t.names[i]):=by rw [hb0.cell (hQ nb hpn)];exact hcn
 have hck':=hck.carry (hb0.block kb (hP kb hpk))
 obtain ⟨x0,x1,x2,x3⟩:=kc
 obtain ⟨f0,-,⟨a7,cap7,f1,-⟩,⟨B2,f2,-⟩,a8,cap8,f3,-⟩:=hrk.open
 simp only at f0 f1 f2 f3
 subst f0 f1 f2 f3
 obtain ⟨u0,u1,u2,u3⟩:=hck'
 simp only at u0 u1 u2 u3
 have HRK:=xH hrk;have HB0:=xH hb0;have HP:=xH hP
 clear hck hcn hpn hrk hb0 hP hQ hrep hrep2 hr0 hr1 hr2 hks hnc hat hm hm0 hkey hpk hPB
 have hd5:(k.sort==5)=true:=by rw [h5];rfl
 generalize k.kids[i]=kk at *
 generalize t.names[i]=nm at *
 clear h5 hnd hne
 go_enter Tryz.func154,Tryz.ntmps154
 go_wp2_with fail
 go_region
 all_goals
  go_wp2_with fail
  refine bodyPost_ret (v:=.agg #[.int .i64 kk.sort,.slice a7 kk.names.length cap7,.map (some B2),.slice a8 kk.kids.length cap8]) (by simp [results,Tryz.results154,go_sem,y0,y1,y2,y3]) rfl ⟨⟨_,_,_,_⟩,rfl,?_,?_⟩
  · exact NRep.carry (fun b hb=>(heap_set4n _ _ _ _ _ _ _ (by have:=xU HP b hb;omega)).trans ((xU HB0).drew.block b (xU HP b hb))) (fun _ h=>h) kk _ (xU HRK)
  · exact below_set4 (xU HB0).drew _ _ _ _ _ (by omega)
theorem kidFor_else (k:Kd) (t:Tr) (i:Nat) (P Q:Nat→Prop) (c:C4) (d:C5) (w:World) (hP:∀ b,P b→b < w.heap.size) (hrep:NRep P w k c) (hrep2:Rep Q w t d)
 (h5:k.sort≠5) (hi:0 < k.kids.length) :
 Calls Tryz.prog 154 #[.agg #[c.c0,c.c1,c.c2,c.c3],.agg #[d.c0,d.c1,d.c2,d.c3,d.c4],.int .i64 i] w fun e w'=>∃ x:C4,e=.returned (.agg #[x.c0,x.c1,x.c2,x.c3])∧NRep P w' k.kids[0] x∧Below w.heap.size w w':=by
 obtain ⟨c0,c1,c2,c3⟩:=c
 obtain ⟨d0,d1,d2,d3,d4⟩:=d
 obtain ⟨e0,-,⟨a3,cap3,e1,-,-⟩,⟨B,e2,hPB,hm⟩,a,cap,e3,hlk,hks⟩:=hrep.open
 obtain ⟨g0,g1,g2,-,-,-,⟨a5,cap5,g3,-,hnc⟩,a6,cap6,g4,-,-⟩:=hrep2.open
 simp only at e0 e1 e2 e3 g0 g1 g2 g3 g4
 subst e0 e1 e2 e3 g0 g1 g2 g3 g4
 obtain ⟨kb,ko,kc,rfl,hpk,hck,hrk⟩:=hks 0 hi
 obtain ⟨W0,hW0⟩:∃ W0,(((w.alloc (.cells #[.int .i64 k.sort,.slice a3 k.names.length cap3,.map (some B),.slice (some ⟨kb,ko,none⟩) k.kids.length cap] 75)).alloc (.cells #[.int .i64 t.sort,.int .i64 t.num,.string t.text,.slice a5 t.names.length cap5,.slice a6 t.kids.length cap6] 29)).alloc (.cells #[.int .i64 0,.slice none 0 0,.map none,.slice none 0 0] 75))=W0:=⟨_,rfl⟩
 have hb0:Below w.heap.size w W0:=by rw [← hW0];exact (((Below.refl _ _).alloc (Nat.le_refl _) _).alloc (by simp) _).alloc (by simp;omega) _
 have hs0:W0.heap.size=w.heap.size+3:=by rw [← hW0];simp
 have hr0:W0.rowIs w.heap.size 75 4 (row4 (.int .i64 k.sort) (.slice a3 k.names.length cap3) (.map (some B)) (.slice (some ⟨kb,ko,none⟩) k.kids.length cap)):=by rw [← hW0];exact ((row4_alloc w _ _ _ _ _).alloc _).alloc _
 have hr1:W0.rowIs (w.heap.size+1) 29 5 (row5 (.int .i64 t.sort) (.int .i64 t.num) (.string t.text) (.slice a5 t.names.length cap5) (.slice a6 t.kids.length cap6)):=by
  rw [← hW0]
  have q:=row5_alloc (w.alloc (.cells #[.int .i64 k.sort,.slice a3 k.names.length cap3,.map (some B),.slice (some ⟨kb,ko,none⟩) k.kids.length cap] 75)) (.int .i64 t.sort) (.int .i64 t.num) (.string t.text) (.slice a5 t.names.length cap5) (.slice a6 t.kids.length cap6) 29
  rw [World.size_alloc] at q
  exact q.alloc _
 have hr2:W0.rowIs (w.heap.size+1+1) 75 4 (row4 (.int .i64 0) (.slice none 0 0) (.map none) (.slice none 0 0)):=by
  rw [← hW0]
  have q:=row4_alloc ((w.alloc (.cells #[.int .i64 k.sort,.slice a3 k.names.length cap3,.map (some B),.slice (some ⟨kb,ko,none⟩) k.kids.length cap] 75)).alloc (.cells #[.int .i64 t.sort,.int .i64 t.num,.string t.text,.slice a5 t.names.length cap5,.slice a6 t.kids.length cap6] 29)) (.int .i64 0) (.slice none 0 0) (.map none) (.slice none 0 0) 75
  rw [World.size_alloc,World.size_alloc] at q
  exact q
 have k0:=hr0.cell (i:=0) (by omega);have k2:=hr0.cell (i:=2) (by omega);have k3:=hr0.cell (i:=3) (by omega)
 have t3:=hr1.cell (i:=3) (by omega)
 have z:=hr2.frozen
 obtain ⟨y0,y1,y2,y3⟩:=cs4 hr2 (by omega)
 simp only [row4,row5] at k0 k2 k3 t3 y0 y1 y2 y3
 have hck':=hck.carry (hb0.block kb (hP kb hpk))
 obtain ⟨x0,x1,x2,x3⟩:=kc
 obtain ⟨f0,-,⟨a7,cap7,f1,-⟩,⟨B2,f2,-⟩,a8,cap8,f3,-⟩:=hrk.open
 simp only at f0 f1 f2 f3
 subst f0 f1 f2 f3
 obtain ⟨u0,u1,u2,u3⟩:=hck'
 simp only [Nat.zero_mul,Nat.add_zero] at u0 u1 u2 u3
 have HRK:=xH hrk;have HB0:=xH hb0;have HP:=xH hP
 clear hck hrk hb0 hP hrep hrep2 hr0 hr1 hr2 hks hnc hm hpk hPB
 have hd5:(k.sort==5)=false:=by simpa using h5
 generalize k.kids[0]=kk at *
 clear h5
 go_enter Tryz.func154,Tryz.ntmps154
 go_wp2_with fail
 all_goals
  refine bodyPost_ret (v:=.agg #[.int .i64 kk.sort,.slice a7 kk.names.length cap7,.map (some B2),.slice a8 kk.kids.length cap8]) (by simp [results,Tryz.results154,go_sem,y0,y1,y2,y3]) rfl ⟨⟨_,_,_,_⟩,rfl,?_,?_⟩
  · exact NRep.carry (fun b hb=>(heap_set4n _ _ _ _ _ _ _ (by have:=xU HP b hb;omega)).trans ((xU HB0).block b (xU HP b hb))) (fun _ h=>h) kk _ (xU HRK)
  · exact below_set4 (xU HB0) _ _ _ _ _ (by omega)
end Go.Proofs.YteefjeddboefcaaGreatDoor

namespace Go.Proofs.YteefjeddboefcaaGreatDoor
open Go Go.RowKit Go.Maps
def d5l (d:C5):List Value:=[d.c0,d.c1,d.c2,d.c3,d.c4]
def c9l (c:C4) (d:C5):List Value:=c4l c++d5l d
def clm (K:Kd):List Tr→Nat→List (Kd × Tr)
 | [],_=>[]
 | t::r,i=>(kidOf K i,t)::clm K r (i+1)
theorem clm_len (K:Kd):∀ (l:List Tr) (i:Nat),(clm K l i).length=l.length
 | [],_=>rfl
 | t::r,i=>by rw [clm,List.length_cons,clm_len K r,List.length_cons]
theorem clm_snoc (K:Kd) (t:Tr):∀ (l:List Tr) (i:Nat),clm K (l++[t]) i=clm K l i++[(kidOf K (i+l.length),t)]
 | [],i=>by simp [clm]
 | a::r,i=>by
   rw [List.cons_append,clm,clm_snoc K t r (i+1),clm,List.cons_append,List.length_cons,show i+1+r.length=i+(r.length+1) from by omega]
theorem clm_take (K:Kd) (l:List Tr) (k:Nat) (h:k < l.length):clm K (l.take (k+1)) 0=clm K (l.take k) 0++[(kidOf K k,l[k])]:=by
 rw [List.take_succ_eq_append_getElem h,clm_snoc]
 congr 4
 simp;omega
def CRepL (P:Nat→Prop) (w:World):List (Kd × Tr)→List Value→Prop
 | [],xs=>xs=[]
 | p::r,xs=>∃ c d xs',xs=c9l c d++xs'∧NRep P w p.1 c∧Rep P w p.2 d∧CRepL P w r xs'
theorem CRepL.snoc {P:Nat→Prop} {w:World} {ps:List (Kd × Tr)} {xs:List Value} {k:Kd} {t:Tr} {c:C4} {d:C5} (h:CRepL P w ps xs) (hk:NRep P w k c) (ht:Rep P w t d):CRepL P w (ps++[(k,t)]) (xs++c9l c d):=by
 induction ps generalizing xs with
 | nil =>
   have h':xs=[]:=h
   subst h'
   exact ⟨c,d,[],by simp,hk,ht,rfl⟩
 | cons a r ih =>
   obtain ⟨c',d',xs',rfl,h1,h2,h3⟩:=h
   exact ⟨c',d',xs'++c9l c d,by simp,h1,h2,ih h3⟩
theorem CRepL.carry {P Q:Nat→Prop} {w w':World} {ps:List (Kd × Tr)} {xs:List Value} (h:CRepL P w ps xs) (hP:∀ b,P b→w'.heap[b]? = w.heap[b]?) (hQ:∀ b,P b→Q b):CRepL Q w' ps xs:=by
 induction ps generalizing xs with
 | nil=>exact h
 | cons a r ih =>
   obtain ⟨c',d',xs',rfl,h1,h2,h3⟩:=h
   exact ⟨c',d',xs',rfl,NRep.carry hP hQ _ _ h1,Rep.carry hP hQ _ _ h2,ih h3⟩
theorem CRepL.get {P:Nat→Prop} {w:World} {g:Nat} {ps:List (Kd × Tr)} {xs:List Value} {o:Nat} (h:CRepL P w ps xs) (hc:∀ j u,xs[j]? = some u→w.cell? ⟨g,o+j,none⟩=some u) (i:Nat) (hi:i < ps.length) :
 ∃ c d,C4.at w g (o+i * 9) c∧C5.at w g (o+i * 9+4) d∧NRep P w ps[i].1 c∧Rep P w ps[i].2 d:=by
 induction ps generalizing xs o i with
 | nil=>simp at hi
 | cons a r ih =>
   obtain ⟨c',d',xs',rfl,h1,h2,h3⟩:=h
   match i with
   | 0 =>
     refine ⟨c',d',?_,?_,h1,h2⟩
     · rw [Nat.zero_mul,Nat.add_zero];exact ⟨hc 0 _ rfl,hc 1 _ rfl,hc 2 _ rfl,hc 3 _ rfl⟩
     · rw [Nat.zero_mul,Nat.add_zero];exact ⟨hc 4 _ rfl,hc 5 _ rfl,hc 6 _ rfl,hc 7 _ rfl,hc 8 _ rfl⟩
   | i+1 =>
     obtain ⟨c,d,q1,q2,q3,q4⟩:=ih (o:=o+9) h3 (fun j u hj=>by
      have:=hc (9+j) u (by
       rw [List.getElem?_append_right (by simp [c9l,c4l,d5l]),show 9+j - (c9l c' d').length=j from by simp [c9l,c4l,d5l]];exact hj)
      rw [show o+9+j=o+(9+j) from by omega];exact this) i (by simpa using hi)
     exact ⟨c,d,by rw [show o+(i+1) * 9=o+9+i * 9 from by omega];exact q1,by rw [show o+(i+1) * 9+4=o+9+i * 9+4 from by omega];exact q2,q3,q4⟩
theorem cell_nine (w:World) (c:C4) (d:C5) (t:TypeId):∀ j u,(c9l c d)[j]? = some u→(w.alloc (.cells #[c.c0,c.c1,c.c2,c.c3,d.c0,d.c1,d.c2,d.c3,d.c4] t)).cell? ((⟨w.heap.size,0,none⟩:Addr).add j)=some u:=by
 intro j u hj
 have hrow:=row9_alloc w c d t
 rw [Addr.add_lit,Nat.zero_add]
 match j with
 | 0=>rw [hrow.cell (by omega)];exact hj
 | 1=>rw [hrow.cell (by omega)];exact hj
 | 2=>rw [hrow.cell (by omega)];exact hj
 | 3=>rw [hrow.cell (by omega)];exact hj
 | 4=>rw [hrow.cell (by omega)];exact hj
 | 5=>rw [hrow.cell (by omega)];exact hj
 | 6=>rw [hrow.cell (by omega)];exact hj
 | 7=>rw [hrow.cell (by omega)];exact hj
 | 8=>rw [hrow.cell (by omega)];exact hj
 | j+9=>simp [c9l,c4l,d5l] at hj
end Go.Proofs.YteefjeddboefcaaGreatDoor

namespace Go.Proofs.YteefjeddboefcaaGreatDoor
open Go Go.RowKit Go.Maps Go.WideMaps
theorem infoClaim:(Tryz.prog.info? 77).map (fun i=>(i.zero,i.size,i.bytes))=some (some (.agg #[.int .i64 0,.slice none 0 0,.map none,.slice none 0 0,.int .i64 0,.int .i64 0,.string ByteArray.empty,.slice none 0 0,.slice none 0 0]),9,144):=by kernel_rfl
theorem kidFor_any (k:Kd) (t:Tr) (i:Nat) (P:Nat→Prop) (c:C4) (d:C5) (w:World) (hP:∀ b,P b→b < w.heap.size) (hrep:NRep P w k c) (hrep2:Rep P w t d)
 (hk:shB k=true) (ht:aloneB t=true) (hs:k.sort=t.sort) (hne:k.names=t.names) (hi:i < t.kids.length) :
 Calls Tryz.prog 154 #[.agg #[c.c0,c.c1,c.c2,c.c3],.agg #[d.c0,d.c1,d.c2,d.c3,d.c4],.int .i64 i] w fun e w'=>∃ x:C4,e=.returned (.agg #[x.c0,x.c1,x.c2,x.c3])∧NRep P w' (kidOf k i) x∧Below w.heap.size w w':=by
 obtain ⟨h0,h5⟩:=kid_at hk ht hs hne hi
 by_cases e:k.sort=5
 · have hr:riseB k.names=true∧k.kids.length=k.names.length:=by
    rcases shB_cases hk with ⟨h,-⟩ | ⟨h,-⟩ | ⟨-,h2,h⟩
    · omega
    · omega
    · exact ⟨h,h2⟩
   rw [kidOf_form e (h5 e)]
   exact kidFor_form k t i P P c d w hP hP hrep hrep2 e hne (rise_nodup hr.1) (h5 e) (by rw [← hne,← hr.2];exact h5 e)
 · rw [kidOf_else e i h0]
   exact kidFor_else k t i P P c d w hP hrep hrep2 e h0
theorem nine_one {P:Nat→Prop} {w:World} {k:Kd} {t:Tr} {c:C4} {d:C5} (h:NRep P w k c) (h2:Rep P w t d):∀ u∈c9l c d,u.oneCell'=true:=by
 intro u hu
 rcases List.mem_append.1 hu with hu | hu
 · exact h.one u hu
 · obtain ⟨r0,r1,r2,-,-,-,⟨aa,capa,r3,-⟩,ab,capb,r4,-⟩:=h2.open
   simp only [d5l,r0,r1,r2,r3,r4,List.mem_cons,List.not_mem_nil,or_false] at hu
   rcases hu with rfl | rfl | rfl | rfl | rfl <;> rfl
theorem claimKids_any (k:Kd) (t:Tr) (P:Nat→Prop) (c:C4) (d:C5) (w:World) (hP:∀ b,P b→b < w.heap.size) (hrep:NRep P w k c) (hrep2:Rep P w t d)
 (hk:shB k=true) (ht:aloneB t=true) (hs:k.sort=t.sort) (hne:k.names=t.names) (hlen:t.kids.length≤1000000) :
 Calls Tryz.prog 155 #[.agg #[c.c0,c.c1,c.c2,c.c3,d.c0,d.c1,d.c2,d.c3,d.c4]] w fun e w'=>∃ a cap xs,e=.returned (.slice a t.kids.length cap)∧w'.ownsRow (w.heap.size+1) 77 9 (.slice a t.kids.length cap) t.kids.length xs∧CRepL P w' (clm k t.kids 0) xs∧Below w.heap.size w w':=by
 have hkf:=fun (i:Nat) (hi:i < t.kids.length) (W:World) (hW:Below w.heap.size w W)=>kidFor_any k t i P c d W (fun b hb=>Nat.lt_of_lt_of_le (hP b hb) hW.size) (NRep.carry (fun b hb=>hW.block b (hP b hb)) (fun _ h=>h) _ _ hrep) (Rep.carry (fun b hb=>hW.block b (hP b hb)) (fun _ h=>h) _ _ hrep2) hk ht hs hne hi
 obtain ⟨c0,c1,c2,c3⟩:=c
 obtain ⟨d0,d1,d2,d3,d4⟩:=d
 obtain ⟨e0,-,⟨a3,cap3,e1,-,-⟩,⟨B,e2,-,-⟩,a,cap,e3,-,-⟩:=hrep.open
 obtain ⟨g0,g1,g2,-,-,-,⟨a5,cap5,g3,-,-⟩,a6,cap6,g4,-,hks⟩:=hrep2.open
 simp only at e0 e1 e2 e3 g0 g1 g2 g3 g4
 subst e0 e1 e2 e3 g0 g1 g2 g3 g4
 obtain ⟨i0,hi,hz0,hz1,hz2⟩:=info_parts infoClaim
 have HKF:=xH hkf;have HP:=xH hP;have HK:=xH hks
 have HII:=xH hi;have HZ0:=xH hz0;have HZ1:=xH hz1;have HZ2:=xH hz2
 clear hkf hP hks hrep hrep2 hk ht hs hne hi hz0 hz1 hz2
 go_enter Tryz.func155,Tryz.ntmps155
 go_wp2_with fail
 have hr0:=row9_alloc w ⟨.int .i64 k.sort,.slice a3 k.names.length cap3,.map (some B),.slice a k.kids.length cap⟩ ⟨.int .i64 t.sort,.int .i64 t.num,.string t.text,.slice a5 t.names.length cap5,.slice a6 t.kids.length cap6⟩ 77
 simp only at hr0
 have hb0:Below w.heap.size w (w.alloc (.cells #[.int .i64 k.sort,.slice a3 k.names.length cap3,.map (some B),.slice a k.kids.length cap,.int .i64 t.sort,.int .i64 t.num,.string t.text,.slice a5 t.names.length cap5,.slice a6 t.kids.length cap6] 77)):=(Below.refl _ _).alloc (Nat.le_refl _) _
 have hs0:(w.alloc (.cells #[.int .i64 k.sort,.slice a3 k.names.length cap3,.map (some B),.slice a k.kids.length cap,.int .i64 t.sort,.int .i64 t.num,.string t.text,.slice a5 t.names.length cap5,.slice a6 t.kids.length cap6] 77)).heap.size=w.heap.size+1:=by simp
 generalize (w.alloc (.cells #[.int .i64 k.sort,.slice a3 k.names.length cap3,.map (some B),.slice a k.kids.length cap,.int .i64 t.sort,.int .i64 t.num,.string t.text,.slice a5 t.names.length cap5,.slice a6 t.kids.length cap6] 77))=W0 at *
 have HR0:=xH hr0;have HB0:=xH hb0
 clear hr0 hb0
 go_loopw [3,10] (fun s i wr=>∃ (j:Nat) (a':Option Addr) (cap':Nat) (xs:List Value),j≤t.kids.length∧i=.int .i64 j∧s=.slice a' j cap'∧Hid (wr.ownsRow (w.heap.size+1) 77 9 (.slice a' j cap') j xs)∧Hid (CRepL P wr (clm k (t.kids.take j) 0) xs)∧Hid (Below (w.heap.size+1) W0 wr)) (fun _ i _=>t.kids.length - (intOf i).toNat)
 case atStart=>exact ⟨0,none,0,[],Nat.zero_le _,rfl,rfl,World.ownsRow_nil _ _ _ _,rfl,Below.refl _ _⟩
 case round =>
  obtain ⟨j,a',cap',xs,hj,rfl,rfl,HOWN,HCL,HB⟩:=hrel
  have hbw:Below w.heap.size w wr:=(xU HB0).trans (HB.out.mono (by omega))
  have hsw:=HB.out.size
  by_cases hlt:j < t.kids.length
  · obtain ⟨mb,mo,mc,rfl,hpm,hcm,hrm⟩:=xU HK j hlt
    have hcm':=hcm.carry (hbw.block mb (xU HP mb hpm))
    obtain ⟨m0,m1,m2,m3,m4⟩:=mc
    obtain ⟨r0,r1,r2,-,-,-,⟨aa,capa,r3,-⟩,ab,capb,r4,-⟩:=hrm.open
    simp only at r0 r1 r2 r3 r4
    subst r0 r1 r2 r3 r4
    obtain ⟨x0,x1,x2,x3,x4⟩:=hcm'
    simp only at x0 x1 x2 x3 x4
    have hrw:Rep P wr t.kids[j] ⟨_,_,_,_,_⟩:=Rep.carry (fun b hb=>hbw.block b (xU HP b hb)) (fun _ h=>h) _ _ hrm
    have q0:=(xU HR0).of_block (HB.out.block w.heap.size (by omega))
    have p0:=fun o=>(q0.alloc o).cell (i:=0) (by omega);have p1:=fun o=>(q0.alloc o).cell (i:=1) (by omega);have p2:=fun o=>(q0.alloc o).cell (i:=2) (by omega);have p3:=fun o=>(q0.alloc o).cell (i:=3) (by omega);have p4:=fun o=>(q0.alloc o).cell (i:=4) (by omega);have p5:=fun o=>(q0.alloc o).cell (i:=5) (by omega);have p6:=fun o=>(q0.alloc o).cell (i:=6) (by omega);have p7:=fun o=>(q0.alloc o).cell (i:=7) (by omega);have p8:=fun o=>(q0.alloc o).cell (i:=8) (by omega)
    simp only [row9] at p0 p1 p2 p3 p4 p5 p6 p7 p8
    have hba:∀ ob,Below w.heap.size w (wr.alloc ob).drew:=fun ob=>(hbw.alloc hbw.size ob).drew
    have hrB:=row5_alloc wr (.int .i64 t.kids[j].sort) (.int .i64 t.kids[j].num) (.string t.kids[j].text) (.slice aa t.kids[j].names.length capa) (.slice ab t.kids[j].kids.length capb) 29
    have hcall:Calls Tryz.prog 154 #[.agg #[.int .i64 k.sort,.slice a3 k.names.length cap3,.map (some B),.slice a k.kids.length cap],.agg #[.int .i64 t.sort,.int .i64 t.num,.string t.text,.slice a5 t.names.length cap5,.slice (some ⟨mb,mo,none⟩) t.kids.length cap6],.int .i64 j] (wr.alloc (.cells #[.int .i64 t.kids[j].sort,.int .i64 t.kids[j].num,.string t.kids[j].text,.slice aa t.kids[j].names.length capa,.slice ab t.kids[j].kids.length capb] 29)).drew fun e w6=>∃ n0 a7 n1 cap7 B2 a8 n2 cap8,e=.returned (.agg #[.int .i64 n0,.slice a7 n1 cap7,.map (some B2),.slice a8 n2 cap8])∧Hid (NRep P w6 (kidOf k j) ⟨.int .i64 n0,.slice a7 n1 cap7,.map (some B2),.slice a8 n2 cap8⟩)∧Hid (Below wr.heap.size wr w6)∧wr.heap.size≤w6.heap.size∧Hid (w6.ownsRow (w.heap.size+1) 77 9 (.slice a' j cap') j xs)∧w6.cell? ⟨wr.heap.size,0,none⟩=some (.int .i64 t.kids[j].sort)∧w6.cell? ⟨wr.heap.size,1,none⟩=some (.int .i64 t.kids[j].num)∧w6.cell? ⟨wr.heap.size,2,none⟩=some (.string t.kids[j].text)∧w6.cell? ⟨wr.heap.size,3,none⟩=some (.slice aa t.kids[j].names.length capa)∧w6.cell? ⟨wr.heap.size,4,none⟩=some (.slice ab t.kids[j].kids.length capb):=by
     refine (xU HKF j hlt _ (hba _)).mono ?_
     rintro e w6 ⟨⟨y0,y1,y2,y3⟩,rfl,hnr,hb6⟩
     obtain ⟨f0,-,⟨a7,cap7,f1,-⟩,⟨B2,f2,-⟩,a8,cap8,f3,-⟩:=hnr.open
     simp only at f0 f1 f2 f3
     subst f0 f1 f2 f3
     have q6:=hrB.of_block (hb6.block wr.heap.size (by show wr.heap.size < (wr.alloc _).heap.size;simp))
     have hb6':Below wr.heap.size wr w6:=(((Below.refl wr.heap.size wr).alloc (Nat.le_refl _) _).drew).trans (hb6.mono (((Below.refl wr.heap.size wr).alloc (Nat.le_refl _) _).drew).size)
     exact ⟨_,_,_,_,_,_,_,_,rfl,hnr,hb6',hb6'.size,HOWN.out.kept (row:=none) ⟨hb6'.os,hb6'.tape,hb6'.output,hb6'.size,fun i hi _=>hb6'.block i hi⟩ (by rcases e:(Value.slice a' j cap').ownBlock with _ | g <;> simp),q6.cell (i:=0) (by omega),q6.cell (i:=1) (by omega),q6.cell (i:=2) (by omega),q6.cell (i:=3) (by omega),q6.cell (i:=4) (by omega)⟩
    have htk:=clm_take k t.kids j hlt
    have hcl:(clm k (t.kids.take j) 0).length=j:=by rw [clm_len];simp;omega
    have HCALL:=xH hcall;have HTK:=xH htk;have HRW:=xH hrw;have HBW:=xH hbw
    clear hcall htk hrw hbw hrB hba q0 hcm hrm hpm
    go_wp2_with fail
    go_region_law (first
     | ((refine step_append_lies _ (by rfl) _ _ _ (by rfl) (w.heap.size+1) 77 i0 _ 9 144 Tryz.underlying145 (xU HII) (xU HZ0) (xU HZ1) (xU HZ2) rfl (by decide) (.slice a' j cap') j xs (by rfl) ((xU HOWN6).alloc _) ⟨w6.heap.size,0,none⟩ 1 1 (c9l ⟨.int .i64 n0,.slice a7 n1 cap7,.map (some B2),.slice a8 n2 cap8⟩ ⟨.int .i64 t.kids[j].sort,.int .i64 t.kids[j].num,.string t.kids[j].text,.slice aa t.kids[j].names.length capa,.slice ab t.kids[j].kids.length capb⟩) (by rfl) (by rfl) (cell_nine w6 _ _ _) (nine_one (xU HNR) (xU HRT6)) (by decide) (by unfold maxLen;omega) (by omega) (by simp;omega) (w6.heap.size+1) (by simp) ?_;intro g2 cap2 w8 hown8 hgrow8 hat8 hlt8))
     | (rw [if_pos (by first | rfl | simp [Region.wanted])];go_simp;refine (xU HCALL).mono ?_;rintro e w6 ⟨n0,a7,n1,cap7,B2,a8,n2,cap8,rfl,HNR,HB6,hs6,HOWN6,l0,l1,l2,l3,l4⟩;have HRT6:Hid (Rep P w6 t.kids[j] ⟨.int .i64 t.kids[j].sort,.int .i64 t.kids[j].num,.string t.kids[j].text,.slice aa t.kids[j].names.length capa,.slice ab t.kids[j].kids.length capb⟩):=Rep.carry (fun b hb=>(xU HB6).block b (by have:=xU HP b hb;have:=(xU HBW).size;omega)) (fun _ h=>h) _ _ (xU HRW)))
    all_goals
     have hz6:∀ o,(w6.alloc o).heap.size=w6.heap.size+1:=fun o=>World.size_alloc _ _
     have hk6:∀ b,P b→w8.heap[b]? = w6.heap[b]? := fun b hb=>by
      have hbl:=xU HP b hb
      have hbs:=(xU HBW).size
      rw [hgrow8.block b (by rw [hz6];omega) (fun e=>by have:=((xU HOWN6).lt b e.symm).1;omega)]
      exact Below.heap_alloc _ _ _ (by omega)
     have hkr:∀ b,P b→w8.heap[b]? = wr.heap[b]? := fun b hb=>(hk6 b hb).trans ((xU HB6).block b (by have:=xU HP b hb;have:=(xU HBW).size;omega))
     have hcl8:=CRepL.snoc (HCL.out.carry hkr (fun _ h=>h)) (NRep.carry hk6 (fun _ h=>h) _ _ (xU HNR)) (Rep.carry hk6 (fun _ h=>h) _ _ (xU HRT6))
     rw [← xU HTK] at hcl8
     have hb8:Below (w.heap.size+1) W0 w8 :=
      ((HB.out.trans ((xU HB6).mono (by omega))).alloc (by omega) (.cells #[.int .i64 n0,.slice a7 n1 cap7,.map (some B2),.slice a8 n2 cap8,.int .i64 t.kids[j].sort,.int .i64 t.kids[j].num,.string t.kids[j].text,.slice aa t.kids[j].names.length capa,.slice ab t.kids[j].kids.length capb] 77)).grown hgrow8 (by rw [hz6];omega) (fun b e=>((xU HOWN6).lt b e).1)
     have HO8:=xH hown8;have HC8:=xH hcl8;have HB8:=xH hb8
     clear hown8 hcl8 hb8 hgrow8 hat8 hlt8 hk6 hkr hz6 l0 l1 l2 l3 l4 p0 p1 p2 p3 p4 p5 p6 p7 p8
     go_wp2_with fail
     go_roundw
     case rel=>exact ⟨j+1,some ⟨g2,0,none⟩,cap2,_,by omega,by go_num,rfl,xU HO8,xU HC8,xU HB8⟩
     case measure=>simp [intOf];omega
  · obtain rfl:j=t.kids.length:=by omega
    have HBW:=xH hbw
    clear hbw
    go_wp2_with fail
    go_ret
    have hcl:=HCL.out
    rw [List.take_length] at hcl
    exact ⟨a',cap',xs,rfl,HOWN.out,hcl,xU HBW⟩
end Go.Proofs.YteefjeddboefcaaGreatDoor

namespace Go.Proofs.YteefjeddboefcaaGreatDoor
open Go Go.RowKit
def SeqH {α:Type} (n:Nat) (P:Program) (gf:Nat) (lb:Array Value) (encs:α→Array Value) (H:α→Prop) (Kp:World→World→Prop) (S Sp:List α→Prop) (w:World):Prop :=
 ∀ (l:Nat) (J Jx:List α→World→Prop) (W:World),Below w.heap.size w W→(∀ s A B,J s A→A.grownBy B none→J s B)→(∀ pre x V,J (pre++[x]) V→H x) →
   (∀ pre x V,J pre V→YieldAt Fence.wide (n - 1) P l (encs x) V fun e V'=>(e=.returned (.bool true)∧J (pre++[x]) V'∧Kp V V')∨(e=.returned (.bool false)∧Jx (pre++[x]) V')) →
   J [] W→CallsIn Fence.wide n P gf (#[.func (.yield l) #[] #[]]++lb) W fun e W'=>(∃ v,e=.returned v)∧((∃ xs,S xs∧J xs W')∨∃ pre,Sp pre∧Jx pre W')
def postH {α:Type} (B:Nat) (Kp:World→World→Prop) (I Ix:List α→World→Prop) (xs:List α) (W:World):Exit→Act→World→Prop
 | .normal,_,W'=>KeepsFrom B W W'∧Kp W W'∧I xs W'
 | .ret,_,W'=>KeepsFrom B W W'∧Ix xs W'
 | _,_,_=>False
theorem range_H {α:Type} {n:Nat} {P:Program} {g:Operand} {ps:Array Tmp} {assign body:Code} {Q:Exit→Act→World→Prop} {a:Act} {w:World} (h1:1≤n) {gf:Nat} {lb:Array Value}
 (hg:a.eval g=.func (.func gf) #[] lb) (eg:∀ args w,(callFunc gf args).run P w=.ok (.enter gf args) w) {encs:α→Array Value} {H:α→Prop} {Kp:World→World→Prop} {S Sp:List α→Prop}
 (hseq:SeqH (n - 1) P gf lb encs H Kp S Sp w) (hKt:∀ {A B C:World},Kp A B→Kp B C→Kp A C)
 (hKb:∀ (W:World) (l:Nat) (o o':Obj),w.heap.size≤l→W.heap[l]? = some o→o.isCells=false→o.isWalk=false→Kp W (W.putObj l o')) (hps:∀ x,(encs x).size=ps.size)
 (I Ix:List α→World→Prop) (hI:OwnFrom w.heap.size I) (hIx:OwnFrom w.heap.size Ix) (hHy:∀ pre x W,I (pre++[x]) W→H x) (h0:I [] w)
 (Ax:α→Act→World→Prop) (hAx:∀ x a',OwnFrom w.heap.size (fun (_:Unit) W=>Ax x a' W))
 (hassign:∀ (l:Nat) (pre:List α) (x:α) (W:World) (K:Act→World→Prop),I pre W→(∀ a' W',KeepsFrom w.heap.size W W'→Kp W W'→I pre W'→Ax x a' W'→K a' W') →
   assign.wpIn (Fence.wide.inRound l) (n - 1 - 1) P (Exit.then K (fun _ _ _=>False)) { tmps:=(ps.zip (encs x)).foldl (fun t (p,v)=>t.setIfInBounds p v) a.tmps,defers:=[] } W)
 (hbody:∀ (l:Nat) (pre:List α) (x:α) (a':Act) (W:World),I pre W→Ax x a' W→body.wpIn (Fence.wide.inRound l) (n - 1 - 1) P (postH w.heap.size Kp I Ix (pre++[x]) W) a' W)
 (hdone:∀ (xs:List α) (W:World),S xs→I xs W→W.heap[w.heap.size]? = some (.deferred (some []))→Q .normal { a with defers:={ target:=.collected w.heap.size,args:=#[] }::a.defers } W)
 (hstop:∀ (pre:List α) (W:World),Sp pre→Ix pre W→W.heap[w.heap.size]? = some (.deferred (some []))→Code.ret.wpIn Fence.wide n P Q { a with defers:={ target:=.collected w.heap.size,args:=#[] }::a.defers } W) :
 (Code.rangeFunc g ps assign body).wpIn Fence.wide n P Q a w:=by
 refine wpIn_rangeFunc fun fn hfn=>?_
 obtain ⟨R,hR⟩:∃ R:LoopState→Option Code→Loop,∀ s p,R s p={ state:=s,pending:=p,fn,tmps:=a.tmps,params:=ps,assign,body,defers:=w.heap.size }:=⟨_,fun _ _=>rfl⟩
 have hsz:((w.alloc (.deferred (some []))).alloc (.loop (R .ready none))).heap.size=w.heap.size+2:=by simp
 have hL:((w.alloc (.deferred (some []))).alloc (.loop (R .ready none))).heap[w.heap.size+1]? = some (.loop (R .ready none)):=by
  have:=World.alloc_heap_new (w.alloc (.deferred (some []))) (.loop (R .ready none));rwa [World.size_alloc] at this
 have hD:((w.alloc (.deferred (some []))).alloc (.loop (R .ready none))).heap[w.heap.size]? = some (.deferred (some [])) :=
  (Below.heap_alloc _ _ _ (by simp)).trans (World.alloc_heap_new w _)
 refine ⟨w.heap.size+1,[{ target:=.collected w.heap.size,args:=#[] }],(w.alloc (.deferred (some []))).alloc (.loop (R .ready none)),{ target:=.fn (.func gf) lb,args:=#[.func (.yield (w.heap.size+1)) #[] #[]] },(w.alloc (.deferred (some []))).alloc (.loop (R .ready none)),gf,
  #[.func (.yield (w.heap.size+1)) #[] #[]]++lb,(w.alloc (.deferred (some []))).alloc (.loop (R .ready none)),by rw [hR];exact run_enterLoop_outer _ _ _ _ _,?_,fun _ _=>trivial,?_,fun _=>h1,?_⟩
 · simp only [resolve,hg]
   simp [go_sem]
 · simp [invoke,go_sem,eg]
 refine (hseq (w.heap.size+1) (fun pre W=>I pre W∧W.heap[w.heap.size+1]? = some (.loop (R .ready none))∧W.heap[w.heap.size]? = some (.deferred (some [])))
  (fun pre W=>Ix pre W∧W.heap[w.heap.size+1]? = some (.loop (R .done (some .ret)))∧W.heap[w.heap.size]? = some (.deferred (some []))) _
  (((Below.refl _ w).alloc (Nat.le_refl _) _).alloc (by simp) _)
  (fun s A B hs hg'=>⟨hI s A B none hs.1 hg' (fun r e=>by cases e),(hg'.block _ (Array.getElem?_eq_some_iff.1 hs.2.1).1 (by simp)).trans hs.2.1,(hg'.block _ (Array.getElem?_eq_some_iff.1 hs.2.2).1 (by simp)).trans hs.2.2⟩)
  (fun pre x V hV=>hHy pre x V hV.1) ?round ⟨hI.alloc _ (hI.alloc _ h0),hL,hD⟩).mono ?behind
 case behind =>
  rintro e W2 ⟨⟨v,rfl⟩,⟨xs,hS,hi,hl,hd⟩ | ⟨pre,hSp,hi,hl,hd⟩⟩
  · have:=run_endLoop (P:=P) hl (by rw [hR];simp)
    exact ⟨_,_,this,by rw [hR];exact hdone xs _ hS (hI.putObj _ hi (by omega) hl rfl) ((World.putObj_heap_other (by omega)).trans hd)⟩
  · have:=run_endLoop (P:=P) hl (by rw [hR];simp)
    exact ⟨_,_,this,by rw [hR];exact hstop pre _ hSp (hIx.putObj _ hi (by omega) hl rfl) ((World.putObj_heap_other (by omega)).trans hd)⟩
 case round =>
  rintro pre x W ⟨hi,hl,hd⟩
  have hy:=run_yield (P:=P) (args:=encs x) hl (by rw [hR];exact hps x)
  rw [hR] at hy
  refine ⟨fn,_,assign,body,hy,roundIn_of_wpIn hfn (hassign _ pre x W _ hi ?_)⟩
  intro a' V hkf hkp hiV hax
  have hlV:=hkf.same _ _ (by omega) hl rfl
  have hdV:=hkf.same _ _ (Nat.le_refl _) hd rfl
  have hlt:=(Array.getElem?_eq_some_iff.1 hlV).1
  refine ⟨_,run_beginRound hlV (by rw [hR]),?_⟩
  have hl2:(V.putObj (w.heap.size+1) (.loop { R .ready none with state:=.busy })).heap[w.heap.size+1]? = some (.loop { R .ready none with state:=.busy }):=World.putObj_heap_same hlt
  have hd2:(V.putObj (w.heap.size+1) (.loop { R .ready none with state:=.busy })).heap[w.heap.size]? = some (.deferred (some [])):=(World.putObj_heap_other (by omega)).trans hdV
  refine wpIn_mono (hbody _ pre x a' _ (hI.putObj _ hiV (by omega) hlV rfl) ((hAx x a').putObj (s:=()) _ hax (by omega) hlV rfl)) ?_
  rintro e a3 W3 hp
  cases e with
  | normal =>
    obtain ⟨hk3,hkp3,hi3⟩:=hp
    have hl3:=hk3.same _ _ (by omega) hl2 rfl
    have hlt3:=(Array.getElem?_eq_some_iff.1 hl3).1
    refine ⟨_,_,run_endRound (P:=P) none hl3,.inl ⟨rfl,⟨hI.putObj _ hi3 (by omega) hl3 rfl,?_,(World.putObj_heap_other (by omega)).trans (hk3.same _ _ (Nat.le_refl _) hd2 rfl)⟩,hKt hkp (hKt (hKt (hKb _ _ _ _ (by omega) hlV rfl rfl) hkp3) (hKb _ _ _ _ (by omega) hl3 rfl rfl))⟩⟩
    rw [World.putObj_heap_same hlt3];simp only [hR];rfl
  | ret =>
    obtain ⟨hk3,hi3⟩:=hp
    have hl3:=hk3.same _ _ (by omega) hl2 rfl
    have hlt3:=(Array.getElem?_eq_some_iff.1 hl3).1
    refine ⟨_,_,run_endRound (P:=P) (some .ret) hl3,.inr ⟨rfl,hIx.putObj _ hi3 (by omega) hl3 rfl,?_,(World.putObj_heap_other (by omega)).trans (hk3.same _ _ (Nat.le_refl _) hd2 rfl)⟩⟩
    rw [World.putObj_heap_same hlt3];simp only [hR];rfl
  | exit id=>exact hp.elim
  | goto t=>exact hp.elim
  | panic ch=>exact hp.elim
  | outgrown=>exact hp.elim
end Go.Proofs.YteefjeddboefcaaGreatDoor
