/- A part. -/
import Derived.Test.YteikmbkljkkjiaaSart29
set_option maxRecDepth 100000
set_option maxHeartbeats 3200000
namespace Go.Proofs.Yteikmbkljkkjiaa
open Go Go.RowKit
noncomputable def rl4Ops:Array Oper:=fops Try.f17 4
theorem rl4_neat:Region.noSelect rl4Ops=true∧neat rl4Ops=true:=⟨by kernel_rfl,by kernel_rfl⟩
theorem rl4 (R A B gn nn cn q:Nat) (v:Value) (b:List UInt8) (c:C3) (W0:World) {l:List Value} (Q:Exit→Act→World→Prop) (hQ:∀ c a d v w,Q (.panic c) (Act.put a d v) w→Q (.panic c) a w) (hD:DR R W0.drew v b q) (hB:W0.drew.rowIs B 27 3 (row3 c.c0 c.c1 c.c2)) (hA:W0.drew.rowIs A 27 3 (row3 (.slice none 0 0) (.slice none 0 0) (.slice none 0 0))) (hAR:A≠R) (hBR:B≠R) (hBA:B≠A) (hgn:gn < W0.drew.heap.size) (hgR:gn≠R) (hgA:gn≠A) (hone:(#[c.c0,c.c1,c.c2]:Array Value).all (·.oneCell')=true) (hns:∀ i,i < nn→∃ nm:ByteArray,W0.drew.cell? ⟨gn,0+i,none⟩=some (.string nm)∧nm.size≤1000) (HPK:∀ W,DR R W v b q→Calls Try.prog 24 #[.pointer (some ⟨R,0,none⟩),.int .i64 (nn:Nat)] W fun e w'=>PickEnd R W w' v b q nn e)
 (hl:lookL [(2,.pointer (some ⟨A,0,none⟩)),(4,.pointer (some ⟨R,0,none⟩)),(5,.pointer (some ⟨B,0,none⟩)),(6,.slice (some ⟨gn,0,none⟩) nn cn)] l=(23,([(2,.pointer (some ⟨A,0,none⟩)),(4,.pointer (some ⟨R,0,none⟩)),(5,.pointer (some ⟨B,0,none⟩)),(6,.slice (some ⟨gn,0,none⟩) nn cn)]:List (Nat × Value)).map (·.2)))
 (hend:∀ (u:Nat→Value) (w1:World) (nm:ByteArray),nm.size≤1000→DR R w1 v b (q+1)→But R W0.drew w1→Q .normal ⟨(frL u 23 [(2,.pointer (some ⟨A,0,none⟩)),(3,.string nm)]).toArray,[]⟩ ((((w1).setCell ⟨A,0,none⟩ c.c0).setCell ⟨A,1,none⟩ c.c1).setCell ⟨A,2,none⟩ c.c2)):(Code.region 4 rl4Ops true).wp Try.prog Q ⟨l.toArray,[]⟩ W0:=by
 obtain ⟨v0,rfl⟩:=look_fr hl
 have hq:NtQ rl4Ops Q:=⟨rl4_neat,hQ⟩
 refine T_start (S:=fun W=>Kept2 R A W0.drew W) (by kernel_rfl) (Kept2.of_but (But.refl _ _)) ?_
 clear hl hQ
 generalize W0.drew=V at hD hB hA hgn hns hend ⊢
 refine T_a hq [0,1,2,3,4] (fun w h=>.cons (ldDk (hB.of_block (h.2 _ hB.lt hBR hBA))) (Lds.nil)) (by kernel_rfl) ?_
 refine T_fr 10 23 [5,6,7,8,9] [(2,.pointer (some ⟨A,0,none⟩)),(4,.pointer (some ⟨R,0,none⟩)),(5,.pointer (some ⟨B,0,none⟩)),(6,.slice (some ⟨gn,0,none⟩) nn cn),(15,.agg #[c.c0,c.c1,c.c2]),(16,.slice (some ⟨gn,0,none⟩) nn cn),(17,.pointer (some ⟨R,0,none⟩)),(18,.slice (some ⟨gn,0,none⟩) nn cn),(19,.int .i64 (nn:Nat))] (by kernel_rfl) fun u=>?_
 refine T_one 5 (by kernel_rfl) fun _=>O_go (HPK V hD) (by kernel_rfl) ?_
 rintro e w1 ⟨kk,rfl,hkk,HD,HB⟩
 obtain ⟨nm,hnm,hnz⟩:=hns kk hkk
 refine ⟨_,rfl,Kept2.of_but HB.out,?_⟩
 refine T_yld hq 6 (some 21) (.pointer (some ⟨gn,0+kk,none⟩)) (by kernel_rfl) (by kernel_rfl) (fun w h=>ixRunN (X:=.tmp 16) (I:=.tmp 20) (n:=nn) (cap:=cn) (i:=kk) (by kernel_rfl) (by kernel_rfl) (by kernel_rfl) hkk w) ?_
 refine T_a hq [7] (fun w h=>.cons (ldStr _ _ _ (Kept2.cell h hgn hgR hgA hnm)) (Lds.nil)) (by kernel_rfl) ?_
 refine T_fr 10 23 [8,9] [(2,.pointer (some ⟨A,0,none⟩)),(4,.pointer (some ⟨R,0,none⟩)),(5,.pointer (some ⟨B,0,none⟩)),(6,.slice (some ⟨gn,0,none⟩) nn cn),(15,.agg #[c.c0,c.c1,c.c2]),(16,.slice (some ⟨gn,0,none⟩) nn cn),(17,.pointer (some ⟨R,0,none⟩)),(18,.slice (some ⟨gn,0,none⟩) nn cn),(19,.int .i64 (nn:Nat)),(20,.int .i64 (kk:Nat)),(21,.pointer (some ⟨gn,0+kk,none⟩)),(22,.string nm)] (by kernel_rfl) fun u=>?_
 have h6:=hA.of_block (HB.out.at hA.lt hAR)
 obtain ⟨s1,s2,s3,s4⟩:=set3 w1 A c.c0 c.c1 c.c2
 refine T_one 8 (by kernel_rfl) fun _=>O_store_mid none 27 (.tmp 2) (.tmp 15) A 0 #[c.c0,c.c1,c.c2] (by kernel_rfl) (by kernel_rfl) (by kernel_rfl) (there3 h6) info3D hone ⟨by rw [show _=w1.heap.size from s2];exact HB.out.size,fun g2 hg2 hn1 hn2=>(s1 g2 hn2).trans (HB.out.at hg2 hn1)⟩ ?_
 refine T_z hq [9] (by kernel_rfl) ?_
 exact T_end 23 [(2,.pointer (some ⟨A,0,none⟩)),(3,.string nm)] (by kernel_rfl) (by kernel_rfl) fun _ u=>hend u w1 nm hnz HD.out HB.out
def DlDn (w w':World) (e:Ending):Prop:=∃ (d:Dk) (c:C3) (nm:ByteArray),e=.returned (.tuple #[.agg #[c.c0,c.c1,c.c2],.string nm])∧DkAt (New w w') w' d c∧nm.size≤1000∧Below w.heap.size w w'
theorem drawDiskLook_any (w:World) (a:Option Addr) (cap:Nat) (l:List UInt8) (hv:BytesAt w (.slice a l.length cap) l) (hcap:l.length≤cap) :
 Calls Try.prog 17 #[.slice a l.length cap] w fun e w'=>DlDn w w' e:=by
 have HO:=xH (l6Open_any (w.alloc (.cells #[.slice none 0 0,.slice none 0 0,.slice none 0 0] 27)) a cap l (bytes_on hv _) hcap)
 have HR0:=xH (row3_alloc w (.slice none 0 0) (.slice none 0 0) (.slice none 0 0) 27)
 have HB0:Hid (Below w.heap.size w (w.alloc (.cells #[.slice none 0 0,.slice none 0 0,.slice none 0 0] 27))):=xH ((Below.refl _ _).alloc (Nat.le_refl _) _)
 clear hv
 go_enter Try.func17,Try.ntmps17
 go_wp2_with fail
 refine HO.out.mono ?_
 rintro e w1 ⟨v1,b1,rfl,hd,hb⟩
 have hs:=hb.size
 rw [World.size_alloc] at hd hs ⊢
 have hRl:=hd.cells.lt
 have HR1:=xH (HR0.out.of_block (hb.block w.heap.size (by simp)))
 have HB1:=xH (HB0.out.trans (hb.mono HB0.out.size))
 have HAN:=xH (l45Any_any (w.heap.size+1) w1 v1 b1 0 hd (by omega))
 clear hd hb HO HR0 HB0
 go_wp2_with fail
 refine HAN.out.mono ?_
 rintro e w2 ⟨d,⟨u0,u1,u2⟩,p2,rfl,hdk,hp2,HD2,HB2⟩
 obtain ⟨a0,r0,g0,-,-⟩:=hdk.fs.open
 obtain ⟨a1,r1,g1,-,-⟩:=id hdk.ns
 obtain ⟨a2,r2,g2,-,-⟩:=hdk.ms.open
 simp only at g0 g1 g2
 subst g0 g1 g2
 have hs2:=HB2.out.size
 go_upto_region 3 with fail
 have hbx:But (w.heap.size+1) w2 (w2.alloc (.cells #[.slice a0 d.files.length r0,.slice a1 d.names.length r1,.slice a2 d.moves.length r2] 27)):=But.alloc _ _ _
 have HR2:=xH ((HR1.out.of_block (HB2.out.at HR1.out.lt (by omega))).alloc (.cells #[.slice a0 d.files.length r0,.slice a1 d.names.length r1,.slice a2 d.moves.length r2] 27))
 have HB3:=xH (but_below HB1.out (HB2.out.trans hbx) (by omega))
 have HX2:=xH (row3_alloc w2 (.slice a0 d.files.length r0) (.slice a1 d.names.length r1) (.slice a2 d.moves.length r2) 27)
 have HD3:=xH (HD2.out.on ((Below.refl w2.heap.size w2).alloc (Nat.le_refl _) (.cells #[.slice a0 d.files.length r0,.slice a1 d.names.length r1,.slice a2 d.moves.length r2] 27)))
 have HK2:=xH (hdk.carry (w':=w2.alloc (.cells #[.slice a0 d.files.length r0,.slice a1 d.names.length r1,.slice a2 d.moves.length r2] 27)) (Q:=fun g=>w1.heap.size≤g∧g < w2.heap.size) (fun g hg=>Below.heap_alloc _ _ _ hg.2) (fun _ hg=>hg))
 have hsz:(w2.alloc (.cells #[.slice a0 d.files.length r0,.slice a1 d.names.length r1,.slice a2 d.moves.length r2] 27)).heap.size=w2.heap.size+1:=by simp
 clear HAN HB1 HB2 HR1 HD2 hdk hbx
 generalize w2.alloc (.cells #[.slice a0 d.files.length r0,.slice a1 d.names.length r1,.slice a2 d.moves.length r2] 27)=W3 at HR2 HB3 HX2 HD3 HK2 hsz ⊢
 generalize w2.heap.size=B at HX2 HK2 hsz hs2 ⊢
 have HNM:=xH (specDiskNames_any d (fun g=>w1.heap.size≤g∧g < B) ⟨.slice a0 d.files.length r0,.slice a1 d.names.length r1,.slice a2 d.moves.length r2⟩ W3 (fun g hg=>by have:=hg.2;omega) HK2.out)
 obtain ⟨l0,l1,l2⟩:=cs3 HX2.out (by omega)
 simp only [row3] at l0 l1 l2
 go_wp2_with fail
 refine HNM.out.mono ?_
 rintro e w4 ⟨nv,rfl,hnm⟩
 have hnl:=namesD_len8 d
 obtain ⟨na,nc,ena,-,-⟩:=hnm.strs
 subst ena
 have hs4:=hnm.below.size
 have HOW:=xH (hnm.own.alloc (.cells #[.string ⟨#[115,49]⟩,.string ⟨#[109,49]⟩,.string ⟨#[120]⟩] 9))
 have HLI:=xH (lies_alloc w4 [.string ⟨#[115,49]⟩,.string ⟨#[109,49]⟩,.string ⟨#[120]⟩] 9)
 have HB4:=xH ((HB3.out.trans (hnm.below.mono HB3.out.size)).alloc (by have:=HB3.out.size;omega) (.cells #[.string ⟨#[115,49]⟩,.string ⟨#[109,49]⟩,.string ⟨#[120]⟩] 9))
 have HR4:=xH ((HR2.out.of_block (hnm.below.block _ HR2.out.lt)).alloc (.cells #[.string ⟨#[115,49]⟩,.string ⟨#[109,49]⟩,.string ⟨#[120]⟩] 9))
 have HX4:=xH ((HX2.out.of_block (hnm.below.block _ HX2.out.lt)).alloc (.cells #[.string ⟨#[115,49]⟩,.string ⟨#[109,49]⟩,.string ⟨#[120]⟩] 9))
 have HD4:=xH ((HD3.out.on hnm.below).on ((Below.refl w4.heap.size w4).alloc (Nat.le_refl _) (.cells #[.string ⟨#[115,49]⟩,.string ⟨#[109,49]⟩,.string ⟨#[120]⟩] 9)))
 have HK4:=xH ((HK2.out.carry (w':=w4) (Q:=fun g=>w1.heap.size≤g∧g < B) (fun g hg=>hnm.below.block g (by have:=hg.2;omega)) (fun _ hg=>hg)).carry (w':=w4.alloc (.cells #[.string ⟨#[115,49]⟩,.string ⟨#[109,49]⟩,.string ⟨#[120]⟩] 9)) (Q:=fun g=>w1.heap.size≤g∧g < B) (fun g hg=>Below.heap_alloc _ _ _ (by have:=hg.2;omega)) (fun _ hg=>hg))
 have hal:(w4.alloc (.cells #[.string ⟨#[115,49]⟩,.string ⟨#[109,49]⟩,.string ⟨#[120]⟩] 9)).heap.size=w4.heap.size+1:=by simp
 obtain ⟨ii,f2,f3,f4,f5⟩:=infoStrD
 have hRl4:=HD4.out.cells.lt
 clear HNM HR2 HX2 HB3 HD3 HK2 l0 l1 l2
 generalize hnn:(namesD d).length=nn at HOW hnl hnm ⊢
 go_upto_region 4 with (at_builtin;refine append_list9 _ rfl _ _ 24 rfl W3.heap.size 9 ii (.string ByteArray.empty) 1 16 Try.underlying24 f2 f3 f4 f5 rfl (by decide) na nn nc _ rfl HOW (some ⟨w4.heap.size,0,none⟩) 3 3 [.string ⟨#[115,49]⟩,.string ⟨#[109,49]⟩,.string ⟨#[120]⟩] rfl rfl (fun _=>⟨_,rfl,HLI.out.2⟩) (fun u hu=>by
  simp only [List.mem_cons,List.not_mem_nil,or_false] at hu
  rcases hu with rfl | rfl | rfl <;> rfl) (by unfold maxLen;omega) (by omega) (by omega) (nn+3) rfl ?_;intro ga gc W7 ho7 hg7 hn7)
 have hge:∀ g,(Value.slice na nn nc).ownBlock=some g→W3.heap.size≤g:=fun g e=>(own_ge HOW.out e).1
 have hkb:∀ g,g < W3.heap.size→W7.heap[g]? = (w4.alloc (.cells #[.string ⟨#[115,49]⟩,.string ⟨#[109,49]⟩,.string ⟨#[120]⟩] 9)).heap[g]? := fun g hg=>hg7.out.block g (by omega) (fun e=>by have:=hge g e.symm;omega)
 have HB7:=xH (HB4.out.grown hg7.out (by have:=HB4.out.size;omega) (fun g e=>by have:=hge g e;omega))
 have HR7:=xH (HR4.out.of_block (hkb _ (by omega)))
 have HX7:=xH (HX4.out.of_block (hkb _ (by omega)))
 have HD7:=xH (HD4.out.block (fun g hg=>hkb g (by omega)) (HD4.out.cells.of_block (hkb _ (by omega))))
 have HK7:=xH (HK4.out.carry (w':=W7) (Q:=fun g=>w1.heap.size≤g∧g < B) (fun g hg=>hkb g (by have:=hg.2;omega)) (fun _ hg=>hg))
 have ho:=ho7.out
 have hxs:(namesD d).map Value.string++[.string ⟨#[115,49]⟩,.string ⟨#[109,49]⟩,.string ⟨#[120]⟩]=(namesD d++([⟨#[115,49]⟩,⟨#[109,49]⟩,⟨#[120]⟩]:List ByteArray)).map Value.string:=by rw [List.map_append];rfl
 rw [hxs] at ho
 obtain ⟨gn,cn,e7,hgn0,hgn1,hns⟩:=own_at8 ho (by rw [List.length_append,hnn];rfl) (by omega) (fun x hx=>by
  rcases List.mem_append.1 hx with h' | h'
  · exact Nat.le_trans (names_small h') (by decide)
  · simp only [List.mem_cons,List.not_mem_nil,or_false] at h'
    rcases h' with rfl | rfl | rfl <;> decide)
 have HNS:=xH hns
 have hs7:=hg7.out.size
 injection e7 with e71 e72 e73
 subst e71 e73
 clear ho7 hg7 hn7 HOW HLI HB4 HR4 HX4 HD4 HK4 hge hkb ho hxs hns e72 hnm
 refine wp_swap (c':=Code.region 4 rl4Ops true) (by kernel_rfl) ?_
 refine wp_region_noPanic ?_
 refine rl4 (w.heap.size+1) w.heap.size B gn (nn+3) gc p2 v1 b1 ⟨.slice a0 d.files.length r0,.slice a1 d.names.length r1,.slice a2 d.moves.length r2⟩ W7 _ (fun _ _ _ _ _ h=>h) (HD7.out.on (Below.refl _ _).drew) (HX7.out.of_block rfl) (HR7.out.of_block rfl) (by omega) (by omega) (by omega) hgn1 (by omega) (by omega) (dk_one8 HK7.out) HNS.out (fun W hD=>pick_any (w.heap.size+1) W v1 b1 p2 (nn+3) hD (by omega) (by omega)) (by kernel_rfl) ?_
 intro u w8 nm hnz hD8 hB8
 refine NoPanic.normal ?_
 simp only [frL_eq,frG,List.lookup,Nat.reduceBEq,Nat.reduceAdd,Option.getD_some,Option.getD_none]
 have hB9:But (w.heap.size+1) W7 w8:=(But.of_below (Below.refl W7.heap.size W7).drew).trans hB8
 have hr8:=HR7.out.of_block (hB9.at HR7.out.lt (by omega))
 have hbel:=but_below HB7.out hB9 (by omega)
 have hk8:=HK7.out.carry (w':=w8) (Q:=fun g=>w1.heap.size≤g∧g < B) (fun g hg=>hB9.at (by have:=hg.2;omega) (by have:=hg.1;omega)) (fun _ hg=>hg)
 have hsz8:=hB9.size
 have HF:Hid (DlDn w ((((w8).setCell ⟨w.heap.size,0,none⟩ (.slice a0 d.files.length r0)).setCell ⟨w.heap.size,1,none⟩ (.slice a1 d.names.length r1)).setCell ⟨w.heap.size,2,none⟩ (.slice a2 d.moves.length r2)) (.returned (.tuple #[.agg #[.slice a0 d.files.length r0,.slice a1 d.names.length r1,.slice a2 d.moves.length r2],.string nm]))∧((((w8).setCell ⟨w.heap.size,0,none⟩ (.slice a0 d.files.length r0)).setCell ⟨w.heap.size,1,none⟩ (.slice a1 d.names.length r1)).setCell ⟨w.heap.size,2,none⟩ (.slice a2 d.moves.length r2)).rowIs w.heap.size 27 3 (row3 (.slice a0 d.files.length r0) (.slice a1 d.names.length r1) (.slice a2 d.moves.length r2))):=xH (by
  obtain ⟨s1,s2,s3,-⟩:=set3 w8 w.heap.size (.slice a0 d.files.length r0) (.slice a1 d.names.length r1) (.slice a2 d.moves.length r2)
  have hs':∀ a,a≠w.heap.size→((((w8).setCell ⟨w.heap.size,0,none⟩ (.slice a0 d.files.length r0)).setCell ⟨w.heap.size,1,none⟩ (.slice a1 d.names.length r1)).setCell ⟨w.heap.size,2,none⟩ (.slice a2 d.moves.length r2)).heap[a]? = w8.heap[a]? := s1
  have hz':((((w8).setCell ⟨w.heap.size,0,none⟩ (.slice a0 d.files.length r0)).setCell ⟨w.heap.size,1,none⟩ (.slice a1 d.names.length r1)).setCell ⟨w.heap.size,2,none⟩ (.slice a2 d.moves.length r2)).heap.size=w8.heap.size:=s2
  exact ⟨⟨d,⟨_,_,_⟩,nm,rfl,hk8.carry (fun g hg=>hs' g (by have:=hg.1;omega)) (fun g hg=>⟨by have:=hg.1;omega,by rw [hz'];have:=hg.2;omega⟩),hnz,((hbel.setCell (by simp) _).setCell (by simp) _).setCell (by simp) _⟩,s3 _ _ hr8⟩)
 obtain ⟨W9,hW9⟩:∃ W9,((((w8).setCell ⟨w.heap.size,0,none⟩ (.slice a0 d.files.length r0)).setCell ⟨w.heap.size,1,none⟩ (.slice a1 d.names.length r1)).setCell ⟨w.heap.size,2,none⟩ (.slice a2 d.moves.length r2))=W9:=⟨_,rfl⟩
 rw [hW9] at HF ⊢
 obtain ⟨y0,y1,y2⟩:=cs3 HF.out.2 (by omega)
 simp only [row3] at y0 y1 y2
 clear hD8 hB8 hB9 hr8 hbel hk8 HR7 HX7 HD7 HK7 HB7 HNS
 go_wp2_with fail
 refine bodyPost_ret (v:=.tuple #[.agg #[.slice a0 d.files.length r0,.slice a1 d.names.length r1,.slice a2 d.moves.length r2],.string nm]) (by simp [results,Try.results17,go_sem,y0,y1,y2]) rfl ?_
 exact HF.out.1
end Go.Proofs.Yteikmbkljkkjiaa

namespace Go.Proofs.Yteikmbkljkkjiaa
open Go Go.RowKit
theorem below_dn9 (w:World) (m:Nat):Below w.heap.size w (w.drewN m):=⟨rfl,rfl,rfl,Nat.le_refl _,fun _ _=>rfl⟩
theorem loHas_any (v:Value) (xs:List ByteArray) (x:ByteArray) (P:Nat→Prop) (w:World) (h:StrsAt P w v xs) :
 Calls Try.prog 18 #[v,.string x] w fun e w'=>RetIff e (x∈xs)∧Below w.heap.size w w':=by
 obtain ⟨a,c,rfl,hl,hc⟩:=h
 have HC:=xH hc
 clear hc
 go_enter Try.func18,Try.ntmps18
 go_wp2_with fail
 go_loopw [5] (fun i wr=>∃ (k m:Nat),k≤xs.length∧i=.int .i64 k∧wr=w.drewN m∧Hid (∀ j (hj:j < xs.length),j < k→xs[j]≠x)) (fun i _=>xs.length - (intOf i).toNat)
 case atStart=>exact ⟨0,0,Nat.zero_le _,rfl,rfl,fun j hj h=>absurd h (Nat.not_lt_zero _)⟩
 case round =>
  obtain ⟨k,m,hk,rfl,hwr,HN⟩:=hrel
  subst hwr
  by_cases hlt:k < xs.length
  · obtain ⟨b,o,rfl,-,e0,-⟩:=xU HC k hlt
    have f0:∀ j,(w.drewN j).cell? ⟨b,o+k,none⟩=some (.string xs[k]):=fun _=>e0
    clear e0
    by_cases hx:xs[k]=x
    · have hm:x∈xs:=hx ▸ List.getElem_mem hlt
      rw [hx] at f0
      have HM:=xH hm
      clear HN hx hm
      go_wp2_with fail
      go_ret
      exact ⟨RetIff.yes HM.out,below_dn9 w m⟩
    · have HX:=xH hx
      obtain ⟨z,hz⟩:∃ z,z=xs[k]:=⟨_,rfl⟩
      rw [← hz] at f0 hx
      have hq:(z.toList==x.toList)=false:=beq_eq_false_iff_ne.2 (fun e=>hx (by have:=congrArg (fun l:List UInt8=>(⟨l.toArray⟩:ByteArray)) e;exact ByteArray.ext (by simpa [Lib.toList_data] using this)))
      clear hz
      go_wp2_with fail
      go_roundw
      case rel=>exact ⟨k+1,m,by omega,by go_num,by first | rfl | trivial,fun j hj h=>by
       by_cases hjk:j=k
       · subst hjk;exact HX.out
       · exact HN.out j hj (by omega)⟩
      case measure=>simp [intOf];omega
  · obtain rfl:k=xs.length:=by omega
    go_wp2_with fail
    go_ret
    exact ⟨RetIff.no (fun hm=>by
     obtain ⟨j,hj,e⟩:=List.getElem_of_mem hm
     exact HN.out j hj hj e),below_dn9 w m⟩
end Go.Proofs.Yteikmbkljkkjiaa

namespace Go.Proofs.Yteikmbkljkkjiaa
open Go Go.RowKit
theorem names_inj8 {d:Dk} (h:DkOkS d) {i j:Nat} (hi:i < d.files.length) (hj:j < d.files.length) (e:d.files[i].name=d.files[j].name):i=j:=by
 have h1:=(h.file i hi (by rw [h.len];exact hi)).find
 have h2:=(h.file j hj (by rw [h.len];exact hj)).find
 rw [e,h2] at h1
 omega
theorem look_at8 {d:Dk} {x:ByteArray} (hx:x∈namesD d) {j:Nat} (hj:j < d.files.length) (hn:d.files[j].name=x):lookD d x=(d.files[j].data,true):=by
 obtain ⟨i,hi,hok,hni,hfi⟩:=names_file hx
 have:i=j:=names_inj8 hok hi hj (hni.trans hn.symm)
 subst this
 exact lookD_yes hx i hi hfi
theorem look_snd8 {d:Dk} {x:ByteArray}:(lookD d x).2=true↔x∈namesD d:=by
 by_cases h:x∈namesD d
 · obtain ⟨i,hi,-,-,hfi⟩:=names_file h
   rw [lookD_yes h i hi hfi]
   simp [h]
 · rw [lookD_no h]
   simp [h]
theorem file_ok8 {d:Dk} (h:DkOkS d) {f:Df} (hf:f∈d.files):nameOkB f.name=true∧f.data.size≤20000∧0≤f.kept∧f.kept≤f.data.size:=by
 obtain ⟨i,hi,rfl⟩:=List.getElem_of_mem hf
 have:=h.file i hi (by rw [h.len];exact hi)
 exact ⟨this.name,this.data,this.kept⟩
theorem same_names8 {d d':Dk} (h:DkOkS d) (h':DkOkS d') (hn:d'.names=d.names) (hm:d'.moves=d.moves):namesD d'=namesD d:=by
 rw [namesD_ok h,namesD_ok h',hn,hm]
theorem do_sync8 {d:Dk} {x y:ByteArray} (h:DkOkS d) (hin:x∈namesD d):(doD d 3 x y).2=0∧namesD (doD d 3 x y).1=namesD d∧lookD (doD d 3 x y).1 x=lookD d x∧∀ j (hj:j < (doD d 3 x y).1.files.length),(doD d 3 x y).1.files[j].name=x→(doD d 3 x y).1.files[j].kept=(doD d 3 x y).1.files[j].data.size:=by
 obtain ⟨i,hi,-,hxi,hfi⟩:=names_file hin
 have h0:(doD d 3 x y).2=0:=by rw [doD_sync h hin]
 have hok:=doD_ok h h0
 refine ⟨h0,?_⟩
 rw [doD_sync h hin,putD_at hfi,fileD_at hi hfi] at hok ⊢
 have hns:=same_names8 (d':=⟨d.files.set i ⟨d.files[i].name,d.files[i].data,d.files[i].data.size⟩,d.names,d.moves⟩) h hok rfl rfl
 refine ⟨hns,?_,fun j hj e=>?_⟩
 · rw [lookD_yes hin i hi hfi,look_at8 (d:=⟨d.files.set i ⟨d.files[i].name,d.files[i].data,d.files[i].data.size⟩,d.names,d.moves⟩) (by rw [hns];exact hin) (j:=i) (by simpa using hi) (by simpa using hxi)]
   simp
 · have hji:j=i:=names_inj8 hok hj (by simpa using hi) (by rw [e];simpa using hxi.symm)
   subst hji
   simp
theorem keep_facts8 {d:Dk} (h:DkOkS d):DkOkS (keepD d (namesD d))∧namesD (keepD d (namesD d))=namesD d∧∀ x,lookD (keepD d (namesD d)) x=lookD d x:=by
 have h0:(doD d 5 ⟨#[]⟩ ⟨#[]⟩).2=0:=by rw [doD_dirs h]
 have hok:=doD_ok h h0
 rw [doD_dirs h] at hok
 simp only at hok
 have hn:namesD (keepD d (namesD d))=namesD d:=by rw [namesD_ok hok];rfl
 refine ⟨hok,hn,fun x=>?_⟩
 by_cases hx:x∈namesD d
 · obtain ⟨i,hi,-,hxi,hfi⟩:=names_file hx
   obtain ⟨j,hj,rfl⟩:=List.getElem_of_mem hx
   rw [lookD_yes hx i hi hfi,look_at8 (d:=keepD d (namesD d)) (by rw [hn];exact hx) (j:=j) (by simpa [keepD] using hj) (by simp only [keepD,List.getElem_map];rw [fileD_at hi hfi];exact hxi)]
   simp only [keepD,List.getElem_map]
   rw [fileD_at hi hfi]
 · rw [lookD_no hx,lookD_no (by rw [hn];exact hx)]
theorem cutF_facts {f:Df} (hk:0≤f.kept∧f.kept≤f.data.size) (n:Int):f.kept≤(cutB f n).size∧(cutB f n).size≤f.data.size∧f.data.extract 0 (cutB f n).size=cutB f n:=by
 have h1:=cutB_sz f n hk
 have h2:((moreN f n:Nat):Int)≤(f.data.size:Int) - f.kept:=by unfold moreN;omega
 refine ⟨by omega,by omega,?_⟩
 have h3:=cutB_eq f n hk
 have h4:(cutB f n).size=f.kept.toNat+moreN f n:=by omega
 rw [h4]
 exact h3.symm
theorem cut_name8 {d:Dk} {m:Int} {zs:List Int} (h:DkOkS d):∀ x,x∈cutN d m→∃ i,∃ hi:i < d.files.length,d.files[i].name=x∧fileD d x=d.files[i]∧cutX d zs x=cutF d.files[i] (zs.getD i 0):=fun x hx=>by
 obtain ⟨i,hi,h1,h2⟩:=(cutN_facts h m).2.2 x hx
 exact ⟨i,hi,h1,fileD_at hi h2,by unfold cutX;rw [fileD_at hi h2,h2];rfl⟩
theorem cut_ok8 {d:Dk} (m:Int) (zs:List Int) (h:DkOkS d):DkOkS (cutD d m zs):=by
 obtain ⟨hnd,heq,-⟩:=dk_nodup h
 rw [cutD_ok h]
 have han:=after_nodup hnd (clampQ m d.moves.length) (clampQ_le _ _)
 have hle:(cutN d m).length≤d.files.length:=by
  have:=len_sub (cutN d m) (madeD d.names d.moves) han.1 (fun x hx=>(made_sub _ _ _).subset (han.2 x hx))
  rw [h.len] at this
  exact this
 have l1:=h.l1
 have hmn:madeD (cutN d m) []=cutN d m:=by unfold madeD;simp
 refine ok_of (by simp only [List.length_map];omega) (by simp only;omega) (by simp) ?_ ?_ ?_ (fun i hi=>by simp at hi)
 · simp only
   rw [hmn,List.map_map]
   refine (List.map_congr_left fun z hz=>?_).trans (List.map_id' _)
   obtain ⟨i,hi,h1,-,h3⟩:=cut_name8 (m:=m) (zs:=zs) h z hz
   show (cutX d zs z).name=z
   rw [h3]
   exact h1
 · simp only;rw [hmn];exact han.1
 · intro f hf
   obtain ⟨z,hz,rfl⟩:=List.mem_map.1 hf
   obtain ⟨i,hi,h1,-,h3⟩:=cut_name8 (m:=m) (zs:=zs) h z hz
   have hfo:=file_ok8 h (List.getElem_mem hi)
   have hcf:=cutF_facts hfo.2.2 (zs.getD i 0)
   rw [h3]
   exact ⟨hfo.1,Nat.le_trans hcf.2.1 hfo.2.1,by show (0:Int)≤((cutB d.files[i] (zs.getD i 0)).size:Nat);omega,Int.le_refl _⟩
theorem cut_still8 {d:Dk} (m:Int) (zs:List Int) (h:DkOkS d) (hm:d.moves=[]):namesD (cutD d m zs)=namesD d∧∀ x,x∈namesD d→(∀ j (hj:j < d.files.length),d.files[j].name=x→d.files[j].kept=d.files[j].data.size)→lookD (cutD d m zs) x=lookD d x:=by
 have hok:=cut_ok8 m zs h
 have hN:cutN d m=d.names:=by unfold cutN;rw [hm,List.take_nil];rfl
 have hn:namesD (cutD d m zs)=namesD d:=by
  rw [namesD_ok hok,namesD_ok h,cutD_ok h,hm]
  simp only
  rw [hN]
 refine ⟨hn,fun x hx hk=>?_⟩
 have hxn:x∈cutN d m:=by rw [hN];rw [namesD_ok h,hm] at hx;exact hx
 obtain ⟨i,hi,h1,-,h3⟩:=cut_name8 (m:=m) (zs:=zs) h x hxn
 obtain ⟨j,hj,hjx⟩:=List.getElem_of_mem hxn
 have hkk:=hk i hi h1
 have hfo:=file_ok8 h (List.getElem_mem hi)
 have hcf:=cutF_facts hfo.2.2 (zs.getD i 0)
 have hjl:j < (cutD d m zs).files.length:=by rw [cutD_ok h];simpa using hj
 have hfj:(cutD d m zs).files[j]=cutF d.files[i] (zs.getD i 0):=by
  have e:(cutD d m zs).files[j]? = ((cutN d m).map (cutX d zs))[j]? := by rw [cutD_ok h]
  rw [List.getElem?_eq_getElem hjl,List.getElem?_map,List.getElem?_eq_getElem hj,Option.map_some,hjx,h3] at e
  exact Option.some.inj e
 rw [look_at8 (d:=cutD d m zs) (by rw [hn];exact hx) hjl (by rw [hfj];exact h1),look_at8 hx hi h1,hfj]
 congr 1
 show cutB d.files[i] (zs.getD i 0)=d.files[i].data
 have hsz:(cutB d.files[i] (zs.getD i 0)).size=d.files[i].data.size:=by omega
 rw [← hcf.2.2,hsz,ByteArray.extract_zero_size]
theorem empty_ok8:DkOkS ⟨[],[],[]⟩:=ok_of (by decide) (by decide) (by decide) rfl (by decide) (fun f hf=>by cases hf) (fun i hi=>by simp at hi)
theorem sure_yes8 {d:Dk} {x e:ByteArray} (e1 e2:ByteArray) (m:Int) (zs:List Int) (hx:x∈namesD d):(doD d 3 x e).2=0∧(doD (doD d 3 x e).1 5 e1 e2).2=0∧lookD (cutD (doD (doD d 3 x e).1 5 e1 e2).1 m zs) x=((lookD d x).1,true):=by
 obtain ⟨-,-,h,-⟩:=names_file hx
 obtain ⟨h0,h1,h2,h3⟩:=do_sync8 (y:=e) h hx
 have hok:=doD_ok h h0
 obtain ⟨k1,k2,k3⟩:=keep_facts8 hok
 refine ⟨h0,by rw [doD_dirs hok],?_⟩
 rw [doD_dirs hok]
 simp only
 have hx2:x∈namesD (keepD (doD d 3 x e).1 (namesD (doD d 3 x e).1)):=by rw [k2,h1];exact hx
 rw [(cut_still8 m zs k1 rfl).2 x hx2 (fun j hj hn=>?_),k3,h2]
 · have:=(look_snd8 (d:=d) (x:=x)).2 hx
   exact Prod.ext rfl this
 · simp only [keepD,List.length_map] at hj
   have hzm:(namesD (doD d 3 x e).1)[j]∈namesD (doD d 3 x e).1:=List.getElem_mem hj
   obtain ⟨i,hi,-,hni,hfi⟩:=names_file hzm
   simp only [keepD,List.getElem_map] at hn ⊢
   rw [fileD_at hi hfi] at hn ⊢
   exact h3 i hi hn
theorem sure_no8 {d:Dk} {x e:ByteArray} (e1 e2:ByteArray) (m:Int) (zs:List Int) (hx:x∉namesD d):(doD d 3 x e).2≠0∧lookD (cutD (doD (doD d 3 x e).1 5 e1 e2).1 m zs) x=(ByteArray.empty,false):=by
 by_cases h:DkOkS d
 · rw [doD_nofile h (by omega) hx]
   obtain ⟨k1,k2,k3⟩:=keep_facts8 h
   refine ⟨by show (2:Int)≠0;omega,?_⟩
   simp only
   rw [doD_dirs h]
   simp only
   exact lookD_no (by rw [(cut_still8 m zs k1 rfl).1,k2];exact hx)
 · rw [doD_bad h]
   refine ⟨by show (1:Int)≠0;omega,?_⟩
   simp only
   rw [doD_dirs empty_ok8]
   simp only
   obtain ⟨k1,k2,k3⟩:=keep_facts8 empty_ok8
   refine lookD_no ?_
   rw [(cut_still8 m zs k1 rfl).1,k2,namesD_ok empty_ok8]
   simp [afterD]
end Go.Proofs.Yteikmbkljkkjiaa

namespace Go.Proofs.Yteikmbkljkkjiaa
open Go Go.RowKit Go.WideMaps Go.Maps
theorem settle_any (P:Nat→Prop) (w:World) (d:Dk) (a0:Option Addr) (p0 T B:Nat) (x2:Option Addr) (n2 m2:Nat) (x4:Option Addr) (n4 m4:Nat) (h:Vs P d a0 p0 T B x2 n2 m2 x4 n4 m4 w) (b0 base L:Nat) (o:C3) (hm:MxSt base L w o.c0 o.c1 o.c2 d.files d.names d.moves) (hok:DkOkS d) (hbb:b0≤base) (hbL:base≤L) (hP:∀ b,P b→b≠L) (hT:T≠L) (hB:B≠L∧B < w.heap.size) :
 Calls Try.prog 63 #[.agg #[.pointer (some ⟨T,0,none⟩),.pointer (some ⟨T,0,none⟩),.slice x2 n2 m2,.pointer (some ⟨T,0,none⟩),.slice x4 n4 m4],.pointer (some ⟨L,0,none⟩)] w fun e w'=>e=.returned (.tuple #[])∧(∃ o':C3,MxSt base L w' o'.c0 o'.c1 o'.c2 ((namesD d).map (fileD d)) (namesD d) [])∧Below b0 w w'∧TyK w w':=by
 have hLs:=hm.row.lt
 obtain ⟨l0,l1,l2⟩:=cs3 hm.row (by omega)
 simp only [row3] at l0 l1 l2
 obtain ⟨aF,s0,eF⟩:=own_slice hm.o0
 rw [eF] at l0
 have hfz:∀ j,w.frozen? ⟨L,j,none⟩=false:=fun j=>hm.row.frozen j
 have HM:=xH hm;have HV:=xH h
 clear hm h
 go_enter Try.func63,Try.ntmps63
 go_upto_region 3 with fail
 have hA:∀ ob,But L w (((((w.setCell ⟨L,0,none⟩ (.slice none 0 0)).setCell ⟨L,1,none⟩ (.slice none 0 0)).setCell ⟨L,2,none⟩ (.slice none 0 0))).alloc ob)∧(((((w.setCell ⟨L,0,none⟩ (.slice none 0 0)).setCell ⟨L,1,none⟩ (.slice none 0 0)).setCell ⟨L,2,none⟩ (.slice none 0 0))).alloc ob).rowIs L 27 3 (row3 (.slice none 0 0) (.slice none 0 0) (.slice none 0 0)):=fun ob =>
  ⟨(((But.set w 0 _).trans (But.set _ 1 _)).trans (But.set _ 2 _)).trans (But.alloc _ _ ob),World.rowIs.alloc ((set3 w L (.slice none 0 0) (.slice none 0 0) (.slice none 0 0)).2.2.1 _ _ (xU HM).row) ob⟩
 have hA2:=hA (.cells #[.pointer (some ⟨T,0,none⟩),.pointer (some ⟨T,0,none⟩),.slice x2 n2 m2,.pointer (some ⟨T,0,none⟩),.slice x4 n4 m4] 71)
 have hV:=fiveV_alloc (((w.setCell ⟨L,0,none⟩ (.slice none 0 0)).setCell ⟨L,1,none⟩ (.slice none 0 0)).setCell ⟨L,2,none⟩ (.slice none 0 0)) (.pointer (some ⟨T,0,none⟩)) (.pointer (some ⟨T,0,none⟩)) (.slice x2 n2 m2) (.pointer (some ⟨T,0,none⟩)) (.slice x4 n4 m4) 71
 simp only [World.size_setCell] at hV
 generalize (World.alloc _ _)=W3 at hA2 hV ⊢
 clear hA l0 l1 l2 hfz
 obtain ⟨hbt,hL3⟩:=hA2
 obtain ⟨r0,r1,r2,r3,r4⟩:=cs5 hV (by omega)
 simp only [fiveV] at r0 r1 r2 r3 r4
 have hs3:=hV.lt
 have hPL:∀ b,P b→W3.heap[b]? = w.heap[b]? := fun b hb=>hbt.at ((xU HV).lt b hb) (hP b hb)
 obtain ⟨hmf,hcl,hcf⟩:=cutN_facts hok d.moves.length
 have hcn:cutN d d.moves.length=namesD d:=by
  unfold cutN
  rw [clampQ_all,List.take_of_length_le (Nat.le_refl _),namesD_ok hok]
 rw [clampQ_all,List.take_of_length_le (Nat.le_refl _)] at hmf
 rw [hcn] at hmf hcl hcf
 obtain ⟨hnd,heq,-⟩:=dk_nodup hok
 have HTH:=xH (there_any d.names d.moves (some ⟨T,0,none⟩) (some ⟨T,0,none⟩) x2 n2 m2 (some ⟨T,0,none⟩) x4 n4 m4 P W3 (fun b hb=>by have:=(xU HV).lt b hb;omega) ((xU HV).ns.carry hPL (fun _ h=>h)) ((xU HV).fn.carry hPL (fun _ h=>h)) (by have:=hok.l2;omega) (by have:=hok.l3;omega) (namesD d) hmf)
 have HBT:=xH hbt;have HL3:=xH hL3;have HV3:=xH hV;have HCF:=xH hcf;have HND:=xH (show (d.files.map Df.name).Nodup by rw [heq];exact hnd)
 have HOK:=xH hok;have HP:=xH hP
 have HEF:=xH eF
 clear hbt hL3 hV hPL hmf hcf hnd heq hcn hok hP eF
 go_wp2_with fail
 refine (xU HTH).mono ?_
 rintro e w5 ⟨v5,rfl,hn5⟩
 clear HTH r0 r1 r2 r3 r4
 have hb5:=hn5.below
 have hs5:=hb5.size
 have hbt5:But L w w5:=(xU HBT).trans (But.of_below hb5)
 have hV5:=(xU HV3).of_block (hb5.block _ (by omega))
 have hL5:=(xU HL3).of_block (hb5.block L (by omega))
 obtain ⟨a5,cap5,e5,hl5,hc5⟩:=hn5.strs
 subst e5
 have HC5:=xH hc5;have HBT5:=xH hbt5;have HV5:=xH hV5
 have HST:=xH (show Cx w5 L (.slice none 0 0) (.slice none 0 0) [] [] w5 from ⟨⟨by omega,hL5,⟨rfl,Or.inl ⟨rfl,rfl⟩⟩,⟨rfl,Or.inl ⟨rfl,rfl⟩⟩⟩,But.refl _ _⟩)
 clear hb5 hbt5 hV5 hL5 hc5 hn5 HBT HL3 HV3
 generalize hNN:namesD d=N at *
 have HNN:=xH hNN
 clear hNN
 go_wp2_with fail
 go_loopw [17] (fun i wr=>∃ (k:Nat) (vf vn:Value),k≤N.length∧i=.int .i64 k∧Hid (Cx w5 L vf vn ((N.take k).map (fileD d)) (N.take k) wr)) (fun i _=>N.length - (intOf i).toNat)
 case atStart=>exact ⟨0,_,_,Nat.zero_le _,rfl,xU HST⟩
 case round =>
  clear HST
  obtain ⟨k,vf,vn,hk,rfl,HS⟩:=hrel
  have hws:=HS.out.bt.size
  by_cases hlt:k < N.length
  rotate_left
  · obtain rfl:k=N.length:=by omega
    have hst:=HS.out
    rw [List.take_of_length_le (Nat.le_refl _)] at hst
    have HST:=xH hst
    clear hst HS
    go_wp2_with fail
    go_end0
    have h9:=xU HST
    have hNN:=xU HNN
    subst hNN
    refine ⟨rfl,⟨⟨vf,vn,.slice none 0 0⟩,h9.st.row,h9.st.of.mono (by omega),h9.st.on.mono (by omega),⟨rfl,Or.inl ⟨rfl,rfl⟩⟩⟩,?_⟩
    have hb:=(xU HBT5).trans h9.bt
    refine ⟨⟨hb.os,hb.tape,hb.output,hb.size,fun b hbl=>hb.at (by omega) (by omega)⟩,fun b cs t fz h1 h2 h3 h4=>hb.at (blk_lt h1) fun e=>?_⟩
    subst e
    obtain ⟨cs2,fz2,h5⟩:=row_ty (xU HM).row
    rw [h5] at h1
    simp only [Option.some.injEq,Obj.cells.injEq] at h1
    exact h4 h1.2.1.symm
  · obtain ⟨i,hi,he,hf⟩:=xU HCF N[k] (List.getElem_mem hlt)
    obtain ⟨b5,o5,rfl,hpb5,hc5,hsx⟩:=xU HC5 k hlt
    have hb5L:b5≠L:=by have:=hpb5.1;omega
    have e5:wr.cell? ⟨b5,o5+k,none⟩=some (.string N[k]):=by rw [World.cell?_of_block (w:=w5) (HS.out.bt.at hpb5.2 hb5L)];exact hc5
    have hok:=xU HOK
    have hx8:N[k].size≤8:=by
     refine Classical.byContradiction fun hno=>?_
     have hn:=(hok.file i hi (by rw [hok.len];exact hi)).name
     rw [he,nameOk_len (Or.inr (by omega))] at hn
     cases hn
    have hat:=at_nmap (d.files.map Df.name) (xU HND) i (by rw [List.length_map];exact hi) (d.files.map Df.name).length (Nat.le_refl _) (by rw [List.length_map];exact hi)
    rw [List.getElem_map,he] at hat
    obtain ⟨g,s1,hg,hbg,-⟩:=(xU HM).o0.form (by omega)
    rw [xU HEF] at hg
    simp only [Value.slice.injEq,true_and] at hg
    obtain ⟨rfl,rfl⟩:=hg
    have hO:=(xU HM).o0
    rw [xU HEF] at hO
    have hgL:g≠L:=fun e=>own_apart hO (xU HM).row (by decide) (by rw [e];rfl)
    have hgs:=(hO.lt g rfl).2
    have hbW:∀ W,But L w5 W→But L w W:=fun W hW=>(xU HBT5).trans hW
    have hV':∀ W,But L w5 W→W.cell? ⟨w.heap.size,0,none⟩=some (.pointer (some ⟨T,0,none⟩)):=fun W hW=>((xU HV5).of_block (hW.at (by omega) (by omega))).cell (i:=0) (by omega)
    have hT':∀ W,But L w5 W→W.cell? ⟨T,1,none⟩=some (.map (some B)):=fun W hW=>((xU HV).row.of_block ((hbW W hW).at (xU HV).row.lt hT)).cell (i:=1) (by omega)
    have hM':∀ W,But L w5 W→NMap W B (d.files.map Df.name):=fun W hW=>ownsMap_block (xU HV).map ((hbW W hW).at hB.2 hB.1)
    have hF':∀ W,But L w5 W→W.cell? ⟨g,i * 3,none⟩=some (.string d.files[i].name)∧W.cell? ⟨g,i * 3+1,none⟩=some (.string d.files[i].data)∧W.cell? ⟨g,i * 3+2,none⟩=some (.int .i64 d.files[i].kept):=fun W hW=>ownFile (ownsRow_keep hO (fun g' e=>by
     simp only [Value.ownBlock,Option.some.injEq] at e
     subst e
     exact (hbW W hW).at hgs hgL)) i hi
    have htk:(N.take k).length=k:=by rw [List.length_take];omega
    have HS6:=xH (fun W (h:Cx w5 L vf vn ((N.take k).map (fileD d)) (N.take k) W)=>h)
    have HV':=xH hV';have HT':=xH hT';have HM':=xH hM';have HF':=xH hF';have HAT:=xH hat
    have HFD:=xH (show fileD d N[k]=d.files[i] from fileD_at hi hf)
    have HTS:=xH (List.take_succ_eq_append_getElem hlt)
    have HTK:=xH htk
    clear hV' hT' hM' hF' hat hbW hO hgL hgs htk hsx hpb5 hc5 he hf hok HS6
    go_upto_region 6 with fail
    refine wp_swap (c':=Code.region 6 se6Ops true) (by kernel_rfl) ?_
    refine wp_region_noPanic ?_
    refine se6 w5 L vf vn ((N.take k).map (fileD d)) (N.take k) N[k] (by omega) (by rw [xU HTK];omega) (by rfl) wr _ (fun _ _ _ _ _ h=>h) (HS.out.on (drewB _)) ?_
    intro v vn' W1 h1
    refine NoPanic.normal ?_
    simp only [frL_eq,frG,List.lookup,Nat.reduceBEq,Nat.reduceAdd,Option.getD_some,Option.getD_none]
    rw [← xU HTS] at h1
    have HS1:=xH h1
    clear h1 HS e5
    go_upto_region 7 with fail
    refine wp_swap (c':=Code.region 7 se7Ops true) (by kernel_rfl) ?_
    refine wp_region_noPanic ?_
    refine se7 w5 L w.heap.size T B vf vn' ((N.take k).map (fileD d)) (N.take (k+1)) (d.files.map Df.name) N[k] d.files[i] i g d.files.length s0 hi (by omega) (by rw [List.length_map,xU HTK];omega) (xU HAT) (xU HV') (xU HT') (xU HM') (xU HF') (by rfl) W1 _ (fun _ _ _ _ _ h=>h) ((xU HS1).on (drewB _)) ?_
    intro v2 vf' W2 h2
    refine NoPanic.normal ?_
    simp only [frL_eq,frG,List.lookup,Nat.reduceBEq,Nat.reduceAdd,Option.getD_some,Option.getD_none]
    rw [← xU HFD,show (N.take k).map (fileD d)++[fileD d N[k]]=(N.take (k+1)).map (fileD d) by rw [xU HTS,List.map_append];rfl] at h2
    have HS2:=xH h2
    clear h2 HS1
    go_wp2_with fail
    go_roundw
    case rel=>exact ⟨k+1,vf',vn',by omega,by go_num,xU HS2⟩
    case measure=>simp [intOf];omega
end Go.Proofs.Yteikmbkljkkjiaa

namespace Go.Proofs.Yteikmbkljkkjiaa
open Go Go.RowKit Go.WideMaps Go.Maps
def WrEnd (w w':World) (e:Ending) (b0 base L:Nat) (d2:Dk):Prop:=e=.returned (.tuple #[])∧(∃ o':C3,MxSt base L w' o'.c0 o'.c1 o'.c2 d2.files d2.names d2.moves)∧Below b0 w w'∧TyK w w'
theorem Wb.start {w:World} {d:Dk} {T:Nat} {x2:Option Addr} {n2 m2:Nat} {x4:Option Addr} {n4 m4:Nat} {k:Int} {x y:ByteArray} {b0 base L:Nat} {o:C3} (hm:MxSt base L w o.c0 o.c1 o.c2 d.files d.names d.moves) (hbb:b0≤base) (hbL:base≤L):Wb w k x y b0 base L o d ((w.alloc (.cells #[.pointer (some ⟨T,0,none⟩),.pointer (some ⟨T,0,none⟩),.slice x2 n2 m2,.pointer (some ⟨T,0,none⟩),.slice x4 n4 m4] 71)).alloc (.cells #[.int .i64 k,.string x,.string y] 29)):=by
 have hb:Below w.heap.size w ((w.alloc (.cells #[.pointer (some ⟨T,0,none⟩),.pointer (some ⟨T,0,none⟩),.slice x2 n2 m2,.pointer (some ⟨T,0,none⟩),.slice x4 n4 m4] 71)).alloc (.cells #[.int .i64 k,.string x,.string y] 29)):=((Below.refl _ _).alloc (Nat.le_refl _) _).alloc (by simp) _
 have hl:=hm.row.lt
 refine ⟨?_,hm.keep hb,hb.mono (by omega),hbb,by omega,TyK.below hb⟩
 have:=row3_alloc (w.alloc (.cells #[.pointer (some ⟨T,0,none⟩),.pointer (some ⟨T,0,none⟩),.slice x2 n2 m2,.pointer (some ⟨T,0,none⟩),.slice x4 n4 m4] 71)) (.int .i64 k) (.string x) (.string y) 29
 rw [World.size_alloc] at this;exact this
theorem Rg.vs {P:Nat→Prop} {w:World} {d:Dk} {a0:Option Addr} {p0 T B:Nat} {x2:Option Addr} {n2 m2:Nat} {x4:Option Addr} {n4 m4:Nat} {k:Int} {x y:ByteArray} {W:World} (h:Rg P w d a0 p0 T B x2 n2 m2 x4 n4 m4 k x y W):Vs P d a0 p0 T B x2 n2 m2 x4 n4 m4 W:=⟨h.row,h.map,h.ns,h.fn,h.fs,h.pl⟩
theorem write_make (P:Nat→Prop) (w:World) (d:Dk) (a0:Option Addr) (p0 T B:Nat) (x2:Option Addr) (n2 m2:Nat) (x4:Option Addr) (n4 m4:Nat) (x y:ByteArray) (h:Vs P d a0 p0 T B x2 n2 m2 x4 n4 m4 w) (b0 base L:Nat) (o:C3) (hm:MxSt base L w o.c0 o.c1 o.c2 d.files d.names d.moves) (hx:x.size≤1048576) (hbb:b0≤base) (hbL:base≤L) (hf:d.files.length≤999) (hmv:d.moves.length≤999):Calls Try.prog 37 #[.agg #[.pointer (some ⟨T,0,none⟩),.pointer (some ⟨T,0,none⟩),.slice x2 n2 m2,.pointer (some ⟨T,0,none⟩),.slice x4 n4 m4],.pointer (some ⟨L,0,none⟩),.agg #[.int .i64 1,.string x,.string y]] w fun e w'=>WrEnd w w' e b0 base L ⟨d.files++[⟨x,ByteArray.empty,0⟩],d.names,d.moves++[⟨false,x⟩]⟩:=by
 obtain ⟨c,-,hc,-⟩:=look_all h.map x (by omega)
 have HC:=xH hc
 clear hc
 have HG:=xH (Rg.start (k:=1) (x:=x) (y:=y) h)
 have HW:=xH (Wb.start (k:=1) (x:=x) (y:=y) (T:=T) (x2:=x2) (n2:=n2) (m2:=m2) (x4:=x4) (n4:=n4) (m4:=m4) (b0:=b0) hm hbb hbL)
 clear h hm
 go_enter Try.func37,Try.ntmps37
 go_upto_region 1 with fail
 generalize (w.alloc _).alloc _=W0 at HG HW ⊢
 refine wp_swap (c':=Code.region 1 wr1Ops true) (by kernel_rfl) ?_
 refine wp_region_noPanic ?_
 refine wr1 w L T B x (d.files.map Df.name) c (by omega) (xU HC) W0 _ (fun _ _ _ _ _ h=>h) (xU HG).v0 (xU HG).t1 (xU HG).m1 (xU HG).map (by kernel_rfl) ?_
 intro v
 refine NoPanic.normal ?_
 simp only [frL_eq,frG,List.lookup,Nat.reduceBEq,Nat.reduceAdd,Option.getD_some,Option.getD_none]
 have HG1:=xH ((xU HG).on (drewB _));have HW1:=xH ((xU HW).on (drewB _) (xU HW).sz)
 clear HG HW
 generalize W0.drew=W1 at HG1 HW1 ⊢
 have m0:=(xU HG1).b1.cell (i:=0) (by omega)
 simp only [row3] at m0
 go_upto_region 4 with fail
 refine wp_swap (c':=Code.region 4 wr4Ops true) (by kernel_rfl) ?_
 refine wp_region_noPanic ?_
 refine wr4 w 1 x y b0 base L o d hx (by omega) (fun W hW=>Nat.le_trans hbL (Nat.le_of_lt hW.mx.row.lt)) _ _ (fun _ _ _ _ _ h=>h) ((xU HW1).on (drewB _) (xU HW1).sz) (by kernel_rfl) ?_
 intro v2 o2 W2 h2
 refine NoPanic.normal ?_
 simp only [frL_eq,frG,List.lookup,Nat.reduceBEq,Nat.reduceAdd,Option.getD_some,Option.getD_none]
 have HW2:=xH h2
 clear h2 HW1 HG1 m0
 go_upto_region 5 with fail
 refine wp_swap (c':=Code.region 5 wr5Ops true) (by kernel_rfl) ?_
 refine wp_region_noPanic ?_
 refine wr5 w 1 x y b0 base L o2 ⟨d.files++[⟨x,ByteArray.empty,0⟩],d.names,d.moves⟩ hx (by simp only;omega) (fun W hW=>Nat.le_trans hbL (Nat.le_of_lt hW.mx.row.lt)) _ _ (fun _ _ _ _ _ h=>h) ((xU HW2).on (drewB _) (xU HW2).sz) (by kernel_rfl) ?_
 intro v3 o3 W3 h3
 refine NoPanic.normal ?_
 simp only [frL_eq,frG,List.lookup,Nat.reduceBEq,Nat.reduceAdd,Option.getD_some,Option.getD_none]
 have HW3:=xH h3
 clear h3 HW2
 go_wp2_with fail
 go_end0
 exact ⟨rfl,⟨o3,(xU HW3).mx⟩,(xU HW3).bel,(xU HW3).ty⟩
theorem write_gone (P:Nat→Prop) (w:World) (d:Dk) (a0:Option Addr) (p0 T B:Nat) (x2:Option Addr) (n2 m2:Nat) (x4:Option Addr) (n4 m4:Nat) (x y:ByteArray) (h:Vs P d a0 p0 T B x2 n2 m2 x4 n4 m4 w) (b0 base L:Nat) (o:C3) (hm:MxSt base L w o.c0 o.c1 o.c2 d.files d.names d.moves) (hx:x.size≤1048576) (hbb:b0≤base) (hbL:base≤L) (hmv:d.moves.length≤999):Calls Try.prog 37 #[.agg #[.pointer (some ⟨T,0,none⟩),.pointer (some ⟨T,0,none⟩),.slice x2 n2 m2,.pointer (some ⟨T,0,none⟩),.slice x4 n4 m4],.pointer (some ⟨L,0,none⟩),.agg #[.int .i64 4,.string x,.string y]] w fun e w'=>WrEnd w w' e b0 base L ⟨d.files,d.names,d.moves++[⟨true,x⟩]⟩:=by
 obtain ⟨c,-,hc,-⟩:=look_all h.map x (by omega)
 have HC:=xH hc
 clear hc
 have HG:=xH (Rg.start (k:=4) (x:=x) (y:=y) h)
 have HW:=xH (Wb.start (k:=4) (x:=x) (y:=y) (T:=T) (x2:=x2) (n2:=n2) (m2:=m2) (x4:=x4) (n4:=n4) (m4:=m4) (b0:=b0) hm hbb hbL)
 clear h hm
 go_enter Try.func37,Try.ntmps37
 go_upto_region 1 with fail
 generalize (w.alloc _).alloc _=W0 at HG HW ⊢
 refine wp_swap (c':=Code.region 1 wr1Ops true) (by kernel_rfl) ?_
 refine wp_region_noPanic ?_
 refine wr1 w L T B x (d.files.map Df.name) c (by omega) (xU HC) W0 _ (fun _ _ _ _ _ h=>h) (xU HG).v0 (xU HG).t1 (xU HG).m1 (xU HG).map (by kernel_rfl) ?_
 intro v
 refine NoPanic.normal ?_
 simp only [frL_eq,frG,List.lookup,Nat.reduceBEq,Nat.reduceAdd,Option.getD_some,Option.getD_none]
 have HG1:=xH ((xU HG).on (drewB _));have HW1:=xH ((xU HW).on (drewB _) (xU HW).sz)
 clear HG HW
 generalize W0.drew=W1 at HG1 HW1 ⊢
 have m0:=(xU HG1).b1.cell (i:=0) (by omega)
 simp only [row3] at m0
 go_upto_region 11 with fail
 refine wp_swap (c':=Code.region 11 wr11Ops true) (by kernel_rfl) ?_
 refine wp_region_noPanic ?_
 refine wr11 w 4 x y b0 base L o d hx (by omega) (fun W hW=>Nat.le_trans hbL (Nat.le_of_lt hW.mx.row.lt)) _ _ (fun _ _ _ _ _ h=>h) ((xU HW1).on (drewB _) (xU HW1).sz) (by kernel_rfl) ?_
 intro v2 o2 W2 h2
 refine NoPanic.normal ?_
 simp only [frL_eq,frG,List.lookup,Nat.reduceBEq,Nat.reduceAdd,Option.getD_some,Option.getD_none]
 have HW2:=xH h2
 clear h2 HW1 HG1 m0
 go_wp2_with fail
 go_end0
 exact ⟨rfl,⟨o2,(xU HW2).mx⟩,(xU HW2).bel,(xU HW2).ty⟩
theorem write_add (P:Nat→Prop) (w:World) (d:Dk) (a0:Option Addr) (p0 T B:Nat) (x2:Option Addr) (n2 m2:Nat) (x4:Option Addr) (n4 m4:Nat) (x y:ByteArray) (h:Vs P d a0 p0 T B x2 n2 m2 x4 n4 m4 w) (b0 base L:Nat) (o:C3) (hm:MxSt base L w o.c0 o.c1 o.c2 d.files d.names d.moves) (hx:x.size≤1048576) (hbb:b0≤base) (hbL:base≤L) (hy:y.size≤1048576) (hnd:(d.files.map Df.name).Nodup) (i:Nat) (hi:i < d.files.length) (hxi:d.files[i].name=x) (hs:¬ (9223372036854775807 < d.files[i].data.size+y.size)):Calls Try.prog 37 #[.agg #[.pointer (some ⟨T,0,none⟩),.pointer (some ⟨T,0,none⟩),.slice x2 n2 m2,.pointer (some ⟨T,0,none⟩),.slice x4 n4 m4],.pointer (some ⟨L,0,none⟩),.agg #[.int .i64 2,.string x,.string y]] w fun e w'=>WrEnd w w' e b0 base L ⟨d.files.set i ⟨d.files[i].name,d.files[i].data++y,d.files[i].kept⟩,d.names,d.moves⟩:=by
 have hat:=at_nmap (d.files.map Df.name) hnd i (by rw [List.length_map];exact hi) (d.files.map Df.name).length (Nat.le_refl _) (by rw [List.length_map];exact hi)
 rw [List.getElem_map,hxi] at hat
 have HC:=xH hat
 obtain ⟨g,s0,hO,-,-⟩:=hm.o0.form (by omega)
 clear hat
 have HG:=xH (Rg.start (k:=2) (x:=x) (y:=y) h)
 have HW:=xH (Wb.start (k:=2) (x:=x) (y:=y) (T:=T) (x2:=x2) (n2:=n2) (m2:=m2) (x4:=x4) (n4:=n4) (m4:=m4) (b0:=b0) hm hbb hbL)
 clear h hm
 go_enter Try.func37,Try.ntmps37
 go_upto_region 1 with fail
 generalize (w.alloc _).alloc _=W0 at HG HW ⊢
 refine wp_swap (c':=Code.region 1 wr1Ops true) (by kernel_rfl) ?_
 refine wp_region_noPanic ?_
 refine wr1 w L T B x (d.files.map Df.name) (i:Nat) (by omega) (xU HC) W0 _ (fun _ _ _ _ _ h=>h) (xU HG).v0 (xU HG).t1 (xU HG).m1 (xU HG).map (by kernel_rfl) ?_
 intro v
 refine NoPanic.normal ?_
 simp only [frL_eq,frG,List.lookup,Nat.reduceBEq,Nat.reduceAdd,Option.getD_some,Option.getD_none]
 have HG1:=xH ((xU HG).on (drewB _));have HW1:=xH ((xU HW).on (drewB _) (xU HW).sz)
 clear HG HW
 generalize W0.drew=W1 at HG1 HW1 ⊢
 have m0:=(xU HG1).b1.cell (i:=0) (by omega)
 simp only [row3] at m0
 have HO:=xH hO
 clear hO
 go_upto_region 7 with fail
 refine wp_swap (c':=Code.region 7 wr7Ops true) (by kernel_rfl) ?_
 refine wp_region_noPanic ?_
 refine wr7 w 2 x y b0 base L o d hy i hi g s0 (xU HO) hs _ _ (fun _ _ _ _ _ h=>h) ((xU HW1).on (drewB _) (xU HW1).sz) (by kernel_rfl) ?_
 intro v2 W2 h2
 refine NoPanic.normal ?_
 simp only [frL_eq,frG,List.lookup,Nat.reduceBEq,Nat.reduceAdd,Option.getD_some,Option.getD_none]
 have HW2:=xH h2
 clear h2 HW1 HG1 m0
 go_wp2_with fail
 go_end0
 exact ⟨rfl,⟨o,(xU HW2).mx⟩,(xU HW2).bel,(xU HW2).ty⟩
theorem write_sync (P:Nat→Prop) (w:World) (d:Dk) (a0:Option Addr) (p0 T B:Nat) (x2:Option Addr) (n2 m2:Nat) (x4:Option Addr) (n4 m4:Nat) (x y:ByteArray) (h:Vs P d a0 p0 T B x2 n2 m2 x4 n4 m4 w) (b0 base L:Nat) (o:C3) (hm:MxSt base L w o.c0 o.c1 o.c2 d.files d.names d.moves) (hx:x.size≤1048576) (hbb:b0≤base) (hbL:base≤L) (hnd:(d.files.map Df.name).Nodup) (i:Nat) (hi:i < d.files.length) (hxi:d.files[i].name=x):Calls Try.prog 37 #[.agg #[.pointer (some ⟨T,0,none⟩),.pointer (some ⟨T,0,none⟩),.slice x2 n2 m2,.pointer (some ⟨T,0,none⟩),.slice x4 n4 m4],.pointer (some ⟨L,0,none⟩),.agg #[.int .i64 3,.string x,.string y]] w fun e w'=>WrEnd w w' e b0 base L ⟨d.files.set i ⟨d.files[i].name,d.files[i].data,d.files[i].data.size⟩,d.names,d.moves⟩:=by
 have hat:=at_nmap (d.files.map Df.name) hnd i (by rw [List.length_map];exact hi) (d.files.map Df.name).length (Nat.le_refl _) (by rw [List.length_map];exact hi)
 rw [List.getElem_map,hxi] at hat
 have HC:=xH hat
 obtain ⟨g,s0,hO,-,-⟩:=hm.o0.form (by omega)
 clear hat
 have HG:=xH (Rg.start (k:=3) (x:=x) (y:=y) h)
 have HW:=xH (Wb.start (k:=3) (x:=x) (y:=y) (T:=T) (x2:=x2) (n2:=n2) (m2:=m2) (x4:=x4) (n4:=n4) (m4:=m4) (b0:=b0) hm hbb hbL)
 clear h hm
 go_enter Try.func37,Try.ntmps37
 go_upto_region 1 with fail
 generalize (w.alloc _).alloc _=W0 at HG HW ⊢
 refine wp_swap (c':=Code.region 1 wr1Ops true) (by kernel_rfl) ?_
 refine wp_region_noPanic ?_
 refine wr1 w L T B x (d.files.map Df.name) (i:Nat) (by omega) (xU HC) W0 _ (fun _ _ _ _ _ h=>h) (xU HG).v0 (xU HG).t1 (xU HG).m1 (xU HG).map (by kernel_rfl) ?_
 intro v
 refine NoPanic.normal ?_
 simp only [frL_eq,frG,List.lookup,Nat.reduceBEq,Nat.reduceAdd,Option.getD_some,Option.getD_none]
 have HG1:=xH ((xU HG).on (drewB _));have HW1:=xH ((xU HW).on (drewB _) (xU HW).sz)
 clear HG HW
 generalize W0.drew=W1 at HG1 HW1 ⊢
 have m0:=(xU HG1).b1.cell (i:=0) (by omega)
 simp only [row3] at m0
 have HO:=xH hO
 clear hO
 go_upto_region 9 with fail
 refine wp_swap (c':=Code.region 9 wr9Ops true) (by kernel_rfl) ?_
 refine wp_region_noPanic ?_
 refine wr9 w 3 x y b0 base L o d i hi g s0 (xU HO) _ _ (fun _ _ _ _ _ h=>h) ((xU HW1).on (drewB _) (xU HW1).sz) (by kernel_rfl) ?_
 intro v2 W2 h2
 refine NoPanic.normal ?_
 simp only [frL_eq,frG,List.lookup,Nat.reduceBEq,Nat.reduceAdd,Option.getD_some,Option.getD_none]
 have HW2:=xH h2
 clear h2 HW1 HG1 m0
 go_wp2_with fail
 go_end0
 exact ⟨rfl,⟨o,(xU HW2).mx⟩,(xU HW2).bel,(xU HW2).ty⟩
theorem write_dirs (P:Nat→Prop) (w:World) (d:Dk) (a0:Option Addr) (p0 T B:Nat) (x2:Option Addr) (n2 m2:Nat) (x4:Option Addr) (n4 m4:Nat) (x y:ByteArray) (h:Vs P d a0 p0 T B x2 n2 m2 x4 n4 m4 w) (b0 base L:Nat) (o:C3) (hm:MxSt base L w o.c0 o.c1 o.c2 d.files d.names d.moves) (hx:x.size≤1048576) (hbb:b0≤base) (hbL:base≤L) (hok:DkOkS d) (hP:∀ b,P b→b≠L) (hT:T≠L) (hB:B≠L∧B < w.heap.size):Calls Try.prog 37 #[.agg #[.pointer (some ⟨T,0,none⟩),.pointer (some ⟨T,0,none⟩),.slice x2 n2 m2,.pointer (some ⟨T,0,none⟩),.slice x4 n4 m4],.pointer (some ⟨L,0,none⟩),.agg #[.int .i64 5,.string x,.string y]] w fun e w'=>WrEnd w w' e b0 base L (keepD d (namesD d)):=by
 obtain ⟨c,-,hc,-⟩:=look_all h.map x (by omega)
 have HC:=xH hc
 clear hc
 have HG:=xH (Rg.start (k:=5) (x:=x) (y:=y) h)
 have HW:=xH (Wb.start (k:=5) (x:=x) (y:=y) (T:=T) (x2:=x2) (n2:=n2) (m2:=m2) (x4:=x4) (n4:=n4) (m4:=m4) (b0:=b0) hm hbb hbL)
 clear h hm
 go_enter Try.func37,Try.ntmps37
 go_upto_region 1 with fail
 generalize (w.alloc _).alloc _=W0 at HG HW ⊢
 refine wp_swap (c':=Code.region 1 wr1Ops true) (by kernel_rfl) ?_
 refine wp_region_noPanic ?_
 refine wr1 w L T B x (d.files.map Df.name) c (by omega) (xU HC) W0 _ (fun _ _ _ _ _ h=>h) (xU HG).v0 (xU HG).t1 (xU HG).m1 (xU HG).map (by kernel_rfl) ?_
 intro v
 refine NoPanic.normal ?_
 simp only [frL_eq,frG,List.lookup,Nat.reduceBEq,Nat.reduceAdd,Option.getD_some,Option.getD_none]
 have HG1:=xH ((xU HG).on (drewB _));have HW1:=xH ((xU HW).on (drewB _) (xU HW).sz)
 clear HG HW
 generalize W0.drew=W1 at HG1 HW1 ⊢
 have m0:=(xU HG1).b1.cell (i:=0) (by omega)
 simp only [row3] at m0
 have HSE:=xH (settle_any P W1 d a0 p0 T B x2 n2 m2 x4 n4 m4 (xU HG1).vs b0 base L o (xU HW1).mx hok hbb hbL hP hT ⟨hB.1,Nat.lt_of_lt_of_le hB.2 (xU HW1).bel.size⟩)
 obtain ⟨r0,r1,r2,r3,r4⟩:=cs5 ((xU HG1).b0) (by omega)
 simp only [row5] at r0 r1 r2 r3 r4
 have HBL:=xH (xU HW1).bel;have HTY:=xH (xU HW1).ty
 clear HG1 HW1 HC hok hP
 go_wp2_with fail
 refine (xU HSE).mono ?_
 rintro e w5 ⟨rfl,⟨o5,hm5⟩,hb5,ht5⟩
 have HM5:=xH hm5;have HB5:=xH ((xU HBL).trans hb5);have HT5:=xH ((xU HTY).trans ht5)
 clear hm5 hb5 ht5 HSE
 go_wp2_with fail
 go_end0
 exact ⟨rfl,⟨o5,xU HM5⟩,xU HB5,xU HT5⟩
end Go.Proofs.Yteikmbkljkkjiaa

namespace Go.Proofs.Yteikmbkljkkjiaa
open Go Go.RowKit Go.WideMaps Go.Maps
theorem find_has {d:Dk} (h:DkOkS d) (x:ByteArray):0≤findF d.files x↔hasB (d.files.map Df.name) x=true:=by
 rw [hasB_iff]
 constructor
 · intro h0
   refine Classical.byContradiction fun hno=>?_
   rw [findF_no (fun j hj=>?_)] at h0
   · omega
   · refine Bool.eq_false_iff.2 fun hs=>hno ?_
     rw [List.mem_map]
     exact ⟨d.files[j],List.getElem_mem hj,by rw [sameB_dec] at hs;exact of_decide_eq_true hs⟩
 · intro hm
   obtain ⟨f,hf,rfl⟩:=List.mem_map.1 hm
   obtain ⟨i,hi,rfl⟩:=List.getElem_of_mem hf
   rw [(h.file i hi (by rw [h.len];exact hi)).find]
   omega
theorem fr2_no (c:Int) (h:c≠0) (e:Int):fr2 c e=c:=by unfold fr2;rw [if_neg h]
theorem fr2_yes (e:Int):fr2 0 e=e:=by unfold fr2;rw [if_pos rfl]
theorem refusal_any (P:Nat→Prop) (w:World) (d:Dk) (a0:Option Addr) (p0 T B:Nat) (x2:Option Addr) (n2 m2:Nat) (x4:Option Addr) (n4 m4:Nat) (k:Int) (x y:ByteArray) (h:Vs P d a0 p0 T B x2 n2 m2 x4 n4 m4 w) (hx:x.size≤1048576) (hok:DkOkS d) :
 Calls Try.prog 36 #[.agg #[.pointer (some ⟨T,0,none⟩),.pointer (some ⟨T,0,none⟩),.slice x2 n2 m2,.pointer (some ⟨T,0,none⟩),.slice x4 n4 m4],.agg #[.int .i64 k,.string x,.string y]] w fun e w'=>e=.returned (.int .i64 (doD d k x y).2)∧Below w.heap.size w w':=by
 have hn1:d.names.length≤1000:=by have:=hok.l2;omega
 have hn2:d.moves.length≤1000:=by have:=hok.l3;omega
 obtain ⟨hnd,heq,hmf⟩:=dk_nodup hok
 rw [← namesD_ok hok] at hmf
 rw [← heq] at hnd
 have h4:n4=d.moves.length:=by
  obtain ⟨am,cm,e4,-,-,-⟩:=h.fn
  simp only [Value.slice.injEq] at e4
  exact e4.2.1
 have key:∀ c,c=(doD d k x y).2→∀ {e:Ending} {w':World},e=.returned (.int .i64 c)∧Below w.heap.size w w'→e=.returned (.int .i64 (doD d k x y).2)∧Below w.heap.size w w':=fun c hc e w' he=>by rw [← hc];exact he
 by_cases k1:k=1
 · subst k1
   refine (refusal_make P w d a0 p0 T B x2 n2 m2 x4 n4 m4 x y h hx).mono fun e w'=>key _ ?_
   rw [h4]
   by_cases ht:nameOkB x=false∨0≤findF d.files x
   · rw [doD_taken hok ht]
     rw [if_pos,fr2_no 3 (by decide)]
     rcases ht with ht | ht
     · rw [ht];simp
     · rw [(find_has hok x).1 ht];simp
   · have hb:(hasB (d.files.map Df.name) x || !nameOkB x)=false:=by
      have e1:hasB (d.files.map Df.name) x=false:=Bool.eq_false_iff.2 fun e=>ht (Or.inr ((find_has hok x).2 e))
      have e2:nameOkB x=true:=by
       cases e:nameOkB x with
       | true=>rfl
       | false=>exact absurd (Or.inl e) ht
      rw [e1,e2];rfl
     rw [hb,if_neg (by decide),fr2_yes]
     by_cases hf:64≤d.files.length∨128≤d.moves.length
     · rw [doD_full hok ht hf,if_pos]
       simpa using hf
     · rw [doD_make hok ht hf,if_neg]
       simpa using hf
 by_cases k2:k=2
 · subst k2
   by_cases hin:x∈namesD d
   · obtain ⟨i,hi,-,hxi,hfi⟩:=names_file hin
     refine (refusal_addY P w d a0 p0 T B x2 n2 m2 x4 n4 m4 x y h hx (namesD d) hmf hn1 hn2 hnd i hi hxi).mono fun e w'=>key _ ?_
     rw [hasB_iff.2 hin,if_neg (by decide),fr2_yes]
     have hds:=(hok.file i hi (by rw [hok.len];exact hi)).data
     have hw:IntKind.i64.wrap (20000 - (d.files[i].data.size:Int))=20000 - (d.files[i].data.size:Int):=by rw [IntKind.wrap_i64];omega
     rw [hw]
     have hfd:=fileD_at hi hfi
     by_cases hz:20000 - (d.files[i].data.size:Int) < (y.size:Int)
     · rw [doD_addfull hok hin (by rw [hfd];exact hz),if_pos (by simpa using hz)]
     · rw [doD_add hok hin (by rw [hfd];exact hz),if_neg (by simpa using hz)]
   · have hno:hasB (namesD d) x=false:=Bool.eq_false_iff.2 fun e=>hin (hasB_iff.1 e)
     have hd2:=doD_nofile (y:=y) hok (by decide:(2:Int)≤2∧(2:Int)≤4) hin
     cases hb:hasB (d.files.map Df.name) x with
     | false =>
       refine (refusal_addN P w d a0 p0 T B x2 n2 m2 x4 n4 m4 x y h hx (namesD d) hmf hn1 hn2 hb).mono fun e w'=>key _ ?_
       rw [hno,hd2,if_pos (by rfl),fr2_no 2 (by decide)]
     | true =>
       obtain ⟨f,hf,hfx⟩:=List.mem_map.1 (hasB_iff.1 hb)
       obtain ⟨i,hi,rfl⟩:=List.getElem_of_mem hf
       refine (refusal_addY P w d a0 p0 T B x2 n2 m2 x4 n4 m4 x y h hx (namesD d) hmf hn1 hn2 hnd i hi hfx).mono fun e w'=>key _ ?_
       rw [hno,hd2,if_pos (by rfl),fr2_no 2 (by decide)]
 by_cases k4:k=4
 · subst k4
   refine (refusal_gone P w d a0 p0 T B x2 n2 m2 x4 n4 m4 x y h hx (namesD d) hmf hn1 hn2).mono fun e w'=>key _ ?_
   rw [h4]
   by_cases hin:x∈namesD d
   · rw [hasB_iff.2 hin,if_neg (by decide),fr2_yes]
     by_cases hf:128≤d.moves.length
     · rw [doD_gonefull hok hin hf,if_pos (by simpa using hf)]
     · rw [doD_gone hok hin hf,if_neg (by simpa using hf)]
   · rw [doD_nofile (y:=y) hok (by decide) hin,Bool.eq_false_iff.2 fun e=>hin (hasB_iff.1 e),if_pos (by rfl),fr2_no 2 (by decide)]
 · refine (refusal_easy d.names d.moves T B _ (d.files.map Df.name) x2 n2 m2 x4 n4 m4 P w h.lt h.ns h.fn hn1 hn2 (namesD d) hmf h.row h.map k x y (by omega) k1 k2 k4).mono fun e w'=>key _ ?_
   unfold refE
   by_cases k3:k=3
   · subst k3
     rw [if_pos rfl]
     by_cases hin:x∈namesD d
     · rw [hasB_iff.2 hin,doD_sync hok hin];rfl
     · rw [doD_nofile (y:=y) hok (by decide) hin,Bool.eq_false_iff.2 fun e=>hin (hasB_iff.1 e)];rfl
   · rw [if_neg k3]
     by_cases k5:k=5
     · subst k5
       rw [if_pos rfl,doD_dirs hok]
     · rw [if_neg k5,doD_kind hok (by omega)]
theorem write_any (P:Nat→Prop) (w:World) (d:Dk) (a0:Option Addr) (p0 T B:Nat) (x2:Option Addr) (n2 m2:Nat) (x4:Option Addr) (n4 m4:Nat) (k:Int) (x y:ByteArray) (h:Vs P d a0 p0 T B x2 n2 m2 x4 n4 m4 w) (b0 base L:Nat) (o:C3) (hm:MxSt base L w o.c0 o.c1 o.c2 d.files d.names d.moves) (hx:x.size≤1048576) (hbb:b0≤base) (hbL:base≤L) (hok:DkOkS d) (hP:∀ b,P b→b≠L) (hT:T≠L) (hB:B≠L∧B < w.heap.size) (h0:(doD d k x y).2=0) :
 Calls Try.prog 37 #[.agg #[.pointer (some ⟨T,0,none⟩),.pointer (some ⟨T,0,none⟩),.slice x2 n2 m2,.pointer (some ⟨T,0,none⟩),.slice x4 n4 m4],.pointer (some ⟨L,0,none⟩),.agg #[.int .i64 k,.string x,.string y]] w fun e w'=>WrEnd w w' e b0 base L (doD d k x y).1:=by
 obtain ⟨hnd,heq,-⟩:=dk_nodup hok
 rw [← heq] at hnd
 have hn2:=hok.l3
 by_cases k1:k=1
 · subst k1
   by_cases ht:nameOkB x=false∨0≤findF d.files x
   · rw [doD_taken hok ht] at h0;cases h0
   by_cases hf:64≤d.files.length∨128≤d.moves.length
   · rw [doD_full hok ht hf] at h0;cases h0
   rw [doD_make hok ht hf]
   exact write_make P w d a0 p0 T B x2 n2 m2 x4 n4 m4 x y h b0 base L o hm hx hbb hbL (by omega) (by omega)
 by_cases k5:k=5
 · subst k5
   rw [doD_dirs hok]
   exact write_dirs P w d a0 p0 T B x2 n2 m2 x4 n4 m4 x y h b0 base L o hm hx hbb hbL hok hP hT hB
 by_cases hk:2≤k∧k≤4
 case neg=>rw [doD_kind hok (by omega)] at h0;cases h0
 by_cases hin:x∈namesD d
 case neg=>rw [doD_nofile hok hk hin] at h0;cases h0
 obtain ⟨i,hi,-,hxi,hfi⟩:=names_file hin
 have hfd:=fileD_at hi hfi
 have hds:=(hok.file i hi (by rw [hok.len];exact hi)).data
 by_cases k2:k=2
 · subst k2
   by_cases hz:20000 - ((fileD d x).data.size:Int) < (y.size:Int)
   · rw [doD_addfull hok hin hz] at h0;cases h0
   rw [doD_add hok hin hz,putD_at hfi,hfd]
   rw [hfd] at hz
   exact write_add P w d a0 p0 T B x2 n2 m2 x4 n4 m4 x y h b0 base L o hm hx hbb hbL (by omega) hnd i hi hxi (by omega)
 by_cases k3:k=3
 · subst k3
   rw [doD_sync hok hin,putD_at hfi,hfd]
   exact write_sync P w d a0 p0 T B x2 n2 m2 x4 n4 m4 x y h b0 base L o hm hx hbb hbL hnd i hi hxi
 obtain rfl:k=4:=by omega
 by_cases hf:128≤d.moves.length
 · rw [doD_gonefull hok hin hf] at h0;cases h0
 rw [doD_gone hok hin hf]
 exact write_gone P w d a0 p0 T B x2 n2 m2 x4 n4 m4 x y h b0 base L o hm hx hbb hbL (by omega)
end Go.Proofs.Yteikmbkljkkjiaa
