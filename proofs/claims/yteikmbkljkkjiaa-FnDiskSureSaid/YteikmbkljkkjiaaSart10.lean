/- A part. -/
import Derived.Test.YteikmbkljkkjiaaSart09
namespace Go.Proofs.Yteikmbkljkkjiaa
open Go Go.RowKit
set_option maxRecDepth 100000
set_option maxHeartbeats 6400000
def DkEnd (w w':World) (e:Ending) (d:Dk):Prop:=∃ c':C3,e=.returned (.agg #[c'.c0,c'.c1,c'.c2])∧DkAt (New w w') w' d c'∧Below w.heap.size w w'
theorem own_slice {w:World} {base:Nat} {e:TypeId} {size:Nat} {v:Value} {n:Nat} {xs:List Value} (h:w.ownsRow base e size v n xs):∃ a cap,v=.slice a n cap:=by
 rcases h.2 with ⟨hv,h0⟩ | ⟨g,c,u,hv,_⟩
 · exact ⟨none,0,by rw [hv,h0]⟩
 · exact ⟨_,_,hv⟩
structure MxSt (base L:Nat) (W:World) (x0 x1 x2:Value) (fs:List Df) (ns:List ByteArray) (ms:List Dm):Prop where
 row:W.rowIs L 27 3 (row3 x0 x1 x2)
 o0:W.ownsRow base 44 3 x0 fs.length (fs.map Df.cs).flatten
 o1:W.ownsRow base 9 1 x1 ns.length (ns.map Value.string)
 o2:W.ownsRow base 60 2 x2 ms.length (ms.map Dm.cs).flatten
theorem MxSt.keep {base L:Nat} {W W':World} {x0 x1 x2:Value} {fs:List Df} {ns:List ByteArray} {ms:List Dm} (h:MxSt base L W x0 x1 x2 fs ns ms) (hb:Below W.heap.size W W'):MxSt base L W' x0 x1 x2 fs ns ms :=
 ⟨h.row.of_block (hb.block L h.row.lt),ownsRow_keep h.o0 (fun g e=>hb.block g (h.o0.lt g e).2),ownsRow_keep h.o1 (fun g e=>hb.block g (h.o1.lt g e).2),ownsRow_keep h.o2 (fun g e=>hb.block g (h.o2.lt g e).2)⟩
theorem MxSt.at {base L:Nat} {W:World} {x0 x1 x2:Value} {fs:List Df} {ns:List ByteArray} {ms:List Dm} (h:MxSt base L W x0 x1 x2 fs ns ms) (hf:∀ f,f∈fs→f.okM) (hn:∀ x,x∈ns→x.size≤9223372036854775807) (hm:∀ m,m∈ms→m.okM):DkAt (fun b=>b < W.heap.size) W ⟨fs,ns,ms⟩ ⟨x0,x1,x2⟩:=by
 obtain ⟨F0,t1,t2,t3,-⟩:=FlatOwn.of_row (rs:=fs.map Df.cs) (n:=3) (by rw [List.length_map];exact h.o0) (fun r hr=>by obtain ⟨f,-,rfl⟩:=List.mem_map.1 hr;rfl)
 obtain ⟨F2,r1,r2,r3,-⟩:=FlatOwn.of_row (rs:=ms.map Dm.cs) (n:=2) (by rw [List.length_map];exact h.o2) (fun r hr=>by obtain ⟨f,-,rfl⟩:=List.mem_map.1 hr;rfl)
 exact ⟨⟨t1.at.carry (fun _ _=>rfl) (fun b hb=>(t3 b hb).2),hf⟩,(strsAt_own h.o1 hn).carry (fun _ _=>rfl) (fun b hb=>hb.2),⟨r1.at.carry (fun _ _=>rfl) (fun b hb=>(r3 b hb).2),hm⟩⟩
structure MxR (base L:Nat) (W:World) (x0 x1 x2:Value) (n:Nat) (xs:List Value) (ns:List ByteArray) (ms:List Dm):Prop where
 row:W.rowIs L 27 3 (row3 x0 x1 x2)
 o0:W.ownsRow base 44 3 x0 n xs
 o1:W.ownsRow base 9 1 x1 ns.length (ns.map Value.string)
 o2:W.ownsRow base 60 2 x2 ms.length (ms.map Dm.cs).flatten
theorem MxR.keep {base L:Nat} {W W':World} {x0 x1 x2:Value} {n:Nat} {xs:List Value} {ns:List ByteArray} {ms:List Dm} (h:MxR base L W x0 x1 x2 n xs ns ms) (hb:Below W.heap.size W W'):MxR base L W' x0 x1 x2 n xs ns ms :=
 ⟨h.row.of_block (hb.block L h.row.lt),ownsRow_keep h.o0 (fun g e=>hb.block g (h.o0.lt g e).2),ownsRow_keep h.o1 (fun g e=>hb.block g (h.o1.lt g e).2),ownsRow_keep h.o2 (fun g e=>hb.block g (h.o2.lt g e).2)⟩
theorem MxR.put {base L:Nat} {W:World} {g n cap:Nat} {x1 x2:Value} {xs:List Value} {ns:List ByteArray} {ms:List Dm} (h:MxR base L W (.slice (some ⟨g,0,none⟩) n cap) x1 x2 n xs ns ms) (j:Nat) (u:Value) :
 MxR base L (W.setCell ⟨g,j,none⟩ u) (.slice (some ⟨g,0,none⟩) n cap) x1 x2 n (xs.set j u) ns ms:=by
 have hL:g≠L:=fun e=>own_apart h.o0 h.row (by decide) (by rw [← e];rfl)
 have h1:x1.ownBlock≠some g:=fun e=>own_ne h.o0 h.o1 (by decide) g rfl e
 have h2:x2.ownBlock≠some g:=fun e=>own_ne h.o0 h.o2 (by decide) g rfl e
 exact ⟨h.row.setOther hL.symm _,ownsRow_put h.o0 j u,ownsRow_setCell_other h.o1 h1 _,ownsRow_setCell_other h.o2 h2 _⟩
theorem specDiskCut_mid (d:Dk) (m:Int) (zs:List Int) (P:Nat→Prop) (c:C3) (v:Value) (w:World) (hP:∀ b,P b→b < w.heap.size) (hd:DkAt P w d c) (hz:ZsAt P w v zs) (hm0:0≤m) (hm1:m≤d.moves.length) :
 Calls Try.prog 15 #[.agg #[c.c0,c.c1,c.c2],.int .i64 m,v] w fun e w'=>DkEnd w w' e (cutD d m zs):=by
 obtain ⟨c0,c1,c2⟩:=c
 have HD:=xH hd;have HP:=xH hP;have HZ:=xH hz
 obtain ⟨q,rfl⟩:∃ q:Nat,m=q:=⟨m.toNat,by omega⟩
 have hq:q≤d.moves.length:=by omega
 have HCN:=xH (show afterD d.names (d.moves.take q)=cutN d (q:Int) by unfold cutN;rw [show clampQ (q:Int) d.moves.length=q by unfold clampQ;omega])
 obtain ⟨a0,p0,g0,hl0,-⟩:=hd.fs.open
 obtain ⟨a1,p1,g1,hl1,-⟩:=hd.ns
 obtain ⟨a2,p2,g2,hl2,-⟩:=hd.ms.open
 simp only at g0 g1 g2
 subst g0 g1 g2
 obtain ⟨W0,hW0⟩:∃ W0,W0=(w.alloc (.cells #[.slice a0 d.files.length p0,.slice a1 d.names.length p1,.slice a2 d.moves.length p2] 27)).alloc (.cells #[.slice none 0 0,.slice none 0 0,.slice none 0 0] 27):=⟨_,rfl⟩
 have hs0:W0.heap.size=w.heap.size+2:=by rw [hW0];simp
 have hb0:Below w.heap.size w W0:=by rw [hW0];exact ((Below.refl _ _).alloc (Nat.le_refl _) _).alloc (by simp) _
 have hrA:W0.rowIs w.heap.size 27 3 (row3 (.slice a0 d.files.length p0) (.slice a1 d.names.length p1) (.slice a2 d.moves.length p2)):=by rw [hW0];exact (row3_alloc w _ _ _ _).alloc _
 have hrR:W0.rowIs (w.heap.size+1) 27 3 (row3 (.slice none 0 0) (.slice none 0 0) (.slice none 0 0)):=by
  rw [hW0]
  have:=row3_alloc (w.alloc (.cells #[.slice a0 d.files.length p0,.slice a1 d.names.length p1,.slice a2 d.moves.length p2] 27)) (.slice none 0 0) (.slice none 0 0) (.slice none 0 0) 27
  rw [World.size_alloc] at this
  exact this
 have hcar:∀ W,Below w.heap.size w W→DkAt P W d ⟨.slice a0 d.files.length p0,.slice a1 d.names.length p1,.slice a2 d.moves.length p2⟩:=fun W hW=>(xU HD).carry (fun b hb=>hW.block b (hP b hb)) (fun _ h=>h)
 have hPW:∀ W,Below w.heap.size w W→∀ b,P b→b < W.heap.size:=fun W hW b hb=>Nat.lt_of_lt_of_le (hP b hb) hW.size
 have hok0:=specDiskOk_any d P ⟨.slice a0 d.files.length p0,.slice a1 d.names.length p1,.slice a2 d.moves.length p2⟩ W0 (hPW W0 hb0) (hcar W0 hb0)
 rw [hW0] at hok0
 have HOK0:=xH hok0
 have HCAR:=xH hcar;have HPW:=xH hPW;have HRA:=xH hrA;have HRR:=xH hrR;have HB0:=xH hb0;have HWW:=xH hW0
 clear hd hP hcar hPW hrA hrR hb0 hok0 hW0
 obtain ⟨az,cz,rfl,hzl,-⟩:=hz
 go_enter Try.func15,Try.ntmps15
 go_wp2_with fail
 refine (xU HOK0).mono ?_
 rintro e w1 ⟨⟨r,rfl,hr⟩,hb1⟩
 rw [← xU HWW] at hb1
 have hbw1:Below w.heap.size w w1:=(xU HB0).trans (hb1.mono (by omega))
 have hs1:w.heap.size+2≤w1.heap.size:=by have:=hb1.size;omega
 have hq2:=(xU HRR).of_block (hb1.block (w.heap.size+1) (by omega))
 have hqA:=(xU HRA).of_block (hb1.block w.heap.size (by omega))
 have HBW1:=xH hbw1
 clear HOK0 HWW
 cases r with
 | false =>
   have HNO:=xH (show cutD d (q:Int) zs=⟨[],[],[]⟩ from cutD_no (fun h=>by have:=hr.2 h;cases this))
   obtain ⟨y0,y1,y2⟩:=cs3 hq2 (by omega)
   have z:=hq2.frozen
   simp only [row3] at y0 y1 y2
   clear hr hq2 hqA hb1 hbw1
   go_wp2_with fail
   try simp only [Exit.inBlock,Exit.then]
   refine bodyPost_ret (v:=.agg #[.slice none 0 0,.slice none 0 0,.slice none 0 0]) (by simp [results,Try.results15,go_sem,y0,y1,y2]) rfl ?_
   rw [xU HNO]
   exact ⟨⟨_,_,_⟩,rfl,(DkOwn.none _).at.carry (fun _ _=>rfl) (fun b hb=>(by cases hb)),(((xU HBW1).setCell (by simp) _).setCell (by simp) _).setCell (by simp) _⟩
 | true =>
   have hok:=hr.1 rfl
   have HCP:=xH (l41Copy_any d P ⟨.slice a0 d.files.length p0,.slice a1 d.names.length p1,.slice a2 d.moves.length p2⟩ w1 (xU HPW w1 hbw1) (xU HCAR w1 hbw1) (by have:=hok.l1;omega) (by have:=hok.l2;omega) (by have:=hok.l3;omega))
   obtain ⟨k0,k1,k2⟩:=cs3 hqA (by omega)
   simp only [row3] at k0 k1 k2
   have HOK:=xH hok;have HQ2:=xH hq2;have HQA:=xH hqA
   clear hr hok hq2 hqA hb1 hbw1
   go_wp2_with fail
   refine (xU HCP).mono ?_
   rintro e w3 ⟨⟨x0,x1,x2⟩,rfl,o0,o1,o2,hb3⟩
   simp only at o0 o1 o2
   obtain ⟨t0,s0,rfl⟩:=own_slice o0
   obtain ⟨t1,s1,rfl⟩:=own_slice o1
   obtain ⟨t2,s2,rfl⟩:=own_slice o2
   have hst:MxSt w1.heap.size w3.heap.size (w3.alloc (.cells #[.slice t0 d.files.length s0,.slice t1 d.names.length s1,.slice t2 d.moves.length s2] 27)) (.slice t0 d.files.length s0) (.slice t1 d.names.length s1) (.slice t2 d.moves.length s2) (mixL d.files zs 0) d.names d.moves:=by
    rw [mixL_zero]
    exact ⟨row3_alloc w3 _ _ _ _,o0.alloc _,o1.alloc _,o2.alloc _⟩
   have hb4:Below w1.heap.size w1 (w3.alloc (.cells #[.slice t0 d.files.length s0,.slice t1 d.names.length s1,.slice t2 d.moves.length s2] 27)):=hb3.alloc hb3.size _
   have hs3:=hb3.size
   have HST:=xH hst;have HB4:=xH hb4
   clear hst hb4 o0 o1 o2 hb3 HCP k0 k1 k2
   go_wp2_with fail
   go_loopw [8] (fun i wr=>∃ (k:Nat),k≤d.files.length∧i=.int .i64 k∧Hid (MxSt w1.heap.size w3.heap.size wr (.slice t0 d.files.length s0) (.slice t1 d.names.length s1) (.slice t2 d.moves.length s2) (mixL d.files zs k) d.names d.moves)∧Hid (Below w1.heap.size w1 wr)) (fun i _=>d.files.length - (intOf i).toNat)
   case atStart=>exact ⟨0,Nat.zero_le _,rfl,xU HST,xU HB4⟩
   case round =>
    clear HST HB4
    obtain ⟨k,hk,rfl,HS,HB⟩:=hrel
    have hbs:=HB.out.size
    have hbw:Below w.heap.size w wr:=(xU HBW1).trans (HB.out.mono (by omega))
    have hrA:=(xU HQA).of_block (HB.out.block w.heap.size (by omega))
    obtain ⟨q0,q1,q2⟩:=cs3 hrA (by omega)
    simp only [row3] at q0 q1 q2
    by_cases hlt:k < d.files.length
    rotate_left
    · obtain rfl:k=d.files.length:=by omega
      have hnsz:∀ x,x∈d.names→x.size≤9223372036854775807:=fun x hx=>by
       obtain ⟨a9,c9,-,-,h9⟩:=(xU HD).ns
       obtain ⟨i,hi,rfl⟩:=List.getElem_of_mem hx
       obtain ⟨_,_,_,_,_,h⟩:=h9 i hi
       exact h
      have hfok:∀ f,f∈mixL d.files zs d.files.length→f.okM:=fun f hf=>by
       obtain ⟨i,hi,rfl⟩:=List.getElem_of_mem hf
       rw [mixL_len] at hi
       rw [mixL_all _ _ _ hi]
       have h1:=(xU HD).fs.2 d.files[i] (List.getElem_mem hi)
       have h2:=((xU HOK).file i hi (by rw [(xU HOK).len];exact hi)).data
       have h3:=cutB_size d.files[i] (zs.getD i 0) h2
       unfold cutF
       exact ⟨h1.1,by simp only;omega,⟨by simp only;omega,by simp only;omega⟩⟩
      obtain ⟨hmf,hcl,hcf⟩:=cutN_facts (xU HOK) (q:Int)
      have HAF:=xH (fun W (hW:Below wr.heap.size wr W)=>l41After_any d P ⟨.slice a0 d.files.length p0,.slice a1 d.names.length p1,.slice a2 d.moves.length p2⟩ W (xU HPW W (hbw.trans (hW.mono (by omega)))) (xU HCAR W (hbw.trans (hW.mono (by omega)))) (by have:=(xU HOK).l2;omega) (by have:=(xU HOK).l3;omega) q hq)
      have HKP:=xH (fun W (hW:Below wr.heap.size wr W) (v5:Value) (h5:StrsAt (fun b=>b < W.heap.size) W v5 (cutN d (q:Int)))=>l41Keep_any ⟨mixL d.files zs d.files.length,d.names,d.moves⟩ (cutN d (q:Int)) (fun b=>b < W.heap.size) ⟨.slice t0 d.files.length s0,.slice t1 d.names.length s1,.slice t2 d.moves.length s2⟩ v5 W (fun _ h=>h) ((HS.out.keep hW).at hfok hnsz (xU HD).ms.2) h5 hcl (fun x hx=>by
       obtain ⟨i,hi,-,hf⟩:=hcf x hx
       exact ⟨i,by simp only [mixL_len];exact hi,by rw [findF_mix];exact hf⟩))
      have HBOX:=xH (fun W (hW:Below wr.heap.size wr W)=>by
       have r:=((HS.out.keep hW).row)
       obtain ⟨l0,l1,l2⟩:=cs3 r (by omega)
       simp only [row3] at l0 l1 l2
       exact (⟨l0,l1,l2⟩:W.cell? ⟨w3.heap.size,0,none⟩=some (.slice t0 d.files.length s0)∧W.cell? ⟨w3.heap.size,1,none⟩=some (.slice t1 d.names.length s1)∧W.cell? ⟨w3.heap.size,2,none⟩=some (.slice t2 d.moves.length s2)))
      have HRW:=xH (fun W (hW:Below wr.heap.size wr W)=>(xU HQ2).of_block ((hW.block (w.heap.size+1) (by omega)).trans (HB.out.block (w.heap.size+1) (by omega))))
      have HBW:=xH hbw
      obtain ⟨l0,l1,l2⟩:=xU HBOX wr (Below.refl _ _)
      have HKM:=xH (keepD_mix (xU HOK) (q:Int) zs)
      clear hrA hnsz hfok hmf hcl hcf hbw
      go_upto_region 19 with fail
      go_region_with (first
       | (go_at_call 33
          refine (xU HAF _ (by first | exact Below.refl _ _ | exact (Below.refl _ _).drew)).mono ?_
          rintro e wA ⟨av,nv,cv,rfl,hA⟩
          rw [xU HCN] at hA
          have hbA:Below wr.heap.size wr wA:=by first | exact hA.out.below | exact (Below.refl _ wr).drew.trans hA.out.below
          have HBA:=xH hbA
          have HSA:=xH (show StrsAt (fun b=>b < wA.heap.size) wA (.slice av nv cv) (cutN d (q:Int)) from hA.out.strs.carry (fun _ _=>rfl) (fun b hb=>hb.2))
          obtain ⟨L0,L1,L2⟩:=xU HBOX wA hbA
          clear hA hbA)
       | (go_at_call 28
          refine (xU HKP wA (xU HBA) _ (xU HSA)).mono ?_
          rintro e wB ⟨⟨c0,c1,c2⟩,rfl,hdk,hbB⟩
          rw [xU HKM] at hdk
          obtain ⟨f0,f1,f2,-,-⟩:=hdk.fs.open
          obtain ⟨f3,f4,f5,-,-⟩:=hdk.ns
          obtain ⟨f6,f7,f8,-,-⟩:=hdk.ms.open
          simp only at f2 f5 f8
          subst f2 f5 f8
          have hbB':Below wr.heap.size wr wB:=(xU HBA).trans (hbB.mono (xU HBA).size)
          have hrB:=xU HRW wB hbB'
          obtain ⟨B0,B1,B2⟩:=cs3 hrB (by omega)
          have zB:=hrB.frozen
          simp only [row3] at B0 B1 B2
          have HDK:=xH hdk;have HBB:=xH hbB'
          clear hdk hbB hbB' hrB))
      all_goals
       go_wp2_with fail
       try simp only [Exit.inBlock,Exit.then]
       refine bodyPost_ret (v:=.agg #[.slice f0 (cutD d (q:Int) zs).files.length f1,.slice f3 (cutD d (q:Int) zs).names.length f4,.slice f6 (cutD d (q:Int) zs).moves.length f7]) (by simp [results,Try.results15,go_sem,B0,B1,B2]) rfl ?_
       have hset:But (w.heap.size+1) wB (((wB.setCell ⟨w.heap.size+1,0,none⟩ (.slice f0 (cutD d (q:Int) zs).files.length f1)).setCell ⟨w.heap.size+1,1,none⟩ (.slice f3 (cutD d (q:Int) zs).names.length f4)).setCell ⟨w.heap.size+1,2,none⟩ (.slice f6 (cutD d (q:Int) zs).moves.length f7)):=((But.set wB 0 _).trans (But.set _ 1 _)).trans (But.set _ 2 _)
       have hbA:=(xU HBA).size
       refine ⟨⟨_,_,_⟩,rfl,(xU HDK).carry (fun b hb=>hset.at hb.2 (by have:=hb.1;omega)) (fun b hb=>⟨by have:=hb.1;omega,Nat.lt_of_lt_of_le hb.2 hset.size⟩),?_⟩
       exact ((((xU HBW).trans ((xU HBB).mono (by omega))).setCell (by simp) _).setCell (by simp) _).setCell (by simp) _
    · obtain ⟨a9,p9,e9,-,hfc⟩:=(xU HCAR wr hbw).fs.open
      simp only at e9
      cases e9
      obtain ⟨bF,oF,rfl,hpF,⟨c0',c1',c2'⟩,hfo⟩:=hfc k hlt
      simp only at c0' c1' c2'
      have hPb:bF < wr.heap.size:=by have:=xU HP bF hpF;omega
      have C0:∀ o',(wr.alloc o').cell? ⟨bF,oF+k * 3,none⟩=some (.string d.files[k].name):=fun o'=>by rw [World.cell?_of_block (w:=wr) (Below.heap_alloc _ _ _ hPb)];exact c0'
      have hfile:=(xU HOK).file k hlt (by rw [(xU HOK).len];exact hlt)
      have hdat:=hfile.data
      have hkep:=hfile.kept
      obtain ⟨g,cap,ht,-,-⟩:=HS.out.o0.form (by rw [mixL_len];omega)
      simp only [Value.slice.injEq] at ht
      obtain ⟨rfl,-,rfl⟩:=ht
      have hl:=HS.out.row
      have hLlt:=hl.lt
      have l0:=hl.cell (i:=0) (by omega)
      simp only [row3] at l0
      have L0:∀ o',(wr.alloc o').cell? ⟨w3.heap.size,0,none⟩=some (.slice (some ⟨g,0,none⟩) d.files.length s0):=fun o'=>by rw [World.cell?_of_block (w:=wr) (Below.heap_alloc _ _ _ hLlt)];exact l0
      have hown:=HS.out.o0
      rw [mixL_len] at hown
      have hgl:=(hown.lt g rfl).2
      have hfl:((mixL d.files zs k).map Df.cs).flatten.length=d.files.length * 3:=hown.1
      have hj1:k * 3+1 < ((mixL d.files zs k).map Df.cs).flatten.length:=by omega
      have hj2:k * 3+2 < ((mixL d.files zs k).map Df.cs).flatten.length:=by omega
      have G1:∀ o',(wr.alloc o').cell? ⟨g,k * 3+1,none⟩=some (((mixL d.files zs k).map Df.cs).flatten[k * 3+1]):=fun o'=>by rw [World.cell?_of_block (w:=wr) (Below.heap_alloc _ _ _ hgl),hown.cellAt _ (by omega)];exact List.getElem?_eq_getElem hj1
      have G2:∀ o',(wr.alloc o').cell? ⟨g,k * 3+2,none⟩=some (((mixL d.files zs k).map Df.cs).flatten[k * 3+2]):=fun o'=>by rw [World.cell?_of_block (w:=wr) (Below.heap_alloc _ _ _ hgl),hown.cellAt _ (by omega)];exact List.getElem?_eq_getElem hj2
      have F1:∀ o' j,(wr.alloc o').frozen? ⟨g,j,none⟩=false:=fun o' j=>ownsRow_free (hown.alloc o') j
      have hraw:MxR w1.heap.size w3.heap.size wr (.slice (some ⟨g,0,none⟩) d.files.length s0) (.slice t1 d.names.length s1) (.slice t2 d.moves.length s2) d.files.length ((mixL d.files zs k).map Df.cs).flatten d.names d.moves:=⟨hl,hown,HS.out.o1,HS.out.o2⟩
      have HPUT:=xH (fun X (u:ByteArray) (v:Int) (hu:u=d.files[k].data.extract 0 (d.files[k].kept.toNat+moreN d.files[k] (zs.getD k 0))) (hv:v=d.files[k].kept+moreN d.files[k] (zs.getD k 0)) (hX:MxR w1.heap.size w3.heap.size X (.slice (some ⟨g,0,none⟩) d.files.length s0) (.slice t1 d.names.length s1) (.slice t2 d.moves.length s2) d.files.length (((mixL d.files zs k).map Df.cs).flatten.set (k * 3+1) (.string u)) d.names d.moves)=>by
       have hp:=hX.put (k * 3+2) (.int .i64 v)
       have e:=flat_set3 (mixL d.files zs k) k (cutF d.files[k] (zs.getD k 0)) (by rw [mixL_len];exact hlt) (by rw [mixL_get _ _ _ _ hlt];simp [cutF])
       rw [← mixL_succ d.files zs k hlt] at e
       unfold cutF at e
       simp only at e
       rw [cutB_sz _ _ hkep,cutB_eq _ _ hkep,← hu,← hv] at e
       rw [e] at hp
       exact (⟨hp.row,by rw [mixL_len];exact hp.o0,hp.o1,hp.o2⟩:MxSt w1.heap.size w3.heap.size (X.setCell ⟨g,k * 3+2,none⟩ (.int .i64 v)) (.slice (some ⟨g,0,none⟩) d.files.length s0) (.slice t1 d.names.length s1) (.slice t2 d.moves.length s2) (mixL d.files zs (k+1)) d.names d.moves))
      have HX:=xH (fun (u:ByteArray) (o':Obj)=>(hraw.put (k * 3+1) (.string u)).keep ((Below.refl _ _).alloc (Nat.le_refl _) o').drew)
      have hgb:=(hown.lt g rfl).1
      have HXB:=xH (fun (u:ByteArray) (o':Obj)=>(((HB.out.setCell (show w1.heap.size≤(⟨g,k * 3+1,none⟩:Addr).block from hgb) (.string u)).alloc (by simp;omega) o').drew))
      have HXR:=xH (fun (u:ByteArray) (x y z:Value)=>by
       have h:=row3_alloc (wr.setCell ⟨g,k * 3+1,none⟩ (.string u)) x y z 44
       rw [World.size_setCell] at h
       exact (h.of_block rfl:(((wr.setCell ⟨g,k * 3+1,none⟩ (.string u)).alloc (.cells #[x,y,z] 44)).drew).rowIs wr.heap.size 44 3 (row3 x y z)))
      generalize (((mixL d.files zs k).map Df.cs).flatten[k * 3+1])=old1 at *
      generalize (((mixL d.files zs k).map Df.cs).flatten[k * 3+2])=old2 at *
      clear hfile hfc hrA hbw hl l0 hown hfl hj1 hj2 hpF q1 q2 hraw
      generalize d.files[k]=f at *
      obtain ⟨fn,fd,fk⟩:=f
      simp only at *
      obtain ⟨hk0,hk1⟩:=hkep
      obtain ⟨kk,rfl⟩:∃ kk:Nat,fk=kk:=⟨fk.toNat,by omega⟩
      have hkq:(kk:Int)≤fd.size:=hk1
      have hkq':kk≤fd.size:=by omega
      by_cases hkz:k < zs.length
      · obtain ⟨az',cz',ez,-,hzc⟩:=xU HZ
        simp only [Value.slice.injEq] at ez
        obtain ⟨rfl,-,rfl⟩:=ez
        obtain ⟨bz,oz,rfl,hpz,hcz,hiz⟩:=hzc k hkz
        have hPz:bz < w.heap.size:=xU HP bz hpz
        have Z0:∀ o',(wr.alloc o').cell? ⟨bz,oz+k,none⟩=some (.int .i64 zs[k]):=fun o'=>by rw [World.cell?_of_block (w:=wr) (Below.heap_alloc _ _ _ (show bz < wr.heap.size by omega)),World.cell?_of_block (w:=w) ((HB.out.block bz (show bz < w1.heap.size by omega)).trans ((xU HBW1).block bz hPz))];exact hcz
        have HGD:=xH (show zs.getD k 0=zs[k] by rw [List.getD_eq_getElem?_getD,List.getElem?_eq_getElem hkz];rfl)
        clear hzc hcz hpz
        generalize zs[k]=z at *
        have hz1:=hiz.1;have hz2:=hiz.2
        clear hiz
        by_cases hzp:0 < z
        · obtain ⟨zz,rfl⟩:∃ zz:Nat,z=zz:=⟨z.toNat,by omega⟩
          obtain ⟨df,hdf⟩:∃ df:Nat,(fd.size:Int) - kk=df:=⟨fd.size - kk,by omega⟩
          have hwr:IntKind.i64.wrap ((fd.size:Int) - kk)=df:=by rw [hdf];exact IntWalk.i64_in _ (by omega)
          by_cases hzl2:(zz:Int) < df
          · have hsum:IntKind.i64.wrap ((kk:Int)+zz)=((kk+zz:Nat):Int):=by rw [IntWalk.i64_in _ (by omega)];omega
            have hle:kk+zz≤fd.size:=by omega
            have HMO:=xH (show moreN ⟨fn,fd,kk⟩ (zs.getD k 0)=zz by rw [xU HGD];unfold moreN;simp only;omega)
            go_upto_region 17 with fail
            go_region
            have hx:=xU HX (fd.extract 0 (kk+zz)) (.cells #[.string fn,.string fd,.int .i64 (kk:Int)] 44)
            have hxb:=xU HXB (fd.extract 0 (kk+zz)) (.cells #[.string fn,.string fd,.int .i64 (kk:Int)] 44)
            have hxr:=xU HXR (fd.extract 0 (kk+zz)) (.string fn) (.string fd) (.int .i64 (kk:Int))
            generalize ((wr.setCell ⟨g,k * 3+1,none⟩ (.string (fd.extract 0 (kk+zz)))).alloc (.cells #[.string fn,.string fd,.int .i64 (kk:Int)] 44)).drew=X at *
            have x0:=hx.row.cell (i:=0) (by omega)
            have x2:=hxr.cell (i:=2) (by omega)
            simp only [row3] at x0 x2
            obtain ⟨y2,hy2⟩:∃ y2,X.cell? ⟨g,k * 3+2,none⟩=some y2:=by
             rw [hx.o0.cellAt _ (by omega)]
             exact ⟨_,List.getElem?_eq_getElem (by rw [hx.o0.1];omega)⟩
            have z2:=ownsRow_free hx.o0 (k * 3+2)
            have HX9:=xH hx;have HXB9:=xH hxb
            clear hx hxb hxr
            go_wp2_with fail
            go_roundw
            case rel=>exact ⟨k+1,by omega,by go_num,xH (xU HPUT X _ _ (by rw [xU HMO];try first | rfl | simp) (by rw [xU HMO];try omega) (xU HX9)),xH ((xU HXB9).setCell hgb _)⟩
            case measure=>simp [intOf];omega
          · have hsum:IntKind.i64.wrap ((kk:Int)+df)=(fd.size:Int):=by rw [IntWalk.i64_in _ (by omega)];omega
            have HMO:=xH (show moreN ⟨fn,fd,kk⟩ (zs.getD k 0)=df by rw [xU HGD];unfold moreN;simp only;omega)
            go_upto_region 17 with fail
            go_region
            have hx:=xU HX (fd) (.cells #[.string fn,.string fd,.int .i64 (kk:Int)] 44)
            have hxb:=xU HXB (fd) (.cells #[.string fn,.string fd,.int .i64 (kk:Int)] 44)
            have hxr:=xU HXR (fd) (.string fn) (.string fd) (.int .i64 (kk:Int))
            generalize ((wr.setCell ⟨g,k * 3+1,none⟩ (.string (fd))).alloc (.cells #[.string fn,.string fd,.int .i64 (kk:Int)] 44)).drew=X at *
            have x0:=hx.row.cell (i:=0) (by omega)
            have x2:=hxr.cell (i:=2) (by omega)
            simp only [row3] at x0 x2
            obtain ⟨y2,hy2⟩:∃ y2,X.cell? ⟨g,k * 3+2,none⟩=some y2:=by
             rw [hx.o0.cellAt _ (by omega)]
             exact ⟨_,List.getElem?_eq_getElem (by rw [hx.o0.1];omega)⟩
            have z2:=ownsRow_free hx.o0 (k * 3+2)
            have HX9:=xH hx;have HXB9:=xH hxb
            clear hx hxb hxr
            go_wp2_with fail
            go_roundw
            case rel=>exact ⟨k+1,by omega,by go_num,xH (xU HPUT X _ _ (by rw [xU HMO,show ((kk:Nat):Int).toNat+df=fd.size by omega];simp) (by rw [xU HMO];try omega) (xU HX9)),xH ((xU HXB9).setCell hgb _)⟩
            case measure=>simp [intOf];omega
        · have HMO:=xH (show moreN ⟨fn,fd,kk⟩ (zs.getD k 0)=0 by rw [xU HGD];unfold moreN;simp only;omega)
          go_upto_region 17 with fail
          go_region
          have hx:=xU HX (fd.extract 0 kk) (.cells #[.string fn,.string fd,.int .i64 (kk:Int)] 44)
          have hxb:=xU HXB (fd.extract 0 kk) (.cells #[.string fn,.string fd,.int .i64 (kk:Int)] 44)
          have hxr:=xU HXR (fd.extract 0 kk) (.string fn) (.string fd) (.int .i64 (kk:Int))
          generalize ((wr.setCell ⟨g,k * 3+1,none⟩ (.string (fd.extract 0 kk))).alloc (.cells #[.string fn,.string fd,.int .i64 (kk:Int)] 44)).drew=X at *
          have x0:=hx.row.cell (i:=0) (by omega)
          have x2:=hxr.cell (i:=2) (by omega)
          simp only [row3] at x0 x2
          obtain ⟨y2,hy2⟩:∃ y2,X.cell? ⟨g,k * 3+2,none⟩=some y2:=by
           rw [hx.o0.cellAt _ (by omega)]
           exact ⟨_,List.getElem?_eq_getElem (by rw [hx.o0.1];omega)⟩
          have z2:=ownsRow_free hx.o0 (k * 3+2)
          have HX9:=xH hx;have HXB9:=xH hxb
          clear hx hxb hxr
          go_wp2_with fail
          go_roundw
          case rel=>exact ⟨k+1,by omega,by go_num,xH (xU HPUT X _ _ (by rw [xU HMO];try first | rfl | simp) (by rw [xU HMO];try omega) (xU HX9)),xH ((xU HXB9).setCell hgb _)⟩
          case measure=>simp [intOf];omega
      · have HMO:=xH (show moreN ⟨fn,fd,kk⟩ (zs.getD k 0)=0 by rw [List.getD_eq_getElem?_getD,List.getElem?_eq_none (by omega)];unfold moreN;simp only [Option.getD_none];omega)
        go_upto_region 17 with fail
        go_region
        have hx:=xU HX (fd.extract 0 kk) (.cells #[.string fn,.string fd,.int .i64 (kk:Int)] 44)
        have hxb:=xU HXB (fd.extract 0 kk) (.cells #[.string fn,.string fd,.int .i64 (kk:Int)] 44)
        have hxr:=xU HXR (fd.extract 0 kk) (.string fn) (.string fd) (.int .i64 (kk:Int))
        generalize ((wr.setCell ⟨g,k * 3+1,none⟩ (.string (fd.extract 0 kk))).alloc (.cells #[.string fn,.string fd,.int .i64 (kk:Int)] 44)).drew=X at *
        have x0:=hx.row.cell (i:=0) (by omega)
        have x2:=hxr.cell (i:=2) (by omega)
        simp only [row3] at x0 x2
        obtain ⟨y2,hy2⟩:∃ y2,X.cell? ⟨g,k * 3+2,none⟩=some y2:=by
         rw [hx.o0.cellAt _ (by omega)]
         exact ⟨_,List.getElem?_eq_getElem (by rw [hx.o0.1];omega)⟩
        have z2:=ownsRow_free hx.o0 (k * 3+2)
        have HX9:=xH hx;have HXB9:=xH hxb
        clear hx hxb hxr
        go_wp2_with fail
        go_roundw
        case rel=>exact ⟨k+1,by omega,by go_num,xH (xU HPUT X _ _ (by rw [xU HMO];try first | rfl | simp) (by rw [xU HMO];try omega) (xU HX9)),xH ((xU HXB9).setCell hgb _)⟩
        case measure=>simp [intOf];omega

theorem specDiskCut_low (d:Dk) (m:Int) (zs:List Int) (P:Nat→Prop) (c:C3) (v:Value) (w:World) (hP:∀ b,P b→b < w.heap.size) (hd:DkAt P w d c) (hz:ZsAt P w v zs) (hm0:m < 0) :
 Calls Try.prog 15 #[.agg #[c.c0,c.c1,c.c2],.int .i64 m,v] w fun e w'=>DkEnd w w' e (cutD d m zs):=by
 obtain ⟨c0,c1,c2⟩:=c
 have HD:=xH hd;have HP:=xH hP;have HZ:=xH hz
 obtain ⟨q,hq0⟩:∃ q:Nat,q=0:=⟨0,rfl⟩
 have hq:q≤d.moves.length:=by omega
 have HCN:=xH (show afterD d.names (d.moves.take q)=cutN d m by unfold cutN;rw [show clampQ m d.moves.length=q by unfold clampQ;omega])
 subst hq0
 obtain ⟨a0,p0,g0,hl0,-⟩:=hd.fs.open
 obtain ⟨a1,p1,g1,hl1,-⟩:=hd.ns
 obtain ⟨a2,p2,g2,hl2,-⟩:=hd.ms.open
 simp only at g0 g1 g2
 subst g0 g1 g2
 obtain ⟨W0,hW0⟩:∃ W0,W0=(w.alloc (.cells #[.slice a0 d.files.length p0,.slice a1 d.names.length p1,.slice a2 d.moves.length p2] 27)).alloc (.cells #[.slice none 0 0,.slice none 0 0,.slice none 0 0] 27):=⟨_,rfl⟩
 have hs0:W0.heap.size=w.heap.size+2:=by rw [hW0];simp
 have hb0:Below w.heap.size w W0:=by rw [hW0];exact ((Below.refl _ _).alloc (Nat.le_refl _) _).alloc (by simp) _
 have hrA:W0.rowIs w.heap.size 27 3 (row3 (.slice a0 d.files.length p0) (.slice a1 d.names.length p1) (.slice a2 d.moves.length p2)):=by rw [hW0];exact (row3_alloc w _ _ _ _).alloc _
 have hrR:W0.rowIs (w.heap.size+1) 27 3 (row3 (.slice none 0 0) (.slice none 0 0) (.slice none 0 0)):=by
  rw [hW0]
  have:=row3_alloc (w.alloc (.cells #[.slice a0 d.files.length p0,.slice a1 d.names.length p1,.slice a2 d.moves.length p2] 27)) (.slice none 0 0) (.slice none 0 0) (.slice none 0 0) 27
  rw [World.size_alloc] at this
  exact this
 have hcar:∀ W,Below w.heap.size w W→DkAt P W d ⟨.slice a0 d.files.length p0,.slice a1 d.names.length p1,.slice a2 d.moves.length p2⟩:=fun W hW=>(xU HD).carry (fun b hb=>hW.block b (hP b hb)) (fun _ h=>h)
 have hPW:∀ W,Below w.heap.size w W→∀ b,P b→b < W.heap.size:=fun W hW b hb=>Nat.lt_of_lt_of_le (hP b hb) hW.size
 have hok0:=specDiskOk_any d P ⟨.slice a0 d.files.length p0,.slice a1 d.names.length p1,.slice a2 d.moves.length p2⟩ W0 (hPW W0 hb0) (hcar W0 hb0)
 rw [hW0] at hok0
 have HOK0:=xH hok0
 have HCAR:=xH hcar;have HPW:=xH hPW;have HRA:=xH hrA;have HRR:=xH hrR;have HB0:=xH hb0;have HWW:=xH hW0
 clear hd hP hcar hPW hrA hrR hb0 hok0 hW0
 obtain ⟨az,cz,rfl,hzl,-⟩:=hz
 go_enter Try.func15,Try.ntmps15
 go_wp2_with fail
 refine (xU HOK0).mono ?_
 rintro e w1 ⟨⟨r,rfl,hr⟩,hb1⟩
 rw [← xU HWW] at hb1
 have hbw1:Below w.heap.size w w1:=(xU HB0).trans (hb1.mono (by omega))
 have hs1:w.heap.size+2≤w1.heap.size:=by have:=hb1.size;omega
 have hq2:=(xU HRR).of_block (hb1.block (w.heap.size+1) (by omega))
 have hqA:=(xU HRA).of_block (hb1.block w.heap.size (by omega))
 have HBW1:=xH hbw1
 clear HOK0 HWW
 cases r with
 | false =>
   have HNO:=xH (show cutD d m zs=⟨[],[],[]⟩ from cutD_no (fun h=>by have:=hr.2 h;cases this))
   obtain ⟨y0,y1,y2⟩:=cs3 hq2 (by omega)
   have z:=hq2.frozen
   simp only [row3] at y0 y1 y2
   clear hr hq2 hqA hb1 hbw1
   go_wp2_with fail
   try simp only [Exit.inBlock,Exit.then]
   refine bodyPost_ret (v:=.agg #[.slice none 0 0,.slice none 0 0,.slice none 0 0]) (by simp [results,Try.results15,go_sem,y0,y1,y2]) rfl ?_
   rw [xU HNO]
   exact ⟨⟨_,_,_⟩,rfl,(DkOwn.none _).at.carry (fun _ _=>rfl) (fun b hb=>(by cases hb)),(((xU HBW1).setCell (by simp) _).setCell (by simp) _).setCell (by simp) _⟩
 | true =>
   have hok:=hr.1 rfl
   have HCP:=xH (l41Copy_any d P ⟨.slice a0 d.files.length p0,.slice a1 d.names.length p1,.slice a2 d.moves.length p2⟩ w1 (xU HPW w1 hbw1) (xU HCAR w1 hbw1) (by have:=hok.l1;omega) (by have:=hok.l2;omega) (by have:=hok.l3;omega))
   obtain ⟨k0,k1,k2⟩:=cs3 hqA (by omega)
   simp only [row3] at k0 k1 k2
   have HOK:=xH hok;have HQ2:=xH hq2;have HQA:=xH hqA
   clear hr hok hq2 hqA hb1 hbw1
   go_wp2_with fail
   refine (xU HCP).mono ?_
   rintro e w3 ⟨⟨x0,x1,x2⟩,rfl,o0,o1,o2,hb3⟩
   simp only at o0 o1 o2
   obtain ⟨t0,s0,rfl⟩:=own_slice o0
   obtain ⟨t1,s1,rfl⟩:=own_slice o1
   obtain ⟨t2,s2,rfl⟩:=own_slice o2
   have hst:MxSt w1.heap.size w3.heap.size (w3.alloc (.cells #[.slice t0 d.files.length s0,.slice t1 d.names.length s1,.slice t2 d.moves.length s2] 27)) (.slice t0 d.files.length s0) (.slice t1 d.names.length s1) (.slice t2 d.moves.length s2) (mixL d.files zs 0) d.names d.moves:=by
    rw [mixL_zero]
    exact ⟨row3_alloc w3 _ _ _ _,o0.alloc _,o1.alloc _,o2.alloc _⟩
   have hb4:Below w1.heap.size w1 (w3.alloc (.cells #[.slice t0 d.files.length s0,.slice t1 d.names.length s1,.slice t2 d.moves.length s2] 27)):=hb3.alloc hb3.size _
   have hs3:=hb3.size
   have HST:=xH hst;have HB4:=xH hb4
   clear hst hb4 o0 o1 o2 hb3 HCP k0 k1 k2
   go_wp2_with fail
   go_loopw [8] (fun i wr=>∃ (k:Nat),k≤d.files.length∧i=.int .i64 k∧Hid (MxSt w1.heap.size w3.heap.size wr (.slice t0 d.files.length s0) (.slice t1 d.names.length s1) (.slice t2 d.moves.length s2) (mixL d.files zs k) d.names d.moves)∧Hid (Below w1.heap.size w1 wr)) (fun i _=>d.files.length - (intOf i).toNat)
   case atStart=>exact ⟨0,Nat.zero_le _,rfl,xU HST,xU HB4⟩
   case round =>
    clear HST HB4
    obtain ⟨k,hk,rfl,HS,HB⟩:=hrel
    have hbs:=HB.out.size
    have hbw:Below w.heap.size w wr:=(xU HBW1).trans (HB.out.mono (by omega))
    have hrA:=(xU HQA).of_block (HB.out.block w.heap.size (by omega))
    obtain ⟨q0,q1,q2⟩:=cs3 hrA (by omega)
    simp only [row3] at q0 q1 q2
    by_cases hlt:k < d.files.length
    rotate_left
    · obtain rfl:k=d.files.length:=by omega
      have hnsz:∀ x,x∈d.names→x.size≤9223372036854775807:=fun x hx=>by
       obtain ⟨a9,c9,-,-,h9⟩:=(xU HD).ns
       obtain ⟨i,hi,rfl⟩:=List.getElem_of_mem hx
       obtain ⟨_,_,_,_,_,h⟩:=h9 i hi
       exact h
      have hfok:∀ f,f∈mixL d.files zs d.files.length→f.okM:=fun f hf=>by
       obtain ⟨i,hi,rfl⟩:=List.getElem_of_mem hf
       rw [mixL_len] at hi
       rw [mixL_all _ _ _ hi]
       have h1:=(xU HD).fs.2 d.files[i] (List.getElem_mem hi)
       have h2:=((xU HOK).file i hi (by rw [(xU HOK).len];exact hi)).data
       have h3:=cutB_size d.files[i] (zs.getD i 0) h2
       unfold cutF
       exact ⟨h1.1,by simp only;omega,⟨by simp only;omega,by simp only;omega⟩⟩
      obtain ⟨hmf,hcl,hcf⟩:=cutN_facts (xU HOK) m
      have HAF:=xH (fun W (hW:Below wr.heap.size wr W)=>l41After_any d P ⟨.slice a0 d.files.length p0,.slice a1 d.names.length p1,.slice a2 d.moves.length p2⟩ W (xU HPW W (hbw.trans (hW.mono (by omega)))) (xU HCAR W (hbw.trans (hW.mono (by omega)))) (by have:=(xU HOK).l2;omega) (by have:=(xU HOK).l3;omega) 0 hq)
      have HKP:=xH (fun W (hW:Below wr.heap.size wr W) (v5:Value) (h5:StrsAt (fun b=>b < W.heap.size) W v5 (cutN d m))=>l41Keep_any ⟨mixL d.files zs d.files.length,d.names,d.moves⟩ (cutN d m) (fun b=>b < W.heap.size) ⟨.slice t0 d.files.length s0,.slice t1 d.names.length s1,.slice t2 d.moves.length s2⟩ v5 W (fun _ h=>h) ((HS.out.keep hW).at hfok hnsz (xU HD).ms.2) h5 hcl (fun x hx=>by
       obtain ⟨i,hi,-,hf⟩:=hcf x hx
       exact ⟨i,by simp only [mixL_len];exact hi,by rw [findF_mix];exact hf⟩))
      have HBOX:=xH (fun W (hW:Below wr.heap.size wr W)=>by
       have r:=((HS.out.keep hW).row)
       obtain ⟨l0,l1,l2⟩:=cs3 r (by omega)
       simp only [row3] at l0 l1 l2
       exact (⟨l0,l1,l2⟩:W.cell? ⟨w3.heap.size,0,none⟩=some (.slice t0 d.files.length s0)∧W.cell? ⟨w3.heap.size,1,none⟩=some (.slice t1 d.names.length s1)∧W.cell? ⟨w3.heap.size,2,none⟩=some (.slice t2 d.moves.length s2)))
      have HRW:=xH (fun W (hW:Below wr.heap.size wr W)=>(xU HQ2).of_block ((hW.block (w.heap.size+1) (by omega)).trans (HB.out.block (w.heap.size+1) (by omega))))
      have HBW:=xH hbw
      obtain ⟨l0,l1,l2⟩:=xU HBOX wr (Below.refl _ _)
      have HKM:=xH (keepD_mix (xU HOK) m zs)
      clear hrA hnsz hfok hmf hcl hcf hbw
      go_upto_region 19 with fail
      go_region_with (first
       | (go_at_call 33
          refine (xU HAF _ (by first | exact Below.refl _ _ | exact (Below.refl _ _).drew)).mono ?_
          rintro e wA ⟨av,nv,cv,rfl,hA⟩
          rw [xU HCN] at hA
          have hbA:Below wr.heap.size wr wA:=by first | exact hA.out.below | exact (Below.refl _ wr).drew.trans hA.out.below
          have HBA:=xH hbA
          have HSA:=xH (show StrsAt (fun b=>b < wA.heap.size) wA (.slice av nv cv) (cutN d m) from hA.out.strs.carry (fun _ _=>rfl) (fun b hb=>hb.2))
          obtain ⟨L0,L1,L2⟩:=xU HBOX wA hbA
          clear hA hbA)
       | (go_at_call 28
          refine (xU HKP wA (xU HBA) _ (xU HSA)).mono ?_
          rintro e wB ⟨⟨c0,c1,c2⟩,rfl,hdk,hbB⟩
          rw [xU HKM] at hdk
          obtain ⟨f0,f1,f2,-,-⟩:=hdk.fs.open
          obtain ⟨f3,f4,f5,-,-⟩:=hdk.ns
          obtain ⟨f6,f7,f8,-,-⟩:=hdk.ms.open
          simp only at f2 f5 f8
          subst f2 f5 f8
          have hbB':Below wr.heap.size wr wB:=(xU HBA).trans (hbB.mono (xU HBA).size)
          have hrB:=xU HRW wB hbB'
          obtain ⟨B0,B1,B2⟩:=cs3 hrB (by omega)
          have zB:=hrB.frozen
          simp only [row3] at B0 B1 B2
          have HDK:=xH hdk;have HBB:=xH hbB'
          clear hdk hbB hbB' hrB))
      all_goals
       go_wp2_with fail
       try simp only [Exit.inBlock,Exit.then]
       refine bodyPost_ret (v:=.agg #[.slice f0 (cutD d m zs).files.length f1,.slice f3 (cutD d m zs).names.length f4,.slice f6 (cutD d m zs).moves.length f7]) (by simp [results,Try.results15,go_sem,B0,B1,B2]) rfl ?_
       have hset:But (w.heap.size+1) wB (((wB.setCell ⟨w.heap.size+1,0,none⟩ (.slice f0 (cutD d m zs).files.length f1)).setCell ⟨w.heap.size+1,1,none⟩ (.slice f3 (cutD d m zs).names.length f4)).setCell ⟨w.heap.size+1,2,none⟩ (.slice f6 (cutD d m zs).moves.length f7)):=((But.set wB 0 _).trans (But.set _ 1 _)).trans (But.set _ 2 _)
       have hbA:=(xU HBA).size
       refine ⟨⟨_,_,_⟩,rfl,(xU HDK).carry (fun b hb=>hset.at hb.2 (by have:=hb.1;omega)) (fun b hb=>⟨by have:=hb.1;omega,Nat.lt_of_lt_of_le hb.2 hset.size⟩),?_⟩
       exact ((((xU HBW).trans ((xU HBB).mono (by omega))).setCell (by simp) _).setCell (by simp) _).setCell (by simp) _
    · obtain ⟨a9,p9,e9,-,hfc⟩:=(xU HCAR wr hbw).fs.open
      simp only at e9
      cases e9
      obtain ⟨bF,oF,rfl,hpF,⟨c0',c1',c2'⟩,hfo⟩:=hfc k hlt
      simp only at c0' c1' c2'
      have hPb:bF < wr.heap.size:=by have:=xU HP bF hpF;omega
      have C0:∀ o',(wr.alloc o').cell? ⟨bF,oF+k * 3,none⟩=some (.string d.files[k].name):=fun o'=>by rw [World.cell?_of_block (w:=wr) (Below.heap_alloc _ _ _ hPb)];exact c0'
      have hfile:=(xU HOK).file k hlt (by rw [(xU HOK).len];exact hlt)
      have hdat:=hfile.data
      have hkep:=hfile.kept
      obtain ⟨g,cap,ht,-,-⟩:=HS.out.o0.form (by rw [mixL_len];omega)
      simp only [Value.slice.injEq] at ht
      obtain ⟨rfl,-,rfl⟩:=ht
      have hl:=HS.out.row
      have hLlt:=hl.lt
      have l0:=hl.cell (i:=0) (by omega)
      simp only [row3] at l0
      have L0:∀ o',(wr.alloc o').cell? ⟨w3.heap.size,0,none⟩=some (.slice (some ⟨g,0,none⟩) d.files.length s0):=fun o'=>by rw [World.cell?_of_block (w:=wr) (Below.heap_alloc _ _ _ hLlt)];exact l0
      have hown:=HS.out.o0
      rw [mixL_len] at hown
      have hgl:=(hown.lt g rfl).2
      have hfl:((mixL d.files zs k).map Df.cs).flatten.length=d.files.length * 3:=hown.1
      have hj1:k * 3+1 < ((mixL d.files zs k).map Df.cs).flatten.length:=by omega
      have hj2:k * 3+2 < ((mixL d.files zs k).map Df.cs).flatten.length:=by omega
      have G1:∀ o',(wr.alloc o').cell? ⟨g,k * 3+1,none⟩=some (((mixL d.files zs k).map Df.cs).flatten[k * 3+1]):=fun o'=>by rw [World.cell?_of_block (w:=wr) (Below.heap_alloc _ _ _ hgl),hown.cellAt _ (by omega)];exact List.getElem?_eq_getElem hj1
      have G2:∀ o',(wr.alloc o').cell? ⟨g,k * 3+2,none⟩=some (((mixL d.files zs k).map Df.cs).flatten[k * 3+2]):=fun o'=>by rw [World.cell?_of_block (w:=wr) (Below.heap_alloc _ _ _ hgl),hown.cellAt _ (by omega)];exact List.getElem?_eq_getElem hj2
      have F1:∀ o' j,(wr.alloc o').frozen? ⟨g,j,none⟩=false:=fun o' j=>ownsRow_free (hown.alloc o') j
      have hraw:MxR w1.heap.size w3.heap.size wr (.slice (some ⟨g,0,none⟩) d.files.length s0) (.slice t1 d.names.length s1) (.slice t2 d.moves.length s2) d.files.length ((mixL d.files zs k).map Df.cs).flatten d.names d.moves:=⟨hl,hown,HS.out.o1,HS.out.o2⟩
      have HPUT:=xH (fun X (u:ByteArray) (v:Int) (hu:u=d.files[k].data.extract 0 (d.files[k].kept.toNat+moreN d.files[k] (zs.getD k 0))) (hv:v=d.files[k].kept+moreN d.files[k] (zs.getD k 0)) (hX:MxR w1.heap.size w3.heap.size X (.slice (some ⟨g,0,none⟩) d.files.length s0) (.slice t1 d.names.length s1) (.slice t2 d.moves.length s2) d.files.length (((mixL d.files zs k).map Df.cs).flatten.set (k * 3+1) (.string u)) d.names d.moves)=>by
       have hp:=hX.put (k * 3+2) (.int .i64 v)
       have e:=flat_set3 (mixL d.files zs k) k (cutF d.files[k] (zs.getD k 0)) (by rw [mixL_len];exact hlt) (by rw [mixL_get _ _ _ _ hlt];simp [cutF])
       rw [← mixL_succ d.files zs k hlt] at e
       unfold cutF at e
       simp only at e
       rw [cutB_sz _ _ hkep,cutB_eq _ _ hkep,← hu,← hv] at e
       rw [e] at hp
       exact (⟨hp.row,by rw [mixL_len];exact hp.o0,hp.o1,hp.o2⟩:MxSt w1.heap.size w3.heap.size (X.setCell ⟨g,k * 3+2,none⟩ (.int .i64 v)) (.slice (some ⟨g,0,none⟩) d.files.length s0) (.slice t1 d.names.length s1) (.slice t2 d.moves.length s2) (mixL d.files zs (k+1)) d.names d.moves))
      have HX:=xH (fun (u:ByteArray) (o':Obj)=>(hraw.put (k * 3+1) (.string u)).keep ((Below.refl _ _).alloc (Nat.le_refl _) o').drew)
      have hgb:=(hown.lt g rfl).1
      have HXB:=xH (fun (u:ByteArray) (o':Obj)=>(((HB.out.setCell (show w1.heap.size≤(⟨g,k * 3+1,none⟩:Addr).block from hgb) (.string u)).alloc (by simp;omega) o').drew))
      have HXR:=xH (fun (u:ByteArray) (x y z:Value)=>by
       have h:=row3_alloc (wr.setCell ⟨g,k * 3+1,none⟩ (.string u)) x y z 44
       rw [World.size_setCell] at h
       exact (h.of_block rfl:(((wr.setCell ⟨g,k * 3+1,none⟩ (.string u)).alloc (.cells #[x,y,z] 44)).drew).rowIs wr.heap.size 44 3 (row3 x y z)))
      generalize (((mixL d.files zs k).map Df.cs).flatten[k * 3+1])=old1 at *
      generalize (((mixL d.files zs k).map Df.cs).flatten[k * 3+2])=old2 at *
      clear hfile hfc hrA hbw hl l0 hown hfl hj1 hj2 hpF q1 q2 hraw
      generalize d.files[k]=f at *
      obtain ⟨fn,fd,fk⟩:=f
      simp only at *
      obtain ⟨hk0,hk1⟩:=hkep
      obtain ⟨kk,rfl⟩:∃ kk:Nat,fk=kk:=⟨fk.toNat,by omega⟩
      have hkq:(kk:Int)≤fd.size:=hk1
      have hkq':kk≤fd.size:=by omega
      by_cases hkz:k < zs.length
      · obtain ⟨az',cz',ez,-,hzc⟩:=xU HZ
        simp only [Value.slice.injEq] at ez
        obtain ⟨rfl,-,rfl⟩:=ez
        obtain ⟨bz,oz,rfl,hpz,hcz,hiz⟩:=hzc k hkz
        have hPz:bz < w.heap.size:=xU HP bz hpz
        have Z0:∀ o',(wr.alloc o').cell? ⟨bz,oz+k,none⟩=some (.int .i64 zs[k]):=fun o'=>by rw [World.cell?_of_block (w:=wr) (Below.heap_alloc _ _ _ (show bz < wr.heap.size by omega)),World.cell?_of_block (w:=w) ((HB.out.block bz (show bz < w1.heap.size by omega)).trans ((xU HBW1).block bz hPz))];exact hcz
        have HGD:=xH (show zs.getD k 0=zs[k] by rw [List.getD_eq_getElem?_getD,List.getElem?_eq_getElem hkz];rfl)
        clear hzc hcz hpz
        generalize zs[k]=z at *
        have hz1:=hiz.1;have hz2:=hiz.2
        clear hiz
        by_cases hzp:0 < z
        · obtain ⟨zz,rfl⟩:∃ zz:Nat,z=zz:=⟨z.toNat,by omega⟩
          obtain ⟨df,hdf⟩:∃ df:Nat,(fd.size:Int) - kk=df:=⟨fd.size - kk,by omega⟩
          have hwr:IntKind.i64.wrap ((fd.size:Int) - kk)=df:=by rw [hdf];exact IntWalk.i64_in _ (by omega)
          by_cases hzl2:(zz:Int) < df
          · have hsum:IntKind.i64.wrap ((kk:Int)+zz)=((kk+zz:Nat):Int):=by rw [IntWalk.i64_in _ (by omega)];omega
            have hle:kk+zz≤fd.size:=by omega
            have HMO:=xH (show moreN ⟨fn,fd,kk⟩ (zs.getD k 0)=zz by rw [xU HGD];unfold moreN;simp only;omega)
            go_upto_region 17 with fail
            go_region
            have hx:=xU HX (fd.extract 0 (kk+zz)) (.cells #[.string fn,.string fd,.int .i64 (kk:Int)] 44)
            have hxb:=xU HXB (fd.extract 0 (kk+zz)) (.cells #[.string fn,.string fd,.int .i64 (kk:Int)] 44)
            have hxr:=xU HXR (fd.extract 0 (kk+zz)) (.string fn) (.string fd) (.int .i64 (kk:Int))
            generalize ((wr.setCell ⟨g,k * 3+1,none⟩ (.string (fd.extract 0 (kk+zz)))).alloc (.cells #[.string fn,.string fd,.int .i64 (kk:Int)] 44)).drew=X at *
            have x0:=hx.row.cell (i:=0) (by omega)
            have x2:=hxr.cell (i:=2) (by omega)
            simp only [row3] at x0 x2
            obtain ⟨y2,hy2⟩:∃ y2,X.cell? ⟨g,k * 3+2,none⟩=some y2:=by
             rw [hx.o0.cellAt _ (by omega)]
             exact ⟨_,List.getElem?_eq_getElem (by rw [hx.o0.1];omega)⟩
            have z2:=ownsRow_free hx.o0 (k * 3+2)
            have HX9:=xH hx;have HXB9:=xH hxb
            clear hx hxb hxr
            go_wp2_with fail
            go_roundw
            case rel=>exact ⟨k+1,by omega,by go_num,xH (xU HPUT X _ _ (by rw [xU HMO];try first | rfl | simp) (by rw [xU HMO];try omega) (xU HX9)),xH ((xU HXB9).setCell hgb _)⟩
            case measure=>simp [intOf];omega
          · have hsum:IntKind.i64.wrap ((kk:Int)+df)=(fd.size:Int):=by rw [IntWalk.i64_in _ (by omega)];omega
            have HMO:=xH (show moreN ⟨fn,fd,kk⟩ (zs.getD k 0)=df by rw [xU HGD];unfold moreN;simp only;omega)
            go_upto_region 17 with fail
            go_region
            have hx:=xU HX (fd) (.cells #[.string fn,.string fd,.int .i64 (kk:Int)] 44)
            have hxb:=xU HXB (fd) (.cells #[.string fn,.string fd,.int .i64 (kk:Int)] 44)
            have hxr:=xU HXR (fd) (.string fn) (.string fd) (.int .i64 (kk:Int))
            generalize ((wr.setCell ⟨g,k * 3+1,none⟩ (.string (fd))).alloc (.cells #[.string fn,.string fd,.int .i64 (kk:Int)] 44)).drew=X at *
            have x0:=hx.row.cell (i:=0) (by omega)
            have x2:=hxr.cell (i:=2) (by omega)
            simp only [row3] at x0 x2
            obtain ⟨y2,hy2⟩:∃ y2,X.cell? ⟨g,k * 3+2,none⟩=some y2:=by
             rw [hx.o0.cellAt _ (by omega)]
             exact ⟨_,List.getElem?_eq_getElem (by rw [hx.o0.1];omega)⟩
            have z2:=ownsRow_free hx.o0 (k * 3+2)
            have HX9:=xH hx;have HXB9:=xH hxb
            clear hx hxb hxr
            go_wp2_with fail
            go_roundw
            case rel=>exact ⟨k+1,by omega,by go_num,xH (xU HPUT X _ _ (by rw [xU HMO,show ((kk:Nat):Int).toNat+df=fd.size by omega];simp) (by rw [xU HMO];try omega) (xU HX9)),xH ((xU HXB9).setCell hgb _)⟩
            case measure=>simp [intOf];omega
        · have HMO:=xH (show moreN ⟨fn,fd,kk⟩ (zs.getD k 0)=0 by rw [xU HGD];unfold moreN;simp only;omega)
          go_upto_region 17 with fail
          go_region
          have hx:=xU HX (fd.extract 0 kk) (.cells #[.string fn,.string fd,.int .i64 (kk:Int)] 44)
          have hxb:=xU HXB (fd.extract 0 kk) (.cells #[.string fn,.string fd,.int .i64 (kk:Int)] 44)
          have hxr:=xU HXR (fd.extract 0 kk) (.string fn) (.string fd) (.int .i64 (kk:Int))
          generalize ((wr.setCell ⟨g,k * 3+1,none⟩ (.string (fd.extract 0 kk))).alloc (.cells #[.string fn,.string fd,.int .i64 (kk:Int)] 44)).drew=X at *
          have x0:=hx.row.cell (i:=0) (by omega)
          have x2:=hxr.cell (i:=2) (by omega)
          simp only [row3] at x0 x2
          obtain ⟨y2,hy2⟩:∃ y2,X.cell? ⟨g,k * 3+2,none⟩=some y2:=by
           rw [hx.o0.cellAt _ (by omega)]
           exact ⟨_,List.getElem?_eq_getElem (by rw [hx.o0.1];omega)⟩
          have z2:=ownsRow_free hx.o0 (k * 3+2)
          have HX9:=xH hx;have HXB9:=xH hxb
          clear hx hxb hxr
          go_wp2_with fail
          go_roundw
          case rel=>exact ⟨k+1,by omega,by go_num,xH (xU HPUT X _ _ (by rw [xU HMO];try first | rfl | simp) (by rw [xU HMO];try omega) (xU HX9)),xH ((xU HXB9).setCell hgb _)⟩
          case measure=>simp [intOf];omega
      · have HMO:=xH (show moreN ⟨fn,fd,kk⟩ (zs.getD k 0)=0 by rw [List.getD_eq_getElem?_getD,List.getElem?_eq_none (by omega)];unfold moreN;simp only [Option.getD_none];omega)
        go_upto_region 17 with fail
        go_region
        have hx:=xU HX (fd.extract 0 kk) (.cells #[.string fn,.string fd,.int .i64 (kk:Int)] 44)
        have hxb:=xU HXB (fd.extract 0 kk) (.cells #[.string fn,.string fd,.int .i64 (kk:Int)] 44)
        have hxr:=xU HXR (fd.extract 0 kk) (.string fn) (.string fd) (.int .i64 (kk:Int))
        generalize ((wr.setCell ⟨g,k * 3+1,none⟩ (.string (fd.extract 0 kk))).alloc (.cells #[.string fn,.string fd,.int .i64 (kk:Int)] 44)).drew=X at *
        have x0:=hx.row.cell (i:=0) (by omega)
        have x2:=hxr.cell (i:=2) (by omega)
        simp only [row3] at x0 x2
        obtain ⟨y2,hy2⟩:∃ y2,X.cell? ⟨g,k * 3+2,none⟩=some y2:=by
         rw [hx.o0.cellAt _ (by omega)]
         exact ⟨_,List.getElem?_eq_getElem (by rw [hx.o0.1];omega)⟩
        have z2:=ownsRow_free hx.o0 (k * 3+2)
        have HX9:=xH hx;have HXB9:=xH hxb
        clear hx hxb hxr
        go_wp2_with fail
        go_roundw
        case rel=>exact ⟨k+1,by omega,by go_num,xH (xU HPUT X _ _ (by rw [xU HMO];try first | rfl | simp) (by rw [xU HMO];try omega) (xU HX9)),xH ((xU HXB9).setCell hgb _)⟩
        case measure=>simp [intOf];omega
end Go.Proofs.Yteikmbkljkkjiaa
