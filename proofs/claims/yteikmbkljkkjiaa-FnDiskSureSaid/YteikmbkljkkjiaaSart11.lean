/- A part. -/
import Derived.Test.YteikmbkljkkjiaaSart10
namespace Go.Proofs.Yteikmbkljkkjiaa
open Go Go.RowKit
set_option maxRecDepth 100000
set_option maxHeartbeats 6400000
theorem specDiskCut_high (d:Dk) (m:Int) (zs:List Int) (P:Nat→Prop) (c:C3) (v:Value) (w:World) (hP:∀ b,P b→b < w.heap.size) (hd:DkAt P w d c) (hz:ZsAt P w v zs) (hm1:d.moves.length < m) :
 Calls Try.prog 15 #[.agg #[c.c0,c.c1,c.c2],.int .i64 m,v] w fun e w'=>DkEnd w w' e (cutD d m zs):=by
 obtain ⟨c0,c1,c2⟩:=c
 have HD:=xH hd;have HP:=xH hP;have HZ:=xH hz
 obtain ⟨q,hq0⟩:∃ q:Nat,q=d.moves.length:=⟨_,rfl⟩
 have hq:q≤d.moves.length:=by omega
 have HCN:=xH (show afterD d.names (d.moves.take q)=cutN d m by unfold cutN;rw [show clampQ m d.moves.length=q by unfold clampQ;omega])
 subst hq0
 obtain ⟨a0,p0,g0,hl0,-⟩:=hd.fs.open
 obtain ⟨a1,p1,g1,hl1,-⟩:=hd.ns
 obtain ⟨a2,p2,g2,hl2,-⟩:=hd.ms.open
 simp only at g0 g1 g2
 subst g0 g1 g2
 obtain ⟨W0,hW0⟩:∃ W0,W0=(w.alloc (.cells #[.slice a0 d.files.length p0,.slice a1 d.names.length p1,.slice a2 d.moves.length p2] 27)).alloc (.cells #[.slice none 0 0,.slice none 0 0,.slice none 0 0] 27):=⟨_,rfl⟩
 have hs0:W0.heap.size=w.heap.size+2:=by rw [hW0];simp
 have hb0:Below w.heap.size w W0:=by rw [hW0];exact ((Below.refl _ _).alloc (Nat.le_refl _) _).alloc (by simp) _
 have hrA:W0.rowIs w.heap.size 27 3 (row3 (.slice a0 d.files.length p0) (.slice a1 d.names.length p1) (.slice a2 d.moves.length p2)):=by rw [hW0];exact (row3_alloc w _ _ _ _).alloc _
 have hrR:W0.rowIs (w.heap.size+1) 27 3 (row3 (.slice none 0 0) (.slice none 0 0) (.slice none 0 0)):=by
  rw [hW0]
  have:=row3_alloc (w.alloc (.cells #[.slice a0 d.files.length p0,.slice a1 d.names.length p1,.slice a2 d.moves.length p2] 27)) (.slice none 0 0) (.slice none 0 0) (.slice none 0 0) 27
  rw [World.size_alloc] at this
  exact this
 have hcar:∀ W,Below w.heap.size w W→DkAt P W d ⟨.slice a0 d.files.length p0,.slice a1 d.names.length p1,.slice a2 d.moves.length p2⟩:=fun W hW=>(xU HD).carry (fun b hb=>hW.block b (hP b hb)) (fun _ h=>h)
 have hPW:∀ W,Below w.heap.size w W→∀ b,P b→b < W.heap.size:=fun W hW b hb=>Nat.lt_of_lt_of_le (hP b hb) hW.size
 have hok0:=specDiskOk_any d P ⟨.slice a0 d.files.length p0,.slice a1 d.names.length p1,.slice a2 d.moves.length p2⟩ W0 (hPW W0 hb0) (hcar W0 hb0)
 rw [hW0] at hok0
 have HOK0:=xH hok0
 have HCAR:=xH hcar;have HPW:=xH hPW;have HRA:=xH hrA;have HRR:=xH hrR;have HB0:=xH hb0;have HWW:=xH hW0
 clear hd hP hcar hPW hrA hrR hb0 hok0 hW0
 obtain ⟨az,cz,rfl,hzl,-⟩:=hz
 go_enter Try.func15,Try.ntmps15
 go_wp2_with fail
 refine (xU HOK0).mono ?_
 rintro e w1 ⟨⟨r,rfl,hr⟩,hb1⟩
 rw [← xU HWW] at hb1
 have hbw1:Below w.heap.size w w1:=(xU HB0).trans (hb1.mono (by omega))
 have hs1:w.heap.size+2≤w1.heap.size:=by have:=hb1.size;omega
 have hq2:=(xU HRR).of_block (hb1.block (w.heap.size+1) (by omega))
 have hqA:=(xU HRA).of_block (hb1.block w.heap.size (by omega))
 have HBW1:=xH hbw1
 clear HOK0 HWW
 cases r with
 | false =>
   have HNO:=xH (show cutD d m zs=⟨[],[],[]⟩ from cutD_no (fun h=>by have:=hr.2 h;cases this))
   obtain ⟨y0,y1,y2⟩:=cs3 hq2 (by omega)
   have z:=hq2.frozen
   simp only [row3] at y0 y1 y2
   clear hr hq2 hqA hb1 hbw1
   go_wp2_with fail
   try simp only [Exit.inBlock,Exit.then]
   refine bodyPost_ret (v:=.agg #[.slice none 0 0,.slice none 0 0,.slice none 0 0]) (by simp [results,Try.results15,go_sem,y0,y1,y2]) rfl ?_
   rw [xU HNO]
   exact ⟨⟨_,_,_⟩,rfl,(DkOwn.none _).at.carry (fun _ _=>rfl) (fun b hb=>(by cases hb)),(((xU HBW1).setCell (by simp) _).setCell (by simp) _).setCell (by simp) _⟩
 | true =>
   have hok:=hr.1 rfl
   have HCP:=xH (l41Copy_any d P ⟨.slice a0 d.files.length p0,.slice a1 d.names.length p1,.slice a2 d.moves.length p2⟩ w1 (xU HPW w1 hbw1) (xU HCAR w1 hbw1) (by have:=hok.l1;omega) (by have:=hok.l2;omega) (by have:=hok.l3;omega))
   obtain ⟨k0,k1,k2⟩:=cs3 hqA (by omega)
   simp only [row3] at k0 k1 k2
   have HOK:=xH hok;have HQ2:=xH hq2;have HQA:=xH hqA
   clear hr hok hq2 hqA hb1 hbw1
   go_wp2_with fail
   refine (xU HCP).mono ?_
   rintro e w3 ⟨⟨x0,x1,x2⟩,rfl,o0,o1,o2,hb3⟩
   simp only at o0 o1 o2
   obtain ⟨t0,s0,rfl⟩:=own_slice o0
   obtain ⟨t1,s1,rfl⟩:=own_slice o1
   obtain ⟨t2,s2,rfl⟩:=own_slice o2
   have hst:MxSt w1.heap.size w3.heap.size (w3.alloc (.cells #[.slice t0 d.files.length s0,.slice t1 d.names.length s1,.slice t2 d.moves.length s2] 27)) (.slice t0 d.files.length s0) (.slice t1 d.names.length s1) (.slice t2 d.moves.length s2) (mixL d.files zs 0) d.names d.moves:=by
    rw [mixL_zero]
    exact ⟨row3_alloc w3 _ _ _ _,o0.alloc _,o1.alloc _,o2.alloc _⟩
   have hb4:Below w1.heap.size w1 (w3.alloc (.cells #[.slice t0 d.files.length s0,.slice t1 d.names.length s1,.slice t2 d.moves.length s2] 27)):=hb3.alloc hb3.size _
   have hs3:=hb3.size
   have HST:=xH hst;have HB4:=xH hb4
   clear hst hb4 o0 o1 o2 hb3 HCP k0 k1 k2
   go_wp2_with fail
   go_loopw [8] (fun i wr=>∃ (k:Nat),k≤d.files.length∧i=.int .i64 k∧Hid (MxSt w1.heap.size w3.heap.size wr (.slice t0 d.files.length s0) (.slice t1 d.names.length s1) (.slice t2 d.moves.length s2) (mixL d.files zs k) d.names d.moves)∧Hid (Below w1.heap.size w1 wr)) (fun i _=>d.files.length - (intOf i).toNat)
   case atStart=>exact ⟨0,Nat.zero_le _,rfl,xU HST,xU HB4⟩
   case round =>
    clear HST HB4
    obtain ⟨k,hk,rfl,HS,HB⟩:=hrel
    have hbs:=HB.out.size
    have hbw:Below w.heap.size w wr:=(xU HBW1).trans (HB.out.mono (by omega))
    have hrA:=(xU HQA).of_block (HB.out.block w.heap.size (by omega))
    obtain ⟨q0,q1,q2⟩:=cs3 hrA (by omega)
    simp only [row3] at q0 q1 q2
    by_cases hlt:k < d.files.length
    rotate_left
    · obtain rfl:k=d.files.length:=by omega
      have hnsz:∀ x,x∈d.names→x.size≤9223372036854775807:=fun x hx=>by
       obtain ⟨a9,c9,-,-,h9⟩:=(xU HD).ns
       obtain ⟨i,hi,rfl⟩:=List.getElem_of_mem hx
       obtain ⟨_,_,_,_,_,h⟩:=h9 i hi
       exact h
      have hfok:∀ f,f∈mixL d.files zs d.files.length→f.okM:=fun f hf=>by
       obtain ⟨i,hi,rfl⟩:=List.getElem_of_mem hf
       rw [mixL_len] at hi
       rw [mixL_all _ _ _ hi]
       have h1:=(xU HD).fs.2 d.files[i] (List.getElem_mem hi)
       have h2:=((xU HOK).file i hi (by rw [(xU HOK).len];exact hi)).data
       have h3:=cutB_size d.files[i] (zs.getD i 0) h2
       unfold cutF
       exact ⟨h1.1,by simp only;omega,⟨by simp only;omega,by simp only;omega⟩⟩
      obtain ⟨hmf,hcl,hcf⟩:=cutN_facts (xU HOK) m
      have HAF:=xH (fun W (hW:Below wr.heap.size wr W)=>l41After_any d P ⟨.slice a0 d.files.length p0,.slice a1 d.names.length p1,.slice a2 d.moves.length p2⟩ W (xU HPW W (hbw.trans (hW.mono (by omega)))) (xU HCAR W (hbw.trans (hW.mono (by omega)))) (by have:=(xU HOK).l2;omega) (by have:=(xU HOK).l3;omega) d.moves.length hq)
      have HKP:=xH (fun W (hW:Below wr.heap.size wr W) (v5:Value) (h5:StrsAt (fun b=>b < W.heap.size) W v5 (cutN d m))=>l41Keep_any ⟨mixL d.files zs d.files.length,d.names,d.moves⟩ (cutN d m) (fun b=>b < W.heap.size) ⟨.slice t0 d.files.length s0,.slice t1 d.names.length s1,.slice t2 d.moves.length s2⟩ v5 W (fun _ h=>h) ((HS.out.keep hW).at hfok hnsz (xU HD).ms.2) h5 hcl (fun x hx=>by
       obtain ⟨i,hi,-,hf⟩:=hcf x hx
       exact ⟨i,by simp only [mixL_len];exact hi,by rw [findF_mix];exact hf⟩))
      have HBOX:=xH (fun W (hW:Below wr.heap.size wr W)=>by
       have r:=((HS.out.keep hW).row)
       obtain ⟨l0,l1,l2⟩:=cs3 r (by omega)
       simp only [row3] at l0 l1 l2
       exact (⟨l0,l1,l2⟩:W.cell? ⟨w3.heap.size,0,none⟩=some (.slice t0 d.files.length s0)∧W.cell? ⟨w3.heap.size,1,none⟩=some (.slice t1 d.names.length s1)∧W.cell? ⟨w3.heap.size,2,none⟩=some (.slice t2 d.moves.length s2)))
      have HRW:=xH (fun W (hW:Below wr.heap.size wr W)=>(xU HQ2).of_block ((hW.block (w.heap.size+1) (by omega)).trans (HB.out.block (w.heap.size+1) (by omega))))
      have HBW:=xH hbw
      obtain ⟨l0,l1,l2⟩:=xU HBOX wr (Below.refl _ _)
      have HKM:=xH (keepD_mix (xU HOK) m zs)
      clear hrA hnsz hfok hmf hcl hcf hbw
      go_upto_region 19 with fail
      go_region_with (first
       | (go_at_call 33
          refine (xU HAF _ (by first | exact Below.refl _ _ | exact (Below.refl _ _).drew)).mono ?_
          rintro e wA ⟨av,nv,cv,rfl,hA⟩
          rw [xU HCN] at hA
          have hbA:Below wr.heap.size wr wA:=by first | exact hA.out.below | exact (Below.refl _ wr).drew.trans hA.out.below
          have HBA:=xH hbA
          have HSA:=xH (show StrsAt (fun b=>b < wA.heap.size) wA (.slice av nv cv) (cutN d m) from hA.out.strs.carry (fun _ _=>rfl) (fun b hb=>hb.2))
          obtain ⟨L0,L1,L2⟩:=xU HBOX wA hbA
          clear hA hbA)
       | (go_at_call 28
          refine (xU HKP wA (xU HBA) _ (xU HSA)).mono ?_
          rintro e wB ⟨⟨c0,c1,c2⟩,rfl,hdk,hbB⟩
          rw [xU HKM] at hdk
          obtain ⟨f0,f1,f2,-,-⟩:=hdk.fs.open
          obtain ⟨f3,f4,f5,-,-⟩:=hdk.ns
          obtain ⟨f6,f7,f8,-,-⟩:=hdk.ms.open
          simp only at f2 f5 f8
          subst f2 f5 f8
          have hbB':Below wr.heap.size wr wB:=(xU HBA).trans (hbB.mono (xU HBA).size)
          have hrB:=xU HRW wB hbB'
          obtain ⟨B0,B1,B2⟩:=cs3 hrB (by omega)
          have zB:=hrB.frozen
          simp only [row3] at B0 B1 B2
          have HDK:=xH hdk;have HBB:=xH hbB'
          clear hdk hbB hbB' hrB))
      all_goals
       go_wp2_with fail
       try simp only [Exit.inBlock,Exit.then]
       refine bodyPost_ret (v:=.agg #[.slice f0 (cutD d m zs).files.length f1,.slice f3 (cutD d m zs).names.length f4,.slice f6 (cutD d m zs).moves.length f7]) (by simp [results,Try.results15,go_sem,B0,B1,B2]) rfl ?_
       have hset:But (w.heap.size+1) wB (((wB.setCell ⟨w.heap.size+1,0,none⟩ (.slice f0 (cutD d m zs).files.length f1)).setCell ⟨w.heap.size+1,1,none⟩ (.slice f3 (cutD d m zs).names.length f4)).setCell ⟨w.heap.size+1,2,none⟩ (.slice f6 (cutD d m zs).moves.length f7)):=((But.set wB 0 _).trans (But.set _ 1 _)).trans (But.set _ 2 _)
       have hbA:=(xU HBA).size
       refine ⟨⟨_,_,_⟩,rfl,(xU HDK).carry (fun b hb=>hset.at hb.2 (by have:=hb.1;omega)) (fun b hb=>⟨by have:=hb.1;omega,Nat.lt_of_lt_of_le hb.2 hset.size⟩),?_⟩
       exact ((((xU HBW).trans ((xU HBB).mono (by omega))).setCell (by simp) _).setCell (by simp) _).setCell (by simp) _
    · obtain ⟨a9,p9,e9,-,hfc⟩:=(xU HCAR wr hbw).fs.open
      simp only at e9
      cases e9
      obtain ⟨bF,oF,rfl,hpF,⟨c0',c1',c2'⟩,hfo⟩:=hfc k hlt
      simp only at c0' c1' c2'
      have hPb:bF < wr.heap.size:=by have:=xU HP bF hpF;omega
      have C0:∀ o',(wr.alloc o').cell? ⟨bF,oF+k * 3,none⟩=some (.string d.files[k].name):=fun o'=>by rw [World.cell?_of_block (w:=wr) (Below.heap_alloc _ _ _ hPb)];exact c0'
      have hfile:=(xU HOK).file k hlt (by rw [(xU HOK).len];exact hlt)
      have hdat:=hfile.data
      have hkep:=hfile.kept
      obtain ⟨g,cap,ht,-,-⟩:=HS.out.o0.form (by rw [mixL_len];omega)
      simp only [Value.slice.injEq] at ht
      obtain ⟨rfl,-,rfl⟩:=ht
      have hl:=HS.out.row
      have hLlt:=hl.lt
      have l0:=hl.cell (i:=0) (by omega)
      simp only [row3] at l0
      have L0:∀ o',(wr.alloc o').cell? ⟨w3.heap.size,0,none⟩=some (.slice (some ⟨g,0,none⟩) d.files.length s0):=fun o'=>by rw [World.cell?_of_block (w:=wr) (Below.heap_alloc _ _ _ hLlt)];exact l0
      have hown:=HS.out.o0
      rw [mixL_len] at hown
      have hgl:=(hown.lt g rfl).2
      have hfl:((mixL d.files zs k).map Df.cs).flatten.length=d.files.length * 3:=hown.1
      have hj1:k * 3+1 < ((mixL d.files zs k).map Df.cs).flatten.length:=by omega
      have hj2:k * 3+2 < ((mixL d.files zs k).map Df.cs).flatten.length:=by omega
      have G1:∀ o',(wr.alloc o').cell? ⟨g,k * 3+1,none⟩=some (((mixL d.files zs k).map Df.cs).flatten[k * 3+1]):=fun o'=>by rw [World.cell?_of_block (w:=wr) (Below.heap_alloc _ _ _ hgl),hown.cellAt _ (by omega)];exact List.getElem?_eq_getElem hj1
      have G2:∀ o',(wr.alloc o').cell? ⟨g,k * 3+2,none⟩=some (((mixL d.files zs k).map Df.cs).flatten[k * 3+2]):=fun o'=>by rw [World.cell?_of_block (w:=wr) (Below.heap_alloc _ _ _ hgl),hown.cellAt _ (by omega)];exact List.getElem?_eq_getElem hj2
      have F1:∀ o' j,(wr.alloc o').frozen? ⟨g,j,none⟩=false:=fun o' j=>ownsRow_free (hown.alloc o') j
      have hraw:MxR w1.heap.size w3.heap.size wr (.slice (some ⟨g,0,none⟩) d.files.length s0) (.slice t1 d.names.length s1) (.slice t2 d.moves.length s2) d.files.length ((mixL d.files zs k).map Df.cs).flatten d.names d.moves:=⟨hl,hown,HS.out.o1,HS.out.o2⟩
      have HPUT:=xH (fun X (u:ByteArray) (v:Int) (hu:u=d.files[k].data.extract 0 (d.files[k].kept.toNat+moreN d.files[k] (zs.getD k 0))) (hv:v=d.files[k].kept+moreN d.files[k] (zs.getD k 0)) (hX:MxR w1.heap.size w3.heap.size X (.slice (some ⟨g,0,none⟩) d.files.length s0) (.slice t1 d.names.length s1) (.slice t2 d.moves.length s2) d.files.length (((mixL d.files zs k).map Df.cs).flatten.set (k * 3+1) (.string u)) d.names d.moves)=>by
       have hp:=hX.put (k * 3+2) (.int .i64 v)
       have e:=flat_set3 (mixL d.files zs k) k (cutF d.files[k] (zs.getD k 0)) (by rw [mixL_len];exact hlt) (by rw [mixL_get _ _ _ _ hlt];simp [cutF])
       rw [← mixL_succ d.files zs k hlt] at e
       unfold cutF at e
       simp only at e
       rw [cutB_sz _ _ hkep,cutB_eq _ _ hkep,← hu,← hv] at e
       rw [e] at hp
       exact (⟨hp.row,by rw [mixL_len];exact hp.o0,hp.o1,hp.o2⟩:MxSt w1.heap.size w3.heap.size (X.setCell ⟨g,k * 3+2,none⟩ (.int .i64 v)) (.slice (some ⟨g,0,none⟩) d.files.length s0) (.slice t1 d.names.length s1) (.slice t2 d.moves.length s2) (mixL d.files zs (k+1)) d.names d.moves))
      have HX:=xH (fun (u:ByteArray) (o':Obj)=>(hraw.put (k * 3+1) (.string u)).keep ((Below.refl _ _).alloc (Nat.le_refl _) o').drew)
      have hgb:=(hown.lt g rfl).1
      have HXB:=xH (fun (u:ByteArray) (o':Obj)=>(((HB.out.setCell (show w1.heap.size≤(⟨g,k * 3+1,none⟩:Addr).block from hgb) (.string u)).alloc (by simp;omega) o').drew))
      have HXR:=xH (fun (u:ByteArray) (x y z:Value)=>by
       have h:=row3_alloc (wr.setCell ⟨g,k * 3+1,none⟩ (.string u)) x y z 44
       rw [World.size_setCell] at h
       exact (h.of_block rfl:(((wr.setCell ⟨g,k * 3+1,none⟩ (.string u)).alloc (.cells #[x,y,z] 44)).drew).rowIs wr.heap.size 44 3 (row3 x y z)))
      generalize (((mixL d.files zs k).map Df.cs).flatten[k * 3+1])=old1 at *
      generalize (((mixL d.files zs k).map Df.cs).flatten[k * 3+2])=old2 at *
      clear hfile hfc hrA hbw hl l0 hown hfl hj1 hj2 hpF q1 q2 hraw
      generalize d.files[k]=f at *
      obtain ⟨fn,fd,fk⟩:=f
      simp only at *
      obtain ⟨hk0,hk1⟩:=hkep
      obtain ⟨kk,rfl⟩:∃ kk:Nat,fk=kk:=⟨fk.toNat,by omega⟩
      have hkq:(kk:Int)≤fd.size:=hk1
      have hkq':kk≤fd.size:=by omega
      by_cases hkz:k < zs.length
      · obtain ⟨az',cz',ez,-,hzc⟩:=xU HZ
        simp only [Value.slice.injEq] at ez
        obtain ⟨rfl,-,rfl⟩:=ez
        obtain ⟨bz,oz,rfl,hpz,hcz,hiz⟩:=hzc k hkz
        have hPz:bz < w.heap.size:=xU HP bz hpz
        have Z0:∀ o',(wr.alloc o').cell? ⟨bz,oz+k,none⟩=some (.int .i64 zs[k]):=fun o'=>by rw [World.cell?_of_block (w:=wr) (Below.heap_alloc _ _ _ (show bz < wr.heap.size by omega)),World.cell?_of_block (w:=w) ((HB.out.block bz (show bz < w1.heap.size by omega)).trans ((xU HBW1).block bz hPz))];exact hcz
        have HGD:=xH (show zs.getD k 0=zs[k] by rw [List.getD_eq_getElem?_getD,List.getElem?_eq_getElem hkz];rfl)
        clear hzc hcz hpz
        generalize zs[k]=z at *
        have hz1:=hiz.1;have hz2:=hiz.2
        clear hiz
        by_cases hzp:0 < z
        · obtain ⟨zz,rfl⟩:∃ zz:Nat,z=zz:=⟨z.toNat,by omega⟩
          obtain ⟨df,hdf⟩:∃ df:Nat,(fd.size:Int) - kk=df:=⟨fd.size - kk,by omega⟩
          have hwr:IntKind.i64.wrap ((fd.size:Int) - kk)=df:=by rw [hdf];exact IntWalk.i64_in _ (by omega)
          by_cases hzl2:(zz:Int) < df
          · have hsum:IntKind.i64.wrap ((kk:Int)+zz)=((kk+zz:Nat):Int):=by rw [IntWalk.i64_in _ (by omega)];omega
            have hle:kk+zz≤fd.size:=by omega
            have HMO:=xH (show moreN ⟨fn,fd,kk⟩ (zs.getD k 0)=zz by rw [xU HGD];unfold moreN;simp only;omega)
            go_upto_region 17 with fail
            go_region
            have hx:=xU HX (fd.extract 0 (kk+zz)) (.cells #[.string fn,.string fd,.int .i64 (kk:Int)] 44)
            have hxb:=xU HXB (fd.extract 0 (kk+zz)) (.cells #[.string fn,.string fd,.int .i64 (kk:Int)] 44)
            have hxr:=xU HXR (fd.extract 0 (kk+zz)) (.string fn) (.string fd) (.int .i64 (kk:Int))
            generalize ((wr.setCell ⟨g,k * 3+1,none⟩ (.string (fd.extract 0 (kk+zz)))).alloc (.cells #[.string fn,.string fd,.int .i64 (kk:Int)] 44)).drew=X at *
            have x0:=hx.row.cell (i:=0) (by omega)
            have x2:=hxr.cell (i:=2) (by omega)
            simp only [row3] at x0 x2
            obtain ⟨y2,hy2⟩:∃ y2,X.cell? ⟨g,k * 3+2,none⟩=some y2:=by
             rw [hx.o0.cellAt _ (by omega)]
             exact ⟨_,List.getElem?_eq_getElem (by rw [hx.o0.1];omega)⟩
            have z2:=ownsRow_free hx.o0 (k * 3+2)
            have HX9:=xH hx;have HXB9:=xH hxb
            clear hx hxb hxr
            go_wp2_with fail
            go_roundw
            case rel=>exact ⟨k+1,by omega,by go_num,xH (xU HPUT X _ _ (by rw [xU HMO];try first | rfl | simp) (by rw [xU HMO];try omega) (xU HX9)),xH ((xU HXB9).setCell hgb _)⟩
            case measure=>simp [intOf];omega
          · have hsum:IntKind.i64.wrap ((kk:Int)+df)=(fd.size:Int):=by rw [IntWalk.i64_in _ (by omega)];omega
            have HMO:=xH (show moreN ⟨fn,fd,kk⟩ (zs.getD k 0)=df by rw [xU HGD];unfold moreN;simp only;omega)
            go_upto_region 17 with fail
            go_region
            have hx:=xU HX (fd) (.cells #[.string fn,.string fd,.int .i64 (kk:Int)] 44)
            have hxb:=xU HXB (fd) (.cells #[.string fn,.string fd,.int .i64 (kk:Int)] 44)
            have hxr:=xU HXR (fd) (.string fn) (.string fd) (.int .i64 (kk:Int))
            generalize ((wr.setCell ⟨g,k * 3+1,none⟩ (.string (fd))).alloc (.cells #[.string fn,.string fd,.int .i64 (kk:Int)] 44)).drew=X at *
            have x0:=hx.row.cell (i:=0) (by omega)
            have x2:=hxr.cell (i:=2) (by omega)
            simp only [row3] at x0 x2
            obtain ⟨y2,hy2⟩:∃ y2,X.cell? ⟨g,k * 3+2,none⟩=some y2:=by
             rw [hx.o0.cellAt _ (by omega)]
             exact ⟨_,List.getElem?_eq_getElem (by rw [hx.o0.1];omega)⟩
            have z2:=ownsRow_free hx.o0 (k * 3+2)
            have HX9:=xH hx;have HXB9:=xH hxb
            clear hx hxb hxr
            go_wp2_with fail
            go_roundw
            case rel=>exact ⟨k+1,by omega,by go_num,xH (xU HPUT X _ _ (by rw [xU HMO,show ((kk:Nat):Int).toNat+df=fd.size by omega];simp) (by rw [xU HMO];try omega) (xU HX9)),xH ((xU HXB9).setCell hgb _)⟩
            case measure=>simp [intOf];omega
        · have HMO:=xH (show moreN ⟨fn,fd,kk⟩ (zs.getD k 0)=0 by rw [xU HGD];unfold moreN;simp only;omega)
          go_upto_region 17 with fail
          go_region
          have hx:=xU HX (fd.extract 0 kk) (.cells #[.string fn,.string fd,.int .i64 (kk:Int)] 44)
          have hxb:=xU HXB (fd.extract 0 kk) (.cells #[.string fn,.string fd,.int .i64 (kk:Int)] 44)
          have hxr:=xU HXR (fd.extract 0 kk) (.string fn) (.string fd) (.int .i64 (kk:Int))
          generalize ((wr.setCell ⟨g,k * 3+1,none⟩ (.string (fd.extract 0 kk))).alloc (.cells #[.string fn,.string fd,.int .i64 (kk:Int)] 44)).drew=X at *
          have x0:=hx.row.cell (i:=0) (by omega)
          have x2:=hxr.cell (i:=2) (by omega)
          simp only [row3] at x0 x2
          obtain ⟨y2,hy2⟩:∃ y2,X.cell? ⟨g,k * 3+2,none⟩=some y2:=by
           rw [hx.o0.cellAt _ (by omega)]
           exact ⟨_,List.getElem?_eq_getElem (by rw [hx.o0.1];omega)⟩
          have z2:=ownsRow_free hx.o0 (k * 3+2)
          have HX9:=xH hx;have HXB9:=xH hxb
          clear hx hxb hxr
          go_wp2_with fail
          go_roundw
          case rel=>exact ⟨k+1,by omega,by go_num,xH (xU HPUT X _ _ (by rw [xU HMO];try first | rfl | simp) (by rw [xU HMO];try omega) (xU HX9)),xH ((xU HXB9).setCell hgb _)⟩
          case measure=>simp [intOf];omega
      · have HMO:=xH (show moreN ⟨fn,fd,kk⟩ (zs.getD k 0)=0 by rw [List.getD_eq_getElem?_getD,List.getElem?_eq_none (by omega)];unfold moreN;simp only [Option.getD_none];omega)
        go_upto_region 17 with fail
        go_region
        have hx:=xU HX (fd.extract 0 kk) (.cells #[.string fn,.string fd,.int .i64 (kk:Int)] 44)
        have hxb:=xU HXB (fd.extract 0 kk) (.cells #[.string fn,.string fd,.int .i64 (kk:Int)] 44)
        have hxr:=xU HXR (fd.extract 0 kk) (.string fn) (.string fd) (.int .i64 (kk:Int))
        generalize ((wr.setCell ⟨g,k * 3+1,none⟩ (.string (fd.extract 0 kk))).alloc (.cells #[.string fn,.string fd,.int .i64 (kk:Int)] 44)).drew=X at *
        have x0:=hx.row.cell (i:=0) (by omega)
        have x2:=hxr.cell (i:=2) (by omega)
        simp only [row3] at x0 x2
        obtain ⟨y2,hy2⟩:∃ y2,X.cell? ⟨g,k * 3+2,none⟩=some y2:=by
         rw [hx.o0.cellAt _ (by omega)]
         exact ⟨_,List.getElem?_eq_getElem (by rw [hx.o0.1];omega)⟩
        have z2:=ownsRow_free hx.o0 (k * 3+2)
        have HX9:=xH hx;have HXB9:=xH hxb
        clear hx hxb hxr
        go_wp2_with fail
        go_roundw
        case rel=>exact ⟨k+1,by omega,by go_num,xH (xU HPUT X _ _ (by rw [xU HMO];try first | rfl | simp) (by rw [xU HMO];try omega) (xU HX9)),xH ((xU HXB9).setCell hgb _)⟩
        case measure=>simp [intOf];omega

theorem specDiskCut_any (d:Dk) (m:Int) (zs:List Int) (P:Nat→Prop) (c:C3) (v:Value) (w:World) (hP:∀ b,P b→b < w.heap.size) (hd:DkAt P w d c) (hz:ZsAt P w v zs) :
 Calls Try.prog 15 #[.agg #[c.c0,c.c1,c.c2],.int .i64 m,v] w fun e w'=>DkEnd w w' e (cutD d m zs):=by
 by_cases h0:m < 0
 · exact specDiskCut_low d m zs P c v w hP hd hz h0
 · by_cases h1:(d.moves.length:Int) < m
   · exact specDiskCut_high d m zs P c v w hP hd hz h1
   · exact specDiskCut_mid d m zs P c v w hP hd hz (by omega) (by omega)

def z3:Array Value:=#[.int .i64 0,.slice none 0 0,.slice none 0 0]


def zF:Array Value:=#[.string ByteArray.empty,.string ByteArray.empty,.int .i64 0]
def zM:Array Value:=#[.bool false,.string ByteArray.empty]
theorem infoFile:(Try.prog.info? 44).map (fun i=>(i.zero,i.size,i.bytes))=some (some (.agg zF),3,40):=by kernel_rfl
theorem infoMove:(Try.prog.info? 60).map (fun i=>(i.zero,i.size,i.bytes))=some (some (.agg zM),2,24):=by kernel_rfl
theorem run_make_file (n:Nat) (h:n≤1048576) (w:World) :
 (Instr.makeSlice 23 (.int .i64 (n:Int)) (.int .i64 (n:Int))).run Try.prog w=.ok (.slice (some ⟨w.heap.size,0,none⟩) n n) (w.alloc (.cells (madeCells zF (n * 3)) 44)):=by
 obtain ⟨i,hi,he⟩:∃ i,Try.prog.info? 44=some i∧(i.zero,i.size,i.bytes)=(some (.agg zF),3,40):=by
  have:=infoFile
  cases h:Try.prog.info? 44 with
  | none=>rw [h] at this;simp at this
  | some i=>rw [h] at this;exact ⟨i,rfl,by simpa using this⟩
 simp only [Prod.mk.injEq] at he
 obtain ⟨e1,e2,e3⟩:=he
 have:=run_make (P:=Try.prog) w 23 44 i (.agg zF) Try.underlying23 hi e1 .i64 .i64 n n (by omega) (by omega) (by rw [e3];omega) (by omega)
 rw [this,e2]
 simp [Value.cells]
theorem run_make_move (n:Nat) (h:n≤1048576) (w:World) :
 (Instr.makeSlice 25 (.int .i64 (n:Int)) (.int .i64 (n:Int))).run Try.prog w=.ok (.slice (some ⟨w.heap.size,0,none⟩) n n) (w.alloc (.cells (madeCells zM (n * 2)) 60)):=by
 obtain ⟨i,hi,he⟩:∃ i,Try.prog.info? 60=some i∧(i.zero,i.size,i.bytes)=(some (.agg zM),2,24):=by
  have:=infoMove
  cases h:Try.prog.info? 60 with
  | none=>rw [h] at this;simp at this
  | some i=>rw [h] at this;exact ⟨i,rfl,by simpa using this⟩
 simp only [Prod.mk.injEq] at he
 obtain ⟨e1,e2,e3⟩:=he
 have:=run_make (P:=Try.prog) w 25 60 i (.agg zM) Try.underlying25 hi e1 .i64 .i64 n n (by omega) (by omega) (by rw [e3];omega) (by omega)
 rw [this,e2]
 simp [Value.cells]


def DoEnd (w w':World) (e:Ending) (d:Dk) (n:Int):Prop:=∃ c':C3,e=.returned (.tuple #[.agg #[c'.c0,c'.c1,c'.c2],.int .i64 n])∧DkAt (New w w') w' d c'∧Below w.heap.size w w'
structure Dg (P:Nat→Prop) (w:World) (d:Dk) (c:C3) (k:Int) (x y:ByteArray) (W:World):Prop where
 b0:W.rowIs w.heap.size 27 3 (row3 c.c0 c.c1 c.c2)
 b1:W.rowIs (w.heap.size+1) 29 3 (row3 (.int .i64 k) (.string x) (.string y))
 b2:W.rowIs (w.heap.size+2) 27 3 (row3 (.slice none 0 0) (.slice none 0 0) (.slice none 0 0))
 dk:DkAt P W d c
 lt:∀ b,P b→b < w.heap.size
 bel:Below w.heap.size w W
 sz:w.heap.size+3≤W.heap.size
theorem Dg.on {P:Nat→Prop} {w W W':World} {d:Dk} {c:C3} {k:Int} {x y:ByteArray} (h:Dg P w d c k x y W) (hb:Below W.heap.size W W'):Dg P w d c k x y W' :=
 ⟨h.b0.of_block (hb.block _ h.b0.lt),h.b1.of_block (hb.block _ h.b1.lt),h.b2.of_block (hb.block _ h.b2.lt),h.dk.carry (fun b hp=>hb.block b (Nat.lt_of_lt_of_le (h.lt b hp) h.bel.size)) (fun _ h=>h),h.lt,h.bel.trans (hb.mono h.bel.size),Nat.le_trans h.sz hb.size⟩
theorem Dg.pl {P:Nat→Prop} {w W:World} {d:Dk} {c:C3} {k:Int} {x y:ByteArray} (h:Dg P w d c k x y W):∀ b,P b→b < W.heap.size:=fun b hb=>Nat.lt_of_lt_of_le (h.lt b hb) h.bel.size
theorem Dg.start {P:Nat→Prop} {w:World} {d:Dk} {c:C3} (h:DkAt P w d c) (hP:∀ b,P b→b < w.heap.size) (k:Int) (x y:ByteArray):Dg P w d c k x y (((w.alloc (.cells #[c.c0,c.c1,c.c2] 27)).alloc (.cells #[.int .i64 k,.string x,.string y] 29)).alloc (.cells #[.slice none 0 0,.slice none 0 0,.slice none 0 0] 27)):=by
 have hb:Below w.heap.size w (((w.alloc (.cells #[c.c0,c.c1,c.c2] 27)).alloc (.cells #[.int .i64 k,.string x,.string y] 29)).alloc (.cells #[.slice none 0 0,.slice none 0 0,.slice none 0 0] 27)):=(((Below.refl _ _).alloc (Nat.le_refl _) _).alloc (by simp) _).alloc (by simp;omega) _
 refine ⟨((row3_alloc w _ _ _ _).alloc _).alloc _,?_,?_,h.carry (fun b hp=>hb.block b (hP b hp)) (fun _ h=>h),hP,hb,by simp⟩
 · have:=(row3_alloc (w.alloc (.cells #[c.c0,c.c1,c.c2] 27)) (.int .i64 k) (.string x) (.string y) 29).alloc (.cells #[.slice none 0 0,.slice none 0 0,.slice none 0 0] 27)
   rw [World.size_alloc] at this;exact this
 · have:=row3_alloc ((w.alloc (.cells #[c.c0,c.c1,c.c2] 27)).alloc (.cells #[.int .i64 k,.string x,.string y] 29)) (.slice none 0 0) (.slice none 0 0) (.slice none 0 0) 27
   rw [World.size_alloc,World.size_alloc] at this;exact this
structure Dz (P:Nat→Prop) (w:World) (d:Dk) (c:C3) (k:Int) (x y:ByteArray) (base L:Nat) (o:C3) (d':Dk) (W:World):Prop where
 g:Dg P w d c k x y W
 mx:MxSt base L W o.c0 o.c1 o.c2 d'.files d'.names d'.moves
 hb:w.heap.size+3≤base
 hL:w.heap.size+3≤L
theorem Dz.on {P:Nat→Prop} {w W W':World} {d:Dk} {c:C3} {k:Int} {x y:ByteArray} {base L:Nat} {o:C3} {d':Dk} (h:Dz P w d c k x y base L o d' W) (hb:Below W.heap.size W W'):Dz P w d c k x y base L o d' W':=⟨h.g.on hb,h.mx.keep hb,h.hb,h.hL⟩
theorem Dz.fin {P:Nat→Prop} {w W:World} {d:Dk} {c:C3} {k:Int} {x y:ByteArray} {base L:Nat} {o:C3} {d':Dk} (h:Dz P w d c k x y base L o d' W) (hf:∀ f,f∈d'.files→f.okM) (hn:∀ z,z∈d'.names→z.size≤9223372036854775807) (hm:∀ m,m∈d'.moves→m.okM) (n:Int) :
 DoEnd w (((W.setCell ⟨w.heap.size+2,0,none⟩ o.c0).setCell ⟨w.heap.size+2,1,none⟩ o.c1).setCell ⟨w.heap.size+2,2,none⟩ o.c2) (.returned (.tuple #[.agg #[o.c0,o.c1,o.c2],.int .i64 n])) d' n:=by
 have hk:∀ b,w.heap.size+3≤b→(((W.setCell ⟨w.heap.size+2,0,none⟩ o.c0).setCell ⟨w.heap.size+2,1,none⟩ o.c1).setCell ⟨w.heap.size+2,2,none⟩ o.c2).heap[b]? = W.heap[b]? := fun b hb=>by
  rw [Below.heap_setCell _ _ _ _ (by simp;omega),Below.heap_setCell _ _ _ _ (by simp;omega),Below.heap_setCell _ _ _ _ (by simp;omega)]
 have hbl:=((h.g.bel.setCell (p:=⟨w.heap.size+2,0,none⟩) (by simp) o.c0).setCell (p:=⟨w.heap.size+2,1,none⟩) (by simp) o.c1).setCell (p:=⟨w.heap.size+2,2,none⟩) (by simp) o.c2
 obtain ⟨F0,t1,t2,t3,-⟩:=FlatOwn.of_row (rs:=d'.files.map Df.cs) (n:=3) (by rw [List.length_map];exact h.mx.o0) (fun r hr=>by obtain ⟨f,-,rfl⟩:=List.mem_map.1 hr;rfl)
 obtain ⟨F2,r1,r2,r3,-⟩:=FlatOwn.of_row (rs:=d'.moves.map Dm.cs) (n:=2) (by rw [List.length_map];exact h.mx.o2) (fun r hr=>by obtain ⟨f,-,rfl⟩:=List.mem_map.1 hr;rfl)
 have hb3:=h.hb
 have hs:∀ b,b < W.heap.size→b < (((W.setCell ⟨w.heap.size+2,0,none⟩ o.c0).setCell ⟨w.heap.size+2,1,none⟩ o.c1).setCell ⟨w.heap.size+2,2,none⟩ o.c2).heap.size:=fun b hb=>by simpa using hb
 refine ⟨o,rfl,⟨⟨t1.at.carry (fun b hb=>hk b (by have:=(t3 b hb).1;omega)) (fun b hb=>⟨by have:=(t3 b hb).1;omega,hs b (t3 b hb).2⟩),hf⟩,(strsAt_own h.mx.o1 hn).carry (fun b hb=>hk b (by have:=hb.1;omega)) (fun b hb=>⟨by have:=hb.1;omega,hs b hb.2⟩),⟨r1.at.carry (fun b hb=>hk b (by have:=(r3 b hb).1;omega)) (fun b hb=>⟨by have:=(r3 b hb).1;omega,hs b (r3 b hb).2⟩),hm⟩⟩,hbl⟩
theorem Dg.of {P:Nat→Prop} {w W W':World} {d:Dk} {c:C3} {k:Int} {x y:ByteArray} (h:Dg P w d c k x y W) (hk:∀ b,b < w.heap.size+3→W'.heap[b]? = W.heap[b]?) (hs:W.heap.size≤W'.heap.size) (h1:W'.os=W.os) (h2:W'.tape=W.tape) (h3:W'.output=W.output):Dg P w d c k x y W' :=
 ⟨h.b0.of_block (hk _ (by omega)),h.b1.of_block (hk _ (by omega)),h.b2.of_block (hk _ (by omega)),h.dk.carry (fun b hp=>hk b (by have:=h.lt b hp;omega)) (fun _ h=>h),h.lt,⟨h1.trans h.bel.os,h2.trans h.bel.tape,h3.trans h.bel.output,Nat.le_trans h.bel.size hs,fun b hb=>(hk b (by omega)).trans (h.bel.block b hb)⟩,Nat.le_trans h.sz hs⟩
theorem MxSt.addF {base L:Nat} {W W':World} {x0 x1 x2 v:Value} {fs:List Df} {ns:List ByteArray} {ms:List Dm} (h:MxSt base L W x0 x1 x2 fs ns ms) (f:Df) (ho:W'.ownsRow base 44 3 v (fs.length+1) ((fs.map Df.cs).flatten++f.cs)) (hg:W.grownBy W' x0.ownBlock):MxSt base L (W'.setCell ⟨L,0,none⟩ v) v x1 x2 (fs++[f]) ns ms:=by
 have hL:W'.rowIs L 27 3 (row3 x0 x1 x2):=h.row.of_block (hg.block L h.row.lt (fun e=>own_apart h.o0 h.row (by decide) e.symm))
 have h1:=ownsRow_keep h.o1 (fun g e=>hg.block g (h.o1.lt g e).2 (fun e2=>own_ne h.o0 h.o1 (by decide) g e2.symm e))
 have h2:=ownsRow_keep h.o2 (fun g e=>hg.block g (h.o2.lt g e).2 (fun e2=>own_ne h.o0 h.o2 (by decide) g e2.symm e))
 refine ⟨(crow_set hL v).1,?_,ownsRow_setCell_other h1 (own_apart h1 hL (by decide)) _,ownsRow_setCell_other h2 (own_apart h2 hL (by decide)) _⟩
 refine ownsRow_setCell_other ?_ (own_apart ho hL (by decide)) _
 rw [List.length_append,List.map_append,List.flatten_append]
 simpa using ho
theorem MxSt.addM {base L:Nat} {W W':World} {x0 x1 x2 v:Value} {fs:List Df} {ns:List ByteArray} {ms:List Dm} (h:MxSt base L W x0 x1 x2 fs ns ms) (f:Dm) (ho:W'.ownsRow base 60 2 v (ms.length+1) ((ms.map Dm.cs).flatten++f.cs)) (hg:W.grownBy W' x2.ownBlock):MxSt base L (W'.setCell ⟨L,2,none⟩ v) x0 x1 v fs ns (ms++[f]):=by
 have hL:W'.rowIs L 27 3 (row3 x0 x1 x2):=h.row.of_block (hg.block L h.row.lt (fun e=>own_apart h.o2 h.row (by decide) e.symm))
 have h1:=ownsRow_keep h.o1 (fun g e=>hg.block g (h.o1.lt g e).2 (fun e2=>own_ne h.o2 h.o1 (by decide) g e2.symm e))
 have h0:=ownsRow_keep h.o0 (fun g e=>hg.block g (h.o0.lt g e).2 (fun e2=>own_ne h.o2 h.o0 (by decide) g e2.symm e))
 refine ⟨crow_set2 hL v,ownsRow_setCell_other h0 (own_apart h0 hL (by decide)) _,ownsRow_setCell_other h1 (own_apart h1 hL (by decide)) _,?_⟩
 refine ownsRow_setCell_other ?_ (own_apart ho hL (by decide)) _
 rw [List.length_append,List.map_append,List.flatten_append]
 simpa using ho
theorem MxSt.setF {base L g cap:Nat} {W:World} {x1 x2:Value} {fs:List Df} {ns:List ByteArray} {ms:List Dm} (h:MxSt base L W (.slice (some ⟨g,0,none⟩) fs.length cap) x1 x2 fs ns ms) (i j:Nat) (u:Value) (f:Df) (hi:i < fs.length) (hj:j < 3) (hf:f.cs=fs[i].cs.set j u):MxSt base L (W.setCell ⟨g,i * 3+j,none⟩ u) (.slice (some ⟨g,0,none⟩) fs.length cap) x1 x2 (fs.set i f) ns ms:=by
 have hR:MxR base L W (.slice (some ⟨g,0,none⟩) fs.length cap) x1 x2 fs.length (fs.map Df.cs).flatten ns ms:=⟨h.row,h.o0,h.o1,h.o2⟩
 have h2:=hR.put (i * 3+j) u
 have e:((fs.set i f).map Df.cs).flatten=((fs.map Df.cs).flatten).set (i * 3+j) u:=by
  clear h hR h2
  induction fs generalizing i with
  | nil=>simp at hi
  | cons a fs ih =>
    cases i with
    | zero =>
      simp only [List.getElem_cons_zero] at hf
      simp only [List.set_cons_zero,List.map_cons,List.flatten_cons,hf,Nat.zero_mul,Nat.zero_add]
      rw [List.set_append_left _ _ (by simp [Df.cs];omega)]
    | succ i =>
      simp only [List.set_cons_succ,List.map_cons,List.flatten_cons]
      rw [ih i (by simpa using hi) (by simpa using hf),List.set_append_right _ _ (by simp [Df.cs];omega)]
      congr 2
      simp [Df.cs]
      omega
 exact ⟨h2.row,by rw [List.length_set,e];exact h2.o0,h2.o1,h2.o2⟩
theorem Dz.grow {P:Nat→Prop} {w W W':World} {d:Dk} {c:C3} {k:Int} {x y:ByteArray} {base L:Nat} {o o':C3} {d' d2:Dk} {row:Option Nat} (h:Dz P w d c k x y base L o d' W) (hg:W.grownBy W' row) (hr:∀ g,row=some g→base≤g) (j:Nat) (v:Value) (hm:MxSt base L (W'.setCell ⟨L,j,none⟩ v) o'.c0 o'.c1 o'.c2 d2.files d2.names d2.moves):Dz P w d c k x y base L o' d2 (W'.setCell ⟨L,j,none⟩ v):=by
 have h1:=h.hb;have h2:=h.hL;have h3:=h.g.sz
 refine ⟨h.g.of (fun b hb=>?_) (by rw [World.size_setCell];exact hg.size) hg.os hg.tape hg.output,hm,h.hb,h.hL⟩
 rw [Below.heap_setCell _ _ _ _ (by simp;omega)]
 exact hg.block b (by omega) (fun e=>by have:=hr b e.symm;omega)
theorem Dz.put {P:Nat→Prop} {w W:World} {d:Dk} {c:C3} {k:Int} {x y:ByteArray} {base L:Nat} {o:C3} {d' d2:Dk} {g j:Nat} {v:Value} (h:Dz P w d c k x y base L o d' W) (hg:base≤g) (hm:MxSt base L (W.setCell ⟨g,j,none⟩ v) o.c0 o.c1 o.c2 d2.files d2.names d2.moves):Dz P w d c k x y base L o d2 (W.setCell ⟨g,j,none⟩ v):=by
 have h1:=h.hb
 exact ⟨h.g.of (fun b hb=>Below.heap_setCell _ _ _ _ (by simp;omega)) (by rw [World.size_setCell];exact Nat.le_refl _) rfl rfl rfl,hm,h.hb,h.hL⟩
theorem grown_alloc {W W':World} {ob:Obj} {row:Option Nat} (h:(W.alloc ob).grownBy W' row):W.grownBy W' row :=
 ⟨h.os,h.tape,h.output,by have:=h.size;rw [World.size_alloc] at this;omega,fun b hb hr=>(h.block b (by rw [World.size_alloc];omega) hr).trans (heap_alloc_old W ob hb)⟩
theorem Dz.appF {P:Nat→Prop} {w W W':World} {d:Dk} {c:C3} {k:Int} {x y:ByteArray} {base L:Nat} {o:C3} {d':Dk} {v:Value} {ob:Obj} (h:Dz P w d c k x y base L o d' W) (f:Df) (ho:W'.ownsRow base 44 3 v (d'.files.length+1) ((d'.files.map Df.cs).flatten++f.cs)) (hg:(W.alloc ob).grownBy W' o.c0.ownBlock) :
 W'.rowIs L 27 3 (row3 o.c0 o.c1 o.c2)∧Dz P w d c k x y base L ⟨v,o.c1,o.c2⟩ ⟨d'.files++[f],d'.names,d'.moves⟩ (W'.setCell ⟨L,0,none⟩ v) :=
 ⟨h.mx.row.of_block ((grown_alloc hg).block L h.mx.row.lt (fun e=>own_apart h.mx.o0 h.mx.row (by decide) e.symm)),h.grow (grown_alloc hg) (fun g e=>(h.mx.o0.lt g e).1) 0 v (h.mx.addF f ho (grown_alloc hg))⟩
theorem Dz.appM {P:Nat→Prop} {w W W':World} {d:Dk} {c:C3} {k:Int} {x y:ByteArray} {base L:Nat} {o:C3} {d':Dk} {v:Value} {ob:Obj} (h:Dz P w d c k x y base L o d' W) (f:Dm) (ho:W'.ownsRow base 60 2 v (d'.moves.length+1) ((d'.moves.map Dm.cs).flatten++f.cs)) (hg:(W.alloc ob).grownBy W' o.c2.ownBlock) :
 W'.rowIs L 27 3 (row3 o.c0 o.c1 o.c2)∧Dz P w d c k x y base L ⟨o.c0,o.c1,v⟩ ⟨d'.files,d'.names,d'.moves++[f]⟩ (W'.setCell ⟨L,2,none⟩ v) :=
 ⟨h.mx.row.of_block ((grown_alloc hg).block L h.mx.row.lt (fun e=>own_apart h.mx.o2 h.mx.row (by decide) e.symm)),h.grow (grown_alloc hg) (fun g e=>(h.mx.o2.lt g e).1) 2 v (h.mx.addM f ho (grown_alloc hg))⟩
theorem okSet {fs:List Df} {f:Df} {i:Nat} (h:∀ f,f∈fs→f.okM) (hf:f.okM):∀ g,g∈fs.set i f→g.okM:=fun g hg=>(List.mem_or_eq_of_mem_set hg).elim (h g) fun e=>e ▸ hf
theorem okF {fs:List Df} {f:Df} (h:∀ f,f∈fs→f.okM) (hf:f.okM):∀ g,g∈fs++[f]→g.okM:=fun g hg=>(List.mem_append.1 hg).elim (h g) fun e=>List.mem_singleton.1 e ▸ hf
theorem okM {fs:List Dm} {f:Dm} (h:∀ f,f∈fs→f.okM) (hf:f.okM):∀ g,g∈fs++[f]→g.okM:=fun g hg=>(List.mem_append.1 hg).elim (h g) fun e=>List.mem_singleton.1 e ▸ hf
theorem cell_2 (w:World) (x y:Value) (t:TypeId):∀ j u,[x,y][j]? = some u→(w.alloc (.cells #[x,y] t)).cell? ((⟨w.heap.size,0,none⟩:Addr).add j)=some u:=by
 intro j u hj
 match j with
 | 0=>simp only [List.getElem?_cons_zero,Option.some.injEq] at hj;subst hj;rw [Addr.add_lit];simp [go_sem]
 | 1=>simp only [List.getElem?_cons_succ,List.getElem?_cons_zero,Option.some.injEq] at hj;subst hj;rw [Addr.add_lit];simp [go_sem]
 | j+2=>simp at hj
end Go.Proofs.Yteikmbkljkkjiaa
