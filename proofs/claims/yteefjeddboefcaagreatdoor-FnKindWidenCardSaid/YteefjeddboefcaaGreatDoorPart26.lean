/- A part. -/
import Derived.Test.YteefjeddboefcaaGreatDoorPart25
namespace Go.Proofs.YteefjeddboefcaaGreatDoor
open Go Go.RowKit
set_option maxRecDepth 100000
set_option maxHeartbeats 6400000
def noT:Tr:=.mk 6 0 ByteArray.empty [] []
structure KB (wr V:World) (K:Nat) (tr:Tr) (d:C5) (F:List Nat):Prop where
 row:V.rowIs K 29 5 (row5 d.c0 d.c1 d.c2 d.c3 d.c4)
 own:Own V tr d F
 nd:F.Nodup
 lt:∀ b,b∈F→K+1≤b∧b < V.heap.size
 below:Below K wr V
theorem own_noT (w:World):Own w noT ⟨.int .i64 6,.int .i64 0,.string ⟨#[]⟩,.slice none 0 0,.slice none 0 0⟩ []:=own_leaf (s:=6) (n:=0) (tx:=⟨#[]⟩) ⟨by decide,by decide⟩ ⟨by decide,by decide⟩ (by decide)
theorem KB.drewN {wr V:World} {K:Nat} {tr:Tr} {d:C5} {F:List Nat} (h:KB wr V K tr d F) (m:Nat):KB wr (V.drewN m) K tr d F:=⟨h.row.of_block rfl,(show Own (V.drewN m) tr d F from Own.carry (w:=V) (w':=V.drewN m) _ _ _ (fun _ _=>rfl) h.own),h.nd,h.lt,below_drewN h.below m⟩
theorem KB.start (wr:World):KB wr (wr.alloc (.cells #[.int .i64 6,.int .i64 0,.string ⟨#[]⟩,.slice none 0 0,.slice none 0 0] 29)) wr.heap.size noT ⟨.int .i64 6,.int .i64 0,.string ⟨#[]⟩,.slice none 0 0,.slice none 0 0⟩ [] :=
 ⟨row5_alloc wr _ _ _ _ _ _,own_noT _,List.nodup_nil,fun b hb=>by simp at hb,(Below.refl _ _).alloc (Nat.le_refl _) _⟩
theorem spForm (n:Nat) (IH:WSaid n) (a b:Kd) (t:Tr) (ha5:a.sort=5) (hb5:b.sort=5) (hn:ksz b≤n+1) (hn40:n+1≤40) (hf:fitF (n+1) a b=true) (hT:hT t a=true) (hO:okH t=true) (a1 a2 b1 b2 t1 t2:Option Addr) (p1 p2 q1 q2 r1 r2:Nat) (w:World)
 (ha:KW w a ⟨.int .i64 a.sort,.slice a1 a.names.length p1,.slice a2 a.kids.length p2⟩) (hb:KW w b ⟨.int .i64 b.sort,.slice b1 b.names.length q1,.slice b2 b.kids.length q2⟩) (ht:Rep (fun x=>x < w.heap.size) w t ⟨.int .i64 t.sort,.int .i64 t.num,.string t.text,.slice t1 t.names.length r1,.slice t2 t.kids.length r2⟩) :
 Calls Tryz.prog 23 #[.agg #[.int .i64 a.sort,.slice a1 a.names.length p1,.slice a2 a.kids.length p2],.agg #[.int .i64 b.sort,.slice b1 b.names.length q1,.slice b2 b.kids.length q2],.agg #[.int .i64 t.sort,.int .i64 t.num,.string t.text,.slice t1 t.names.length r1,.slice t2 t.kids.length r2]] w (TE (widF (n+1) a b t) w):=by
 have hla:a.kids.length=a.names.length∧riseB a.names=true:=by rcases okD_sh ha.ok with h | h | h;omega;omega;exact h.2
 have hlb:b.kids.length=b.names.length∧riseB b.names=true:=by rcases okD_sh hb.ok with h | h | h;omega;omega;exact h.2
 obtain ⟨g1,g2,g3⟩:=hT_open hT
 obtain ⟨g4,g5⟩:=okH_open hO
 obtain ⟨hnum,htx⟩:=alone_bare g4 (by omega)
 have hlt:=((alone_open g4).2.2 (by omega)).1
 have hfn:=fit_names ha.ok hb.ok ha5 hb5 hf
 rw [widF_form ha5 hb5,uni_wider ha.ok hb.ok ha5 hb5 hf]
 rw [uni_wider ha.ok hb.ok ha5 hb5 hf] at hfn
 have hbn:b.names.length≤1000:=by
  have h1:b.kids.length≤klsz b.kids:=by
   have:∀ l:List Kd,l.length≤klsz l:=by
    intro l
    induction l with
    | nil=>simp
    | cons a r ih =>
      rw [klsz,List.length_cons]
      have:=ksz_pos a;omega
   exact this _
  have e:ksz b=1+klsz b.kids:=by obtain ⟨s,ns,ks⟩:=b;rw [ksz];rfl
  omega
 have han:a.names.length≤1000:=by
  have hu:=uni_wider ha.ok hb.ok ha5 hb5 hf
  have:=(rise_sub b.names a.names (rise_pairs hlb.2) (rise_pairs hla.2) (fun x hx=>by rw [← hu];exact (uniN_mem x).2 (Or.inl hx))).length_le
  omega
 have hns8:∀ x,x∈b.names→x.size≤9223372036854775807:=fun x hx=>by
  obtain ⟨i,hi,rfl⟩:=List.getElem_of_mem hx
  have:=rise_size hlb.2 i hi
  omega
 obtain ⟨gF,hgF⟩:∃ gF:ByteArray→Tr,(fun nm=>widF n (kidZ a nm) (kidZ b nm) (fldZ t nm))=gF:=⟨_,rfl⟩
 have hno:∀ i,(hi:i < b.names.length)→b.names[i]∉a.names→gF b.names[i]=noT:=fun i hi hm=>by
  rw [← hgF]
  have hk:i < b.kids.length:=by omega
  have h1:=ksz_kid (List.getElem_mem hk)
  have h2:=ksz_pos b.kids[i]
  obtain ⟨m,rfl⟩:∃ m,n=m+1:=⟨n - 1,by omega⟩
  exact widF_zero (by rw [kidZ_none hm];rfl)
 have hcall:∀ i j,(hi:i < b.names.length)→(hj:j < a.names.length)→a.names[j]=b.names[i]→∀ (hi2:i < b.kids.length) (hj2:j < a.kids.length) (hj3:j < t.kids.length) (c d:C3) (z:C5) (W:World),KW W a.kids[j] c→KW W b.kids[i] d→Rep (fun x=>x < W.heap.size) W t.kids[j] z →
  Calls Tryz.prog 23 #[.agg #[c.c0,c.c1,c.c2],.agg #[d.c0,d.c1,d.c2],.agg #[z.c0,z.c1,z.c2,z.c3,z.c4]] W (TE (gF b.names[i]) W):=fun i j hi hj e hi2 hj2 hj3 c d z W hc hd hz=>by
  have ea:kidZ a b.names[i]=a.kids[j]:=kidZ_at (rise_pairs hla.2) hla.1 hj e
  have eb:kidZ b b.names[i]=b.kids[i]:=kidZ_at (rise_pairs hlb.2) hlb.1 hi rfl
  have et:fldZ t b.names[i]=t.kids[j]:=fldZ_at (by rw [← g2];exact rise_pairs hla.2) hlt (by rw [← g2];exact hj) (by simp only [← g2];exact e)
  have hq:=g3 j hj3
  rw [kidOf_form ha5 hj2] at hq
  have hz2:=ksz_kid (List.getElem_mem hi2)
  rw [← hgF]
  simp only [ea,eb,et]
  refine IH _ _ _ (by omega) (by omega) ?_ hq (g5 j hj3) c d z W hc hd hz
  rcases (hfn b.names[i] (List.getElem_mem hi)).2 with ⟨h1,-⟩ | ⟨-,-,h1⟩
  · rw [ea] at h1;exact absurd h1 (okD_ne hc.ok)
  · rwa [ea,eb] at h1
 rw [hgF]
 have hts:t.sort=5:=by omega
 have htl:t.kids.length=a.names.length:=by rw [g2];exact hlt
 obtain ⟨-,-,-,-,-,-,-,a6',cap6',e4,-,hks⟩:=ht.open
 simp only [Value.slice.injEq,true_and] at e4
 obtain ⟨rfl,rfl⟩:=e4
 rw [hnum,htx,hts,ha5,hb5]
 obtain ⟨hbx,hrO,hs0⟩:=l3w_start w (.int .i64 5) (.slice a1 a.names.length p1) (.slice a2 a.kids.length p2) (.int .i64 5) (.slice b1 b.names.length q1) (.slice b2 b.kids.length q2) (.int .i64 5) (.int .i64 0) (.string ⟨#[]⟩) (.slice t1 t.names.length r1) (.slice t2 t.kids.length r2)
 obtain ⟨i0,hi,hz0,hz1,hz2⟩:=info_parts infoTreeS
 have hA2:∀ j,(hj:j < a.names.length)→∃ nb no,a1=some ⟨nb,no,none⟩∧nb < w.heap.size∧w.cell? ⟨nb,no+j,none⟩=some (.string a.names[j]):=fun j hj=>by
  obtain ⟨nb,no,nc,en,hnl,hcn⟩:=ha.name hj
  simp only [Value.slice.injEq] at en
  exact ⟨nb,no,en.1,hnl,hcn⟩
 have hB2:∀ j,(hj:j < b.names.length)→∃ nb no,b1=some ⟨nb,no,none⟩∧nb < w.heap.size∧w.cell? ⟨nb,no+j,none⟩=some (.string b.names[j]):=fun j hj=>by
  obtain ⟨nb,no,nc,en,hnl,hcn⟩:=hb.name hj
  simp only [Value.slice.injEq] at en
  exact ⟨nb,no,en.1,hnl,hcn⟩
 have HA2:=xH hA2;have HB2:=xH hB2
 have HAK:=xH (fun j (hj:j < a.kids.length)=>ha.kid (i:=j) hj);have HBK:=xH (fun j (hj:j < b.kids.length)=>hb.kid (i:=j) hj)
 have HK:=xH hks;have HC:=xH hcall;have HBX:=xH hbx;have HRO:=xH hrO;have HS0:=xH hs0;have HNO:=xH hno;have HBN:=xH hbn;have HAN:=xH han;have HNS8:=xH hns8
 have HII:=xH hi;have HZ0:=xH hz0;have HZ1:=xH hz1;have HZ2:=xH hz2;have HLA:=xH hla.1;have HLB:=xH hlb.1;have HTL:=xH htl
 clear hks hcall hbx hrO hs0 hno hbn han hns8 hi hz0 hz1 hz2 hla hlb htl hts hA2 hB2 ht ha hb hT hO hf hfn hgF g1 g2 g3 g4 g5 hlt hnum htx ha5 hb5 hn hn40 IH
 go_enter Tryz.func23,Tryz.ntmps23
 go_wp2_with fail
 generalize ((((w.alloc (.cells #[.int .i64 5,.slice a1 a.names.length p1,.slice a2 a.kids.length p2] 26)).alloc (.cells #[.int .i64 5,.slice b1 b.names.length q1,.slice b2 b.kids.length q2] 26)).alloc (.cells #[.int .i64 5,.int .i64 0,.string ⟨#[]⟩,.slice t1 t.names.length r1,.slice t2 t.kids.length r2] 29)).alloc (.cells #[.int .i64 0,.int .i64 0,.string ⟨#[]⟩,.slice none 0 0,.slice none 0 0] 29)).alloc (.cells #[.int .i64 5,.int .i64 0,.string ⟨#[]⟩,.slice none 0 0,.slice none 0 0] 29)=W0 at HBX HRO HS0 ⊢
 have hs0:W0.heap.size=w.heap.size+5:=xU HS0
 have hinv:SInv (w.heap.size+4+1) (w.heap.size+4) W0 5 (.slice none 0 0) (.slice none 0 0) [] [] [] [] :=
  ⟨by omega,xU HRO,World.ownsRow_nil _ _ _ _,GotO.start _ _,fun b hb=>by simp [Value.ownBlock] at hb,by omega⟩
 have HINV:=xH hinv
 clear hinv
 go_loopw [10] (fun vi wr=>∃ (i:Nat) (aN:Option Addr) (capN:Nat) (aK:Option Addr) (capK:Nat) (xs:List Value) (G:List Nat),i≤b.names.length∧vi=.int .i64 i∧Hid (SInv (w.heap.size+4+1) (w.heap.size+4) wr 5 (.slice aN i capN) (.slice aK i capK) (b.names.take i) ((b.names.take i).map gF) xs G)∧Hid (Below (w.heap.size+4) W0 wr)) (fun vi _=>b.names.length - (intOf vi).toNat)
 case atStart=>exact ⟨0,none,0,none,0,[],[],Nat.zero_le _,rfl,xU HINV,Below.refl _ _⟩
 case round =>
  obtain ⟨i,aN,capN,aK,capK,xs,G,hi,rfl,HS,HB⟩:=hrel
  have hsw:=HB.out.size
  have hbw:Below w.heap.size w wr:=(xU HBX).below.trans (HB.out.mono (by omega))
  have hbo:∀ x,x < w.heap.size+4→wr.heap[x]? = W0.heap[x]? := fun x hx=>HB.out.block x hx
  have bA:=(xU HBX).bA.of_block (hbo _ (by omega))
  have bB:=(xU HBX).bB.of_block (hbo _ (by omega))
  have bT:=(xU HBX).bT.of_block (hbo _ (by omega))
  have cB1:=bB.cell (i:=1) (by omega)
  simp only [row3] at cB1
  by_cases hlt:i < b.names.length
  · have HW:=xH hbw;have HBA:=xH bA;have HBB:=xH bB;have HBT:=xH bT
    clear hbw hbo bA bB bT
    obtain ⟨wo,hwo⟩:∃ wo,wo=wr:=⟨_,rfl⟩
    subst hwo
    have HKB0:=xH (KB.start wo)
    have hszr:w.heap.size+4+1≤wo.heap.size:=HS.out.size
    have HSZR:=xH hszr
    obtain ⟨nm,hnm⟩:∃ nm,b.names[i]=nm:=⟨_,rfl⟩
    have HCI:=xH (fun (j:Nat) (hj:j < a.names.length) (e:a.names[j]=nm) (hi2:i < b.kids.length) (hj2:j < a.kids.length) (hj3:j < t.kids.length) (c d:C3) (z:C5) (W:World) (h1:KW W a.kids[j] c) (h2:KW W b.kids[i] d) (h3:Rep (fun x=>x < W.heap.size) W t.kids[j] z)=>(show Calls Tryz.prog 23 #[.agg #[c.c0,c.c1,c.c2],.agg #[d.c0,d.c1,d.c2],.agg #[z.c0,z.c1,z.c2,z.c3,z.c4]] W (TE (gF nm) W) from by
     have h:=xU HC i j hlt hj (e.trans hnm.symm) hi2 hj2 hj3 c d z W h1 h2 h3
     rwa [hnm] at h))
    have HNOI:=xH (fun (h:nm∉a.names)=>(show gF nm=noT from by have h':=xU HNO i hlt (by rw [hnm];exact h);rwa [hnm] at h'))
    have htk:b.names.take (i+1)=b.names.take i++[nm]:=by rw [List.take_succ_eq_append_getElem hlt,hnm]
    have hlk:(b.names.take i).length=i:=by simp;omega
    have HTK:=xH htk;have HLK:=xH hlk
    obtain ⟨mb,mo,rfl,hml,hcm⟩:=xU HB2 i hlt
    rw [hnm] at hcm
    have HCM:=xH hcm
    clear hnm htk hlk hcm hszr
    go_wp2_with fail
    generalize hV0:wo.alloc (.cells #[.int .i64 6,.int .i64 0,.string ⟨#[]⟩,.slice none 0 0,.slice none 0 0] 29)=V0 at HKB0 ⊢
    clear hV0 cB1
    go_loopw [12] (fun vj V=>∃ (j:Nat) (tr:Tr) (d:C5) (F:List Nat),j≤a.names.length∧vj=.int .i64 j∧Hid (KB wo V wo.heap.size tr d F)∧Hid ((∃ (x:Nat) (hx:x < a.names.length),x < j∧a.names[x]=nm∧tr=gF nm)∨((∀ (x:Nat) (hx:x < a.names.length),x < j→a.names[x]≠nm)∧tr=noT))) (fun vj _=>a.names.length - (intOf vj).toNat)
    case atStart=>exact ⟨0,noT,_,[],Nat.zero_le _,rfl,xU HKB0,Or.inr ⟨fun x hx h=>by omega,rfl⟩⟩
    case round =>
     obtain ⟨j,tr,d,F,hj,rfl,HKB,HTR⟩:=hrel
     have hkl:=HKB.out.row.lt
     have ke:=wrkU (Nat.le_trans hj (Nat.le_trans (xU HAN) (by decide)))
     have hszr:=xU HSZR
     have hbV:Below w.heap.size w wr:=(xU HW).trans (HKB.out.below.mono (by omega))
     have vA:=(xU HBA).of_block (HKB.out.below.block _ (by omega))
     have vB:=(xU HBB).of_block (HKB.out.below.block _ (by omega))
     have vT:=(xU HBT).of_block (HKB.out.below.block _ (by omega))
     have cA1:=vA.cell (i:=1) (by omega);have cA2:=vA.cell (i:=2) (by omega);have cB1:=vB.cell (i:=1) (by omega);have cB2:=vB.cell (i:=2) (by omega);have cT4:=vT.cell (i:=4) (by omega)
     simp only [row3,row5] at cA1 cA2 cB1 cB2 cT4
     have em:wr.cell? ⟨mb,mo+i,none⟩=some (.string nm):=by rw [hbV.cell hml];exact xU HCM
     by_cases hjl:j < a.names.length
     · obtain ⟨nb,no,rfl,hnl,hcn⟩:=xU HA2 j hjl
       have en:wr.cell? ⟨nb,no+j,none⟩=some (.string a.names[j]):=by rw [hbV.cell hnl];exact hcn
       by_cases he:a.names[j]=nm
       · rw [he] at en
         have hj2:j < a.kids.length:=by rw [xU HLA];exact hjl
         have hj3:j < t.kids.length:=by rw [xU HTL];exact hjl
         have hi2:i < b.kids.length:=by rw [xU HLB];exact hlt
         obtain ⟨xb,xo,xc,x1,x2,u1,u2,ex,hxl,x0,x3,x4,hx⟩:=xU HAK j hj2
         obtain ⟨yb,yo,yc,y1,y2,s1,s2,ey,hyl,y0,y3,y4,hy⟩:=xU HBK i hi2
         simp only [Value.slice.injEq,true_and] at ex ey
         obtain ⟨rfl,rfl⟩:=ex
         obtain ⟨rfl,rfl⟩:=ey
         obtain ⟨tb,tf,ck,rfl,hpb,hcell,hrp⟩:=xU HK j hj3
         obtain ⟨a3,p3,a4,p4,rfl⟩:=hrp.form
         obtain ⟨f0,f1,f2,f3,f4⟩:=hcell.carry (hbV.block tb hpb)
         simp only at f0 f1 f2 f3 f4
         rw [← hbV.cell hxl] at x0 x3 x4
         rw [← hbV.cell hyl] at y0 y3 y4
         have HCALL:=xH (fun m=>xU HCI j hjl he hi2 hj2 hj3 ⟨_,_,_⟩ ⟨_,_,_⟩ ⟨_,_,_,_,_⟩ (wr.drewN m).drew (hx.on (below_drewN hbV m).drew) (hy.on (below_drewN hbV m).drew) (Rep.carry (fun b hb=>(below_drewN hbV m).drew.block b hb) (fun b hb=>Nat.lt_of_lt_of_le hb hbV.size) _ _ hrp))
         have HKX:=xH (fun m=>show Kc (wr.drewN m).drew (w.heap.size+4) xb (xo+j * 3) ⟨.int .i64 a.kids[j].sort,.slice x1 a.kids[j].names.length u1,.slice x2 a.kids[j].kids.length u2⟩ from ⟨by omega,x0,x3,x4⟩)
         have HKY:=xH (fun m=>show Kc (wr.drewN m).drew (w.heap.size+4) yb (yo+i * 3) ⟨.int .i64 b.kids[i].sort,.slice y1 b.kids[i].names.length s1,.slice y2 b.kids[i].kids.length s2⟩ from ⟨by omega,y0,y3,y4⟩)
         have HTZ:=xH (fun m=>show Tc (wr.drewN m).drew (w.heap.size+4) tb (tf+j * 5) ⟨.int .i64 t.kids[j].sort,.int .i64 t.kids[j].num,.string t.kids[j].text,.slice a3 t.kids[j].names.length p3,.slice a4 t.kids[j].kids.length p4⟩ from ⟨by omega,f0,f1,f2,f3,f4⟩)
         have HCA:=xH cA2;have HCB:=xH cB2;have HCT:=xH cT4
         have HROW:=xH (fun m=>show (wr.drewN m).drew.rowIs wo.heap.size 29 5 (row5 d.c0 d.c1 d.c2 d.c3 d.c4) from HKB.out.row.of_block rfl)
         have HE:=xH he;have HJ2:=xH hj2;have HJ3:=xH hj3;have HI2:=xH hi2
         generalize a.kids[j]=ka at *
         generalize b.kids[i]=kb at *
         generalize t.kids[j]=kt at *
         clear hcell hrp hpb hbV x0 x3 x4 y0 y3 y4 f0 f1 f2 f3 f4 hx hy hxl hyl he hcn vA vB vT hj2 hj3 hi2 cA2 cB2 cT4
         go_wp2_with fail
         go_quiet (fail)
         go_upto_region 24 with fail
         clear em en
         refine wp_swap (c':=Code.region 24 ws24Ops true) (by kernel_rfl) ?_
         refine wp_region_noPanic ?_
         refine ws24 (w.heap.size+4) w.heap.size (w.heap.size+1) (w.heap.size+2) wo.heap.size xb xo a.kids.length p2 yb yo b.kids.length q2 tb tf t.kids.length r2 i j _ _ _ _ (gF nm) (wr.drewN nq) _ (fun _ _ _ _ _ h=>h) ⟨by omega,xU HCA⟩ ⟨by omega,xU HCB⟩ ⟨by omega,xU HCT⟩ (xU HKX nq) (xU HKY nq) (xU HTZ nq) (xU HJ2) (xU HI2) (xU HJ3) (by omega) (xU HROW nq) (xU HCALL nq) (by kernel_rfl) (fun u=>by kernel_rfl) ?_
         intro u d2 F2 W9 ho2 hnd2 hF2 hrow2 hbb2
         refine NoPanic.normal ?_
         simp only [List.take_succ_cons,List.take_zero,List.drop_succ_cons,List.drop_zero,List.cons_append,List.nil_append]
         have hsd:(wr.drewN nq).drew.heap.size=wr.heap.size:=rfl
         have hdrV:=(below_drewN (Below.refl wo.heap.size wr) nq).drew
         have HKB9:Hid (KB wo W9 wo.heap.size (gF nm) d2 F2):=⟨hrow2,ho2,hnd2,fun b hb=>⟨by have:=(hF2 b hb).1;omega,(hF2 b hb).2⟩,HKB.out.below.trans (hdrV.trans (below_but hbb2 ⟨Nat.le_refl _,by omega⟩))⟩
         have HTR9:Hid ((∃ (x:Nat) (hx:x < a.names.length),x < j+1∧a.names[x]=nm∧gF nm=gF nm)∨((∀ (x:Nat) (hx:x < a.names.length),x < j+1→a.names[x]≠nm)∧gF nm=noT)):=Or.inl ⟨j,hjl,by omega,xU HE,rfl⟩
         clear ho2 hnd2 hF2 hrow2 hbb2 hdrV hsd cA1 cB1 HCALL HKX HKY HTZ HCA HCB HCT HROW
         go_wp2_with fail
         go_roundw
         case rel=>exact ⟨j+1,gF nm,d2,F2,hjl,(by first | exact numU j | (rw [ke];exact numU j)),xU HKB9,xU HTR9⟩
         case measure=>first | exact measU hjl | (rw [ke];exact measU hjl)
       · have hnb:(a.names[j].toList==nm.toList)=false:=by rw [lst_beq];exact decide_eq_false he
         have HTR9:Hid ((∃ (x:Nat) (hx:x < a.names.length),x < j+1∧a.names[x]=nm∧tr=gF nm)∨((∀ (x:Nat) (hx:x < a.names.length),x < j+1→a.names[x]≠nm)∧tr=noT)):=by
          rcases xU HTR with ⟨x,hx,h1,h2,h3⟩ | ⟨h1,h2⟩
          · exact Or.inl ⟨x,hx,by omega,h2,h3⟩
          · refine Or.inr ⟨fun x hx hx2=>?_,h2⟩
            by_cases e:x=j
            · subst e;exact he
            · exact h1 x hx (by omega)
         generalize a.names[j]=nm2 at en hnb
         clear he hcn vA vB vT hbV cA2 cB2 cT4
         go_wp2_with fail
         go_quiet (fail)
         go_wp2_with fail
         go_roundw
         case rel=>exact ⟨j+1,tr,d,F,hjl,(by first | exact numU j | (rw [ke];exact numU j)),HKB.out.drewN nq,HTR9⟩
         case measure=>first | exact measU hjl | (rw [ke];exact measU hjl)
     · obtain rfl:j=a.names.length:=by omega
       have htr:tr=gF nm:=by
        rcases xU HTR with ⟨x,hx,h1,h2,h3⟩ | ⟨h1,h2⟩
        · exact h3
        · rw [h2,xU HNOI (fun hm=>by
           obtain ⟨x,hx,e⟩:=List.mem_iff_getElem.1 hm
           exact h1 x hx hx e)]
       subst htr
       have HCB:=xH cB1;have HEM:=xH em
       have hdr:=(Below.refl wr.heap.size wr).drew
       have HSV:=xH (HS.out.kept (w':=wr.drew) (by
        have h1:=HKB.out.below
        exact ⟨h1.os,hdr.tape.trans h1.tape,h1.output,h1.size,fun i hi _=>h1.block i hi⟩))
       clear vA vB vT hbV cA2 cB2 cT4 cB1 em HTR hdr
       obtain ⟨e0,e1,e2,a7,n7,cap7,a8,n8,cap8,rfl⟩:=own_five HKB.out.own
       have HVN:=xH (fun b (hb:(Value.slice aN i capN).ownBlock=some b)=>(HS.out.names.lt b hb).2)
       have hsd:wr.drew.heap.size=wr.heap.size:=rfl
       go_upto_region 25 with fail
       refine wp_swap (c':=Code.region 25 ws25Ops true) (by kernel_rfl) ?_
       refine wp_region_noPanic ?_
       refine ws25 (w.heap.size+4) (w.heap.size+1) mb mo b.names.length q1 i nm 5 (.slice aK i capK) (b.names.take i) aN capN ((b.names.take i).map gF) xs G wr _ (fun _ _ _ _ _ h=>h) ⟨by omega,xU HCB⟩ ⟨by omega,xU HEM⟩ hlt (by have:=xU HBN;omega) (xU HLK) (xU HSV) (by kernel_rfl) (fun u=>by kernel_rfl) ?_
       intro u a' cap' W9 hinv hbl hkp hown
       refine NoPanic.normal ?_
       simp only [List.take_succ_cons,List.take_zero,List.drop_succ_cons,List.drop_zero,List.cons_append,List.nil_append]
       have hKV:=HKB.out
       have hne:∀ b,wo.heap.size≤b→b < wr.heap.size→W9.heap[b]? = wr.heap[b]? := fun b h1 h2=>hkp b h2 (by omega) (fun e=>by have:=xU HVN b e;omega)
       have hrow9:W9.rowIs wo.heap.size 29 5 (row5 (.int .i64 e0) (.int .i64 e1) (.string e2) (.slice a7 n7 cap7) (.slice a8 n8 cap8)):=hKV.row.of_block (hne _ (Nat.le_refl _) hkl)
       have hown9:Own W9 (gF nm) ⟨.int .i64 e0,.int .i64 e1,.string e2,.slice a7 n7 cap7,.slice a8 n8 cap8⟩ F:=Own.carry _ _ _ (fun b hb=>hne b (by have:=(hKV.lt b hb).1;omega) (hKV.lt b hb).2) hKV.own
       have hnF:∀ b,(Value.slice a' (i+1) cap').ownBlock=some b→b∉F:=fun b hb hm=>by
        have h1:=hKV.lt b hm
        rcases hown with e | ⟨g,e,hg⟩
        · rw [e] at hb;have:=xU HVN b hb;omega
        · rw [e] at hb;simp only [Option.some.injEq] at hb;omega
       have hb09:Below (w.heap.size+4) W0 W9:=HB.out.trans ((hKV.below.mono (by omega)).trans (((Below.refl _ wr).drew).trans hbl))
       have hsz9:wr.heap.size≤W9.heap.size:=hbl.size
       have hlF:∀ b,b∈F→wo.heap.size≤b∧b < W9.heap.size:=fun b hb=>by have:=hKV.lt b hb;omega
       have hKl:((b.names.take i).map gF).length=i:=by rw [List.length_map];exact xU HLK
       have hmt:(b.names.take (i+1)).map gF=(b.names.take i).map gF++[gF nm]:=by rw [xU HTK,List.map_append];rfl
       obtain ⟨q0,q1,q2,q3,q4⟩:=cs5 hrow9 (by omega)
       have t4:=hinv.cells.cell (i:=4) (by omega)
       simp only [row5] at q0 q1 q2 q3 q4 t4
       have HINV9:=xH hinv;have HOWN9:=xH hown9;have HNF:=xH hnF;have HB09:=xH hb09;have HSZ9:=xH hsz9;have HLF:=xH hlF;have HKL:=xH hKl;have HMT:=xH hmt;have HND:=xH hKV.nd
       have HSX:=xH HS.out
       clear hinv hbl hkp hown hKV hne hrow9 hown9 hnF hb09 hlF hKl hmt HKB HSV HCB HEM HVN ke hsd
       generalize gF nm=gx at *
       go_wp2_with (at_builtin; refine append_row _ rfl _ _ 27 rfl (w.heap.size + 4 + 1) 29 i0 _ 5 80 Tryz.underlying27 (unhide HII) (unhide HZ0) (unhide HZ1) (unhide HZ2) rfl (by decide) (.slice aK i capK) i xs rfl (by have := (unhide HINV9).got.row; rw [unhide HKL] at this; exact World.ownsRow.alloc this _) ⟨W9.heap.size, 0, none⟩ 1 1 (c5l ⟨.int .i64 e0, .int .i64 e1, .string e2, .slice a7 n7 cap7, .slice a8 n8 cap8⟩) rfl rfl (cell_five W9 _ _) (unhide HOWN9).one (by decide) (by have := unhide HBN; unfold maxLen; omega) (by have := unhide HBN; omega) (by have := (unhide HINV9).size; simp; omega) ?_
                    intro v' w8 hown8 hgrow8 hat8
                    obtain ⟨g,cap,rfl,-,-⟩:=hown8.form (by omega)
                    have u4:=(SInv.atK (xU HINV9) hgrow8).cell (i:=4) (by omega);have uz:=(SInv.atK (xU HINV9) hgrow8).frozen 4
                    simp only [row5] at u4
                    have hz6:∀ o,(W9.alloc o).heap.size=W9.heap.size+1:=fun o=>World.size_alloc _ _
                    have hinv8:=SInv.kid2 (m:=wo.heap.size) ((xU HINV9).kept (World.grownBy_alloc W9 (.cells #[.int .i64 e0,.int .i64 e1,.string e2,.slice a7 n7 cap7,.slice a8 n8 cap8] 29) none)) (Own.carry gx _ F (fun b hb=>Below.heap_alloc _ _ _ (xU HLF b hb).2) (xU HOWN9)) (xU HND) (fun b hb=>⟨(xU HLF b hb).1,by rw [hz6];have:=(xU HLF b hb).2;omega⟩)
                     (fun b hb=>((xU HSX).got.lt b hb).2.1) (fun b hb=>((xU HSX).got.row.lt b hb).2) (xU HNF) (xU HSX).size (by rw [xU HKL];exact hown8) hgrow8 hat8
                    have hb8:Below (w.heap.size+4) W0 (w8.setCell ⟨w.heap.size+4,4,none⟩ (.slice (some ⟨g,0,none⟩) (i+1) cap)) :=
                     (((xU HB09).alloc (by omega) (.cells #[.int .i64 e0,.int .i64 e1,.string e2,.slice a7 n7 cap7,.slice a8 n8 cap8] 29)).grown hgrow8 (by rw [hz6];have:=(xU HINV9).size;omega) (fun b e=>by have:=((xU HINV9).got.row.lt b e).1;omega)).setCell (by simp) _
                    have HI8:=xH hinv8;have HB8:=xH hb8
                    clear hinv8 hb8 hown8 hgrow8 hat8 hz6)
       have ke:=wrkU (Nat.le_trans hi (Nat.le_trans (xU HBN) (by decide)))
       clear q0 q1 q2 q3 q4 t4 u4 uz HINV9 HOWN9 HNF HB09 HLF HND HSX
       go_roundw
       case rel=>exact ⟨i+1,a',cap',some ⟨g,0,none⟩,cap,_,_,hlt,(by first | exact numU i | (rw [ke];exact numU i)),by rw [xU HMT,xU HTK];exact xU HI8,xU HB8⟩
       case measure=>first | exact measU hlt | (rw [ke];exact measU hlt)
  · obtain rfl:i=b.names.length:=by omega
    obtain ⟨F,hown,hnd,hFl⟩:=HS.out.done (show I64 5 from ⟨by decide,by decide⟩) (fun x hx=>xU HNS8 x (List.mem_of_mem_take hx))
    rw [List.take_length] at hown
    obtain ⟨t0,t1,t2,t3,t4⟩:=cs5 HS.out.cells (by omega)
    have q2:=(xU HBX).bR.of_block (hbo _ (by omega))
    have z:=q2.frozen
    obtain ⟨y0,y1,y2,y3,y4⟩:=cs5 q2 (by omega)
    simp only [row5] at t0 t1 t2 t3 t4 y0 y1 y2 y3 y4
    have HOWN:=xH hown;have HFL:=xH hFl;have HBXX:=xH hbw
    clear hown hFl q2 hbw hbo bA bB bT
    go_wp2_with fail
    refine bodyPost_ret (v:=.agg #[.int .i64 5,.int .i64 0,.string ⟨#[]⟩,.slice aN b.names.length capN,.slice aK b.names.length capK]) (by simp [results,Tryz.results23,go_sem,y0,y1,y2,y3,y4]) rfl ⟨⟨_,_,_,_,_⟩,F,rfl,?_,hnd,?_,?_⟩
    · exact Own.carry _ _ F (fun b hb=>heap_set5s _ _ _ _ _ _ _ _ (by have:=(xU HFL b hb).1;omega)) (xU HOWN)
    · intro b hb
      rw [size_set5s]
      have:=xU HFL b hb;omega
    · exact below_set5s (xU HBXX) _ _ _ _ _ _ (by omega)

def HasSaid (n:Nat):Prop:=∀ (t:Tr),tsz t < n→∀ (k:Kd) (P Q:Nat→Prop) (c:C3) (d:C5) (w:World),(∀ b,P b→b < w.heap.size)→(∀ b,Q b→b < w.heap.size)→KRep P w k c→Rep Q w t d→okD k=true→okH t=true →
    Calls Tryz.prog 25 #[.agg #[c.c0,c.c1,c.c2],.agg #[d.c0,d.c1,d.c2,d.c3,d.c4]] w fun e w'=>e=.returned (.bool (hT t k))∧Below w.heap.size w w'
theorem l2Has_step (n:Nat) (IH:HasSaid n):HasSaid (n+1):=by
 intro t hn k P Q c d w hP hQ hrep hrep2 hok hot
 rw [okD_eq,Bool.and_eq_true] at hok
 rw [okH_eq,Bool.and_eq_true] at hot
 obtain ⟨c0,c1,c2⟩:=c
 obtain ⟨d0,d1,d2,d3,d4⟩:=d
 obtain ⟨e0,-,⟨a3,cap3,e1,hl3,hnc⟩,a,cap,e2,hl,hks⟩:=hrep.open
 obtain ⟨g0,g1,g2,-,-,-,⟨a5,cap5,g3,hl5,hnc2⟩,a6,cap6,g4,hl6,hks2⟩:=hrep2.open
 simp only at e0 e1 e2 g0 g1 g2 g3 g4
 subst e0 e1 e2 g0 g1 g2 g3 g4
 have hbl0:∀ o1 o2,Below w.heap.size w ((w.alloc o1).alloc o2):=fun o1 o2=>((Below.refl _ _).alloc (Nat.le_refl _) o1).alloc (by simp) o2
 by_cases hs:k.sort=t.sort
 · by_cases hnl:k.names.length=t.names.length
   · have HP:=xH hP;have HQ:=xH hQ;have HI:=xH IH;have HK:=xH hks;have HK2:=xH hks2;have HNC:=xH hnc;have HNC2:=xH hnc2;have HOK:=xH hok;have HOT:=xH hot
     clear hP hQ IH hks hks2 hnc hnc2 hok hot hrep hrep2
     have hrk:=row3_alloc w (.int .i64 t.sort) (.slice a3 t.names.length cap3) (.slice a k.kids.length cap) 26
     have hrt:=row5_alloc (w.alloc (.cells #[.int .i64 t.sort,.slice a3 t.names.length cap3,.slice a k.kids.length cap] 26)) (.int .i64 t.sort) (.int .i64 t.num) (.string t.text) (.slice a5 t.names.length cap5) (.slice a6 t.kids.length cap6) 29
     rw [World.size_alloc] at hrt
     have hbw:=hbl0 (.cells #[.int .i64 t.sort,.slice a3 t.names.length cap3,.slice a k.kids.length cap] 26) (.cells #[.int .i64 t.sort,.int .i64 t.num,.string t.text,.slice a5 t.names.length cap5,.slice a6 t.kids.length cap6] 29)
     have hrk:=hrk.alloc (.cells #[.int .i64 t.sort,.int .i64 t.num,.string t.text,.slice a5 t.names.length cap5,.slice a6 t.kids.length cap6] 29)
     simp only [hs,hnl]
     have HS:=xH hs;have HNL:=xH hnl
     clear hs hnl hbl0
     have h2:((w.alloc (.cells #[.int .i64 t.sort,.slice a3 t.names.length cap3,.slice a k.kids.length cap] 26)).alloc (.cells #[.int .i64 t.sort,.int .i64 t.num,.string t.text,.slice a5 t.names.length cap5,.slice a6 t.kids.length cap6] 29)).heap.size=w.heap.size+2:=by simp
     go_enter Tryz.func25,Tryz.ntmps25
     go_wp2_with fail
     generalize ((w.alloc (.cells #[.int .i64 t.sort,.slice a3 t.names.length cap3,.slice a k.kids.length cap] 26)).alloc (.cells #[.int .i64 t.sort,.int .i64 t.num,.string t.text,.slice a5 t.names.length cap5,.slice a6 t.kids.length cap6] 29))=W0 at *
     have HRK:=xH hrk;have HRT:=xH hrt;have HBW:=xH hbw
     clear hrk hrt hbw
     go_loopw [5] (fun i wr=>∃ (j:Nat),j≤t.names.length∧i=.int .i64 j∧Hid (∀ x,x < j→(h1:x < k.names.length)→(h2:x < t.names.length)→k.names[x]=t.names[x])∧Hid (Below W0.heap.size W0 wr)) (fun i _=>t.names.length - (intOf i).toNat)
     case atStart=>exact ⟨0,Nat.zero_le _,rfl,fun x hx=>by omega,Below.refl _ _⟩
     case round =>
      obtain ⟨j,hj,rfl,HE,HB⟩:=hrel
      have q0:=(xU HRK).of_block (HB.out.block w.heap.size (by omega))
      have q1:=(xU HRT).of_block (HB.out.block (w.heap.size+1) (by omega))
      have k1:=q0.cell (i:=1) (by omega);have t3:=q1.cell (i:=3) (by omega);have t4:=q1.cell (i:=4) (by omega)
      simp only [row3,row5] at k1 t3 t4
      have hbw:=(xU HBW).trans (HB.out.mono (by omega))
      by_cases hlt:j < t.names.length
      · have hlk:j < k.names.length:=by have:=xU HNL;omega
        obtain ⟨nb,no,rfl,hpn,hcn,-⟩:=xU HNC j hlk
        obtain ⟨mb,mo,rfl,hpm,hcm,-⟩:=xU HNC2 j hlt
        have en:wr.cell? ⟨nb,no+j,none⟩=some (.string k.names[j]):=by rw [hbw.cell (xU HP nb hpn)];exact hcn
        have em:wr.cell? ⟨mb,mo+j,none⟩=some (.string t.names[j]):=by rw [hbw.cell (xU HQ mb hpm)];exact hcm
        have HBW2:=xH hbw
        by_cases hne:k.names[j]=t.names[j]
        · rw [hne] at en
          have HE2:Hid (∀ x,x < j+1→(h1:x < k.names.length)→(h2:x < t.names.length)→k.names[x]=t.names[x]):=fun x hx h1 h2=>by
           by_cases e:x=j
           · subst e;exact hne
           · exact xU HE x (by omega) h1 h2
          generalize t.names[j]=nm at *
          clear hcn hcm hpn hpm hbw hne q0 q1 HBW2
          go_wp2_with fail
          go_region
          all_goals
           go_wp2_with fail
           go_roundw
           case rel=>exact ⟨j+1,by omega,by go_num,xU HE2,HB.out.drew⟩
           case measure=>simp [intOf];omega
        · have hf:hT t k=false:=by
           rw [hT_eq]
           have:k.names≠t.names:=names_ne hlk hlt hne
           simp [this]
          have HF:=xH hf
          have hnb:(k.names[j].toList==t.names[j].toList)=false:=by rw [lst_beq];exact decide_eq_false hne
          generalize t.names[j]=nm at *
          generalize k.names[j]=nm2 at *
          clear hcn hcm hpn hpm hbw q0 q1 hf
          go_wp2_with fail
          go_region
          all_goals
           go_wp2_with fail
           go_ret
           exact ⟨by rw [xU HF];rfl,(xU HBW2).drew⟩
      · obtain rfl:j=t.names.length:=by omega
        have hne:k.names=t.names:=names_eq (xU HNL) (fun x h1 h2=>xU HE x h2 h1 h2)
        have hh:hT t k=hK t.kids k 0:=by rw [hT_eq];simp [hne,xU HS]
        have HH:=xH hh;have HNE:=xH hne;have HBW2:=xH hbw
        clear q0 q1 hbw hh hne
        go_wp2_with fail
        go_loopw [6] (fun i wx=>∃ (j:Nat),j≤t.kids.length∧i=.int .i64 j∧Hid (hT t k=hK (t.kids.drop j) k j)∧Hid (Below W0.heap.size W0 wx)) (fun i _=>t.kids.length - (intOf i).toNat)
        case atStart=>exact ⟨0,Nat.zero_le _,rfl,xU HH,HB.out⟩
        case round =>
         clear t3 t4 k1 HE HB HBW2
         obtain ⟨j,hj,rfl,HH2,HB⟩:=hrel
         have q0:=(xU HRK).of_block (HB.out.block w.heap.size (by omega))
         have q1:=(xU HRT).of_block (HB.out.block (w.heap.size+1) (by omega))
         have k0:=q0.cell (i:=0) (by omega);have k2:=q0.cell (i:=2) (by omega);have t4:=q1.cell (i:=4) (by omega)
         have k0a:=fun ob=>(q0.alloc ob).cell (i:=0) (by omega);have k2a:=fun ob=>(q0.alloc ob).cell (i:=2) (by omega);have t4a:=fun ob=>(q1.alloc ob).cell (i:=4) (by omega)
         simp only [row3,row5] at k0 k2 t4 k0a k2a t4a
         have hbw:=(xU HBW).trans (HB.out.mono (by omega))
         by_cases hlt:j < t.kids.length
         · obtain ⟨hk0,hk5⟩:=kid_at (xU HOK).1 (xU HOT).1 (xU HS) (xU HNE) hlt
           obtain ⟨zb,zo,zc,rfl,hpz,hcz,hrz⟩:=xU HK 0 hk0
           obtain ⟨mb,mo,mc,rfl,hpm,hcm,hrm⟩:=xU HK2 j hlt
           have hcz':=hcz.carry (hbw.block zb (xU HP zb hpz))
           have hba:∀ ob,Below w.heap.size w (wr.alloc ob):=fun ob=>hbw.alloc hbw.size ob
           have hcm':=fun ob=>hcm.carry ((hba ob).block mb (xU HQ mb hpm))
           obtain ⟨z0,z1,z2⟩:=zc
           obtain ⟨m0,m1,m2,m3,m4⟩:=mc
           obtain ⟨f0,-,⟨a9,cap9,f1,-⟩,b9,cbp9,f2,-⟩:=hrz.open
           obtain ⟨r0,r1,r2,-,-,-,⟨aa,capa,r3,-⟩,ab,capb,r4,-⟩:=hrm.open
           simp only at f0 f1 f2 r0 r1 r2 r3 r4
           subst f0 f1 f2 r0 r1 r2 r3 r4
           obtain ⟨y0,y1,y2⟩:=hcz'
           have x0:=fun ob=>(hcm' ob).1;have x1:=fun ob=>(hcm' ob).2.1;have x2:=fun ob=>(hcm' ob).2.2.1;have x3:=fun ob=>(hcm' ob).2.2.2.1;have x4:=fun ob=>(hcm' ob).2.2.2.2
           simp only [Nat.zero_mul,Nat.add_zero] at y0 y1 y2 x0 x1 x2 x3 x4
           clear hcm'
           have HBW2:=xH hbw
           have hsm:tsz t.kids[j] < n:=by have:=tsz_kid (List.getElem_mem hlt);omega
           by_cases h5:t.sort=5
           · have hkj:=hk5 ((xU HS).trans h5)
             have hd5:(t.sort==5)=true:=by rw [h5];rfl
             obtain ⟨vb,vo,vc,ev,hpv,hcv,hrv⟩:=xU HK j hkj
             simp only [Option.some.injEq,Addr.mk.injEq,and_true] at ev
             obtain ⟨rfl,rfl⟩:=ev
             have hcv':=fun ob=>hcv.carry ((hba ob).block zb (xU HP zb hpz))
             obtain ⟨v0,v1,v2⟩:=vc
             obtain ⟨f0,-,⟨ac,capc,f1,-⟩,ad,capd,f2,-⟩:=hrv.open
             simp only at f0 f1 f2
             subst f0 f1 f2
             have u0:=fun ob=>(hcv' ob).1;have u1:=fun ob=>(hcv' ob).2.1;have u2:=fun ob=>(hcv' ob).2.2
             simp only at u0 u1 u2
             clear hcv'
             have hcall:∀ ob,Calls Tryz.prog 25 #[.agg #[.int .i64 k.kids[j].sort,.slice ac k.kids[j].names.length capc,.slice ad k.kids[j].kids.length capd],.agg #[.int .i64 t.kids[j].sort,.int .i64 t.kids[j].num,.string t.kids[j].text,.slice aa t.kids[j].names.length capa,.slice ab t.kids[j].kids.length capb]] (wr.alloc ob).drew fun e w6=>e=.returned (.bool (hT t.kids[j] (kidOf k j)))∧Below wr.heap.size wr w6:=fun ob=>by
              rw [kidOf_form ((xU HS).trans h5) hkj]
              exact (xU HI t.kids[j] hsm _ P Q ⟨_,_,_⟩ ⟨_,_,_,_,_⟩ (wr.alloc ob).drew (fun b hb=>Nat.lt_of_lt_of_le (xU HP b hb) (hba ob).drew.size) (fun b hb=>Nat.lt_of_lt_of_le (xU HQ b hb) (hba ob).drew.size) (KRep.carry (w':=(wr.alloc ob).drew) (fun b hb=>(hba ob).drew.block b (xU HP b hb)) (fun _ h=>h) _ _ hrv) (Rep.carry (w':=(wr.alloc ob).drew) (fun b hb=>(hba ob).drew.block b (xU HQ b hb)) (fun _ h=>h) _ _ hrm) (okDs_get (xU HOK).2 j hkj) (okHs_get (xU HOT).2 j hlt)).mono
               fun e w' ⟨h1,h2⟩=>⟨h1,(((Below.refl wr.heap.size wr).alloc (Nat.le_refl _) ob).drew).trans (h2.mono (((Below.refl wr.heap.size wr).alloc (Nat.le_refl _) ob).drew).size)⟩
             have hst:=hK_step hlt k
             cases hv:hT t.kids[j] (kidOf k j)
             · rw [hv] at hcall hst
               have HF:=xH ((xU HH2).trans hst)
               have HCALL:=xH hcall
               clear hcz hcm hbw q0 q1 hcv hrv hrm hrz hba hcall hst hv hpz hpm hpv hsm h5
               go_wp2_with fail
               go_region_with (go_at_call 25;refine (xU HCALL _).mono ?_;rintro e w6 ⟨rfl,hb6⟩)
               all_goals
                go_wp2_with fail
                go_ret
                exact ⟨by rw [xU HF];rfl,(xU HBW2).trans (hb6.mono (xU HBW2).size)⟩
             · rw [hv] at hcall hst
               have HF:Hid (hT t k=hK (t.kids.drop (j+1)) k (j+1)):=by
                show _=_
                rw [xU HH2,hst,Bool.true_and]
               have HCALL:=xH hcall
               clear hcz hcm hbw q0 q1 hcv hrv hrm hrz hba hcall hst hv hpz hpm hpv hsm h5
               go_wp2_with fail
               go_region_with (go_at_call 25;refine (xU HCALL _).mono ?_;rintro e w6 ⟨rfl,hb6⟩)
               all_goals
                have hb7:Below W0.heap.size W0 w6:=HB.out.trans (hb6.mono HB.out.size)
                go_wp2_with fail
                go_roundw
                case rel=>exact ⟨j+1,by omega,by go_num,xU HF,hb7⟩
                case measure=>simp [intOf];omega
           · have hcall:∀ ob,Calls Tryz.prog 25 #[.agg #[.int .i64 k.kids[0].sort,.slice a9 k.kids[0].names.length cap9,.slice b9 k.kids[0].kids.length cbp9],.agg #[.int .i64 t.kids[j].sort,.int .i64 t.kids[j].num,.string t.kids[j].text,.slice aa t.kids[j].names.length capa,.slice ab t.kids[j].kids.length capb]] (wr.alloc ob).drew fun e w6=>e=.returned (.bool (hT t.kids[j] (kidOf k j)))∧Below wr.heap.size wr w6:=fun ob=>by
              rw [kidOf_else (fun h=>h5 ((xU HS).symm.trans h)) j hk0]
              exact (xU HI t.kids[j] hsm _ P Q ⟨_,_,_⟩ ⟨_,_,_,_,_⟩ (wr.alloc ob).drew (fun b hb=>Nat.lt_of_lt_of_le (xU HP b hb) (hba ob).drew.size) (fun b hb=>Nat.lt_of_lt_of_le (xU HQ b hb) (hba ob).drew.size) (KRep.carry (w':=(wr.alloc ob).drew) (fun b hb=>(hba ob).drew.block b (xU HP b hb)) (fun _ h=>h) _ _ hrz) (Rep.carry (w':=(wr.alloc ob).drew) (fun b hb=>(hba ob).drew.block b (xU HQ b hb)) (fun _ h=>h) _ _ hrm) (okDs_get (xU HOK).2 0 hk0) (okHs_get (xU HOT).2 j hlt)).mono
               fun e w' ⟨h1,h2⟩=>⟨h1,(((Below.refl wr.heap.size wr).alloc (Nat.le_refl _) ob).drew).trans (h2.mono (((Below.refl wr.heap.size wr).alloc (Nat.le_refl _) ob).drew).size)⟩
             have hst:=hK_step hlt k
             cases hv:hT t.kids[j] (kidOf k j)
             · rw [hv] at hcall hst
               have HF:=xH ((xU HH2).trans hst)
               have HCALL:=xH hcall
               clear hcz hcm hbw q0 q1 hrm hrz hba hcall hst hv hpz hpm hsm
               go_wp2_with fail
               go_region_with (go_at_call 25;refine (xU HCALL _).mono ?_;rintro e w6 ⟨rfl,hb6⟩)
               all_goals
                go_wp2_with fail
                go_ret
                exact ⟨by rw [xU HF];rfl,(xU HBW2).trans (hb6.mono (xU HBW2).size)⟩
             · rw [hv] at hcall hst
               have HF:Hid (hT t k=hK (t.kids.drop (j+1)) k (j+1)):=by
                show _=_
                rw [xU HH2,hst,Bool.true_and]
               have HCALL:=xH hcall
               clear hcz hcm hbw q0 q1 hrm hrz hba hcall hst hv hpz hpm hsm
               go_wp2_with fail
               go_region_with (go_at_call 25;refine (xU HCALL _).mono ?_;rintro e w6 ⟨rfl,hb6⟩)
               all_goals
                have hb7:Below W0.heap.size W0 w6:=HB.out.trans (hb6.mono HB.out.size)
                go_wp2_with fail
                go_roundw
                case rel=>exact ⟨j+1,by omega,by go_num,xU HF,hb7⟩
                case measure=>simp [intOf];omega
         · obtain rfl:j=t.kids.length:=by omega
           have hf:hT t k=true:=by rw [xU HH2,hK_done]
           have HF:=xH hf
           clear q0 q1 hf
           go_wp2_with fail
           go_ret
           exact ⟨by rw [xU HF];rfl,hbw⟩
   · have hf:hT t k=false:=by
      rw [hT_eq]
      have:k.names≠t.names:=fun e=>hnl (by rw [e])
      simp [this]
     rw [hf]
     have HB0:=xH hbl0
     clear hP hQ IH hks hks2 hnc hnc2 hok hot hrep hrep2 hbl0 hf
     go_enter Tryz.func25,Tryz.ntmps25
     go_wp2_with fail
     go_ret
     exact ⟨rfl,xU HB0 _ _⟩
 · have hf:hT t k=false:=by rw [hT_eq];simp [hs]
   rw [hf]
   have HB0:=xH hbl0
   clear hP hQ IH hks hks2 hnc hnc2 hok hot hrep hrep2 hbl0 hf
   go_enter Tryz.func25,Tryz.ntmps25
   go_wp2_with fail
   go_ret
   exact ⟨rfl,xU HB0 _ _⟩
theorem l2Has_all:∀ n,HasSaid n
 | 0=>fun t h=>by omega
 | n+1=>l2Has_step n (l2Has_all n)

theorem l1TextOk_any (s:ByteArray) (w:World) (hs:s.size≤9223372036854775807) :
 Calls Tryz.prog 91 #[.string s] w fun e w'=>e=.returned (.bool (textOkB s))∧w'=w:=by
 by_cases h60:60 < s.size
 · go_enter Tryz.func91,Tryz.ntmps91
   go_wp2_with fail
   go_ret
   exact ⟨by simp [textOkB];omega,rfl⟩
 · go_enter Tryz.func91,Tryz.ntmps91
   go_wp2_with fail
   go_loop [3] (fun i=>∃ k:Nat,k≤s.size∧i=.int .i64 k∧Hid (allTo textByte s k)) (fun i=>s.size - (intOf i).toNat)
   case atStart=>exact ⟨0,Nat.zero_le _,rfl,fun j hj=>by omega⟩
   case round =>
    obtain ⟨k,hk,rfl,HA⟩:=hrel
    by_cases hlt:k < s.size
    · have hc:s[k].toNat < 32∨126 < s[k].toNat∨s[k].toNat=34∨(32≤s[k].toNat∧s[k].toNat≤126∧s[k].toNat≠34):=by omega
      rcases hc with hc | hc | hc | hc
      · go_wp2_with fail
        go_ret
        exact ⟨ret_bool (textOk_not hlt (textByte_no (Or.inl hc))).symm,rfl⟩
      · go_wp2_with fail
        go_ret
        exact ⟨ret_bool (textOk_not hlt (textByte_no (Or.inr (Or.inl hc)))).symm,rfl⟩
      · have HC:=xH (textOk_not hlt (textByte_no (Or.inr (Or.inr hc))))
        go_wp2_with fail
        go_ret
        exact ⟨ret_bool (xU HC).symm,rfl⟩
      · have HN:=xH (allTo_succ HA.out hlt (textByte_yes hc))
        obtain ⟨hc1,hc2,hc3⟩:=hc
        have hb34:((s[k].toNat:Int)==34)=false:=by simp;omega
        go_wp2_with fail
        go_round
        case rel=>exact ⟨k+1,by omega,by go_num,HN⟩
        case measure=>simp [intOf];omega
    · go_wp2_with fail
      go_ret
      obtain rfl:k=s.size:=by omega
      exact ⟨ret_bool (textOk_yes (by omega) HA.out).symm,rfl⟩

theorem l1Alone_1 (t:Tr) (P:Nat→Prop) (c:C5) (w:World) (hP:∀ b,P b→b < w.heap.size) (hrep:Rep P w t c) (hs:t.sort=1) :
 Calls Tryz.prog 67 #[.agg #[c.c0,c.c1,c.c2,c.c3,c.c4]] w fun e w'=>e=.returned (.bool (aloneB t))∧Below w.heap.size w w':=by
 obtain ⟨c0,c1,c2,c3,c4⟩:=c
 obtain ⟨e0,e1,e2,-,-,htx,hns,a,cap,e4,hlen,-⟩:=hrep.open
 simp only at e0 e1 e2 e4 hns
 have HN:=xH hns
 obtain ⟨a3,cap3,e3,hl3,-⟩:=hns
 subst e0 e1 e2 e3 e4
 clear hrep
 have HP:=xH hP;clear hP
 have hbx:∀ o,Below w.heap.size w (w.alloc o):=fun o=>(Below.refl _ _).alloc (Nat.le_refl _) o
 have HBX:=xH hbx;clear hbx
 go_enter Tryz.func67,Tryz.ntmps67
 go_wp2_with (first
  | (go_at_call 45;refine (l6In_any _ _ _ _).mono ?_;rintro e w' ⟨rfl,rfl⟩)
  | (go_at_call 91;refine (l1TextOk_any _ _ htx).mono ?_;rintro e w' ⟨rfl,rfl⟩))
 all_goals
  go_ret
  refine ⟨ret_bool ?_,xU HBX _⟩
  try simp_all [aloneB]
 all_goals first | (rw [Bool.eq_iff_iff];simp;done) | (intros;omega)
theorem l1Alone_2 (t:Tr) (P:Nat→Prop) (c:C5) (w:World) (hP:∀ b,P b→b < w.heap.size) (hrep:Rep P w t c) (hs:t.sort=2) :
 Calls Tryz.prog 67 #[.agg #[c.c0,c.c1,c.c2,c.c3,c.c4]] w fun e w'=>e=.returned (.bool (aloneB t))∧Below w.heap.size w w':=by
 obtain ⟨c0,c1,c2,c3,c4⟩:=c
 obtain ⟨e0,e1,e2,-,-,htx,hns,a,cap,e4,hlen,-⟩:=hrep.open
 simp only at e0 e1 e2 e4 hns
 have HN:=xH hns
 obtain ⟨a3,cap3,e3,hl3,-⟩:=hns
 subst e0 e1 e2 e3 e4
 clear hrep
 have HP:=xH hP;clear hP
 have hbx:∀ o,Below w.heap.size w (w.alloc o):=fun o=>(Below.refl _ _).alloc (Nat.le_refl _) o
 have HBX:=xH hbx;clear hbx
 go_enter Tryz.func67,Tryz.ntmps67
 go_wp2_with (first
  | (go_at_call 45;refine (l6In_any _ _ _ _).mono ?_;rintro e w' ⟨rfl,rfl⟩)
  | (go_at_call 91;refine (l1TextOk_any _ _ htx).mono ?_;rintro e w' ⟨rfl,rfl⟩))
 all_goals
  go_ret
  refine ⟨ret_bool ?_,xU HBX _⟩
  try simp_all [aloneB]
 all_goals first | (rw [Bool.eq_iff_iff];simp;done) | (intros;omega)
theorem l1Alone_3 (t:Tr) (P:Nat→Prop) (c:C5) (w:World) (hP:∀ b,P b→b < w.heap.size) (hrep:Rep P w t c) (hs:t.sort=3) :
 Calls Tryz.prog 67 #[.agg #[c.c0,c.c1,c.c2,c.c3,c.c4]] w fun e w'=>e=.returned (.bool (aloneB t))∧Below w.heap.size w w':=by
 obtain ⟨c0,c1,c2,c3,c4⟩:=c
 obtain ⟨e0,e1,e2,-,-,htx,hns,a,cap,e4,hlen,-⟩:=hrep.open
 simp only at e0 e1 e2 e4 hns
 have HN:=xH hns
 obtain ⟨a3,cap3,e3,hl3,-⟩:=hns
 subst e0 e1 e2 e3 e4
 clear hrep
 have HP:=xH hP;clear hP
 have hbx:∀ o,Below w.heap.size w (w.alloc o):=fun o=>(Below.refl _ _).alloc (Nat.le_refl _) o
 have HBX:=xH hbx;clear hbx
 go_enter Tryz.func67,Tryz.ntmps67
 go_wp2_with (first
  | (go_at_call 45;refine (l6In_any _ _ _ _).mono ?_;rintro e w' ⟨rfl,rfl⟩)
  | (go_at_call 91;refine (l1TextOk_any _ _ htx).mono ?_;rintro e w' ⟨rfl,rfl⟩))
 all_goals
  go_ret
  refine ⟨ret_bool ?_,xU HBX _⟩
  try simp_all [aloneB]
 all_goals first | (rw [Bool.eq_iff_iff];simp;done) | (intros;omega)
theorem l1Alone_4 (t:Tr) (P:Nat→Prop) (c:C5) (w:World) (hP:∀ b,P b→b < w.heap.size) (hrep:Rep P w t c) (hs:t.sort=4) :
 Calls Tryz.prog 67 #[.agg #[c.c0,c.c1,c.c2,c.c3,c.c4]] w fun e w'=>e=.returned (.bool (aloneB t))∧Below w.heap.size w w':=by
 obtain ⟨c0,c1,c2,c3,c4⟩:=c
 obtain ⟨e0,e1,e2,-,-,htx,hns,a,cap,e4,hlen,-⟩:=hrep.open
 simp only at e0 e1 e2 e4 hns
 have HN:=xH hns
 obtain ⟨a3,cap3,e3,hl3,-⟩:=hns
 subst e0 e1 e2 e3 e4
 clear hrep
 have HP:=xH hP;clear hP
 have hbx:∀ o,Below w.heap.size w (w.alloc o):=fun o=>(Below.refl _ _).alloc (Nat.le_refl _) o
 have HBX:=xH hbx;clear hbx
 go_enter Tryz.func67,Tryz.ntmps67
 go_wp2_with (first
  | (go_at_call 45;refine (l6In_any _ _ _ _).mono ?_;rintro e w' ⟨rfl,rfl⟩)
  | (go_at_call 91;refine (l1TextOk_any _ _ htx).mono ?_;rintro e w' ⟨rfl,rfl⟩))
 all_goals
  go_ret
  refine ⟨ret_bool ?_,xU HBX _⟩
  try simp_all [aloneB]
 all_goals first | (rw [Bool.eq_iff_iff];simp;done) | (intros;omega)
theorem l1Alone_6 (t:Tr) (P:Nat→Prop) (c:C5) (w:World) (hP:∀ b,P b→b < w.heap.size) (hrep:Rep P w t c) (hs:t.sort=6) :
 Calls Tryz.prog 67 #[.agg #[c.c0,c.c1,c.c2,c.c3,c.c4]] w fun e w'=>e=.returned (.bool (aloneB t))∧Below w.heap.size w w':=by
 obtain ⟨c0,c1,c2,c3,c4⟩:=c
 obtain ⟨e0,e1,e2,-,-,htx,hns,a,cap,e4,hlen,-⟩:=hrep.open
 simp only at e0 e1 e2 e4 hns
 have HN:=xH hns
 obtain ⟨a3,cap3,e3,hl3,-⟩:=hns
 subst e0 e1 e2 e3 e4
 clear hrep
 have HP:=xH hP;clear hP
 have hbx:∀ o,Below w.heap.size w (w.alloc o):=fun o=>(Below.refl _ _).alloc (Nat.le_refl _) o
 have HBX:=xH hbx;clear hbx
 go_enter Tryz.func67,Tryz.ntmps67
 go_wp2_with (first
  | (go_at_call 45;refine (l6In_any _ _ _ _).mono ?_;rintro e w' ⟨rfl,rfl⟩)
  | (go_at_call 91;refine (l1TextOk_any _ _ htx).mono ?_;rintro e w' ⟨rfl,rfl⟩))
 all_goals
  go_ret
  refine ⟨ret_bool ?_,xU HBX _⟩
  try simp_all [aloneB]
 all_goals first | (rw [Bool.eq_iff_iff];simp;done) | (intros;omega)
theorem l1Alone_0 (t:Tr) (P:Nat→Prop) (c:C5) (w:World) (hP:∀ b,P b→b < w.heap.size) (hrep:Rep P w t c) (h1:t.sort≠1) (h2:t.sort≠2) (h3:t.sort≠3) (h4:t.sort≠4) (h5:t.sort≠5) (h6:t.sort≠6) :
 Calls Tryz.prog 67 #[.agg #[c.c0,c.c1,c.c2,c.c3,c.c4]] w fun e w'=>e=.returned (.bool (aloneB t))∧Below w.heap.size w w':=by
 obtain ⟨c0,c1,c2,c3,c4⟩:=c
 obtain ⟨e0,e1,e2,-,-,htx,hns,a,cap,e4,hlen,-⟩:=hrep.open
 simp only at e0 e1 e2 e4 hns
 have HN:=xH hns
 obtain ⟨a3,cap3,e3,hl3,-⟩:=hns
 subst e0 e1 e2 e3 e4
 clear hrep
 have HP:=xH hP;clear hP
 have hbx:∀ o,Below w.heap.size w (w.alloc o):=fun o=>(Below.refl _ _).alloc (Nat.le_refl _) o
 have HBX:=xH hbx;clear hbx
 go_enter Tryz.func67,Tryz.ntmps67
 go_wp2_with (first
  | (go_at_call 45;refine (l6In_any _ _ _ _).mono ?_;rintro e w' ⟨rfl,rfl⟩)
  | (go_at_call 91;refine (l1TextOk_any _ _ htx).mono ?_;rintro e w' ⟨rfl,rfl⟩))
 all_goals
  go_ret
  refine ⟨ret_bool ?_,xU HBX _⟩
  try simp_all [aloneB]
 all_goals first | (rw [Bool.eq_iff_iff];simp;done) | (intros;omega)
theorem l1Alone_5 (t:Tr) (P:Nat→Prop) (c:C5) (w:World) (hP:∀ b,P b→b < w.heap.size) (hrep:Rep P w t c) (hs:t.sort=5) :
 Calls Tryz.prog 67 #[.agg #[c.c0,c.c1,c.c2,c.c3,c.c4]] w fun e w'=>e=.returned (.bool (aloneB t))∧Below w.heap.size w w':=by
 obtain ⟨c0,c1,c2,c3,c4⟩:=c
 obtain ⟨e0,e1,e2,-,-,htx,hns,a,cap,e4,hlen,-⟩:=hrep.open
 simp only at e0 e1 e2 e4 hns
 have HN:=xH hns
 obtain ⟨a3,cap3,e3,hl3,-⟩:=hns
 subst e0 e1 e2 e3 e4
 clear hrep
 have HP:=xH hP;clear hP
 have hbx:∀ o,Below w.heap.size w (w.alloc o):=fun o=>(Below.refl _ _).alloc (Nat.le_refl _) o
 have HBX:=xH hbx;clear hbx
 have hcall:∀ o,Calls Tryz.prog 46 #[.slice a3 t.names.length cap3] (w.alloc o) fun e w'=>e=.returned (.bool (riseB t.names))∧Below w.heap.size w w':=fun o =>
  (l1Rise_any _ t.names (w.alloc o) (P:=P) (fun b hb=>Nat.lt_of_lt_of_le (xU HP b hb) (xU HBX o).size) ((xU HN).carry (fun b hb=>(xU HBX o).block b (xU HP b hb)) (fun _ h=>h))).mono
    fun e w' ⟨h1,h2⟩=>⟨h1,(xU HBX o).trans (h2.mono (xU HBX o).size)⟩
 have HC:=xH hcall;clear hcall
 go_enter Tryz.func67,Tryz.ntmps67
 go_wp2_with (go_at_call 46;refine (xU HC _).mono ?_;rintro e w' ⟨rfl,hb'⟩)
 all_goals
  go_ret
  refine ⟨ret_bool ?_,by first | assumption | exact xU HBX _⟩
  try simp_all [aloneB]
 all_goals first | (rw [Bool.eq_iff_iff];simp;done) | (intros;omega)
theorem l1Alone_any (t:Tr) (P:Nat→Prop) (c:C5) (w:World) (hP:∀ b,P b→b < w.heap.size) (hrep:Rep P w t c) :
 Calls Tryz.prog 67 #[.agg #[c.c0,c.c1,c.c2,c.c3,c.c4]] w fun e w'=>e=.returned (.bool (aloneB t))∧Below w.heap.size w w':=by
 by_cases h1:t.sort=1
 · exact l1Alone_1 t P c w hP hrep h1
 by_cases h2:t.sort=2
 · exact l1Alone_2 t P c w hP hrep h2
 by_cases h3:t.sort=3
 · exact l1Alone_3 t P c w hP hrep h3
 by_cases h4:t.sort=4
 · exact l1Alone_4 t P c w hP hrep h4
 by_cases h5:t.sort=5
 · exact l1Alone_5 t P c w hP hrep h5
 by_cases h6:t.sort=6
 · exact l1Alone_6 t P c w hP hrep h6
 exact l1Alone_0 t P c w hP hrep h1 h2 h3 h4 h5 h6

def PartsSaid (n:Nat):Prop:=∀ (t:Tr),tsz t < n→∀ (P:Nat→Prop) (c:C5) (d:Int) (w:World),(∀ b,P b→b < w.heap.size)→Rep P w t c→1≤d→d≤7 →
    Calls Tryz.prog 44 #[.agg #[c.c0,c.c1,c.c2,c.c3,c.c4],.int .i64 d] w fun e w'=>e=.returned (.int .i64 (pT t d))∧Below w.heap.size w w'
theorem l1Parts_step (n:Nat) (IH:PartsSaid n):PartsSaid (n+1):=by
 intro t hn P c d w hP hrep hd0 hd1
 have HREP:=xH hrep
 have HEQ:=xH (pT_eq t d)
 obtain ⟨c0,c1,c2,c3,c4⟩:=c
 obtain ⟨e0,e1,e2,-,-,-,⟨a3,cap3,e3,-,-⟩,a,cap,e4,hlen,hks⟩:=hrep.open
 simp only at e0 e1 e2 e3 e4
 subst e0 e1 e2 e3 e4
 have HP:=xH hP;have HI:=xH IH;have HK:=xH hks
 clear hrep hP IH hks
 have hbx:∀ o,Below w.heap.size w (w.alloc o):=fun o=>(Below.refl _ _).alloc (Nat.le_refl _) o
 have HBX:=xH hbx;clear hbx
 by_cases h6:6 < d
 · go_enter Tryz.func44,Tryz.ntmps44
   go_wp2_with fail
   go_ret
   refine ⟨?_,xU HBX _⟩
   rw [xU HEQ,if_pos (Or.inl h6)]
   rfl
 · have hal:∀ o,Calls Tryz.prog 67 #[.agg #[.int .i64 t.sort,.int .i64 t.num,.string t.text,.slice a3 t.names.length cap3,.slice a t.kids.length cap]] (w.alloc o) fun e w'=>e=.returned (.bool (aloneB t))∧Below (w.alloc o).heap.size (w.alloc o) w':=fun o =>
    l1Alone_any t P ⟨_,_,_,_,_⟩ (w.alloc o) (fun b hb=>Nat.lt_of_lt_of_le (xU HP b hb) (xU HBX o).size) (Rep.carry (fun b hb=>(xU HBX o).block b (xU HP b hb)) (fun _ h=>h) _ _ (xU HREP))
   have HAL:=xH hal;clear hal
   by_cases ha:aloneB t=true
   · go_enter Tryz.func44,Tryz.ntmps44
     go_wp2_with (go_at_call 67;refine (xU HAL _).mono ?_;rintro e w' ⟨rfl,hb'⟩)
     obtain ⟨q0,-,hb0⟩:=box1 hb'
     have hpk:pT t d=pK t.kids d 1:=by rw [xU HEQ,if_neg (by simp [ha];omega)]
     have HPK:=xH hpk
     clear hb' hpk HEQ HAL
     generalize hks:t.kids=ks at *
     have HKS:=xH hks;clear hks
     go_loopw [5,6] (fun m i wr=>∃ (k:Nat) (q:Int),k≤ks.length∧i=.int .i64 k∧m=.int .i64 q∧1≤q∧q≤120∧Hid (pK (ks.drop k) d q=pK ks d 1)∧wr.cell? ⟨w.heap.size,4,none⟩=some (.slice a ks.length cap)∧w.heap.size < wr.heap.size∧Below w.heap.size w wr) (fun _ i _=>ks.length - (intOf i).toNat)
     case atStart=>exact ⟨0,1,Nat.zero_le _,rfl,rfl,by omega,by omega,rfl,q0.cell (i:=4) (by omega),q0.lt,hb0⟩
     case round =>
      obtain ⟨k,q,hk,rfl,rfl,hq0,hq1,HQ,hbox,hbs,hb⟩:=hrel
      by_cases hlt:k < ks.length
      · obtain ⟨b,o,c,rfl,hpb,hcell,hrep⟩:=xU HK k hlt
        have hcell':=hcell.carry (hb.block b (xU HP b hpb))
        obtain ⟨c0,c1,c2,c3,c4⟩:=c
        obtain ⟨e0,e1,e2,e3,e4⟩:=hcell'
        simp only at e0 e1 e2 e3 e4
        have hmem:ks[k]∈t.kids:=by rw [xU HKS];exact List.getElem_mem hlt
        have hsm:tsz ks[k] < n:=by have:=tsz_kid hmem;omega
        have hcall:=xU HI ks[k] hsm P ⟨c0,c1,c2,c3,c4⟩ (d+1) wr (fun b hb'=>Nat.lt_of_lt_of_le (xU HP b hb') hb.size) (Rep.carry (fun b hb'=>hb.block b (xU HP b hb')) (fun _ h=>h) _ _ hrep) (by omega) (by omega)
        have hst:=pK_step hlt d q
        have hbd:=pT_bd ks[k] (d+1)
        generalize pT ks[k] (d+1)=r at hcall hst hbd
        have HCALL:=xH hcall;have HST:=xH hst
        clear hrep hcell hpb hmem hcall hst
        by_cases hbad:r < 0∨120 < q+r
        · have hfin:pT t d=-1:=by rw [xU HPK,← HQ.out,xU HST,if_pos hbad]
          have HFIN:=xH hfin;clear hfin
          rcases hbad with hbad | hbad
          · go_wp2_with (go_at_call 44;refine (xU HCALL).mono ?_;rintro e w2 ⟨rfl,hb2⟩)
            go_ret
            exact ⟨by rw [xU HFIN];rfl,hb.trans (hb2.mono hb.size)⟩
          · have hr0:0≤r:=by omega
            go_wp2_with (go_at_call 44;refine (xU HCALL).mono ?_;rintro e w2 ⟨rfl,hb2⟩)
            go_ret
            exact ⟨by rw [xU HFIN];rfl,hb.trans (hb2.mono hb.size)⟩
        · have hr0:0≤r:=by omega
          have hr1:q+r≤120:=by omega
          have hfin:pK (ks.drop (k+1)) d (q+r)=pK ks d 1:=by rw [← HQ.out,xU HST,if_neg hbad]
          have HFIN:=xH hfin
          clear hfin hbad
          go_wp2_with (go_at_call 44;refine (xU HCALL).mono ?_;rintro e w2 ⟨rfl,hb2⟩)
          go_roundw
          case rel=>exact ⟨k+1,_,by omega,by go_num,rfl,by omega,by omega,xU HFIN,by rw [hb2.cell hbs];exact hbox,Nat.lt_of_lt_of_le hbs hb2.size,hb.trans (hb2.mono hb.size)⟩
          case measure=>simp [intOf];omega
      · go_wp2_with fail
        go_ret
        refine ⟨?_,hb⟩
        rw [xU HPK,← HQ.out,List.drop_of_length_le (by omega),pK]
        rfl
   · have ha':aloneB t=false:=by simpa using ha
     clear ha
     go_enter Tryz.func44,Tryz.ntmps44
     go_wp2_with (go_at_call 67;refine (xU HAL _).mono ?_;rintro e w' ⟨rfl,hb'⟩)
     go_ret
     refine ⟨?_,(box1 hb').2.2⟩
     rw [xU HEQ,if_pos (Or.inr ha')]
     rfl
theorem l1Parts_all:∀ n,PartsSaid n
 | 0=>fun t h=>by omega
 | n+1=>l1Parts_step n (l1Parts_all n)
theorem specTreeOk_any (t:Tr) (P:Nat→Prop) (c:C5) (w:World) (hP:∀ b,P b→b < w.heap.size) (hrep:Rep P w t c) :
 Calls Tryz.prog 24 #[.agg #[c.c0,c.c1,c.c2,c.c3,c.c4]] w fun e w'=>e=.returned (.bool (decide (0 < pT t 1)))∧Below w.heap.size w w':=by
 have hbx:∀ o,Below w.heap.size w (w.alloc o):=fun o=>(Below.refl _ _).alloc (Nat.le_refl _) o
 have hcall:∀ o,Calls Tryz.prog 44 #[.agg #[c.c0,c.c1,c.c2,c.c3,c.c4],.int .i64 1] (w.alloc o) fun e w'=>e=.returned (.int .i64 (pT t 1))∧Below w.heap.size w w':=fun o =>
  (l1Parts_all (tsz t+1) t (by omega) P c 1 (w.alloc o) (fun b hb=>Nat.lt_of_lt_of_le (hP b hb) (hbx o).size) (Rep.carry (fun b hb=>(hbx o).block b (hP b hb)) (fun _ h=>h) _ _ hrep) (by omega) (by omega)).mono
    fun e w' ⟨h1,h2⟩=>⟨h1,(hbx o).trans (h2.mono (hbx o).size)⟩
 generalize pT t 1=r at *
 have HCALL:=xH hcall
 clear hbx hcall hP hrep
 go_enter Tryz.func24,Tryz.ntmps24
 go_wp2_with (go_at_call 44;refine (xU HCALL _).mono ?_;rintro e w2 ⟨rfl,hb2⟩)
 go_ret
 exact ⟨rfl,hb2⟩
end Go.Proofs.YteefjeddboefcaaGreatDoor
