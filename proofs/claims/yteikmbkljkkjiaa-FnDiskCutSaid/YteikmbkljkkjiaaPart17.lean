/- A part. -/
import Derived.Test.YteikmbkljkkjiaaPart10
namespace Go.Proofs.Yteikmbkljkkjiaa
open Go Go.RowKit
set_option maxRecDepth 100000
set_option maxHeartbeats 6400000
theorem specDiskDo_any (d:Dk) (k:Int) (x y:ByteArray) (P:Nat→Prop) (c:C3) (w:World) (hP:∀ b,P b→b < w.heap.size) (hd:DkAt P w d c) (hx:x.size≤1048576) :
 Calls Try.prog 7 #[.agg #[c.c0,c.c1,c.c2],.agg #[.int .i64 k,.string x,.string y]] w fun e w'=>DoEnd w w' e (doD d k x y).1 (doD d k x y).2:=by
 obtain ⟨c0,c1,c2⟩:=c
 have HFO:=xH hd.fs.2;have HMO:=xH hd.ms.2
 have HNO:=xH (show ∀ z,z∈d.names→z.size≤9223372036854775807 from fun z hz=>by
  obtain ⟨a9,c9,-,-,h9⟩:=hd.ns
  obtain ⟨i,hi,rfl⟩:=List.getElem_of_mem hz
  obtain ⟨_,_,_,_,_,h⟩:=h9 i hi
  exact h)
 have HG0:=xH (Dg.start hd hP k x y)
 obtain ⟨a0,p0,g0,hl0,-⟩:=hd.fs.open
 obtain ⟨a1,p1,g1,hl1,-⟩:=id hd.ns
 obtain ⟨a2,p2,g2,hl2,-⟩:=hd.ms.open
 simp only at g0 g1 g2
 subst g0 g1 g2
 clear hd hP
 go_enter Try.func7,Try.ntmps7
 go_upto_region 1 with fail
 generalize ((w.alloc _).alloc _).alloc _=W0 at HG0 ⊢
 have HOK:=xH (specDiskOk_any d P ⟨.slice a0 d.files.length p0,.slice a1 d.names.length p1,.slice a2 d.moves.length p2⟩ W0 (xU HG0).pl (xU HG0).dk)
 obtain ⟨k0,k1,k2⟩:=cs3 ((xU HG0).b0) (by omega);have m0:=(xU HG0).b1.cell (i:=0) (by omega);have m1:=(xU HG0).b1.cell (i:=1) (by omega);have m2:=(xU HG0).b1.cell (i:=2) (by omega)
 simp only [row3] at k0 k1 k2 m0 m1 m2
 go_wp2_with fail
 refine (xU HOK).mono ?_
 rintro e w1 ⟨⟨r,rfl,hr⟩,hb1⟩
 have HG1:=xH ((xU HG0).on hb1)
 clear hb1 HG0 HOK k0 k1 k2 m0 m1 m2
 cases r with
 | false =>
   have HNO2:=xH (show ¬ DkOkS d from fun h=>by have:=hr.2 h;cases this)
   obtain ⟨y0,y1,y2⟩:=cs3 ((xU HG1).b2) (by omega);have yz:=(xU HG1).b2.frozen
   simp only [row3] at y0 y1 y2
   clear hr
   go_wp2_with fail
   try simp only [Exit.inBlock,Exit.then]
   refine bodyPost_ret (v:=.tuple #[.agg #[.slice none 0 0,.slice none 0 0,.slice none 0 0],.int .i64 1]) (by simp [results,Try.results7,go_sem,y0,y1,y2]) rfl ?_
   rw [doD_bad (xU HNO2)]
   exact ⟨⟨_,_,_⟩,rfl,(DkOwn.none _).at.carry (fun _ _=>rfl) (fun b hb=>(by cases hb)),(((xU HG1).bel.setCell (by simp;omega) _).setCell (by simp;omega) _).setCell (by simp;omega) _⟩
 | true =>
   have hok:=hr.1 rfl
   have HY:=xH hok
   have HCP:=xH (l41Copy_any d P ⟨.slice a0 d.files.length p0,.slice a1 d.names.length p1,.slice a2 d.moves.length p2⟩ w1 (xU HG1).pl (xU HG1).dk (by have:=hok.l1;omega) (by have:=hok.l2;omega) (by have:=hok.l3;omega))
   obtain ⟨k0,k1,k2⟩:=cs3 ((xU HG1).b0) (by omega);have m0:=(xU HG1).b1.cell (i:=0) (by omega);have m1:=(xU HG1).b1.cell (i:=1) (by omega);have m2:=(xU HG1).b1.cell (i:=2) (by omega)
   simp only [row3] at k0 k1 k2 m0 m1 m2
   clear hr hok
   go_wp2_with fail
   refine (xU HCP).mono ?_
   rintro e w3 ⟨⟨x0,x1,x2⟩,rfl,o0,o1,o2,hb3⟩
   simp only at o0 o1 o2
   obtain ⟨t0,s0,rfl⟩:=own_slice o0
   obtain ⟨t1,s1,rfl⟩:=own_slice o1
   obtain ⟨t2,s2,rfl⟩:=own_slice o2
   have HZ:=xH (show Dz P w d ⟨.slice a0 d.files.length p0,.slice a1 d.names.length p1,.slice a2 d.moves.length p2⟩ k x y w1.heap.size w3.heap.size ⟨.slice t0 d.files.length s0,.slice t1 d.names.length s1,.slice t2 d.moves.length s2⟩ d (w3.alloc (.cells #[.slice t0 d.files.length s0,.slice t1 d.names.length s1,.slice t2 d.moves.length s2] 27)) from ⟨((xU HG1).on hb3).on ((Below.refl _ _).alloc (Nat.le_refl _) _),⟨row3_alloc w3 _ _ _ _,o0.alloc _,o1.alloc _,o2.alloc _⟩,(xU HG1).sz,Nat.le_trans (xU HG1).sz hb3.size⟩)
   have hs3:=hb3.size
   clear o0 o1 o2 hb3 HCP HG1 k0 k1 k2 m0 m1 m2
   go_upto_region 4 with fail
   have HSZ:=xH (show w1.heap.size≤(w3.alloc (.cells #[.slice t0 d.files.length s0,.slice t1 d.names.length s1,.slice t2 d.moves.length s2] 27)).heap.size from by rw [World.size_alloc];have:=hs3;omega)
   clear hs3
   generalize w3.alloc _=W4 at HZ HSZ ⊢
   obtain ⟨k0,k1,k2⟩:=cs3 ((xU HZ).g.b0) (by omega);have m0:=(xU HZ).g.b1.cell (i:=0) (by omega);have m1:=(xU HZ).g.b1.cell (i:=1) (by omega);have m2:=(xU HZ).g.b1.cell (i:=2) (by omega)
   simp only [row3] at k0 k1 k2 m0 m1 m2
   by_cases e1:k=1
   · subst e1
     have HNM:=xH (l6NameOk_any x W4 (by omega))
     have HFD:=xH (l41Find_any (.slice a0 d.files.length p0) d.files x W4 (xU HZ).g.dk.fs)
     go_wp2_with fail
     refine (xU HNM).mono ?_
     rintro e w5 ⟨rfl,h5⟩
     have h6:=h5.symm;subst h6;clear h5
     clear HNM
     cases hn:nameOkB x with
     | false =>
       obtain ⟨y0,y1,y2⟩:=cs3 ((xU HZ).g.b2) (by omega);have yz:=(xU HZ).g.b2.frozen
       simp only [row3] at y0 y1 y2
       obtain ⟨u0,u1,u2⟩:=cs3 ((xU HZ).mx.row) (by omega);have uz:=(xU HZ).mx.row.frozen
       simp only [row3] at u0 u1 u2
       clear HFD
       go_wp2_with fail
       try simp only [Exit.inBlock,Exit.then]
       refine bodyPost_ret (v:=.tuple #[.agg #[.slice t0 d.files.length s0,.slice t1 d.names.length s1,.slice t2 d.moves.length s2],.int .i64 3]) (by simp [results,Try.results7,go_sem,y0,y1,y2]) rfl ?_
       rw [doD_taken (xU HY) (Or.inl hn)]
       exact (xU HZ).fin (xU HFO) (xU HNO) (xU HMO) 3
     | true =>
       go_wp2_with fail
       refine (xU HFD).mono ?_
       rintro e w5 ⟨rfl,h5⟩
       have h6:=h5.symm;subst h6;clear h5
       clear HFD
       by_cases hf:0≤findF d.files x
       · have HF:=xH hf
         have q1:decide (0≤findF d.files x)=true:=decide_eq_true hf
         clear hf
         obtain ⟨y0,y1,y2⟩:=cs3 ((xU HZ).g.b2) (by omega);have yz:=(xU HZ).g.b2.frozen
         simp only [row3] at y0 y1 y2
         obtain ⟨u0,u1,u2⟩:=cs3 ((xU HZ).mx.row) (by omega);have uz:=(xU HZ).mx.row.frozen
         simp only [row3] at u0 u1 u2
         go_wp2_with fail
         try simp only [Exit.inBlock,Exit.then]
         refine bodyPost_ret (v:=.tuple #[.agg #[.slice t0 d.files.length s0,.slice t1 d.names.length s1,.slice t2 d.moves.length s2],.int .i64 3]) (by simp [results,Try.results7,go_sem,y0,y1,y2]) rfl ?_
         rw [doD_taken (xU HY) (Or.inr (xU HF))]
         exact (xU HZ).fin (xU HFO) (xU HNO) (xU HMO) 3
       · have HF:=xH (show ¬ (nameOkB x=false∨0≤findF d.files x) from not_or.2 ⟨by rw [hn];simp,hf⟩)
         have q1:decide (0≤findF d.files x)=false:=decide_eq_false hf
         clear hf
         by_cases h64:64≤d.files.length
         · have q2:decide ((64:Int)≤(d.files.length:Int))=true:=decide_eq_true (by omega)
           obtain ⟨y0,y1,y2⟩:=cs3 ((xU HZ).g.b2) (by omega);have yz:=(xU HZ).g.b2.frozen
           simp only [row3] at y0 y1 y2
           obtain ⟨u0,u1,u2⟩:=cs3 ((xU HZ).mx.row) (by omega);have uz:=(xU HZ).mx.row.frozen
           simp only [row3] at u0 u1 u2
           go_wp2_with fail
           try simp only [Exit.inBlock,Exit.then]
           refine bodyPost_ret (v:=.tuple #[.agg #[.slice t0 d.files.length s0,.slice t1 d.names.length s1,.slice t2 d.moves.length s2],.int .i64 4]) (by simp [results,Try.results7,go_sem,y0,y1,y2]) rfl ?_
           rw [doD_full (xU HY) (xU HF) (Or.inl h64)]
           exact (xU HZ).fin (xU HFO) (xU HNO) (xU HMO) 4
         · have q2:decide ((64:Int)≤(d.files.length:Int))=false:=decide_eq_false (by omega)
           by_cases h128:128≤d.moves.length
           · have q3:decide ((128:Int)≤(d.moves.length:Int))=true:=decide_eq_true (by omega)
             obtain ⟨y0,y1,y2⟩:=cs3 ((xU HZ).g.b2) (by omega);have yz:=(xU HZ).g.b2.frozen
             simp only [row3] at y0 y1 y2
             obtain ⟨u0,u1,u2⟩:=cs3 ((xU HZ).mx.row) (by omega);have uz:=(xU HZ).mx.row.frozen
             simp only [row3] at u0 u1 u2
             go_wp2_with fail
             try simp only [Exit.inBlock,Exit.then]
             refine bodyPost_ret (v:=.tuple #[.agg #[.slice t0 d.files.length s0,.slice t1 d.names.length s1,.slice t2 d.moves.length s2],.int .i64 4]) (by simp [results,Try.results7,go_sem,y0,y1,y2]) rfl ?_
             rw [doD_full (xU HY) (xU HF) (Or.inr h128)]
             exact (xU HZ).fin (xU HFO) (xU HNO) (xU HMO) 4
           · have q3:decide ((128:Int)≤(d.moves.length:Int))=false:=decide_eq_false (by omega)
             obtain ⟨u0,u1,u2⟩:=cs3 ((xU HZ).mx.row) (by omega);have uz:=(xU HZ).mx.row.frozen
             simp only [row3] at u0 u1 u2
             obtain ⟨i5,hi0,hi1,hi2,hi3⟩:=infoFileD
             have HII:=xH hi0;have HI1:=xH hi1;have HI2:=xH hi2;have HI3:=xH hi3
             clear hi0 hi1 hi2 hi3
             go_upto_region 10 with (at_builtin;(refine append_row _ rfl _ _ 23 rfl w1.heap.size 44 i5 (.agg #[.string ByteArray.empty,.string ByteArray.empty,.int .i64 0]) 3 40 Try.underlying23 (xU HII) (xU HI1) (xU HI2) (xU HI3) rfl (by decide) (.slice t0 d.files.length s0) d.files.length (d.files.map Df.cs).flatten rfl (World.ownsRow.alloc (xU HZ).mx.o0 _) ⟨W4.heap.size,0,none⟩ 1 1 [.string x,.string ByteArray.empty,.int .i64 0] rfl rfl (cell_3 W4 _ _ _ _) (fun u hu=>by simp at hu;rcases hu with rfl | rfl | rfl <;> rfl) (by decide) (by unfold maxLen;omega) (by omega) (by rw [World.size_alloc];have:=(xU HSZ);omega) ?_;intro v' w5 hown5 hgrow5 hat5;obtain ⟨g5,cap5,rfl,-,-⟩:=hown5.form (by omega);obtain ⟨r5,hz5⟩:=(xU HZ).appF ⟨x,ByteArray.empty,0⟩ hown5 hgrow5;have HZ5:=xH hz5;have HSZ2:=xH (show w1.heap.size≤w5.heap.size from by have:=(grown_alloc hgrow5).size;have:=xU HSZ;omega);have f0:=r5.cell (i:=0) (by omega);have fz:=r5.frozen 0;simp only [row3] at f0;clear hown5 hgrow5 hat5 hz5 r5 HZ HII HI1 HI2 HI3 u0 u1 u2 uz k0 k1 k2 m0 m1 m2))
             have HSZ3:=xH (show w1.heap.size≤(w5.setCell ⟨w3.heap.size,0,none⟩ (.slice (some ⟨g5,0,none⟩) (d.files.length+1) cap5)).heap.size from by rw [World.size_setCell];exact xU HSZ2)
             clear f0 fz HSZ HSZ2
             generalize w5.setCell ⟨w3.heap.size,0,none⟩ _=W5 at HZ5 HSZ3 ⊢
             have HSZ:=HSZ3
             clear HSZ3
             obtain ⟨k0,k1,k2⟩:=cs3 ((xU HZ5).g.b0) (by omega);have m0:=(xU HZ5).g.b1.cell (i:=0) (by omega);have m1:=(xU HZ5).g.b1.cell (i:=1) (by omega);have m2:=(xU HZ5).g.b1.cell (i:=2) (by omega)
             simp only [row3] at k0 k1 k2 m0 m1 m2
             obtain ⟨u0,u1,u2⟩:=cs3 ((xU HZ5).mx.row) (by omega);have uz:=(xU HZ5).mx.row.frozen
             simp only [row3] at u0 u1 u2
             obtain ⟨i6,hi0,hi1,hi2,hi3⟩:=info_parts infoMoveM
             have HII:=xH hi0;have HI1:=xH hi1;have HI2:=xH hi2;have HI3:=xH hi3
             clear hi0 hi1 hi2 hi3
             go_upto_region 11 with (at_builtin;(refine append_row _ rfl _ _ 25 rfl w1.heap.size 60 i6 (.agg #[.bool false,.string ByteArray.empty]) 2 24 Try.underlying25 (xU HII) (xU HI1) (xU HI2) (xU HI3) rfl (by decide) (.slice t2 d.moves.length s2) d.moves.length (d.moves.map Dm.cs).flatten rfl (World.ownsRow.alloc (xU HZ5).mx.o2 _) ⟨W5.heap.size,0,none⟩ 1 1 [.bool false,.string x] rfl rfl (cell_2 W5 _ _ _) (fun u hu=>by simp at hu;rcases hu with rfl | rfl <;> rfl) (by decide) (by unfold maxLen;omega) (by omega) (by rw [World.size_alloc];have:=(xU HSZ);omega) ?_;intro v' w5 hown5 hgrow5 hat5;obtain ⟨g6,cap6,rfl,-,-⟩:=hown5.form (by omega);obtain ⟨r5,hz5⟩:=(xU HZ5).appM ⟨false,x⟩ hown5 hgrow5;have HZ6:=xH hz5;have HSZ2:=xH (show w1.heap.size≤w5.heap.size from by have:=(grown_alloc hgrow5).size;have:=xU HSZ;omega);have f0:=r5.cell (i:=2) (by omega);have fz:=r5.frozen 2;simp only [row3] at f0;clear hown5 hgrow5 hat5 hz5 r5 HZ5 HII HI1 HI2 HI3 u0 u1 u2 uz k0 k1 k2 m0 m1 m2))
             have HSZ3:=xH (show w1.heap.size≤(w5.setCell ⟨w3.heap.size,2,none⟩ (.slice (some ⟨g6,0,none⟩) (d.moves.length+1) cap6)).heap.size from by rw [World.size_setCell];exact xU HSZ2)
             clear f0 fz HSZ HSZ2
             generalize w5.setCell ⟨w3.heap.size,2,none⟩ _=W6 at HZ6 HSZ3 ⊢
             have HSZ:=HSZ3
             clear HSZ3
             obtain ⟨y0,y1,y2⟩:=cs3 ((xU HZ6).g.b2) (by omega);have yz:=(xU HZ6).g.b2.frozen
             simp only [row3] at y0 y1 y2
             obtain ⟨u0,u1,u2⟩:=cs3 ((xU HZ6).mx.row) (by omega);have uz:=(xU HZ6).mx.row.frozen
             simp only [row3] at u0 u1 u2
             go_wp2_with fail
             try simp only [Exit.inBlock,Exit.then]
             refine bodyPost_ret (v:=.tuple #[.agg #[.slice (some ⟨g5,0,none⟩) (d.files.length+1) cap5,.slice t1 d.names.length s1,.slice (some ⟨g6,0,none⟩) (d.moves.length+1) cap6],.int .i64 0]) (by simp [results,Try.results7,go_sem,y0,y1,y2]) rfl ?_
             rw [doD_make (xU HY) (xU HF) (by omega)]
             exact (xU HZ6).fin (okF (xU HFO) ⟨by simp only;omega,by simp only;decide,by unfold I64;simp⟩) (xU HNO) (okM (xU HMO) (show x.size≤9223372036854775807 by omega)) 0
   · have e1b:(k==1)=false:=by simpa using e1
     by_cases e5:k=5
     · subst e5
       go_upto_region 13 with fail
       clear k0 k1 k2 m0 m1 m2
       refine wp_swap (c':=Code.region 13 do13Ops true) (by kernel_rfl) ?_
       refine wp_region_noPanic ?_
       refine do13 P w d ⟨.slice a0 d.files.length p0,.slice a1 d.names.length p1,.slice a2 d.moves.length p2⟩ 5 x y (xU HY) _ _ (fun _ _ _ _ _ h=>h) ((xU HZ).g.on (drewB _)) (by kernel_rfl) ?_
       intro v c' W' hr hd hb
       refine NoPanic.normal ?_
       simp only [frL_eq,frG,List.lookup,Nat.reduceBEq,Nat.reduceAdd,Option.getD_some,Option.getD_none]
       obtain ⟨y0,y1,y2⟩:=cs3 hr (by omega)
       simp only [row3] at y0 y1 y2
       have HDD:=xH hd;have HBB:=xH hb
       clear hd hb hr
       go_wp2_with fail
       try simp only [Exit.inBlock,Exit.then]
       refine bodyPost_ret (v:=.tuple #[.agg #[c'.c0,c'.c1,c'.c2],.int .i64 0]) (by simp [results,Try.results7,go_sem,y0,y1,y2]) rfl ?_
       rw [doD_dirs (xU HY)]
       exact ⟨c',rfl,xU HDD,xU HBB⟩
     · have e5b:(k==5)=false:=by simpa using e5
       have HIN:=xH (inSame k 1 5 W4)
       by_cases hin:1≤k∧k≤5
       case neg =>
        have HDI:=xH (decide_eq_false hin)
        go_upto_region 15 with (refine (xU HIN).mono ?_;rintro e w5 ⟨rfl,h5⟩;have h6:=h5.symm;subst h6;clear h5;rw [xU HDI])
        obtain ⟨y0,y1,y2⟩:=cs3 ((xU HZ).g.b2) (by omega);have yz:=(xU HZ).g.b2.frozen
        simp only [row3] at y0 y1 y2
        obtain ⟨u0,u1,u2⟩:=cs3 ((xU HZ).mx.row) (by omega);have uz:=(xU HZ).mx.row.frozen
        simp only [row3] at u0 u1 u2
        go_wp2_with fail
        try simp only [Exit.inBlock,Exit.then]
        refine bodyPost_ret (v:=.tuple #[.agg #[.slice t0 d.files.length s0,.slice t1 d.names.length s1,.slice t2 d.moves.length s2],.int .i64 5]) (by simp [results,Try.results7,go_sem,y0,y1,y2]) rfl ?_
        rw [doD_kind (xU HY) hin]
        exact (xU HZ).fin (xU HFO) (xU HNO) (xU HMO) 5
       have HDI:=xH (decide_eq_true hin)
       have H24:=xH (show 2≤k∧k≤4 by omega)
       clear hin
       go_upto_region 16 with (refine (xU HIN).mono ?_;rintro e w5 ⟨rfl,h5⟩;have h6:=h5.symm;subst h6;clear h5;rw [xU HDI])
       clear k0 k1 k2 m0 m1 m2 HIN HDI
       refine wp_swap (c':=Code.region 16 do16Ops true) (by kernel_rfl) ?_
       refine wp_region_noPanic ?_
       refine do16 P w d ⟨.slice a0 d.files.length p0,.slice a1 d.names.length p1,.slice a2 d.moves.length p2⟩ k x y w1.heap.size w3.heap.size ⟨.slice t0 d.files.length s0,.slice t1 d.names.length s1,.slice t2 d.moves.length s2⟩ _ _ (fun _ _ _ _ _ h=>h) ((xU HZ).on (drewB _)) (by kernel_rfl) ?_
       intro v W5 hz
       refine NoPanic.normal ?_
       simp only [frL_eq,frG,List.lookup,Nat.reduceBEq,Nat.reduceAdd,Option.getD_some,Option.getD_none]
       have HZ5:=xH hz
       clear hz HZ
       cases hb:hasB (namesD d) x with
       | false =>
         have HNF:=xH (show x∉namesD d from fun h=>by have:=hasB_iff.2 h;rw [hb] at this;cases this)
         obtain ⟨y0,y1,y2⟩:=cs3 ((xU HZ5).g.b2) (by omega);have yz:=(xU HZ5).g.b2.frozen
         simp only [row3] at y0 y1 y2
         obtain ⟨u0,u1,u2⟩:=cs3 ((xU HZ5).mx.row) (by omega);have uz:=(xU HZ5).mx.row.frozen
         simp only [row3] at u0 u1 u2
         go_wp2_with fail
         try simp only [Exit.inBlock,Exit.then]
         refine bodyPost_ret (v:=.tuple #[.agg #[.slice t0 d.files.length s0,.slice t1 d.names.length s1,.slice t2 d.moves.length s2],.int .i64 2]) (by simp [results,Try.results7,go_sem,y0,y1,y2]) rfl ?_
         rw [doD_nofile (xU HY) (xU H24) (xU HNF)]
         exact (xU HZ5).fin (xU HFO) (xU HNO) (xU HMO) 2
       | true =>
         have hmem:x∈namesD d:=hasB_iff.1 hb
         obtain ⟨i,hi,-,-,hfi⟩:=names_file hmem
         have HMEM:=xH hmem;have HFI:=xH hfi
         have HFD:=xH (l41Find_any (.slice a0 d.files.length p0) d.files x W5 (xU HZ5).g.dk.fs)
         obtain ⟨k0,k1,k2⟩:=cs3 ((xU HZ5).g.b0) (by omega);have m0:=(xU HZ5).g.b1.cell (i:=0) (by omega);have m1:=(xU HZ5).g.b1.cell (i:=1) (by omega);have m2:=(xU HZ5).g.b1.cell (i:=2) (by omega)
         simp only [row3] at k0 k1 k2 m0 m1 m2
         clear hmem hfi
         obtain ⟨b0,q0,HA⟩:∃ b0 q0,Hid ((.slice a0 d.files.length p0:Value)=.slice (some ⟨b0,q0,none⟩) d.files.length p0):=by
          obtain ⟨aq,pq,eq1,-,hff⟩:=(xU HZ5).g.dk.fs.open
          obtain ⟨b0,q0,ea,-⟩:=hff i hi
          simp only [Value.slice.injEq,true_and] at eq1
          exact ⟨b0,q0,by show _=_;rw [eq1.1,ea]⟩
         obtain ⟨g,HO⟩:∃ g,Hid ((.slice t0 d.files.length s0:Value)=.slice (some ⟨g,0,none⟩) d.files.length s0):=by
          obtain ⟨g,cc,ef,-,-⟩:=(xU HZ5).mx.o0.form (by omega)
          simp only [Value.slice.injEq,true_and] at ef
          exact ⟨g,by show _=_;rw [ef.1]⟩
         have hdat:=((xU HY).file i hi (by rw [(xU HY).len];exact hi)).data
         have hok1:=xU HFO d.files[i] (List.getElem_mem hi)
         have HDAT:=xH hdat;have HOK1:=xH hok1
         clear hdat hok1
         obtain ⟨h2,h4⟩:=xU H24
         rcases (show k=2∨k=3∨k=4 by omega) with rfl | rfl | rfl
         · go_upto_region 24 with (refine (xU HFD).mono ?_;rintro e w6 ⟨rfl,h5⟩;have h6:=h5.symm;subst h6;clear h5;rw [xU HFI])
           clear k0 k1 k2 m0 m1 m2 HFD
           refine wp_swap (c':=Code.region 24 do24Ops true) (by kernel_rfl) ?_
           refine wp_region_noPanic ?_
           refine do24 P w d ⟨.slice a0 d.files.length p0,.slice a1 d.names.length p1,.slice a2 d.moves.length p2⟩ 2 x y w1.heap.size w3.heap.size ⟨.slice t0 d.files.length s0,.slice t1 d.names.length s1,.slice t2 d.moves.length s2⟩ i hi b0 q0 p0 (xU HA) _ _ (fun _ _ _ _ _ h=>h) ((xU HZ5).on (drewB _)) (by kernel_rfl) ?_
           intro v W6 hz
           refine NoPanic.normal ?_
           simp only [frL_eq,frG,List.lookup,Nat.reduceBEq,Nat.reduceAdd,Option.getD_some,Option.getD_none]
           have HZ6:=xH hz
           clear hz HZ5
           have hwr:IntKind.i64.wrap (20000 - (d.files[i].data.size:Int))=20000 - (d.files[i].data.size:Int):=by have:=xU HDAT;rw [IntKind.wrap_i64];omega
           rw [hwr]
           by_cases hfull:20000 - (d.files[i].data.size:Int) < (y.size:Int)
           · rw [decide_eq_true hfull]
             obtain ⟨y0,y1,y2⟩:=cs3 ((xU HZ6).g.b2) (by omega);have yz:=(xU HZ6).g.b2.frozen
             simp only [row3] at y0 y1 y2
             obtain ⟨u0,u1,u2⟩:=cs3 ((xU HZ6).mx.row) (by omega);have uz:=(xU HZ6).mx.row.frozen
             simp only [row3] at u0 u1 u2
             clear hwr
             go_wp2_with fail
             try simp only [Exit.inBlock,Exit.then]
             refine bodyPost_ret (v:=.tuple #[.agg #[.slice t0 d.files.length s0,.slice t1 d.names.length s1,.slice t2 d.moves.length s2],.int .i64 4]) (by simp [results,Try.results7,go_sem,y0,y1,y2]) rfl ?_
             rw [doD_addfull (xU HY) (xU HMEM) (by rw [fileD_at hi (xU HFI)];exact hfull)]
             exact (xU HZ6).fin (xU HFO) (xU HNO) (xU HMO) 4
           · rw [decide_eq_false hfull]
             go_upto_region 26 with fail
             refine wp_swap (c':=Code.region 26 do26Ops true) (by kernel_rfl) ?_
             refine wp_region_noPanic ?_
             refine do26 P w d ⟨.slice a0 d.files.length p0,.slice a1 d.names.length p1,.slice a2 d.moves.length p2⟩ 2 x y w1.heap.size w3.heap.size ⟨.slice t0 d.files.length s0,.slice t1 d.names.length s1,.slice t2 d.moves.length s2⟩ i hi b0 q0 p0 (xU HA) g s0 (xU HO) (by have:=xU HDAT;omega) _ _ (fun _ _ _ _ _ h=>h) ((xU HZ6).on (drewB _)) (by kernel_rfl) ?_
             intro v W7 hz
             refine NoPanic.normal ?_
             simp only [frL_eq,frG,List.lookup,Nat.reduceBEq,Nat.reduceAdd,Option.getD_some,Option.getD_none]
             have HZ7:=xH hz
             clear hz HZ6 hwr
             obtain ⟨y0,y1,y2⟩:=cs3 ((xU HZ7).g.b2) (by omega);have yz:=(xU HZ7).g.b2.frozen
             simp only [row3] at y0 y1 y2
             obtain ⟨u0,u1,u2⟩:=cs3 ((xU HZ7).mx.row) (by omega);have uz:=(xU HZ7).mx.row.frozen
             simp only [row3] at u0 u1 u2
             go_wp2_with fail
             try simp only [Exit.inBlock,Exit.then]
             refine bodyPost_ret (v:=.tuple #[.agg #[.slice t0 d.files.length s0,.slice t1 d.names.length s1,.slice t2 d.moves.length s2],.int .i64 0]) (by simp [results,Try.results7,go_sem,y0,y1,y2]) rfl ?_
             rw [doD_add (xU HY) (xU HMEM) (by rw [fileD_at hi (xU HFI)];omega),putD_at (xU HFI),fileD_at hi (xU HFI)]
             exact (xU HZ7).fin (okSet (xU HFO) ⟨(xU HOK1).1,by have:=xU HDAT;rw [ByteArray.size_append];omega,(xU HOK1).2.2⟩) (xU HNO) (xU HMO) 0
         · go_upto_region 28 with (refine (xU HFD).mono ?_;rintro e w6 ⟨rfl,h5⟩;have h6:=h5.symm;subst h6;clear h5;rw [xU HFI])
           clear k0 k1 k2 m0 m1 m2 HFD
           refine wp_swap (c':=Code.region 28 do28Ops true) (by kernel_rfl) ?_
           refine wp_region_noPanic ?_
           refine do28 P w d ⟨.slice a0 d.files.length p0,.slice a1 d.names.length p1,.slice a2 d.moves.length p2⟩ 3 x y w1.heap.size w3.heap.size ⟨.slice t0 d.files.length s0,.slice t1 d.names.length s1,.slice t2 d.moves.length s2⟩ i hi b0 q0 p0 (xU HA) g s0 (xU HO) _ _ (fun _ _ _ _ _ h=>h) ((xU HZ5).on (drewB _)) (by kernel_rfl) ?_
           intro v W7 hz
           refine NoPanic.normal ?_
           simp only [frL_eq,frG,List.lookup,Nat.reduceBEq,Nat.reduceAdd,Option.getD_some,Option.getD_none]
           have HZ7:=xH hz
           clear hz HZ5
           obtain ⟨y0,y1,y2⟩:=cs3 ((xU HZ7).g.b2) (by omega);have yz:=(xU HZ7).g.b2.frozen
           simp only [row3] at y0 y1 y2
           obtain ⟨u0,u1,u2⟩:=cs3 ((xU HZ7).mx.row) (by omega);have uz:=(xU HZ7).mx.row.frozen
           simp only [row3] at u0 u1 u2
           go_wp2_with fail
           try simp only [Exit.inBlock,Exit.then]
           refine bodyPost_ret (v:=.tuple #[.agg #[.slice t0 d.files.length s0,.slice t1 d.names.length s1,.slice t2 d.moves.length s2],.int .i64 0]) (by simp [results,Try.results7,go_sem,y0,y1,y2]) rfl ?_
           rw [doD_sync (xU HY) (xU HMEM),putD_at (xU HFI),fileD_at hi (xU HFI)]
           exact (xU HZ7).fin (okSet (xU HFO) ⟨(xU HOK1).1,(xU HOK1).2.1,by have:=xU HDAT;unfold I64;simp only;omega⟩) (xU HNO) (xU HMO) 0
         · by_cases h128:128≤d.moves.length
           · have q3:decide ((128:Int)≤(d.moves.length:Int))=true:=decide_eq_true (by omega)
             go_upto_region 21 with (refine (xU HFD).mono ?_;rintro e w6 ⟨rfl,h5⟩;have h6:=h5.symm;subst h6;clear h5;rw [xU HFI])
             obtain ⟨y0,y1,y2⟩:=cs3 ((xU HZ5).g.b2) (by omega);have yz:=(xU HZ5).g.b2.frozen
             simp only [row3] at y0 y1 y2
             obtain ⟨u0,u1,u2⟩:=cs3 ((xU HZ5).mx.row) (by omega);have uz:=(xU HZ5).mx.row.frozen
             simp only [row3] at u0 u1 u2
             go_wp2_with fail
             try simp only [Exit.inBlock,Exit.then]
             refine bodyPost_ret (v:=.tuple #[.agg #[.slice t0 d.files.length s0,.slice t1 d.names.length s1,.slice t2 d.moves.length s2],.int .i64 4]) (by simp [results,Try.results7,go_sem,y0,y1,y2]) rfl ?_
             rw [doD_gonefull (xU HY) (xU HMEM) h128]
             exact (xU HZ5).fin (xU HFO) (xU HNO) (xU HMO) 4
           · have q3:decide ((128:Int)≤(d.moves.length:Int))=false:=decide_eq_false (by omega)
             go_upto_region 22 with (refine (xU HFD).mono ?_;rintro e w6 ⟨rfl,h5⟩;have h6:=h5.symm;subst h6;clear h5;rw [xU HFI])
             have HSZ:Hid (w1.heap.size≤W5.heap.size):=by have:=(xU HZ5).mx.o0.lt g (by show Value.ownBlock (.slice t0 d.files.length s0)=some g;rw [xU HO];rfl);show _≤_;omega
             obtain ⟨u0,u1,u2⟩:=cs3 ((xU HZ5).mx.row) (by omega);have uz:=(xU HZ5).mx.row.frozen
             simp only [row3] at u0 u1 u2
             obtain ⟨i6,hi0,hi1,hi2,hi3⟩:=info_parts infoMoveM
             have HII:=xH hi0;have HI1:=xH hi1;have HI2:=xH hi2;have HI3:=xH hi3
             clear hi0 hi1 hi2 hi3
             go_upto_region 29 with (at_builtin;(refine append_row _ rfl _ _ 25 rfl w1.heap.size 60 i6 (.agg #[.bool false,.string ByteArray.empty]) 2 24 Try.underlying25 (xU HII) (xU HI1) (xU HI2) (xU HI3) rfl (by decide) (.slice t2 d.moves.length s2) d.moves.length (d.moves.map Dm.cs).flatten rfl (World.ownsRow.alloc (xU HZ5).mx.o2 _) ⟨W5.heap.size,0,none⟩ 1 1 [.bool true,.string x] rfl rfl (cell_2 W5 _ _ _) (fun u hu=>by simp at hu;rcases hu with rfl | rfl <;> rfl) (by decide) (by unfold maxLen;omega) (by omega) (by rw [World.size_alloc];have:=(xU HSZ);omega) ?_;intro v' w5 hown5 hgrow5 hat5;obtain ⟨g6,cap6,rfl,-,-⟩:=hown5.form (by omega);obtain ⟨r5,hz5⟩:=(xU HZ5).appM ⟨true,x⟩ hown5 hgrow5;have HZ6:=xH hz5;have HSZ2:=xH (show w1.heap.size≤w5.heap.size from by have:=(grown_alloc hgrow5).size;have:=xU HSZ;omega);have f0:=r5.cell (i:=2) (by omega);have fz:=r5.frozen 2;simp only [row3] at f0;clear hown5 hgrow5 hat5 hz5 r5 HZ5 HII HI1 HI2 HI3 u0 u1 u2 uz k0 k1 k2 m0 m1 m2))
             have HSZ3:=xH (show w1.heap.size≤(w5.setCell ⟨w3.heap.size,2,none⟩ (.slice (some ⟨g6,0,none⟩) (d.moves.length+1) cap6)).heap.size from by rw [World.size_setCell];exact xU HSZ2)
             clear f0 fz HSZ HSZ2
             generalize w5.setCell ⟨w3.heap.size,2,none⟩ _=W6 at HZ6 HSZ3 ⊢
             have HSZ:=HSZ3
             clear HSZ3
             obtain ⟨y0,y1,y2⟩:=cs3 ((xU HZ6).g.b2) (by omega);have yz:=(xU HZ6).g.b2.frozen
             simp only [row3] at y0 y1 y2
             obtain ⟨u0,u1,u2⟩:=cs3 ((xU HZ6).mx.row) (by omega);have uz:=(xU HZ6).mx.row.frozen
             simp only [row3] at u0 u1 u2
             go_wp2_with fail
             try simp only [Exit.inBlock,Exit.then]
             refine bodyPost_ret (v:=.tuple #[.agg #[.slice t0 d.files.length s0,.slice t1 d.names.length s1,.slice (some ⟨g6,0,none⟩) (d.moves.length+1) cap6],.int .i64 0]) (by simp [results,Try.results7,go_sem,y0,y1,y2]) rfl ?_
             rw [doD_gone (xU HY) (xU HMEM) h128]
             exact (xU HZ6).fin (xU HFO) (xU HNO) (okM (xU HMO) (show x.size≤9223372036854775807 by omega)) 0
end Go.Proofs.Yteikmbkljkkjiaa
