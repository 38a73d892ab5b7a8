/- A part. -/
import Derived.Test.YteefjeddboefcaaGreatDoorPart22
set_option maxRecDepth 100000
set_option maxHeartbeats 4000000
namespace Go.Proofs.YteefjeddboefcaaGreatDoor
open Go Go.RowKit Go.Shelf Go.Maps
attribute [local go_sem] Oper.semAt_some
mutual
theorem tsz_pT:∀ (t:Tr) (d:Int),0≤pT t d→pT t d=(tsz t:Int)
 | .mk s n tx ns ks,d=>by
   intro h
   rw [pT] at h ⊢
   split at h
   · omega
   · rename_i hn
     rw [if_neg hn,lsz_pK ks d 1 h,tsz];omega
theorem lsz_pK:∀ (ks:List Tr) (d n:Int),0≤pK ks d n→pK ks d n=n+(lsz ks:Int)
 | [],d,n=>by intro h;rw [pK,lsz];omega
 | t::r,d,n=>by
   intro h
   rw [pK] at h ⊢
   split at h
   · omega
   · rename_i hn
     rw [if_neg hn,lsz_pK r d _ h,lsz,tsz_pT t (d+1) (by omega)];omega
end
theorem implKindHas_any (k:Kd) (t:Tr) (P Q:Nat→Prop) (c:C3) (d:C5) (w:World) (hP:∀ b,P b→b < w.heap.size) (hQ:∀ b,Q b→b < w.heap.size) (hrep:KRep P w k c) (hrep2:Rep Q w t d) (hTb:Tab w) (hwt:wKd k≤1048576) :
 Calls Tryz.prog 12 #[.agg #[c.c0,c.c1,c.c2],.agg #[d.c0,d.c1,d.c2,d.c3,d.c4]] w fun e w'=>e=.returned (.bool (hasA k t))∧Below w.heap.size w w':=by
 obtain ⟨c0,c1,c2⟩:=c
 obtain ⟨d0,d1,d2,d3,d4⟩:=d
 obtain ⟨W0,hW0⟩:∃ W0,(((w.alloc (.cells #[c0,c1,c2] 26)).alloc (.cells #[d0,d1,d2,d3,d4] 29)).alloc (.cells #[.bool false] 4))=W0:=⟨_,rfl⟩
 have hb0:Below w.heap.size w W0:=by rw [← hW0];exact (((Below.refl _ _).alloc (Nat.le_refl _) _).alloc (by simp) _).alloc (by simp;omega) _
 have hs0:W0.heap.size=w.heap.size+3:=by rw [← hW0];simp
 have hrk:W0.rowIs w.heap.size 26 3 (row3 c0 c1 c2):=by rw [← hW0];exact ((row3_alloc w c0 c1 c2 _).alloc _).alloc _
 have hrt:W0.rowIs (w.heap.size+1) 29 5 (row5 d0 d1 d2 d3 d4):=by
  rw [← hW0]
  have q:=row5_alloc (w.alloc (.cells #[c0,c1,c2] 26)) d0 d1 d2 d3 d4 29
  rw [World.size_alloc] at q
  exact q.alloc _
 have hbr:Boxed W0 (w.heap.size+1+1) 4 (.bool false):=by
  rw [← hW0]
  have:=(Boxed.new ((w.alloc (.cells #[c0,c1,c2] 26)).alloc (.cells #[d0,d1,d2,d3,d4] 29)) 4 (.bool false))
  rw [World.size_alloc,World.size_alloc] at this
  exact this
 have hok:=implKindOk_any k P ⟨c0,c1,c2⟩ W0 (fun b hb=>Nat.lt_of_lt_of_le (hP b hb) hb0.size) (KRep.carry (fun b hb=>hb0.block b (hP b hb)) (fun _ h=>h) _ _ hrep) hwt
 have hot:=fun W (hW:Below w.heap.size w W)=>implTreeOk_any t Q ⟨d0,d1,d2,d3,d4⟩ W (fun b hb=>Nat.lt_of_lt_of_le (hQ b hb) hW.size) (Rep.carry (fun b hb=>hW.block b (hQ b hb)) (fun _ h=>h) _ _ hrep2) (hTb.of_block (hW.block _ hTb.lt))
 have hga:=fun W (hW:Below w.heap.size w W) (h:ksz k≤1000000)=>gatherN_all (ksz k+1) k (by omega) P ⟨c0,c1,c2⟩ W (fun b hb=>Nat.lt_of_lt_of_le (hP b hb) hW.size) (KRep.carry (fun b hb=>hW.block b (hP b hb)) (fun _ h=>h) _ _ hrep) h hwt
 have hrt2:=fun W (hW:Below w.heap.size w W)=>Rep.carry (Q:=Q) (w':=W) (fun b hb=>hW.block b (hQ b hb)) (fun _ h=>h) _ _ hrep2
 obtain ⟨e0,-,⟨a3,cap3,e1,-,-⟩,a,cap,e2,-,-⟩:=hrep.open
 obtain ⟨g0,g1,g2,-,-,-,⟨a5,cap5,g3,-,-⟩,a6,cap6,g4,-,-⟩:=hrep2.open
 simp only at e0 e1 e2 g0 g1 g2 g3 g4
 subst e0 e1 e2 g0 g1 g2 g3 g4
 have hA:hasA k t=(decide (0 < qT k 1) && decide (0 < pT t 1) && hT t k):=rfl
 have h1:0 < qT k 1→okD k=true∧ksz k≤40:=fun h=>ok_of_qT h
 have h2:0 < pT t 1→okH t=true∧tsz t≤120:=fun h=>⟨okH_of_pT t 1 (by omega),by have e:=tsz_pT t 1 (by omega);have:=pT_bd t 1;omega⟩
 obtain ⟨k0,k1,k2⟩:=cs3 hrk (by omega)
 simp only [row3] at k0 k1 k2
 have HRK:=xH hrk;have HRT:=xH hrt;have HB0:=xH hb0;have HOK:=xH hok;have HOT:=xH hot;have HGA:=xH hga;have HR2:=xH hrt2;have HBR:=xH hbr
 clear hrk hrt hb0 hok hot hga hrt2 hrep hrep2 hbr
 refine (callsIn_wide (n:=8)).1 ?_
 refine callsIn_of_wp_marks Tryz.func12 rfl trivial ?_ rfl
 simp only [Tryz.ntmps12,List.size_toArray,List.length_cons,List.length_nil,Nat.reduceAdd,Nat.reduceSub,Array.replicate_succ,Array.replicate_zero,List.push_toArray,List.append_toArray,List.nil_append,List.cons_append]
 by_cases hq:0 < qT k 1
 · have hd:decide (0 < qT k 1)=true:=decide_eq_true hq
   by_cases hp:0 < pT t 1
   · have hd2:decide (0 < pT t 1)=true:=decide_eq_true hp
     rw [hd,hd2,Bool.true_and,Bool.true_and] at hA
     have HOK2:=xU HOK;rw [hd] at HOK2
     have HOT2:=xU HOT;rw [hd2] at HOT2
     have H1:=xH (h1 hq);have H2:=xH (h2 hp)
     have HO:=xH HOK2;have HTT:=xH HOT2
     have HA:=xH hA
     clear HOK2 HOT2 h1 h2 hd hd2 hq hp HOK HOT hA
     gi_wp2_with (first
      | ((try refine ⟨trivial,?_⟩);gi_at_call 30
         try rw [hW0]
         refine (callsIn_wide.2 (xU HO)).mono ?_
         rintro e w1 ⟨rfl,hb1⟩
         have HB1:=xH ((xU HB0).trans (hb1.mono (xU HB0).size))
         have q1:=(xU HRT).of_block (hb1.block _ (by omega))
         have q0:=(xU HRK).of_block (hb1.block _ (by omega))
         have hs1:=hb1.size
         have Q1:=xH q1
         have Q0:=xH q0
         have HX1:=xH ((hb1.block _ (by omega)).trans (xU HBR))
         obtain ⟨t0,t1,t2,t3,t4⟩:=cs5 q1 (by omega)
         simp only [row5] at t0 t1 t2 t3 t4
         clear hb1 q1 q0)
      | ((try refine ⟨trivial,?_⟩);gi_at_call 29
         refine (callsIn_wide.2 (xU HTT _ (xU HB1))).mono ?_
         rintro e w2 ⟨rfl,hb2⟩
         have HB2:=xH ((xU HB1).trans (hb2.mono (xU HB1).size))
         have q1:=(xU Q1).of_block (hb2.block _ (by omega))
         have q0:=(xU Q0).of_block (hb2.block _ (by omega))
         have hs2:=hb2.size
         have Q12:=xH q1
         have Q02:=xH q0
         have HX2:=xH ((hb2.block _ (by omega)).trans (xU HX1))
         clear hb2 q1 q0))
     have q02:=xU Q02;have q12:=xU Q12
     obtain ⟨m0,m1,m2⟩:=cs3 q02 (by omega)
     have n0:=q12.cell (i:=0) (by omega);have n1:=q12.cell (i:=1) (by omega);have n2:=q12.cell (i:=2) (by omega);have n3:=q12.cell (i:=3) (by omega);have n4:=q12.cell (i:=4) (by omega)
     simp only [row3] at m0 m1 m2
     simp only [row5] at n0 n1 n2 n3 n4
     clear q02 q12 t0 t1 t2 t3 t4 k0 k1 k2
     rename_i K1 hK1 K0 hK0
     have hrest:∀ (w3:World) (y:C4),NRep (OrNew P w2.heap.size w3) w3 k y→Below w2.heap.size w2 w3→K0 { tmps:=#[.agg #[.int .i64 k.sort,.slice a3 k.names.length cap3,.slice a k.kids.length cap],.agg #[.int .i64 t.sort,.int .i64 t.num,.string t.text,.slice a5 t.names.length cap5,.slice a6 t.kids.length cap6],.pointer (some ⟨w.heap.size,0,none⟩),.pointer (some ⟨w.heap.size+1,0,none⟩),.pointer (some ⟨w.heap.size+1+1,0,none⟩),undef,undef,.agg #[.int .i64 k.sort,.slice a3 k.names.length cap3,.slice a k.kids.length cap],.bool true,.bool false,.bool false,.agg #[.int .i64 t.sort,.int .i64 t.num,.string t.text,.slice a5 t.names.length cap5,.slice a6 t.kids.length cap6],.bool true,.bool false,.bool false,.agg #[.int .i64 k.sort,.slice a3 k.names.length cap3,.slice a k.kids.length cap],.agg #[y.c0,y.c1,y.c2,y.c3],.agg #[.int .i64 t.sort,.int .i64 t.num,.string t.text,.slice a5 t.names.length cap5,.slice a6 t.kids.length cap6],.agg #[y.c0,y.c1,y.c2,y.c3,.int .i64 t.sort,.int .i64 t.num,.string t.text,.slice a5 t.names.length cap5,.slice a6 t.kids.length cap6],.func (.func 57) #[] #[.pointer (some ⟨w3.heap.size,0,none⟩)],undef,undef,undef,undef,undef],defers:=[] } (w3.alloc (.cells #[y.c0,y.c1,y.c2,y.c3,.int .i64 t.sort,.int .i64 t.num,.string t.text,.slice a5 t.names.length cap5,.slice a6 t.kids.length cap6] 77)):=by
      intro w3 y hn3 hb3
      refine hK0 _ _ ?_
      clear hK0 m0 m1 m2 n0 n1 n2 n3 n4
      gi_wp2_with fail
      obtain ⟨W5,hW5⟩:∃ W5,w3.alloc (.cells #[y.c0,y.c1,y.c2,y.c3,.int .i64 t.sort,.int .i64 t.num,.string t.text,.slice a5 t.names.length cap5,.slice a6 t.kids.length cap6] 77)=W5:=⟨_,rfl⟩
      have hsz5:W5.heap.size=w3.heap.size+1:=by rw [← hW5];simp
      have hs3:=hb3.size
      have hsw2:=(xU HB2).size
      have hb35:Below w3.heap.size w3 W5:=by rw [← hW5];exact (Below.refl _ _).alloc (Nat.le_refl _) _
      have hbw3:Below w.heap.size w w3:=(xU HB2).trans (hb3.mono hsw2)
      have hb5:Below w.heap.size w W5:=hbw3.trans (hb35.mono hbw3.size)
      have hs5:=hbw3.size
      have hlt3:∀ b,OrNew P w2.heap.size w3 b→b < w3.heap.size:=fun b hb=>hb.elim (fun h=>by have:=hP b h;omega) (fun h=>h.2)
      have hN5:NRep (fun b=>b < w3.heap.size) W5 k y:=NRep.carry (fun b hb=>hb35.block b (hlt3 b hb)) hlt3 _ _ hn3
      have hR5:Rep (fun b=>b < w3.heap.size) W5 t ⟨.int .i64 t.sort,.int .i64 t.num,.string t.text,.slice a5 t.names.length cap5,.slice a6 t.kids.length cap6⟩:=Rep.carry (fun _ _=>rfl) (fun b hb=>by have:=hQ b hb;omega) _ _ (xU HR2 W5 hb5)
      have hr9:=row9_alloc w3 y ⟨.int .i64 t.sort,.int .i64 t.num,.string t.text,.slice a5 t.names.length cap5,.slice a6 t.kids.length cap6⟩ 77
      simp only at hr9
      rw [hW5] at hr9
      have hat4:C4.at W5 w3.heap.size 0 y:=⟨hr9.cell (i:=0) (by omega),hr9.cell (i:=1) (by omega),hr9.cell (i:=2) (by omega),hr9.cell (i:=3) (by omega)⟩
      have hat5:C5.at W5 w3.heap.size 4 ⟨.int .i64 t.sort,.int .i64 t.num,.string t.text,.slice a5 t.names.length cap5,.slice a6 t.kids.length cap6⟩:=⟨hr9.cell (i:=4) (by omega),hr9.cell (i:=5) (by omega),hr9.cell (i:=6) (by omega),hr9.cell (i:=7) (by omega),hr9.cell (i:=8) (by omega)⟩
      have hlt2:w.heap.size+1+1 < w2.heap.size:=(Array.getElem?_eq_some_iff.1 (xU HX2)).1
      have hbr5:Boxed W5 (w.heap.size+1+1) 4 (.bool false):=((hb35.block _ (by omega)).trans (hb3.block _ hlt2)).trans (xU HX2)
      have hts:tsz t≤999990:=by have:=(xU H2).2;omega
      have hoK:=(xU H1).1
      have hoT:=(xU H2).1
      rw [hW5]
      clear hW5 hr9
      refine range_H (α:=CX w3.heap.size W5) (encs:=cEnc) (H:=fun x=>clB (cKey x)=true) (Kp:=KeptC w3.heap.size) (S:=fun ys=>ys.map cKey=cord t k) (Sp:=fun pre=>pre.map cKey <+: cord t k) (by omega)
       (gf:=57) (lb:=#[.pointer (some ⟨w3.heap.size,0,none⟩)]) rfl (enters_of Tryz.func57 (by kernel_rfl) rfl)
       (fun l J Jx W hW hJ hHy hY h0=>walkC1_in _ l w3.heap.size w3.heap.size W5 (by omega) t k y ⟨.int .i64 t.sort,.int .i64 t.num,.string t.text,.slice a5 t.names.length cap5,.slice a6 t.kids.length cap6⟩ hN5 hR5 hoK hoT hts J Jx hJ hHy hY W (hat4.carry (hW.block _ (by omega))) (hat5.carry (hW.block _ (by omega))) (hW.mono (by omega)) h0)
       Kept.trans (Kept.putObj (by omega)) (fun _=>rfl)
       (fun pre W=>(pre.map cKey).all clB=true∧Boxed W (w.heap.size+1+1) 4 (.bool false)∧Below w3.heap.size W5 W)
       (fun pre W=>(pre.map cKey).all clB=false∧Boxed W (w.heap.size+1+1) 4 (.bool false)∧Below w.heap.size w W)
       ?hI ?hIx ?hHy ?h0
       (fun x a' W=>∃ Bx,W5.heap.size≤Bx∧C4.at W Bx 0 x.1.2.2.1∧C5.at W Bx 4 x.1.2.2.2∧a'={ tmps:=#[.agg #[.int .i64 k.sort,.slice a3 k.names.length cap3,.slice a k.kids.length cap],.agg #[.int .i64 t.sort,.int .i64 t.num,.string t.text,.slice a5 t.names.length cap5,.slice a6 t.kids.length cap6],.pointer (some ⟨w.heap.size,0,none⟩),.pointer (some ⟨w.heap.size+1,0,none⟩),.pointer (some ⟨w.heap.size+1+1,0,none⟩),undef,.pointer (some ⟨Bx,0,none⟩),.agg #[.int .i64 k.sort,.slice a3 k.names.length cap3,.slice a k.kids.length cap],.bool true,.bool false,.bool false,.agg #[.int .i64 t.sort,.int .i64 t.num,.string t.text,.slice a5 t.names.length cap5,.slice a6 t.kids.length cap6],.bool true,.bool false,.bool false,.agg #[.int .i64 k.sort,.slice a3 k.names.length cap3,.slice a k.kids.length cap],.agg #[y.c0,y.c1,y.c2,y.c3],.agg #[.int .i64 t.sort,.int .i64 t.num,.string t.text,.slice a5 t.names.length cap5,.slice a6 t.kids.length cap6],.agg #[y.c0,y.c1,y.c2,y.c3,.int .i64 t.sort,.int .i64 t.num,.string t.text,.slice a5 t.names.length cap5,.slice a6 t.kids.length cap6],.func (.func 57) #[] #[.pointer (some ⟨w3.heap.size,0,none⟩)],.int .i64 x.1.1,.agg #[x.1.2.2.1.c0,x.1.2.2.1.c1,x.1.2.2.1.c2,x.1.2.2.1.c3,x.1.2.2.2.c0,x.1.2.2.2.c1,x.1.2.2.2.c2,x.1.2.2.2.c3,x.1.2.2.2.c4],undef,undef,undef],defers:=[] })
       ?hAx ?assign ?body ?done ?stop
      case hI =>
       exact fun s W W' row hs hg hr=>⟨hs.1,boxed_own _ _ (fun _=>.bool false) s W W' row hs.2.1 hg (fun r e=>(hr r e).2),ownFrom_below (by omega) (by omega) s W W' row hs.2.2 hg hr⟩
      case hIx =>
       exact fun s W W' row hs hg hr=>⟨hs.1,boxed_own _ _ (fun _=>.bool false) s W W' row hs.2.1 hg (fun r e=>(hr r e).2),ownFrom_below (Nat.le_refl _) (by omega) s W W' row hs.2.2 hg hr⟩
      case hHy =>
       rintro pre x W ⟨h,-⟩
       rw [List.map_append,List.all_append,Bool.and_eq_true] at h
       simpa using h.2
      case h0=>exact ⟨by simp,hbr5,Below.refl _ _⟩
      case hAx =>
       rintro x a' s W W' row ⟨Bx,hBx,⟨f0,f1,f2,f3⟩,⟨f4,f5,f6,f7,f8⟩,rfl⟩ hg hr
       have hh:=fun r (e:row=some r)=>(hr r e).2
       exact ⟨Bx,hBx,⟨cell_kept f0 hg hh,cell_kept f1 hg hh,cell_kept f2 hg hh,cell_kept f3 hg hh⟩,⟨cell_kept f4 hg hh,cell_kept f5 hg hh,cell_kept f6 hg hh,cell_kept f7 hg hh,cell_kept f8 hg hh⟩,rfl⟩
      case assign =>
       rintro l pre ⟨⟨lv,⟨K,T⟩,⟨x0,x1,x2,x3⟩,⟨u0,u1,u2,u3,u4⟩⟩,hxk,hxt,hx1,hx2⟩ W K2 hi hK2
       obtain ⟨g0,-,⟨b3,cpa,g1,-,-⟩,⟨B2,g2,-,-⟩,b4,cpb,g3,-,-⟩:=hxk.open
       obtain ⟨v0,v1,v2,-,-,-,⟨b5,cpc,v3,-,-⟩,b6,cpd,v4,-,-⟩:=hxt.open
       simp only at g0 g1 g2 g3 v0 v1 v2 v3 v4
       subst g0 g1 g2 g3 v0 v1 v2 v3 v4
       have HK2:=xH hK2;have HI:=xH hi
       clear hK2 hi hK1
       simp only [cEnc]
       gi_wp2
       obtain ⟨h1,h3,h5⟩:=xU HI
       have q:=row9_alloc W ⟨.int .i64 K.sort,.slice b3 K.names.length cpa,.map (some B2),.slice b4 K.kids.length cpb⟩ ⟨.int .i64 T.sort,.int .i64 T.num,.string T.text,.slice b5 T.names.length cpc,.slice b6 T.kids.length cpd⟩ 77
       have hsW:=h5.size
       exact xU HK2 _ _ ((KeepsOthers.alloc _ _).from _) (Kept.grown (World.grownBy_alloc _ _ none) (by omega)) ⟨h1,h3.alloc _,h5.alloc (by omega) _⟩ ⟨W.heap.size,by omega,⟨q.cell (i:=0) (by omega),q.cell (i:=1) (by omega),q.cell (i:=2) (by omega),q.cell (i:=3) (by omega)⟩,⟨q.cell (i:=4) (by omega),q.cell (i:=5) (by omega),q.cell (i:=6) (by omega),q.cell (i:=7) (by omega),q.cell (i:=8) (by omega)⟩,rfl⟩
      case body =>
       rintro l pre x a' W ⟨hall,hbr',hB⟩ ⟨Bx,hBx,h4,h5,rfl⟩
       have hxx:=x.2
       have hkey:cKey x=x.1.2.1:=rfl
       obtain ⟨lv,K,T,x0,x1,x2,x3,u0,u1,u2,u3,u4,hxe⟩:∃ lv K T x0 x1 x2 x3 u0 u1 u2 u3 u4,x.1=(lv,(K,T),⟨x0,x1,x2,x3⟩,⟨u0,u1,u2,u3,u4⟩):=by obtain ⟨⟨lv,⟨K,T⟩,⟨x0,x1,x2,x3⟩,⟨u0,u1,u2,u3,u4⟩⟩,_⟩:=x;exact ⟨_,_,_,_,_,_,_,_,_,_,_,_,rfl⟩
       rw [hxe] at hxx
       simp only [hxe] at hkey h4 h5 ⊢
       obtain ⟨hxk,hxt,hx1,hx2⟩:=hxx
       simp only at hx1 hx2 hxk hxt
       clear hxe
       have hshK:shB K=true:=by rw [okD_eq,Bool.and_eq_true] at hx1;exact hx1.1
       have halT:aloneB T=true:=by rw [okH_eq,Bool.and_eq_true] at hx2;exact hx2.1
       have hhold:holdB K T=clB (K,T):=hold_eq hshK halT
       have hsW:=hB.size
       have hcall:=holds_any K T (fun b=>b < w3.heap.size) (fun b=>b < w3.heap.size) ⟨x0,x1,x2,x3⟩ ⟨u0,u1,u2,u3,u4⟩ W (fun b hb=>by omega) (fun b hb=>by omega) (NRep.carry (fun b hb=>hB.block b hb) (fun _ h=>h) _ _ hxk) (Rep.carry (fun b hb=>hB.block b hb) (fun _ h=>h) _ _ hxt)
       rw [hhold] at hcall
       obtain ⟨g0,-,⟨b3,cpa,g1,-,-⟩,⟨B2,g2,-,-⟩,b4,cpb,g3,-,-⟩:=hxk.open
       obtain ⟨v0,v1,v2,-,-,-,⟨b5,cpc,v3,-,-⟩,b6,cpd,v4,-,-⟩:=hxt.open
       simp only at g0 g1 g2 g3 v0 v1 v2 v3 v4
       subst g0 g1 g2 g3 v0 v1 v2 v3 v4
       obtain ⟨f0,f1,f2,f3⟩:=h4
       obtain ⟨f4,f5,f6,f7,f8⟩:=h5
       simp only [Nat.reduceAdd,Nat.zero_add] at f0 f1 f2 f3 f4 f5 f6 f7 f8 hcall
       have hans:((pre++[x]).map cKey).all clB=clB (K,T):=by
        rw [List.map_append,List.all_append,hall]
        simp [hkey]
       have HCALL:=xH hcall;have HB:=xH hB;have HBR:=xH hbr';have HANS:=xH hans
       clear hcall hB hbr' hall hxk hxt hans hkey hhold hK1
       cases hcl:clB (K,T)
       · rw [hcl] at HCALL HANS
         gi_wp2_with ((try refine ⟨trivial,?_⟩);gi_at_call 34;refine (CallsIn.inRound l (callsIn_wide.2 (xU HCALL))).mono ?_;clear HCALL;rintro e w6 ⟨rfl,hb6⟩;have HBR6:=xH (show Boxed w6 (w.heap.size+1+1) 4 (.bool false) from (hb6.block _ (by omega)).trans (xU HBR));have r0:=(xU HBR6).cell;have r1:=(xU HBR6).frozen;have HB6:=xH hb6;clear hb6)
         have hb6:=xU HB6
         refine ⟨KeepsFrom.trans ⟨hb6.size,fun k o _ hk _=>(hb6.block k (Array.getElem?_eq_some_iff.1 hk).1).trans hk⟩ ((KeepsOthers.setCell _ _ _).from _),xU HANS,(xU HBR6).set _,?_⟩
         exact (hb5.trans (((xU HB).mono (by omega)).trans (hb6.mono (by omega)))).setCell (by simp;omega) _
       · rw [hcl] at HCALL HANS
         gi_wp2_with ((try refine ⟨trivial,?_⟩);gi_at_call 34;refine (CallsIn.inRound l (callsIn_wide.2 (xU HCALL))).mono ?_;clear HCALL;rintro e w6 ⟨rfl,hb6⟩;have HB6:=xH hb6;clear hb6)
         have hb6:=xU HB6
         exact ⟨⟨hb6.size,fun k o _ hk _=>(hb6.block k (Array.getElem?_eq_some_iff.1 hk).1).trans hk⟩,keptC_of hb6 (by omega),xU HANS,(hb6.block _ (by omega)).trans (xU HBR),(xU HB).trans (hb6.mono (by omega))⟩
      case done =>
       rintro ys W hS ⟨hall,hbr',hB⟩ hK
       have hans:hasA k t=true:=by rw [xU HA,hT_cord,← hS];exact hall
       have r0:=hbr'.cell
       have r1:=hbr'.frozen
       gi_wp2_with fail
       have hK':=(KeepsOthers.setCell W ⟨w.heap.size+1+1,0,none⟩ (.bool true)).same _ _ hK rfl
       refine ⟨by simp,.inl ⟨_,_,rfl,run_takeDeferred hK',?_⟩⟩
       have hc5:=cell_kept (hbr'.set (.bool true)).cell (grownBy_putObj' _ _ (.deferred none)) (fun r e=>by cases e;exact ⟨_,hK',rfl⟩)
       refine ⟨.bool true,?_,by rw [hans],((hb5.trans (hB.mono (by omega))).setCell (p:=⟨w.heap.size+1+1,0,none⟩) (by simp;omega) _).trans (belowK_b (w:=w) (Nat.le_refl _) _ _ _ _ (by omega) hK' rfl rfl)⟩
       simp [results,Tryz.results12,go_sem,hc5]
      case stop =>
       rintro pre W hpre ⟨hbad,hbr',hB⟩ hK
       have hans:hasA k t=false:=by
        rw [xU HA,hT_cord]
        obtain ⟨r,hr⟩:=hpre
        rw [← hr,List.all_append,hbad];rfl
       gi_wp2_with fail
       refine ⟨by simp,.inl ⟨_,_,rfl,run_takeDeferred hK,?_⟩⟩
       have hc5:=cell_kept hbr'.cell (grownBy_putObj' _ _ (.deferred none)) (fun r e=>by cases e;exact ⟨_,hK,rfl⟩)
       refine ⟨.bool false,?_,by rw [hans],hB.trans (belowK_b (w:=w) (Nat.le_refl _) W _ _ _ (by omega) hK rfl rfl)⟩
       simp [results,Tryz.results12,go_sem,hc5]
     have HREST:=xH hrest;clear hrest hK0 hK1
     refine wpIn_mono (Q:=Exit.then K0 (fun _ _ _=>False)) ?_ (fun e a w h=>by cases e <;> first | exact h | exact h.elim)
     gi_region_with (first
      | ((try refine ⟨trivial,?_⟩);gi_at_call 32
         refine (callsIn_wide.2 (xU HGA w2.drew (xU HB2).drew (by have:=(xU H1).2;omega))).mono ?_
         rintro e w3 ⟨⟨y0,y1,y2,y3⟩,rfl,hn3,hb3⟩
         have HN3:=xH hn3
         have HB3:=xH (((Below.refl w2.heap.size w2).drew).trans hb3)
         obtain ⟨z0,-,⟨b3,cpa,z1,-,-⟩,⟨B2,z2,-,-⟩,b4,cpb,z3,-,-⟩:=hn3.open
         simp only at z0 z1 z2 z3
         subst z0 z1 z2 z3
         have q13:=(xU Q12).of_block ((xU HB3).block _ (by omega))
         obtain ⟨o0,o1,o2,o3,o4⟩:=cs5 q13 (by omega)
         simp only [row5] at o0 o1 o2 o3 o4
         clear hn3 hb3 q13)
      | ((try refine ⟨trivial,?_⟩);gi_at_call 31
         refine (walkC_in _ _ _ _ _ _ _ _ _ _ _ _ _ _ _ _ _ _ _).mono ?_
         rintro e w5 ⟨rfl,rfl⟩))
     all_goals exact xU HREST _ ⟨_,_,_,_⟩ (xU HN3) (xU HB3)
   · have hd2:decide (0 < pT t 1)=false:=decide_eq_false hp
     rw [hd,hd2,Bool.true_and,Bool.false_and] at hA
     have HOK2:=xU HOK;rw [hd] at HOK2
     have HOT2:=xU HOT;rw [hd2] at HOT2
     have HO:=xH HOK2;have HTT:=xH HOT2
     have HA:=xH hA
     clear HOK2 HOT2 h1 h2 hd hd2 hq hp HOK HOT hA HGA HR2
     gi_wp2_with (first
      | ((try refine ⟨trivial,?_⟩);gi_at_call 30
         try rw [hW0]
         refine (callsIn_wide.2 (xU HO)).mono ?_
         rintro e w1 ⟨rfl,hb1⟩
         have HB1:=xH ((xU HB0).trans (hb1.mono (xU HB0).size))
         have q1:=(xU HRT).of_block (hb1.block _ (by omega))
         have hs1:=hb1.size
         have HX1:=xH ((hb1.block _ (by omega)).trans (xU HBR))
         have hx1:Boxed w1 (w.heap.size+1+1) 4 (.bool false):=xU HX1
         have r0:=hx1.cell
         have r1:=hx1.frozen
         obtain ⟨t0,t1,t2,t3,t4⟩:=cs5 q1 (by omega)
         simp only [row5] at t0 t1 t2 t3 t4
         clear hb1 q1 hx1)
      | ((try refine ⟨trivial,?_⟩);gi_at_call 29
         refine (callsIn_wide.2 (xU HTT _ (xU HB1))).mono ?_
         rintro e w2 ⟨rfl,hb2⟩
         have HB2:=xH ((xU HB1).trans (hb2.mono (xU HB1).size))
         have hs2:=hb2.size
         have HX2:=xH ((hb2.block _ (by omega)).trans (xU HX1))
         have hx2:Boxed w2 (w.heap.size+1+1) 4 (.bool false):=xU HX2
         have r2:=hx2.cell
         have r3:=hx2.frozen
         clear hb2 hx2))
     have hc5:=(show Boxed w2 (w.heap.size+1+1) 4 (.bool false) from xU HX2).set (.bool false) |>.cell
     refine ⟨.bool false,?_,by rw [xU HA],(xU HB2).setCell (p:=⟨w.heap.size+1+1,0,none⟩) (by simp;omega) _⟩
     simp [results,Tryz.results12,go_sem,hc5]
 · have hd:decide (0 < qT k 1)=false:=decide_eq_false hq
   rw [hd,Bool.false_and,Bool.false_and] at hA
   have HOK2:=xU HOK;rw [hd] at HOK2
   have HO:=xH HOK2
   have HA:=xH hA
   clear HOK2 h1 h2 hd hq HOK HOT hA HGA HR2
   gi_wp2_with (first
    | ((try refine ⟨trivial,?_⟩);gi_at_call 30
       try rw [hW0]
       refine (callsIn_wide.2 (xU HO)).mono ?_
       rintro e w1 ⟨rfl,hb1⟩
       have HB1:=xH ((xU HB0).trans (hb1.mono (xU HB0).size))
       have q1:=(xU HRT).of_block (hb1.block _ (by omega))
       have hs1:=hb1.size
       have HX1:=xH ((hb1.block _ (by omega)).trans (xU HBR))
       have hx1:Boxed w1 (w.heap.size+1+1) 4 (.bool false):=xU HX1
       have r0:=hx1.cell
       have r1:=hx1.frozen
       obtain ⟨t0,t1,t2,t3,t4⟩:=cs5 q1 (by omega)
       simp only [row5] at t0 t1 t2 t3 t4
       clear hb1 q1 hx1))
   refine ⟨trivial,?_⟩
   gi_wp2_with fail
   have hc5:=(show Boxed w1 (w.heap.size+1+1) 4 (.bool false) from xU HX1).set (.bool false) |>.cell
   refine ⟨.bool false,?_,by rw [xU HA],(xU HB1).setCell (p:=⟨w.heap.size+1+1,0,none⟩) (by simp;omega) _⟩
   simp [results,Tryz.results12,go_sem,hc5]
end Go.Proofs.YteefjeddboefcaaGreatDoor

namespace Go.Proofs.YteefjeddboefcaaGreatDoor
open Go Go.RowKit
theorem GWd.at {a b:Kd} {P:Nat→Prop} {W:World} {fv:Value} (h:GWd a b P W fv) (hw:wOk 40 a b):∃ (f:Nat) (caps:Array Value),fv=.func (.func f) #[] caps∧(∀ args w,(callFunc f args).run Tryz.prog w=.ok (.enter f args) w) ∧
 ∀ W',(∀ x,P x→x < W.heap.size→W'.heap[x]? = W.heap[x]?)→∀ (t:Tr) (c:C5),Rep (fun x=>x < W'.heap.size) W' t c→(a.sort=0∨(hT t a=true∧okH t=true)) →
   Calls Tryz.prog f (#[.agg #[c.c0,c.c1,c.c2,c.c3,c.c4]]++caps) W' (TE (widF 40 a b t) W'):=by
 obtain ⟨n,h1,f,caps,h2,h3,h4⟩:=h
 refine ⟨f,caps,h2,h3,fun W' hW t c hr ht=>?_⟩
 rw [← wid_fuel n 40 a b t h1 hw]
 exact h4 W' hW t c hr ht
theorem Tab.on {w W:World} (h:Tab w) (hb:Below w.heap.size w W):Tab W:=h.of_block (hb.block _ h.lt)
theorem implKindWiden_any (a b:Kd) (t:Tr) (P Q R:Nat→Prop) (c d:C3) (x:C5) (w:World) (hE:ErrT w) (hTb:Tab w) (hP:∀ x,P x→x < w.heap.size) (hQ:∀ x,Q x→x < w.heap.size) (hR:∀ x,R x→x < w.heap.size) (ha:KRep P w a c) (hb:KRep Q w b d) (ht:Rep R w t x) (hwa:wKd a≤1048576) (hwb:wKd b≤1048576) :
 Calls Tryz.prog 9 #[.agg #[c.c0,c.c1,c.c2],.agg #[d.c0,d.c1,d.c2],.agg #[x.c0,x.c1,x.c2,x.c3,x.c4]] w (WdE (widA a b t) w):=by
 have ha':KRep (fun x=>x < w.heap.size) w a c:=KRep.carry (fun _ _=>rfl) hP _ _ ha
 have hb':KRep (fun x=>x < w.heap.size) w b d:=KRep.carry (fun _ _=>rfl) hQ _ _ hb
 have ht':Rep (fun x=>x < w.heap.size) w t x:=Rep.carry (fun _ _=>rfl) hR _ _ ht
 have hca:∀ W,Below w.heap.size w W→KRep (fun x=>x < W.heap.size) W a c:=fun W hW=>KRep.carry (fun x hx=>hW.block x hx) (fun _ hx=>Nat.lt_of_lt_of_le hx hW.size) _ _ ha'
 have hcb:∀ W,Below w.heap.size w W→KRep (fun x=>x < W.heap.size) W b d:=fun W hW=>KRep.carry (fun x hx=>hW.block x hx) (fun _ hx=>Nat.lt_of_lt_of_le hx hW.size) _ _ hb'
 have hct:∀ W,Below w.heap.size w W→Rep (fun x=>x < W.heap.size) W t x:=fun W hW=>Rep.carry (fun x hx=>hW.block x hx) (fun _ hx=>Nat.lt_of_lt_of_le hx hW.size) _ _ ht'
 have HW:Hid (∀ W T,Below w.heap.size w W→WT W T→Calls Tryz.prog 28 #[.pointer (some ⟨T,0,none⟩),.agg #[c.c0,c.c1,c.c2],.agg #[d.c0,d.c1,d.c2]] W fun e w'=>Below W.heap.size W w'∧WhE GWd a b W w' e):=fun W T hW hT =>
  ofWhole_any gWd a b (fun x=>x < W.heap.size) (fun x=>x < W.heap.size) c d W T hT (hE.on hW) (fun _ h=>h) (fun _ h=>h) (hca W hW) (hcb W hW) hwa hwb
 have HHAS:Hid (∀ W,Below w.heap.size w W→Calls Tryz.prog 12 #[.agg #[c.c0,c.c1,c.c2],.agg #[x.c0,x.c1,x.c2,x.c3,x.c4]] W fun e w'=>e=.returned (.bool (hasA a t))∧Below W.heap.size W w'):=fun W hW =>
  implKindHas_any a t _ _ c x W (fun _ h=>h) (fun _ h=>h) (hca W hW) (hct W hW) (hTb.on hW) hwa
 have HTB:Hid (∀ W,Below w.heap.size w W→Tab W):=fun W hW=>hTb.on hW
 have HCT:=xH hct
 obtain ⟨c0,c1,c2⟩:=c
 obtain ⟨d0,d1,d2⟩:=d
 obtain ⟨x0,x1,x2,x3,x4⟩:=x
 obtain ⟨e0,-,⟨a3,cap3,e1,-⟩,a4,cap4,e2,-⟩:=ha.open
 obtain ⟨g0,-,⟨b3,bap3,g1,-⟩,b4,bap4,g2,-⟩:=hb.open
 obtain ⟨q0,q1,q2,-,-,-,⟨t3,tap3,q3,-⟩,t4,tap4,q4,-⟩:=ht.open
 simp only at e0 e1 e2 g0 g1 g2 q0 q1 q2 q3 q4
 subst e0 e1 e2 g0 g1 g2 q0 q1 q2 q3 q4
 have HBX:=xH (Bx4.start w (.int .i64 a.sort) (.slice a3 a.names.length cap3) (.slice a4 a.kids.length cap4) (.int .i64 b.sort) (.slice b3 b.names.length bap3) (.slice b4 b.kids.length bap4) (.int .i64 t.sort) (.int .i64 t.num) (.string t.text) (.slice t3 t.names.length tap3) (.slice t4 t.kids.length tap4))
 clear ha hb ht ha' hb' ht' hP hQ hR hE hwa hwb hca hcb hct hTb
 go_enter Tryz.func9,Tryz.ntmps9
 go_upto_region 1 with fail
 generalize ((((w.alloc (.cells #[.int .i64 a.sort,.slice a3 a.names.length cap3,.slice a4 a.kids.length cap4] 26)).alloc (.cells #[.int .i64 b.sort,.slice b3 b.names.length bap3,.slice b4 b.kids.length bap4] 26)).alloc (.cells #[.int .i64 t.sort,.int .i64 t.num,.string t.text,.slice t3 t.names.length tap3,.slice t4 t.kids.length tap4] 29)).alloc (.cells #[.int .i64 0,.int .i64 0,.string ⟨#[]⟩,.slice none 0 0,.slice none 0 0] 29))=W0 at HBX ⊢
 obtain ⟨x0,x1,x2⟩:=cs3 ((xU HBX).bA) (by omega)
 have y0:=(xU HBX).bB.cell (i:=0) (by omega);have y1:=(xU HBX).bB.cell (i:=1) (by omega);have y2:=(xU HBX).bB.cell (i:=2) (by omega)
 simp only [row3] at x0 x1 x2 y0 y1 y2
 go_region_held3 (fun W=>W.cell? ⟨w.heap.size,0,none⟩=some (.int .i64 a.sort)∧W.cell? ⟨w.heap.size,1,none⟩=some (.slice a3 a.names.length cap3)∧W.cell? ⟨w.heap.size,2,none⟩=some (.slice a4 a.kids.length cap4)∧W.cell? ⟨w.heap.size+1,0,none⟩=some (.int .i64 b.sort)∧W.cell? ⟨w.heap.size+1,1,none⟩=some (.slice b3 b.names.length bap3)∧W.cell? ⟨w.heap.size+1,2,none⟩=some (.slice b4 b.kids.length bap4)) (first | exact ⟨x0,x1,x2,y0,y1,y2⟩ | exact HS2 | exact HS1 | go_keep)
  (first
    | (go_at_call 27
       refine (newWidenings_any W0.drew).mono ?_
       rintro e W1 ⟨rfl,hb1,ht1⟩
       have HS1:W1.cell? ⟨w.heap.size,0,none⟩=some (.int .i64 a.sort)∧W1.cell? ⟨w.heap.size,1,none⟩=some (.slice a3 a.names.length cap3)∧W1.cell? ⟨w.heap.size,2,none⟩=some (.slice a4 a.kids.length cap4)∧W1.cell? ⟨w.heap.size+1,0,none⟩=some (.int .i64 b.sort)∧W1.cell? ⟨w.heap.size+1,1,none⟩=some (.slice b3 b.names.length bap3)∧W1.cell? ⟨w.heap.size+1,2,none⟩=some (.slice b4 b.kids.length bap4):=⟨cell_onP hb1 x0,cell_onP hb1 x1,cell_onP hb1 x2,cell_onP hb1 y0,cell_onP hb1 y1,cell_onP hb1 y2⟩
       have HBX1:=xH ((xU HBX).on ((Below.refl _ W0).drew.trans hb1))
       have HT1:=xH ht1
       clear hb1 ht1)
    | (go_at_call 28
       refine (xU HW W1 _ (xU HBX1).below (xU HT1)).mono ?_
       rintro e W2 ⟨hb2,fv,rfl,hgw⟩
       have HS2:W2.cell? ⟨w.heap.size,0,none⟩=some (.int .i64 a.sort)∧W2.cell? ⟨w.heap.size,1,none⟩=some (.slice a3 a.names.length cap3)∧W2.cell? ⟨w.heap.size,2,none⟩=some (.slice a4 a.kids.length cap4)∧W2.cell? ⟨w.heap.size+1,0,none⟩=some (.int .i64 b.sort)∧W2.cell? ⟨w.heap.size+1,1,none⟩=some (.slice b3 b.names.length bap3)∧W2.cell? ⟨w.heap.size+1,2,none⟩=some (.slice b4 b.kids.length bap4):=⟨cell_onQ hb2 HS1.1,cell_onQ hb2 HS1.2.1,cell_onQ hb2 HS1.2.2.1,cell_onQ hb2 HS1.2.2.2.1,cell_onQ hb2 HS1.2.2.2.2.1,cell_onQ hb2 HS1.2.2.2.2.2⟩
       have HBX2:=xH ((xU HBX1).on hb2)
       have HGW:=xH hgw
       clear hb2 hgw))
 all_goals
  clear HS1 HS2 x0 x1 x2 y0 y1 y2 HW HBX1 HT1 HBX
  obtain ⟨x0,x1,x2⟩:=cs3 ((xU HBX2).bA) (by omega)
  have y0:=(xU HBX2).bT.cell (i:=0) (by omega);have y1:=(xU HBX2).bT.cell (i:=1) (by omega);have y2:=(xU HBX2).bT.cell (i:=2) (by omega);have y3:=(xU HBX2).bT.cell (i:=3) (by omega);have y4:=(xU HBX2).bT.cell (i:=4) (by omega)
  have m0:=(xU HBX2).bR.cell (i:=0) (by omega);have m1:=(xU HBX2).bR.cell (i:=1) (by omega);have m2:=(xU HBX2).bR.cell (i:=2) (by omega);have m3:=(xU HBX2).bR.cell (i:=3) (by omega);have m4:=(xU HBX2).bR.cell (i:=4) (by omega);have mf:=(xU HBX2).bR.frozen
  simp only [row3,row5] at x0 x1 x2 y0 y1 y2 y3 y4 m0 m1 m2 m3 m4
  by_cases hfit:fitsD a b=true
  · have HF:=xH hfit
    obtain ⟨-,hgw⟩:=xU HGW hfit
    obtain ⟨f1,f2,f3,f4,f5⟩:=fitsD_open hfit
    obtain ⟨f,caps,rfl,hent,hcall⟩:=hgw.at (wOk_of_fit 40 a b f1 f2 f4 f5)
    have HCALL:=xH hcall
    rw [hfit]
    clear hfit hgw f1 f2 f3 f4 f5 hcall HGW
    go_wp2_with fail
    refine (xU HHAS _ (xU HBX2).below).mono ?_
    rintro e W3 ⟨rfl,hb3⟩
    have HBX3:=xH ((xU HBX2).on hb3)
    have HB3:=xH hb3
    clear hb3 x0 x1 x2 y0 y1 y2 y3 y4 m0 m1 m2 m3 m4 mf
    obtain ⟨y0,y1,y2,y3,y4⟩:=cs5 ((xU HBX3).bT) (by omega)
    have m0:=(xU HBX3).bR.cell (i:=0) (by omega);have m1:=(xU HBX3).bR.cell (i:=1) (by omega);have m2:=(xU HBX3).bR.cell (i:=2) (by omega);have m3:=(xU HBX3).bR.cell (i:=3) (by omega);have m4:=(xU HBX3).bR.cell (i:=4) (by omega);have mf:=(xU HBX3).bR.frozen
    simp only [row5] at y0 y1 y2 y3 y4 m0 m1 m2 m3 m4
    by_cases hhas:hasA a t=true
    · have HH:=xH hhas
      obtain ⟨hq1,hq2⟩:=hasA_open hhas
      have HC:=xH (xU HCALL W3 (fun x _ hl=>(xU HB3).block x hl) t ⟨_,_,_,_,_⟩ (xU HCT W3 (xU HBX3).below) (Or.inr ⟨hq1,hq2⟩))
      rw [hhas]
      clear hhas hq1 hq2 HCALL HB3 HHAS
      generalize hT:widF 40 a b t=T at *
      have HT:=xH hT
      clear hT
      go_wp2_with fail
      refine (xU HC).mono ?_
      rintro e W4 ⟨d,F,rfl,ho,hnd,hF,hb4⟩
      obtain ⟨a7,cap7,a8,cap8,rfl⟩:=ho.forms
      have hbx5:=((xU HBX3).on hb4).on ((Below.refl W4.heap.size W4).alloc (Nat.le_refl _) (.cells #[.int .i64 T.sort,.int .i64 T.num,.string T.text,.slice a7 T.names.length cap7,.slice a8 T.kids.length cap8] 29))
      have hr5:=row5_alloc W4 (.int .i64 T.sort) (.int .i64 T.num) (.string T.text) (.slice a7 T.names.length cap7) (.slice a8 T.kids.length cap8) 29
      have ho5:=Own.carry T _ F (fun b hb=>Below.heap_alloc W4 (.cells #[.int .i64 T.sort,.int .i64 T.num,.string T.text,.slice a7 T.names.length cap7,.slice a8 T.kids.length cap8] 29) _ (hF b hb).2) ho
      have hlF:∀ b,b∈F→w.heap.size+4≤b∧b < (W4.alloc (.cells #[.int .i64 T.sort,.int .i64 T.num,.string T.text,.slice a7 T.names.length cap7,.slice a8 T.kids.length cap8] 29)).heap.size:=fun b hb=>by
       have h1:=hF b hb;have h2:=(xU HBX3).size
       rw [World.size_alloc];omega
      have htk:=implTreeOk_any T (·∈F) _ _ (fun b hb=>(hlF b hb).2) (Own.rep T _ F (fun _ h=>h) ho5) ((xU HTB) _ hbx5.below)
      have HTK:=xH htk;have HBX5:=xH hbx5;have HR5:=xH hr5;have HO5:=xH ho5;have HLF:=xH hlF;have HND:=xH hnd
      clear ho hnd hF hb4 hbx5 hr5 ho5 hlF htk HC m0 m1 m2 m3 m4 mf y0 y1 y2 y3 y4
      go_wp2_with fail
      generalize W4.alloc (.cells #[.int .i64 T.sort,.int .i64 T.num,.string T.text,.slice a7 T.names.length cap7,.slice a8 T.kids.length cap8] 29)=W5 at HTK HBX5 HR5 HO5 HLF ⊢
      refine (xU HTK).mono ?_
      rintro e W6 ⟨rfl,hb6⟩
      have hbx6:=(xU HBX5).on hb6
      have hr6:=(xU HR5).of_block (hb6.block _ (xU HR5).lt)
      have ho6:=Own.carry T _ F (fun b hb=>hb6.block b (xU HLF b hb).2) (xU HO5)
      have hb6s:=hb6.size
      obtain ⟨y0,y1,y2,y3,y4⟩:=cs5 hr6 (by omega)
      have m0:=hbx6.bR.cell (i:=0) (by omega);have m1:=hbx6.bR.cell (i:=1) (by omega);have m2:=hbx6.bR.cell (i:=2) (by omega);have m3:=hbx6.bR.cell (i:=3) (by omega);have m4:=hbx6.bR.cell (i:=4) (by omega);have mf:=hbx6.bR.frozen
      simp only [row5] at y0 y1 y2 y3 y4 m0 m1 m2 m3 m4
      have HBX6:=xH hbx6;have HO6:=xH ho6;have HB6S:=xH hb6s
      clear hbx6 hr6 ho6 hb6 hb6s HTK HBX5 HR5 HO5
      by_cases hp:0 < pT T 1
      · rw [decide_eq_true hp]
        have HP:=xH hp
        clear hp
        go_wp2_with fail
        refine bodyPost_ret (v:=.tuple #[.agg #[.int .i64 T.sort,.int .i64 T.num,.string T.text,.slice a7 T.names.length cap7,.slice a8 T.kids.length cap8],.bool true]) (by simp [results,Tryz.results9,go_sem,m0,m1,m2,m3,m4]) rfl ?_
        have hA:widA a b t=some T:=by
         rw [← xU HT]
         exact widA_yes (xU HF) (xU HH) (by rw [xU HT];exact xU HP)
        rw [hA]
        refine ⟨⟨_,_,_,_,_⟩,F,rfl,Own.carry T _ F (fun b hb=>heap_set5s _ _ _ _ _ _ _ _ (by have:=(xU HLF b hb).1;omega)) (xU HO6),xU HND,fun b hb=>?_,below_set5s (xU HBX6).below _ _ _ _ _ _ (by omega)⟩
        rw [size_set5s]
        have:=xU HLF b hb;have:=xU HB6S;omega
      · rw [decide_eq_false hp]
        have HN:=xH (show widA a b t=none from widA_no3 (by rw [xU HT];exact hp))
        clear hp
        go_wp2_with fail
        exact bodyPost_ret (v:=.tuple #[.agg #[.int .i64 0,.int .i64 0,.string ⟨#[]⟩,.slice none 0 0,.slice none 0 0],.bool false]) (by simp [results,Tryz.results9,go_sem,m0,m1,m2,m3,m4]) rfl (WdE.none (xU HN) (below_set5s (xU HBX6).below _ _ _ _ _ _ (by omega)))
    · have HN:=xH (widA_no2 (b:=b) (Bool.eq_false_iff.2 hhas))
      rw [Bool.eq_false_iff.2 hhas]
      clear hhas HCALL HB3 HHAS HF
      go_wp2_with fail
      exact bodyPost_ret (v:=.tuple #[.agg #[.int .i64 0,.int .i64 0,.string ⟨#[]⟩,.slice none 0 0,.slice none 0 0],.bool false]) (by simp [results,Tryz.results9,go_sem,m0,m1,m2,m3,m4]) rfl (WdE.none (xU HN) (below_set5s (xU HBX3).below _ _ _ _ _ _ (by omega)))
  · have HN:=xH (widA_no1 (t:=t) (Bool.eq_false_iff.2 hfit))
    rw [Bool.eq_false_iff.2 hfit]
    clear hfit HGW HHAS
    go_wp2_with fail
    exact bodyPost_ret (v:=.tuple #[.agg #[.int .i64 0,.int .i64 0,.string ⟨#[]⟩,.slice none 0 0,.slice none 0 0],.bool false]) (by simp [results,Tryz.results9,go_sem,m0,m1,m2,m3,m4]) rfl (WdE.none (xU HN) (below_set5s (xU HBX2).below _ _ _ _ _ _ (by omega)))
end Go.Proofs.YteefjeddboefcaaGreatDoor

namespace Go.Proofs.YteefjeddboefcaaGreatDoor
open Go Go.RowKit
end Go.Proofs.YteefjeddboefcaaGreatDoor

namespace Go.Proofs.YteefjeddboefcaaGreatDoor
open Go Go.RowKit
end Go.Proofs.YteefjeddboefcaaGreatDoor

namespace Go.Proofs.YteefjeddboefcaaGreatDoor
open Go Go.RowKit
end Go.Proofs.YteefjeddboefcaaGreatDoor

namespace Go.Proofs.YteefjeddboefcaaGreatDoor
open Go Go.RowKit
end Go.Proofs.YteefjeddboefcaaGreatDoor

namespace Go.Proofs.YteefjeddboefcaaGreatDoor
open Go Go.RowKit
end Go.Proofs.YteefjeddboefcaaGreatDoor

namespace Go.Proofs.YteefjeddboefcaaGreatDoor
open Go Go.RowKit
end Go.Proofs.YteefjeddboefcaaGreatDoor

namespace Go.Proofs.YteefjeddboefcaaGreatDoor
open Go Go.RowKit
end Go.Proofs.YteefjeddboefcaaGreatDoor

namespace Go.Proofs.YteefjeddboefcaaGreatDoor
open Go Go.RowKit
end Go.Proofs.YteefjeddboefcaaGreatDoor

namespace Go.Proofs.YteefjeddboefcaaGreatDoor
open Go Go.RowKit
end Go.Proofs.YteefjeddboefcaaGreatDoor

namespace Go.Proofs.YteefjeddboefcaaGreatDoor
open Go Go.RowKit
end Go.Proofs.YteefjeddboefcaaGreatDoor

namespace Go.Proofs.YteefjeddboefcaaGreatDoor
open Go Go.RowKit
end Go.Proofs.YteefjeddboefcaaGreatDoor

namespace Go.Proofs.YteefjeddboefcaaGreatDoor
open Go Go.RowKit
end Go.Proofs.YteefjeddboefcaaGreatDoor

namespace Go.Proofs.YteefjeddboefcaaGreatDoor
open Go Go.RowKit
end Go.Proofs.YteefjeddboefcaaGreatDoor

namespace Go.Proofs.YteefjeddboefcaaGreatDoor
open Go Go.RowKit
end Go.Proofs.YteefjeddboefcaaGreatDoor

namespace Go.Proofs.YteefjeddboefcaaGreatDoor
open Go Go.RowKit
end Go.Proofs.YteefjeddboefcaaGreatDoor

namespace Go.Proofs.YteefjeddboefcaaGreatDoor
open Go Go.RowKit
def TtSaid (n:Nat):Prop:=∀ (t:Tr),tsz t < n→∀ (P Q:Nat→Prop) (c d:C5) (w:World),(∀ b,P b→b < w.heap.size)→(∀ b,Q b→b < w.heap.size)→Rep P w t c→Rep Q w t d →
    Calls Tryz.prog 11 #[.agg #[c.c0,c.c1,c.c2,c.c3,c.c4],.agg #[d.c0,d.c1,d.c2,d.c3,d.c4]] w fun e w'=>e=.returned (.bool true)∧Below w.heap.size w w'
structure TT (w:World) (c d:C5) (wr:World):Prop where
 below:Below w.heap.size w wr
 a:wr.rowIs w.heap.size 29 5 (row5 c.c0 c.c1 c.c2 c.c3 c.c4)
 b:wr.rowIs (w.heap.size+1) 29 5 (row5 d.c0 d.c1 d.c2 d.c3 d.c4)
theorem TT.on {w:World} {c d:C5} {wr w':World} (h:TT w c d wr) (hb:Below wr.heap.size wr w'):TT w c d w' :=
 ⟨h.below.trans (hb.mono h.below.size),h.a.of_block (hb.block _ h.a.lt),h.b.of_block (hb.block _ h.b.lt)⟩
theorem TT.start (w:World) (c0 c1 c2 c3 c4 d0 d1 d2 d3 d4:Value):TT w ⟨c0,c1,c2,c3,c4⟩ ⟨d0,d1,d2,d3,d4⟩ ((w.alloc (.cells #[c0,c1,c2,c3,c4] 29)).alloc (.cells #[d0,d1,d2,d3,d4] 29)):=by
 refine ⟨((Below.refl _ _).alloc (Nat.le_refl _) _).alloc (by simp) _,(row5_alloc w c0 c1 c2 c3 c4 29).alloc _,?_⟩
 have:=row5_alloc (w.alloc (.cells #[c0,c1,c2,c3,c4] 29)) d0 d1 d2 d3 d4 29
 rw [World.size_alloc] at this
 exact this
theorem ttTree_step (n:Nat) (IH:TtSaid n):TtSaid (n+1):=by
 intro t hn P Q c d w hP hQ hrep hrep2
 obtain ⟨c0,c1,c2,c3,c4⟩:=c
 obtain ⟨d0,d1,d2,d3,d4⟩:=d
 obtain ⟨e0,e1,e2,-,-,-,hns,a4,cap4,e4,hlen,hks⟩:=hrep.open
 obtain ⟨g0,g1,g2,-,-,-,hns2,b4,dap4,g4,-,hks2⟩:=hrep2.open
 simp only at e0 e1 e2 e4 hns g0 g1 g2 g4 hns2
 obtain ⟨a3,cap3,e3,hnl,hnc⟩:=hns
 obtain ⟨b3,dap3,g3,-,hnc2⟩:=hns2
 subst e0 e1 e2 e3 e4 g0 g1 g2 g3 g4
 have htt:=TT.start w (.int .i64 t.sort) (.int .i64 t.num) (.string t.text) (.slice a3 t.names.length cap3) (.slice a4 t.kids.length cap4) (.int .i64 t.sort) (.int .i64 t.num) (.string t.text) (.slice b3 t.names.length dap3) (.slice b4 t.kids.length dap4)
 have HN:=xH hnc;have HN2:=xH hnc2;have HK:=xH hks;have HK2:=xH hks2;have HP:=xH hP;have HQ:=xH hQ;have HI:=xH IH
 have hkid:∀ i,(hi:i < t.kids.length)→tsz t.kids[i] < n:=fun i hi=>by have:=tsz_kid (List.getElem_mem hi);omega
 have HKS:=xH hkid
 clear hnc hnc2 hks hks2 hP hQ IH hrep hrep2 hkid hn
 generalize t.names=ns at *
 generalize t.kids=ks at *
 generalize t.sort=s0 at *
 generalize t.num=s1 at *
 generalize t.text=s2 at *
 obtain ⟨q0,q1,q2,q3,q4⟩:=cs5 htt.a (by omega)
 have r0:=htt.b.cell (i:=0) (by omega);have r1:=htt.b.cell (i:=1) (by omega);have r2:=htt.b.cell (i:=2) (by omega);have r3:=htt.b.cell (i:=3) (by omega);have r4:=htt.b.cell (i:=4) (by omega)
 simp only [row5] at q0 q1 q2 q3 q4 r0 r1 r2 r3 r4
 have HT:=xH htt
 clear htt
 go_enter Tryz.func11,Tryz.ntmps11
 go_wp2_with fail
 clear q0 q1 q2 q3 q4 r0 r1 r2 r3 r4
 go_loopw [5] (fun i wr=>∃ (k:Nat),k≤ns.length∧i=.int .i64 k∧Hid (TT w ⟨.int .i64 s0,.int .i64 s1,.string s2,.slice a3 ns.length cap3,.slice a4 ks.length cap4⟩ ⟨.int .i64 s0,.int .i64 s1,.string s2,.slice b3 ns.length dap3,.slice b4 ks.length dap4⟩ wr)) (fun i _=>ns.length - (intOf i).toNat)
 case atStart=>exact ⟨0,Nat.zero_le _,rfl,HT⟩
 case round =>
  clear HT
  obtain ⟨k,hk,rfl,HT⟩:=hrel
  have q3:=HT.out.a.cell (i:=3) (by omega);have r3:=HT.out.b.cell (i:=3) (by omega)
  simp only [row5] at q3 r3
  by_cases hlt:k < ns.length
  · obtain ⟨x,o,rfl,hpb,hcell,-⟩:=xU HN k hlt
    obtain ⟨x2,o2,rfl,hpb2,hcell2,-⟩:=xU HN2 k hlt
    have e1:wr.cell? ⟨x,o+k,none⟩=some (.string ns[k]):=by rw [HT.out.below.cell (xU HP x hpb)];exact hcell
    have e2:wr.cell? ⟨x2,o2+k,none⟩=some (.string ns[k]):=by rw [HT.out.below.cell (xU HQ x2 hpb2)];exact hcell2
    have HT2:=xH (HT.out.on (Below.refl _ wr).drew)
    have HTN:=xH (fun m=>HT.out.on (show Below wr.heap.size wr (wr.drewN m) from ⟨rfl,rfl,rfl,Nat.le_refl _,fun _ _=>rfl⟩))
    have hix:(k:Int) < (ns.length:Int):=by omega
    clear hcell hcell2 hpb hpb2 HT
    go_wp2_with fail
    go_quiet (fail)
    go_wp2_with fail
    go_roundw
    case rel=>exact ⟨k+1,by omega,by go_num,xU HTN _⟩
    case measure=>simp [intOf];omega
  · go_wp2_with fail
    go_loopw [6] (fun i wr=>∃ (k:Nat),k≤ks.length∧i=.int .i64 k∧Hid (TT w ⟨.int .i64 s0,.int .i64 s1,.string s2,.slice a3 ns.length cap3,.slice a4 ks.length cap4⟩ ⟨.int .i64 s0,.int .i64 s1,.string s2,.slice b3 ns.length dap3,.slice b4 ks.length dap4⟩ wr)) (fun i _=>ks.length - (intOf i).toNat)
    case atStart=>exact ⟨0,Nat.zero_le _,rfl,HT⟩
    case round =>
     clear HT q3 r3
     obtain ⟨k,hk,rfl,HT⟩:=hrel
     have q4:=HT.out.a.cell (i:=4) (by omega);have r4:=HT.out.b.cell (i:=4) (by omega)
     simp only [row5] at q4 r4
     by_cases hlt:k < ks.length
     · obtain ⟨x,o,c,rfl,hpb,hcell,hrep⟩:=xU HK k hlt
       obtain ⟨x2,o2,d,rfl,hpb2,hcell2,hrep2⟩:=xU HK2 k hlt
       have hcell':=hcell.carry (HT.out.below.block x (xU HP x hpb))
       have hcell2':=hcell2.carry (HT.out.below.block x2 (xU HQ x2 hpb2))
       obtain ⟨c0,c1,c2,c3,c4⟩:=c
       obtain ⟨d0,d1,d2,d3,d4⟩:=d
       obtain ⟨e0,e1,e2,e3,e4⟩:=hcell'
       obtain ⟨g0,g1,g2,g3,g4⟩:=hcell2'
       simp only at e0 e1 e2 e3 e4 g0 g1 g2 g3 g4
       have hbd:=HT.out.below.drew
       have hcall:=xU HI ks[k] (xU HKS k hlt) P Q ⟨c0,c1,c2,c3,c4⟩ ⟨d0,d1,d2,d3,d4⟩ wr.drew (fun b hb'=>Nat.lt_of_lt_of_le (xU HP b hb') hbd.size) (fun b hb'=>Nat.lt_of_lt_of_le (xU HQ b hb') hbd.size) (Rep.carry (w':=wr.drew) (fun b hb'=>hbd.block b (xU HP b hb')) (fun _ h=>h) _ _ hrep) (Rep.carry (w':=wr.drew) (fun b hb'=>hbd.block b (xU HQ b hb')) (fun _ h=>h) _ _ hrep2)
       have HCALL:=xH hcall
       have hix:(k:Int) < (ks.length:Int):=by omega
       clear hrep hcell hpb hrep2 hcell2 hpb2 hcall hbd
       go_wp2_with fail
       go_region_with (go_at_call 11;refine (xU HCALL).mono ?_;rintro e w' ⟨rfl,hb'⟩)
       all_goals
        have HT2:=xH (HT.out.on ((Below.refl _ wr).drew.trans hb'))
        go_wp2_with fail
        go_roundw
        case rel=>exact ⟨k+1,by omega,by go_num,HT2⟩
        case measure=>simp [intOf];omega
     · go_wp2_with fail
       go_ret
       exact ⟨rfl,HT.out.below⟩
theorem ttTree_all:∀ n,TtSaid n
 | 0=>fun t h=>by omega
 | n+1=>ttTree_step n (ttTree_all n)
theorem ttTree_any (t:Tr) (P Q:Nat→Prop) (c d:C5) (w:World) (hP:∀ b,P b→b < w.heap.size) (hQ:∀ b,Q b→b < w.heap.size) (h1:Rep P w t c) (h2:Rep Q w t d) :
 Calls Tryz.prog 11 #[.agg #[c.c0,c.c1,c.c2,c.c3,c.c4],.agg #[d.c0,d.c1,d.c2,d.c3,d.c4]] w fun e w'=>e=.returned (.bool true)∧Below w.heap.size w w' :=
 ttTree_all (tsz t+1) t (by omega) P Q c d w hP hQ h1 h2
end Go.Proofs.YteefjeddboefcaaGreatDoor

namespace Go.Proofs.YteefjeddboefcaaGreatDoor
open Go Go.RowKit
end Go.Proofs.YteefjeddboefcaaGreatDoor

namespace Go.Proofs.YteefjeddboefcaaGreatDoor
open Go Go.RowKit
end Go.Proofs.YteefjeddboefcaaGreatDoor

namespace Go.Proofs.YteefjeddboefcaaGreatDoor
open Go Go.RowKit
end Go.Proofs.YteefjeddboefcaaGreatDoor

namespace Go.Proofs.YteefjeddboefcaaGreatDoor
open Go Go.RowKit
end Go.Proofs.YteefjeddboefcaaGreatDoor

namespace Go.Proofs.YteefjeddboefcaaGreatDoor
open Go Go.RowKit
end Go.Proofs.YteefjeddboefcaaGreatDoor

namespace Go.Proofs.YteefjeddboefcaaGreatDoor
open Go Go.RowKit
def alike (v v':Value):Prop:=(∃ n m,v=.int .i64 n∧v'=.int .i64 m)∨(∃ s s',v=.string s∧v'=.string s')∨v'=v∨(∃ x y,v=.bool x∧v'=.bool y)
end Go.Proofs.YteefjeddboefcaaGreatDoor

namespace Go.Proofs.YteefjeddboefcaaGreatDoor
open Go Go.RowKit
end Go.Proofs.YteefjeddboefcaaGreatDoor

namespace Go.Proofs.YteefjeddboefcaaGreatDoor
open Go Go.RowKit
end Go.Proofs.YteefjeddboefcaaGreatDoor

namespace Go.Proofs.YteefjeddboefcaaGreatDoor
open Go Go.RowKit
end Go.Proofs.YteefjeddboefcaaGreatDoor

namespace Go.Proofs.YteefjeddboefcaaGreatDoor
open Go Go.RowKit
end Go.Proofs.YteefjeddboefcaaGreatDoor

namespace Go.Proofs.YteefjeddboefcaaGreatDoor
open Go Go.RowKit
end Go.Proofs.YteefjeddboefcaaGreatDoor

namespace Go.Proofs.YteefjeddboefcaaGreatDoor
open Go Go.RowKit
end Go.Proofs.YteefjeddboefcaaGreatDoor

namespace Go.Proofs.YteefjeddboefcaaGreatDoor
open Go Go.RowKit
end Go.Proofs.YteefjeddboefcaaGreatDoor

namespace Go.Proofs.YteefjeddboefcaaGreatDoor
open Go Go.RowKit
end Go.Proofs.YteefjeddboefcaaGreatDoor

namespace Go.Proofs.YteefjeddboefcaaGreatDoor
open Go Go.RowKit
end Go.Proofs.YteefjeddboefcaaGreatDoor

namespace Go.Proofs.YteefjeddboefcaaGreatDoor
open Go Go.RowKit
end Go.Proofs.YteefjeddboefcaaGreatDoor

namespace Go.Proofs.YteefjeddboefcaaGreatDoor
open Go Go.RowKit
end Go.Proofs.YteefjeddboefcaaGreatDoor

namespace Go.Proofs.YteefjeddboefcaaGreatDoor
open Go Go.RowKit
end Go.Proofs.YteefjeddboefcaaGreatDoor

namespace Go.Proofs.YteefjeddboefcaaGreatDoor
open Go Go.RowKit
theorem WdE.rep {o:Option Tr} {w w':World} {e:Ending} (h:WdE o w e w'):∃ dW:C5,e=.returned (.tuple #[.agg #[dW.c0,dW.c1,dW.c2,dW.c3,dW.c4],.bool o.isSome])∧Rep (New w w') w' (wAn o) dW∧Below w.heap.size w w':=by
 obtain ⟨d,F,he,ho,-,hF,hb⟩:=h
 exact ⟨d,he,Own.rep _ _ _ hF ho,hb⟩
end Go.Proofs.YteefjeddboefcaaGreatDoor
