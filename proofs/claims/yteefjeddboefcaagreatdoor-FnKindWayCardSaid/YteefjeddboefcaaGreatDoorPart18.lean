/- A part. -/
import Derived.Test.YteefjeddboefcaaGreatDoorPart17
import Derived.Stop.Asserts
set_option maxRecDepth 100000
set_option maxHeartbeats 4000000
namespace Go.Proofs.YteefjeddboefcaaGreatDoor
open Go Go.RowKit
structure CK (V0 V1 W:World):Prop where
 size:V1.heap.size≤W.heap.size
 block:∀ b,V0.heap.size≤b→b < V1.heap.size→W.heap[b]? = V1.heap[b]?
def Ap (V0 V1:World) (g:Nat):Prop:=g < V0.heap.size∨V1.heap.size≤g
theorem CK.refl (V0 V1:World):CK V0 V1 V1:=⟨Nat.le_refl _,fun _ _ _=>rfl⟩
theorem CK.alloc {V0 V1 W:World} (h:CK V0 V1 W) (o:Obj):CK V0 V1 (W.alloc o):=⟨by rw [World.size_alloc];exact Nat.le_succ_of_le h.size,fun b h0 h1=>(Below.heap_alloc _ _ _ (Nat.lt_of_lt_of_le h1 h.size)).trans (h.block b h0 h1)⟩
theorem CK.set {V0 V1 W:World} (h:CK V0 V1 W) {g:Nat} (hg:Ap V0 V1 g) (v:Value):CK V0 V1 (W.setCell ⟨g,0,none⟩ v):=by
 refine ⟨by simpa [World.setCell] using h.size,fun b h0 h1=>?_⟩
 rw [Below.heap_setCell _ _ _ _ ?_]
 · exact h.block b h0 h1
 · intro e
   have e2:b=g:=by simpa using e
   rcases hg with hg | hg <;> omega
theorem stStrs {w:World} {g:Nat} {f:Nat→Value} (h:w.rowIs g 23 1 f) (a:Option Addr) (l c:Nat):(Instr.storeAt 23 (.pointer (some ⟨g,0,none⟩)) (.slice a l c)).run Tryz.prog w=.ok () (w.setCell ⟨g,0,none⟩ (.slice a l c)):=by
 have h1:=h.cell (i:=0) (by omega)
 have h2:=h.frozen 0
 simp [Instr.storeAt,Instr.sureAddr,storeVar,storeCells,Value.cells,go_sem,h1,h2]
theorem stFns {w:World} {g:Nat} {f:Nat→Value} (h:w.rowIs g 126 1 f) (a:Option Addr) (l c:Nat):(Instr.storeAt 126 (.pointer (some ⟨g,0,none⟩)) (.slice a l c)).run Tryz.prog w=.ok () (w.setCell ⟨g,0,none⟩ (.slice a l c)):=by
 have h1:=h.cell (i:=0) (by omega)
 have h2:=h.frozen 0
 simp [Instr.storeAt,Instr.sureAddr,storeVar,storeCells,Value.cells,go_sem,h1,h2]
theorem row1_alloc (w:World) (v:Value) (t:TypeId):(w.alloc (.cells #[v] t)).rowIs w.heap.size t 1 (fun _=>v):=World.rowIs_alloc w #[v] t (fun _=>v) (fun i hi=>by
 have hi':i < 1:=hi
 obtain rfl:i=0:=by omega
 rfl)
theorem below_set1 {B W:World} {g:Nat} (h:Below B.heap.size B W) (hg:B.heap.size≤g) (v:Value):Below B.heap.size B (W.setCell ⟨g,0,none⟩ v):=h.setCell hg v
noncomputable def fmOps:Array Oper:=fops Tryz.f51 1
theorem fm_neat:Region.noSelect fmOps=true∧neat fmOps=true:=⟨by kernel_rfl,by kernel_rfl⟩
theorem fm1 (A C T:Nat) (c0 c1 c2 d0 d1 d2:Value) (path:ByteArray) (E:World→World→Option Addr→Nat→Nat→Option Addr→Nat→Nat→Value→Prop) (W0:World) {l:List Value} (Q:Exit→Act→World→Prop) (hQ:∀ c a d v w,Q (.panic c) (Act.put a d v) w→Q (.panic c) a w) (hA:W0.drew.rowIs A 26 3 (row3 c0 c1 c2)) (hC:W0.drew.rowIs C 26 3 (row3 d0 d1 d2))
 (HK:∀ W,Below W0.drew.heap.size W0.drew W→Calls Tryz.prog 74 #[.pointer (some ⟨T,0,none⟩),.agg #[c0,c1,c2],.agg #[d0,d1,d2],.string path] W fun e w'=>Below W.heap.size W w'∧∃ na nl nc fa fl fc er,e=.returned (.tuple #[.slice na nl nc,.slice fa fl fc,er])∧E W w' na nl nc fa fl fc er)
 (hl:lookL [(0,.pointer (some ⟨T,0,none⟩)),(3,.string path),(5,.pointer (some ⟨A,0,none⟩)),(6,.pointer (some ⟨C,0,none⟩))] l=(26,([(0,.pointer (some ⟨T,0,none⟩)),(3,.string path),(5,.pointer (some ⟨A,0,none⟩)),(6,.pointer (some ⟨C,0,none⟩))]:List (Nat × Value)).map (·.2)))
 (hend:∀ (u:Nat→Value) (V0 V1 W:World) (na fa:Option Addr) (nl nc fl fc:Nat) (er:Value) (g1 g2:Nat),Below W0.drew.heap.size W0.drew V0→E V0 V1 na nl nc fa fl fc er→Below W0.drew.heap.size W0.drew W→CK V0 V1 W→W.rowIs g1 23 1 (fun i=>if i=0 then .slice na nl nc else .slice none 0 0)→W.rowIs g2 126 1 (fun i=>if i=0 then .slice fa fl fc else .slice none 0 0)→W0.drew.heap.size≤g1→W0.drew.heap.size≤g2→g1≠g2→Q .normal ⟨(frL u 26 [(10,.pointer (some ⟨g1,0,none⟩)),(11,.pointer (some ⟨g2,0,none⟩)),(12,er)]).toArray,[]⟩ W):(Code.region 1 fmOps true).wp Tryz.prog Q ⟨l.toArray,[]⟩ W0:=by
 obtain ⟨v0,rfl⟩:=look_fr hl
 have hq:NtQ fmOps Q:=⟨fm_neat,hQ⟩
 refine T_start (S:=fun W=>Below W0.drew.heap.size W0.drew W) (by kernel_rfl) (Below.refl _ _) ?_
 clear hl hQ
 generalize W0.drew=B at hA hC HK hend ⊢
 have X111:∀ (u:Nat→Value) (W:World) (hW:Below B.heap.size B W) (V0 V1:World) (na fa:Option Addr) (nl nc fl fc:Nat) (er:Value) (hV:Below B.heap.size B V0) (hE:E V0 V1 na nl nc fa fl fc er) (hck:CK V0 V1 W) (g1:Nat) (hg1:W.rowIs g1 23 1 (fun _=>.slice none 0 0)) (hb1:B.heap.size≤g1) (ha1:Ap V0 V1 g1) (g2:Nat) (hg2:W.rowIs g2 126 1 (fun _=>.slice none 0 0)) (hb2:B.heap.size≤g2) (ha2:Ap V0 V1 g2) (hne:g1≠g2) ,wpS Tryz.prog fmOps Q (fun W=>Below B.heap.size B W) (unl 16 [13,14,15],frL u 26 [(5,.pointer (some ⟨A,0,none⟩)),(6,.pointer (some ⟨C,0,none⟩)),(10,.pointer (some ⟨g1,0,none⟩)),(11,.pointer (some ⟨g2,0,none⟩)),(21,.slice na nl nc),(22,.slice fa fl fc),(23,er)]) [] W:=by
  intro u W hW V0 V1 na fa nl nc fl fc er hV hE hck g1 hg1 hb1 ha1 g2 hg2 hb2 ha2 hne
  refine T_one 13 (by kernel_rfl) fun _=>?_
  refine O_store none 23 (.tmp 10) (.tmp 21) ⟨g1,0,none⟩ (.slice na nl nc) (W.setCell ⟨g1,0,none⟩ (.slice na nl nc)) (by kernel_rfl) (by kernel_rfl) (by kernel_rfl) (stStrs hg1 na nl nc) (below_set1 hW hb1 _) ?_
  refine T_fr 16 26 [14,15] [(5,.pointer (some ⟨A,0,none⟩)),(6,.pointer (some ⟨C,0,none⟩)),(10,.pointer (some ⟨g1,0,none⟩)),(11,.pointer (some ⟨g2,0,none⟩)),(21,.slice na nl nc),(22,.slice fa fl fc),(23,er)] (by kernel_rfl) fun u=>?_
  refine T_one 14 (by kernel_rfl) fun _=>?_
  have hg2':=hg2.setOther (a:=⟨g1,0,none⟩) (fun e=>hne e.symm) (.slice na nl nc)
  refine O_store none 126 (.tmp 11) (.tmp 22) ⟨g2,0,none⟩ (.slice fa fl fc) ((W.setCell ⟨g1,0,none⟩ (.slice na nl nc)).setCell ⟨g2,0,none⟩ (.slice fa fl fc)) (by kernel_rfl) (by kernel_rfl) (by kernel_rfl) (stFns hg2' fa fl fc) (below_set1 (below_set1 hW hb1 _) hb2 _) ?_
  refine T_z hq [15] (by kernel_rfl) ?_
  refine T_end 26 [(10,.pointer (some ⟨g1,0,none⟩)),(11,.pointer (some ⟨g2,0,none⟩)),(12,er)] (by kernel_rfl) (by kernel_rfl) fun _ u=>hend u V0 V1 _ na fa nl nc fl fc er g1 g2 hV hE (below_set1 (below_set1 hW hb1 _) hb2 _) ((hck.set ha1 _).set ha2 _) ?_ ?_ hb1 hb2 hne
  · have h1:=hg1.set 0 (.slice na nl nc)
    exact h1.setOther (a:=⟨g2,0,none⟩) (fun e=>hne e) (.slice fa fl fc)
  · exact hg2'.set 0 (.slice fa fl fc)
 have X110:∀ (u:Nat→Value) (W:World) (hW:Below B.heap.size B W) (V0 V1:World) (na fa:Option Addr) (nl nc fl fc:Nat) (er:Value) (hV:Below B.heap.size B V0) (hE:E V0 V1 na nl nc fa fl fc er) (hck:CK V0 V1 W) (g1:Nat) (hg1:W.rowIs g1 23 1 (fun _=>.slice none 0 0)) (hb1:B.heap.size≤g1) (ha1:Ap V0 V1 g1) ,wpS Tryz.prog fmOps Q (fun W=>Below B.heap.size B W) (unl 16 [12,13,14,15],frL u 26 [(5,.pointer (some ⟨A,0,none⟩)),(6,.pointer (some ⟨C,0,none⟩)),(10,.pointer (some ⟨g1,0,none⟩)),(21,.slice na nl nc),(22,.slice fa fl fc),(23,er)]) [] W:=by
  intro u W hW V0 V1 na fa nl nc fl fc er hV hE hck g1 hg1 hb1 ha1 
  refine T_one 12 (by kernel_rfl) fun _=>?_
  · exact O_val (w':=W.alloc (.cells #[.slice none 0 0] 126)) (some 11) (.pointer (some ⟨W.heap.size,0,none⟩)) (by kernel_rfl) (by kernel_rfl) (hW.alloc hW.size _) (T_fr 16 26 [13,14,15] [(5,.pointer (some ⟨A,0,none⟩)),(6,.pointer (some ⟨C,0,none⟩)),(10,.pointer (some ⟨g1,0,none⟩)),(11,.pointer (some ⟨W.heap.size,0,none⟩)),(21,.slice na nl nc),(22,.slice fa fl fc),(23,er)] (by kernel_rfl) fun u=>X111 u _ (hW.alloc hW.size _) V0 V1 na fa nl nc fl fc er hV hE (hck.alloc _) g1 (hg1.alloc _) hb1 ha1 _ (row1_alloc W _ _) hW.size (Or.inr hck.size) (by have:=hg1.lt;omega))
 have X101:∀ (u:Nat→Value) (W:World) (hW:Below B.heap.size B W) (V0 V1:World) (na fa:Option Addr) (nl nc fl fc:Nat) (er:Value) (hV:Below B.heap.size B V0) (hE:E V0 V1 na nl nc fa fl fc er) (hck:CK V0 V1 W) (g2:Nat) (hg2:W.rowIs g2 126 1 (fun _=>.slice none 0 0)) (hb2:B.heap.size≤g2) (ha2:Ap V0 V1 g2) ,wpS Tryz.prog fmOps Q (fun W=>Below B.heap.size B W) (unl 16 [11,13,14,15],frL u 26 [(5,.pointer (some ⟨A,0,none⟩)),(6,.pointer (some ⟨C,0,none⟩)),(11,.pointer (some ⟨g2,0,none⟩)),(21,.slice na nl nc),(22,.slice fa fl fc),(23,er)]) [] W:=by
  intro u W hW V0 V1 na fa nl nc fl fc er hV hE hck g2 hg2 hb2 ha2 
  refine T_one 11 (by kernel_rfl) fun _=>?_
  · exact O_val (w':=W.alloc (.cells #[.slice none 0 0] 23)) (some 10) (.pointer (some ⟨W.heap.size,0,none⟩)) (by kernel_rfl) (by kernel_rfl) (hW.alloc hW.size _) (T_fr 16 26 [13,14,15] [(5,.pointer (some ⟨A,0,none⟩)),(6,.pointer (some ⟨C,0,none⟩)),(10,.pointer (some ⟨W.heap.size,0,none⟩)),(11,.pointer (some ⟨g2,0,none⟩)),(21,.slice na nl nc),(22,.slice fa fl fc),(23,er)] (by kernel_rfl) fun u=>X111 u _ (hW.alloc hW.size _) V0 V1 na fa nl nc fl fc er hV hE (hck.alloc _) _ (row1_alloc W _ _) hW.size (Or.inr hck.size) g2 (hg2.alloc _) hb2 ha2 (by have:=hg2.lt;omega))
 have X100:∀ (u:Nat→Value) (W:World) (hW:Below B.heap.size B W) (V0 V1:World) (na fa:Option Addr) (nl nc fl fc:Nat) (er:Value) (hV:Below B.heap.size B V0) (hE:E V0 V1 na nl nc fa fl fc er) (hck:CK V0 V1 W) ,wpS Tryz.prog fmOps Q (fun W=>Below B.heap.size B W) (unl 16 [11,12,13,14,15],frL u 26 [(5,.pointer (some ⟨A,0,none⟩)),(6,.pointer (some ⟨C,0,none⟩)),(21,.slice na nl nc),(22,.slice fa fl fc),(23,er)]) [] W:=by
  intro u W hW V0 V1 na fa nl nc fl fc er hV hE hck 
  refine T_two 11 12 (by kernel_rfl) (fun _=>?_) fun _=>?_
  · exact O_val (w':=W.alloc (.cells #[.slice none 0 0] 23)) (some 10) (.pointer (some ⟨W.heap.size,0,none⟩)) (by kernel_rfl) (by kernel_rfl) (hW.alloc hW.size _) (T_fr 16 26 [12,13,14,15] [(5,.pointer (some ⟨A,0,none⟩)),(6,.pointer (some ⟨C,0,none⟩)),(10,.pointer (some ⟨W.heap.size,0,none⟩)),(21,.slice na nl nc),(22,.slice fa fl fc),(23,er)] (by kernel_rfl) fun u=>X110 u _ (hW.alloc hW.size _) V0 V1 na fa nl nc fl fc er hV hE (hck.alloc _) _ (row1_alloc W _ _) hW.size (Or.inr hck.size) )
  · exact O_val (w':=W.alloc (.cells #[.slice none 0 0] 126)) (some 11) (.pointer (some ⟨W.heap.size,0,none⟩)) (by kernel_rfl) (by kernel_rfl) (hW.alloc hW.size _) (T_fr 16 26 [11,13,14,15] [(5,.pointer (some ⟨A,0,none⟩)),(6,.pointer (some ⟨C,0,none⟩)),(11,.pointer (some ⟨W.heap.size,0,none⟩)),(21,.slice na nl nc),(22,.slice fa fl fc),(23,er)] (by kernel_rfl) fun u=>X101 u _ (hW.alloc hW.size _) V0 V1 na fa nl nc fl fc er hV hE (hck.alloc _) _ (row1_alloc W _ _) hW.size (Or.inr hck.size) )
 have X011:∀ (u:Nat→Value) (W:World) (hW:Below B.heap.size B W) (g1:Nat) (hg1:W.rowIs g1 23 1 (fun _=>.slice none 0 0)) (hb1:B.heap.size≤g1) (g2:Nat) (hg2:W.rowIs g2 126 1 (fun _=>.slice none 0 0)) (hb2:B.heap.size≤g2) (hne:g1≠g2) ,wpS Tryz.prog fmOps Q (fun W=>Below B.heap.size B W) (unl 16 [6,7,8,9,10,13,14,15],frL u 26 [(5,.pointer (some ⟨A,0,none⟩)),(6,.pointer (some ⟨C,0,none⟩)),(10,.pointer (some ⟨g1,0,none⟩)),(11,.pointer (some ⟨g2,0,none⟩)),(16,.pointer (some ⟨T,0,none⟩)),(17,.agg #[c0,c1,c2]),(18,.agg #[d0,d1,d2]),(19,.string path)]) [] W:=by
  intro u W hW g1 hg1 hb1 g2 hg2 hb2 hne
  refine T_one 6 (by kernel_rfl) fun _=>?_
  · refine O_go (HK W hW) (by kernel_rfl) ?_
    rintro e W1 ⟨hb,na,nl,nc,fa,fl,fc,er,rfl,hE⟩
    exact ⟨_,rfl,below_onf hW hb,T_z hq [7,8,9,10] (by kernel_rfl) (T_fr 16 26 [13,14,15] [(5,.pointer (some ⟨A,0,none⟩)),(6,.pointer (some ⟨C,0,none⟩)),(10,.pointer (some ⟨g1,0,none⟩)),(11,.pointer (some ⟨g2,0,none⟩)),(21,.slice na nl nc),(22,.slice fa fl fc),(23,er)] (by kernel_rfl) fun u=>X111 u W1 (below_onf hW hb) W W1 na fa nl nc fl fc er hW hE (CK.refl _ _) g1 (hg1.of_block (hb.block _ hg1.lt)) hb1 (Or.inl hg1.lt) g2 (hg2.of_block (hb.block _ hg2.lt)) hb2 (Or.inl hg2.lt) hne)⟩
 have X010:∀ (u:Nat→Value) (W:World) (hW:Below B.heap.size B W) (g1:Nat) (hg1:W.rowIs g1 23 1 (fun _=>.slice none 0 0)) (hb1:B.heap.size≤g1) ,wpS Tryz.prog fmOps Q (fun W=>Below B.heap.size B W) (unl 16 [6,7,8,9,10,12,13,14,15],frL u 26 [(5,.pointer (some ⟨A,0,none⟩)),(6,.pointer (some ⟨C,0,none⟩)),(10,.pointer (some ⟨g1,0,none⟩)),(16,.pointer (some ⟨T,0,none⟩)),(17,.agg #[c0,c1,c2]),(18,.agg #[d0,d1,d2]),(19,.string path)]) [] W:=by
  intro u W hW g1 hg1 hb1 
  refine T_two 6 12 (by kernel_rfl) (fun _=>?_) fun _=>?_
  · refine O_go (HK W hW) (by kernel_rfl) ?_
    rintro e W1 ⟨hb,na,nl,nc,fa,fl,fc,er,rfl,hE⟩
    exact ⟨_,rfl,below_onf hW hb,T_z hq [7,8,9,10] (by kernel_rfl) (T_fr 16 26 [12,13,14,15] [(5,.pointer (some ⟨A,0,none⟩)),(6,.pointer (some ⟨C,0,none⟩)),(10,.pointer (some ⟨g1,0,none⟩)),(21,.slice na nl nc),(22,.slice fa fl fc),(23,er)] (by kernel_rfl) fun u=>X110 u W1 (below_onf hW hb) W W1 na fa nl nc fl fc er hW hE (CK.refl _ _) g1 (hg1.of_block (hb.block _ hg1.lt)) hb1 (Or.inl hg1.lt) )⟩
  · exact O_val (w':=W.alloc (.cells #[.slice none 0 0] 126)) (some 11) (.pointer (some ⟨W.heap.size,0,none⟩)) (by kernel_rfl) (by kernel_rfl) (hW.alloc hW.size _) (T_fr 16 26 [6,7,8,9,10,13,14,15] [(5,.pointer (some ⟨A,0,none⟩)),(6,.pointer (some ⟨C,0,none⟩)),(10,.pointer (some ⟨g1,0,none⟩)),(11,.pointer (some ⟨W.heap.size,0,none⟩)),(16,.pointer (some ⟨T,0,none⟩)),(17,.agg #[c0,c1,c2]),(18,.agg #[d0,d1,d2]),(19,.string path)] (by kernel_rfl) fun u=>X011 u _ (hW.alloc hW.size _) g1 (hg1.alloc _) hb1 _ (row1_alloc W _ _) hW.size (by have:=hg1.lt;omega))
 have X001:∀ (u:Nat→Value) (W:World) (hW:Below B.heap.size B W) (g2:Nat) (hg2:W.rowIs g2 126 1 (fun _=>.slice none 0 0)) (hb2:B.heap.size≤g2) ,wpS Tryz.prog fmOps Q (fun W=>Below B.heap.size B W) (unl 16 [6,7,8,9,10,11,13,14,15],frL u 26 [(5,.pointer (some ⟨A,0,none⟩)),(6,.pointer (some ⟨C,0,none⟩)),(11,.pointer (some ⟨g2,0,none⟩)),(16,.pointer (some ⟨T,0,none⟩)),(17,.agg #[c0,c1,c2]),(18,.agg #[d0,d1,d2]),(19,.string path)]) [] W:=by
  intro u W hW g2 hg2 hb2 
  refine T_two 6 11 (by kernel_rfl) (fun _=>?_) fun _=>?_
  · refine O_go (HK W hW) (by kernel_rfl) ?_
    rintro e W1 ⟨hb,na,nl,nc,fa,fl,fc,er,rfl,hE⟩
    exact ⟨_,rfl,below_onf hW hb,T_z hq [7,8,9,10] (by kernel_rfl) (T_fr 16 26 [11,13,14,15] [(5,.pointer (some ⟨A,0,none⟩)),(6,.pointer (some ⟨C,0,none⟩)),(11,.pointer (some ⟨g2,0,none⟩)),(21,.slice na nl nc),(22,.slice fa fl fc),(23,er)] (by kernel_rfl) fun u=>X101 u W1 (below_onf hW hb) W W1 na fa nl nc fl fc er hW hE (CK.refl _ _) g2 (hg2.of_block (hb.block _ hg2.lt)) hb2 (Or.inl hg2.lt) )⟩
  · exact O_val (w':=W.alloc (.cells #[.slice none 0 0] 23)) (some 10) (.pointer (some ⟨W.heap.size,0,none⟩)) (by kernel_rfl) (by kernel_rfl) (hW.alloc hW.size _) (T_fr 16 26 [6,7,8,9,10,13,14,15] [(5,.pointer (some ⟨A,0,none⟩)),(6,.pointer (some ⟨C,0,none⟩)),(10,.pointer (some ⟨W.heap.size,0,none⟩)),(11,.pointer (some ⟨g2,0,none⟩)),(16,.pointer (some ⟨T,0,none⟩)),(17,.agg #[c0,c1,c2]),(18,.agg #[d0,d1,d2]),(19,.string path)] (by kernel_rfl) fun u=>X011 u _ (hW.alloc hW.size _) _ (row1_alloc W _ _) hW.size g2 (hg2.alloc _) hb2 (by have:=hg2.lt;omega))
 have X000:∀ (u:Nat→Value) (W:World) (hW:Below B.heap.size B W) ,wpS Tryz.prog fmOps Q (fun W=>Below B.heap.size B W) (unl 16 [6,7,8,9,10,11,12,13,14,15],frL u 26 [(5,.pointer (some ⟨A,0,none⟩)),(6,.pointer (some ⟨C,0,none⟩)),(16,.pointer (some ⟨T,0,none⟩)),(17,.agg #[c0,c1,c2]),(18,.agg #[d0,d1,d2]),(19,.string path)]) [] W:=by
  intro u W hW 
  refine T_all [6,11,12] (by kernel_rfl) (by simp) fun i hi _=>?_
  rcases (show i=6∨i=11∨i=12 by simpa using hi) with rfl | rfl | rfl
  · refine O_go (HK W hW) (by kernel_rfl) ?_
    rintro e W1 ⟨hb,na,nl,nc,fa,fl,fc,er,rfl,hE⟩
    exact ⟨_,rfl,below_onf hW hb,T_z hq [7,8,9,10] (by kernel_rfl) (T_fr 16 26 [11,12,13,14,15] [(5,.pointer (some ⟨A,0,none⟩)),(6,.pointer (some ⟨C,0,none⟩)),(21,.slice na nl nc),(22,.slice fa fl fc),(23,er)] (by kernel_rfl) fun u=>X100 u W1 (below_onf hW hb) W W1 na fa nl nc fl fc er hW hE (CK.refl _ _) )⟩
  · exact O_val (w':=W.alloc (.cells #[.slice none 0 0] 23)) (some 10) (.pointer (some ⟨W.heap.size,0,none⟩)) (by kernel_rfl) (by kernel_rfl) (hW.alloc hW.size _) (T_fr 16 26 [6,7,8,9,10,12,13,14,15] [(5,.pointer (some ⟨A,0,none⟩)),(6,.pointer (some ⟨C,0,none⟩)),(10,.pointer (some ⟨W.heap.size,0,none⟩)),(16,.pointer (some ⟨T,0,none⟩)),(17,.agg #[c0,c1,c2]),(18,.agg #[d0,d1,d2]),(19,.string path)] (by kernel_rfl) fun u=>X010 u _ (hW.alloc hW.size _) _ (row1_alloc W _ _) hW.size )
  · exact O_val (w':=W.alloc (.cells #[.slice none 0 0] 126)) (some 11) (.pointer (some ⟨W.heap.size,0,none⟩)) (by kernel_rfl) (by kernel_rfl) (hW.alloc hW.size _) (T_fr 16 26 [6,7,8,9,10,11,13,14,15] [(5,.pointer (some ⟨A,0,none⟩)),(6,.pointer (some ⟨C,0,none⟩)),(11,.pointer (some ⟨W.heap.size,0,none⟩)),(16,.pointer (some ⟨T,0,none⟩)),(17,.agg #[c0,c1,c2]),(18,.agg #[d0,d1,d2]),(19,.string path)] (by kernel_rfl) fun u=>X001 u _ (hW.alloc hW.size _) _ (row1_alloc W _ _) hW.size )
 refine T_a hq [3,4] (fun w' h=>.cons (ldKd _ _ _ _ _ (hA.of_block (h.block _ hA.lt))) (.cons (ldKd _ _ _ _ _ (hC.of_block (h.block _ hC.lt))) Lds.nil)) (by kernel_rfl) ?_
 refine T_z hq [0,1,2,5] (by kernel_rfl) ?_
 exact T_fr 16 26 [6,7,8,9,10,11,12,13,14,15] [(5,.pointer (some ⟨A,0,none⟩)),(6,.pointer (some ⟨C,0,none⟩)),(16,.pointer (some ⟨T,0,none⟩)),(17,.agg #[c0,c1,c2]),(18,.agg #[d0,d1,d2]),(19,.string path)] (by kernel_rfl) fun u=>X000 u _ (Below.refl _ _)
end Go.Proofs.YteefjeddboefcaaGreatDoor

namespace Go.Proofs.YteefjeddboefcaaGreatDoor
open Go Go.RowKit
def FmG (U:List ByteArray) (G:ByteArray→(Nat→Prop)→World→Value→Prop) (P:Nat→Prop) (W:World) (g1 g2:Nat):Prop :=
 ∃ (na:Option Addr) (nc:Nat) (fa:Option Addr) (fc:Nat) (fvs:List Value),P g1∧P g2∧W.cell? ⟨g1,0,none⟩=some (.slice na U.length nc)∧W.cell? ⟨g2,0,none⟩=some (.slice fa U.length fc)∧StrsAt P W (.slice na U.length nc) U∧fvs.length=U.length ∧
   ∀ i,(hi:i < U.length)→(hf:i < fvs.length)→∃ fb,fa=some ⟨fb,0,none⟩∧P fb∧W.cell? ⟨fb,i,none⟩=some fvs[i]∧G U[i] P W fvs[i]∧∃ f b c,fvs[i]=.func f b c
def FmE (U:List ByteArray) (g:ByteArray→Bool) (G:ByteArray→(Nat→Prop)→World→Value→Prop) (w w':World) (e:Ending):Prop :=
 ∃ g1 g2 er,e=.returned (.tuple #[.func (.func 75) #[] #[.pointer (some ⟨g1,0,none⟩),.pointer (some ⟨g2,0,none⟩)],er]) ∧
   ((U.all g=true∧er=.nilIface∧FmG U G (New w w') w' g1 g2)∨(U.all g=false∧∃ (x y:Int) (p:ByteArray),er=.iface 103 (.agg #[.int .i64 x,.int .i64 y,.string p])))
def FoE (c d:C3) (U:List ByteArray) (g:ByteArray→Bool) (G:ByteArray→(Nat→Prop)→World→Value→Prop) (V0 V1:World) (na:Option Addr) (nl nc:Nat) (fa:Option Addr) (fl fc:Nat) (er:Value):Prop :=
 (U.all g=true∧nl=U.length∧fl=U.length∧er=.nilIface∧∃ N fvs,FlS c d U N na nc G V0 V1 fa U.length fc fvs)∨(U.all g=false∧∃ (x y:Int) (p:ByteArray),er=.iface 103 (.agg #[.int .i64 x,.int .i64 y,.string p]))
theorem FdE.fo {c d:C3} {U:List ByteArray} {g:ByteArray→Bool} {G:ByteArray→(Nat→Prop)→World→Value→Prop} {w w':World} {e:Ending} (h:FdE c d U g G w w' e):∃ na nl nc fa fl fc er,e=.returned (.tuple #[.slice na nl nc,.slice fa fl fc,er])∧FoE c d U g G w w' na nl nc fa fl fc er:=by
 rcases h with ⟨h1,na,nc,fa,fc,fvs,N,rfl,h2⟩ | ⟨h1,x,y,p,rfl⟩
 · exact ⟨na,_,nc,fa,_,fc,_,rfl,Or.inl ⟨h1,rfl,rfl,rfl,N,fvs,h2⟩⟩
 · exact ⟨none,0,0,none,0,0,_,rfl,Or.inr ⟨h1,x,y,p,rfl⟩⟩
theorem FlS.fm {c d:C3} {U:List ByteArray} {N:Nat} {na:Option Addr} {nc:Nat} {G:ByteArray→(Nat→Prop)→World→Value→Prop} {V0 V1:World} {fa:Option Addr} {fc:Nat} {fvs:List Value} (hG:∀ nm P Q W W' fv,G nm P W fv→(∀ b,P b→Q b)→(∀ b,P b→W'.heap[b]? = W.heap[b]?)→G nm Q W' fv) (h:FlS c d U N na nc G V0 V1 fa U.length fc fvs)
 {w W:World} {g1 g2:Nat} (hV:w.heap.size≤V0.heap.size) (hck:CK V0 V1 W) (h1:W.cell? ⟨g1,0,none⟩=some (.slice na U.length nc)) (h2:W.cell? ⟨g2,0,none⟩=some (.slice fa U.length fc)) (hg1:w.heap.size≤g1) (hg2:w.heap.size≤g2):FmG U G (New w W) W g1 g2:=by
 have hn0:=h.n0
 have hn1:=h.n1
 have hsz:=hck.size
 refine ⟨na,nc,fa,fc,fvs,⟨hg1,World.block_lt_of_cell? W _ h1⟩,⟨hg2,World.block_lt_of_cell? W _ h2⟩,h1,h2,h.st.carry (fun b hb=>hck.block b (by have:=hb.1;omega) (by have:=hb.2;omega)) (fun b hb=>⟨by have:=hb.1;omega,by have:=hb.2;omega⟩),h.len,fun i hi hf=>?_⟩
 obtain ⟨fb,rfl⟩:∃ fb,fa=some ⟨fb,0,none⟩:=by
  rcases h.own.2 with ⟨-,h0⟩ | ⟨fb,_,_,hv,_⟩
  · omega
  · simp only [Value.slice.injEq] at hv
    exact ⟨fb,hv.1⟩
 have hfb:=h.own.lt fb rfl
 have hcl:=h.own.cells (g:=fb) rfl i fvs[i] (by simp [hf])
 rw [Addr.add_lit,Nat.zero_add] at hcl
 obtain ⟨hg,hfn⟩:=h.gs i hf hi
 refine ⟨fb,rfl,⟨by omega,by omega⟩,?_,hG _ _ _ _ _ _ hg (fun b hb=>⟨by have:=hb.1;omega,by have:=hb.2.1;omega⟩) (fun b hb=>hck.block b (by have:=hb.1;omega) hb.2.1),hfn⟩
 rw [World.cell?_of_block (w:=V1) (hck.block fb (by omega) hfb.2)]
 exact hcl
theorem ofForm_walk (A B:Kd) (T:Nat) (a1 a2 b1 b2:Option Addr) (p1 p2 q1 q2:Nat) (path:ByteArray) (w:World) (g:ByteArray→Bool) (G:ByteArray→(Nat→Prop)→World→Value→Prop)
 (hG:∀ nm P Q W W' fv,G nm P W fv→(∀ b,P b→Q b)→(∀ b,P b→W'.heap[b]? = W.heap[b]?)→G nm Q W' fv)
 (hA:KW w A ⟨.int .i64 A.sort,.slice a1 A.names.length p1,.slice a2 A.kids.length p2⟩) (hB:KW w B ⟨.int .i64 B.sort,.slice b1 B.names.length q1,.slice b2 B.kids.length q2⟩) (hsA:A.sort=5) (hsB:B.sort=5) (hlA:A.names.length≤1000) (hlB:B.names.length≤1000) (hps:path.size≤1000000) (hnz:∀ nm,nm∈uniN A.names B.names→nm.size≤1000)
 (hcall:∀ nm,nm∈uniN A.names B.names→∀ W (x y:C3),Below w.heap.size w W→KZ W (kidZ A nm) x→KZ W (kidZ B nm) y→Calls Tryz.prog 53 #[.pointer (some ⟨T,0,none⟩),.agg #[x.c0,x.c1,x.c2],.agg #[y.c0,y.c1,y.c2],.string (path++⟨#[123]⟩++nm++⟨#[58]⟩)] W fun e w'=>Below W.heap.size W w'∧∃ fv er,e=.returned (.tuple #[fv,er])∧PR (g nm) (G nm) (New W w') w' fv er) :
 Calls Tryz.prog 51 #[.pointer (some ⟨T,0,none⟩),.agg #[.int .i64 A.sort,.slice a1 A.names.length p1,.slice a2 A.kids.length p2],.agg #[.int .i64 B.sort,.slice b1 B.names.length q1,.slice b2 B.kids.length q2],.string path] w fun e w'=>Below w.heap.size w w'∧FmE (uniN A.names B.names) g G w w' e:=by
 obtain ⟨hrx,hry,hbw⟩:=pr_boxes w A.sort B.sort a1 a2 b1 b2 A.names.length A.kids.length p1 p2 B.names.length B.kids.length q1 q2
 have hK:∀ W,Below w.heap.size w W→Calls Tryz.prog 74 #[.pointer (some ⟨T,0,none⟩),.agg #[.int .i64 A.sort,.slice a1 A.names.length p1,.slice a2 A.kids.length p2],.agg #[.int .i64 B.sort,.slice b1 B.names.length q1,.slice b2 B.kids.length q2],.string path] W fun e w'=>Below W.heap.size W w'∧∃ na nl nc fa fl fc er,e=.returned (.tuple #[.slice na nl nc,.slice fa fl fc,er])∧FoE ⟨.int .i64 A.sort,.slice a1 A.names.length p1,.slice a2 A.kids.length p2⟩ ⟨.int .i64 B.sort,.slice b1 B.names.length q1,.slice b2 B.kids.length q2⟩ (uniN A.names B.names) g G W w' na nl nc fa fl fc er:=fun W hW =>
  (ofFields_walk A B T a1 a2 b1 b2 p1 p2 q1 q2 path W g G hG (hA.on hW) (hB.on hW) hsA hsB hlA hlB hps hnz (fun nm hm V x y hV hx hy=>hcall nm hm V x y (hW.trans (hV.mono hW.size)) hx hy)).mono fun e w' ⟨h1,h2⟩=>⟨h1,h2.fo⟩
 generalize uniN A.names B.names=U at *
 have HK:=xH hK;have HRX:=xH hrx;have HRY:=xH hry;have HBW:=xH hbw;have HG:=xH hG
 clear hK hrx hry hbw hcall hnz hA hB hsA hsB hlA hlB hps hG
 go_enter Tryz.func51,Tryz.ntmps51
 go_upto_region 1 with fail
 generalize ((w.alloc (.cells #[.int .i64 A.sort,.slice a1 A.names.length p1,.slice a2 A.kids.length p2] 26)).alloc (.cells #[.int .i64 B.sort,.slice b1 B.names.length q1,.slice b2 B.kids.length q2] 26))=W0 at HRX HRY HBW ⊢
 refine wp_swap (c':=Code.region 1 fmOps true) (by kernel_rfl) ?_
 refine wp_region_noPanic ?_
 refine fm1 w.heap.size (w.heap.size+1) T _ _ _ _ _ _ path _ W0 _ (fun c a d v w h=>h) ((xU HRX).drew) ((xU HRY).drew) (fun W hW=>xU HK W ((xU HBW).drew.trans (hW.mono (xU HBW).size))) (by kernel_rfl) ?_
 intro u V0 V1 W na fa nl nc fl fc er g1 g2 hV hE hW hck h1 h2 hg1 hg2 hne
 refine NoPanic.normal ?_
 have hsz:=(xU HBW).size
 have HE:Hid (Below w.heap.size w W∧((U.all g=true∧er=.nilIface∧FmG U G (New w W) W g1 g2)∨(U.all g=false∧∃ (x y:Int) (p:ByteArray),er=.iface 103 (.agg #[.int .i64 x,.int .i64 y,.string p])))):=by
  refine ⟨(xU HBW).drew.trans (hW.mono hsz),?_⟩
  rcases hE with ⟨e1,rfl,rfl,e2,N,fvs,hf⟩ | hE
  · exact Or.inl ⟨e1,e2,hf.fm (xU HG) (Nat.le_trans hsz hV.size) hck (h1.cell (i:=0) (by omega)) (h2.cell (i:=0) (by omega)) (Nat.le_trans hsz hg1) (Nat.le_trans hsz hg2)⟩
  · exact Or.inr hE
 clear hV hE hW hck h1 h2 hg1 hg2 hne hsz HK HRX HRY HBW HG
 have hfr:frL u 26 [(10,.pointer (some ⟨g1,0,none⟩)),(11,.pointer (some ⟨g2,0,none⟩)),(12,er)]=(List.range 10).map (fun i=>u i)++(.pointer (some ⟨g1,0,none⟩)::.pointer (some ⟨g2,0,none⟩)::er::(List.range 13).map (fun i=>u (i+13))):=by kernel_rfl
 rw [hfr]
 simp only [List.range,List.range.loop,List.map_cons,List.map_nil,List.cons_append,List.nil_append]
 go_wp2_with fail
 go_ret2
 exact ⟨(xU HE).1,g1,g2,er,rfl,(xU HE).2⟩
end Go.Proofs.YteefjeddboefcaaGreatDoor

namespace Go.Proofs.YteefjeddboefcaaGreatDoor
open Go Go.RowKit
structure GLaws (GW:Kd→Kd→(Nat→Prop)→World→Value→Prop):Prop where
 on:∀ a b P Q W W' fv,GW a b P W fv→(∀ x,P x→Q x)→(∀ x,P x→W'.heap[x]? = W.heap[x]?)→GW a b Q W' fv
 zero:∀ a b P W,a.sort=0→b.sort=6→GW a b P W (.func (.func 69) #[] #[])
 leaf:∀ a b P W,a.sort=b.sort→(a.sort=1∨a.sort=2∨a.sort=3)→GW a b P W (.func (.func 70) #[] #[])
 each:∀ a b P W B fv,((a.sort=4∧b.sort=4)∨(a.sort=6∧b.sort=6))→(ha:0 < a.kids.length)→(hb:0 < b.kids.length)→okD a=true→okD b=true→P B→W.cell? ⟨B,0,none⟩=some fv→(∃ f b c,fv=.func f b c)→GW a.kids[0] b.kids[0] P W fv→GW a b P W (.func (.func 93) #[] #[.pointer (some ⟨B,0,none⟩)])
 into:∀ a b P W B fv,b.sort=6→a.sort≠6→a.sort≠0→(hb:0 < b.kids.length)→okD a=true→okD b=true→P B→W.cell? ⟨B,0,none⟩=some fv→(∃ f b c,fv=.func f b c)→GW a b.kids[0] P W fv→GW a b P W (.func (.func 72) #[] #[.pointer (some ⟨B,0,none⟩)])
 form:∀ a b P W g1 g2,a.sort=5→b.sort=5→a.names.length≤1000→b.names.length≤1000→okD a=true→okD b=true→FmG (uniN a.names b.names) (fun nm=>GW (kidZ a nm) (kidZ b nm)) P W g1 g2→GW a b P W (.func (.func 75) #[] #[.pointer (some ⟨g1,0,none⟩),.pointer (some ⟨g2,0,none⟩)])
def PFR (GW:Kd→Kd→(Nat→Prop)→World→Value→Prop) (n:Nat) (a b:Kd) (T:Nat) (P:Nat→Prop) (W:World) (fv er:Value):Prop :=
 PR (pF n a b) (GW a b) P W fv er∧(ent T a.sort.toNat b.sort.toNat=.nilFunc→fv=.nilFunc)∧(ent T a.sort.toNat b.sort.toNat≠.nilFunc→∃ f b c,fv=.func f b c)
theorem PFR.on {GW:Kd→Kd→(Nat→Prop)→World→Value→Prop} (HG:GLaws GW) {n:Nat} {a b:Kd} {T:Nat} (P Q:Nat→Prop) (W W':World) (fv er:Value) (h:PFR GW n a b T P W fv er) (h1:∀ x,P x→Q x) (h2:∀ x,P x→W'.heap[x]? = W.heap[x]?):PFR GW n a b T Q W' fv er :=
 ⟨PR.on (HG.on a b) P Q W W' fv er h.1 h1 h2,h.2⟩
def PairSaid (GW:Kd→Kd→(Nat→Prop)→World→Value→Prop) (n:Nat):Prop:=∀ (a b:Kd),(b.sort≠0→ksz b≤n)→ksz a≤40→ksz b≤40→∀ (c d:C3) (w:World) (T:Nat) (path:ByteArray),WT w T→KZ w a c→KZ w b d→path.size+n * 100≤900000 →
    Calls Tryz.prog 53 #[.pointer (some ⟨T,0,none⟩),.agg #[c.c0,c.c1,c.c2],.agg #[d.c0,d.c1,d.c2],.string path] w fun e w'=>Below w.heap.size w w'∧∃ fv er,e=.returned (.tuple #[fv,er])∧PFR GW n a b T (New w w') w' fv er
theorem KZ.sort {w:World} {k:Kd} {c:C3} (h:KZ w k c):∃ s:Nat,k.sort=(s:Int)∧s≤6∧(s=0↔k=kd0)∧(s≠0→KW w k c):=by
 rcases h with h | ⟨rfl,rfl⟩
 · refine ⟨k.sort.toNat,?_,?_,⟨fun h0=>?_,fun h0=>?_⟩,fun _=>h⟩
   · rcases h.sh with h | h | h <;> omega
   · rcases h.sh with h | h | h <;> omega
   · rcases h.sh with h | h | h <;> omega
   · have hs:k.sort=0:=by rw [h0];rfl
     rcases h.sh with h | h | h <;> omega
 · exact ⟨0,rfl,by omega,⟨fun _=>rfl,fun _=>rfl⟩,fun h=>absurd rfl h⟩
theorem ent_nil (T sa sb:Nat) (ha:sa≤6) (hb:sb≤6) (h:¬ (sb=6∨(sa=sb∧sa≠0))):ent T sa sb=.nilFunc:=by
 rcases (show sa=0∨sa=1∨sa=2∨sa=3∨sa=4∨sa=5∨sa=6 by omega) with rfl | rfl | rfl | rfl | rfl | rfl | rfl <;>
  rcases (show sb=0∨sb=1∨sb=2∨sb=3∨sb=4∨sb=5 by omega) with rfl | rfl | rfl | rfl | rfl | rfl <;> first | rfl | omega
theorem ent_some (T sa sb f:Nat) (h:ent T sa sb=wv T f):ent T sa sb≠.nilFunc:=by rw [h];intro e;cases e
theorem enNone (args:Array Value) (w:World):(callFunc 47 args).run Tryz.prog w=.ok (.enter 47 args) w:=enters_of Tryz.func47 (by kernel_rfl) rfl args w
theorem enLeaf (args:Array Value) (w:World):(callFunc 48 args).run Tryz.prog w=.ok (.enter 48 args) w:=enters_of Tryz.func48 (by kernel_rfl) rfl args w
theorem enList (args:Array Value) (w:World):(callFunc 50 args).run Tryz.prog w=.ok (.enter 50 args) w:=enters_of Tryz.func50 (by kernel_rfl) rfl args w
theorem enMaybe (args:Array Value) (w:World):(callFunc 52 args).run Tryz.prog w=.ok (.enter 52 args) w:=enters_of Tryz.func52 (by kernel_rfl) rfl args w
theorem enInto (args:Array Value) (w:World):(callFunc 49 args).run Tryz.prog w=.ok (.enter 49 args) w:=enters_of Tryz.func49 (by kernel_rfl) rfl args w
theorem enForm (args:Array Value) (w:World):(callFunc 51 args).run Tryz.prog w=.ok (.enter 51 args) w:=enters_of Tryz.func51 (by kernel_rfl) rfl args w
theorem rise_szU {ns:List ByteArray} (h:riseB ns=true) {nm:ByteArray} (hm:nm∈ns):nm.size≤8:=by
 obtain ⟨i,hi,rfl⟩:=List.mem_iff_getElem.1 hm
 unfold riseB at h
 rw [List.all_eq_true] at h
 have hg:=h i (List.mem_range.2 hi)
 unfold good at hg
 rw [Bool.and_eq_true,getD_lt _ _ hi] at hg
 have:=hg.1
 unfold nameOkB at this
 simp only [Bool.and_eq_true,decide_eq_true_eq] at this
 exact this.1.1.2
theorem InBox.pfr {GW:Kd→Kd→(Nat→Prop)→World→Value→Prop} {n m:Nat} {a b ka kb:Kd} {T f:Nat} {w w':World} {e:Ending} (hp:pF m a b=pF n ka kb) (hent:ent T a.sort.toNat b.sort.toNat≠.nilFunc)
 (hG:∀ B fv,New w w' B→w'.cell? ⟨B,0,none⟩=some fv→(∃ f b c,fv=.func f b c)→GW ka kb (New w w') w' fv→GW a b (New w w') w' (.func (.func f) #[] #[.pointer (some ⟨B,0,none⟩)]))
 (h:InBox f (PFR GW n ka kb T) w w' e):∃ fv er,e=.returned (.tuple #[fv,er])∧PFR GW m a b T (New w w') w' fv er:=by
 obtain ⟨fv,er,B,rfl,⟨hpr,-⟩,hc,h1,h2⟩:=h
 refine ⟨_,_,rfl,?_,fun h=>absurd h hent,fun _=>⟨_,_,_,rfl⟩⟩
 rcases hpr with ⟨hg,he,hf,hgw⟩ | ⟨hg,-,he⟩
 · exact Or.inl ⟨hp.trans hg,he,⟨_,_,_,rfl⟩,hG B fv ⟨h1,h2⟩ hc hf hgw⟩
 · exact Or.inr ⟨hp.trans hg,Or.inr ⟨_,_,_,rfl⟩,he⟩
theorem pF_fit {n:Nat} {a b:Kd} (ha:a.sort≠0) (hb:b.sort≠0):pF n a b=fitF n a b:=by unfold pF;rw [if_neg ha,if_neg hb]
theorem pair_no {GW:Kd→Kd→(Nat→Prop)→World→Value→Prop} (n:Nat) (a b:Kd) (sa sb:Nat) (hsa:a.sort=(sa:Int)) (hsb:b.sort=(sb:Int)) (ha6:sa≤6) (hb6:sb≤6) (hno:¬ (sb=6∨(sa=sb∧sa≠0))) (hp:pF n a b=false) (a1 a2 b1 b2:Option Addr) (p1 p2 q1 q2:Nat) (w:World) (T:Nat) (path:ByteArray) (hT:WT w T) :
 Calls Tryz.prog 53 #[.pointer (some ⟨T,0,none⟩),.agg #[.int .i64 a.sort,.slice a1 a.names.length p1,.slice a2 a.kids.length p2],.agg #[.int .i64 b.sort,.slice b1 b.names.length q1,.slice b2 b.kids.length q2],.string path] w fun e w'=>Below w.heap.size w w'∧∃ fv er,e=.returned (.tuple #[fv,er])∧PFR GW n a b T (New w w') w' fv er:=by
 rw [hsa,hsb]
 refine (ofPair_no T sa sb ha6 hb6 (ent_nil T sa sb ha6 hb6 hno) a1 a2 b1 b2 _ _ p1 p2 _ _ q1 q2 path w hT).mono fun e w' ⟨h1,h2⟩=>⟨h1,_,_,h2,Or.inr ⟨hp,Or.inl rfl,_,_,_,rfl⟩,fun _=>rfl,fun h=>absurd ?_ h⟩
 rw [hsa,hsb]
 exact ent_nil T sa sb ha6 hb6 hno
theorem pair_do {GW:Kd→Kd→(Nat→Prop)→World→Value→Prop} (HG:GLaws GW) (n:Nat) (a b:Kd) (sa sb f:Nat) (hsa:a.sort=(sa:Int)) (hsb:b.sort=(sb:Int)) (ha6:sa≤6) (hb6:sb≤6) (T:Nat) (hent:ent T sa sb=wv T f) (hcall:∀ args w,(callFunc f args).run Tryz.prog w=.ok (.enter f args) w) (a1 a2 b1 b2:Option Addr) (p1 p2 q1 q2:Nat) (w:World) (path:ByteArray) (hT:WT w T)
 (hf:∀ W,Below w.heap.size w W→Calls Tryz.prog f #[.pointer (some ⟨T,0,none⟩),.agg #[.int .i64 a.sort,.slice a1 a.names.length p1,.slice a2 a.kids.length p2],.agg #[.int .i64 b.sort,.slice b1 b.names.length q1,.slice b2 b.kids.length q2],.string path] W fun e w'=>Below W.heap.size W w'∧∃ fv er,e=.returned (.tuple #[fv,er])∧PFR GW n a b T (New W w') w' fv er) :
 Calls Tryz.prog 53 #[.pointer (some ⟨T,0,none⟩),.agg #[.int .i64 a.sort,.slice a1 a.names.length p1,.slice a2 a.kids.length p2],.agg #[.int .i64 b.sort,.slice b1 b.names.length q1,.slice b2 b.kids.length q2],.string path] w fun e w'=>Below w.heap.size w w'∧∃ fv er,e=.returned (.tuple #[fv,er])∧PFR GW n a b T (New w w') w' fv er:=by
 rw [hsa,hsb] at hf ⊢
 exact ofPair_do T sa sb f ha6 hb6 hent hcall a1 a2 b1 b2 _ _ p1 p2 _ _ q1 q2 path w hT (PFR GW n a b T) (PFR.on HG) hf
theorem ent_ne {a b:Kd} {sa sb T f:Nat} (hsa:a.sort=(sa:Int)) (hsb:b.sort=(sb:Int)) (h:ent T sa sb=wv T f):ent T a.sort.toNat b.sort.toNat≠.nilFunc:=by
 rw [hsa,hsb]
 exact ent_some T sa sb f h
theorem szP1 {p:ByteArray} {k m:Nat} (c:UInt8) (h:p.size+(m+1) * 100≤k):(p++(⟨#[c]⟩:ByteArray)).size+m * 100≤k:=by
 have z1:(⟨#[c]⟩:ByteArray).size=1:=rfl
 rw [ByteArray.size_append];omega
theorem szP3 {p nm:ByteArray} {k m:Nat} (h:p.size+(m+1) * 100≤k) (h2:nm.size≤8):(p++(⟨#[123]⟩:ByteArray)++nm++(⟨#[58]⟩:ByteArray)).size+m * 100≤k:=by
 have z1:(⟨#[123]⟩:ByteArray).size=1:=rfl
 have z2:(⟨#[58]⟩:ByteArray).size=1:=rfl
 rw [ByteArray.size_append,ByteArray.size_append,ByteArray.size_append];omega
theorem kidZ_sz {k:Kd} (hk:ksz k≤40) (nm:ByteArray):ksz (kidZ k nm)≤40:=by
 unfold kidZ kidN
 split
 · rw [Option.getD_some,List.getD_eq_getElem?_getD]
   cases h:k.kids[plN k.names nm]? with
   | none=>rw [Option.getD_none];decide
   | some x =>
     rw [Option.getD_some]
     have:=ksz_kid (List.mem_of_getElem? h)
     omega
 · decide
theorem kidZ_lt {k:Kd} {n:Nat} (hk:ksz k≤n+1) (nm:ByteArray) (h0:(kidZ k nm).sort≠0):ksz (kidZ k nm)≤n:=by
 unfold kidZ kidN at h0 ⊢
 split at h0
 · next hp =>
   rw [if_pos hp]
   rw [Option.getD_some,List.getD_eq_getElem?_getD] at h0 ⊢
   cases h:k.kids[plN k.names nm]? with
   | none=>rw [h,Option.getD_none] at h0;exact absurd rfl h0
   | some x =>
     rw [Option.getD_some]
     have:=ksz_kid (List.mem_of_getElem? h)
     omega
 · exact absurd rfl h0
section
variable {GW:Kd→Kd→(Nat→Prop)→World→Value→Prop} (HG:GLaws GW) (n:Nat) (IH:PairSaid GW n) (a b:Kd) (hna:ksz a≤40) (hnb:ksz b≤40) (hn:ksz b≤n+1) (a1 a2 b1 b2:Option Addr) (p1 p2 q1 q2:Nat) (w:World) (T:Nat) (path:ByteArray) (hT:WT w T) (hps:path.size+(n+1) * 100≤900000)
 (ha:KW w a ⟨.int .i64 a.sort,.slice a1 a.names.length p1,.slice a2 a.kids.length p2⟩) (hb:KW w b ⟨.int .i64 b.sort,.slice b1 b.names.length q1,.slice b2 b.kids.length q2⟩)
include HG IH hna hnb hn hT hps ha hb
theorem pair_each (sf:Nat) (h:(sf=50∧a.sort=4∧b.sort=4)∨(sf=52∧a.sort=6∧b.sort=6)) :
 Calls Tryz.prog 53 #[.pointer (some ⟨T,0,none⟩),.agg #[.int .i64 a.sort,.slice a1 a.names.length p1,.slice a2 a.kids.length p2],.agg #[.int .i64 b.sort,.slice b1 b.names.length q1,.slice b2 b.kids.length q2],.string path] w fun e w'=>Below w.heap.size w w'∧∃ fv er,e=.returned (.tuple #[fv,er])∧PFR GW (n+1) a b T (New w w') w' fv er:=by
 have hka:a.kids.length=1:=by rcases ha.sh with h' | h' | h' <;> omega
 have hkb:b.kids.length=1:=by rcases hb.sh with h' | h' | h' <;> omega
 obtain ⟨xb,xo,xc,x1,x2,r1,r2,ex,hxl,x0,x3,x4,hx⟩:=ha.kid (i:=0) (by omega)
 obtain ⟨yb,yo,yc,y1,y2,s1,s2,ey,hyl,y0,y3,y4,hy⟩:=hb.kid (i:=0) (by omega)
 simp only [Value.slice.injEq,true_and] at ex ey
 obtain ⟨rfl,rfl⟩:=ex
 obtain ⟨rfl,rfl⟩:=ey
 have hma:a.kids[0]'(by omega)∈a.kids:=List.getElem_mem _
 have hmb:b.kids[0]'(by omega)∈b.kids:=List.getElem_mem _
 have hza:=ksz_kid hma
 have hzb:=ksz_kid hmb
 have hsx:(a.kids[0]'(by omega)).sort≠0:=by rcases hx.sh with h' | h' | h' <;> omega
 have hsy:(b.kids[0]'(by omega)).sort≠0:=by rcases hy.sh with h' | h' | h' <;> omega
 have hp:pF (n+1) a b=pF n (a.kids[0]'(by omega)) (b.kids[0]'(by omega)):=by
  rw [pF_fit hsx hsy,pF_fit (by omega) (by omega)]
  rcases h with h | h
  · exact fit_ll h.2.2 h.2.1 _ _
  · exact fit_mm h.2.2 h.2.1 _ _
 have hps2:path.size≤1000000:=by omega
 have hoka:=ha.ok
 have hokb:=hb.ok
 rcases h with ⟨rfl,h4,h5⟩ | ⟨rfl,h4,h5⟩
 · have hent:ent T 4 4=wv T 50:=rfl
   refine pair_do HG (n+1) a b 4 4 50 h4 h5 (by omega) (by omega) T hent enList _ _ _ _ _ _ _ _ w path hT fun W hW=>?_
   rw [hka,hkb]
   refine (ofList_walk T a.sort b.sort a1 b1 a.names.length p1 p2 b.names.length q1 q2 xb xo yb yo _ _ x1 x2 y1 y2 _ _ r1 r2 _ _ s1 s2 path W (PFR GW n (a.kids[0]'(by omega)) (b.kids[0]'(by omega)) T) (by rw [hW.cell hxl];exact x0) (by rw [hW.cell hxl];exact x3) (by rw [hW.cell hxl];exact x4) (Nat.lt_of_lt_of_le hxl hW.size) (by rw [hW.cell hyl];exact y0) (by rw [hW.cell hyl];exact y3) (by rw [hW.cell hyl];exact y4) (Nat.lt_of_lt_of_le hyl hW.size) hps2 (fun V hV=>?_) (fun P W fv er h=>h.1.fn) (PFR.on HG)).mono fun e w' ⟨h6,h7⟩=>⟨h6,?_⟩
   · have hwV:Below w.heap.size w V:=hW.trans (hV.mono hW.size)
     exact IH _ _ (fun _=>by omega) (by omega) (by omega) ⟨_,_,_⟩ ⟨_,_,_⟩ V T _ (hT.on hwV) (Or.inl (hx.on hwV)) (Or.inl (hy.on hwV)) (szP1 _ hps)
   · exact h7.pfr hp (ent_ne h4 h5 hent) (fun B fv h8 h9 h10 h11=>HG.each a b _ _ B fv (Or.inl ⟨h4,h5⟩) (by omega) (by omega) hoka hokb h8 h9 h10 h11)
 · have hent:ent T 6 6=wv T 52:=rfl
   refine pair_do HG (n+1) a b 6 6 52 h4 h5 (by omega) (by omega) T hent enMaybe _ _ _ _ _ _ _ _ w path hT fun W hW=>?_
   rw [hka,hkb]
   refine (ofMaybe_walk T a.sort b.sort a1 b1 a.names.length p1 p2 b.names.length q1 q2 xb xo yb yo _ _ x1 x2 y1 y2 _ _ r1 r2 _ _ s1 s2 path W (PFR GW n (a.kids[0]'(by omega)) (b.kids[0]'(by omega)) T) (by rw [hW.cell hxl];exact x0) (by rw [hW.cell hxl];exact x3) (by rw [hW.cell hxl];exact x4) (Nat.lt_of_lt_of_le hxl hW.size) (by rw [hW.cell hyl];exact y0) (by rw [hW.cell hyl];exact y3) (by rw [hW.cell hyl];exact y4) (Nat.lt_of_lt_of_le hyl hW.size) hps2 (fun V hV=>?_) (fun P W fv er h=>h.1.fn) (PFR.on HG)).mono fun e w' ⟨h6,h7⟩=>⟨h6,?_⟩
   · have hwV:Below w.heap.size w V:=hW.trans (hV.mono hW.size)
     exact IH _ _ (fun _=>by omega) (by omega) (by omega) ⟨_,_,_⟩ ⟨_,_,_⟩ V T _ (hT.on hwV) (Or.inl (hx.on hwV)) (Or.inl (hy.on hwV)) (szP1 _ hps)
   · exact h7.pfr hp (ent_ne h4 h5 hent) (fun B fv h8 h9 h10 h11=>HG.each a b _ _ B fv (Or.inr ⟨h4,h5⟩) (by omega) (by omega) hoka hokb h8 h9 h10 h11)
end
end Go.Proofs.YteefjeddboefcaaGreatDoor

namespace Go.Proofs.YteefjeddboefcaaGreatDoor
open Go Go.RowKit Go.Extern.Stop Go.Stop Go.Extern
theorem as_nil (t:Value) (w:World) :
 Calls Tryz.prog 54 #[.nilIface,t] w fun e w'=>e=.returned (.bool false)∧w'=w:=by
 go_enter Tryz.func54,Tryz.ntmps54
 go_wp2
 go_ret
 exact ⟨rfl,rfl⟩
theorem mf_valueOfP (t:Addr) (w:World):(ReflectliteValue.unpack (.iface 105 (.pointer (some t)))).run Tryz.prog w
 = .ok (.agg #[.pointer (some ⟨2,105,none⟩),.pointer (some ⟨w.heap.size,0,none⟩),.int .u64 150]) (w.alloc (.cells #[.pointer (some t)] 105)):=by kernel_rfl
theorem mf_typeP (a:Addr) (w:World):(ReflectliteValue.methodAny (ReflectliteValue.valueError "reflectlite.Value.Type" 0) (fun t _ _ _=>ReflectliteType.toType t) #[.agg #[.pointer (some ⟨2,105,none⟩),.pointer (some a),.int .u64 150]]).run Tryz.prog w
 = .ok (.iface 154 (.agg #[.pointer (some ⟨2,105,none⟩)])) w:=by kernel_rfl
theorem mf_methodKind (h:Value) (w:World):(Go.method 349 154 (.agg #[h]) "Kind").run Tryz.prog w=.ok (149,h) w:=by kernel_rfl
theorem mf_kindP (w:World):((ReflectliteType.abiMethod fun t=>(fun a:Nat=>Value.int IntKind.u8 (a:Int)) <$> Rtype.kind t) #[.pointer (some ⟨2,105,none⟩)]).run Tryz.prog w=.ok (.int .u8 22) w:=by kernel_rfl
theorem mf_kindS (w:World):((ReflectliteType.abiMethod fun t=>(fun a:Nat=>Value.int IntKind.u8 (a:Int)) <$> Rtype.kind t) #[.pointer (some ⟨2,103,none⟩)]).run Tryz.prog w=.ok (.int .u8 25) w:=by kernel_rfl
theorem mf_rlm (z:Sem Value) (f:TypeId→Addr→Nat→Nat→Sem Value) (v:Value) :
 ReflectliteValue.method z f #[v]=(do match ← ReflectliteValue.parts v with | none=>z | some (t,a,fl)=>f t a fl (fl % 32)):=rfl
theorem mf_partsP (a:Addr) (w:World):(ReflectliteValue.parts (.agg #[.pointer (some ⟨2,105,none⟩),.pointer (some a),.int .u64 150])).run Tryz.prog w=.ok (some (105,a,150)) w:=by kernel_rfl
theorem mf_isNilP (a p:Addr) (W:World) (ha:W.cell? a=some (.pointer (some p))) :
 (ReflectliteValue.method (ReflectliteValue.valueError "reflectlite.Value.IsNil" 0) ReflectliteValue.isNil #[.agg #[.pointer (some ⟨2,105,none⟩),.pointer (some a),.int .u64 150]]).run Tryz.prog W=.ok (.bool false) W:=by
 rw [mf_rlm]
 simp only [Sem.run_bind,mf_partsP,Result.andThen]
 simp [ReflectliteValue.isNil,loadVar,isAgg,underlying,Tryz.underlying105,ha,Result.andThen]
theorem mf_methodElem (h:Value) (w:World):(Go.method 349 154 (.agg #[h]) "Elem").run Tryz.prog w=.ok (165,.agg #[h]) w:=by kernel_rfl
theorem mf_methodImplements (h:Value) (w:World):(Go.method 349 154 (.agg #[h]) "Implements").run Tryz.prog w=.ok (166,.agg #[h]) w:=by kernel_rfl
theorem mf_methodAssignableTo (h:Value) (w:World):(Go.method 349 154 (.agg #[h]) "AssignableTo").run Tryz.prog w=.ok (163,.agg #[h]) w:=by kernel_rfl
theorem mf_elemP (w:World):(ReflectliteType.method ReflectliteType.elem #[.agg #[.pointer (some ⟨2,105,none⟩)]]).run Tryz.prog w=.ok (.iface 154 (.agg #[.pointer (some ⟨2,103,none⟩)])) w:=by kernel_rfl
theorem mf_implementsS (w:World):(ReflectliteType.relation "Implements" ReflectliteType.implements_ #[.agg #[.pointer (some ⟨2,103,none⟩)],.iface 154 (.agg #[.pointer (some ⟨2,99,none⟩)])]).run Tryz.prog w=.ok (.bool true) w:=by kernel_rfl
theorem mf_typeOfS (v:Value) (w:World):(ReflectliteType.typeOf #[.iface 103 v]).run Tryz.prog w=.ok (.iface 154 (.agg #[.pointer (some ⟨2,103,none⟩)])) w:=by kernel_rfl
theorem mf_assignableS (w:World):(ReflectliteType.relation "AssignableTo" ReflectliteType.assignableTo #[.agg #[.pointer (some ⟨2,103,none⟩)],.iface 154 (.agg #[.pointer (some ⟨2,103,none⟩)])]).run Tryz.prog w=.ok (.bool true) w:=by kernel_rfl
theorem mf_valueOfS (x y:Int) (p:ByteArray) (w:World):(ReflectliteValue.unpack (.iface 103 (.agg #[.int .i64 x,.int .i64 y,.string p]))).run Tryz.prog w
 = .ok (.agg #[.pointer (some ⟨2,103,none⟩),.pointer (some ⟨w.heap.size,0,none⟩),.int .u64 153]) (w.alloc (.cells #[.int .i64 x,.int .i64 y,.string p] 103)):=by kernel_rfl
theorem mf_elemOfP (w:World):(Rtype.elem? 105).run Tryz.prog w=.ok (some 103) w:=by kernel_rfl
theorem mf_mkS (p:Addr) (w:World):(ReflectliteValue.mk 103 p ReflectliteValue.flagAddr).run Tryz.prog w=.ok (.agg #[.pointer (some ⟨2,103,none⟩),.pointer (some p),.int .u64 409]) w:=by kernel_rfl
theorem mf_elemV (a p:Addr) (W:World) (ha:W.cell? a=some (.pointer (some p))) :
 (ReflectliteValue.method (ReflectliteValue.valueError "reflectlite.Value.Elem" 0) ReflectliteValue.elem #[.agg #[.pointer (some ⟨2,105,none⟩),.pointer (some a),.int .u64 150]]).run Tryz.prog W
   = .ok (.agg #[.pointer (some ⟨2,103,none⟩),.pointer (some p),.int .u64 409]) W:=by
 rw [mf_rlm]
 simp only [Sem.run_bind,mf_partsP,Result.andThen]
 simp [ReflectliteValue.elem,loadVar,isAgg,underlying,Tryz.underlying105,ha,Result.andThen,mf_elemOfP,mf_mkS]
theorem mf_partsV (a:Addr) (w:World):(ReflectliteValue.parts (.agg #[.pointer (some ⟨2,103,none⟩),.pointer (some a),.int .u64 409])).run Tryz.prog w=.ok (some (103,a,409)) w:=by kernel_rfl
theorem mf_partsS (a:Addr) (w:World):(ReflectliteValue.parts (.agg #[.pointer (some ⟨2,103,none⟩),.pointer (some a),.int .u64 153])).run Tryz.prog w=.ok (some (103,a,153)) w:=by kernel_rfl
theorem mf_direct (w:World):(Rtype.directlyAssignable 103 103).run Tryz.prog w=.ok true w:=by kernel_rfl
theorem mf_size:(Tryz.prog.info? 103).map (·.size)=some 3:=by kernel_rfl
theorem mf_set (t b:Nat) (x y:Int) (p:ByteArray) (W:World) (hb:W.rangeAt b 0 [.int .i64 x,.int .i64 y,.string p]) (ht:W.there t 0 3) :
 (ReflectliteValue.set #[.agg #[.pointer (some ⟨2,103,none⟩),.pointer (some ⟨t,0,none⟩),.int .u64 409],.agg #[.pointer (some ⟨2,103,none⟩),.pointer (some ⟨b,0,none⟩),.int .u64 153]]).run Tryz.prog W
   = .ok (.tuple #[]) (W.setCells t 0 [.int .i64 x,.int .i64 y,.string p]):=by
 have h1:=run_loadVar_mid (P:=Tryz.prog) W b 0 103 [.int .i64 x,.int .i64 y,.string p] _ hb Tryz.underlying103 rfl mf_size
 have h2:=run_storeVar_mid (P:=Tryz.prog) W t 0 103 #[.int .i64 x,.int .i64 y,.string p] ht mf_size (by rw [← Array.all_toList];rfl)
 delta ReflectliteValue.set
 conv in (ReflectliteValue.set.match_3 _ _ _ _)=>whnf
 change ((ReflectliteValue.parts (.agg #[.pointer (some ⟨2,103,none⟩),.pointer (some ⟨t,0,none⟩),.int .u64 409])) >>= _).run Tryz.prog W=_
 simp only [Sem.run_bind,mf_partsV,Result.andThen,Array.getLit]
 simp only [ReflectliteValue.flagAddr]
 simp [Sem.run_bind,Result.andThen,h1,mf_direct,h2,mf_partsS]
theorem thr_alloc {w:World} {b o n:Nat} (h:w.there b o n) (ob:Obj):(w.alloc ob).there b o n:=World.there_alloc h ob
theorem as_hit (x y:Int) (p:ByteArray) (t:Nat) (w:World) (hg:w.cell? ⟨0,0,none⟩=some (.iface 154 (.agg #[.pointer (some ⟨2,99,none⟩)]))) (ht:w.there t 0 3) :
 Calls Tryz.prog 54 #[.iface 103 (.agg #[.int .i64 x,.int .i64 y,.string p]),.iface 105 (.pointer (some ⟨t,0,none⟩))] w fun e w'=>e=.returned (.bool true)∧But t w w':=by
 have h1:=@run_callFunc_extern Tryz.prog 78 _ (fun args=>ReflectliteValue.unpack (args.getD 0 (.tuple #[]))) Tryz.func78 (by kernel_rfl) (by kernel_rfl) (by kernel_rfl) (by kernel_rfl)
 have h2:=@run_callFunc_extern Tryz.prog 79 _ (ReflectliteValue.methodAny (ReflectliteValue.valueError "reflectlite.Value.Type" 0) (fun t _ _ _=>ReflectliteType.toType t)) Tryz.func79 (by kernel_rfl) (by kernel_rfl) (by kernel_rfl) (by kernel_rfl)
 have h3:=@run_callFunc_extern Tryz.prog 80 _ (ReflectliteValue.method (ReflectliteValue.valueError "reflectlite.Value.IsNil" 0) ReflectliteValue.isNil) Tryz.func80 (by kernel_rfl) (by kernel_rfl) (by kernel_rfl) (by kernel_rfl)
 have h4:=@run_callFunc_extern Tryz.prog 149 _ (ReflectliteType.abiMethod fun t=>do pure (.int .u8 (← Rtype.kind t))) Tryz.func149 (by kernel_rfl) (by kernel_rfl) (by kernel_rfl) (by kernel_rfl)
 have h5:=@run_callFunc_extern Tryz.prog 165 _ (ReflectliteType.method ReflectliteType.elem) Tryz.func165 (by kernel_rfl) (by kernel_rfl) (by kernel_rfl) (by kernel_rfl)
 have h6:=@run_callFunc_extern Tryz.prog 166 _ (ReflectliteType.relation "Implements" ReflectliteType.implements_) Tryz.func166 (by kernel_rfl) (by kernel_rfl) (by kernel_rfl) (by kernel_rfl)
 have h7:=@run_callFunc_extern Tryz.prog 97 _ ReflectliteType.typeOf Tryz.func97 (by kernel_rfl) (by kernel_rfl) (by kernel_rfl) (by kernel_rfl)
 have h8:=@run_callFunc_extern Tryz.prog 163 _ (ReflectliteType.relation "AssignableTo" ReflectliteType.assignableTo) Tryz.func163 (by kernel_rfl) (by kernel_rfl) (by kernel_rfl) (by kernel_rfl)
 have h9:=@run_callFunc_extern Tryz.prog 98 _ (ReflectliteValue.method (ReflectliteValue.valueError "reflectlite.Value.Elem" 0) ReflectliteValue.elem) Tryz.func98 (by kernel_rfl) (by kernel_rfl) (by kernel_rfl) (by kernel_rfl)
 have h10:=@run_callFunc_extern Tryz.prog 99 _ ReflectliteValue.set Tryz.func99 (by kernel_rfl) (by kernel_rfl) (by kernel_rfl) (by kernel_rfl)
 have f1:=mf_valueOfP;have f2:=mf_typeP;have f3:=mf_methodKind;have f4:=mf_kindP;have f5:=mf_kindS;have f6:=mf_methodElem;have f7:=mf_methodImplements;have f8:=mf_methodAssignableTo
 have f9:=mf_elemP;have f10:=mf_implementsS;have f11:=mf_typeOfS;have f12:=mf_assignableS;have f13:=mf_valueOfS
 have hlt:0 < w.heap.size:=by
  rcases Nat.lt_or_ge 0 w.heap.size with h | h
  · exact h
  · simp [World.cell?, Array.getElem?_eq_none h] at hg
 have htl:t < w.heap.size:=by
  rcases Nat.lt_or_ge t w.heap.size with h | h
  · exact h
  · have:=(ht 0 (by omega)).1;simp [World.cell?, Array.getElem?_eq_none h] at this
 have n8:=mf_isNilP ⟨w.heap.size,0,none⟩ ⟨t,0,none⟩ ((w.alloc (.cells #[.pointer (some ⟨t,0,none⟩)] 105)).alloc (.cells #[.pointer (some ⟨2,105,none⟩),.pointer (some ⟨w.heap.size,0,none⟩),.int .u64 150] 134)) (by simp)
 have hg2:((w.alloc (.cells #[.pointer (some ⟨t,0,none⟩)] 105)).alloc (.cells #[.pointer (some ⟨2,105,none⟩),.pointer (some ⟨w.heap.size,0,none⟩),.int .u64 150] 134)).cell? ⟨0,0,none⟩=some (.iface 154 (.agg #[.pointer (some ⟨2,99,none⟩)])):=by
  rw [World.cell?_alloc_lt _ _ ⟨0,0,none⟩ (by simp <;> omega),World.cell?_alloc_lt _ _ ⟨0,0,none⟩ hlt];exact hg
 have el:=mf_elemV ⟨w.heap.size,0,none⟩ ⟨t,0,none⟩ (((w.alloc (.cells #[.pointer (some ⟨t,0,none⟩)] 105)).alloc (.cells #[.pointer (some ⟨2,105,none⟩),.pointer (some ⟨w.heap.size,0,none⟩),.int .u64 150] 134)).alloc (.cells #[.pointer (some ⟨2,105,none⟩),.pointer (some ⟨w.heap.size,0,none⟩),.int .u64 150] 134)) (by rw [World.cell?_alloc_lt _ _ ⟨w.heap.size,0,none⟩ (by simp;omega)];simp)
 have st:=mf_set t (w.heap.size+1+1+1) x y p ((((w.alloc (.cells #[.pointer (some ⟨t,0,none⟩)] 105)).alloc (.cells #[.pointer (some ⟨2,105,none⟩),.pointer (some ⟨w.heap.size,0,none⟩),.int .u64 150] 134)).alloc (.cells #[.pointer (some ⟨2,105,none⟩),.pointer (some ⟨w.heap.size,0,none⟩),.int .u64 150] 134)).alloc (.cells #[.int .i64 x,.int .i64 y,.string p] 103))
  (fun j v hv=>by
    match j,hv with
    | 0,hv=>rw [World.cell?_alloc_at _ _ _ _ (by simp)];exact hv
    | 1,hv=>rw [World.cell?_alloc_at _ _ _ _ (by simp)];exact hv
    | 2,hv=>rw [World.cell?_alloc_at _ _ _ _ (by simp)];exact hv)
  (thr_alloc (thr_alloc (thr_alloc (thr_alloc ht _) _) _) _)
 clear ht hlt hg
 have HTL:=xH htl
 clear htl
 go_enter Tryz.func54,Tryz.ntmps54
 go_wp2
 refine wp_loop_rounds 1 ?_
 rw [rounds_succ]
 go_wp2
 go_ret
 refine ⟨rfl,?_⟩
 refine But.trans (b:=(((w.alloc (.cells #[.pointer (some ⟨t,0,none⟩)] 105)).alloc (.cells #[.pointer (some ⟨2,105,none⟩),.pointer (some ⟨w.heap.size,0,none⟩),.int .u64 150] 134)).alloc (.cells #[.pointer (some ⟨2,105,none⟩),.pointer (some ⟨w.heap.size,0,none⟩),.int .u64 150] 134)).alloc (.cells #[.int .i64 x,.int .i64 y,.string p] 103)) ?_ ?_
 · exact (((But.alloc _ _ _).trans (But.alloc _ _ _)).trans (But.alloc _ _ _)).trans (But.alloc _ _ _)
 · exact ((But.set _ _ _).trans (But.set _ _ _)).trans (But.set _ _ _)
end Go.Proofs.YteefjeddboefcaaGreatDoor
