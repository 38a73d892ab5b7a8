/- A part. -/
import Derived.Test.YteefjeddboefcaaGreatDoorPart23
namespace Go.Proofs.YteefjeddboefcaaGreatDoor
open Go Go.RowKit
set_option maxRecDepth 100000
set_option maxHeartbeats 3200000
theorem ldKdsW (w:World) (ad:Addr) (v:Value) (h:w.cell? ad=some v):(Instr.loadAt 24 (.pointer (some ad))).run Tryz.prog w=.ok v w:=by
 simp [Instr.loadAt,Instr.sureAddr,loadVar,Tryz.isAgg24,h,go_sem]
theorem ldTrsW (w:World) (ad:Addr) (v:Value) (h:w.cell? ad=some v):(Instr.loadAt 27 (.pointer (some ad))).run Tryz.prog w=.ok v w:=by
 simp [Instr.loadAt,Instr.sureAddr,loadVar,Tryz.isAgg27,h,go_sem]
theorem stTrsW (w:World) (ad:Addr) (a:Option Addr) (n c:Nat) (u:Value) (h:w.cell? ad=some u) (hf:w.frozen? ad=false):(Instr.storeAt 27 (.pointer (some ad)) (.slice a n c)).run Tryz.prog w=.ok () (w.setCell ad (.slice a n c)):=by
 simp [Instr.storeAt,Instr.sureAddr,storeVar,h,hf,go_sem]
theorem ldKdAt (w:World) (b o:Nat) (x y z:Value) (h0:w.cell? ⟨b,o,none⟩=some x) (h1:w.cell? ⟨b,o+1,none⟩=some y) (h2:w.cell? ⟨b,o+2,none⟩=some z):(Instr.loadAt 26 (.pointer (some ⟨b,o,none⟩))).run Tryz.prog w=.ok (.agg #[x,y,z]) w:=by
 have hr:w.rangeAt b o [x,y,z]:=fun j v hv=>by
  match j,hv with
  | 0,hv=>simp at hv;subst hv;exact h0
  | 1,hv=>simp at hv;subst hv;exact h1
  | 2,hv=>simp at hv;subst hv;exact h2
  | j+3,hv=>simp at hv
 unfold Instr.loadAt
 simp only [Instr.sureAddr,Sem.run_bind,Sem.run_pure,Result.andThen_ok,run_loadVar_mid w b o 26 [x,y,z] _ hr Tryz.underlying26 rfl sizeKd]
theorem ldTrAt (w:World) (b o:Nat) (x y z u v:Value) (h0:w.cell? ⟨b,o,none⟩=some x) (h1:w.cell? ⟨b,o+1,none⟩=some y) (h2:w.cell? ⟨b,o+2,none⟩=some z) (h3:w.cell? ⟨b,o+3,none⟩=some u) (h4:w.cell? ⟨b,o+4,none⟩=some v):(Instr.loadAt 29 (.pointer (some ⟨b,o,none⟩))).run Tryz.prog w=.ok (.agg #[x,y,z,u,v]) w:=by
 have hr:w.rangeAt b o [x,y,z,u,v]:=fun j q hv=>by
  match j,hv with
  | 0,hv=>simp at hv;subst hv;exact h0
  | 1,hv=>simp at hv;subst hv;exact h1
  | 2,hv=>simp at hv;subst hv;exact h2
  | 3,hv=>simp at hv;subst hv;exact h3
  | 4,hv=>simp at hv;subst hv;exact h4
  | j+5,hv=>simp at hv
 unfold Instr.loadAt
 simp only [Instr.sureAddr,Sem.run_bind,Sem.run_pure,Result.andThen_ok,run_loadVar_mid w b o 29 [x,y,z,u,v] _ hr Tryz.underlying29 rfl sizeTr]
theorem ixKdW {o:Oper} {a:Act} {X I:Operand} {g p n cap i:Nat} (ho:o.op=.indexAddr 24 X I) (hx:a.eval X=.slice (some ⟨g,p,none⟩) n cap) (hi:a.eval I=.int .i64 (i:Nat)) (h:i < n) (w:World):(execOp a.eval o).run Tryz.prog w=.ok (.value (.pointer (some ⟨g,p+i * 3,none⟩))) w:=by
 have h1:(0:Int)≤(i:Int)∧(i:Int) < (n:Int):=⟨by omega,by omega⟩
 have h2:(Instr.indexAt 24 (.slice (some ⟨g,p,none⟩) n cap) (.int .i64 (i:Nat))).run Tryz.prog w=.ok (.pointer (some ⟨g,p+i * 3,none⟩)) w:=by
  have e:(⟨g,p+i * 3,none⟩:Addr)=(⟨g,p,none⟩:Addr).add (i * 3):=by simp [Addr.add]
  rw [e]
  simp [go_sem,h1]
 unfold execOp
 simp only [ho,hx,hi,Sem.run_bind,Sem.run_pure,Result.andThen_ok,h2]
theorem ixTrW {o:Oper} {a:Act} {X I:Operand} {g p n cap i:Nat} (ho:o.op=.indexAddr 27 X I) (hx:a.eval X=.slice (some ⟨g,p,none⟩) n cap) (hi:a.eval I=.int .i64 (i:Nat)) (h:i < n) (w:World):(execOp a.eval o).run Tryz.prog w=.ok (.value (.pointer (some ⟨g,p+i * 5,none⟩))) w:=by
 have h1:(0:Int)≤(i:Int)∧(i:Int) < (n:Int):=⟨by omega,by omega⟩
 have h2:(Instr.indexAt 27 (.slice (some ⟨g,p,none⟩) n cap) (.int .i64 (i:Nat))).run Tryz.prog w=.ok (.pointer (some ⟨g,p+i * 5,none⟩)) w:=by
  have e:(⟨g,p+i * 5,none⟩:Addr)=(⟨g,p,none⟩:Addr).add (i * 5):=by simp [Addr.add]
  rw [e]
  simp [go_sem,h1]
 unfold execOp
 simp only [ho,hx,hi,Sem.run_bind,Sem.run_pure,Result.andThen_ok,h2]
theorem cell_lo {W B:World} {lo:Nat} (h:∀ x,x < lo→W.heap[x]? = B.heap[x]?) {ad:Addr} {v:Value} (hb:ad.block < lo) (hc:B.cell? ad=some v):W.cell? ad=some v:=by
 rw [World.cell?_of_block (w:=B) (h ad.block hb)];exact hc
def Kc (B:World) (lo b o:Nat) (c:C3):Prop:=b < lo∧B.cell? ⟨b,o,none⟩=some c.c0∧B.cell? ⟨b,o+1,none⟩=some c.c1∧B.cell? ⟨b,o+2,none⟩=some c.c2
def Tc (B:World) (lo b o:Nat) (c:C5):Prop:=b < lo∧B.cell? ⟨b,o,none⟩=some c.c0∧B.cell? ⟨b,o+1,none⟩=some c.c1∧B.cell? ⟨b,o+2,none⟩=some c.c2∧B.cell? ⟨b,o+3,none⟩=some c.c3∧B.cell? ⟨b,o+4,none⟩=some c.c4
theorem Kc.ld {B W:World} {lo b o:Nat} {c:C3} (h:Kc B lo b o c) (hW:∀ x,x < lo→W.heap[x]? = B.heap[x]?):(Instr.loadAt 26 (.pointer (some ⟨b,o,none⟩))).run Tryz.prog W=.ok (.agg #[c.c0,c.c1,c.c2]) W :=
 ldKdAt W b o _ _ _ (cell_lo hW h.1 h.2.1) (cell_lo hW h.1 h.2.2.1) (cell_lo hW h.1 h.2.2.2)
theorem Tc.ld {B W:World} {lo b o:Nat} {c:C5} (h:Tc B lo b o c) (hW:∀ x,x < lo→W.heap[x]? = B.heap[x]?):(Instr.loadAt 29 (.pointer (some ⟨b,o,none⟩))).run Tryz.prog W=.ok (.agg #[c.c0,c.c1,c.c2,c.c3,c.c4]) W :=
 ldTrAt W b o _ _ _ _ _ (cell_lo hW h.1 h.2.1) (cell_lo hW h.1 h.2.2.1) (cell_lo hW h.1 h.2.2.2.1) (cell_lo hW h.1 h.2.2.2.2.1) (cell_lo hW h.1 h.2.2.2.2.2)
theorem ldOpW {o:Oper} {a:Act} {X:Operand} {T:TypeId} {p v:Value} {W:World} (ho:o.op=.load T X) (hx:a.eval X=p) (h:(Instr.loadAt T p).run Tryz.prog W=.ok v W):(execOp a.eval o).run Tryz.prog W=.ok (.value v) W:=by
 unfold execOp
 simp only [ho,hx,Sem.run_bind,Sem.run_pure,Result.andThen_ok,h]
theorem own_five {w:World} {t:Tr} {d:C5} {F:List Nat} (h:Own w t d F):∃ e0 e1 e2 a7 n7 cap7 a8 n8 cap8,d=⟨.int .i64 e0,.int .i64 e1,.string e2,.slice a7 n7 cap7,.slice a8 n8 cap8⟩:=by
 obtain ⟨a7,cap7,a8,cap8,rfl⟩:=h.forms
 exact ⟨_,_,_,_,_,_,_,_,_,rfl⟩
theorem Own.one5 {w:World} {t:Tr} {d:C5} {F:List Nat} (h:Own w t d F):(#[d.c0,d.c1,d.c2,d.c3,d.c4]:Array Value).all (·.oneCell')=true:=by
 obtain ⟨a7,cap7,a8,cap8,rfl⟩:=h.forms
 rw [← Array.all_toList]
 rfl
noncomputable def ws9Ops:Array Oper:=fops Tryz.f23 9
theorem ws9_neat:Region.noSelect ws9Ops=true∧neat ws9Ops=true:=⟨by kernel_rfl,by kernel_rfl⟩
def kp_ws9 (z:Nat→Value):List (Nat × Value):=[0,1,2,6,9,10,11,12,13,14,15,16,17,18,19,20,21,22,23,24,25,26,27,28,29,30,31,32,33,34,35,36,37,38,39,40,41,42,62,63,64,65,66,67,68,69,70,71,72,73,74,75,76,77,78,79,80,81,82,83,84,85,86,87,88,89,90,91,92,93,94,95,96,97,98,99,100,101,102,103,104,105,106,107,108,109,110,111,112,113,114,115,116,117,118,119,120,121,122,123,124,125,126,127,128,129,130,131,132,133,134,135,136,137,138,139,140,141,142,143,144,145,146,147,148,149,150].map fun i=>(i,z i)
theorem ws9z (z:Nat→Value) (LL:(Nat→Value)→List Value) (lo A C D:Nat) (xb xo xc yb yo yc tb tf tn tc k:Nat) (cx cy:C3) (cz:C5) (s:Int) (vN:Value) (ns:List ByteArray) (aK:Option Addr) (capK:Nat) (ks:List Tr) (xs:List Value) (G:List Nat) (gx:Tr) (W0:World) {l:List Value} (Q:Exit→Act→World→Prop) (hQ:∀ c a d v w,Q (.panic c) (Act.put a d v) w→Q (.panic c) a w)
 (hA:A < lo∧W0.drew.cell? ⟨A,2,none⟩=some (.slice (some ⟨xb,xo,none⟩) 1 xc)) (hC:C < lo∧W0.drew.cell? ⟨C,2,none⟩=some (.slice (some ⟨yb,yo,none⟩) 1 yc)) (hD:D < lo∧W0.drew.cell? ⟨D,4,none⟩=some (.slice (some ⟨tb,tf,none⟩) tn tc))
 (hx:Kc W0.drew lo xb xo cx) (hy:Kc W0.drew lo yb yo cy) (hz:Tc W0.drew lo tb (tf+k * 5) cz) (hk:k < tn) (hk2:k < 1000000) (hkl:ks.length=k)
 (hS:SInv (lo+1) lo W0.drew s vN (.slice aK k capK) ns ks xs G)
 (HK:Calls Tryz.prog 23 #[.agg #[cx.c0,cx.c1,cx.c2],.agg #[cy.c0,cy.c1,cy.c2],.agg #[cz.c0,cz.c1,cz.c2,cz.c3,cz.c4]] W0.drew (TE gx W0.drew))
 (hl:lookL (kp_ws9 z++[(3,.pointer (some ⟨A,0,none⟩)),(4,.pointer (some ⟨C,0,none⟩)),(5,.pointer (some ⟨D,0,none⟩)),(7,.pointer (some ⟨lo,0,none⟩)),(8,.int .i64 (k:Nat))]) l=(151,(kp_ws9 z++[(3,.pointer (some ⟨A,0,none⟩)),(4,.pointer (some ⟨C,0,none⟩)),(5,.pointer (some ⟨D,0,none⟩)),(7,.pointer (some ⟨lo,0,none⟩)),(8,.int .i64 (k:Nat))]:List (Nat × Value)).map (·.2))) (hfr:∀ u:Nat→Value,frL u 151 (kp_ws9 z++[(3,.pointer (some ⟨A,0,none⟩)),(4,.pointer (some ⟨C,0,none⟩)),(5,.pointer (some ⟨D,0,none⟩)),(7,.pointer (some ⟨lo,0,none⟩)),(8,.int .i64 (k:Nat))])=LL u)
 (hend:∀ (u:Nat→Value) (a':Option Addr) (cap':Nat) (xs':List Value) (G':List Nat) (W':World),SInv (lo+1) lo W' s vN (.slice a' (k+1) cap') ns (ks++[gx]) xs' G'→Below lo W0.drew W'→Q .normal ⟨(LL u).toArray,[]⟩ W'):(Code.region 9 ws9Ops true).wp Tryz.prog Q ⟨l.toArray,[]⟩ W0:=by
 obtain ⟨v0,rfl⟩:=look_fr hl
 have hq:NtQ ws9Ops Q:=⟨ws9_neat,hQ⟩
 refine T_start (S:=fun W=>∀ x,x < lo→W.heap[x]? = W0.drew.heap[x]?) (by kernel_rfl) (fun _ _=>rfl) ?_
 clear hl hQ
 generalize W0.drew=B at hA hC hD hx hy hz hS HK hend ⊢
 have Q2:∀ (u:Nat→Value) (e0 e1:Int) (e2:ByteArray) (a7 a8:Option Addr) (n7 cap7 n8 cap8:Nat) (F:List Nat) (W:World) (ho:Own W gx ⟨.int .i64 e0,.int .i64 e1,.string e2,.slice a7 n7 cap7,.slice a8 n8 cap8⟩ F) (hnd:F.Nodup) (hF:∀ b,b∈F→B.heap.size≤b∧b < W.heap.size) (hb:Below B.heap.size B W),wpS Tryz.prog ws9Ops Q (fun W=>∀ x,x < lo→W.heap[x]? = B.heap[x]?) (unl 20 [17,18,19],frL u 151 (kp_ws9 z++[(3,.pointer (some ⟨A,0,none⟩)),(4,.pointer (some ⟨C,0,none⟩)),(5,.pointer (some ⟨D,0,none⟩)),(7,.pointer (some ⟨lo,0,none⟩)),(8,.int .i64 (k:Nat)),(43,.pointer (some ⟨lo,4,none⟩)),(44,.slice aK k capK),(59,.slice (some ⟨W.heap.size,0,none⟩) 1 1)])) [] (W.alloc (.cells #[.int .i64 e0,.int .i64 e1,.string e2,.slice a7 n7 cap7,.slice a8 n8 cap8] 29)):=by
  intro u e0 e1 e2 a7 a8 n7 cap7 n8 cap8 F W ho hnd hF hb
  obtain ⟨i0,hi0,hi1,hi2,hi3⟩:=info_parts infoTreeS
  have hsW:=hS.kept (w':=W) ⟨hb.os,hb.tape,hb.output,hb.size,fun i hi _=>hb.block i hi⟩
  have hsz:=hsW.size
  have hrow:=hsW.got.row
  rw [hkl] at hrow
  refine T_one 17 (by kernel_rfl) fun hS0=>O_list (some 60) (by kernel_rfl) ?_
  refine append_row _ (by kernel_rfl) (.tmp 44) (.tmp 59) 27 (by kernel_rfl) (lo+1) 29 i0 (.agg #[.int .i64 0,.int .i64 0,.string ByteArray.empty,.slice none 0 0,.slice none 0 0]) 5 80 Tryz.underlying27 hi0 hi1 hi2 hi3 rfl (by decide) (.slice aK k capK) k xs (by kernel_rfl) (hrow.alloc _) ⟨W.heap.size,0,none⟩ 1 1 (c5l ⟨.int .i64 e0,.int .i64 e1,.string e2,.slice a7 n7 cap7,.slice a8 n8 cap8⟩) (by kernel_rfl) rfl (cell_five W _ _) ho.one (by decide) (by unfold maxLen;omega) (by omega) (by rw [World.size_alloc];omega) ?_
  intro v' W3 hown hgrow hat
  obtain ⟨g5,cap5,rfl,-,-⟩:=hown.form (by omega)
  have u4:=(SInv.atK hsW hgrow).cell (i:=4) (by omega)
  have uz4:=(SInv.atK hsW hgrow).frozen 4
  simp only [row5] at u4
  have hinv:=SInv.kid (m:=B.heap.size) (hsW.kept (World.grownBy_alloc W (.cells #[.int .i64 e0,.int .i64 e1,.string e2,.slice a7 n7 cap7,.slice a8 n8 cap8] 29) none)) (Own.carry gx _ F (fun b hb=>Below.heap_alloc _ _ _ (hF b hb).2) ho) hnd (fun b hb'=>⟨(hF b hb').1,by rw [World.size_alloc];have:=(hF b hb').2;omega⟩)
   (fun b hb'=>(hS.got.lt b hb').2.1) (fun b hb'=>(hS.got.row.lt b hb').2) (fun b hb'=>(hS.names.lt b hb').2) hS.size (by rw [hkl];exact hown) hgrow hat
  have hbl:Below lo B (W3.setCell ⟨lo,4,none⟩ (.slice (some ⟨g5,0,none⟩) (k+1) cap5)) :=
   (((hb.mono (by have:=hS.size;omega)).alloc (by omega) (.cells #[.int .i64 e0,.int .i64 e1,.string e2,.slice a7 n7 cap7,.slice a8 n8 cap8] 29)).grown hgrow (by rw [World.size_alloc];omega) (fun b e=>by have:=(hsW.got.row.lt b e).1;omega)).setCell (by simp) _
  have h17:∀ x,x < lo→W3.heap[x]? = B.heap[x]? := fun x hx=>by
   rw [← hbl.block x hx]
   exact (Below.heap_setCell _ _ _ _ (fun e=>by simp only at e;omega)).symm
  refine ⟨h17,_,put_putL ..,?_⟩
  refine T_z hq [18] (by kernel_rfl) ?_
  refine T_one 19 (by kernel_rfl) fun _=>O_store none 27 (.tmp 61) (.tmp 60) ⟨lo,4,none⟩ (.slice (some ⟨g5,0,none⟩) (k+1) cap5) _ (by kernel_rfl) (by kernel_rfl) (by kernel_rfl) (stTrsW W3 _ _ _ _ _ u4 uz4) (fun x hx=>hbl.block x hx) ?_
  exact T_end 151 (kp_ws9 z++[(3,.pointer (some ⟨A,0,none⟩)),(4,.pointer (some ⟨C,0,none⟩)),(5,.pointer (some ⟨D,0,none⟩)),(7,.pointer (some ⟨lo,0,none⟩)),(8,.int .i64 (k:Nat))]) (by kernel_rfl) (by kernel_rfl) fun _ u=>by rw [hfr];exact hend u _ _ _ _ _ hinv hbl
 have Q1:∀ (u:Nat→Value) (e0 e1:Int) (e2:ByteArray) (a7 a8:Option Addr) (n7 cap7 n8 cap8:Nat) (F:List Nat) (W:World) (ho:Own W gx ⟨.int .i64 e0,.int .i64 e1,.string e2,.slice a7 n7 cap7,.slice a8 n8 cap8⟩ F) (hnd:F.Nodup) (hF:∀ b,b∈F→B.heap.size≤b∧b < W.heap.size) (hb:Below B.heap.size B W),wpS Tryz.prog ws9Ops Q (fun W=>∀ x,x < lo→W.heap[x]? = B.heap[x]?) (unl 20 [16,17,18,19],frL u 151 (kp_ws9 z++[(3,.pointer (some ⟨A,0,none⟩)),(4,.pointer (some ⟨C,0,none⟩)),(5,.pointer (some ⟨D,0,none⟩)),(7,.pointer (some ⟨lo,0,none⟩)),(8,.int .i64 (k:Nat)),(43,.pointer (some ⟨lo,4,none⟩)),(44,.slice aK k capK),(58,.agg #[.int .i64 e0,.int .i64 e1,.string e2,.slice a7 n7 cap7,.slice a8 n8 cap8])])) [] W:=by
  intro u e0 e1 e2 a7 a8 n7 cap7 n8 cap8 F W ho hnd hF hb
  refine T_one 16 (by kernel_rfl) fun _=>?_
  exact O_val (w':=W.alloc (.cells #[.int .i64 e0,.int .i64 e1,.string e2,.slice a7 n7 cap7,.slice a8 n8 cap8] 29)) (some 59) (.slice (some ⟨W.heap.size,0,none⟩) 1 1) (by kernel_rfl) (by kernel_rfl) (fun x hx=>(Below.heap_alloc _ _ _ (by have:=hS.size;have:=hb.size;omega)).trans (hb.block x (by have:=hS.size;omega))) (T_fr 20 151 [17,18,19] (kp_ws9 z++[(3,.pointer (some ⟨A,0,none⟩)),(4,.pointer (some ⟨C,0,none⟩)),(5,.pointer (some ⟨D,0,none⟩)),(7,.pointer (some ⟨lo,0,none⟩)),(8,.int .i64 (k:Nat)),(43,.pointer (some ⟨lo,4,none⟩)),(44,.slice aK k capK),(59,.slice (some ⟨W.heap.size,0,none⟩) 1 1)]) (by kernel_rfl) fun u=>Q2 u e0 e1 e2 a7 a8 n7 cap7 n8 cap8 F W ho hnd hF hb)
 have P2:∀ (u:Nat→Value) (e0 e1:Int) (e2:ByteArray) (a7 a8:Option Addr) (n7 cap7 n8 cap8:Nat) (F:List Nat) (W:World) (ho:Own W gx ⟨.int .i64 e0,.int .i64 e1,.string e2,.slice a7 n7 cap7,.slice a8 n8 cap8⟩ F) (hnd:F.Nodup) (hF:∀ b,b∈F→B.heap.size≤b∧b < W.heap.size) (hb:Below B.heap.size B W),wpS Tryz.prog ws9Ops Q (fun W=>∀ x,x < lo→W.heap[x]? = B.heap[x]?) (unl 20 [1,17,18,19],frL u 151 (kp_ws9 z++[(3,.pointer (some ⟨A,0,none⟩)),(4,.pointer (some ⟨C,0,none⟩)),(5,.pointer (some ⟨D,0,none⟩)),(7,.pointer (some ⟨lo,0,none⟩)),(8,.int .i64 (k:Nat)),(43,.pointer (some ⟨lo,4,none⟩)),(59,.slice (some ⟨W.heap.size,0,none⟩) 1 1)])) [] (W.alloc (.cells #[.int .i64 e0,.int .i64 e1,.string e2,.slice a7 n7 cap7,.slice a8 n8 cap8] 29)):=by
  intro u e0 e1 e2 a7 a8 n7 cap7 n8 cap8 F W ho hnd hF hb
  have hsW:=hS.kept (w':=W) ⟨hb.os,hb.tape,hb.output,hb.size,fun i hi _=>hb.block i hi⟩
  refine T_one 1 (by kernel_rfl) fun hS0=>?_
  exact O_val (some 44) (.slice aK k capK) (by kernel_rfl) (ldOpW (X:=.tmp 43) (by kernel_rfl) (by kernel_rfl) (ldTrsW (W.alloc (.cells #[.int .i64 e0,.int .i64 e1,.string e2,.slice a7 n7 cap7,.slice a8 n8 cap8] 29)) ⟨lo,4,none⟩ _ ((hsW.cells.alloc _).cell (i:=4) (by omega)))) hS0 (T_fr 20 151 [17,18,19] (kp_ws9 z++[(3,.pointer (some ⟨A,0,none⟩)),(4,.pointer (some ⟨C,0,none⟩)),(5,.pointer (some ⟨D,0,none⟩)),(7,.pointer (some ⟨lo,0,none⟩)),(8,.int .i64 (k:Nat)),(43,.pointer (some ⟨lo,4,none⟩)),(44,.slice aK k capK),(59,.slice (some ⟨W.heap.size,0,none⟩) 1 1)]) (by kernel_rfl) fun u=>Q2 u e0 e1 e2 a7 a8 n7 cap7 n8 cap8 F W ho hnd hF hb)
 have P1:∀ (u:Nat→Value) (e0 e1:Int) (e2:ByteArray) (a7 a8:Option Addr) (n7 cap7 n8 cap8:Nat) (F:List Nat) (W:World) (ho:Own W gx ⟨.int .i64 e0,.int .i64 e1,.string e2,.slice a7 n7 cap7,.slice a8 n8 cap8⟩ F) (hnd:F.Nodup) (hF:∀ b,b∈F→B.heap.size≤b∧b < W.heap.size) (hb:Below B.heap.size B W),wpS Tryz.prog ws9Ops Q (fun W=>∀ x,x < lo→W.heap[x]? = B.heap[x]?) (unl 20 [1,16,17,18,19],frL u 151 (kp_ws9 z++[(3,.pointer (some ⟨A,0,none⟩)),(4,.pointer (some ⟨C,0,none⟩)),(5,.pointer (some ⟨D,0,none⟩)),(7,.pointer (some ⟨lo,0,none⟩)),(8,.int .i64 (k:Nat)),(43,.pointer (some ⟨lo,4,none⟩)),(58,.agg #[.int .i64 e0,.int .i64 e1,.string e2,.slice a7 n7 cap7,.slice a8 n8 cap8])])) [] W:=by
  intro u e0 e1 e2 a7 a8 n7 cap7 n8 cap8 F W ho hnd hF hb
  have hsW:=hS.kept (w':=W) ⟨hb.os,hb.tape,hb.output,hb.size,fun i hi _=>hb.block i hi⟩
  refine T_two 1 16 (by kernel_rfl) (fun hS0=>?_) fun _=>?_
  · exact O_val (some 44) (.slice aK k capK) (by kernel_rfl) (ldOpW (X:=.tmp 43) (by kernel_rfl) (by kernel_rfl) (ldTrsW W ⟨lo,4,none⟩ _ (hsW.cells.cell (i:=4) (by omega)))) hS0 (T_fr 20 151 [16,17,18,19] (kp_ws9 z++[(3,.pointer (some ⟨A,0,none⟩)),(4,.pointer (some ⟨C,0,none⟩)),(5,.pointer (some ⟨D,0,none⟩)),(7,.pointer (some ⟨lo,0,none⟩)),(8,.int .i64 (k:Nat)),(43,.pointer (some ⟨lo,4,none⟩)),(44,.slice aK k capK),(58,.agg #[.int .i64 e0,.int .i64 e1,.string e2,.slice a7 n7 cap7,.slice a8 n8 cap8])]) (by kernel_rfl) fun u=>Q1 u e0 e1 e2 a7 a8 n7 cap7 n8 cap8 F W ho hnd hF hb)
  · exact O_val (w':=W.alloc (.cells #[.int .i64 e0,.int .i64 e1,.string e2,.slice a7 n7 cap7,.slice a8 n8 cap8] 29)) (some 59) (.slice (some ⟨W.heap.size,0,none⟩) 1 1) (by kernel_rfl) (by kernel_rfl) (fun x hx=>(Below.heap_alloc _ _ _ (by have:=hS.size;have:=hb.size;omega)).trans (hb.block x (by have:=hS.size;omega))) (T_fr 20 151 [1,17,18,19] (kp_ws9 z++[(3,.pointer (some ⟨A,0,none⟩)),(4,.pointer (some ⟨C,0,none⟩)),(5,.pointer (some ⟨D,0,none⟩)),(7,.pointer (some ⟨lo,0,none⟩)),(8,.int .i64 (k:Nat)),(43,.pointer (some ⟨lo,4,none⟩)),(59,.slice (some ⟨W.heap.size,0,none⟩) 1 1)]) (by kernel_rfl) fun u=>P2 u e0 e1 e2 a7 a8 n7 cap7 n8 cap8 F W ho hnd hF hb)
 have Q0:∀ (u:Nat→Value),wpS Tryz.prog ws9Ops Q (fun W=>∀ x,x < lo→W.heap[x]? = B.heap[x]?) (unl 20 [15,16,17,18,19],frL u 151 (kp_ws9 z++[(3,.pointer (some ⟨A,0,none⟩)),(4,.pointer (some ⟨C,0,none⟩)),(5,.pointer (some ⟨D,0,none⟩)),(7,.pointer (some ⟨lo,0,none⟩)),(8,.int .i64 (k:Nat)),(43,.pointer (some ⟨lo,4,none⟩)),(44,.slice aK k capK),(48,.agg #[cx.c0,cx.c1,cx.c2]),(52,.agg #[cy.c0,cy.c1,cy.c2]),(57,.agg #[cz.c0,cz.c1,cz.c2,cz.c3,cz.c4])])) [] B:=by
  intro u
  refine T_one 15 (by kernel_rfl) fun _=>?_
  refine O_go HK (by kernel_rfl) ?_
  rintro e W ⟨d,F,rfl,ho,hnd,hF,hb⟩
  obtain ⟨e0,e1,e2,a7,n7,cap7,a8,n8,cap8,rfl⟩:=own_five ho
  exact ⟨_,rfl,fun x hx=>hb.block x (by have:=hS.size;omega),T_fr 20 151 [16,17,18,19] (kp_ws9 z++[(3,.pointer (some ⟨A,0,none⟩)),(4,.pointer (some ⟨C,0,none⟩)),(5,.pointer (some ⟨D,0,none⟩)),(7,.pointer (some ⟨lo,0,none⟩)),(8,.int .i64 (k:Nat)),(43,.pointer (some ⟨lo,4,none⟩)),(44,.slice aK k capK),(58,.agg #[.int .i64 e0,.int .i64 e1,.string e2,.slice a7 n7 cap7,.slice a8 n8 cap8])]) (by kernel_rfl) fun u=>Q1 u e0 e1 e2 a7 a8 n7 cap7 n8 cap8 F W ho hnd hF hb⟩
 have P0:∀ (u:Nat→Value),wpS Tryz.prog ws9Ops Q (fun W=>∀ x,x < lo→W.heap[x]? = B.heap[x]?) (unl 20 [1,15,16,17,18,19],frL u 151 (kp_ws9 z++[(3,.pointer (some ⟨A,0,none⟩)),(4,.pointer (some ⟨C,0,none⟩)),(5,.pointer (some ⟨D,0,none⟩)),(7,.pointer (some ⟨lo,0,none⟩)),(8,.int .i64 (k:Nat)),(43,.pointer (some ⟨lo,4,none⟩)),(48,.agg #[cx.c0,cx.c1,cx.c2]),(52,.agg #[cy.c0,cy.c1,cy.c2]),(57,.agg #[cz.c0,cz.c1,cz.c2,cz.c3,cz.c4])])) [] B:=by
  intro u
  refine T_two 1 15 (by kernel_rfl) (fun hS0=>?_) fun _=>?_
  · exact O_val (some 44) (.slice aK k capK) (by kernel_rfl) (ldOpW (X:=.tmp 43) (by kernel_rfl) (by kernel_rfl) (ldTrsW B ⟨lo,4,none⟩ _ (hS.cells.cell (i:=4) (by omega)))) hS0 (T_fr 20 151 [15,16,17,18,19] (kp_ws9 z++[(3,.pointer (some ⟨A,0,none⟩)),(4,.pointer (some ⟨C,0,none⟩)),(5,.pointer (some ⟨D,0,none⟩)),(7,.pointer (some ⟨lo,0,none⟩)),(8,.int .i64 (k:Nat)),(43,.pointer (some ⟨lo,4,none⟩)),(44,.slice aK k capK),(48,.agg #[cx.c0,cx.c1,cx.c2]),(52,.agg #[cy.c0,cy.c1,cy.c2]),(57,.agg #[cz.c0,cz.c1,cz.c2,cz.c3,cz.c4])]) (by kernel_rfl) fun u=>Q0 u)
  · refine O_go HK (by kernel_rfl) ?_
    rintro e W ⟨d,F,rfl,ho,hnd,hF,hb⟩
    obtain ⟨e0,e1,e2,a7,n7,cap7,a8,n8,cap8,rfl⟩:=own_five ho
    exact ⟨_,rfl,fun x hx=>hb.block x (by have:=hS.size;omega),T_fr 20 151 [1,16,17,18,19] (kp_ws9 z++[(3,.pointer (some ⟨A,0,none⟩)),(4,.pointer (some ⟨C,0,none⟩)),(5,.pointer (some ⟨D,0,none⟩)),(7,.pointer (some ⟨lo,0,none⟩)),(8,.int .i64 (k:Nat)),(43,.pointer (some ⟨lo,4,none⟩)),(58,.agg #[.int .i64 e0,.int .i64 e1,.string e2,.slice a7 n7 cap7,.slice a8 n8 cap8])]) (by kernel_rfl) fun u=>P1 u e0 e1 e2 a7 a8 n7 cap7 n8 cap8 F W ho hnd hF hb⟩
 refine T_z hq [0,2,6,10,12] (by kernel_rfl) ?_
 refine T_a hq [3,7] (fun w' h=>.cons (ldKdsW _ ⟨A,2,none⟩ (.slice (some ⟨xb,xo,none⟩) 1 xc) (cell_lo h hA.1 hA.2)) (.cons (ldKdsW _ ⟨C,2,none⟩ (.slice (some ⟨yb,yo,none⟩) 1 yc) (cell_lo h hC.1 hC.2)) Lds.nil)) (by kernel_rfl) ?_
 refine T_a hq [11] (fun w' h=>.cons (ldTrsW _ ⟨D,4,none⟩ (.slice (some ⟨tb,tf,none⟩) tn tc) (cell_lo h hD.1 hD.2)) Lds.nil) (by kernel_rfl) ?_
 refine T_yld hq 4 (some 47) (.pointer (some ⟨xb,xo+0 * 3,none⟩)) (by kernel_rfl) (by kernel_rfl) (fun w _=>ixKdW (n:=1) (cap:=xc) (i:=0) (X:=.tmp 46) (I:=.const (.int .i64 0)) (by kernel_rfl) (by kernel_rfl) (by kernel_rfl) (by decide) w) ?_
 refine T_yld hq 8 (some 51) (.pointer (some ⟨yb,yo+0 * 3,none⟩)) (by kernel_rfl) (by kernel_rfl) (fun w _=>ixKdW (n:=1) (cap:=yc) (i:=0) (X:=.tmp 50) (I:=.const (.int .i64 0)) (by kernel_rfl) (by kernel_rfl) (by kernel_rfl) (by decide) w) ?_
 refine T_yld hq 13 (some 56) (.pointer (some ⟨tb,tf+k * 5,none⟩)) (by kernel_rfl) (by kernel_rfl) (fun w _=>ixTrW (n:=tn) (cap:=tc) (i:=k) (X:=.tmp 54) (I:=.tmp 55) (by kernel_rfl) (by kernel_rfl) (by kernel_rfl) hk w) ?_
 have hx':Kc B lo xb (xo+0 * 3) cx:=by simpa using hx
 have hy':Kc B lo yb (yo+0 * 3) cy:=by simpa using hy
 refine T_a hq [5,9,14] (fun w' h=>.cons (hx'.ld h) (.cons (hy'.ld h) (.cons (hz.ld h) Lds.nil))) (by kernel_rfl) ?_
 exact T_fr 20 151 [1,15,16,17,18,19] (kp_ws9 z++[(3,.pointer (some ⟨A,0,none⟩)),(4,.pointer (some ⟨C,0,none⟩)),(5,.pointer (some ⟨D,0,none⟩)),(7,.pointer (some ⟨lo,0,none⟩)),(8,.int .i64 (k:Nat)),(43,.pointer (some ⟨lo,4,none⟩)),(48,.agg #[cx.c0,cx.c1,cx.c2]),(52,.agg #[cy.c0,cy.c1,cy.c2]),(57,.agg #[cz.c0,cz.c1,cz.c2,cz.c3,cz.c4])]) (by kernel_rfl) fun u=>P0 u
theorem ws9 (lo A C D:Nat) (xb xo xc yb yo yc tb tf tn tc k:Nat) (cx cy:C3) (cz:C5) (s:Int) (vN:Value) (ns:List ByteArray) (aK:Option Addr) (capK:Nat) (ks:List Tr) (xs:List Value) (G:List Nat) (gx:Tr) (W0:World) {l:List Value} (Q:Exit→Act→World→Prop) (hQ:∀ c a d v w,Q (.panic c) (Act.put a d v) w→Q (.panic c) a w)
 (hA:A < lo∧W0.drew.cell? ⟨A,2,none⟩=some (.slice (some ⟨xb,xo,none⟩) 1 xc)) (hC:C < lo∧W0.drew.cell? ⟨C,2,none⟩=some (.slice (some ⟨yb,yo,none⟩) 1 yc)) (hD:D < lo∧W0.drew.cell? ⟨D,4,none⟩=some (.slice (some ⟨tb,tf,none⟩) tn tc))
 (hx:Kc W0.drew lo xb xo cx) (hy:Kc W0.drew lo yb yo cy) (hz:Tc W0.drew lo tb (tf+k * 5) cz) (hk:k < tn) (hk2:k < 1000000) (hkl:ks.length=k)
 (hS:SInv (lo+1) lo W0.drew s vN (.slice aK k capK) ns ks xs G)
 (HK:Calls Tryz.prog 23 #[.agg #[cx.c0,cx.c1,cx.c2],.agg #[cy.c0,cy.c1,cy.c2],.agg #[cz.c0,cz.c1,cz.c2,cz.c3,cz.c4]] W0.drew (TE gx W0.drew))
 (hl:lookL (kp_ws9 (fun i=>l.getD i undef)++[(3,.pointer (some ⟨A,0,none⟩)),(4,.pointer (some ⟨C,0,none⟩)),(5,.pointer (some ⟨D,0,none⟩)),(7,.pointer (some ⟨lo,0,none⟩)),(8,.int .i64 (k:Nat))]) l=(151,(kp_ws9 (fun i=>l.getD i undef)++[(3,.pointer (some ⟨A,0,none⟩)),(4,.pointer (some ⟨C,0,none⟩)),(5,.pointer (some ⟨D,0,none⟩)),(7,.pointer (some ⟨lo,0,none⟩)),(8,.int .i64 (k:Nat))]:List (Nat × Value)).map (·.2))) (hfr:∀ u:Nat→Value,frL u 151 (kp_ws9 (fun i=>l.getD i undef)++[(3,.pointer (some ⟨A,0,none⟩)),(4,.pointer (some ⟨C,0,none⟩)),(5,.pointer (some ⟨D,0,none⟩)),(7,.pointer (some ⟨lo,0,none⟩)),(8,.int .i64 (k:Nat))])=l.take 43++(u 43::u 44::u 45::u 46::u 47::u 48::u 49::u 50::u 51::u 52::u 53::u 54::u 55::u 56::u 57::u 58::u 59::u 60::u 61::l.drop 62))
 (hend:∀ (u:Nat→Value) (a':Option Addr) (cap':Nat) (xs':List Value) (G':List Nat) (W':World),SInv (lo+1) lo W' s vN (.slice a' (k+1) cap') ns (ks++[gx]) xs' G'→Below lo W0.drew W'→Q .normal ⟨(l.take 43++(u 43::u 44::u 45::u 46::u 47::u 48::u 49::u 50::u 51::u 52::u 53::u 54::u 55::u 56::u 57::u 58::u 59::u 60::u 61::l.drop 62)).toArray,[]⟩ W'):(Code.region 9 ws9Ops true).wp Tryz.prog Q ⟨l.toArray,[]⟩ W0 :=
 ws9z (fun i=>l.getD i undef) (fun u=>l.take 43++(u 43::u 44::u 45::u 46::u 47::u 48::u 49::u 50::u 51::u 52::u 53::u 54::u 55::u 56::u 57::u 58::u 59::u 60::u 61::l.drop 62)) lo A C D xb xo xc yb yo yc tb tf tn tc k cx cy cz s vN ns aK capK ks xs G gx W0 Q hQ hA hC hD hx hy hz hk hk2 hkl hS HK hl hfr hend
noncomputable def ws14Ops:Array Oper:=fops Tryz.f23 14
theorem ws14_neat:Region.noSelect ws14Ops=true∧neat ws14Ops=true:=⟨by kernel_rfl,by kernel_rfl⟩
def kp_ws14 (z:Nat→Value):List (Nat × Value):=[0,1,2,6,8,10,11,12,13,14,15,16,17,18,19,20,21,22,23,24,25,26,27,28,29,30,31,32,33,34,35,36,37,38,39,40,41,42,43,44,45,46,47,48,49,50,51,52,53,54,55,56,57,58,59,60,61,62,63,64,65,66,67,68,69,70,90,91,92,93,94,95,96,97,98,99,100,101,102,103,104,105,106,107,108,109,110,111,112,113,114,115,116,117,118,119,120,121,122,123,124,125,126,127,128,129,130,131,132,133,134,135,136,137,138,139,140,141,142,143,144,145,146,147,148,149,150].map fun i=>(i,z i)
theorem ws14z (z:Nat→Value) (LL:(Nat→Value)→List Value) (lo A C D:Nat) (xb xo xc yb yo yc tb tf tn tc k:Nat) (cx cy:C3) (cz:C5) (s:Int) (vN:Value) (ns:List ByteArray) (aK:Option Addr) (capK:Nat) (ks:List Tr) (xs:List Value) (G:List Nat) (gx:Tr) (W0:World) {l:List Value} (Q:Exit→Act→World→Prop) (hQ:∀ c a d v w,Q (.panic c) (Act.put a d v) w→Q (.panic c) a w)
 (hA:A < lo∧W0.drew.cell? ⟨A,2,none⟩=some (.slice (some ⟨xb,xo,none⟩) 1 xc)) (hC:C < lo∧W0.drew.cell? ⟨C,2,none⟩=some (.slice (some ⟨yb,yo,none⟩) 1 yc)) (hD:D < lo∧W0.drew.cell? ⟨D,4,none⟩=some (.slice (some ⟨tb,tf,none⟩) tn tc))
 (hx:Kc W0.drew lo xb xo cx) (hy:Kc W0.drew lo yb yo cy) (hz:Tc W0.drew lo tb (tf+k * 5) cz) (hk:k < tn) (hk2:k < 1000000) (hkl:ks.length=k)
 (hS:SInv (lo+1) lo W0.drew s vN (.slice aK k capK) ns ks xs G)
 (HK:Calls Tryz.prog 23 #[.agg #[cx.c0,cx.c1,cx.c2],.agg #[cy.c0,cy.c1,cy.c2],.agg #[cz.c0,cz.c1,cz.c2,cz.c3,cz.c4]] W0.drew (TE gx W0.drew))
 (hl:lookL (kp_ws14 z++[(3,.pointer (some ⟨A,0,none⟩)),(4,.pointer (some ⟨C,0,none⟩)),(5,.pointer (some ⟨D,0,none⟩)),(7,.pointer (some ⟨lo,0,none⟩)),(9,.int .i64 (k:Nat))]) l=(151,(kp_ws14 z++[(3,.pointer (some ⟨A,0,none⟩)),(4,.pointer (some ⟨C,0,none⟩)),(5,.pointer (some ⟨D,0,none⟩)),(7,.pointer (some ⟨lo,0,none⟩)),(9,.int .i64 (k:Nat))]:List (Nat × Value)).map (·.2))) (hfr:∀ u:Nat→Value,frL u 151 (kp_ws14 z++[(3,.pointer (some ⟨A,0,none⟩)),(4,.pointer (some ⟨C,0,none⟩)),(5,.pointer (some ⟨D,0,none⟩)),(7,.pointer (some ⟨lo,0,none⟩)),(9,.int .i64 (k:Nat))])=LL u)
 (hend:∀ (u:Nat→Value) (a':Option Addr) (cap':Nat) (xs':List Value) (G':List Nat) (W':World),SInv (lo+1) lo W' s vN (.slice a' (k+1) cap') ns (ks++[gx]) xs' G'→Below lo W0.drew W'→Q .normal ⟨(LL u).toArray,[]⟩ W'):(Code.region 14 ws14Ops true).wp Tryz.prog Q ⟨l.toArray,[]⟩ W0:=by
 obtain ⟨v0,rfl⟩:=look_fr hl
 have hq:NtQ ws14Ops Q:=⟨ws14_neat,hQ⟩
 refine T_start (S:=fun W=>∀ x,x < lo→W.heap[x]? = W0.drew.heap[x]?) (by kernel_rfl) (fun _ _=>rfl) ?_
 clear hl hQ
 generalize W0.drew=B at hA hC hD hx hy hz hS HK hend ⊢
 have Q2:∀ (u:Nat→Value) (e0 e1:Int) (e2:ByteArray) (a7 a8:Option Addr) (n7 cap7 n8 cap8:Nat) (F:List Nat) (W:World) (ho:Own W gx ⟨.int .i64 e0,.int .i64 e1,.string e2,.slice a7 n7 cap7,.slice a8 n8 cap8⟩ F) (hnd:F.Nodup) (hF:∀ b,b∈F→B.heap.size≤b∧b < W.heap.size) (hb:Below B.heap.size B W),wpS Tryz.prog ws14Ops Q (fun W=>∀ x,x < lo→W.heap[x]? = B.heap[x]?) (unl 20 [17,18,19],frL u 151 (kp_ws14 z++[(3,.pointer (some ⟨A,0,none⟩)),(4,.pointer (some ⟨C,0,none⟩)),(5,.pointer (some ⟨D,0,none⟩)),(7,.pointer (some ⟨lo,0,none⟩)),(9,.int .i64 (k:Nat)),(71,.pointer (some ⟨lo,4,none⟩)),(72,.slice aK k capK),(87,.slice (some ⟨W.heap.size,0,none⟩) 1 1)])) [] (W.alloc (.cells #[.int .i64 e0,.int .i64 e1,.string e2,.slice a7 n7 cap7,.slice a8 n8 cap8] 29)):=by
  intro u e0 e1 e2 a7 a8 n7 cap7 n8 cap8 F W ho hnd hF hb
  obtain ⟨i0,hi0,hi1,hi2,hi3⟩:=info_parts infoTreeS
  have hsW:=hS.kept (w':=W) ⟨hb.os,hb.tape,hb.output,hb.size,fun i hi _=>hb.block i hi⟩
  have hsz:=hsW.size
  have hrow:=hsW.got.row
  rw [hkl] at hrow
  refine T_one 17 (by kernel_rfl) fun hS0=>O_list (some 88) (by kernel_rfl) ?_
  refine append_row _ (by kernel_rfl) (.tmp 72) (.tmp 87) 27 (by kernel_rfl) (lo+1) 29 i0 (.agg #[.int .i64 0,.int .i64 0,.string ByteArray.empty,.slice none 0 0,.slice none 0 0]) 5 80 Tryz.underlying27 hi0 hi1 hi2 hi3 rfl (by decide) (.slice aK k capK) k xs (by kernel_rfl) (hrow.alloc _) ⟨W.heap.size,0,none⟩ 1 1 (c5l ⟨.int .i64 e0,.int .i64 e1,.string e2,.slice a7 n7 cap7,.slice a8 n8 cap8⟩) (by kernel_rfl) rfl (cell_five W _ _) ho.one (by decide) (by unfold maxLen;omega) (by omega) (by rw [World.size_alloc];omega) ?_
  intro v' W3 hown hgrow hat
  obtain ⟨g5,cap5,rfl,-,-⟩:=hown.form (by omega)
  have u4:=(SInv.atK hsW hgrow).cell (i:=4) (by omega)
  have uz4:=(SInv.atK hsW hgrow).frozen 4
  simp only [row5] at u4
  have hinv:=SInv.kid (m:=B.heap.size) (hsW.kept (World.grownBy_alloc W (.cells #[.int .i64 e0,.int .i64 e1,.string e2,.slice a7 n7 cap7,.slice a8 n8 cap8] 29) none)) (Own.carry gx _ F (fun b hb=>Below.heap_alloc _ _ _ (hF b hb).2) ho) hnd (fun b hb'=>⟨(hF b hb').1,by rw [World.size_alloc];have:=(hF b hb').2;omega⟩)
   (fun b hb'=>(hS.got.lt b hb').2.1) (fun b hb'=>(hS.got.row.lt b hb').2) (fun b hb'=>(hS.names.lt b hb').2) hS.size (by rw [hkl];exact hown) hgrow hat
  have hbl:Below lo B (W3.setCell ⟨lo,4,none⟩ (.slice (some ⟨g5,0,none⟩) (k+1) cap5)) :=
   (((hb.mono (by have:=hS.size;omega)).alloc (by omega) (.cells #[.int .i64 e0,.int .i64 e1,.string e2,.slice a7 n7 cap7,.slice a8 n8 cap8] 29)).grown hgrow (by rw [World.size_alloc];omega) (fun b e=>by have:=(hsW.got.row.lt b e).1;omega)).setCell (by simp) _
  have h17:∀ x,x < lo→W3.heap[x]? = B.heap[x]? := fun x hx=>by
   rw [← hbl.block x hx]
   exact (Below.heap_setCell _ _ _ _ (fun e=>by simp only at e;omega)).symm
  refine ⟨h17,_,put_putL ..,?_⟩
  refine T_z hq [18] (by kernel_rfl) ?_
  refine T_one 19 (by kernel_rfl) fun _=>O_store none 27 (.tmp 89) (.tmp 88) ⟨lo,4,none⟩ (.slice (some ⟨g5,0,none⟩) (k+1) cap5) _ (by kernel_rfl) (by kernel_rfl) (by kernel_rfl) (stTrsW W3 _ _ _ _ _ u4 uz4) (fun x hx=>hbl.block x hx) ?_
  exact T_end 151 (kp_ws14 z++[(3,.pointer (some ⟨A,0,none⟩)),(4,.pointer (some ⟨C,0,none⟩)),(5,.pointer (some ⟨D,0,none⟩)),(7,.pointer (some ⟨lo,0,none⟩)),(9,.int .i64 (k:Nat))]) (by kernel_rfl) (by kernel_rfl) fun _ u=>by rw [hfr];exact hend u _ _ _ _ _ hinv hbl
 have Q1:∀ (u:Nat→Value) (e0 e1:Int) (e2:ByteArray) (a7 a8:Option Addr) (n7 cap7 n8 cap8:Nat) (F:List Nat) (W:World) (ho:Own W gx ⟨.int .i64 e0,.int .i64 e1,.string e2,.slice a7 n7 cap7,.slice a8 n8 cap8⟩ F) (hnd:F.Nodup) (hF:∀ b,b∈F→B.heap.size≤b∧b < W.heap.size) (hb:Below B.heap.size B W),wpS Tryz.prog ws14Ops Q (fun W=>∀ x,x < lo→W.heap[x]? = B.heap[x]?) (unl 20 [16,17,18,19],frL u 151 (kp_ws14 z++[(3,.pointer (some ⟨A,0,none⟩)),(4,.pointer (some ⟨C,0,none⟩)),(5,.pointer (some ⟨D,0,none⟩)),(7,.pointer (some ⟨lo,0,none⟩)),(9,.int .i64 (k:Nat)),(71,.pointer (some ⟨lo,4,none⟩)),(72,.slice aK k capK),(86,.agg #[.int .i64 e0,.int .i64 e1,.string e2,.slice a7 n7 cap7,.slice a8 n8 cap8])])) [] W:=by
  intro u e0 e1 e2 a7 a8 n7 cap7 n8 cap8 F W ho hnd hF hb
  refine T_one 16 (by kernel_rfl) fun _=>?_
  exact O_val (w':=W.alloc (.cells #[.int .i64 e0,.int .i64 e1,.string e2,.slice a7 n7 cap7,.slice a8 n8 cap8] 29)) (some 87) (.slice (some ⟨W.heap.size,0,none⟩) 1 1) (by kernel_rfl) (by kernel_rfl) (fun x hx=>(Below.heap_alloc _ _ _ (by have:=hS.size;have:=hb.size;omega)).trans (hb.block x (by have:=hS.size;omega))) (T_fr 20 151 [17,18,19] (kp_ws14 z++[(3,.pointer (some ⟨A,0,none⟩)),(4,.pointer (some ⟨C,0,none⟩)),(5,.pointer (some ⟨D,0,none⟩)),(7,.pointer (some ⟨lo,0,none⟩)),(9,.int .i64 (k:Nat)),(71,.pointer (some ⟨lo,4,none⟩)),(72,.slice aK k capK),(87,.slice (some ⟨W.heap.size,0,none⟩) 1 1)]) (by kernel_rfl) fun u=>Q2 u e0 e1 e2 a7 a8 n7 cap7 n8 cap8 F W ho hnd hF hb)
 have P2:∀ (u:Nat→Value) (e0 e1:Int) (e2:ByteArray) (a7 a8:Option Addr) (n7 cap7 n8 cap8:Nat) (F:List Nat) (W:World) (ho:Own W gx ⟨.int .i64 e0,.int .i64 e1,.string e2,.slice a7 n7 cap7,.slice a8 n8 cap8⟩ F) (hnd:F.Nodup) (hF:∀ b,b∈F→B.heap.size≤b∧b < W.heap.size) (hb:Below B.heap.size B W),wpS Tryz.prog ws14Ops Q (fun W=>∀ x,x < lo→W.heap[x]? = B.heap[x]?) (unl 20 [1,17,18,19],frL u 151 (kp_ws14 z++[(3,.pointer (some ⟨A,0,none⟩)),(4,.pointer (some ⟨C,0,none⟩)),(5,.pointer (some ⟨D,0,none⟩)),(7,.pointer (some ⟨lo,0,none⟩)),(9,.int .i64 (k:Nat)),(71,.pointer (some ⟨lo,4,none⟩)),(87,.slice (some ⟨W.heap.size,0,none⟩) 1 1)])) [] (W.alloc (.cells #[.int .i64 e0,.int .i64 e1,.string e2,.slice a7 n7 cap7,.slice a8 n8 cap8] 29)):=by
  intro u e0 e1 e2 a7 a8 n7 cap7 n8 cap8 F W ho hnd hF hb
  have hsW:=hS.kept (w':=W) ⟨hb.os,hb.tape,hb.output,hb.size,fun i hi _=>hb.block i hi⟩
  refine T_one 1 (by kernel_rfl) fun hS0=>?_
  exact O_val (some 72) (.slice aK k capK) (by kernel_rfl) (ldOpW (X:=.tmp 71) (by kernel_rfl) (by kernel_rfl) (ldTrsW (W.alloc (.cells #[.int .i64 e0,.int .i64 e1,.string e2,.slice a7 n7 cap7,.slice a8 n8 cap8] 29)) ⟨lo,4,none⟩ _ ((hsW.cells.alloc _).cell (i:=4) (by omega)))) hS0 (T_fr 20 151 [17,18,19] (kp_ws14 z++[(3,.pointer (some ⟨A,0,none⟩)),(4,.pointer (some ⟨C,0,none⟩)),(5,.pointer (some ⟨D,0,none⟩)),(7,.pointer (some ⟨lo,0,none⟩)),(9,.int .i64 (k:Nat)),(71,.pointer (some ⟨lo,4,none⟩)),(72,.slice aK k capK),(87,.slice (some ⟨W.heap.size,0,none⟩) 1 1)]) (by kernel_rfl) fun u=>Q2 u e0 e1 e2 a7 a8 n7 cap7 n8 cap8 F W ho hnd hF hb)
 have P1:∀ (u:Nat→Value) (e0 e1:Int) (e2:ByteArray) (a7 a8:Option Addr) (n7 cap7 n8 cap8:Nat) (F:List Nat) (W:World) (ho:Own W gx ⟨.int .i64 e0,.int .i64 e1,.string e2,.slice a7 n7 cap7,.slice a8 n8 cap8⟩ F) (hnd:F.Nodup) (hF:∀ b,b∈F→B.heap.size≤b∧b < W.heap.size) (hb:Below B.heap.size B W),wpS Tryz.prog ws14Ops Q (fun W=>∀ x,x < lo→W.heap[x]? = B.heap[x]?) (unl 20 [1,16,17,18,19],frL u 151 (kp_ws14 z++[(3,.pointer (some ⟨A,0,none⟩)),(4,.pointer (some ⟨C,0,none⟩)),(5,.pointer (some ⟨D,0,none⟩)),(7,.pointer (some ⟨lo,0,none⟩)),(9,.int .i64 (k:Nat)),(71,.pointer (some ⟨lo,4,none⟩)),(86,.agg #[.int .i64 e0,.int .i64 e1,.string e2,.slice a7 n7 cap7,.slice a8 n8 cap8])])) [] W:=by
  intro u e0 e1 e2 a7 a8 n7 cap7 n8 cap8 F W ho hnd hF hb
  have hsW:=hS.kept (w':=W) ⟨hb.os,hb.tape,hb.output,hb.size,fun i hi _=>hb.block i hi⟩
  refine T_two 1 16 (by kernel_rfl) (fun hS0=>?_) fun _=>?_
  · exact O_val (some 72) (.slice aK k capK) (by kernel_rfl) (ldOpW (X:=.tmp 71) (by kernel_rfl) (by kernel_rfl) (ldTrsW W ⟨lo,4,none⟩ _ (hsW.cells.cell (i:=4) (by omega)))) hS0 (T_fr 20 151 [16,17,18,19] (kp_ws14 z++[(3,.pointer (some ⟨A,0,none⟩)),(4,.pointer (some ⟨C,0,none⟩)),(5,.pointer (some ⟨D,0,none⟩)),(7,.pointer (some ⟨lo,0,none⟩)),(9,.int .i64 (k:Nat)),(71,.pointer (some ⟨lo,4,none⟩)),(72,.slice aK k capK),(86,.agg #[.int .i64 e0,.int .i64 e1,.string e2,.slice a7 n7 cap7,.slice a8 n8 cap8])]) (by kernel_rfl) fun u=>Q1 u e0 e1 e2 a7 a8 n7 cap7 n8 cap8 F W ho hnd hF hb)
  · exact O_val (w':=W.alloc (.cells #[.int .i64 e0,.int .i64 e1,.string e2,.slice a7 n7 cap7,.slice a8 n8 cap8] 29)) (some 87) (.slice (some ⟨W.heap.size,0,none⟩) 1 1) (by kernel_rfl) (by kernel_rfl) (fun x hx=>(Below.heap_alloc _ _ _ (by have:=hS.size;have:=hb.size;omega)).trans (hb.block x (by have:=hS.size;omega))) (T_fr 20 151 [1,17,18,19] (kp_ws14 z++[(3,.pointer (some ⟨A,0,none⟩)),(4,.pointer (some ⟨C,0,none⟩)),(5,.pointer (some ⟨D,0,none⟩)),(7,.pointer (some ⟨lo,0,none⟩)),(9,.int .i64 (k:Nat)),(71,.pointer (some ⟨lo,4,none⟩)),(87,.slice (some ⟨W.heap.size,0,none⟩) 1 1)]) (by kernel_rfl) fun u=>P2 u e0 e1 e2 a7 a8 n7 cap7 n8 cap8 F W ho hnd hF hb)
 have Q0:∀ (u:Nat→Value),wpS Tryz.prog ws14Ops Q (fun W=>∀ x,x < lo→W.heap[x]? = B.heap[x]?) (unl 20 [15,16,17,18,19],frL u 151 (kp_ws14 z++[(3,.pointer (some ⟨A,0,none⟩)),(4,.pointer (some ⟨C,0,none⟩)),(5,.pointer (some ⟨D,0,none⟩)),(7,.pointer (some ⟨lo,0,none⟩)),(9,.int .i64 (k:Nat)),(71,.pointer (some ⟨lo,4,none⟩)),(72,.slice aK k capK),(76,.agg #[cx.c0,cx.c1,cx.c2]),(80,.agg #[cy.c0,cy.c1,cy.c2]),(85,.agg #[cz.c0,cz.c1,cz.c2,cz.c3,cz.c4])])) [] B:=by
  intro u
  refine T_one 15 (by kernel_rfl) fun _=>?_
  refine O_go HK (by kernel_rfl) ?_
  rintro e W ⟨d,F,rfl,ho,hnd,hF,hb⟩
  obtain ⟨e0,e1,e2,a7,n7,cap7,a8,n8,cap8,rfl⟩:=own_five ho
  exact ⟨_,rfl,fun x hx=>hb.block x (by have:=hS.size;omega),T_fr 20 151 [16,17,18,19] (kp_ws14 z++[(3,.pointer (some ⟨A,0,none⟩)),(4,.pointer (some ⟨C,0,none⟩)),(5,.pointer (some ⟨D,0,none⟩)),(7,.pointer (some ⟨lo,0,none⟩)),(9,.int .i64 (k:Nat)),(71,.pointer (some ⟨lo,4,none⟩)),(72,.slice aK k capK),(86,.agg #[.int .i64 e0,.int .i64 e1,.string e2,.slice a7 n7 cap7,.slice a8 n8 cap8])]) (by kernel_rfl) fun u=>Q1 u e0 e1 e2 a7 a8 n7 cap7 n8 cap8 F W ho hnd hF hb⟩
 have P0:∀ (u:Nat→Value),wpS Tryz.prog ws14Ops Q (fun W=>∀ x,x < lo→W.heap[x]? = B.heap[x]?) (unl 20 [1,15,16,17,18,19],frL u 151 (kp_ws14 z++[(3,.pointer (some ⟨A,0,none⟩)),(4,.pointer (some ⟨C,0,none⟩)),(5,.pointer (some ⟨D,0,none⟩)),(7,.pointer (some ⟨lo,0,none⟩)),(9,.int .i64 (k:Nat)),(71,.pointer (some ⟨lo,4,none⟩)),(76,.agg #[cx.c0,cx.c1,cx.c2]),(80,.agg #[cy.c0,cy.c1,cy.c2]),(85,.agg #[cz.c0,cz.c1,cz.c2,cz.c3,cz.c4])])) [] B:=by
  intro u
  refine T_two 1 15 (by kernel_rfl) (fun hS0=>?_) fun _=>?_
  · exact O_val (some 72) (.slice aK k capK) (by kernel_rfl) (ldOpW (X:=.tmp 71) (by kernel_rfl) (by kernel_rfl) (ldTrsW B ⟨lo,4,none⟩ _ (hS.cells.cell (i:=4) (by omega)))) hS0 (T_fr 20 151 [15,16,17,18,19] (kp_ws14 z++[(3,.pointer (some ⟨A,0,none⟩)),(4,.pointer (some ⟨C,0,none⟩)),(5,.pointer (some ⟨D,0,none⟩)),(7,.pointer (some ⟨lo,0,none⟩)),(9,.int .i64 (k:Nat)),(71,.pointer (some ⟨lo,4,none⟩)),(72,.slice aK k capK),(76,.agg #[cx.c0,cx.c1,cx.c2]),(80,.agg #[cy.c0,cy.c1,cy.c2]),(85,.agg #[cz.c0,cz.c1,cz.c2,cz.c3,cz.c4])]) (by kernel_rfl) fun u=>Q0 u)
  · refine O_go HK (by kernel_rfl) ?_
    rintro e W ⟨d,F,rfl,ho,hnd,hF,hb⟩
    obtain ⟨e0,e1,e2,a7,n7,cap7,a8,n8,cap8,rfl⟩:=own_five ho
    exact ⟨_,rfl,fun x hx=>hb.block x (by have:=hS.size;omega),T_fr 20 151 [1,16,17,18,19] (kp_ws14 z++[(3,.pointer (some ⟨A,0,none⟩)),(4,.pointer (some ⟨C,0,none⟩)),(5,.pointer (some ⟨D,0,none⟩)),(7,.pointer (some ⟨lo,0,none⟩)),(9,.int .i64 (k:Nat)),(71,.pointer (some ⟨lo,4,none⟩)),(86,.agg #[.int .i64 e0,.int .i64 e1,.string e2,.slice a7 n7 cap7,.slice a8 n8 cap8])]) (by kernel_rfl) fun u=>P1 u e0 e1 e2 a7 a8 n7 cap7 n8 cap8 F W ho hnd hF hb⟩
 refine T_z hq [0,2,6,10,12] (by kernel_rfl) ?_
 refine T_a hq [3,7] (fun w' h=>.cons (ldKdsW _ ⟨A,2,none⟩ (.slice (some ⟨xb,xo,none⟩) 1 xc) (cell_lo h hA.1 hA.2)) (.cons (ldKdsW _ ⟨C,2,none⟩ (.slice (some ⟨yb,yo,none⟩) 1 yc) (cell_lo h hC.1 hC.2)) Lds.nil)) (by kernel_rfl) ?_
 refine T_a hq [11] (fun w' h=>.cons (ldTrsW _ ⟨D,4,none⟩ (.slice (some ⟨tb,tf,none⟩) tn tc) (cell_lo h hD.1 hD.2)) Lds.nil) (by kernel_rfl) ?_
 refine T_yld hq 4 (some 75) (.pointer (some ⟨xb,xo+0 * 3,none⟩)) (by kernel_rfl) (by kernel_rfl) (fun w _=>ixKdW (n:=1) (cap:=xc) (i:=0) (X:=.tmp 74) (I:=.const (.int .i64 0)) (by kernel_rfl) (by kernel_rfl) (by kernel_rfl) (by decide) w) ?_
 refine T_yld hq 8 (some 79) (.pointer (some ⟨yb,yo+0 * 3,none⟩)) (by kernel_rfl) (by kernel_rfl) (fun w _=>ixKdW (n:=1) (cap:=yc) (i:=0) (X:=.tmp 78) (I:=.const (.int .i64 0)) (by kernel_rfl) (by kernel_rfl) (by kernel_rfl) (by decide) w) ?_
 refine T_yld hq 13 (some 84) (.pointer (some ⟨tb,tf+k * 5,none⟩)) (by kernel_rfl) (by kernel_rfl) (fun w _=>ixTrW (n:=tn) (cap:=tc) (i:=k) (X:=.tmp 82) (I:=.tmp 83) (by kernel_rfl) (by kernel_rfl) (by kernel_rfl) hk w) ?_
 have hx':Kc B lo xb (xo+0 * 3) cx:=by simpa using hx
 have hy':Kc B lo yb (yo+0 * 3) cy:=by simpa using hy
 refine T_a hq [5,9,14] (fun w' h=>.cons (hx'.ld h) (.cons (hy'.ld h) (.cons (hz.ld h) Lds.nil))) (by kernel_rfl) ?_
 exact T_fr 20 151 [1,15,16,17,18,19] (kp_ws14 z++[(3,.pointer (some ⟨A,0,none⟩)),(4,.pointer (some ⟨C,0,none⟩)),(5,.pointer (some ⟨D,0,none⟩)),(7,.pointer (some ⟨lo,0,none⟩)),(9,.int .i64 (k:Nat)),(71,.pointer (some ⟨lo,4,none⟩)),(76,.agg #[cx.c0,cx.c1,cx.c2]),(80,.agg #[cy.c0,cy.c1,cy.c2]),(85,.agg #[cz.c0,cz.c1,cz.c2,cz.c3,cz.c4])]) (by kernel_rfl) fun u=>P0 u
theorem ws14 (lo A C D:Nat) (xb xo xc yb yo yc tb tf tn tc k:Nat) (cx cy:C3) (cz:C5) (s:Int) (vN:Value) (ns:List ByteArray) (aK:Option Addr) (capK:Nat) (ks:List Tr) (xs:List Value) (G:List Nat) (gx:Tr) (W0:World) {l:List Value} (Q:Exit→Act→World→Prop) (hQ:∀ c a d v w,Q (.panic c) (Act.put a d v) w→Q (.panic c) a w)
 (hA:A < lo∧W0.drew.cell? ⟨A,2,none⟩=some (.slice (some ⟨xb,xo,none⟩) 1 xc)) (hC:C < lo∧W0.drew.cell? ⟨C,2,none⟩=some (.slice (some ⟨yb,yo,none⟩) 1 yc)) (hD:D < lo∧W0.drew.cell? ⟨D,4,none⟩=some (.slice (some ⟨tb,tf,none⟩) tn tc))
 (hx:Kc W0.drew lo xb xo cx) (hy:Kc W0.drew lo yb yo cy) (hz:Tc W0.drew lo tb (tf+k * 5) cz) (hk:k < tn) (hk2:k < 1000000) (hkl:ks.length=k)
 (hS:SInv (lo+1) lo W0.drew s vN (.slice aK k capK) ns ks xs G)
 (HK:Calls Tryz.prog 23 #[.agg #[cx.c0,cx.c1,cx.c2],.agg #[cy.c0,cy.c1,cy.c2],.agg #[cz.c0,cz.c1,cz.c2,cz.c3,cz.c4]] W0.drew (TE gx W0.drew))
 (hl:lookL (kp_ws14 (fun i=>l.getD i undef)++[(3,.pointer (some ⟨A,0,none⟩)),(4,.pointer (some ⟨C,0,none⟩)),(5,.pointer (some ⟨D,0,none⟩)),(7,.pointer (some ⟨lo,0,none⟩)),(9,.int .i64 (k:Nat))]) l=(151,(kp_ws14 (fun i=>l.getD i undef)++[(3,.pointer (some ⟨A,0,none⟩)),(4,.pointer (some ⟨C,0,none⟩)),(5,.pointer (some ⟨D,0,none⟩)),(7,.pointer (some ⟨lo,0,none⟩)),(9,.int .i64 (k:Nat))]:List (Nat × Value)).map (·.2))) (hfr:∀ u:Nat→Value,frL u 151 (kp_ws14 (fun i=>l.getD i undef)++[(3,.pointer (some ⟨A,0,none⟩)),(4,.pointer (some ⟨C,0,none⟩)),(5,.pointer (some ⟨D,0,none⟩)),(7,.pointer (some ⟨lo,0,none⟩)),(9,.int .i64 (k:Nat))])=l.take 71++(u 71::u 72::u 73::u 74::u 75::u 76::u 77::u 78::u 79::u 80::u 81::u 82::u 83::u 84::u 85::u 86::u 87::u 88::u 89::l.drop 90))
 (hend:∀ (u:Nat→Value) (a':Option Addr) (cap':Nat) (xs':List Value) (G':List Nat) (W':World),SInv (lo+1) lo W' s vN (.slice a' (k+1) cap') ns (ks++[gx]) xs' G'→Below lo W0.drew W'→Q .normal ⟨(l.take 71++(u 71::u 72::u 73::u 74::u 75::u 76::u 77::u 78::u 79::u 80::u 81::u 82::u 83::u 84::u 85::u 86::u 87::u 88::u 89::l.drop 90)).toArray,[]⟩ W'):(Code.region 14 ws14Ops true).wp Tryz.prog Q ⟨l.toArray,[]⟩ W0 :=
 ws14z (fun i=>l.getD i undef) (fun u=>l.take 71++(u 71::u 72::u 73::u 74::u 75::u 76::u 77::u 78::u 79::u 80::u 81::u 82::u 83::u 84::u 85::u 86::u 87::u 88::u 89::l.drop 90)) lo A C D xb xo xc yb yo yc tb tf tn tc k cx cy cz s vN ns aK capK ks xs G gx W0 Q hQ hA hC hD hx hy hz hk hk2 hkl hS HK hl hfr hend
noncomputable def ws24Ops:Array Oper:=fops Tryz.f23 24
theorem ws24_neat:Region.noSelect ws24Ops=true∧neat ws24Ops=true:=⟨by kernel_rfl,by kernel_rfl⟩
def kp_ws24 (z:Nat→Value):List (Nat × Value):=[0,1,2,6,7,8,9,13,14,15,16,17,18,19,20,21,22,23,24,25,26,27,28,29,30,31,32,33,34,35,36,37,38,39,40,41,42,43,44,45,46,47,48,49,50,51,52,53,54,55,56,57,58,59,60,61,62,63,64,65,66,67,68,69,70,71,72,73,74,75,76,77,78,79,80,81,82,83,84,85,86,87,88,89,90,91,92,93,94,95,96,97,98,99,100,101,102,103,104,105,106,107,108,109,110,111,112,113,114,115,116,117,134,135,136,137,138,139,140,141,142,143,144,145,146,147,148,149,150].map fun i=>(i,z i)
theorem ws24z (z:Nat→Value) (LL:(Nat→Value)→List Value) (lo A C D K:Nat) (xb xo xn xc yb yo yn yc tb tf tn tc i j:Nat) (cx cy:C3) (cz:C5) (f:Nat→Value) (gx:Tr) (W0:World) {l:List Value} (Q:Exit→Act→World→Prop) (hQ:∀ c a d v w,Q (.panic c) (Act.put a d v) w→Q (.panic c) a w)
 (hA:A < lo∧W0.drew.cell? ⟨A,2,none⟩=some (.slice (some ⟨xb,xo,none⟩) xn xc)) (hC:C < lo∧W0.drew.cell? ⟨C,2,none⟩=some (.slice (some ⟨yb,yo,none⟩) yn yc)) (hD:D < lo∧W0.drew.cell? ⟨D,4,none⟩=some (.slice (some ⟨tb,tf,none⟩) tn tc))
 (hx:Kc W0.drew lo xb (xo+j * 3) cx) (hy:Kc W0.drew lo yb (yo+i * 3) cy) (hz:Tc W0.drew lo tb (tf+j * 5) cz) (hj1:j < xn) (hi1:i < yn) (hj2:j < tn) (hlo:lo≤K) (hK:W0.drew.rowIs K 29 5 f)
 (HK:Calls Tryz.prog 23 #[.agg #[cx.c0,cx.c1,cx.c2],.agg #[cy.c0,cy.c1,cy.c2],.agg #[cz.c0,cz.c1,cz.c2,cz.c3,cz.c4]] W0.drew (TE gx W0.drew))
 (hl:lookL (kp_ws24 z++[(3,.pointer (some ⟨A,0,none⟩)),(4,.pointer (some ⟨C,0,none⟩)),(5,.pointer (some ⟨D,0,none⟩)),(10,.int .i64 (i:Nat)),(11,.pointer (some ⟨K,0,none⟩)),(12,.int .i64 (j:Nat))]) l=(151,(kp_ws24 z++[(3,.pointer (some ⟨A,0,none⟩)),(4,.pointer (some ⟨C,0,none⟩)),(5,.pointer (some ⟨D,0,none⟩)),(10,.int .i64 (i:Nat)),(11,.pointer (some ⟨K,0,none⟩)),(12,.int .i64 (j:Nat))]:List (Nat × Value)).map (·.2))) (hfr:∀ u:Nat→Value,frL u 151 (kp_ws24 z++[(3,.pointer (some ⟨A,0,none⟩)),(4,.pointer (some ⟨C,0,none⟩)),(5,.pointer (some ⟨D,0,none⟩)),(10,.int .i64 (i:Nat)),(11,.pointer (some ⟨K,0,none⟩)),(12,.int .i64 (j:Nat))])=LL u)
 (hend:∀ (u:Nat→Value) (d:C5) (F:List Nat) (W':World),Own W' gx d F→F.Nodup→(∀ b,b∈F→W0.drew.heap.size≤b∧b < W'.heap.size)→W'.rowIs K 29 5 (row5 d.c0 d.c1 d.c2 d.c3 d.c4)→BelowBut K W0.drew W'→Q .normal ⟨(LL u).toArray,[]⟩ W'):(Code.region 24 ws24Ops true).wp Tryz.prog Q ⟨l.toArray,[]⟩ W0:=by
 obtain ⟨v0,rfl⟩:=look_fr hl
 have hq:NtQ ws24Ops Q:=⟨ws24_neat,hQ⟩
 refine T_start (S:=fun W=>∀ x,x < lo→W.heap[x]? = W0.drew.heap[x]?) (by kernel_rfl) (fun _ _=>rfl) ?_
 clear hl hQ
 generalize W0.drew=B at hA hC hD hx hy hz hK HK hend ⊢
 have hKl:=hK.lt
 have P0:∀ (u:Nat→Value),wpS Tryz.prog ws24Ops Q (fun W=>∀ x,x < lo→W.heap[x]? = B.heap[x]?) (unl 17 [15,16],frL u 151 (kp_ws24 z++[(3,.pointer (some ⟨A,0,none⟩)),(4,.pointer (some ⟨C,0,none⟩)),(5,.pointer (some ⟨D,0,none⟩)),(10,.int .i64 (i:Nat)),(11,.pointer (some ⟨K,0,none⟩)),(12,.int .i64 (j:Nat)),(122,.agg #[cx.c0,cx.c1,cx.c2]),(127,.agg #[cy.c0,cy.c1,cy.c2]),(132,.agg #[cz.c0,cz.c1,cz.c2,cz.c3,cz.c4])])) [] B:=by
  intro u
  refine T_one 15 (by kernel_rfl) fun _=>?_
  refine O_go HK (by kernel_rfl) ?_
  rintro e W ⟨d,F,rfl,ho,hnd,hF,hb⟩
  refine ⟨_,rfl,fun x hx=>hb.block x (by omega),?_⟩
  refine T_one 16 (by kernel_rfl) fun _=>?_
  have hg:=hK.of_block (hb.block _ hKl)
  obtain ⟨hs3,hs4⟩:=set5_row hg d.c0 d.c1 d.c2 d.c3 d.c4
  have hbb:BelowBut K B (W.setCells K 0 [d.c0,d.c1,d.c2,d.c3,d.c4]):=⟨hs3.os.trans hb.os,hs3.tape.trans hb.tape,hs3.output.trans hb.output,Nat.le_trans hb.size hs3.size,fun x hx hn=>(hs3.block x (Nat.lt_of_lt_of_le hx hb.size) hn).trans (hb.block x hx)⟩
  refine O_store_mid none 29 (.tmp 11) (.tmp 133) K 0 #[d.c0,d.c1,d.c2,d.c3,d.c4] (by kernel_rfl) (by kernel_rfl) (by kernel_rfl) (there5w hg) sizeTr ho.one5 (fun x hx=>hbb.block x (by omega) (by omega)) ?_
  exact T_end 151 (kp_ws24 z++[(3,.pointer (some ⟨A,0,none⟩)),(4,.pointer (some ⟨C,0,none⟩)),(5,.pointer (some ⟨D,0,none⟩)),(10,.int .i64 (i:Nat)),(11,.pointer (some ⟨K,0,none⟩)),(12,.int .i64 (j:Nat))]) (by kernel_rfl) (by kernel_rfl) fun _ u=>by rw [hfr];exact hend u d F _ (Own.carry _ _ _ (fun b hb'=>hs3.block b (hF b hb').2 (by have:=(hF b hb').1;omega)) ho) hnd (fun b hb'=>⟨(hF b hb').1,Nat.lt_of_lt_of_le (hF b hb').2 hs3.size⟩) hs4 hbb
 refine T_z hq [0,2,5,7,10,12] (by kernel_rfl) ?_
 refine T_a hq [1,6] (fun w' h=>.cons (ldKdsW _ ⟨A,2,none⟩ (.slice (some ⟨xb,xo,none⟩) xn xc) (cell_lo h hA.1 hA.2)) (.cons (ldKdsW _ ⟨C,2,none⟩ (.slice (some ⟨yb,yo,none⟩) yn yc) (cell_lo h hC.1 hC.2)) Lds.nil)) (by kernel_rfl) ?_
 refine T_a hq [11] (fun w' h=>.cons (ldTrsW _ ⟨D,4,none⟩ (.slice (some ⟨tb,tf,none⟩) tn tc) (cell_lo h hD.1 hD.2)) Lds.nil) (by kernel_rfl) ?_
 refine T_yld hq 3 (some 121) (.pointer (some ⟨xb,xo+j * 3,none⟩)) (by kernel_rfl) (by kernel_rfl) (fun w _=>ixKdW (n:=xn) (cap:=xc) (i:=j) (X:=.tmp 119) (I:=.tmp 120) (by kernel_rfl) (by kernel_rfl) (by kernel_rfl) hj1 w) ?_
 refine T_yld hq 8 (some 126) (.pointer (some ⟨yb,yo+i * 3,none⟩)) (by kernel_rfl) (by kernel_rfl) (fun w _=>ixKdW (n:=yn) (cap:=yc) (i:=i) (X:=.tmp 124) (I:=.tmp 125) (by kernel_rfl) (by kernel_rfl) (by kernel_rfl) hi1 w) ?_
 refine T_yld hq 13 (some 131) (.pointer (some ⟨tb,tf+j * 5,none⟩)) (by kernel_rfl) (by kernel_rfl) (fun w _=>ixTrW (n:=tn) (cap:=tc) (i:=j) (X:=.tmp 129) (I:=.tmp 130) (by kernel_rfl) (by kernel_rfl) (by kernel_rfl) hj2 w) ?_
 refine T_a hq [4,9,14] (fun w' h=>.cons (hx.ld h) (.cons (hy.ld h) (.cons (hz.ld h) Lds.nil))) (by kernel_rfl) ?_
 exact T_fr 17 151 [15,16] (kp_ws24 z++[(3,.pointer (some ⟨A,0,none⟩)),(4,.pointer (some ⟨C,0,none⟩)),(5,.pointer (some ⟨D,0,none⟩)),(10,.int .i64 (i:Nat)),(11,.pointer (some ⟨K,0,none⟩)),(12,.int .i64 (j:Nat)),(122,.agg #[cx.c0,cx.c1,cx.c2]),(127,.agg #[cy.c0,cy.c1,cy.c2]),(132,.agg #[cz.c0,cz.c1,cz.c2,cz.c3,cz.c4])]) (by kernel_rfl) fun u=>P0 u
theorem ws24 (lo A C D K:Nat) (xb xo xn xc yb yo yn yc tb tf tn tc i j:Nat) (cx cy:C3) (cz:C5) (f:Nat→Value) (gx:Tr) (W0:World) {l:List Value} (Q:Exit→Act→World→Prop) (hQ:∀ c a d v w,Q (.panic c) (Act.put a d v) w→Q (.panic c) a w)
 (hA:A < lo∧W0.drew.cell? ⟨A,2,none⟩=some (.slice (some ⟨xb,xo,none⟩) xn xc)) (hC:C < lo∧W0.drew.cell? ⟨C,2,none⟩=some (.slice (some ⟨yb,yo,none⟩) yn yc)) (hD:D < lo∧W0.drew.cell? ⟨D,4,none⟩=some (.slice (some ⟨tb,tf,none⟩) tn tc))
 (hx:Kc W0.drew lo xb (xo+j * 3) cx) (hy:Kc W0.drew lo yb (yo+i * 3) cy) (hz:Tc W0.drew lo tb (tf+j * 5) cz) (hj1:j < xn) (hi1:i < yn) (hj2:j < tn) (hlo:lo≤K) (hK:W0.drew.rowIs K 29 5 f)
 (HK:Calls Tryz.prog 23 #[.agg #[cx.c0,cx.c1,cx.c2],.agg #[cy.c0,cy.c1,cy.c2],.agg #[cz.c0,cz.c1,cz.c2,cz.c3,cz.c4]] W0.drew (TE gx W0.drew))
 (hl:lookL (kp_ws24 (fun i=>l.getD i undef)++[(3,.pointer (some ⟨A,0,none⟩)),(4,.pointer (some ⟨C,0,none⟩)),(5,.pointer (some ⟨D,0,none⟩)),(10,.int .i64 (i:Nat)),(11,.pointer (some ⟨K,0,none⟩)),(12,.int .i64 (j:Nat))]) l=(151,(kp_ws24 (fun i=>l.getD i undef)++[(3,.pointer (some ⟨A,0,none⟩)),(4,.pointer (some ⟨C,0,none⟩)),(5,.pointer (some ⟨D,0,none⟩)),(10,.int .i64 (i:Nat)),(11,.pointer (some ⟨K,0,none⟩)),(12,.int .i64 (j:Nat))]:List (Nat × Value)).map (·.2))) (hfr:∀ u:Nat→Value,frL u 151 (kp_ws24 (fun i=>l.getD i undef)++[(3,.pointer (some ⟨A,0,none⟩)),(4,.pointer (some ⟨C,0,none⟩)),(5,.pointer (some ⟨D,0,none⟩)),(10,.int .i64 (i:Nat)),(11,.pointer (some ⟨K,0,none⟩)),(12,.int .i64 (j:Nat))])=l.take 118++(u 118::u 119::u 120::u 121::u 122::u 123::u 124::u 125::u 126::u 127::u 128::u 129::u 130::u 131::u 132::u 133::l.drop 134))
 (hend:∀ (u:Nat→Value) (d:C5) (F:List Nat) (W':World),Own W' gx d F→F.Nodup→(∀ b,b∈F→W0.drew.heap.size≤b∧b < W'.heap.size)→W'.rowIs K 29 5 (row5 d.c0 d.c1 d.c2 d.c3 d.c4)→BelowBut K W0.drew W'→Q .normal ⟨(l.take 118++(u 118::u 119::u 120::u 121::u 122::u 123::u 124::u 125::u 126::u 127::u 128::u 129::u 130::u 131::u 132::u 133::l.drop 134)).toArray,[]⟩ W'):(Code.region 24 ws24Ops true).wp Tryz.prog Q ⟨l.toArray,[]⟩ W0 :=
 ws24z (fun i=>l.getD i undef) (fun u=>l.take 118++(u 118::u 119::u 120::u 121::u 122::u 123::u 124::u 125::u 126::u 127::u 128::u 129::u 130::u 131::u 132::u 133::l.drop 134)) lo A C D K xb xo xn xc yb yo yn yc tb tf tn tc i j cx cy cz f gx W0 Q hQ hA hC hD hx hy hz hj1 hi1 hj2 hlo hK HK hl hfr hend
noncomputable def ws5Ops:Array Oper:=fops Tryz.f23 5
theorem ws5_neat:Region.noSelect ws5Ops=true∧neat ws5Ops=true:=⟨by kernel_rfl,by kernel_rfl⟩
theorem ws5 (lo A C D R:Nat) (yb yo yn yc:Nat) (cx cy:C3) (cz:C5) (f:Nat→Value) (gx:Tr) (W0:World) {l:List Value} (Q:Exit→Act→World→Prop) (hQ:∀ c a d v w,Q (.panic c) (Act.put a d v) w→Q (.panic c) a w)
 (hC:C < lo∧W0.drew.cell? ⟨C,2,none⟩=some (.slice (some ⟨yb,yo,none⟩) yn yc)) (hyn:0 < yn)
 (hx:Kc W0.drew lo A 0 cx) (hy:Kc W0.drew lo yb yo cy) (hz:Tc W0.drew lo D 0 cz) (hlo:lo≤R) (hR:W0.drew.rowIs R 29 5 f)
 (HK:Calls Tryz.prog 23 #[.agg #[cx.c0,cx.c1,cx.c2],.agg #[cy.c0,cy.c1,cy.c2],.agg #[cz.c0,cz.c1,cz.c2,cz.c3,cz.c4]] W0.drew (TE gx W0.drew))
 (hl:lookL [(3,.pointer (some ⟨A,0,none⟩)),(4,.pointer (some ⟨C,0,none⟩)),(5,.pointer (some ⟨D,0,none⟩)),(6,.pointer (some ⟨R,0,none⟩))] l=(151,([(3,.pointer (some ⟨A,0,none⟩)),(4,.pointer (some ⟨C,0,none⟩)),(5,.pointer (some ⟨D,0,none⟩)),(6,.pointer (some ⟨R,0,none⟩))]:List (Nat × Value)).map (·.2)))
 (hend:∀ (u:Nat→Value) (g:Nat) (F:List Nat) (W':World),Own W' (.mk 6 0 ByteArray.empty [] [gx]) ⟨.int .i64 6,.int .i64 0,.string ByteArray.empty,.slice none 0 0,.slice (some ⟨g,0,none⟩) 1 1⟩ F→F.Nodup→(∀ b,b∈F→W0.drew.heap.size≤b∧b < W'.heap.size)→W'.rowIs R 29 5 (row5 (.int .i64 6) (.int .i64 0) (.string ByteArray.empty) (.slice none 0 0) (.slice (some ⟨g,0,none⟩) 1 1))→BelowBut R W0.drew W'→Q .normal ⟨(frL u 151 [(3,.pointer (some ⟨A,0,none⟩)),(4,.pointer (some ⟨C,0,none⟩)),(5,.pointer (some ⟨D,0,none⟩)),(6,.pointer (some ⟨R,0,none⟩))]).toArray,[]⟩ W'):(Code.region 5 ws5Ops true).wp Tryz.prog Q ⟨l.toArray,[]⟩ W0:=by
 obtain ⟨v0,rfl⟩:=look_fr hl
 have hq:NtQ ws5Ops Q:=⟨ws5_neat,hQ⟩
 refine T_start (S:=fun W=>∀ x,x < lo→W.heap[x]? = W0.drew.heap[x]?) (by kernel_rfl) (fun _ _=>rfl) ?_
 clear hl hQ
 generalize W0.drew=B at hC hx hy hz hR HK hend ⊢
 have hRl:=hR.lt
 have P0:∀ (u:Nat→Value),wpS Tryz.prog ws5Ops Q (fun W=>∀ x,x < lo→W.heap[x]? = B.heap[x]?) (unl 10 [6,7,8,9],frL u 151 [(3,.pointer (some ⟨A,0,none⟩)),(4,.pointer (some ⟨C,0,none⟩)),(5,.pointer (some ⟨D,0,none⟩)),(6,.pointer (some ⟨R,0,none⟩)),(27,.agg #[cx.c0,cx.c1,cx.c2]),(31,.agg #[cy.c0,cy.c1,cy.c2]),(32,.agg #[cz.c0,cz.c1,cz.c2,cz.c3,cz.c4])]) [] B:=by
  intro u
  refine T_one 6 (by kernel_rfl) fun _=>?_
  refine O_go HK (by kernel_rfl) ?_
  rintro e W ⟨d,F,rfl,ho,hnd,hF,hb⟩
  obtain ⟨e0,e1,e2,a7,n7,cap7,a8,n8,cap8,rfl⟩:=own_five ho
  refine ⟨_,rfl,fun x hx=>hb.block x (by omega),?_⟩
  refine T_one 7 (by kernel_rfl) fun _=>?_
  have hal:Below B.heap.size B (W.alloc (.cells #[.int .i64 e0,.int .i64 e1,.string e2,.slice a7 n7 cap7,.slice a8 n8 cap8] 29)):=hb.alloc hb.size _
  refine O_val (w':=W.alloc (.cells #[.int .i64 e0,.int .i64 e1,.string e2,.slice a7 n7 cap7,.slice a8 n8 cap8] 29)) (some 34) (.slice (some ⟨W.heap.size,0,none⟩) 1 1) (by kernel_rfl) (by kernel_rfl) (fun x hx=>hal.block x (by omega)) ?_
  refine T_z hq [8] (by kernel_rfl) ?_
  have hrow:=row5_alloc W (.int .i64 e0) (.int .i64 e1) (.string e2) (.slice a7 n7 cap7) (.slice a8 n8 cap8) 29
  have hown:=own_one (s:=6) (d:=⟨.int .i64 e0,.int .i64 e1,.string e2,.slice a7 n7 cap7,.slice a8 n8 cap8⟩) ⟨by decide,by decide⟩ (Own.carry gx _ F (fun b hb'=>Below.heap_alloc W (.cells #[.int .i64 e0,.int .i64 e1,.string e2,.slice a7 n7 cap7,.slice a8 n8 cap8] 29) _ (hF b hb').2) ho) hrow
  have hg:=hR.of_block (hal.block _ hRl)
  have hsz:(W.alloc (.cells #[.int .i64 e0,.int .i64 e1,.string e2,.slice a7 n7 cap7,.slice a8 n8 cap8] 29)).heap.size=W.heap.size+1:=World.size_alloc _ _
  refine T_one 9 (by kernel_rfl) fun _=>?_
  generalize W.alloc (.cells #[.int .i64 e0,.int .i64 e1,.string e2,.slice a7 n7 cap7,.slice a8 n8 cap8] 29)=V at hal hrow hown hg hsz ⊢
  obtain ⟨hs3,hs4⟩:=set5_row hg (.int .i64 6) (.int .i64 0) (.string ByteArray.empty) (.slice none 0 0) (.slice (some ⟨W.heap.size,0,none⟩) 1 1)
  have hbb:BelowBut R B (V.setCells R 0 [.int .i64 6,.int .i64 0,.string ByteArray.empty,.slice none 0 0,.slice (some ⟨W.heap.size,0,none⟩) 1 1]):=⟨hs3.os.trans hal.os,hs3.tape.trans hal.tape,hs3.output.trans hal.output,Nat.le_trans hal.size hs3.size,fun x hx hn=>(hs3.block x (Nat.lt_of_lt_of_le hx hal.size) hn).trans (hal.block x hx)⟩
  have hF2:∀ b,b∈W.heap.size::F→B.heap.size≤b∧b < V.heap.size:=fun b hb'=>by
   rcases List.mem_cons.1 hb' with rfl | hm
   · exact ⟨hb.size,by omega⟩
   · have:=hF b hm;exact ⟨this.1,by omega⟩
  refine O_store_mid none 29 (.tmp 6) (.tmp 35) R 0 #[.int .i64 6,.int .i64 0,.string ByteArray.empty,.slice none 0 0,.slice (some ⟨W.heap.size,0,none⟩) 1 1] (by kernel_rfl) (by kernel_rfl) (by kernel_rfl) (there5w hg) sizeTr (by rw [← Array.all_toList];rfl) (fun x hx=>hbb.block x (by omega) (by omega)) ?_
  exact T_end 151 [(3,.pointer (some ⟨A,0,none⟩)),(4,.pointer (some ⟨C,0,none⟩)),(5,.pointer (some ⟨D,0,none⟩)),(6,.pointer (some ⟨R,0,none⟩))] (by kernel_rfl) (by kernel_rfl) fun _ u=>hend u W.heap.size (W.heap.size::F) _ (Own.carry _ _ _ (fun b hb'=>hs3.block b (hF2 b hb').2 (by have:=(hF2 b hb').1;omega)) hown) (List.nodup_cons.2 ⟨fun hm=>by have:=(hF _ hm).2;omega,hnd⟩) (fun b hb'=>⟨(hF2 b hb').1,Nat.lt_of_lt_of_le (hF2 b hb').2 hs3.size⟩) hs4 hbb
 refine T_z hq [1] (by kernel_rfl) ?_
 refine T_a hq [0,2,5] (fun w' h=>.cons (hx.ld h) (.cons (ldKdsW _ ⟨C,2,none⟩ (.slice (some ⟨yb,yo,none⟩) yn yc) (cell_lo h hC.1 hC.2)) (.cons (hz.ld h) Lds.nil))) (by kernel_rfl) ?_
 refine T_yld hq 3 (some 30) (.pointer (some ⟨yb,yo+0 * 3,none⟩)) (by kernel_rfl) (by kernel_rfl) (fun w _=>ixKdW (n:=yn) (cap:=yc) (i:=0) (X:=.tmp 29) (I:=.const (.int .i64 0)) (by kernel_rfl) (by kernel_rfl) (by kernel_rfl) hyn w) ?_
 have hy':Kc B lo yb (yo+0 * 3) cy:=by simpa using hy
 refine T_a hq [4] (fun w' h=>.cons (hy'.ld h) Lds.nil) (by kernel_rfl) ?_
 exact T_fr 10 151 [6,7,8,9] [(3,.pointer (some ⟨A,0,none⟩)),(4,.pointer (some ⟨C,0,none⟩)),(5,.pointer (some ⟨D,0,none⟩)),(6,.pointer (some ⟨R,0,none⟩)),(27,.agg #[cx.c0,cx.c1,cx.c2]),(31,.agg #[cy.c0,cy.c1,cy.c2]),(32,.agg #[cz.c0,cz.c1,cz.c2,cz.c3,cz.c4])] (by kernel_rfl) fun u=>P0 u
end Go.Proofs.YteefjeddboefcaaGreatDoor
