/- A part. -/
import Derived.Test.YteikmbkljkkjiaaSart11
namespace Go.Proofs.Yteikmbkljkkjiaa
open Go Go.RowKit
set_option maxRecDepth 100000
set_option maxHeartbeats 1600000
theorem inSame (a b c:Int) (w:World):Calls Try.prog 30 #[.int .i64 a,.int .i64 b,.int .i64 c] w fun e w'=>e=.returned (.bool (decide (b≤a∧a≤c)))∧w'=w:=by
 go_enter Try.func30,Try.ntmps30
 by_cases h1:b≤a
 · by_cases h2:a≤c
   · go_wp2_with fail
     go_ret
     exact ⟨by simp [h2];omega,rfl⟩
   · go_wp2_with fail
     go_ret
     exact ⟨by simp;omega,rfl⟩
 · go_wp2_with fail
   go_ret
   exact ⟨by simp;omega,rfl⟩
theorem drewB (W:World):Below W.heap.size W W.drew:=⟨rfl,rfl,rfl,Nat.le_refl _,fun _ _=>rfl⟩
theorem rowDiskO:∃ d,Try.prog.underlying 27=some d∧d.isRow=true:=⟨_,Try.underlying27,by rfl⟩
theorem info3D:(Try.prog.info? 27).map (·.size)=some 3:=by kernel_rfl
theorem range3 {W:World} {b T:Nat} {x y z:Value} (h:W.rowIs b T 3 (row3 x y z)):W.rangeAt b 0 [x,y,z]:=fun j v hv=>by
 match j,hv with
 | 0,hv=>simp only [List.getElem?_cons_zero,Option.some.injEq] at hv;subst hv;exact h.cell (i:=0) (by omega)
 | 1,hv=>simp only [List.getElem?_cons_succ,List.getElem?_cons_zero,Option.some.injEq] at hv;subst hv;exact h.cell (i:=1) (by omega)
 | 2,hv=>simp only [List.getElem?_cons_succ,List.getElem?_cons_zero,Option.some.injEq] at hv;subst hv;exact h.cell (i:=2) (by omega)
 | _+3,hv=>simp at hv
theorem ldDk {W:World} {b:Nat} {x y z:Value} (h:W.rowIs b 27 3 (row3 x y z)):(Instr.loadAt 27 (.pointer (some ⟨b,0,none⟩))).run Try.prog W=.ok (.agg #[x,y,z]) W:=by
 obtain ⟨dd,hdu,hdr⟩:=rowDiskO
 unfold Instr.loadAt
 simp only [Instr.sureAddr,Sem.run_bind,Sem.run_pure,Result.andThen_ok,run_loadVar_mid W b 0 27 [x,y,z] dd (range3 h) hdu hdr info3D]
theorem ldStr (w:World) (ad:Addr) (v:Value) (h:w.cell? ad=some v):(Instr.loadAt 9 (.pointer (some ad))).run Try.prog w=.ok v w:=by
 simp [Instr.loadAt,Instr.sureAddr,loadVar,Try.isAgg9,h,go_sem]
theorem ldFs (w:World) (ad:Addr) (v:Value) (h:w.cell? ad=some v):(Instr.loadAt 23 (.pointer (some ad))).run Try.prog w=.ok v w:=by
 simp [Instr.loadAt,Instr.sureAddr,loadVar,Try.isAgg23,h,go_sem]
theorem Dg.m1 {P:Nat→Prop} {w W:World} {d:Dk} {c:C3} {k:Int} {x y:ByteArray} (h:Dg P w d c k x y W):W.cell? ⟨w.heap.size+1,1,none⟩=some (.string x):=h.b1.cell (i:=1) (by omega)
theorem Dg.m2 {P:Nat→Prop} {w W:World} {d:Dk} {c:C3} {k:Int} {x y:ByteArray} (h:Dg P w d c k x y W):W.cell? ⟨w.heap.size+1,2,none⟩=some (.string y):=h.b1.cell (i:=2) (by omega)
theorem Dg.k0 {P:Nat→Prop} {w W:World} {d:Dk} {c:C3} {k:Int} {x y:ByteArray} (h:Dg P w d c k x y W):W.cell? ⟨w.heap.size,0,none⟩=some c.c0:=h.b0.cell (i:=0) (by omega)
theorem set3 (W:World) (b:Nat) (x y z:Value):(∀ a,a≠b→(W.setCells b 0 [x,y,z]).heap[a]? = W.heap[a]?)∧(W.setCells b 0 [x,y,z]).heap.size=W.heap.size∧(∀ T f,W.rowIs b T 3 f→(W.setCells b 0 [x,y,z]).rowIs b T 3 (row3 x y z))∧(∀ B V,B≤b→Below B V W→Below B V (W.setCells b 0 [x,y,z])):=by
 show (∀ a,a≠b→(((W.setCell ⟨b,0,none⟩ x).setCell ⟨b,1,none⟩ y).setCell ⟨b,2,none⟩ z).heap[a]? = W.heap[a]?)∧(((W.setCell ⟨b,0,none⟩ x).setCell ⟨b,1,none⟩ y).setCell ⟨b,2,none⟩ z).heap.size=W.heap.size∧(∀ T f,W.rowIs b T 3 f→(((W.setCell ⟨b,0,none⟩ x).setCell ⟨b,1,none⟩ y).setCell ⟨b,2,none⟩ z).rowIs b T 3 (row3 x y z))∧(∀ B V,B≤b→Below B V W→Below B V (((W.setCell ⟨b,0,none⟩ x).setCell ⟨b,1,none⟩ y).setCell ⟨b,2,none⟩ z))
 refine ⟨fun a ha=>?_,by simp only [World.size_setCell],fun T f h=>(((h.set 0 x).set 1 y).set 2 z).congr (fun i hi=>by rcases (show i=0∨i=1∨i=2 by omega) with rfl | rfl | rfl <;> rfl),fun B V hB h=>((h.setCell hB x).setCell hB y).setCell hB z⟩
 rw [Below.heap_setCell _ _ _ _ ha,Below.heap_setCell _ _ _ _ ha,Below.heap_setCell _ _ _ _ ha]
theorem there3 {w:World} {b:Nat} {T:TypeId} {n:Nat} {f:Nat→Value} (h:w.rowIs b T n f):w.there b 0 n:=fun j hj=>by
 rw [Nat.zero_add]
 exact ⟨by rw [h.cell hj];rfl,h.frozen j⟩
theorem namesD_len {d:Dk} (h:DkOkS d):(namesD d).length≤1000:=by
 have:=(cutN_facts h d.moves.length).2.1
 unfold cutN at this
 rw [show clampQ (d.moves.length:Int) d.moves.length=d.moves.length by unfold clampQ;omega,List.take_of_length_le (Nat.le_refl _)] at this
 rw [namesD_ok h]
 exact this
noncomputable def do16Ops:Array Oper:=fops Try.f7 16
theorem do16_neat:Region.noSelect do16Ops=true∧neat do16Ops=true:=⟨by kernel_rfl,by kernel_rfl⟩
theorem do16 (P:Nat→Prop) (w:World) (d:Dk) (c:C3) (k:Int) (x y:ByteArray) (base L:Nat) (o:C3) (W0:World) {l:List Value} (Q:Exit→Act→World→Prop) (hQ:∀ c a d v w,Q (.panic c) (Act.put a d v) w→Q (.panic c) a w) (hS:Dz P w d c k x y base L o d W0.drew) (hl:lookL [(2,.pointer (some ⟨w.heap.size,0,none⟩)),(3,.pointer (some ⟨w.heap.size+1,0,none⟩)),(4,.pointer (some ⟨w.heap.size+2,0,none⟩)),(6,.pointer (some ⟨L,0,none⟩))] l=(143,[.pointer (some ⟨w.heap.size,0,none⟩),.pointer (some ⟨w.heap.size+1,0,none⟩),.pointer (some ⟨w.heap.size+2,0,none⟩),.pointer (some ⟨L,0,none⟩)]))
 (hend:∀ v W',Dz P w d c k x y base L o d W'→Q .normal ⟨(frL v 143 [(2,.pointer (some ⟨w.heap.size,0,none⟩)),(3,.pointer (some ⟨w.heap.size+1,0,none⟩)),(4,.pointer (some ⟨w.heap.size+2,0,none⟩)),(6,.pointer (some ⟨L,0,none⟩)),(77,.bool (!hasB (namesD d) x))]).toArray,[]⟩ W'):(Code.region 16 do16Ops true).wp Try.prog Q ⟨l.toArray,[]⟩ W0:=by
 obtain ⟨v,rfl⟩:=look_fr hl
 have hq:NtQ do16Ops Q:=⟨do16_neat,hQ⟩
 refine T_start (S:=fun W=>Dz P w d c k x y base L o d W) (by kernel_rfl) hS ?_
 clear hl hQ hS
 generalize W0.drew=W
 refine T_a hq (List.range 6) (fun w h=>.cons (ldDk h.g.b0) (.cons (ldStr _ _ _ h.g.m1) Lds.nil)) (by kernel_rfl) ?_
 refine T_one 1 (by kernel_rfl) fun h=>O_go (specDiskNames_any d P c W h.g.pl h.g.dk) (by kernel_rfl) ?_
 rintro _ W1 ⟨u,rfl,hn⟩
 refine ⟨_,rfl,h.on hn.below,?_⟩
 refine T_one 4 (by kernel_rfl) fun h=>O_go (l6Has_any u (namesD d) x W1 hn.strs) (by kernel_rfl) ?_
 rintro _ W2 ⟨rfl,hw⟩
 refine ⟨_,rfl,hw ▸ h,?_⟩
 exact T_z hq (List.range 6) (by kernel_rfl) (T_end 143 [(2,.pointer (some ⟨w.heap.size,0,none⟩)),(3,.pointer (some ⟨w.heap.size+1,0,none⟩)),(4,.pointer (some ⟨w.heap.size+2,0,none⟩)),(6,.pointer (some ⟨L,0,none⟩)),(77,.bool (!hasB (namesD d) x))] (by kernel_rfl) (by kernel_rfl) fun hS v=>hend v _ hS)
noncomputable def do13Ops:Array Oper:=fops Try.f7 13
theorem do13_neat:Region.noSelect do13Ops=true∧neat do13Ops=true:=⟨by kernel_rfl,by kernel_rfl⟩
theorem do13 (P:Nat→Prop) (w:World) (d:Dk) (c:C3) (k:Int) (x y:ByteArray) (hok:DkOkS d) (W0:World) {l:List Value} (Q:Exit→Act→World→Prop) (hQ:∀ c a d v w,Q (.panic c) (Act.put a d v) w→Q (.panic c) a w) (hg:Dg P w d c k x y W0.drew) (hl:lookL [(2,.pointer (some ⟨w.heap.size,0,none⟩)),(4,.pointer (some ⟨w.heap.size+2,0,none⟩))] l=(143,[.pointer (some ⟨w.heap.size,0,none⟩),.pointer (some ⟨w.heap.size+2,0,none⟩)]))
 (hend:∀ v (c':C3) W',W'.rowIs (w.heap.size+2) 27 3 (row3 c'.c0 c'.c1 c'.c2)→DkAt (New w W') W' (keepD d (namesD d)) c'→Below w.heap.size w W'→Q .normal ⟨(frL v 143 [(4,.pointer (some ⟨w.heap.size+2,0,none⟩)),(5,.int .i64 0)]).toArray,[]⟩ W'):(Code.region 13 do13Ops true).wp Try.prog Q ⟨l.toArray,[]⟩ W0:=by
 obtain ⟨v,rfl⟩:=look_fr hl
 have hq:NtQ do13Ops Q:=⟨do13_neat,hQ⟩
 refine T_start (S:=fun W=>W.rowIs w.heap.size 27 3 (row3 c.c0 c.c1 c.c2)) (by kernel_rfl) hg.b0 ?_
 clear hl hQ
 generalize W0.drew=W at hg ⊢
 refine T_a hq (List.range 6) (fun w h=>.cons (ldDk h) (.cons (ldDk h) Lds.nil)) (by kernel_rfl) ?_
 refine T_one 2 (by kernel_rfl) fun h=>O_go (specDiskNames_any d P c W hg.pl hg.dk) (by kernel_rfl) ?_
 rintro _ W1 ⟨u,rfl,hn⟩
 have hg1:=hg.on hn.below
 refine ⟨_,rfl,hg1.b0,?_⟩
 refine T_one 3 (by kernel_rfl) fun _=>O_go (l41Keep_any d (namesD d) (fun b=>b < W1.heap.size) c u W1 (fun _ h=>h) (hg1.dk.carry (fun _ _=>rfl) hg1.pl) (hn.strs.carry (fun _ _=>rfl) fun b hb=>hb.2) (namesD_len hok) (fun z hz=>by obtain ⟨i,hi,-,-,e⟩:=names_file hz;exact ⟨i,hi,e⟩)) (by kernel_rfl) ?_
 rintro _ W2 ⟨c',rfl,hd2,hb2⟩
 have hg2:=hg1.on hb2
 refine ⟨_,rfl,hg2.b0,?_⟩
 obtain ⟨c0',c1',c2'⟩:=c'
 obtain ⟨a0,p0,g0,-,-⟩:=hd2.fs.open
 obtain ⟨a1,p1,g1,-,-⟩:=id hd2.ns
 obtain ⟨a2,p2,g2,-,-⟩:=hd2.ms.open
 simp only at g0 g1 g2
 subst g0 g1 g2
 obtain ⟨s1,s2,s3,s4⟩:=set3 W2 (w.heap.size+2) (.slice a0 (keepD d (namesD d)).files.length p0) (.slice a1 (keepD d (namesD d)).names.length p1) (.slice a2 (keepD d (namesD d)).moves.length p2)
 have hsz:=hg1.sz
 refine T_one 4 (by kernel_rfl) fun _=>O_store_mid none 27 (.tmp 4) (.tmp 66) (w.heap.size+2) 0 #[.slice a0 (keepD d (namesD d)).files.length p0,.slice a1 (keepD d (namesD d)).names.length p1,.slice a2 (keepD d (namesD d)).moves.length p2] (by kernel_rfl) (by kernel_rfl) (by kernel_rfl) (there3 hg2.b2) info3D (by simp [Value.oneCell']) (hg2.b0.of_block (s1 _ (by omega))) ?_
 exact T_z hq (List.range 6) (by kernel_rfl) (T_end 143 [(4,.pointer (some ⟨w.heap.size+2,0,none⟩)),(5,.int .i64 0)] (by kernel_rfl) (by kernel_rfl) fun _ v=>hend v ⟨_,_,_⟩ _ (s3 _ _ hg2.b2) (hd2.carry (fun b hb=>s1 b (by have:=hb.1;omega)) (fun b hb=>⟨by have:=hb.1;omega,by rw [s2];exact hb.2⟩)) (s4 _ _ (by omega) hg2.bel))
theorem addr_add (b q n:Nat):(⟨b,q,none⟩:Addr).add n=⟨b,q+n,none⟩:=by
 unfold Addr.add
 split
 · rename_i h;simp_all
 · rfl
theorem ixRun {o:Oper} {a:Act} {X I:Operand} {b q n cap i:Nat} (ho:o.op=.indexAddr 23 X I) (hx:a.eval X=.slice (some ⟨b,q,none⟩) n cap) (hi:a.eval I=.int .i64 (i:Nat)) (h:i < n) (w:World):(execOp a.eval o).run Try.prog w=.ok (.value (.pointer (some ⟨b,q+i * 3,none⟩))) w:=by
 have h1:(0:Int)≤(i:Int)∧(i:Int) < (n:Int):=⟨by omega,by omega⟩
 have h2:(Instr.indexAt 23 (.slice (some ⟨b,q,none⟩) n cap) (.int .i64 (i:Nat))).run Try.prog w=.ok (.pointer (some ⟨b,q+i * 3,none⟩)) w:=by
  rw [← addr_add b q (i * 3)]
  simp [go_sem,h1]
 unfold execOp
 simp only [ho,hx,hi,Sem.run_bind,Sem.run_pure,Result.andThen_ok,h2]
theorem Dg.file {P:Nat→Prop} {w W:World} {d:Dk} {c:C3} {k:Int} {x y:ByteArray} (h:Dg P w d c k x y W) {i:Nat} (hi:i < d.files.length) {b o p:Nat} (hc:c.c0=.slice (some ⟨b,o,none⟩) d.files.length p):W.cell? ⟨b,o+i * 3+1,none⟩=some (.string d.files[i].data):=by
 obtain ⟨a,q,e,-,hf⟩:=h.dk.fs.open
 rw [hc] at e
 simp only [Value.slice.injEq,true_and] at e
 obtain ⟨e1,-⟩:=e
 obtain ⟨b',o',e2,-,h1,-⟩:=hf i hi
 rw [← e1] at e2
 simp only [Option.some.injEq,Addr.mk.injEq,and_true] at e2
 obtain ⟨rfl,rfl⟩:=e2
 exact h1.2.1
theorem ixRun0 {o:Oper} {a:Act} {X I:Operand} {g n cap i:Nat} (ho:o.op=.indexAddr 23 X I) (hx:a.eval X=.slice (some ⟨g,0,none⟩) n cap) (hi:a.eval I=.int .i64 (i:Nat)) (h:i < n) (w:World):(execOp a.eval o).run Try.prog w=.ok (.value (.pointer (some ⟨g,i * 3,none⟩))) w:=by
 have:=ixRun ho hx hi h w
 rw [Nat.zero_add] at this
 exact this
theorem addRun {o:Oper} {a:Act} {X Y:Operand} {T:TypeId} {p q:ByteArray} (ho:o.op=.binOp .add 9 X Y T) (hx:a.eval X=.string p) (hy:a.eval Y=.string q) (hs:¬ (9223372036854775807 < p.size+q.size)) (w:World):(execOp a.eval o).run Try.prog w=.ok (.value (.string (p++q))) w:=by
 unfold execOp
 simp only [ho,hx,hy,eqGuard,Sem.run_bind,Sem.run_pure]
 simp [go_sem]
 omega
theorem stStr (w:World) (ad:Addr) (s:ByteArray) (u:Value) (h:w.cell? ad=some u) (hf:w.frozen? ad=false):(Instr.storeAt 9 (.pointer (some ad)) (.string s)).run Try.prog w=.ok () (w.setCell ad (.string s)):=by
 simp [Instr.storeAt,Instr.sureAddr,storeVar,h,hf,go_sem]
theorem stInt (w:World) (ad:Addr) (s:Int) (u:Value) (h:w.cell? ad=some u) (hf:w.frozen? ad=false):(Instr.storeAt 3 (.pointer (some ad)) (.int .i64 s)).run Try.prog w=.ok () (w.setCell ad (.int .i64 s)):=by
 simp [Instr.storeAt,Instr.sureAddr,storeVar,h,hf,go_sem]
theorem MxSt.cellF {base L g cap:Nat} {W:World} {x1 x2:Value} {fs:List Df} {ns:List ByteArray} {ms:List Dm} (h:MxSt base L W (.slice (some ⟨g,0,none⟩) fs.length cap) x1 x2 fs ns ms) (i j:Nat) (hi:i < fs.length) (hj:j < 3):(∃ u,W.cell? ⟨g,i * 3+j,none⟩=some u)∧W.frozen? ⟨g,i * 3+j,none⟩=false∧base≤g:=by
 rcases h.o0.2 with ⟨hv,_⟩ | ⟨g',c',cur,hv,hb,hh,hnc,_,hsz,_⟩
 · simp at hv
 · simp only [Value.slice.injEq,Option.some.injEq,Addr.mk.injEq,and_true,true_and] at hv
   obtain ⟨rfl,rfl⟩:=hv
   have hlt:i * 3+j < cur.size:=by rw [hsz];omega
   refine ⟨⟨cur[i * 3+j],?_⟩,by simp [World.frozen?, hh],hb⟩
   simp [World.cell?, hh,hlt]
noncomputable def do24Ops:Array Oper:=fops Try.f7 24
theorem do24_neat:Region.noSelect do24Ops=true∧neat do24Ops=true:=⟨by kernel_rfl,by kernel_rfl⟩
theorem do24 (P:Nat→Prop) (w:World) (d:Dk) (c:C3) (k:Int) (x y:ByteArray) (base L:Nat) (o:C3) (i:Nat) (hi:i < d.files.length) (b0 q0 p0:Nat) (hA:c.c0=.slice (some ⟨b0,q0,none⟩) d.files.length p0) (W0:World) {l:List Value} (Q:Exit→Act→World→Prop) (hQ:∀ c a d v w,Q (.panic c) (Act.put a d v) w→Q (.panic c) a w) (hS:Dz P w d c k x y base L o d W0.drew) (hl:lookL [(2,.pointer (some ⟨w.heap.size,0,none⟩)),(3,.pointer (some ⟨w.heap.size+1,0,none⟩)),(4,.pointer (some ⟨w.heap.size+2,0,none⟩)),(6,.pointer (some ⟨L,0,none⟩)),(7,.int .i64 (i:Nat))] l=(143,[.pointer (some ⟨w.heap.size,0,none⟩),.pointer (some ⟨w.heap.size+1,0,none⟩),.pointer (some ⟨w.heap.size+2,0,none⟩),.pointer (some ⟨L,0,none⟩),.int .i64 (i:Nat)]))
 (hend:∀ v W',Dz P w d c k x y base L o d W'→Q .normal ⟨(frL v 143 [(2,.pointer (some ⟨w.heap.size,0,none⟩)),(3,.pointer (some ⟨w.heap.size+1,0,none⟩)),(4,.pointer (some ⟨w.heap.size+2,0,none⟩)),(6,.pointer (some ⟨L,0,none⟩)),(7,.int .i64 (i:Nat)),(112,.bool (decide (IntKind.i64.wrap (20000 - (d.files[i].data.size:Int)) < (y.size:Int))))]).toArray,[]⟩ W'):(Code.region 24 do24Ops true).wp Try.prog Q ⟨l.toArray,[]⟩ W0:=by
 obtain ⟨v,rfl⟩:=look_fr hl
 have hq:NtQ do24Ops Q:=⟨do24_neat,hQ⟩
 refine T_start (S:=fun W=>Dz P w d c k x y base L o d W) (by kernel_rfl) hS ?_
 clear hl hQ hS
 generalize W0.drew=W
 refine T_a hq (List.range 6) (fun w h=>.cons (ldStr _ _ _ h.g.m2) (.cons (ldFs _ _ _ (hA ▸ h.g.k0)) Lds.nil)) (by kernel_rfl) ?_
 refine T_yld hq 6 (some 107) (.pointer (some ⟨b0,q0+i * 3,none⟩)) (by kernel_rfl) (by kernel_rfl) (fun w _=>ixRun (cap:=p0) (X:=.tmp 105) (I:=.tmp 106) (by kernel_rfl) (by kernel_rfl) (by kernel_rfl) hi w) ?_
 refine T_a hq (List.range 12) (fun w h=>.cons (ldStr _ _ _ (h.g.file hi hA)) Lds.nil) (by kernel_rfl) ?_
 exact T_end 143 [(2,.pointer (some ⟨w.heap.size,0,none⟩)),(3,.pointer (some ⟨w.heap.size+1,0,none⟩)),(4,.pointer (some ⟨w.heap.size+2,0,none⟩)),(6,.pointer (some ⟨L,0,none⟩)),(7,.int .i64 (i:Nat)),(112,.bool (decide (IntKind.i64.wrap (20000 - (d.files[i].data.size:Int)) < (y.size:Int))))] (by kernel_rfl) (by kernel_rfl) fun hS v=>hend v _ hS
noncomputable def do26Ops:Array Oper:=fops Try.f7 26
theorem do26_neat:Region.noSelect do26Ops=true∧neat do26Ops=true:=⟨by kernel_rfl,by kernel_rfl⟩
theorem do26 (P:Nat→Prop) (w:World) (d:Dk) (c:C3) (k:Int) (x y:ByteArray) (base L:Nat) (o:C3) (i:Nat) (hi:i < d.files.length) (b0 q0 p0:Nat) (hA:c.c0=.slice (some ⟨b0,q0,none⟩) d.files.length p0) (g s0:Nat) (hO:o.c0=.slice (some ⟨g,0,none⟩) d.files.length s0) (hs:¬ (9223372036854775807 < d.files[i].data.size+y.size)) (W0:World) {l:List Value} (Q:Exit→Act→World→Prop) (hQ:∀ c a d v w,Q (.panic c) (Act.put a d v) w→Q (.panic c) a w) (hz:Dz P w d c k x y base L o d W0.drew) (hl:lookL [(2,.pointer (some ⟨w.heap.size,0,none⟩)),(3,.pointer (some ⟨w.heap.size+1,0,none⟩)),(4,.pointer (some ⟨w.heap.size+2,0,none⟩)),(6,.pointer (some ⟨L,0,none⟩)),(7,.int .i64 (i:Nat))] l=(143,[.pointer (some ⟨w.heap.size,0,none⟩),.pointer (some ⟨w.heap.size+1,0,none⟩),.pointer (some ⟨w.heap.size+2,0,none⟩),.pointer (some ⟨L,0,none⟩),.int .i64 (i:Nat)]))
 (hend:∀ v W',Dz P w d c k x y base L o ⟨d.files.set i ⟨d.files[i].name,d.files[i].data++y,d.files[i].kept⟩,d.names,d.moves⟩ W'→Q .normal ⟨(frL v 143 [(2,.pointer (some ⟨w.heap.size,0,none⟩)),(3,.pointer (some ⟨w.heap.size+1,0,none⟩)),(4,.pointer (some ⟨w.heap.size+2,0,none⟩)),(6,.pointer (some ⟨L,0,none⟩))]).toArray,[]⟩ W'):(Code.region 26 do26Ops true).wp Try.prog Q ⟨l.toArray,[]⟩ W0:=by
 obtain ⟨v,rfl⟩:=look_fr hl
 have hq:NtQ do26Ops Q:=⟨do26_neat,hQ⟩
 refine T_start (S:=fun W=>Dg P w d c k x y W∧W.cell? ⟨L,0,none⟩=some (.slice (some ⟨g,0,none⟩) d.files.length s0)) (by kernel_rfl) ⟨hz.g,by have:=hz.mx.row.cell (i:=0) (by omega);rw [← hO];exact this⟩ ?_
 clear hl hQ
 generalize W0.drew=W at hz ⊢
 refine T_a hq [0,1,2,3,4,5,9,10] (fun w h=>.cons (ldFs _ _ _ h.2) (.cons (ldFs _ _ _ (hA ▸ h.1.k0)) (.cons (ldStr _ _ _ h.1.m2) Lds.nil))) (by kernel_rfl) ?_
 refine T_yld hq 6 (some 120) (.pointer (some ⟨b0,q0+i * 3,none⟩)) (by kernel_rfl) (by kernel_rfl) (fun w _=>ixRun (cap:=p0) (X:=.tmp 118) (I:=.tmp 119) (by kernel_rfl) (by kernel_rfl) (by kernel_rfl) hi w) ?_
 refine T_a hq [7,8] (fun w h=>.cons (ldStr _ _ _ (h.1.file hi hA)) Lds.nil) (by kernel_rfl) ?_
 refine T_yld hq 11 (some 125) (.string (d.files[i].data++y)) (by kernel_rfl) (by kernel_rfl) (fun w _=>addRun (T:=9) (X:=.tmp 122) (Y:=.tmp 124) (by kernel_rfl) (by kernel_rfl) (by kernel_rfl) hs w) ?_
 refine T_yld hq 12 (some 126) (.pointer (some ⟨g,i * 3,none⟩)) (by kernel_rfl) (by kernel_rfl) (fun w _=>ixRun0 (cap:=s0) (X:=.tmp 115) (I:=.tmp 116) (by kernel_rfl) (by kernel_rfl) (by kernel_rfl) hi w) ?_
 refine T_z hq [13] (by kernel_rfl) ?_
 have hm:MxSt base L W (.slice (some ⟨g,0,none⟩) d.files.length s0) o.c1 o.c2 d.files d.names d.moves:=by rw [← hO];exact hz.mx
 obtain ⟨⟨u,hu⟩,hfz,hbg⟩:=hm.cellF i 1 hi (by omega)
 have hz2:Dz P w d c k x y base L o ⟨d.files.set i ⟨d.files[i].name,d.files[i].data++y,d.files[i].kept⟩,d.names,d.moves⟩ (W.setCell ⟨g,i * 3+1,none⟩ (.string (d.files[i].data++y))):=hz.put hbg (by have:=hm.setF i 1 (.string (d.files[i].data++y)) ⟨d.files[i].name,d.files[i].data++y,d.files[i].kept⟩ hi (by omega) rfl;rw [hO];exact this)
 refine T_one 14 (by kernel_rfl) fun _=>O_store none 9 (.tmp 127) (.tmp 125) ⟨g,i * 3+1,none⟩ (.string (d.files[i].data++y)) _ (by kernel_rfl) (by kernel_rfl) (by kernel_rfl) (stStr W _ _ u hu hfz) ⟨hz2.g,by have:=hz2.mx.row.cell (i:=0) (by omega);rw [← hO];exact this⟩ ?_
 exact T_end 143 [(2,.pointer (some ⟨w.heap.size,0,none⟩)),(3,.pointer (some ⟨w.heap.size+1,0,none⟩)),(4,.pointer (some ⟨w.heap.size+2,0,none⟩)),(6,.pointer (some ⟨L,0,none⟩))] (by kernel_rfl) (by kernel_rfl) fun _ v=>hend v _ hz2
noncomputable def do28Ops:Array Oper:=fops Try.f7 28
theorem do28_neat:Region.noSelect do28Ops=true∧neat do28Ops=true:=⟨by kernel_rfl,by kernel_rfl⟩
theorem do28 (P:Nat→Prop) (w:World) (d:Dk) (c:C3) (k:Int) (x y:ByteArray) (base L:Nat) (o:C3) (i:Nat) (hi:i < d.files.length) (b0 q0 p0:Nat) (hA:c.c0=.slice (some ⟨b0,q0,none⟩) d.files.length p0) (g s0:Nat) (hO:o.c0=.slice (some ⟨g,0,none⟩) d.files.length s0) (W0:World) {l:List Value} (Q:Exit→Act→World→Prop) (hQ:∀ c a d v w,Q (.panic c) (Act.put a d v) w→Q (.panic c) a w) (hz:Dz P w d c k x y base L o d W0.drew) (hl:lookL [(2,.pointer (some ⟨w.heap.size,0,none⟩)),(3,.pointer (some ⟨w.heap.size+1,0,none⟩)),(4,.pointer (some ⟨w.heap.size+2,0,none⟩)),(6,.pointer (some ⟨L,0,none⟩)),(7,.int .i64 (i:Nat))] l=(143,[.pointer (some ⟨w.heap.size,0,none⟩),.pointer (some ⟨w.heap.size+1,0,none⟩),.pointer (some ⟨w.heap.size+2,0,none⟩),.pointer (some ⟨L,0,none⟩),.int .i64 (i:Nat)]))
 (hend:∀ v W',Dz P w d c k x y base L o ⟨d.files.set i ⟨d.files[i].name,d.files[i].data,d.files[i].data.size⟩,d.names,d.moves⟩ W'→Q .normal ⟨(frL v 143 [(2,.pointer (some ⟨w.heap.size,0,none⟩)),(3,.pointer (some ⟨w.heap.size+1,0,none⟩)),(4,.pointer (some ⟨w.heap.size+2,0,none⟩)),(6,.pointer (some ⟨L,0,none⟩))]).toArray,[]⟩ W'):(Code.region 28 do28Ops true).wp Try.prog Q ⟨l.toArray,[]⟩ W0:=by
 obtain ⟨v,rfl⟩:=look_fr hl
 have hq:NtQ do28Ops Q:=⟨do28_neat,hQ⟩
 refine T_start (S:=fun W=>Dg P w d c k x y W∧W.cell? ⟨L,0,none⟩=some (.slice (some ⟨g,0,none⟩) d.files.length s0)) (by kernel_rfl) ⟨hz.g,by have:=hz.mx.row.cell (i:=0) (by omega);rw [← hO];exact this⟩ ?_
 clear hl hQ
 generalize W0.drew=W at hz ⊢
 refine T_a hq [0,1,2,3,4,5] (fun w h=>.cons (ldFs _ _ _ h.2) (.cons (ldFs _ _ _ (hA ▸ h.1.k0)) Lds.nil)) (by kernel_rfl) ?_
 refine T_yld hq 6 (some 136) (.pointer (some ⟨b0,q0+i * 3,none⟩)) (by kernel_rfl) (by kernel_rfl) (fun w _=>ixRun (cap:=p0) (X:=.tmp 134) (I:=.tmp 135) (by kernel_rfl) (by kernel_rfl) (by kernel_rfl) hi w) ?_
 refine T_a hq [7,8,9] (fun w h=>.cons (ldStr _ _ _ (h.1.file hi hA)) Lds.nil) (by kernel_rfl) ?_
 refine T_yld hq 10 (some 140) (.pointer (some ⟨g,i * 3,none⟩)) (by kernel_rfl) (by kernel_rfl) (fun w _=>ixRun0 (cap:=s0) (X:=.tmp 131) (I:=.tmp 132) (by kernel_rfl) (by kernel_rfl) (by kernel_rfl) hi w) ?_
 refine T_z hq [11] (by kernel_rfl) ?_
 have hm:MxSt base L W (.slice (some ⟨g,0,none⟩) d.files.length s0) o.c1 o.c2 d.files d.names d.moves:=by rw [← hO];exact hz.mx
 obtain ⟨⟨u,hu⟩,hfz,hbg⟩:=hm.cellF i 2 hi (by omega)
 have hz2:Dz P w d c k x y base L o ⟨d.files.set i ⟨d.files[i].name,d.files[i].data,d.files[i].data.size⟩,d.names,d.moves⟩ (W.setCell ⟨g,i * 3+2,none⟩ (.int .i64 (d.files[i].data.size:Nat))):=hz.put hbg (by have:=hm.setF i 2 (.int .i64 (d.files[i].data.size:Nat)) ⟨d.files[i].name,d.files[i].data,d.files[i].data.size⟩ hi (by omega) rfl;rw [hO];exact this)
 refine T_one 12 (by kernel_rfl) fun _=>O_store none 3 (.tmp 141) (.tmp 139) ⟨g,i * 3+2,none⟩ (.int .i64 (d.files[i].data.size:Nat)) _ (by kernel_rfl) (by kernel_rfl) (by kernel_rfl) (stInt W _ _ u hu hfz) ⟨hz2.g,by have:=hz2.mx.row.cell (i:=0) (by omega);rw [← hO];exact this⟩ ?_
 exact T_end 143 [(2,.pointer (some ⟨w.heap.size,0,none⟩)),(3,.pointer (some ⟨w.heap.size+1,0,none⟩)),(4,.pointer (some ⟨w.heap.size+2,0,none⟩)),(6,.pointer (some ⟨L,0,none⟩))] (by kernel_rfl) (by kernel_rfl) fun _ v=>hend v _ hz2

structure Pr (w W:World) (v:Value) (ps:List Pt):Prop where
 bel:Below w.heap.size w W
 b2:W.rowIs w.heap.size 115 3 (row3 (.slice none 0 0) (.int .i64 0) (.int .i64 0))
 b4:W.rowIs (w.heap.size+1) 115 3 (row3 v (.int .i64 0) (.int .i64 0))
 own:W.ownsRow (w.heap.size+2) 138 4 v ps.length (ps.map Pt.cs).flatten
theorem ownsR_keep {w w':World} {base:Nat} {e:TypeId} {size:Nat} {v:Value} {n:Nat} {xs:List Value} (h:w.ownsRow base e size v n xs) (hk:∀ g,v.ownBlock=some g→w'.heap[g]? = w.heap[g]?):w'.ownsRow base e size v n xs:=by
 refine ⟨h.1,?_⟩
 rcases h.2 with h0 | ⟨g,cap,cur,hv,hb,hh,hr⟩
 · exact Or.inl h0
 · exact Or.inr ⟨g,cap,cur,hv,hb,by rw [hk g (by rw [hv];rfl)];exact hh,hr⟩
theorem Pr.on {w W W':World} {v:Value} {ps:List Pt} (h:Pr w W v ps) (hb:Below W.heap.size W W'):Pr w W' v ps :=
 ⟨h.bel.trans (hb.mono h.bel.size),h.b2.of_block (hb.block _ h.b2.lt),h.b4.of_block (hb.block _ h.b4.lt),ownsR_keep h.own (fun g e=>hb.block g (h.own.lt g e).2)⟩
theorem ldPts (w:World) (ad:Addr) (v:Value) (h:w.cell? ad=some v):(Instr.loadAt 113 (.pointer (some ad))).run Try.prog w=.ok v w:=by
 simp [Instr.loadAt,Instr.sureAddr,loadVar,Try.isAgg113,h,go_sem]
theorem ldIntR (w:World) (ad:Addr) (v:Value) (h:w.cell? ad=some v):(Instr.loadAt 3 (.pointer (some ad))).run Try.prog w=.ok v w:=by
 simp [Instr.loadAt,Instr.sureAddr,loadVar,Try.isAgg3,h,go_sem]
theorem stPts (w:World) (ad:Addr) (a:Option Addr) (n c:Nat) (u:Value) (h:w.cell? ad=some u) (hf:w.frozen? ad=false):(Instr.storeAt 113 (.pointer (some ad)) (.slice a n c)).run Try.prog w=.ok () (w.setCell ad (.slice a n c)):=by
 simp [Instr.storeAt,Instr.sureAddr,storeVar,h,hf,go_sem]
theorem ldOpR {o:Oper} {a:Act} {X:Operand} {T:TypeId} {ad:Addr} {v:Value} {W:World} (ho:o.op=.load T X) (hx:a.eval X=.pointer (some ad)) (h:(Instr.loadAt T (.pointer (some ad))).run Try.prog W=.ok v W):(execOp a.eval o).run Try.prog W=.ok (.value v) W:=by
 unfold execOp
 simp only [ho,hx,Sem.run_bind,Sem.run_pure,Result.andThen_ok,h]
theorem ixRunI {o:Oper} {a:Act} {X I:Operand} {g n cap i:Nat} (ho:o.op=.indexAddr 39 X I) (hx:a.eval X=.slice (some ⟨g,0,none⟩) n cap) (hi:a.eval I=.int .i64 (i:Nat)) (h:i < n) (w:World):(execOp a.eval o).run Try.prog w=.ok (.value (.pointer (some ⟨g,i,none⟩))) w:=by
 have h1:(0:Int)≤(i:Int)∧(i:Int) < (n:Int):=⟨by omega,by omega⟩
 have h2:(Instr.indexAt 39 (.slice (some ⟨g,0,none⟩) n cap) (.int .i64 (i:Nat))).run Try.prog w=.ok (.pointer (some ⟨g,i,none⟩)) w:=by
  have e:(⟨g,i,none⟩:Addr)=(⟨g,0,none⟩:Addr).add i:=by simp [Addr.add]
  rw [e]
  simp [go_sem,h1]
 unfold execOp
 simp only [ho,hx,hi,Sem.run_bind,Sem.run_pure,Result.andThen_ok,h2]
theorem infoPartR:(Try.prog.info? 138).map (fun i=>(i.zero,i.size,i.bytes))=some (some (.agg #[.int .i64 0,.int .i64 0,.int .i64 0,.int .i64 0]),4,32):=by kernel_rfl
theorem infoPartRD:∃ i,Try.prog.info? 138=some i∧i.zero=some (.agg #[.int .i64 0,.int .i64 0,.int .i64 0,.int .i64 0])∧i.size=4∧i.bytes=32:=by
 have:=infoPartR
 cases h:Try.prog.info? 138 with
 | none=>rw [h] at this;cases this
 | some i=>rw [h] at this;simp only [Option.map_some,Option.some.injEq,Prod.mk.injEq] at this;exact ⟨i,rfl,this⟩
theorem cell_4R (w:World) (x y z u:Value) (t:TypeId):∀ j v,[x,y,z,u][j]? = some v→(w.alloc (.cells #[x,y,z,u] t)).cell? ((⟨w.heap.size,0,none⟩:Addr).add j)=some v:=by
 intro j v hj
 match j,hj with
 | 0,hj=>simp only [List.getElem?_cons_zero,Option.some.injEq] at hj;subst hj;simp [go_sem]
 | 1,hj=>simp only [List.getElem?_cons_succ,List.getElem?_cons_zero,Option.some.injEq] at hj;subst hj;simp [go_sem]
 | 2,hj=>simp only [List.getElem?_cons_succ,List.getElem?_cons_zero,Option.some.injEq] at hj;subst hj;simp [go_sem]
 | 3,hj=>simp only [List.getElem?_cons_succ,List.getElem?_cons_zero,Option.some.injEq] at hj;subst hj;simp [go_sem]
 | _+4,hj=>simp at hj
theorem own_ne_row {W:World} {base e s n b t m:Nat} {v:Value} {xs:List Value} {f:Nat→Value} (h:W.ownsRow base e s v n xs) (hr:W.rowIs b t m f) (hne:e≠t):v.ownBlock≠some b:=fun hv=>by
 rcases h.2 with ⟨hv',_⟩ | ⟨g,c,cur,hv',_,hh,_⟩
 · rw [hv'] at hv;cases hv
 · rw [hv'] at hv
   simp only [Value.ownBlock,Option.some.injEq] at hv
   subst hv
   obtain ⟨c2,h2,-,-⟩:=hr
   rw [hh] at h2
   simp only [Option.some.injEq,Obj.cells.injEq] at h2
   exact hne h2.2.1
theorem row3_set0 {W:World} {g t:Nat} {x0 x1 x2:Value} (h:W.rowIs g t 3 (row3 x0 x1 x2)) (u:Value):(W.setCell ⟨g,0,none⟩ u).rowIs g t 3 (row3 u x1 x2) :=
 (h.set 0 u).congr (fun i hi=>by rcases (show i=0∨i=1∨i=2 by omega) with rfl | rfl | rfl <;> rfl)
theorem Pr.add {w W W':World} {v v':Value} {ps:List Pt} {ob:Obj} (h:Pr w W v ps) (p:Pt) (ho:W'.ownsRow (w.heap.size+2) 138 4 v' (ps.length+1) ((ps.map Pt.cs).flatten++p.cs)) (hg:(W.alloc ob).grownBy W' v.ownBlock):W'.rowIs (w.heap.size+1) 115 3 (row3 v (.int .i64 0) (.int .i64 0))∧Pr w (W'.setCell ⟨w.heap.size+1,0,none⟩ v') v' (ps++[p]):=by
 have hs:∀ b,b < W.heap.size→v.ownBlock≠some b→W'.heap[b]? = W.heap[b]? := fun b hb hne=>by
  rw [hg.block b (by rw [World.size_alloc];omega) (fun e=>hne e.symm),Below.heap_alloc _ _ _ hb]
 have h4:=h.b4.of_block (hs _ h.b4.lt (own_ne_row h.own h.b4 (by decide)))
 have h2:=h.b2.of_block (hs _ h.b2.lt (own_ne_row h.own h.b2 (by decide)))
 have hbs:=h.bel.size
 refine ⟨h4,⟨?_,h2.of_block (Below.heap_setCell _ _ _ _ (by simp)),row3_set0 h4 v',?_⟩⟩
 · refine ⟨hg.os.trans h.bel.os,hg.tape.trans h.bel.tape,hg.output.trans h.bel.output,by have:=hg.size;rw [World.size_alloc] at this;rw [World.size_setCell];omega,fun b hb=>?_⟩
   rw [Below.heap_setCell _ _ _ _ (by simp;omega),hs b (by omega) (fun e=>by have:=(h.own.lt b e).1;omega)]
   exact h.bel.block b hb
 · refine ownsR_keep (w:=W') ?_ (fun g e=>Below.heap_setCell _ _ _ _ (by have:=(ho.lt g e).1;simp;omega))
   rw [List.length_append,List.map_append,List.flatten_append]
   simpa using ho
noncomputable def pr5Ops:Array Oper:=fops Try.f94 5
theorem pr5_neat:Region.noSelect pr5Ops=true∧neat pr5Ops=true:=⟨by kernel_rfl,by kernel_rfl⟩
theorem cells4 {W:World} {base gx cx:Nat} {z0 z1 z2 z3:Int} (h:W.ownsRow base 3 1 (.slice (some ⟨gx,0,none⟩) 4 cx) 4 [.int .i64 z0,.int .i64 z1,.int .i64 z2,.int .i64 z3]):W.cell? ⟨gx,0,none⟩=some (.int .i64 z0)∧W.cell? ⟨gx,1,none⟩=some (.int .i64 z1)∧W.cell? ⟨gx,2,none⟩=some (.int .i64 z2)∧W.cell? ⟨gx,3,none⟩=some (.int .i64 z3) :=
 ⟨h.cellAt 0 (by omega),h.cellAt 1 (by omega),h.cellAt 2 (by omega),h.cellAt 3 (by omega)⟩
theorem ints_parts {W:World} {b1 b2 gx cx n:Nat} {xs ys:List Value} {v:Value} (h:W.ownsRow b1 3 1 (.slice (some ⟨gx,0,none⟩) 4 cx) 4 xs) (k:W.ownsRow b2 138 4 v n ys) (e:v.ownBlock=some gx):False:=by
 rcases h.2 with ⟨hv,_⟩ | ⟨ga,c1,u1,hv1,_,hh1,_⟩
 · cases hv
 rcases k.2 with ⟨hv,_⟩ | ⟨gb,c2,u2,hv2,_,hh2,_⟩
 · rw [hv] at e;cases e
 rw [hv2] at e
 simp only [Value.ownBlock,Option.some.injEq] at e
 subst e
 simp only [Value.slice.injEq,Option.some.injEq,Addr.mk.injEq,and_true,true_and] at hv1
 obtain ⟨rfl,-⟩:=hv1
 rw [hh1] at hh2
 simp only [Option.some.injEq,Obj.cells.injEq] at hh2
 exact absurd hh2.2.1 (by decide)
theorem on4 {w W W':World} {v0:Value} {ps:List Pt} {base gx cx:Nat} {xs:List Value} (h:Pr w W v0 ps∧W.ownsRow base 3 1 (.slice (some ⟨gx,0,none⟩) 4 cx) 4 xs) (hb:Below W.heap.size W W'):Pr w W' v0 ps∧W'.ownsRow base 3 1 (.slice (some ⟨gx,0,none⟩) 4 cx) 4 xs :=
 ⟨h.1.on hb,ownsR_keep h.2 (fun g e=>hb.block g (h.2.lt g e).2)⟩
theorem pr5 (s:ByteArray) (w:World) (v0:Value) (ps:List Pt) (gx cx i j:Nat) (z0 z1 z2 z3:Int) (hn:ps.length≤1000) (W0:World) {l:List Value} (Q:Exit→Act→World→Prop) (hQ:∀ c a d v w,Q (.panic c) (Act.put a d v) w→Q (.panic c) a w) (h:(Pr w W0.drew v0 ps∧W0.drew.ownsRow (w.heap.size+2) 3 1 (.slice (some ⟨gx,0,none⟩) 4 cx) 4 [.int .i64 z0,.int .i64 z1,.int .i64 z2,.int .i64 z3])) (hl:lookL [(0,.string s),(1,undef),(2,.pointer (some ⟨w.heap.size,0,none⟩)),(3,.bool false),(4,.pointer (some ⟨w.heap.size+1,0,none⟩)),(5,.int .i64 (i:Nat)),(6,.slice (some ⟨gx,0,none⟩) 4 cx),(7,.int .i64 (j:Nat)),(8,undef),(9,undef),(10,.agg #[.slice none 0 0,.int .i64 0,.int .i64 0]),(56,undef),(57,undef),(58,undef),(59,undef),(60,undef),(61,undef),(62,undef),(63,undef),(64,undef),(65,undef),(66,undef),(67,undef),(68,undef),(69,undef),(70,undef),(71,undef),(72,undef),(73,undef),(74,undef),(75,undef),(76,undef),(77,undef),(78,undef),(79,undef),(80,undef),(81,undef),(82,undef)] l=(83,[.string s,undef,.pointer (some ⟨w.heap.size,0,none⟩),.bool false,.pointer (some ⟨w.heap.size+1,0,none⟩),.int .i64 (i:Nat),.slice (some ⟨gx,0,none⟩) 4 cx,.int .i64 (j:Nat),undef,undef,.agg #[.slice none 0 0,.int .i64 0,.int .i64 0],undef,undef,undef,undef,undef,undef,undef,undef,undef,undef,undef,undef,undef,undef,undef,undef,undef,undef,undef,undef,undef,undef,undef,undef,undef,undef,undef]))
 (hend:∀ v v' W',Pr w W' v' (ps++[⟨z0,z1,z2,z3⟩])→Q .normal ⟨(frL v 83 [(0,.string s),(1,undef),(2,.pointer (some ⟨w.heap.size,0,none⟩)),(3,.bool false),(4,.pointer (some ⟨w.heap.size+1,0,none⟩)),(5,.int .i64 (i:Nat)),(6,.slice (some ⟨gx,0,none⟩) 4 cx),(7,.int .i64 (j:Nat)),(8,undef),(9,undef),(10,.agg #[.slice none 0 0,.int .i64 0,.int .i64 0]),(56,undef),(57,undef),(58,undef),(59,undef),(60,undef),(61,undef),(62,undef),(63,undef),(64,undef),(65,undef),(66,undef),(67,undef),(68,undef),(69,undef),(70,undef),(71,undef),(72,undef),(73,undef),(74,undef),(75,undef),(76,undef),(77,undef),(78,undef),(79,undef),(80,undef),(81,undef),(82,undef)]).toArray,[]⟩ W'):(Code.region 5 pr5Ops true).wp Try.prog Q ⟨l.toArray,[]⟩ W0:=by
 obtain ⟨v,rfl⟩:=look_fr hl
 have hq:NtQ pr5Ops Q:=⟨pr5_neat,hQ⟩
 clear hl hQ
 have Q1:∀ v W,(Pr w W v0 ps∧W.ownsRow (w.heap.size+2) 3 1 (.slice (some ⟨gx,0,none⟩) 4 cx) 4 [.int .i64 z0,.int .i64 z1,.int .i64 z2,.int .i64 z3])→wpS Try.prog pr5Ops Q (fun W=>W.cell? ⟨gx,0,none⟩=some (.int .i64 z0)∧W.cell? ⟨gx,1,none⟩=some (.int .i64 z1)∧W.cell? ⟨gx,2,none⟩=some (.int .i64 z2)∧W.cell? ⟨gx,3,none⟩=some (.int .i64 z3)) (unl 19 [16,17,18],frL v 83 [(0,.string s),(1,undef),(2,.pointer (some ⟨w.heap.size,0,none⟩)),(3,.bool false),(4,.pointer (some ⟨w.heap.size+1,0,none⟩)),(5,.int .i64 (i:Nat)),(6,.slice (some ⟨gx,0,none⟩) 4 cx),(7,.int .i64 (j:Nat)),(8,undef),(9,undef),(10,.agg #[.slice none 0 0,.int .i64 0,.int .i64 0]),(37,.pointer (some ⟨w.heap.size+1,0,none⟩)),(38,v0),(51,.agg #[.int .i64 z0,.int .i64 z1,.int .i64 z2,.int .i64 z3]),(52,.slice (some ⟨W.heap.size,0,none⟩) 1 1),(56,undef),(57,undef),(58,undef),(59,undef),(60,undef),(61,undef),(62,undef),(63,undef),(64,undef),(65,undef),(66,undef),(67,undef),(68,undef),(69,undef),(70,undef),(71,undef),(72,undef),(73,undef),(74,undef),(75,undef),(76,undef),(77,undef),(78,undef),(79,undef),(80,undef),(81,undef),(82,undef)]) [] (W.alloc (.cells #[.int .i64 z0,.int .i64 z1,.int .i64 z2,.int .i64 z3] 138)):=fun v W h=>by
  obtain ⟨i0,hi0,hi1,hi2,hi3⟩:=infoPartRD
  have hbs:=h.1.bel.size
  have hb4:=h.1.b4.lt
  refine T_one 16 (by kernel_rfl) fun _=>O_list (some 53) (by kernel_rfl) ?_
  refine append_row _ (by kernel_rfl) (.tmp 38) (.tmp 52) 113 (by kernel_rfl) (w.heap.size+2) 138 i0 (.agg #[.int .i64 0,.int .i64 0,.int .i64 0,.int .i64 0]) 4 32 Try.underlying113 hi0 hi1 hi2 hi3 rfl (by decide) v0 ps.length (ps.map Pt.cs).flatten (by kernel_rfl) (World.ownsRow.alloc h.1.own _) ⟨W.heap.size,0,none⟩ 1 1 [.int .i64 z0,.int .i64 z1,.int .i64 z2,.int .i64 z3] (by kernel_rfl) rfl (cell_4R W _ _ _ _ _) (fun u hu=>by simp at hu;rcases hu with rfl | rfl | rfl | rfl <;> rfl) (by decide) (by unfold maxLen;omega) (by omega) (by rw [World.size_alloc];omega) ?_
  intro v' W2 hown hgrow hat
  obtain ⟨g5,cap5,rfl,-,-⟩:=hown.form (by omega)
  obtain ⟨hb4',h2⟩:=h.1.add ⟨z0,z1,z2,z3⟩ hown hgrow
  have hgx:v0.ownBlock≠some gx:=fun e=>ints_parts h.2 h.1.own e
  have hx2:W2.ownsRow (w.heap.size+2) 3 1 (.slice (some ⟨gx,0,none⟩) 4 cx) 4 [.int .i64 z0,.int .i64 z1,.int .i64 z2,.int .i64 z3]:=ownsR_keep h.2 (fun g e=>by
   simp only [Value.ownBlock,Option.some.injEq] at e
   subst e
   rw [hgrow.block gx (by rw [World.size_alloc];have:=(h.2.lt gx rfl).2;omega) (fun e=>hgx e.symm),Below.heap_alloc _ _ _ (h.2.lt gx rfl).2])
  have hx3:(W2.setCell ⟨w.heap.size+1,0,none⟩ (.slice (some ⟨g5,0,none⟩) (ps.length+1) cap5)).ownsRow (w.heap.size+2) 3 1 (.slice (some ⟨gx,0,none⟩) 4 cx) 4 [.int .i64 z0,.int .i64 z1,.int .i64 z2,.int .i64 z3]:=ownsR_keep hx2 (fun g e=>Below.heap_setCell _ _ _ _ (by have:=(hx2.lt g e).1;simp;omega))
  refine ⟨cells4 hx2,_,put_putL ..,?_⟩
  refine T_z hq [17] (by kernel_rfl) ?_
  refine T_one 18 (by kernel_rfl) fun _=>O_store none 113 (.tmp 54) (.tmp 53) ⟨w.heap.size+1,0,none⟩ (.slice (some ⟨g5,0,none⟩) (ps.length+1) cap5) _ (by kernel_rfl) (by kernel_rfl) (by kernel_rfl) (stPts W2 _ _ _ _ _ (hb4'.cell (i:=0) (by omega)) (hb4'.frozen 0)) (cells4 hx3) ?_
  exact T_end 83 [(0,.string s),(1,undef),(2,.pointer (some ⟨w.heap.size,0,none⟩)),(3,.bool false),(4,.pointer (some ⟨w.heap.size+1,0,none⟩)),(5,.int .i64 (i:Nat)),(6,.slice (some ⟨gx,0,none⟩) 4 cx),(7,.int .i64 (j:Nat)),(8,undef),(9,undef),(10,.agg #[.slice none 0 0,.int .i64 0,.int .i64 0]),(56,undef),(57,undef),(58,undef),(59,undef),(60,undef),(61,undef),(62,undef),(63,undef),(64,undef),(65,undef),(66,undef),(67,undef),(68,undef),(69,undef),(70,undef),(71,undef),(72,undef),(73,undef),(74,undef),(75,undef),(76,undef),(77,undef),(78,undef),(79,undef),(80,undef),(81,undef),(82,undef)] (by kernel_rfl) (by kernel_rfl) fun _ v=>hend v _ _ h2
 have Q0:∀ v W,(Pr w W v0 ps∧W.ownsRow (w.heap.size+2) 3 1 (.slice (some ⟨gx,0,none⟩) 4 cx) 4 [.int .i64 z0,.int .i64 z1,.int .i64 z2,.int .i64 z3])→wpS Try.prog pr5Ops Q (fun W=>W.cell? ⟨gx,0,none⟩=some (.int .i64 z0)∧W.cell? ⟨gx,1,none⟩=some (.int .i64 z1)∧W.cell? ⟨gx,2,none⟩=some (.int .i64 z2)∧W.cell? ⟨gx,3,none⟩=some (.int .i64 z3)) (unl 19 [15,16,17,18],frL v 83 [(0,.string s),(1,undef),(2,.pointer (some ⟨w.heap.size,0,none⟩)),(3,.bool false),(4,.pointer (some ⟨w.heap.size+1,0,none⟩)),(5,.int .i64 (i:Nat)),(6,.slice (some ⟨gx,0,none⟩) 4 cx),(7,.int .i64 (j:Nat)),(8,undef),(9,undef),(10,.agg #[.slice none 0 0,.int .i64 0,.int .i64 0]),(37,.pointer (some ⟨w.heap.size+1,0,none⟩)),(38,v0),(51,.agg #[.int .i64 z0,.int .i64 z1,.int .i64 z2,.int .i64 z3]),(56,undef),(57,undef),(58,undef),(59,undef),(60,undef),(61,undef),(62,undef),(63,undef),(64,undef),(65,undef),(66,undef),(67,undef),(68,undef),(69,undef),(70,undef),(71,undef),(72,undef),(73,undef),(74,undef),(75,undef),(76,undef),(77,undef),(78,undef),(79,undef),(80,undef),(81,undef),(82,undef)]) [] W:=fun v W h=>T_one 15 (by kernel_rfl) fun _=>O_val (w':=W.alloc (.cells #[.int .i64 z0,.int .i64 z1,.int .i64 z2,.int .i64 z3] 138)) (some 52) (.slice (some ⟨W.heap.size,0,none⟩) 1 1) (by kernel_rfl) (by kernel_rfl) ((cells4 ((on4 (h) ((Below.refl _ W).alloc (Nat.le_refl _) (.cells #[.int .i64 z0,.int .i64 z1,.int .i64 z2,.int .i64 z3] 138)))).2)) ((T_fr 19 83 [16,17,18] [(0,.string s),(1,undef),(2,.pointer (some ⟨w.heap.size,0,none⟩)),(3,.bool false),(4,.pointer (some ⟨w.heap.size+1,0,none⟩)),(5,.int .i64 (i:Nat)),(6,.slice (some ⟨gx,0,none⟩) 4 cx),(7,.int .i64 (j:Nat)),(8,undef),(9,undef),(10,.agg #[.slice none 0 0,.int .i64 0,.int .i64 0]),(37,.pointer (some ⟨w.heap.size+1,0,none⟩)),(38,v0),(51,.agg #[.int .i64 z0,.int .i64 z1,.int .i64 z2,.int .i64 z3]),(52,.slice (some ⟨W.heap.size,0,none⟩) 1 1),(56,undef),(57,undef),(58,undef),(59,undef),(60,undef),(61,undef),(62,undef),(63,undef),(64,undef),(65,undef),(66,undef),(67,undef),(68,undef),(69,undef),(70,undef),(71,undef),(72,undef),(73,undef),(74,undef),(75,undef),(76,undef),(77,undef),(78,undef),(79,undef),(80,undef),(81,undef),(82,undef)] (by kernel_rfl) fun v=>Q1 v W h))
 have P1:∀ v W,(Pr w W v0 ps∧W.ownsRow (w.heap.size+2) 3 1 (.slice (some ⟨gx,0,none⟩) 4 cx) 4 [.int .i64 z0,.int .i64 z1,.int .i64 z2,.int .i64 z3])→wpS Try.prog pr5Ops Q (fun W=>W.cell? ⟨gx,0,none⟩=some (.int .i64 z0)∧W.cell? ⟨gx,1,none⟩=some (.int .i64 z1)∧W.cell? ⟨gx,2,none⟩=some (.int .i64 z2)∧W.cell? ⟨gx,3,none⟩=some (.int .i64 z3)) (unl 19 [1,16,17,18],frL v 83 [(0,.string s),(1,undef),(2,.pointer (some ⟨w.heap.size,0,none⟩)),(3,.bool false),(4,.pointer (some ⟨w.heap.size+1,0,none⟩)),(5,.int .i64 (i:Nat)),(6,.slice (some ⟨gx,0,none⟩) 4 cx),(7,.int .i64 (j:Nat)),(8,undef),(9,undef),(10,.agg #[.slice none 0 0,.int .i64 0,.int .i64 0]),(37,.pointer (some ⟨w.heap.size+1,0,none⟩)),(51,.agg #[.int .i64 z0,.int .i64 z1,.int .i64 z2,.int .i64 z3]),(52,.slice (some ⟨W.heap.size,0,none⟩) 1 1),(56,undef),(57,undef),(58,undef),(59,undef),(60,undef),(61,undef),(62,undef),(63,undef),(64,undef),(65,undef),(66,undef),(67,undef),(68,undef),(69,undef),(70,undef),(71,undef),(72,undef),(73,undef),(74,undef),(75,undef),(76,undef),(77,undef),(78,undef),(79,undef),(80,undef),(81,undef),(82,undef)]) [] (W.alloc (.cells #[.int .i64 z0,.int .i64 z1,.int .i64 z2,.int .i64 z3] 138)):=fun v W h=>T_one 1 (by kernel_rfl) fun hS=>O_val (some 38) (v0) (by kernel_rfl) (ldOpR (X:=.tmp 37) (by kernel_rfl) (by kernel_rfl) (ldPts (W.alloc (.cells #[.int .i64 z0,.int .i64 z1,.int .i64 z2,.int .i64 z3] 138)) ⟨w.heap.size+1,0,none⟩ _ (((on4 (h) ((Below.refl _ W).alloc (Nat.le_refl _) (.cells #[.int .i64 z0,.int .i64 z1,.int .i64 z2,.int .i64 z3] 138)))).1.b4.cell (i:=0) (by omega)))) hS (T_fr 19 83 [16,17,18] [(0,.string s),(1,undef),(2,.pointer (some ⟨w.heap.size,0,none⟩)),(3,.bool false),(4,.pointer (some ⟨w.heap.size+1,0,none⟩)),(5,.int .i64 (i:Nat)),(6,.slice (some ⟨gx,0,none⟩) 4 cx),(7,.int .i64 (j:Nat)),(8,undef),(9,undef),(10,.agg #[.slice none 0 0,.int .i64 0,.int .i64 0]),(37,.pointer (some ⟨w.heap.size+1,0,none⟩)),(38,v0),(51,.agg #[.int .i64 z0,.int .i64 z1,.int .i64 z2,.int .i64 z3]),(52,.slice (some ⟨W.heap.size,0,none⟩) 1 1),(56,undef),(57,undef),(58,undef),(59,undef),(60,undef),(61,undef),(62,undef),(63,undef),(64,undef),(65,undef),(66,undef),(67,undef),(68,undef),(69,undef),(70,undef),(71,undef),(72,undef),(73,undef),(74,undef),(75,undef),(76,undef),(77,undef),(78,undef),(79,undef),(80,undef),(81,undef),(82,undef)] (by kernel_rfl) fun v=>Q1 v W h)
 have P0:∀ v W,(Pr w W v0 ps∧W.ownsRow (w.heap.size+2) 3 1 (.slice (some ⟨gx,0,none⟩) 4 cx) 4 [.int .i64 z0,.int .i64 z1,.int .i64 z2,.int .i64 z3])→wpS Try.prog pr5Ops Q (fun W=>W.cell? ⟨gx,0,none⟩=some (.int .i64 z0)∧W.cell? ⟨gx,1,none⟩=some (.int .i64 z1)∧W.cell? ⟨gx,2,none⟩=some (.int .i64 z2)∧W.cell? ⟨gx,3,none⟩=some (.int .i64 z3)) (unl 19 [1,15,16,17,18],frL v 83 [(0,.string s),(1,undef),(2,.pointer (some ⟨w.heap.size,0,none⟩)),(3,.bool false),(4,.pointer (some ⟨w.heap.size+1,0,none⟩)),(5,.int .i64 (i:Nat)),(6,.slice (some ⟨gx,0,none⟩) 4 cx),(7,.int .i64 (j:Nat)),(8,undef),(9,undef),(10,.agg #[.slice none 0 0,.int .i64 0,.int .i64 0]),(37,.pointer (some ⟨w.heap.size+1,0,none⟩)),(51,.agg #[.int .i64 z0,.int .i64 z1,.int .i64 z2,.int .i64 z3]),(56,undef),(57,undef),(58,undef),(59,undef),(60,undef),(61,undef),(62,undef),(63,undef),(64,undef),(65,undef),(66,undef),(67,undef),(68,undef),(69,undef),(70,undef),(71,undef),(72,undef),(73,undef),(74,undef),(75,undef),(76,undef),(77,undef),(78,undef),(79,undef),(80,undef),(81,undef),(82,undef)]) [] W:=fun v W h=>T_two 1 15 (by kernel_rfl)
  (fun hS=>O_val (some 38) (v0) (by kernel_rfl) (ldOpR (X:=.tmp 37) (by kernel_rfl) (by kernel_rfl) (ldPts W ⟨w.heap.size+1,0,none⟩ _ ((h).1.b4.cell (i:=0) (by omega)))) hS (T_fr 19 83 [15,16,17,18] [(0,.string s),(1,undef),(2,.pointer (some ⟨w.heap.size,0,none⟩)),(3,.bool false),(4,.pointer (some ⟨w.heap.size+1,0,none⟩)),(5,.int .i64 (i:Nat)),(6,.slice (some ⟨gx,0,none⟩) 4 cx),(7,.int .i64 (j:Nat)),(8,undef),(9,undef),(10,.agg #[.slice none 0 0,.int .i64 0,.int .i64 0]),(37,.pointer (some ⟨w.heap.size+1,0,none⟩)),(38,v0),(51,.agg #[.int .i64 z0,.int .i64 z1,.int .i64 z2,.int .i64 z3]),(56,undef),(57,undef),(58,undef),(59,undef),(60,undef),(61,undef),(62,undef),(63,undef),(64,undef),(65,undef),(66,undef),(67,undef),(68,undef),(69,undef),(70,undef),(71,undef),(72,undef),(73,undef),(74,undef),(75,undef),(76,undef),(77,undef),(78,undef),(79,undef),(80,undef),(81,undef),(82,undef)] (by kernel_rfl) fun v=>Q0 v W h))
  (fun _=>O_val (w':=W.alloc (.cells #[.int .i64 z0,.int .i64 z1,.int .i64 z2,.int .i64 z3] 138)) (some 52) (.slice (some ⟨W.heap.size,0,none⟩) 1 1) (by kernel_rfl) (by kernel_rfl) ((cells4 ((on4 (h) ((Below.refl _ W).alloc (Nat.le_refl _) (.cells #[.int .i64 z0,.int .i64 z1,.int .i64 z2,.int .i64 z3] 138)))).2)) ((T_fr 19 83 [1,16,17,18] [(0,.string s),(1,undef),(2,.pointer (some ⟨w.heap.size,0,none⟩)),(3,.bool false),(4,.pointer (some ⟨w.heap.size+1,0,none⟩)),(5,.int .i64 (i:Nat)),(6,.slice (some ⟨gx,0,none⟩) 4 cx),(7,.int .i64 (j:Nat)),(8,undef),(9,undef),(10,.agg #[.slice none 0 0,.int .i64 0,.int .i64 0]),(37,.pointer (some ⟨w.heap.size+1,0,none⟩)),(51,.agg #[.int .i64 z0,.int .i64 z1,.int .i64 z2,.int .i64 z3]),(52,.slice (some ⟨W.heap.size,0,none⟩) 1 1),(56,undef),(57,undef),(58,undef),(59,undef),(60,undef),(61,undef),(62,undef),(63,undef),(64,undef),(65,undef),(66,undef),(67,undef),(68,undef),(69,undef),(70,undef),(71,undef),(72,undef),(73,undef),(74,undef),(75,undef),(76,undef),(77,undef),(78,undef),(79,undef),(80,undef),(81,undef),(82,undef)] (by kernel_rfl) fun v=>P1 v W h)))
 refine T_start (S:=fun W=>W.cell? ⟨gx,0,none⟩=some (.int .i64 z0)∧W.cell? ⟨gx,1,none⟩=some (.int .i64 z1)∧W.cell? ⟨gx,2,none⟩=some (.int .i64 z2)∧W.cell? ⟨gx,3,none⟩=some (.int .i64 z3)) (by kernel_rfl) (cells4 h.2) (T_z hq [0,2,5,8,11] (by kernel_rfl) (T_yld hq 3 (some 40) (.pointer (some ⟨gx,0,none⟩)) (by kernel_rfl) (by kernel_rfl) (fun w _=>ixRunI (n:=4) (cap:=cx) (i:=0) (X:=.tmp 39) (I:=.const (.int .i64 0)) (by kernel_rfl) (by kernel_rfl) (by kernel_rfl) (by omega) w) (T_a hq [4] (fun w h=>.cons (ldIntR _ _ _ h.1) Lds.nil) (by kernel_rfl) (T_yld hq 6 (some 43) (.pointer (some ⟨gx,1,none⟩)) (by kernel_rfl) (by kernel_rfl) (fun w _=>ixRunI (n:=4) (cap:=cx) (i:=1) (X:=.tmp 42) (I:=.const (.int .i64 1)) (by kernel_rfl) (by kernel_rfl) (by kernel_rfl) (by omega) w) (T_a hq [7] (fun w h=>.cons (ldIntR _ _ _ h.2.1) Lds.nil) (by kernel_rfl) (T_yld hq 9 (some 46) (.pointer (some ⟨gx,2,none⟩)) (by kernel_rfl) (by kernel_rfl) (fun w _=>ixRunI (n:=4) (cap:=cx) (i:=2) (X:=.tmp 45) (I:=.const (.int .i64 2)) (by kernel_rfl) (by kernel_rfl) (by kernel_rfl) (by omega) w) (T_a hq [10] (fun w h=>.cons (ldIntR _ _ _ h.2.2.1) Lds.nil) (by kernel_rfl) (T_yld hq 12 (some 49) (.pointer (some ⟨gx,3,none⟩)) (by kernel_rfl) (by kernel_rfl) (fun w _=>ixRunI (n:=4) (cap:=cx) (i:=3) (X:=.tmp 48) (I:=.const (.int .i64 3)) (by kernel_rfl) (by kernel_rfl) (by kernel_rfl) (by omega) w) (T_a hq [13] (fun w h=>.cons (ldIntR _ _ _ h.2.2.2) Lds.nil) (by kernel_rfl) (T_z hq [14] (by kernel_rfl) ?_))))))))))
 exact T_fr 19 83 [1,15,16,17,18] [(0,.string s),(1,undef),(2,.pointer (some ⟨w.heap.size,0,none⟩)),(3,.bool false),(4,.pointer (some ⟨w.heap.size+1,0,none⟩)),(5,.int .i64 (i:Nat)),(6,.slice (some ⟨gx,0,none⟩) 4 cx),(7,.int .i64 (j:Nat)),(8,undef),(9,undef),(10,.agg #[.slice none 0 0,.int .i64 0,.int .i64 0]),(37,.pointer (some ⟨w.heap.size+1,0,none⟩)),(51,.agg #[.int .i64 z0,.int .i64 z1,.int .i64 z2,.int .i64 z3]),(56,undef),(57,undef),(58,undef),(59,undef),(60,undef),(61,undef),(62,undef),(63,undef),(64,undef),(65,undef),(66,undef),(67,undef),(68,undef),(69,undef),(70,undef),(71,undef),(72,undef),(73,undef),(74,undef),(75,undef),(76,undef),(77,undef),(78,undef),(79,undef),(80,undef),(81,undef),(82,undef)] (by kernel_rfl) fun v=>P0 v _ h

structure Rc where
 (pos:Int) (data:ByteArray)
instance:Inhabited Rc:=⟨⟨0,ByteArray.empty⟩⟩
def Rc.cs (r:Rc):List Value:=[.int .i64 r.pos,.string r.data]
def Rc.okM (r:Rc):Prop:=r.data.size≤9223372036854775807
def RcsAt (P:Nat→Prop) (w:World) (v:Value) (rs:List Rc):Prop:=FlatAt P w v 2 (rs.map Rc.cs)∧∀ r,r∈rs→r.okM
def RcsOwn (w:World) (v:Value) (rs:List Rc) (F:List Nat):Prop:=FlatOwn w v 2 (rs.map Rc.cs) F∧∀ r,r∈rs→r.okM
theorem RcsAt.carry {P Q:Nat→Prop} {w w':World} {v:Value} {rs:List Rc} (h:RcsAt P w v rs) (hP:∀ b,P b→w'.heap[b]? = w.heap[b]?) (hQ:∀ b,P b→Q b):RcsAt Q w' v rs:=⟨h.1.carry hP hQ,h.2⟩
theorem RcsOwn.at {w:World} {v:Value} {rs:List Rc} {F:List Nat} (h:RcsOwn w v rs F):RcsAt (·∈F) w v rs:=⟨h.1.at,h.2⟩
theorem RcsAt.open {P:Nat→Prop} {w:World} {v:Value} {rs:List Rc} (h:RcsAt P w v rs):∃ a cap,v=.slice a rs.length cap∧rs.length≤9223372036854775807 ∧
 ∀ i,(hi:i < rs.length)→∃ b o,a=some ⟨b,o,none⟩∧P b∧w.cell? ⟨b,o+i * 2,none⟩=some (.int .i64 rs[i].pos)∧w.cell? ⟨b,o+i * 2+1,none⟩=some (.string rs[i].data)∧rs[i].okM:=by
 obtain ⟨⟨a,cap,h1,h2,h3⟩,h4⟩:=h
 rw [List.length_map] at h1 h2
 refine ⟨a,cap,h1,h2,fun i hi=>?_⟩
 obtain ⟨b,o,e,hb,hc⟩:=h3 i (by rw [List.length_map];exact hi)
 have c0:=hc 0 (by omega);have c1:=hc 1 (by omega)
 simp only [List.getElem_map,Rc.cs,Nat.add_zero,List.getD_cons_zero,List.getD_cons_succ] at c0 c1
 exact ⟨b,o,e,hb,c0,c1,h4 _ (List.getElem_mem hi)⟩
def byB (s:ByteArray) (i:Nat):Int:=((s.data.toList.getD i 0).toNat:Int)
theorem byB_lt (s:ByteArray) (i:Nat):0≤byB s i∧byB s i < 256:=by
 unfold byB;have:=(s.data.toList.getD i 0).toNat_lt;omega
def szB (s:ByteArray) (i:Nat):Int:=byB s i * 256+byB s (i+1)
def psB (s:ByteArray) (i:Nat):Int:=byB s (i+2) * 65536+byB s (i+3) * 256+byB s (i+4)
def whB (s:ByteArray) (i:Nat):Prop:=i+5≤s.size∧szB s i≤2000∧(1≤psB s i∧psB s i≤999999)∧(i:Int)+5+szB s i≤s.size
instance (s:ByteArray) (i:Nat):Decidable (whB s i):=by unfold whB;infer_instance
def rcB (s:ByteArray) (i:Nat):Rc:=⟨psB s i,s.extract (i+5) (i+5+(szB s i).toNat)⟩
theorem szB_nn (s:ByteArray) (i:Nat):0≤szB s i:=by
 have h1:=byB_lt s i;have h2:=byB_lt s (i+1);unfold szB;omega
def frs (s:ByteArray) (i:Nat):List Rc × Nat :=
 if h:whB s i then (rcB s i::(frs s (i+5+(szB s i).toNat)).1,(frs s (i+5+(szB s i).toNat)).2) else ([],i)
termination_by s.size - i
decreasing_by all_goals (have:=h.1;omega)
theorem frs_yes {s:ByteArray} {i:Nat} (h:whB s i):frs s i=(rcB s i::(frs s (i+5+(szB s i).toNat)).1,(frs s (i+5+(szB s i).toNat)).2):=by
 rw [frs];simp only [h,dif_pos]
theorem frs_no {s:ByteArray} {i:Nat} (h:¬ whB s i):frs s i=([],i):=by
 rw [frs];simp only [h,dif_neg,not_false_eq_true]
def FrI (s:ByteArray) (L:List Rc) (i:Nat):Prop:=frs s 0=(L++(frs s i).1,(frs s i).2)∧i≤s.size∧L.length * 5≤i
theorem FrI.start (s:ByteArray):FrI s [] 0:=⟨by simp,Nat.zero_le _,by simp⟩
theorem FrI.next {s:ByteArray} {L:List Rc} {i:Nat} (h:FrI s L i) (hw:whB s i):FrI s (L++[rcB s i]) (i+5+(szB s i).toNat):=by
 obtain ⟨h1,h2,h3⟩:=h
 rw [frs_yes hw] at h1
 have:=szB_nn s i
 exact ⟨by rw [h1];simp,by have:=hw.2.2.2;omega,by simp;omega⟩
theorem FrI.done {s:ByteArray} {L:List Rc} {i:Nat} (h:FrI s L i) (hw:¬ whB s i):frs s 0=(L,i):=by
 rw [h.1,frs_no hw];simp

theorem ba_inj {a b:ByteArray} (h:a.data.toList=b.data.toList):a=b:=by
 apply ByteArray.ext
 exact Array.toList_inj.1 h
theorem ext_list (s:ByteArray) (a b:Nat):(s.extract a b).data.toList=(s.data.toList.drop a).take (b - a):=by
 rw [ByteArray.data_extract,Array.toList_extract]
end Go.Proofs.Yteikmbkljkkjiaa
