/- A part. -/
import Derived.Test.YteikmbkljkkjiaaPart07
namespace Go.Proofs.Yteikmbkljkkjiaa
open Go Go.RowKit
set_option maxRecDepth 100000
set_option maxHeartbeats 3200000
structure Pr (w W:World) (v:Value) (ps:List Pt):Prop where
 bel:Below w.heap.size w W
 b2:W.rowIs w.heap.size 115 3 (row3 (.slice none 0 0) (.int .i64 0) (.int .i64 0))
 b4:W.rowIs (w.heap.size+1) 115 3 (row3 v (.int .i64 0) (.int .i64 0))
 own:W.ownsRow (w.heap.size+2) 138 4 v ps.length (ps.map Pt.cs).flatten
theorem ownsR_keep {w w':World} {base:Nat} {e:TypeId} {size:Nat} {v:Value} {n:Nat} {xs:List Value} (h:w.ownsRow base e size v n xs) (hk:∀ g,v.ownBlock=some g→w'.heap[g]? = w.heap[g]?):w'.ownsRow base e size v n xs:=by
 refine ⟨h.1,?_⟩
 rcases h.2 with h0 | ⟨g,cap,cur,hv,hb,hh,hr⟩
 · exact Or.inl h0
 · exact Or.inr ⟨g,cap,cur,hv,hb,by rw [hk g (by rw [hv];rfl)];exact hh,hr⟩
theorem Pr.on {w W W':World} {v:Value} {ps:List Pt} (h:Pr w W v ps) (hb:Below W.heap.size W W'):Pr w W' v ps :=
 ⟨h.bel.trans (hb.mono h.bel.size),h.b2.of_block (hb.block _ h.b2.lt),h.b4.of_block (hb.block _ h.b4.lt),ownsR_keep h.own (fun g e=>hb.block g (h.own.lt g e).2)⟩
theorem ldPts (w:World) (ad:Addr) (v:Value) (h:w.cell? ad=some v):(Instr.loadAt 113 (.pointer (some ad))).run Try.prog w=.ok v w:=by
 simp [Instr.loadAt,Instr.sureAddr,loadVar,Try.isAgg113,h,go_sem]
theorem ldIntR (w:World) (ad:Addr) (v:Value) (h:w.cell? ad=some v):(Instr.loadAt 3 (.pointer (some ad))).run Try.prog w=.ok v w:=by
 simp [Instr.loadAt,Instr.sureAddr,loadVar,Try.isAgg3,h,go_sem]
theorem stPts (w:World) (ad:Addr) (a:Option Addr) (n c:Nat) (u:Value) (h:w.cell? ad=some u) (hf:w.frozen? ad=false):(Instr.storeAt 113 (.pointer (some ad)) (.slice a n c)).run Try.prog w=.ok () (w.setCell ad (.slice a n c)):=by
 simp [Instr.storeAt,Instr.sureAddr,storeVar,h,hf,go_sem]
theorem ldOpR {o:Oper} {a:Act} {X:Operand} {T:TypeId} {ad:Addr} {v:Value} {W:World} (ho:o.op=.load T X) (hx:a.eval X=.pointer (some ad)) (h:(Instr.loadAt T (.pointer (some ad))).run Try.prog W=.ok v W):(execOp a.eval o).run Try.prog W=.ok (.value v) W:=by
 unfold execOp
 simp only [ho,hx,Sem.run_bind,Sem.run_pure,Result.andThen_ok,h]
theorem ixRunI {o:Oper} {a:Act} {X I:Operand} {g n cap i:Nat} (ho:o.op=.indexAddr 39 X I) (hx:a.eval X=.slice (some ⟨g,0,none⟩) n cap) (hi:a.eval I=.int .i64 (i:Nat)) (h:i < n) (w:World):(execOp a.eval o).run Try.prog w=.ok (.value (.pointer (some ⟨g,i,none⟩))) w:=by
 have h1:(0:Int)≤(i:Int)∧(i:Int) < (n:Int):=⟨by omega,by omega⟩
 have h2:(Instr.indexAt 39 (.slice (some ⟨g,0,none⟩) n cap) (.int .i64 (i:Nat))).run Try.prog w=.ok (.pointer (some ⟨g,i,none⟩)) w:=by
  have e:(⟨g,i,none⟩:Addr)=(⟨g,0,none⟩:Addr).add i:=by simp [Addr.add]
  rw [e]
  simp [go_sem,h1]
 unfold execOp
 simp only [ho,hx,hi,Sem.run_bind,Sem.run_pure,Result.andThen_ok,h2]
theorem infoPartR:(Try.prog.info? 138).map (fun i=>(i.zero,i.size,i.bytes))=some (some (.agg #[.int .i64 0,.int .i64 0,.int .i64 0,.int .i64 0]),4,32):=by kernel_rfl
theorem infoPartRD:∃ i,Try.prog.info? 138=some i∧i.zero=some (.agg #[.int .i64 0,.int .i64 0,.int .i64 0,.int .i64 0])∧i.size=4∧i.bytes=32:=by
 have:=infoPartR
 cases h:Try.prog.info? 138 with
 | none=>rw [h] at this;cases this
 | some i=>rw [h] at this;simp only [Option.map_some,Option.some.injEq,Prod.mk.injEq] at this;exact ⟨i,rfl,this⟩
theorem cell_4R (w:World) (x y z u:Value) (t:TypeId):∀ j v,[x,y,z,u][j]? = some v→(w.alloc (.cells #[x,y,z,u] t)).cell? ((⟨w.heap.size,0,none⟩:Addr).add j)=some v:=by
 intro j v hj
 match j,hj with
 | 0,hj=>simp only [List.getElem?_cons_zero,Option.some.injEq] at hj;subst hj;simp [go_sem]
 | 1,hj=>simp only [List.getElem?_cons_succ,List.getElem?_cons_zero,Option.some.injEq] at hj;subst hj;simp [go_sem]
 | 2,hj=>simp only [List.getElem?_cons_succ,List.getElem?_cons_zero,Option.some.injEq] at hj;subst hj;simp [go_sem]
 | 3,hj=>simp only [List.getElem?_cons_succ,List.getElem?_cons_zero,Option.some.injEq] at hj;subst hj;simp [go_sem]
 | _+4,hj=>simp at hj
theorem own_ne_row {W:World} {base e s n b t m:Nat} {v:Value} {xs:List Value} {f:Nat→Value} (h:W.ownsRow base e s v n xs) (hr:W.rowIs b t m f) (hne:e≠t):v.ownBlock≠some b:=fun hv=>by
 rcases h.2 with ⟨hv',_⟩ | ⟨g,c,cur,hv',_,hh,_⟩
 · rw [hv'] at hv;cases hv
 · rw [hv'] at hv
   simp only [Value.ownBlock,Option.some.injEq] at hv
   subst hv
   obtain ⟨c2,h2,-,-⟩:=hr
   rw [hh] at h2
   simp only [Option.some.injEq,Obj.cells.injEq] at h2
   exact hne h2.2.1
theorem row3_set0 {W:World} {g t:Nat} {x0 x1 x2:Value} (h:W.rowIs g t 3 (row3 x0 x1 x2)) (u:Value):(W.setCell ⟨g,0,none⟩ u).rowIs g t 3 (row3 u x1 x2) :=
 (h.set 0 u).congr (fun i hi=>by rcases (show i=0∨i=1∨i=2 by omega) with rfl | rfl | rfl <;> rfl)
theorem Pr.add {w W W':World} {v v':Value} {ps:List Pt} {ob:Obj} (h:Pr w W v ps) (p:Pt) (ho:W'.ownsRow (w.heap.size+2) 138 4 v' (ps.length+1) ((ps.map Pt.cs).flatten++p.cs)) (hg:(W.alloc ob).grownBy W' v.ownBlock):W'.rowIs (w.heap.size+1) 115 3 (row3 v (.int .i64 0) (.int .i64 0))∧Pr w (W'.setCell ⟨w.heap.size+1,0,none⟩ v') v' (ps++[p]):=by
 have hs:∀ b,b < W.heap.size→v.ownBlock≠some b→W'.heap[b]? = W.heap[b]? := fun b hb hne=>by
  rw [hg.block b (by rw [World.size_alloc];omega) (fun e=>hne e.symm),Below.heap_alloc _ _ _ hb]
 have h4:=h.b4.of_block (hs _ h.b4.lt (own_ne_row h.own h.b4 (by decide)))
 have h2:=h.b2.of_block (hs _ h.b2.lt (own_ne_row h.own h.b2 (by decide)))
 have hbs:=h.bel.size
 refine ⟨h4,⟨?_,h2.of_block (Below.heap_setCell _ _ _ _ (by simp)),row3_set0 h4 v',?_⟩⟩
 · refine ⟨hg.os.trans h.bel.os,hg.tape.trans h.bel.tape,hg.output.trans h.bel.output,by have:=hg.size;rw [World.size_alloc] at this;rw [World.size_setCell];omega,fun b hb=>?_⟩
   rw [Below.heap_setCell _ _ _ _ (by simp;omega),hs b (by omega) (fun e=>by have:=(h.own.lt b e).1;omega)]
   exact h.bel.block b hb
 · refine ownsR_keep (w:=W') ?_ (fun g e=>Below.heap_setCell _ _ _ _ (by have:=(ho.lt g e).1;simp;omega))
   rw [List.length_append,List.map_append,List.flatten_append]
   simpa using ho
noncomputable def pr5Ops:Array Oper:=fops Try.f94 5
theorem pr5_neat:Region.noSelect pr5Ops=true∧neat pr5Ops=true:=⟨by kernel_rfl,by kernel_rfl⟩
theorem cells4 {W:World} {base gx cx:Nat} {z0 z1 z2 z3:Int} (h:W.ownsRow base 3 1 (.slice (some ⟨gx,0,none⟩) 4 cx) 4 [.int .i64 z0,.int .i64 z1,.int .i64 z2,.int .i64 z3]):W.cell? ⟨gx,0,none⟩=some (.int .i64 z0)∧W.cell? ⟨gx,1,none⟩=some (.int .i64 z1)∧W.cell? ⟨gx,2,none⟩=some (.int .i64 z2)∧W.cell? ⟨gx,3,none⟩=some (.int .i64 z3) :=
 ⟨h.cellAt 0 (by omega),h.cellAt 1 (by omega),h.cellAt 2 (by omega),h.cellAt 3 (by omega)⟩
theorem ints_parts {W:World} {b1 b2 gx cx n:Nat} {xs ys:List Value} {v:Value} (h:W.ownsRow b1 3 1 (.slice (some ⟨gx,0,none⟩) 4 cx) 4 xs) (k:W.ownsRow b2 138 4 v n ys) (e:v.ownBlock=some gx):False:=by
 rcases h.2 with ⟨hv,_⟩ | ⟨ga,c1,u1,hv1,_,hh1,_⟩
 · cases hv
 rcases k.2 with ⟨hv,_⟩ | ⟨gb,c2,u2,hv2,_,hh2,_⟩
 · rw [hv] at e;cases e
 rw [hv2] at e
 simp only [Value.ownBlock,Option.some.injEq] at e
 subst e
 simp only [Value.slice.injEq,Option.some.injEq,Addr.mk.injEq,and_true,true_and] at hv1
 obtain ⟨rfl,-⟩:=hv1
 rw [hh1] at hh2
 simp only [Option.some.injEq,Obj.cells.injEq] at hh2
 exact absurd hh2.2.1 (by decide)
theorem on4 {w W W':World} {v0:Value} {ps:List Pt} {base gx cx:Nat} {xs:List Value} (h:Pr w W v0 ps∧W.ownsRow base 3 1 (.slice (some ⟨gx,0,none⟩) 4 cx) 4 xs) (hb:Below W.heap.size W W'):Pr w W' v0 ps∧W'.ownsRow base 3 1 (.slice (some ⟨gx,0,none⟩) 4 cx) 4 xs :=
 ⟨h.1.on hb,ownsR_keep h.2 (fun g e=>hb.block g (h.2.lt g e).2)⟩
theorem pr5 (s:ByteArray) (w:World) (v0:Value) (ps:List Pt) (gx cx i j:Nat) (z0 z1 z2 z3:Int) (hn:ps.length≤1000) (W0:World) {l:List Value} (Q:Exit→Act→World→Prop) (hQ:∀ c a d v w,Q (.panic c) (Act.put a d v) w→Q (.panic c) a w) (h:(Pr w W0.drew v0 ps∧W0.drew.ownsRow (w.heap.size+2) 3 1 (.slice (some ⟨gx,0,none⟩) 4 cx) 4 [.int .i64 z0,.int .i64 z1,.int .i64 z2,.int .i64 z3])) (hl:lookL [(0,.string s),(1,undef),(2,.pointer (some ⟨w.heap.size,0,none⟩)),(3,.bool false),(4,.pointer (some ⟨w.heap.size+1,0,none⟩)),(5,.int .i64 (i:Nat)),(6,.slice (some ⟨gx,0,none⟩) 4 cx),(7,.int .i64 (j:Nat)),(8,undef),(9,undef),(10,.agg #[.slice none 0 0,.int .i64 0,.int .i64 0]),(56,undef),(57,undef),(58,undef),(59,undef),(60,undef),(61,undef),(62,undef),(63,undef),(64,undef),(65,undef),(66,undef),(67,undef),(68,undef),(69,undef),(70,undef),(71,undef),(72,undef),(73,undef),(74,undef),(75,undef),(76,undef),(77,undef),(78,undef),(79,undef),(80,undef),(81,undef),(82,undef)] l=(83,[.string s,undef,.pointer (some ⟨w.heap.size,0,none⟩),.bool false,.pointer (some ⟨w.heap.size+1,0,none⟩),.int .i64 (i:Nat),.slice (some ⟨gx,0,none⟩) 4 cx,.int .i64 (j:Nat),undef,undef,.agg #[.slice none 0 0,.int .i64 0,.int .i64 0],undef,undef,undef,undef,undef,undef,undef,undef,undef,undef,undef,undef,undef,undef,undef,undef,undef,undef,undef,undef,undef,undef,undef,undef,undef,undef,undef]))
 (hend:∀ v v' W',Pr w W' v' (ps++[⟨z0,z1,z2,z3⟩])→Q .normal ⟨(frL v 83 [(0,.string s),(1,undef),(2,.pointer (some ⟨w.heap.size,0,none⟩)),(3,.bool false),(4,.pointer (some ⟨w.heap.size+1,0,none⟩)),(5,.int .i64 (i:Nat)),(6,.slice (some ⟨gx,0,none⟩) 4 cx),(7,.int .i64 (j:Nat)),(8,undef),(9,undef),(10,.agg #[.slice none 0 0,.int .i64 0,.int .i64 0]),(56,undef),(57,undef),(58,undef),(59,undef),(60,undef),(61,undef),(62,undef),(63,undef),(64,undef),(65,undef),(66,undef),(67,undef),(68,undef),(69,undef),(70,undef),(71,undef),(72,undef),(73,undef),(74,undef),(75,undef),(76,undef),(77,undef),(78,undef),(79,undef),(80,undef),(81,undef),(82,undef)]).toArray,[]⟩ W'):(Code.region 5 pr5Ops true).wp Try.prog Q ⟨l.toArray,[]⟩ W0:=by
 obtain ⟨v,rfl⟩:=look_fr hl
 have hq:NtQ pr5Ops Q:=⟨pr5_neat,hQ⟩
 clear hl hQ
 have Q1:∀ v W,(Pr w W v0 ps∧W.ownsRow (w.heap.size+2) 3 1 (.slice (some ⟨gx,0,none⟩) 4 cx) 4 [.int .i64 z0,.int .i64 z1,.int .i64 z2,.int .i64 z3])→wpS Try.prog pr5Ops Q (fun W=>W.cell? ⟨gx,0,none⟩=some (.int .i64 z0)∧W.cell? ⟨gx,1,none⟩=some (.int .i64 z1)∧W.cell? ⟨gx,2,none⟩=some (.int .i64 z2)∧W.cell? ⟨gx,3,none⟩=some (.int .i64 z3)) (unl 19 [16,17,18],frL v 83 [(0,.string s),(1,undef),(2,.pointer (some ⟨w.heap.size,0,none⟩)),(3,.bool false),(4,.pointer (some ⟨w.heap.size+1,0,none⟩)),(5,.int .i64 (i:Nat)),(6,.slice (some ⟨gx,0,none⟩) 4 cx),(7,.int .i64 (j:Nat)),(8,undef),(9,undef),(10,.agg #[.slice none 0 0,.int .i64 0,.int .i64 0]),(37,.pointer (some ⟨w.heap.size+1,0,none⟩)),(38,v0),(51,.agg #[.int .i64 z0,.int .i64 z1,.int .i64 z2,.int .i64 z3]),(52,.slice (some ⟨W.heap.size,0,none⟩) 1 1),(56,undef),(57,undef),(58,undef),(59,undef),(60,undef),(61,undef),(62,undef),(63,undef),(64,undef),(65,undef),(66,undef),(67,undef),(68,undef),(69,undef),(70,undef),(71,undef),(72,undef),(73,undef),(74,undef),(75,undef),(76,undef),(77,undef),(78,undef),(79,undef),(80,undef),(81,undef),(82,undef)]) [] (W.alloc (.cells #[.int .i64 z0,.int .i64 z1,.int .i64 z2,.int .i64 z3] 138)):=fun v W h=>by
  obtain ⟨i0,hi0,hi1,hi2,hi3⟩:=infoPartRD
  have hbs:=h.1.bel.size
  have hb4:=h.1.b4.lt
  refine T_one 16 (by kernel_rfl) fun _=>O_list (some 53) (by kernel_rfl) ?_
  refine append_row _ (by kernel_rfl) (.tmp 38) (.tmp 52) 113 (by kernel_rfl) (w.heap.size+2) 138 i0 (.agg #[.int .i64 0,.int .i64 0,.int .i64 0,.int .i64 0]) 4 32 Try.underlying113 hi0 hi1 hi2 hi3 rfl (by decide) v0 ps.length (ps.map Pt.cs).flatten (by kernel_rfl) (World.ownsRow.alloc h.1.own _) ⟨W.heap.size,0,none⟩ 1 1 [.int .i64 z0,.int .i64 z1,.int .i64 z2,.int .i64 z3] (by kernel_rfl) rfl (cell_4R W _ _ _ _ _) (fun u hu=>by simp at hu;rcases hu with rfl | rfl | rfl | rfl <;> rfl) (by decide) (by unfold maxLen;omega) (by omega) (by rw [World.size_alloc];omega) ?_
  intro v' W2 hown hgrow hat
  obtain ⟨g5,cap5,rfl,-,-⟩:=hown.form (by omega)
  obtain ⟨hb4',h2⟩:=h.1.add ⟨z0,z1,z2,z3⟩ hown hgrow
  have hgx:v0.ownBlock≠some gx:=fun e=>ints_parts h.2 h.1.own e
  have hx2:W2.ownsRow (w.heap.size+2) 3 1 (.slice (some ⟨gx,0,none⟩) 4 cx) 4 [.int .i64 z0,.int .i64 z1,.int .i64 z2,.int .i64 z3]:=ownsR_keep h.2 (fun g e=>by
   simp only [Value.ownBlock,Option.some.injEq] at e
   subst e
   rw [hgrow.block gx (by rw [World.size_alloc];have:=(h.2.lt gx rfl).2;omega) (fun e=>hgx e.symm),Below.heap_alloc _ _ _ (h.2.lt gx rfl).2])
  have hx3:(W2.setCell ⟨w.heap.size+1,0,none⟩ (.slice (some ⟨g5,0,none⟩) (ps.length+1) cap5)).ownsRow (w.heap.size+2) 3 1 (.slice (some ⟨gx,0,none⟩) 4 cx) 4 [.int .i64 z0,.int .i64 z1,.int .i64 z2,.int .i64 z3]:=ownsR_keep hx2 (fun g e=>Below.heap_setCell _ _ _ _ (by have:=(hx2.lt g e).1;simp;omega))
  refine ⟨cells4 hx2,_,put_putL ..,?_⟩
  refine T_z hq [17] (by kernel_rfl) ?_
  refine T_one 18 (by kernel_rfl) fun _=>O_store none 113 (.tmp 54) (.tmp 53) ⟨w.heap.size+1,0,none⟩ (.slice (some ⟨g5,0,none⟩) (ps.length+1) cap5) _ (by kernel_rfl) (by kernel_rfl) (by kernel_rfl) (stPts W2 _ _ _ _ _ (hb4'.cell (i:=0) (by omega)) (hb4'.frozen 0)) (cells4 hx3) ?_
  exact T_end 83 [(0,.string s),(1,undef),(2,.pointer (some ⟨w.heap.size,0,none⟩)),(3,.bool false),(4,.pointer (some ⟨w.heap.size+1,0,none⟩)),(5,.int .i64 (i:Nat)),(6,.slice (some ⟨gx,0,none⟩) 4 cx),(7,.int .i64 (j:Nat)),(8,undef),(9,undef),(10,.agg #[.slice none 0 0,.int .i64 0,.int .i64 0]),(56,undef),(57,undef),(58,undef),(59,undef),(60,undef),(61,undef),(62,undef),(63,undef),(64,undef),(65,undef),(66,undef),(67,undef),(68,undef),(69,undef),(70,undef),(71,undef),(72,undef),(73,undef),(74,undef),(75,undef),(76,undef),(77,undef),(78,undef),(79,undef),(80,undef),(81,undef),(82,undef)] (by kernel_rfl) (by kernel_rfl) fun _ v=>hend v _ _ h2
 have Q0:∀ v W,(Pr w W v0 ps∧W.ownsRow (w.heap.size+2) 3 1 (.slice (some ⟨gx,0,none⟩) 4 cx) 4 [.int .i64 z0,.int .i64 z1,.int .i64 z2,.int .i64 z3])→wpS Try.prog pr5Ops Q (fun W=>W.cell? ⟨gx,0,none⟩=some (.int .i64 z0)∧W.cell? ⟨gx,1,none⟩=some (.int .i64 z1)∧W.cell? ⟨gx,2,none⟩=some (.int .i64 z2)∧W.cell? ⟨gx,3,none⟩=some (.int .i64 z3)) (unl 19 [15,16,17,18],frL v 83 [(0,.string s),(1,undef),(2,.pointer (some ⟨w.heap.size,0,none⟩)),(3,.bool false),(4,.pointer (some ⟨w.heap.size+1,0,none⟩)),(5,.int .i64 (i:Nat)),(6,.slice (some ⟨gx,0,none⟩) 4 cx),(7,.int .i64 (j:Nat)),(8,undef),(9,undef),(10,.agg #[.slice none 0 0,.int .i64 0,.int .i64 0]),(37,.pointer (some ⟨w.heap.size+1,0,none⟩)),(38,v0),(51,.agg #[.int .i64 z0,.int .i64 z1,.int .i64 z2,.int .i64 z3]),(56,undef),(57,undef),(58,undef),(59,undef),(60,undef),(61,undef),(62,undef),(63,undef),(64,undef),(65,undef),(66,undef),(67,undef),(68,undef),(69,undef),(70,undef),(71,undef),(72,undef),(73,undef),(74,undef),(75,undef),(76,undef),(77,undef),(78,undef),(79,undef),(80,undef),(81,undef),(82,undef)]) [] W:=fun v W h=>T_one 15 (by kernel_rfl) fun _=>O_val (w':=W.alloc (.cells #[.int .i64 z0,.int .i64 z1,.int .i64 z2,.int .i64 z3] 138)) (some 52) (.slice (some ⟨W.heap.size,0,none⟩) 1 1) (by kernel_rfl) (by kernel_rfl) ((cells4 ((on4 (h) ((Below.refl _ W).alloc (Nat.le_refl _) (.cells #[.int .i64 z0,.int .i64 z1,.int .i64 z2,.int .i64 z3] 138)))).2)) ((T_fr 19 83 [16,17,18] [(0,.string s),(1,undef),(2,.pointer (some ⟨w.heap.size,0,none⟩)),(3,.bool false),(4,.pointer (some ⟨w.heap.size+1,0,none⟩)),(5,.int .i64 (i:Nat)),(6,.slice (some ⟨gx,0,none⟩) 4 cx),(7,.int .i64 (j:Nat)),(8,undef),(9,undef),(10,.agg #[.slice none 0 0,.int .i64 0,.int .i64 0]),(37,.pointer (some ⟨w.heap.size+1,0,none⟩)),(38,v0),(51,.agg #[.int .i64 z0,.int .i64 z1,.int .i64 z2,.int .i64 z3]),(52,.slice (some ⟨W.heap.size,0,none⟩) 1 1),(56,undef),(57,undef),(58,undef),(59,undef),(60,undef),(61,undef),(62,undef),(63,undef),(64,undef),(65,undef),(66,undef),(67,undef),(68,undef),(69,undef),(70,undef),(71,undef),(72,undef),(73,undef),(74,undef),(75,undef),(76,undef),(77,undef),(78,undef),(79,undef),(80,undef),(81,undef),(82,undef)] (by kernel_rfl) fun v=>Q1 v W h))
 have P1:∀ v W,(Pr w W v0 ps∧W.ownsRow (w.heap.size+2) 3 1 (.slice (some ⟨gx,0,none⟩) 4 cx) 4 [.int .i64 z0,.int .i64 z1,.int .i64 z2,.int .i64 z3])→wpS Try.prog pr5Ops Q (fun W=>W.cell? ⟨gx,0,none⟩=some (.int .i64 z0)∧W.cell? ⟨gx,1,none⟩=some (.int .i64 z1)∧W.cell? ⟨gx,2,none⟩=some (.int .i64 z2)∧W.cell? ⟨gx,3,none⟩=some (.int .i64 z3)) (unl 19 [1,16,17,18],frL v 83 [(0,.string s),(1,undef),(2,.pointer (some ⟨w.heap.size,0,none⟩)),(3,.bool false),(4,.pointer (some ⟨w.heap.size+1,0,none⟩)),(5,.int .i64 (i:Nat)),(6,.slice (some ⟨gx,0,none⟩) 4 cx),(7,.int .i64 (j:Nat)),(8,undef),(9,undef),(10,.agg #[.slice none 0 0,.int .i64 0,.int .i64 0]),(37,.pointer (some ⟨w.heap.size+1,0,none⟩)),(51,.agg #[.int .i64 z0,.int .i64 z1,.int .i64 z2,.int .i64 z3]),(52,.slice (some ⟨W.heap.size,0,none⟩) 1 1),(56,undef),(57,undef),(58,undef),(59,undef),(60,undef),(61,undef),(62,undef),(63,undef),(64,undef),(65,undef),(66,undef),(67,undef),(68,undef),(69,undef),(70,undef),(71,undef),(72,undef),(73,undef),(74,undef),(75,undef),(76,undef),(77,undef),(78,undef),(79,undef),(80,undef),(81,undef),(82,undef)]) [] (W.alloc (.cells #[.int .i64 z0,.int .i64 z1,.int .i64 z2,.int .i64 z3] 138)):=fun v W h=>T_one 1 (by kernel_rfl) fun hS=>O_val (some 38) (v0) (by kernel_rfl) (ldOpR (X:=.tmp 37) (by kernel_rfl) (by kernel_rfl) (ldPts (W.alloc (.cells #[.int .i64 z0,.int .i64 z1,.int .i64 z2,.int .i64 z3] 138)) ⟨w.heap.size+1,0,none⟩ _ (((on4 (h) ((Below.refl _ W).alloc (Nat.le_refl _) (.cells #[.int .i64 z0,.int .i64 z1,.int .i64 z2,.int .i64 z3] 138)))).1.b4.cell (i:=0) (by omega)))) hS (T_fr 19 83 [16,17,18] [(0,.string s),(1,undef),(2,.pointer (some ⟨w.heap.size,0,none⟩)),(3,.bool false),(4,.pointer (some ⟨w.heap.size+1,0,none⟩)),(5,.int .i64 (i:Nat)),(6,.slice (some ⟨gx,0,none⟩) 4 cx),(7,.int .i64 (j:Nat)),(8,undef),(9,undef),(10,.agg #[.slice none 0 0,.int .i64 0,.int .i64 0]),(37,.pointer (some ⟨w.heap.size+1,0,none⟩)),(38,v0),(51,.agg #[.int .i64 z0,.int .i64 z1,.int .i64 z2,.int .i64 z3]),(52,.slice (some ⟨W.heap.size,0,none⟩) 1 1),(56,undef),(57,undef),(58,undef),(59,undef),(60,undef),(61,undef),(62,undef),(63,undef),(64,undef),(65,undef),(66,undef),(67,undef),(68,undef),(69,undef),(70,undef),(71,undef),(72,undef),(73,undef),(74,undef),(75,undef),(76,undef),(77,undef),(78,undef),(79,undef),(80,undef),(81,undef),(82,undef)] (by kernel_rfl) fun v=>Q1 v W h)
 have P0:∀ v W,(Pr w W v0 ps∧W.ownsRow (w.heap.size+2) 3 1 (.slice (some ⟨gx,0,none⟩) 4 cx) 4 [.int .i64 z0,.int .i64 z1,.int .i64 z2,.int .i64 z3])→wpS Try.prog pr5Ops Q (fun W=>W.cell? ⟨gx,0,none⟩=some (.int .i64 z0)∧W.cell? ⟨gx,1,none⟩=some (.int .i64 z1)∧W.cell? ⟨gx,2,none⟩=some (.int .i64 z2)∧W.cell? ⟨gx,3,none⟩=some (.int .i64 z3)) (unl 19 [1,15,16,17,18],frL v 83 [(0,.string s),(1,undef),(2,.pointer (some ⟨w.heap.size,0,none⟩)),(3,.bool false),(4,.pointer (some ⟨w.heap.size+1,0,none⟩)),(5,.int .i64 (i:Nat)),(6,.slice (some ⟨gx,0,none⟩) 4 cx),(7,.int .i64 (j:Nat)),(8,undef),(9,undef),(10,.agg #[.slice none 0 0,.int .i64 0,.int .i64 0]),(37,.pointer (some ⟨w.heap.size+1,0,none⟩)),(51,.agg #[.int .i64 z0,.int .i64 z1,.int .i64 z2,.int .i64 z3]),(56,undef),(57,undef),(58,undef),(59,undef),(60,undef),(61,undef),(62,undef),(63,undef),(64,undef),(65,undef),(66,undef),(67,undef),(68,undef),(69,undef),(70,undef),(71,undef),(72,undef),(73,undef),(74,undef),(75,undef),(76,undef),(77,undef),(78,undef),(79,undef),(80,undef),(81,undef),(82,undef)]) [] W:=fun v W h=>T_two 1 15 (by kernel_rfl)
  (fun hS=>O_val (some 38) (v0) (by kernel_rfl) (ldOpR (X:=.tmp 37) (by kernel_rfl) (by kernel_rfl) (ldPts W ⟨w.heap.size+1,0,none⟩ _ ((h).1.b4.cell (i:=0) (by omega)))) hS (T_fr 19 83 [15,16,17,18] [(0,.string s),(1,undef),(2,.pointer (some ⟨w.heap.size,0,none⟩)),(3,.bool false),(4,.pointer (some ⟨w.heap.size+1,0,none⟩)),(5,.int .i64 (i:Nat)),(6,.slice (some ⟨gx,0,none⟩) 4 cx),(7,.int .i64 (j:Nat)),(8,undef),(9,undef),(10,.agg #[.slice none 0 0,.int .i64 0,.int .i64 0]),(37,.pointer (some ⟨w.heap.size+1,0,none⟩)),(38,v0),(51,.agg #[.int .i64 z0,.int .i64 z1,.int .i64 z2,.int .i64 z3]),(56,undef),(57,undef),(58,undef),(59,undef),(60,undef),(61,undef),(62,undef),(63,undef),(64,undef),(65,undef),(66,undef),(67,undef),(68,undef),(69,undef),(70,undef),(71,undef),(72,undef),(73,undef),(74,undef),(75,undef),(76,undef),(77,undef),(78,undef),(79,undef),(80,undef),(81,undef),(82,undef)] (by kernel_rfl) fun v=>Q0 v W h))
  (fun _=>O_val (w':=W.alloc (.cells #[.int .i64 z0,.int .i64 z1,.int .i64 z2,.int .i64 z3] 138)) (some 52) (.slice (some ⟨W.heap.size,0,none⟩) 1 1) (by kernel_rfl) (by kernel_rfl) ((cells4 ((on4 (h) ((Below.refl _ W).alloc (Nat.le_refl _) (.cells #[.int .i64 z0,.int .i64 z1,.int .i64 z2,.int .i64 z3] 138)))).2)) ((T_fr 19 83 [1,16,17,18] [(0,.string s),(1,undef),(2,.pointer (some ⟨w.heap.size,0,none⟩)),(3,.bool false),(4,.pointer (some ⟨w.heap.size+1,0,none⟩)),(5,.int .i64 (i:Nat)),(6,.slice (some ⟨gx,0,none⟩) 4 cx),(7,.int .i64 (j:Nat)),(8,undef),(9,undef),(10,.agg #[.slice none 0 0,.int .i64 0,.int .i64 0]),(37,.pointer (some ⟨w.heap.size+1,0,none⟩)),(51,.agg #[.int .i64 z0,.int .i64 z1,.int .i64 z2,.int .i64 z3]),(52,.slice (some ⟨W.heap.size,0,none⟩) 1 1),(56,undef),(57,undef),(58,undef),(59,undef),(60,undef),(61,undef),(62,undef),(63,undef),(64,undef),(65,undef),(66,undef),(67,undef),(68,undef),(69,undef),(70,undef),(71,undef),(72,undef),(73,undef),(74,undef),(75,undef),(76,undef),(77,undef),(78,undef),(79,undef),(80,undef),(81,undef),(82,undef)] (by kernel_rfl) fun v=>P1 v W h)))
 refine T_start (S:=fun W=>W.cell? ⟨gx,0,none⟩=some (.int .i64 z0)∧W.cell? ⟨gx,1,none⟩=some (.int .i64 z1)∧W.cell? ⟨gx,2,none⟩=some (.int .i64 z2)∧W.cell? ⟨gx,3,none⟩=some (.int .i64 z3)) (by kernel_rfl) (cells4 h.2) (T_z hq [0,2,5,8,11] (by kernel_rfl) (T_yld hq 3 (some 40) (.pointer (some ⟨gx,0,none⟩)) (by kernel_rfl) (by kernel_rfl) (fun w _=>ixRunI (n:=4) (cap:=cx) (i:=0) (X:=.tmp 39) (I:=.const (.int .i64 0)) (by kernel_rfl) (by kernel_rfl) (by kernel_rfl) (by omega) w) (T_a hq [4] (fun w h=>.cons (ldIntR _ _ _ h.1) Lds.nil) (by kernel_rfl) (T_yld hq 6 (some 43) (.pointer (some ⟨gx,1,none⟩)) (by kernel_rfl) (by kernel_rfl) (fun w _=>ixRunI (n:=4) (cap:=cx) (i:=1) (X:=.tmp 42) (I:=.const (.int .i64 1)) (by kernel_rfl) (by kernel_rfl) (by kernel_rfl) (by omega) w) (T_a hq [7] (fun w h=>.cons (ldIntR _ _ _ h.2.1) Lds.nil) (by kernel_rfl) (T_yld hq 9 (some 46) (.pointer (some ⟨gx,2,none⟩)) (by kernel_rfl) (by kernel_rfl) (fun w _=>ixRunI (n:=4) (cap:=cx) (i:=2) (X:=.tmp 45) (I:=.const (.int .i64 2)) (by kernel_rfl) (by kernel_rfl) (by kernel_rfl) (by omega) w) (T_a hq [10] (fun w h=>.cons (ldIntR _ _ _ h.2.2.1) Lds.nil) (by kernel_rfl) (T_yld hq 12 (some 49) (.pointer (some ⟨gx,3,none⟩)) (by kernel_rfl) (by kernel_rfl) (fun w _=>ixRunI (n:=4) (cap:=cx) (i:=3) (X:=.tmp 48) (I:=.const (.int .i64 3)) (by kernel_rfl) (by kernel_rfl) (by kernel_rfl) (by omega) w) (T_a hq [13] (fun w h=>.cons (ldIntR _ _ _ h.2.2.2) Lds.nil) (by kernel_rfl) (T_z hq [14] (by kernel_rfl) ?_))))))))))
 exact T_fr 19 83 [1,15,16,17,18] [(0,.string s),(1,undef),(2,.pointer (some ⟨w.heap.size,0,none⟩)),(3,.bool false),(4,.pointer (some ⟨w.heap.size+1,0,none⟩)),(5,.int .i64 (i:Nat)),(6,.slice (some ⟨gx,0,none⟩) 4 cx),(7,.int .i64 (j:Nat)),(8,undef),(9,undef),(10,.agg #[.slice none 0 0,.int .i64 0,.int .i64 0]),(37,.pointer (some ⟨w.heap.size+1,0,none⟩)),(51,.agg #[.int .i64 z0,.int .i64 z1,.int .i64 z2,.int .i64 z3]),(56,undef),(57,undef),(58,undef),(59,undef),(60,undef),(61,undef),(62,undef),(63,undef),(64,undef),(65,undef),(66,undef),(67,undef),(68,undef),(69,undef),(70,undef),(71,undef),(72,undef),(73,undef),(74,undef),(75,undef),(76,undef),(77,undef),(78,undef),(79,undef),(80,undef),(81,undef),(82,undef)] (by kernel_rfl) fun v=>P0 v _ h

structure Rc where
 (pos:Int) (data:ByteArray)
instance:Inhabited Rc:=⟨⟨0,ByteArray.empty⟩⟩
def Rc.cs (r:Rc):List Value:=[.int .i64 r.pos,.string r.data]
def Rc.okM (r:Rc):Prop:=r.data.size≤9223372036854775807
def RcsAt (P:Nat→Prop) (w:World) (v:Value) (rs:List Rc):Prop:=FlatAt P w v 2 (rs.map Rc.cs)∧∀ r,r∈rs→r.okM
def RcsOwn (w:World) (v:Value) (rs:List Rc) (F:List Nat):Prop:=FlatOwn w v 2 (rs.map Rc.cs) F∧∀ r,r∈rs→r.okM
theorem RcsAt.carry {P Q:Nat→Prop} {w w':World} {v:Value} {rs:List Rc} (h:RcsAt P w v rs) (hP:∀ b,P b→w'.heap[b]? = w.heap[b]?) (hQ:∀ b,P b→Q b):RcsAt Q w' v rs:=⟨h.1.carry hP hQ,h.2⟩
theorem RcsOwn.at {w:World} {v:Value} {rs:List Rc} {F:List Nat} (h:RcsOwn w v rs F):RcsAt (·∈F) w v rs:=⟨h.1.at,h.2⟩
theorem RcsAt.open {P:Nat→Prop} {w:World} {v:Value} {rs:List Rc} (h:RcsAt P w v rs):∃ a cap,v=.slice a rs.length cap∧rs.length≤9223372036854775807 ∧
 ∀ i,(hi:i < rs.length)→∃ b o,a=some ⟨b,o,none⟩∧P b∧w.cell? ⟨b,o+i * 2,none⟩=some (.int .i64 rs[i].pos)∧w.cell? ⟨b,o+i * 2+1,none⟩=some (.string rs[i].data)∧rs[i].okM:=by
 obtain ⟨⟨a,cap,h1,h2,h3⟩,h4⟩:=h
 rw [List.length_map] at h1 h2
 refine ⟨a,cap,h1,h2,fun i hi=>?_⟩
 obtain ⟨b,o,e,hb,hc⟩:=h3 i (by rw [List.length_map];exact hi)
 have c0:=hc 0 (by omega);have c1:=hc 1 (by omega)
 simp only [List.getElem_map,Rc.cs,Nat.add_zero,List.getD_cons_zero,List.getD_cons_succ] at c0 c1
 exact ⟨b,o,e,hb,c0,c1,h4 _ (List.getElem_mem hi)⟩
def byB (s:ByteArray) (i:Nat):Int:=((s.data.toList.getD i 0).toNat:Int)
theorem byB_lt (s:ByteArray) (i:Nat):0≤byB s i∧byB s i < 256:=by
 unfold byB;have:=(s.data.toList.getD i 0).toNat_lt;omega
def szB (s:ByteArray) (i:Nat):Int:=byB s i * 256+byB s (i+1)
def psB (s:ByteArray) (i:Nat):Int:=byB s (i+2) * 65536+byB s (i+3) * 256+byB s (i+4)
def whB (s:ByteArray) (i:Nat):Prop:=i+5≤s.size∧szB s i≤2000∧(1≤psB s i∧psB s i≤999999)∧(i:Int)+5+szB s i≤s.size
instance (s:ByteArray) (i:Nat):Decidable (whB s i):=by unfold whB;infer_instance
def rcB (s:ByteArray) (i:Nat):Rc:=⟨psB s i,s.extract (i+5) (i+5+(szB s i).toNat)⟩
theorem szB_nn (s:ByteArray) (i:Nat):0≤szB s i:=by
 have h1:=byB_lt s i;have h2:=byB_lt s (i+1);unfold szB;omega
def frs (s:ByteArray) (i:Nat):List Rc × Nat :=
 if h:whB s i then (rcB s i::(frs s (i+5+(szB s i).toNat)).1,(frs s (i+5+(szB s i).toNat)).2) else ([],i)
termination_by s.size - i
decreasing_by all_goals (have:=h.1;omega)
theorem frs_yes {s:ByteArray} {i:Nat} (h:whB s i):frs s i=(rcB s i::(frs s (i+5+(szB s i).toNat)).1,(frs s (i+5+(szB s i).toNat)).2):=by
 rw [frs];simp only [h,dif_pos]
theorem frs_no {s:ByteArray} {i:Nat} (h:¬ whB s i):frs s i=([],i):=by
 rw [frs];simp only [h,dif_neg,not_false_eq_true]
def FrI (s:ByteArray) (L:List Rc) (i:Nat):Prop:=frs s 0=(L++(frs s i).1,(frs s i).2)∧i≤s.size∧L.length * 5≤i
theorem FrI.start (s:ByteArray):FrI s [] 0:=⟨by simp,Nat.zero_le _,by simp⟩
theorem FrI.next {s:ByteArray} {L:List Rc} {i:Nat} (h:FrI s L i) (hw:whB s i):FrI s (L++[rcB s i]) (i+5+(szB s i).toNat):=by
 obtain ⟨h1,h2,h3⟩:=h
 rw [frs_yes hw] at h1
 have:=szB_nn s i
 exact ⟨by rw [h1];simp,by have:=hw.2.2.2;omega,by simp;omega⟩
theorem FrI.done {s:ByteArray} {L:List Rc} {i:Nat} (h:FrI s L i) (hw:¬ whB s i):frs s 0=(L,i):=by
 rw [h.1,frs_no hw];simp

theorem ba_inj {a b:ByteArray} (h:a.data.toList=b.data.toList):a=b:=by
 apply ByteArray.ext
 exact Array.toList_inj.1 h
theorem ext_list (s:ByteArray) (a b:Nat):(s.extract a b).data.toList=(s.data.toList.drop a).take (b - a):=by
 rw [ByteArray.data_extract,Array.toList_extract]

def RdIs (X:List UInt8):Option Pl→Prop
 | some l=>plOk l∧plT l=X
 | none=>∀ l,plOk l→plT l≠X
def RdEnd (w w':World) (e:Ending) (X:List UInt8):Prop :=
 (∃ l v,RdIs X (some l)∧e=.returned (.tuple #[.agg #[v,.int .i64 l.op,.int .i64 l.fi],.bool true])∧(∃ F,FlatOwn w' v 4 (l.parts.map Pt.cs) F∧∀ b,b∈F→w.heap.size≤b∧b < w'.heap.size)∧Below w.heap.size w w') ∨
 (RdIs X none∧e=.returned (.tuple #[.agg #[.slice none 0 0,.int .i64 0,.int .i64 0],.bool false])∧Below w.heap.size w w')
theorem lstR_loop (s:ByteArray) (n:Nat):∀ (i:Nat) (r:List UInt8),s.size - i=n→ByteArray.toList.loop s i r=r.reverse++s.data.toList.drop i:=by
 induction n with
 | zero =>
   intro i r h
   unfold ByteArray.toList.loop
   rw [if_neg (by omega),List.drop_eq_nil_of_le (by simp only [Array.length_toList];show s.size≤i;omega),List.append_nil]
 | succ n ih =>
   intro i r h
   unfold ByteArray.toList.loop
   have hi:i < s.size:=by omega
   have e:s.get! i=s.data.toList[i]'(by simpa using hi):=by
    obtain ⟨d⟩:=s
    exact getElem!_pos d i hi
   have hdrop:s.data.toList.drop i=s.data.toList[i]'(by simpa using hi)::s.data.toList.drop (i+1):=List.drop_eq_getElem_cons (by simpa using hi)
   rw [if_pos hi,ih (i+1) _ (by omega),hdrop,e,List.reverse_cons,List.append_assoc]
   rfl
theorem lstR_data (s:ByteArray):s.toList=s.data.toList:=by
 have:=lstR_loop s s.size 0 [] (by omega)
 rw [List.drop_zero] at this
 exact this
theorem ext5 {s:ByteArray} {i p:Nat} (h1:p≤i+5) (h2:i+5≤p):(s.extract i p).toList=(s.data.toList.drop i).take 5:=by
 rw [lstR_data,ext_list,show p - i=5 by omega]
theorem neq_str {a b:ByteArray}:((a.toList != b.toList)=true)↔a≠b:=by
 rw [lstR_data,lstR_data,bne_iff_ne]
 exact ⟨fun h e=>h (by rw [e]),fun h e=>h (ba_inj e)⟩
theorem list4 {l:List Int} (h:l.length=4):∃ a b c d,l=[a,b,c,d]:=by
 match l,h with
 | [a,b,c,d],_=>exact ⟨a,b,c,d,rfl⟩
theorem list2 {l:List Int} (h:l.length=2):∃ a b,l=[a,b]:=by
 match l,h with
 | [a,b],_=>exact ⟨a,b,rfl⟩
theorem rd_short {X:List UInt8} {j:Nat} (h1:∀ i,i < j→sealC X i) (h2:¬ sealC X j) (h3:¬ (sealI X j).2+5≤X.length):RdIs X none:=fun l hl e=>by
 subst e
 exact h3 (read_plT hl h1 h2).1
theorem rd_other {X:List UInt8} {s:ByteArray} (hs:s.data.toList=X) {j:Nat} (h1:∀ i,i < j→sealC X i) (h2:¬ sealC X j) (h3:plW (readP X j)≠s):RdIs X none:=fun l hl e=>by
 subst e
 rw [(read_plT hl h1 h2).2,plW_yes hl] at h3
 exact h3 (ba_inj (by rw [hs]))
theorem rd_same {X:List UInt8} {s:ByteArray} (hs:s.data.toList=X) (hne:0 < X.length) {P:Pl} (h:plW P=s):RdIs X (some P):=by
 by_cases hok:plOk P
 · refine ⟨hok,?_⟩
   rw [plW_yes hok] at h
   rw [← hs,← h]
 · rw [plW_no hok] at h
   rw [← hs,← h] at hne
   simp at hne
structure PrF (w W:World) (v:Value) (ps:List Pt) (y0 y1:Int) (F:List Nat):Prop where
 bel:Below w.heap.size w W
 b2:W.rowIs w.heap.size 115 3 (row3 (.slice none 0 0) (.int .i64 0) (.int .i64 0))
 b4:W.rowIs (w.heap.size+1) 115 3 (row3 v (.int .i64 y0) (.int .i64 y1))
 own:FlatOwn W v 4 (ps.map Pt.cs) F
 lt:∀ b,b∈F→w.heap.size+2≤b∧b < W.heap.size
theorem row3_rd1 {W:World} {g t:Nat} {x0 x1 x2:Value} (h:W.rowIs g t 3 (row3 x0 x1 x2)) (u:Value):(W.setCell ⟨g,1,none⟩ u).rowIs g t 3 (row3 x0 u x2) :=
 (h.set 1 u).congr (fun i hi=>by rcases (show i=0∨i=1∨i=2 by omega) with rfl | rfl | rfl <;> rfl)
theorem row3_rd2 {W:World} {g t:Nat} {x0 x1 x2:Value} (h:W.rowIs g t 3 (row3 x0 x1 x2)) (u:Value):(W.setCell ⟨g,2,none⟩ u).rowIs g t 3 (row3 x0 x1 u) :=
 (h.set 2 u).congr (fun i hi=>by rcases (show i=0∨i=1∨i=2 by omega) with rfl | rfl | rfl <;> rfl)
theorem Pr.fin {w W:World} {v:Value} {ps:List Pt} (h:Pr w W v ps) (y0 y1:Int):∃ F,PrF w ((W.setCell ⟨w.heap.size+1,1,none⟩ (.int .i64 y0)).setCell ⟨w.heap.size+1,2,none⟩ (.int .i64 y1)) v ps y0 y1 F:=by
 obtain ⟨F,h1,-,h3,-⟩:=FlatOwn.of_row (rs:=ps.map Pt.cs) (n:=4) (by rw [List.length_map];exact h.own) (fun r hr=>by obtain ⟨f,-,rfl⟩:=List.mem_map.1 hr;rfl)
 have hk:∀ b,b≠w.heap.size+1→((W.setCell ⟨w.heap.size+1,1,none⟩ (.int .i64 y0)).setCell ⟨w.heap.size+1,2,none⟩ (.int .i64 y1)).heap[b]? = W.heap[b]? := fun b hb=>by
  rw [Below.heap_setCell _ _ _ _ (by simp;omega),Below.heap_setCell _ _ _ _ (by simp;omega)]
 refine ⟨F,?_,h.b2.of_block (hk _ (by omega)),row3_rd2 (row3_rd1 h.b4 _) _,FlatOwn.carry h1 (fun b hb=>hk b (by have:=(h3 b hb).1;omega)),fun b hb=>?_⟩
 · exact (h.bel.setCell (by simp) _).setCell (by simp) _
 · rw [World.size_setCell,World.size_setCell];exact h3 b hb
theorem PrF.on {w W W':World} {v:Value} {ps:List Pt} {y0 y1:Int} {F:List Nat} (h:PrF w W v ps y0 y1 F) (hb:Below W.heap.size W W'):PrF w W' v ps y0 y1 F :=
 ⟨h.bel.trans (hb.mono h.bel.size),h.b2.of_block (hb.block _ h.b2.lt),h.b4.of_block (hb.block _ h.b4.lt),FlatOwn.carry h.own (fun b hF=>hb.block b (h.lt b hF).2),fun b hF=>⟨(h.lt b hF).1,Nat.lt_of_lt_of_le (h.lt b hF).2 hb.size⟩⟩
theorem PrF.sto {w W:World} {v:Value} {ps:List Pt} {y0 y1:Int} {F:List Nat} (h:PrF w W v ps y0 y1 F) (a b c:Value):Below w.heap.size w (((W.setCell ⟨w.heap.size,0,none⟩ a).setCell ⟨w.heap.size,1,none⟩ b).setCell ⟨w.heap.size,2,none⟩ c)∧(∃ F',FlatOwn (((W.setCell ⟨w.heap.size,0,none⟩ a).setCell ⟨w.heap.size,1,none⟩ b).setCell ⟨w.heap.size,2,none⟩ c) v 4 (ps.map Pt.cs) F'∧∀ x,x∈F'→w.heap.size≤x∧x < (((W.setCell ⟨w.heap.size,0,none⟩ a).setCell ⟨w.heap.size,1,none⟩ b).setCell ⟨w.heap.size,2,none⟩ c).heap.size):=by
 refine ⟨((h.bel.setCell (by simp) _).setCell (by simp) _).setCell (by simp) _,F,FlatOwn.carry h.own (fun x hx=>?_),fun x hx=>?_⟩
 · have:=(h.lt x hx).1
   rw [Below.heap_setCell _ _ _ _ (by simp;omega),Below.heap_setCell _ _ _ _ (by simp;omega),Below.heap_setCell _ _ _ _ (by simp;omega)]
 · have:=h.lt x hx
   simp only [World.size_setCell];omega
theorem specLogPlanRead_any (s:ByteArray) (w:World) (hs:s.size≤1048576) :
 Calls Try.prog 94 #[.string s] w fun e w'=>RdEnd w w' e s.data.toList:=by
 have hpr:Pr w ((w.alloc (.cells #[.slice none 0 0,.int .i64 0,.int .i64 0] 115)).alloc (.cells #[.slice none 0 0,.int .i64 0,.int .i64 0] 115)) (.slice none 0 0) []:=by
  refine ⟨((Below.refl _ _).alloc (Nat.le_refl _) _).alloc (by simp) _,(row3_alloc w _ _ _ _).alloc _,?_,⟨rfl,Or.inl ⟨rfl,rfl⟩⟩⟩
  have:=row3_alloc (w.alloc (.cells #[.slice none 0 0,.int .i64 0,.int .i64 0] 115)) (.slice none 0 0) (.int .i64 0) (.int .i64 0) 115
  rw [World.size_alloc] at this;exact this
 have HPR:=xH hpr
 clear hpr
 go_enter Try.func94,Try.ntmps94
 go_wp2_with fail
 go_loopw [5] (fun vi wr=>∃ (j:Nat) (a:Option Addr) (cap:Nat),j≤41∧vi=.int .i64 ((sealI s.data.toList j).2:Nat)∧Hid (∀ i,i < j→sealC s.data.toList i)∧Hid (Pr w wr (.slice a j cap) (sealI s.data.toList j).1)) (fun vi _=>s.size+100 - (intOf vi).toNat)
 case atStart=>exact ⟨0,none,0,by omega,rfl,fun i hi=>by omega,xU HPR⟩
 case round =>
  clear HPR
  obtain ⟨j,a,cap,hj,rfl,HSC,HP⟩:=hrel
  have hbd:=sealI_bd s.data.toList j
  have hb4:=HP.out.b4
  have k0:=hb4.cell (i:=0) (by omega)
  simp only [row3] at k0
  have hps:=HP.out.bel.size
  generalize hI:(sealI s.data.toList j).2=i at *
  have HI:=xH hI
  clear hI
  obtain ⟨p,hp⟩:∃ p:Nat,p=i+5:=⟨_,rfl⟩
  have hpi:(i:Int)+5=(p:Int):=by omega
  have hwp:IntKind.i64.wrap ((i:Int)+5)=(p:Int):=by rw [IntKind.wrap_i64];omega
  have hp1:p≤i+5:=by omega
  have hp2:i+5≤p:=by omega
  have HPI:=xH hpi
  clear hp hpi
  have hXl:s.data.toList.length=s.size:=by rw [Array.length_toList];rfl
  by_cases h5:p≤s.size
  · have h5i:(p:Int)≤(s.size:Int):=by omega
    have hip:(i:Int)≤(p:Int):=by omega
    have h0i:(0:Int)≤(i:Int):=by omega
    have hex:=ext5 (s:=s) hp1 hp2
    clear hb4
    by_cases hc:(s.extract i p).toList=[115,101,97,108,32]∧j≤40
    · have hsc:sealC s.data.toList j:=by
       unfold sealC
       rw [xU HI,← hex]
       exact ⟨by omega,hc.1,hc.2⟩
      have hbq:((s.extract i p).toList==[115,101,97,108,32])=true:=by rw [hc.1];rfl
      have hj40:decide ((j:Int)≤40)=true:=decide_eq_true (by omega)
      have HSC1:=xH (show ∀ k,k < j+1→sealC s.data.toList k from fun k hk=>by
       by_cases e:k=j
       · subst e;exact hsc
       · exact HSC.out k (by omega))
      have hj41:j+1≤41:=by omega
      have HN:=xH (l42Nums_any s p 4 wr hs (by omega) (by omega))
      have hp4:=HP.out.b4.lt
      obtain ⟨z0,z1,z2,z3,hz⟩:=list4 (numsI_len s.data.toList p 4)
      have hn2:=(numsI_bd s.data.toList p 4).2.1
      have hn1:=(numsI_bd s.data.toList p 4).1
      have HSI:=xH (show sealI s.data.toList (j+1)=((sealI s.data.toList j).1++[⟨z0,z1,z2,z3⟩],(numsI s.data.toList p 4).2) by
       have e:(sealI s.data.toList j).2+5=p:=by rw [xU HI];omega
       simp only [sealI,e,hz]
       rfl)
      have HZ:=xH hz
      generalize (numsI s.data.toList p 4).2=q at *
      clear hsc hc hex hz
      go_wp2_with fail
      refine (xU HN).mono ?_
      rintro e w5 ⟨v5,rfl,hown,hb5⟩
      clear k0 HN
      rw [xU HZ] at hown
      obtain ⟨gx,cx,rfl,-,-⟩:=hown.form (by omega)
      have HF:=xH (show Pr w w5 (.slice a j cap) (sealI s.data.toList j).1∧w5.ownsRow (w.heap.size+2) 3 1 (.slice (some ⟨gx,0,none⟩) 4 cx) 4 [.int .i64 z0,.int .i64 z1,.int .i64 z2,.int .i64 z3] from ⟨HP.out.on hb5,World.ownsRow.mono hown (by omega)⟩)
      have hlen:(sealI s.data.toList j).1.length≤1000:=by rw [sealI_len];omega
      clear hown hb5
      go_upto_region 5 with fail
      refine wp_swap (c':=Code.region 5 pr5Ops true) (by kernel_rfl) ?_
      refine wp_region_noPanic ?_
      refine pr5 s w (.slice a j cap) (sealI s.data.toList j).1 gx cx i q z0 z1 z2 z3 hlen w5 _ (fun _ _ _ _ _ h=>h) (on4 (xU HF) ⟨rfl,rfl,rfl,Nat.le_refl _,fun _ _=>rfl⟩) (by kernel_rfl) ?_
      intro v v' W6 h6
      refine NoPanic.normal ?_
      simp only [frL_eq,frG,List.lookup,Nat.reduceBEq,Nat.reduceAdd,Option.getD_some,Option.getD_none]
      have hv':∃ (a':Option Addr) (cap':Nat),v'=.slice a' (j+1) cap':=by
       rcases h6.own.2 with ⟨hv,h0⟩ | ⟨g,c,u,hv,_⟩
       · simp at h0
       · exact ⟨_,_,by rw [hv,List.length_append,sealI_len];rfl⟩
      obtain ⟨a',cap',rfl⟩:=hv'
      have HP6:=xH (show Pr w W6 (.slice a' (j+1) cap') (sealI s.data.toList (j+1)).1 by rw [xU HSI];exact h6)
      have HQ6:=xH (show (sealI s.data.toList (j+1)).2=q by rw [xU HSI])
      clear h6 HF HP HSC
      go_wp2_with fail
      go_roundw
      case rel=>exact ⟨j+1,a',cap',hj41,by rw [xU HQ6],xU HSC1,xU HP6⟩
      case measure=>simp [intOf];omega
    · have hns:¬ sealC s.data.toList j:=fun h=>by
       unfold sealC at h
       rw [xU HI,← hex] at h
       exact hc ⟨h.2.1,h.2.2⟩
      have HNS:=xH hns
      have HN:=xH (l42Nums_any s p 2 wr hs (by omega) (by omega))
      obtain ⟨y0,y1,hy⟩:=list2 (numsI_len s.data.toList p 2)
      have hp4:=HP.out.b4.lt
      have HRP:=xH (show readP s.data.toList j=⟨(sealI s.data.toList j).1,y0,y1⟩ by
       have e:(sealI s.data.toList j).2+5=p:=by rw [xU HI];omega
       unfold readP
       simp only [e,hy]
       rfl)
      have HY:=xH hy
      generalize (numsI s.data.toList p 2).2=q at *
      have hgo:(((s.extract i p).toList==[115,101,97,108,32])=false)∨(((s.extract i p).toList==[115,101,97,108,32])=true∧decide ((j:Int)≤40)=false):=by
       cases hbq:((s.extract i p).toList==[115,101,97,108,32]) with
       | false=>exact Or.inl rfl
       | true=>exact Or.inr ⟨rfl,decide_eq_false fun h=>hc ⟨by simpa using hbq,by omega⟩⟩
      clear hns hc hex hy
      rcases hgo with hbq | ⟨hbq,hj40⟩
      all_goals
       go_wp2_with fail
       refine (xU HN).mono ?_
       rintro e w5 ⟨v5,rfl,hown,hb5⟩
       clear k0 HN
       rw [xU HY] at hown
       obtain ⟨gx,cx,rfl,-,-⟩:=hown.form (by omega)
       have hx0:w5.cell? ⟨gx,0,none⟩=some (.int .i64 y0):=hown.cellAt 0 (by omega)
       have hx1:w5.cell? ⟨gx,1,none⟩=some (.int .i64 y1):=hown.cellAt 1 (by omega)
       have hgx:wr.heap.size≤gx∧gx < w5.heap.size:=hown.lt gx rfl
       have h5p:=HP.out.on hb5
       obtain ⟨c0,c1,c2⟩:=cs3 h5p.b4 (by omega)
       have f4:=h5p.b4.frozen
       simp only [row3] at c0 c1 c2
       have hs5:=hb5.size
       have hne:gx≠w.heap.size+1:=by omega
       have hne':w.heap.size+1≠gx:=by omega
       obtain ⟨F,hfin⟩:=h5p.fin y0 y1
       have HFIN:=xH hfin
       obtain ⟨d0,d1,d2⟩:=cs3 hfin.b4 (by omega)
       simp only [row3] at d0 d1 d2
       clear hfin h5p hown HP hb5
       have HXP:=xH (show 0 < s.data.toList.length by omega)
       go_wp2_with fail
       refine (specLogPlanWrite_any ⟨(sealI s.data.toList j).1,y0,y1⟩ _ (.slice a j cap) _ (fun b hb=>((xU HFIN).lt b hb).2) (FlatOwn.at (xU HFIN).own)).mono ?_
       rintro e w8 ⟨rfl,hb8⟩
       have h8:=(xU HFIN).on hb8
       have HF8:=xH h8
       clear hb8 c0 c1 c2 f4 d0 d1 d2 hx0 hx1 HFIN
       obtain ⟨c0,c1,c2⟩:=cs3 h8.b4 (by omega)
       have f4:=h8.b4.frozen
       obtain ⟨m0,m1,m2⟩:=cs3 h8.b2 (by omega)
       have f2:=h8.b2.frozen
       simp only [row3] at c0 c1 c2 m0 m1 m2
       clear h8
       by_cases hq:plW ⟨(sealI s.data.toList j).1,y0,y1⟩=s
       · have hbn:((plW ⟨(sealI s.data.toList j).1,y0,y1⟩).toList==s.toList)=true:=by rw [hq];simp
         have HQ:=xH hq
         clear hq
         go_wp2_with fail
         try simp only [Exit.inBlock,Exit.then]
         refine bodyPost_ret (v:=.tuple #[.agg #[.slice a j cap,.int .i64 y0,.int .i64 y1],.bool true]) (by simp [results,Try.results94,go_sem,m0,m1,m2]) rfl ?_
         exact Or.inl ⟨⟨(sealI s.data.toList j).1,y0,y1⟩,.slice a j cap,rd_same rfl (xU HXP) (xU HQ),rfl,((xU HF8).sto _ _ _).2,((xU HF8).sto _ _ _).1⟩
       · have hbn:((plW ⟨(sealI s.data.toList j).1,y0,y1⟩).toList==s.toList)=false:=by have:=neq_str.2 hq;simpa [bne] using this
         have HQ:=xH hq
         clear hq
         go_wp2_with fail
         try simp only [Exit.inBlock,Exit.then]
         refine bodyPost_ret (v:=.tuple #[.agg #[.slice none 0 0,.int .i64 0,.int .i64 0],.bool false]) (by simp [results,Try.results94,go_sem,m0,m1,m2]) rfl ?_
         exact Or.inr ⟨rd_other rfl HSC.out (xU HNS) (by rw [xU HRP];exact xU HQ),rfl,((xU HF8).sto _ _ _).1⟩
  · have hns:¬ sealC s.data.toList j:=fun h=>by
     unfold sealC at h
     rw [xU HI] at h
     omega
    have HRN:=xH (rd_short HSC.out hns (by rw [xU HI];omega))
    have h2:=HP.out.b2
    obtain ⟨y0,y1,y2⟩:=cs3 h2 (by omega)
    have z:=h2.frozen
    simp only [row3] at y0 y1 y2
    have HBL:=xH HP.out.bel
    have h5i:¬ ((p:Int)≤(s.size:Int)):=by omega
    clear h2 hb4 k0 hns HP HSC
    go_wp2_with fail
    try simp only [Exit.inBlock,Exit.then]
    refine bodyPost_ret (v:=.tuple #[.agg #[.slice none 0 0,.int .i64 0,.int .i64 0],.bool false]) (by simp [results,Try.results94,go_sem,y0,y1,y2]) rfl ?_
    exact Or.inr ⟨xU HRN,rfl,(((xU HBL).setCell (by simp) _).setCell (by simp) _).setCell (by simp) _⟩
end Go.Proofs.Yteikmbkljkkjiaa
