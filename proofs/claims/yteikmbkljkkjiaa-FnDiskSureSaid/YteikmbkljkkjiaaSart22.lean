/- A part. -/
import Derived.Test.YteikmbkljkkjiaaSart12
namespace Go.Proofs.Yteikmbkljkkjiaa
open Go Go.RowKit
set_option maxRecDepth 100000
set_option maxHeartbeats 3200000
def TyK (w W:World):Prop:=∀ (b:Nat) (cs:Array Value) (t:TypeId) (fz:Nat × Nat),w.heap[b]? = some (Obj.cells cs t fz)→t≠44→t≠60→t≠27→W.heap[b]? = w.heap[b]?
theorem TyK.trans {a b c:World} (h:TyK a b) (k:TyK b c):TyK a c:=fun i cs t fz h1 h2 h3 h4=>by
 have e:=h i cs t fz h1 h2 h3 h4
 exact (k i cs t fz (e.trans h1) h2 h3 h4).trans e
theorem blk_lt {w:World} {b:Nat} {o:Obj} (h:w.heap[b]? = some o):b < w.heap.size:=(Array.getElem?_eq_some_iff.1 h).1
theorem TyK.below {w W:World} (h:Below w.heap.size w W):TyK w W:=fun b _ _ _ h1 _ _ _=>h.block b (blk_lt h1)
theorem TyK.set {W:World} {g j:Nat} {v:Value} {cs:Array Value} {t:TypeId} {fz:Nat × Nat} (hg:W.heap[g]? = some (Obj.cells cs t fz)) (ht:t=44∨t=60∨t=27):TyK W (W.setCell ⟨g,j,none⟩ v):=fun b cs' t' fz' h1 h2 h3 h4=>by
 refine Below.heap_setCell _ _ _ _ fun e=>?_
 simp only at e
 subst e
 rw [hg] at h1
 simp only [Option.some.injEq,Obj.cells.injEq] at h1
 obtain ⟨-,rfl,-⟩:=h1
 rcases ht with rfl | rfl | rfl
 · exact h2 rfl
 · exact h3 rfl
 · exact h4 rfl
theorem TyK.grown {W W':World} {row:Option Nat} (hg:W.grownBy W' row) (hr:∀ g,row=some g→∃ cs t fz,W.heap[g]? = some (Obj.cells cs t fz)∧(t=44∨t=60)):TyK W W':=fun b cs' t' fz' h1 h2 h3 h4=>by
 refine hg.block b (blk_lt h1) fun e=>?_
 obtain ⟨cs,t,fz,h5,h6⟩:=hr b e.symm
 rw [h5] at h1
 simp only [Option.some.injEq,Obj.cells.injEq] at h1
 obtain ⟨-,rfl,-⟩:=h1
 rcases h6 with rfl | rfl
 · exact h2 rfl
 · exact h3 rfl
theorem own_ty {W:World} {base e s n:Nat} {v:Value} {xs:List Value} (h:W.ownsRow base e s v n xs) (he:e=44∨e=60):∀ g,v.ownBlock=some g→∃ cs t fz,W.heap[g]? = some (Obj.cells cs t fz)∧(t=44∨t=60):=fun g hg=>by
 rcases h.2 with ⟨hv,_⟩ | ⟨g',c',cur,hv,_,hh,_⟩
 · rw [hv] at hg;cases hg
 · rw [hv] at hg
   simp only [Value.ownBlock,Option.some.injEq] at hg
   subst hg
   exact ⟨cur,e,(0,0),hh,he⟩
theorem row_ty {W:World} {b t n:Nat} {f:Nat→Value} (h:W.rowIs b t n f):∃ cs fz,W.heap[b]? = some (Obj.cells cs t fz):=by
 obtain ⟨c,hc,-,-⟩:=h
 exact ⟨_,_,hc⟩
structure Wb (w:World) (k:Int) (x y:ByteArray) (b0 base L:Nat) (o:C3) (d:Dk) (W:World):Prop where
 b1:W.rowIs (w.heap.size+1) 29 3 (row3 (.int .i64 k) (.string x) (.string y))
 mx:MxSt base L W o.c0 o.c1 o.c2 d.files d.names d.moves
 bel:Below b0 w W
 hb:b0≤base
 hL:b0≤L
 ty:TyK w W
theorem Wb.on {w:World} {k:Int} {x y:ByteArray} {b0 base L:Nat} {o:C3} {d:Dk} {W W':World} (h:Wb w k x y b0 base L o d W) (hb:Below W.heap.size W W') (hs:b0≤W.heap.size):Wb w k x y b0 base L o d W':=⟨h.b1.of_block (hb.block _ h.b1.lt),h.mx.keep hb,h.bel.trans (hb.mono hs),h.hb,h.hL,h.ty.trans (TyK.below hb)⟩
theorem Wb.sz {w:World} {k:Int} {x y:ByteArray} {b0 base L:Nat} {o:C3} {d:Dk} {W:World} (h:Wb w k x y b0 base L o d W):b0≤W.heap.size:=Nat.le_trans h.hL (Nat.le_of_lt h.mx.row.lt)
theorem Wb.m1 {w:World} {k:Int} {x y:ByteArray} {b0 base L:Nat} {o:C3} {d:Dk} {W:World} (h:Wb w k x y b0 base L o d W):W.cell? ⟨w.heap.size+1,1,none⟩=some (.string x):=h.b1.cell (i:=1) (by omega)
theorem Wb.m2 {w:World} {k:Int} {x y:ByteArray} {b0 base L:Nat} {o:C3} {d:Dk} {W:World} (h:Wb w k x y b0 base L o d W):W.cell? ⟨w.heap.size+1,2,none⟩=some (.string y):=h.b1.cell (i:=2) (by omega)
theorem rows_ne {W:World} {a b T U n m:Nat} {f g:Nat→Value} (h1:W.rowIs a T n f) (h2:W.rowIs b U m g) (hT:T≠U):a≠b:=fun e=>by
 subst e
 obtain ⟨c,h,-,-⟩:=h1
 obtain ⟨c',h',-,-⟩:=h2
 rw [h] at h'
 simp only [Option.some.injEq,Obj.cells.injEq] at h'
 exact hT h'.2.1
theorem Wb.grow {w:World} {k:Int} {x y:ByteArray} {b0 base L:Nat} {o o':C3} {d d2:Dk} {W W':World} {row:Option Nat} (h:Wb w k x y b0 base L o d W) (hg:W.grownBy W' row) (hr:∀ g,row=some g→base≤g) (ht:∀ g,row=some g→∃ cs t fz,W.heap[g]? = some (Obj.cells cs t fz)∧(t=44∨t=60)) (h1:row≠some (w.heap.size+1)) (j:Nat) (v:Value) (hm:MxSt base L (W'.setCell ⟨L,j,none⟩ v) o'.c0 o'.c1 o'.c2 d2.files d2.names d2.moves):W'.cell? ⟨w.heap.size+1,1,none⟩=some (.string x)∧(W'.setCell ⟨L,j,none⟩ v).cell? ⟨w.heap.size+1,1,none⟩=some (.string x)∧Wb w k x y b0 base L o' d2 (W'.setCell ⟨L,j,none⟩ v):=by
 have q1:=h.hb;have q2:=h.hL
 have hne:w.heap.size+1≠L:=rows_ne h.b1 h.mx.row (by decide)
 have hr1:=h.b1.of_block (hg.block _ h.b1.lt (fun e=>h1 e.symm))
 have hr2:=hr1.of_block (Below.heap_setCell W' ⟨L,j,none⟩ v _ hne)
 refine ⟨hr1.cell (i:=1) (by omega),hr2.cell (i:=1) (by omega),hr2,hm,⟨hg.os.trans h.bel.os,hg.tape.trans h.bel.tape,hg.output.trans h.bel.output,by rw [World.size_setCell];exact Nat.le_trans h.bel.size hg.size,fun b hb=>?_⟩,h.hb,h.hL,?_⟩
 rotate_left
 · obtain ⟨cs,fz,hLt⟩:=row_ty hm.row
   have hLt':∃ cs fz,W'.heap[L]? = some (Obj.cells cs 27 fz):=by
    obtain ⟨cs,fz,hc⟩:=row_ty h.mx.row
    have hrow:row≠some L:=fun e=>by
     obtain ⟨cs2,t2,fz2,h5,h6⟩:=ht L e
     rw [hc] at h5
     simp only [Option.some.injEq,Obj.cells.injEq] at h5
     obtain ⟨-,rfl,-⟩:=h5
     rcases h6 with h6 | h6 <;> exact absurd h6 (by decide)
    exact ⟨cs,fz,(hg.block L h.mx.row.lt (fun e=>hrow e.symm)).trans hc⟩
   obtain ⟨cs3,fz3,hL3⟩:=hLt'
   exact (h.ty.trans (TyK.grown hg ht)).trans (TyK.set hL3 (Or.inr (Or.inr rfl)))
 have hs:=h.sz
 rw [Below.heap_setCell _ _ _ _ (by simp;omega),hg.block b (by omega) (fun e=>by have:=hr b e.symm;omega)]
 exact h.bel.block b hb
theorem ldOp {o:Oper} {a:Act} {X:Operand} {T:TypeId} {ad:Addr} {v:Value} {W:World} (ho:o.op=.load T X) (hx:a.eval X=.pointer (some ad)) (h:(Instr.loadAt T (.pointer (some ad))).run Try.prog W=.ok v W):(execOp a.eval o).run Try.prog W=.ok (.value v) W:=by
 unfold execOp
 simp only [ho,hx,Sem.run_bind,Sem.run_pure,Result.andThen_ok,h]
theorem ldMs (w:World) (ad:Addr) (v:Value) (h:w.cell? ad=some v):(Instr.loadAt 25 (.pointer (some ad))).run Try.prog w=.ok v w:=by
 simp [Instr.loadAt,Instr.sureAddr,loadVar,Try.isAgg25,h,go_sem]
theorem stFs (w:World) (ad:Addr) (a:Option Addr) (n c:Nat) (u:Value) (h:w.cell? ad=some u) (hf:w.frozen? ad=false):(Instr.storeAt 23 (.pointer (some ad)) (.slice a n c)).run Try.prog w=.ok () (w.setCell ad (.slice a n c)):=by
 simp [Instr.storeAt,Instr.sureAddr,storeVar,h,hf,go_sem]
theorem stMs (w:World) (ad:Addr) (a:Option Addr) (n c:Nat) (u:Value) (h:w.cell? ad=some u) (hf:w.frozen? ad=false):(Instr.storeAt 25 (.pointer (some ad)) (.slice a n c)).run Try.prog w=.ok () (w.setCell ad (.slice a n c)):=by
 simp [Instr.storeAt,Instr.sureAddr,storeVar,h,hf,go_sem]
noncomputable def wr4Ops:Array Oper:=fops Try.f37 4
theorem wr4_neat:Region.noSelect wr4Ops=true∧neat wr4Ops=true:=⟨by kernel_rfl,by kernel_rfl⟩
theorem wr4 (w:World) (k:Int) (x y:ByteArray) (b0 base L:Nat) (o:C3) (d:Dk) (hx:x.size≤1048576) (hn:d.files.length≤1000) (hba:∀ W,Wb w k x y b0 base L o d W→base≤W.heap.size) (W0:World) {l:List Value} (Q:Exit→Act→World→Prop) (hQ:∀ c a d v w,Q (.panic c) (Act.put a d v) w→Q (.panic c) a w) (h:Wb w k x y b0 base L o d W0.drew) (hl:lookL [(1,.pointer (some ⟨L,0,none⟩)),(5,.pointer (some ⟨w.heap.size+1,0,none⟩))] l=(99,[.pointer (some ⟨L,0,none⟩),.pointer (some ⟨w.heap.size+1,0,none⟩)]))
 (hend:∀ v o' W',Wb w k x y b0 base L o' ⟨d.files++[⟨x,ByteArray.empty,0⟩],d.names,d.moves⟩ W'→Q .normal ⟨(frL v 99 [(1,.pointer (some ⟨L,0,none⟩)),(5,.pointer (some ⟨w.heap.size+1,0,none⟩))]).toArray,[]⟩ W'):(Code.region 4 wr4Ops true).wp Try.prog Q ⟨l.toArray,[]⟩ W0:=by
 obtain ⟨v,rfl⟩:=look_fr hl
 have hq:NtQ wr4Ops Q:=⟨wr4_neat,hQ⟩
 clear hl hQ
 have Q2:∀ v W,Wb w k x y b0 base L o d W→wpS Try.prog wr4Ops Q (fun W=>W.cell? ⟨w.heap.size+1,1,none⟩=some (.string x)) (unl 14 [10,11,12,13],frL v 99 [(1,.pointer (some ⟨L,0,none⟩)),(5,.pointer (some ⟨w.heap.size+1,0,none⟩)),(19,.pointer (some ⟨L,0,none⟩)),(22,.pointer (some ⟨L,0,none⟩)),(23,o.c0),(25,.string x),(27,.agg #[.string x,.string ByteArray.empty,.int .i64 0]),(28,.slice (some ⟨W.heap.size,0,none⟩) 1 1)]) [] (W.alloc (.cells #[.string x,.string ByteArray.empty,.int .i64 0] 44)):=fun v W h=>by
  obtain ⟨i0,hi0,hi1,hi2,hi3⟩:=infoFileD
  refine T_one 10 (by kernel_rfl) fun _=>O_list (some 29) (by kernel_rfl) ?_
  refine append_row _ (by kernel_rfl) (.tmp 23) (.tmp 28) 23 (by kernel_rfl) base 44 i0 (.agg #[.string ByteArray.empty,.string ByteArray.empty,.int .i64 0]) 3 40 Try.underlying23 hi0 hi1 hi2 hi3 rfl (by decide) o.c0 d.files.length (d.files.map Df.cs).flatten (by kernel_rfl) (World.ownsRow.alloc h.mx.o0 _) ⟨W.heap.size,0,none⟩ 1 1 [.string x,.string ByteArray.empty,.int .i64 0] (by kernel_rfl) rfl (cell_3 W _ _ _ _) (fun u hu=>by simp at hu;rcases hu with rfl | rfl | rfl <;> rfl) (by decide) (by unfold maxLen;omega) (by omega) (by rw [World.size_alloc];have:=hba W h;omega) ?_
  intro v' W2 hown hgrow hat
  obtain ⟨g5,cap5,rfl,-,-⟩:=hown.form (by omega)
  have hL2:W2.rowIs L 27 3 (row3 o.c0 o.c1 o.c2):=h.mx.row.of_block ((grown_alloc hgrow).block L h.mx.row.lt (fun e=>own_apart h.mx.o0 h.mx.row (by decide) e.symm))
  obtain ⟨k1,k2,h2⟩:=h.grow (o':=⟨.slice (some ⟨g5,0,none⟩) (d.files.length+1) cap5,o.c1,o.c2⟩) (d2:=⟨d.files++[⟨x,ByteArray.empty,0⟩],d.names,d.moves⟩) (grown_alloc hgrow) (fun g e=>(h.mx.o0.lt g e).1) (own_ty h.mx.o0 (Or.inl rfl)) (own_apart h.mx.o0 h.b1 (by decide)) 0 _ (h.mx.addF ⟨x,ByteArray.empty,0⟩ hown (grown_alloc hgrow))
  refine ⟨k1,_,put_putL ..,?_⟩
  refine T_z hq [11,12] (by kernel_rfl) ?_
  refine T_one 13 (by kernel_rfl) fun _=>O_store none 23 (.tmp 31) (.tmp 29) ⟨L,0,none⟩ (.slice (some ⟨g5,0,none⟩) (d.files.length+1) cap5) _ (by kernel_rfl) (by kernel_rfl) (by kernel_rfl) (stFs W2 _ _ _ _ _ (hL2.cell (i:=0) (by omega)) (hL2.frozen 0)) k2 ?_
  exact T_end 99 [(1,.pointer (some ⟨L,0,none⟩)),(5,.pointer (some ⟨w.heap.size+1,0,none⟩))] (by kernel_rfl) (by kernel_rfl) fun _ v=>hend v _ _ h2
 have Q1:∀ v W,Wb w k x y b0 base L o d W→wpS Try.prog wr4Ops Q (fun W=>W.cell? ⟨w.heap.size+1,1,none⟩=some (.string x)) (unl 14 [9,10,11,12,13],frL v 99 [(1,.pointer (some ⟨L,0,none⟩)),(5,.pointer (some ⟨w.heap.size+1,0,none⟩)),(19,.pointer (some ⟨L,0,none⟩)),(22,.pointer (some ⟨L,0,none⟩)),(23,o.c0),(25,.string x),(27,.agg #[.string x,.string ByteArray.empty,.int .i64 0])]) [] W:=fun v W h=>T_one 9 (by kernel_rfl) fun _=>O_val (w':=W.alloc (.cells #[.string x,.string ByteArray.empty,.int .i64 0] 44)) (some 28) (.slice (some ⟨W.heap.size,0,none⟩) 1 1) (by kernel_rfl) (by kernel_rfl) ((((h).on ((Below.refl _ W).alloc (Nat.le_refl _) (.cells #[.string x,.string ByteArray.empty,.int .i64 0] 44)) (h).sz)).m1) ((T_fr 14 99 [10,11,12,13] [(1,.pointer (some ⟨L,0,none⟩)),(5,.pointer (some ⟨w.heap.size+1,0,none⟩)),(19,.pointer (some ⟨L,0,none⟩)),(22,.pointer (some ⟨L,0,none⟩)),(23,o.c0),(25,.string x),(27,.agg #[.string x,.string ByteArray.empty,.int .i64 0]),(28,.slice (some ⟨W.heap.size,0,none⟩) 1 1)] (by kernel_rfl) fun v=>Q2 v W h))
 have Q0:∀ v W,Wb w k x y b0 base L o d W→wpS Try.prog wr4Ops Q (fun W=>W.cell? ⟨w.heap.size+1,1,none⟩=some (.string x)) (unl 14 [7,8,9,10,11,12,13],frL v 99 [(1,.pointer (some ⟨L,0,none⟩)),(5,.pointer (some ⟨w.heap.size+1,0,none⟩)),(19,.pointer (some ⟨L,0,none⟩)),(22,.pointer (some ⟨L,0,none⟩)),(23,o.c0),(25,.string x)]) [] W:=fun v W h=>T_one 7 (by kernel_rfl) fun _=>O_go (clone_any x W (by omega)) (by kernel_rfl) (by rintro _ W1 ⟨rfl,hb⟩;have h1:=h.on hb h.sz;exact ⟨_,rfl,(h1).m1,T_z hq [8] (by kernel_rfl) (T_fr 14 99 [9,10,11,12,13] [(1,.pointer (some ⟨L,0,none⟩)),(5,.pointer (some ⟨w.heap.size+1,0,none⟩)),(19,.pointer (some ⟨L,0,none⟩)),(22,.pointer (some ⟨L,0,none⟩)),(23,o.c0),(25,.string x),(27,.agg #[.string x,.string ByteArray.empty,.int .i64 0])] (by kernel_rfl) fun v=>Q1 v W1 h1)⟩)
 have P2:∀ v W,Wb w k x y b0 base L o d W→wpS Try.prog wr4Ops Q (fun W=>W.cell? ⟨w.heap.size+1,1,none⟩=some (.string x)) (unl 14 [4,10,11,12,13],frL v 99 [(1,.pointer (some ⟨L,0,none⟩)),(5,.pointer (some ⟨w.heap.size+1,0,none⟩)),(19,.pointer (some ⟨L,0,none⟩)),(22,.pointer (some ⟨L,0,none⟩)),(25,.string x),(27,.agg #[.string x,.string ByteArray.empty,.int .i64 0]),(28,.slice (some ⟨W.heap.size,0,none⟩) 1 1)]) [] (W.alloc (.cells #[.string x,.string ByteArray.empty,.int .i64 0] 44)):=fun v W h=>T_one 4 (by kernel_rfl) fun hS=>O_val (some 23) (o.c0) (by kernel_rfl) (ldOp (X:=.tmp 22) (by kernel_rfl) (by kernel_rfl) (ldFs (W.alloc (.cells #[.string x,.string ByteArray.empty,.int .i64 0] 44)) ⟨L,0,none⟩ _ ((((h).on ((Below.refl _ W).alloc (Nat.le_refl _) (.cells #[.string x,.string ByteArray.empty,.int .i64 0] 44)) (h).sz)).mx.row.cell (i:=0) (by omega)))) hS (T_fr 14 99 [10,11,12,13] [(1,.pointer (some ⟨L,0,none⟩)),(5,.pointer (some ⟨w.heap.size+1,0,none⟩)),(19,.pointer (some ⟨L,0,none⟩)),(22,.pointer (some ⟨L,0,none⟩)),(23,o.c0),(25,.string x),(27,.agg #[.string x,.string ByteArray.empty,.int .i64 0]),(28,.slice (some ⟨W.heap.size,0,none⟩) 1 1)] (by kernel_rfl) fun v=>Q2 v W h)
 have P1:∀ v W,Wb w k x y b0 base L o d W→wpS Try.prog wr4Ops Q (fun W=>W.cell? ⟨w.heap.size+1,1,none⟩=some (.string x)) (unl 14 [4,9,10,11,12,13],frL v 99 [(1,.pointer (some ⟨L,0,none⟩)),(5,.pointer (some ⟨w.heap.size+1,0,none⟩)),(19,.pointer (some ⟨L,0,none⟩)),(22,.pointer (some ⟨L,0,none⟩)),(25,.string x),(27,.agg #[.string x,.string ByteArray.empty,.int .i64 0])]) [] W:=fun v W h=>T_two 4 9 (by kernel_rfl)
  (fun hS=>O_val (some 23) (o.c0) (by kernel_rfl) (ldOp (X:=.tmp 22) (by kernel_rfl) (by kernel_rfl) (ldFs W ⟨L,0,none⟩ _ ((h).mx.row.cell (i:=0) (by omega)))) hS (T_fr 14 99 [9,10,11,12,13] [(1,.pointer (some ⟨L,0,none⟩)),(5,.pointer (some ⟨w.heap.size+1,0,none⟩)),(19,.pointer (some ⟨L,0,none⟩)),(22,.pointer (some ⟨L,0,none⟩)),(23,o.c0),(25,.string x),(27,.agg #[.string x,.string ByteArray.empty,.int .i64 0])] (by kernel_rfl) fun v=>Q1 v W h))
  (fun _=>O_val (w':=W.alloc (.cells #[.string x,.string ByteArray.empty,.int .i64 0] 44)) (some 28) (.slice (some ⟨W.heap.size,0,none⟩) 1 1) (by kernel_rfl) (by kernel_rfl) ((((h).on ((Below.refl _ W).alloc (Nat.le_refl _) (.cells #[.string x,.string ByteArray.empty,.int .i64 0] 44)) (h).sz)).m1) ((T_fr 14 99 [4,10,11,12,13] [(1,.pointer (some ⟨L,0,none⟩)),(5,.pointer (some ⟨w.heap.size+1,0,none⟩)),(19,.pointer (some ⟨L,0,none⟩)),(22,.pointer (some ⟨L,0,none⟩)),(25,.string x),(27,.agg #[.string x,.string ByteArray.empty,.int .i64 0]),(28,.slice (some ⟨W.heap.size,0,none⟩) 1 1)] (by kernel_rfl) fun v=>P2 v W h)))
 have P0:∀ v W,Wb w k x y b0 base L o d W→wpS Try.prog wr4Ops Q (fun W=>W.cell? ⟨w.heap.size+1,1,none⟩=some (.string x)) (unl 14 [4,7,8,9,10,11,12,13],frL v 99 [(1,.pointer (some ⟨L,0,none⟩)),(5,.pointer (some ⟨w.heap.size+1,0,none⟩)),(19,.pointer (some ⟨L,0,none⟩)),(22,.pointer (some ⟨L,0,none⟩)),(25,.string x)]) [] W:=fun v W h=>T_two 4 7 (by kernel_rfl)
  (fun hS=>O_val (some 23) (o.c0) (by kernel_rfl) (ldOp (X:=.tmp 22) (by kernel_rfl) (by kernel_rfl) (ldFs W ⟨L,0,none⟩ _ ((h).mx.row.cell (i:=0) (by omega)))) hS (T_fr 14 99 [7,8,9,10,11,12,13] [(1,.pointer (some ⟨L,0,none⟩)),(5,.pointer (some ⟨w.heap.size+1,0,none⟩)),(19,.pointer (some ⟨L,0,none⟩)),(22,.pointer (some ⟨L,0,none⟩)),(23,o.c0),(25,.string x)] (by kernel_rfl) fun v=>Q0 v W h))
  (fun _=>O_go (clone_any x W (by omega)) (by kernel_rfl) (by rintro _ W1 ⟨rfl,hb⟩;have h1:=h.on hb h.sz;exact ⟨_,rfl,(h1).m1,T_z hq [8] (by kernel_rfl) (T_fr 14 99 [4,9,10,11,12,13] [(1,.pointer (some ⟨L,0,none⟩)),(5,.pointer (some ⟨w.heap.size+1,0,none⟩)),(19,.pointer (some ⟨L,0,none⟩)),(22,.pointer (some ⟨L,0,none⟩)),(25,.string x),(27,.agg #[.string x,.string ByteArray.empty,.int .i64 0])] (by kernel_rfl) fun v=>P1 v W1 h1)⟩))
 refine T_start (S:=fun W=>W.cell? ⟨w.heap.size+1,1,none⟩=some (.string x)) (by kernel_rfl) h.m1 (T_a hq [0,1,2,3,5,6] (fun w hS=>.cons (ldStr _ _ _ hS) Lds.nil) (by kernel_rfl) ?_)
 exact T_fr 14 99 [4,7,8,9,10,11,12,13] [(1,.pointer (some ⟨L,0,none⟩)),(5,.pointer (some ⟨w.heap.size+1,0,none⟩)),(19,.pointer (some ⟨L,0,none⟩)),(22,.pointer (some ⟨L,0,none⟩)),(25,.string x)] (by kernel_rfl) fun v=>P0 v _ h
noncomputable def wr5Ops:Array Oper:=fops Try.f37 5
theorem wr5_neat:Region.noSelect wr5Ops=true∧neat wr5Ops=true:=⟨by kernel_rfl,by kernel_rfl⟩
theorem wr5 (w:World) (k:Int) (x y:ByteArray) (b0 base L:Nat) (o:C3) (d:Dk) (hx:x.size≤1048576) (hn:d.moves.length≤1000) (hba:∀ W,Wb w k x y b0 base L o d W→base≤W.heap.size) (W0:World) {l:List Value} (Q:Exit→Act→World→Prop) (hQ:∀ c a d v w,Q (.panic c) (Act.put a d v) w→Q (.panic c) a w) (h:Wb w k x y b0 base L o d W0.drew) (hl:lookL [(1,.pointer (some ⟨L,0,none⟩)),(5,.pointer (some ⟨w.heap.size+1,0,none⟩))] l=(99,[.pointer (some ⟨L,0,none⟩),.pointer (some ⟨w.heap.size+1,0,none⟩)]))
 (hend:∀ v o' W',Wb w k x y b0 base L o' ⟨d.files,d.names,d.moves++[⟨false,x⟩]⟩ W'→Q .normal ⟨(frL v 99 [(1,.pointer (some ⟨L,0,none⟩)),(5,.pointer (some ⟨w.heap.size+1,0,none⟩))]).toArray,[]⟩ W'):(Code.region 5 wr5Ops true).wp Try.prog Q ⟨l.toArray,[]⟩ W0:=by
 obtain ⟨v,rfl⟩:=look_fr hl
 have hq:NtQ wr5Ops Q:=⟨wr5_neat,hQ⟩
 clear hl hQ
 have Q2:∀ v W,Wb w k x y b0 base L o d W→wpS Try.prog wr5Ops Q (fun W=>W.cell? ⟨w.heap.size+1,1,none⟩=some (.string x)) (unl 14 [10,11,12,13],frL v 99 [(1,.pointer (some ⟨L,0,none⟩)),(5,.pointer (some ⟨w.heap.size+1,0,none⟩)),(32,.pointer (some ⟨L,0,none⟩)),(35,.pointer (some ⟨L,2,none⟩)),(36,o.c2),(38,.string x),(40,.agg #[.bool false,.string x]),(41,.slice (some ⟨W.heap.size,0,none⟩) 1 1)]) [] (W.alloc (.cells #[.bool false,.string x] 60)):=fun v W h=>by
  obtain ⟨i0,hi0,hi1,hi2,hi3⟩:=info_parts infoMoveM
  refine T_one 10 (by kernel_rfl) fun _=>O_list (some 42) (by kernel_rfl) ?_
  refine append_row _ (by kernel_rfl) (.tmp 36) (.tmp 41) 25 (by kernel_rfl) base 60 i0 (.agg #[.bool false,.string ByteArray.empty]) 2 24 Try.underlying25 hi0 hi1 hi2 hi3 rfl (by decide) o.c2 d.moves.length (d.moves.map Dm.cs).flatten (by kernel_rfl) (World.ownsRow.alloc h.mx.o2 _) ⟨W.heap.size,0,none⟩ 1 1 [.bool false,.string x] (by kernel_rfl) rfl (cell_2 W _ _ _) (fun u hu=>by simp at hu;rcases hu with rfl | rfl <;> rfl) (by decide) (by unfold maxLen;omega) (by omega) (by rw [World.size_alloc];have:=hba W h;omega) ?_
  intro v' W2 hown hgrow hat
  obtain ⟨g5,cap5,rfl,-,-⟩:=hown.form (by omega)
  have hL2:W2.rowIs L 27 3 (row3 o.c0 o.c1 o.c2):=h.mx.row.of_block ((grown_alloc hgrow).block L h.mx.row.lt (fun e=>own_apart h.mx.o2 h.mx.row (by decide) e.symm))
  obtain ⟨k1,k2,h2⟩:=h.grow (o':=⟨o.c0,o.c1,.slice (some ⟨g5,0,none⟩) (d.moves.length+1) cap5⟩) (d2:=⟨d.files,d.names,d.moves++[⟨false,x⟩]⟩) (grown_alloc hgrow) (fun g e=>(h.mx.o2.lt g e).1) (own_ty h.mx.o2 (Or.inr rfl)) (own_apart h.mx.o2 h.b1 (by decide)) 2 _ (h.mx.addM ⟨false,x⟩ hown (grown_alloc hgrow))
  refine ⟨k1,_,put_putL ..,?_⟩
  refine T_z hq [11,12] (by kernel_rfl) ?_
  refine T_one 13 (by kernel_rfl) fun _=>O_store none 25 (.tmp 44) (.tmp 42) ⟨L,2,none⟩ (.slice (some ⟨g5,0,none⟩) (d.moves.length+1) cap5) _ (by kernel_rfl) (by kernel_rfl) (by kernel_rfl) (stMs W2 _ _ _ _ _ (hL2.cell (i:=2) (by omega)) (hL2.frozen 2)) k2 ?_
  exact T_end 99 [(1,.pointer (some ⟨L,0,none⟩)),(5,.pointer (some ⟨w.heap.size+1,0,none⟩))] (by kernel_rfl) (by kernel_rfl) fun _ v=>hend v _ _ h2
 have Q1:∀ v W,Wb w k x y b0 base L o d W→wpS Try.prog wr5Ops Q (fun W=>W.cell? ⟨w.heap.size+1,1,none⟩=some (.string x)) (unl 14 [9,10,11,12,13],frL v 99 [(1,.pointer (some ⟨L,0,none⟩)),(5,.pointer (some ⟨w.heap.size+1,0,none⟩)),(32,.pointer (some ⟨L,0,none⟩)),(35,.pointer (some ⟨L,2,none⟩)),(36,o.c2),(38,.string x),(40,.agg #[.bool false,.string x])]) [] W:=fun v W h=>T_one 9 (by kernel_rfl) fun _=>O_val (w':=W.alloc (.cells #[.bool false,.string x] 60)) (some 41) (.slice (some ⟨W.heap.size,0,none⟩) 1 1) (by kernel_rfl) (by kernel_rfl) ((((h).on ((Below.refl _ W).alloc (Nat.le_refl _) (.cells #[.bool false,.string x] 60)) (h).sz)).m1) ((T_fr 14 99 [10,11,12,13] [(1,.pointer (some ⟨L,0,none⟩)),(5,.pointer (some ⟨w.heap.size+1,0,none⟩)),(32,.pointer (some ⟨L,0,none⟩)),(35,.pointer (some ⟨L,2,none⟩)),(36,o.c2),(38,.string x),(40,.agg #[.bool false,.string x]),(41,.slice (some ⟨W.heap.size,0,none⟩) 1 1)] (by kernel_rfl) fun v=>Q2 v W h))
 have Q0:∀ v W,Wb w k x y b0 base L o d W→wpS Try.prog wr5Ops Q (fun W=>W.cell? ⟨w.heap.size+1,1,none⟩=some (.string x)) (unl 14 [7,8,9,10,11,12,13],frL v 99 [(1,.pointer (some ⟨L,0,none⟩)),(5,.pointer (some ⟨w.heap.size+1,0,none⟩)),(32,.pointer (some ⟨L,0,none⟩)),(35,.pointer (some ⟨L,2,none⟩)),(36,o.c2),(38,.string x)]) [] W:=fun v W h=>T_one 7 (by kernel_rfl) fun _=>O_go (clone_any x W (by omega)) (by kernel_rfl) (by rintro _ W1 ⟨rfl,hb⟩;have h1:=h.on hb h.sz;exact ⟨_,rfl,(h1).m1,T_z hq [8] (by kernel_rfl) (T_fr 14 99 [9,10,11,12,13] [(1,.pointer (some ⟨L,0,none⟩)),(5,.pointer (some ⟨w.heap.size+1,0,none⟩)),(32,.pointer (some ⟨L,0,none⟩)),(35,.pointer (some ⟨L,2,none⟩)),(36,o.c2),(38,.string x),(40,.agg #[.bool false,.string x])] (by kernel_rfl) fun v=>Q1 v W1 h1)⟩)
 have P2:∀ v W,Wb w k x y b0 base L o d W→wpS Try.prog wr5Ops Q (fun W=>W.cell? ⟨w.heap.size+1,1,none⟩=some (.string x)) (unl 14 [4,10,11,12,13],frL v 99 [(1,.pointer (some ⟨L,0,none⟩)),(5,.pointer (some ⟨w.heap.size+1,0,none⟩)),(32,.pointer (some ⟨L,0,none⟩)),(35,.pointer (some ⟨L,2,none⟩)),(38,.string x),(40,.agg #[.bool false,.string x]),(41,.slice (some ⟨W.heap.size,0,none⟩) 1 1)]) [] (W.alloc (.cells #[.bool false,.string x] 60)):=fun v W h=>T_one 4 (by kernel_rfl) fun hS=>O_val (some 36) (o.c2) (by kernel_rfl) (ldOp (X:=.tmp 35) (by kernel_rfl) (by kernel_rfl) (ldMs (W.alloc (.cells #[.bool false,.string x] 60)) ⟨L,2,none⟩ _ ((((h).on ((Below.refl _ W).alloc (Nat.le_refl _) (.cells #[.bool false,.string x] 60)) (h).sz)).mx.row.cell (i:=2) (by omega)))) hS (T_fr 14 99 [10,11,12,13] [(1,.pointer (some ⟨L,0,none⟩)),(5,.pointer (some ⟨w.heap.size+1,0,none⟩)),(32,.pointer (some ⟨L,0,none⟩)),(35,.pointer (some ⟨L,2,none⟩)),(36,o.c2),(38,.string x),(40,.agg #[.bool false,.string x]),(41,.slice (some ⟨W.heap.size,0,none⟩) 1 1)] (by kernel_rfl) fun v=>Q2 v W h)
 have P1:∀ v W,Wb w k x y b0 base L o d W→wpS Try.prog wr5Ops Q (fun W=>W.cell? ⟨w.heap.size+1,1,none⟩=some (.string x)) (unl 14 [4,9,10,11,12,13],frL v 99 [(1,.pointer (some ⟨L,0,none⟩)),(5,.pointer (some ⟨w.heap.size+1,0,none⟩)),(32,.pointer (some ⟨L,0,none⟩)),(35,.pointer (some ⟨L,2,none⟩)),(38,.string x),(40,.agg #[.bool false,.string x])]) [] W:=fun v W h=>T_two 4 9 (by kernel_rfl)
  (fun hS=>O_val (some 36) (o.c2) (by kernel_rfl) (ldOp (X:=.tmp 35) (by kernel_rfl) (by kernel_rfl) (ldMs W ⟨L,2,none⟩ _ ((h).mx.row.cell (i:=2) (by omega)))) hS (T_fr 14 99 [9,10,11,12,13] [(1,.pointer (some ⟨L,0,none⟩)),(5,.pointer (some ⟨w.heap.size+1,0,none⟩)),(32,.pointer (some ⟨L,0,none⟩)),(35,.pointer (some ⟨L,2,none⟩)),(36,o.c2),(38,.string x),(40,.agg #[.bool false,.string x])] (by kernel_rfl) fun v=>Q1 v W h))
  (fun _=>O_val (w':=W.alloc (.cells #[.bool false,.string x] 60)) (some 41) (.slice (some ⟨W.heap.size,0,none⟩) 1 1) (by kernel_rfl) (by kernel_rfl) ((((h).on ((Below.refl _ W).alloc (Nat.le_refl _) (.cells #[.bool false,.string x] 60)) (h).sz)).m1) ((T_fr 14 99 [4,10,11,12,13] [(1,.pointer (some ⟨L,0,none⟩)),(5,.pointer (some ⟨w.heap.size+1,0,none⟩)),(32,.pointer (some ⟨L,0,none⟩)),(35,.pointer (some ⟨L,2,none⟩)),(38,.string x),(40,.agg #[.bool false,.string x]),(41,.slice (some ⟨W.heap.size,0,none⟩) 1 1)] (by kernel_rfl) fun v=>P2 v W h)))
 have P0:∀ v W,Wb w k x y b0 base L o d W→wpS Try.prog wr5Ops Q (fun W=>W.cell? ⟨w.heap.size+1,1,none⟩=some (.string x)) (unl 14 [4,7,8,9,10,11,12,13],frL v 99 [(1,.pointer (some ⟨L,0,none⟩)),(5,.pointer (some ⟨w.heap.size+1,0,none⟩)),(32,.pointer (some ⟨L,0,none⟩)),(35,.pointer (some ⟨L,2,none⟩)),(38,.string x)]) [] W:=fun v W h=>T_two 4 7 (by kernel_rfl)
  (fun hS=>O_val (some 36) (o.c2) (by kernel_rfl) (ldOp (X:=.tmp 35) (by kernel_rfl) (by kernel_rfl) (ldMs W ⟨L,2,none⟩ _ ((h).mx.row.cell (i:=2) (by omega)))) hS (T_fr 14 99 [7,8,9,10,11,12,13] [(1,.pointer (some ⟨L,0,none⟩)),(5,.pointer (some ⟨w.heap.size+1,0,none⟩)),(32,.pointer (some ⟨L,0,none⟩)),(35,.pointer (some ⟨L,2,none⟩)),(36,o.c2),(38,.string x)] (by kernel_rfl) fun v=>Q0 v W h))
  (fun _=>O_go (clone_any x W (by omega)) (by kernel_rfl) (by rintro _ W1 ⟨rfl,hb⟩;have h1:=h.on hb h.sz;exact ⟨_,rfl,(h1).m1,T_z hq [8] (by kernel_rfl) (T_fr 14 99 [4,9,10,11,12,13] [(1,.pointer (some ⟨L,0,none⟩)),(5,.pointer (some ⟨w.heap.size+1,0,none⟩)),(32,.pointer (some ⟨L,0,none⟩)),(35,.pointer (some ⟨L,2,none⟩)),(38,.string x),(40,.agg #[.bool false,.string x])] (by kernel_rfl) fun v=>P1 v W1 h1)⟩))
 refine T_start (S:=fun W=>W.cell? ⟨w.heap.size+1,1,none⟩=some (.string x)) (by kernel_rfl) h.m1 (T_a hq [0,1,2,3,5,6] (fun w hS=>.cons (ldStr _ _ _ hS) Lds.nil) (by kernel_rfl) ?_)
 exact T_fr 14 99 [4,7,8,9,10,11,12,13] [(1,.pointer (some ⟨L,0,none⟩)),(5,.pointer (some ⟨w.heap.size+1,0,none⟩)),(32,.pointer (some ⟨L,0,none⟩)),(35,.pointer (some ⟨L,2,none⟩)),(38,.string x)] (by kernel_rfl) fun v=>P0 v _ h
noncomputable def wr11Ops:Array Oper:=fops Try.f37 11
theorem wr11_neat:Region.noSelect wr11Ops=true∧neat wr11Ops=true:=⟨by kernel_rfl,by kernel_rfl⟩
theorem wr11 (w:World) (k:Int) (x y:ByteArray) (b0 base L:Nat) (o:C3) (d:Dk) (hx:x.size≤1048576) (hn:d.moves.length≤1000) (hba:∀ W,Wb w k x y b0 base L o d W→base≤W.heap.size) (W0:World) {l:List Value} (Q:Exit→Act→World→Prop) (hQ:∀ c a d v w,Q (.panic c) (Act.put a d v) w→Q (.panic c) a w) (h:Wb w k x y b0 base L o d W0.drew) (hl:lookL [(1,.pointer (some ⟨L,0,none⟩)),(5,.pointer (some ⟨w.heap.size+1,0,none⟩))] l=(99,[.pointer (some ⟨L,0,none⟩),.pointer (some ⟨w.heap.size+1,0,none⟩)]))
 (hend:∀ v o' W',Wb w k x y b0 base L o' ⟨d.files,d.names,d.moves++[⟨true,x⟩]⟩ W'→Q .normal ⟨(frL v 99 [(1,.pointer (some ⟨L,0,none⟩)),(5,.pointer (some ⟨w.heap.size+1,0,none⟩))]).toArray,[]⟩ W'):(Code.region 11 wr11Ops true).wp Try.prog Q ⟨l.toArray,[]⟩ W0:=by
 obtain ⟨v,rfl⟩:=look_fr hl
 have hq:NtQ wr11Ops Q:=⟨wr11_neat,hQ⟩
 clear hl hQ
 have Q2:∀ v W,Wb w k x y b0 base L o d W→wpS Try.prog wr11Ops Q (fun W=>W.cell? ⟨w.heap.size+1,1,none⟩=some (.string x)) (unl 14 [10,11,12,13],frL v 99 [(1,.pointer (some ⟨L,0,none⟩)),(5,.pointer (some ⟨w.heap.size+1,0,none⟩)),(81,.pointer (some ⟨L,0,none⟩)),(84,.pointer (some ⟨L,2,none⟩)),(85,o.c2),(87,.string x),(89,.agg #[.bool true,.string x]),(90,.slice (some ⟨W.heap.size,0,none⟩) 1 1)]) [] (W.alloc (.cells #[.bool true,.string x] 60)):=fun v W h=>by
  obtain ⟨i0,hi0,hi1,hi2,hi3⟩:=info_parts infoMoveM
  refine T_one 10 (by kernel_rfl) fun _=>O_list (some 91) (by kernel_rfl) ?_
  refine append_row _ (by kernel_rfl) (.tmp 85) (.tmp 90) 25 (by kernel_rfl) base 60 i0 (.agg #[.bool false,.string ByteArray.empty]) 2 24 Try.underlying25 hi0 hi1 hi2 hi3 rfl (by decide) o.c2 d.moves.length (d.moves.map Dm.cs).flatten (by kernel_rfl) (World.ownsRow.alloc h.mx.o2 _) ⟨W.heap.size,0,none⟩ 1 1 [.bool true,.string x] (by kernel_rfl) rfl (cell_2 W _ _ _) (fun u hu=>by simp at hu;rcases hu with rfl | rfl <;> rfl) (by decide) (by unfold maxLen;omega) (by omega) (by rw [World.size_alloc];have:=hba W h;omega) ?_
  intro v' W2 hown hgrow hat
  obtain ⟨g5,cap5,rfl,-,-⟩:=hown.form (by omega)
  have hL2:W2.rowIs L 27 3 (row3 o.c0 o.c1 o.c2):=h.mx.row.of_block ((grown_alloc hgrow).block L h.mx.row.lt (fun e=>own_apart h.mx.o2 h.mx.row (by decide) e.symm))
  obtain ⟨k1,k2,h2⟩:=h.grow (o':=⟨o.c0,o.c1,.slice (some ⟨g5,0,none⟩) (d.moves.length+1) cap5⟩) (d2:=⟨d.files,d.names,d.moves++[⟨true,x⟩]⟩) (grown_alloc hgrow) (fun g e=>(h.mx.o2.lt g e).1) (own_ty h.mx.o2 (Or.inr rfl)) (own_apart h.mx.o2 h.b1 (by decide)) 2 _ (h.mx.addM ⟨true,x⟩ hown (grown_alloc hgrow))
  refine ⟨k1,_,put_putL ..,?_⟩
  refine T_z hq [11,12] (by kernel_rfl) ?_
  refine T_one 13 (by kernel_rfl) fun _=>O_store none 25 (.tmp 93) (.tmp 91) ⟨L,2,none⟩ (.slice (some ⟨g5,0,none⟩) (d.moves.length+1) cap5) _ (by kernel_rfl) (by kernel_rfl) (by kernel_rfl) (stMs W2 _ _ _ _ _ (hL2.cell (i:=2) (by omega)) (hL2.frozen 2)) k2 ?_
  exact T_end 99 [(1,.pointer (some ⟨L,0,none⟩)),(5,.pointer (some ⟨w.heap.size+1,0,none⟩))] (by kernel_rfl) (by kernel_rfl) fun _ v=>hend v _ _ h2
 have Q1:∀ v W,Wb w k x y b0 base L o d W→wpS Try.prog wr11Ops Q (fun W=>W.cell? ⟨w.heap.size+1,1,none⟩=some (.string x)) (unl 14 [9,10,11,12,13],frL v 99 [(1,.pointer (some ⟨L,0,none⟩)),(5,.pointer (some ⟨w.heap.size+1,0,none⟩)),(81,.pointer (some ⟨L,0,none⟩)),(84,.pointer (some ⟨L,2,none⟩)),(85,o.c2),(87,.string x),(89,.agg #[.bool true,.string x])]) [] W:=fun v W h=>T_one 9 (by kernel_rfl) fun _=>O_val (w':=W.alloc (.cells #[.bool true,.string x] 60)) (some 90) (.slice (some ⟨W.heap.size,0,none⟩) 1 1) (by kernel_rfl) (by kernel_rfl) ((((h).on ((Below.refl _ W).alloc (Nat.le_refl _) (.cells #[.bool true,.string x] 60)) (h).sz)).m1) ((T_fr 14 99 [10,11,12,13] [(1,.pointer (some ⟨L,0,none⟩)),(5,.pointer (some ⟨w.heap.size+1,0,none⟩)),(81,.pointer (some ⟨L,0,none⟩)),(84,.pointer (some ⟨L,2,none⟩)),(85,o.c2),(87,.string x),(89,.agg #[.bool true,.string x]),(90,.slice (some ⟨W.heap.size,0,none⟩) 1 1)] (by kernel_rfl) fun v=>Q2 v W h))
 have Q0:∀ v W,Wb w k x y b0 base L o d W→wpS Try.prog wr11Ops Q (fun W=>W.cell? ⟨w.heap.size+1,1,none⟩=some (.string x)) (unl 14 [7,8,9,10,11,12,13],frL v 99 [(1,.pointer (some ⟨L,0,none⟩)),(5,.pointer (some ⟨w.heap.size+1,0,none⟩)),(81,.pointer (some ⟨L,0,none⟩)),(84,.pointer (some ⟨L,2,none⟩)),(85,o.c2),(87,.string x)]) [] W:=fun v W h=>T_one 7 (by kernel_rfl) fun _=>O_go (clone_any x W (by omega)) (by kernel_rfl) (by rintro _ W1 ⟨rfl,hb⟩;have h1:=h.on hb h.sz;exact ⟨_,rfl,(h1).m1,T_z hq [8] (by kernel_rfl) (T_fr 14 99 [9,10,11,12,13] [(1,.pointer (some ⟨L,0,none⟩)),(5,.pointer (some ⟨w.heap.size+1,0,none⟩)),(81,.pointer (some ⟨L,0,none⟩)),(84,.pointer (some ⟨L,2,none⟩)),(85,o.c2),(87,.string x),(89,.agg #[.bool true,.string x])] (by kernel_rfl) fun v=>Q1 v W1 h1)⟩)
 have P2:∀ v W,Wb w k x y b0 base L o d W→wpS Try.prog wr11Ops Q (fun W=>W.cell? ⟨w.heap.size+1,1,none⟩=some (.string x)) (unl 14 [4,10,11,12,13],frL v 99 [(1,.pointer (some ⟨L,0,none⟩)),(5,.pointer (some ⟨w.heap.size+1,0,none⟩)),(81,.pointer (some ⟨L,0,none⟩)),(84,.pointer (some ⟨L,2,none⟩)),(87,.string x),(89,.agg #[.bool true,.string x]),(90,.slice (some ⟨W.heap.size,0,none⟩) 1 1)]) [] (W.alloc (.cells #[.bool true,.string x] 60)):=fun v W h=>T_one 4 (by kernel_rfl) fun hS=>O_val (some 85) (o.c2) (by kernel_rfl) (ldOp (X:=.tmp 84) (by kernel_rfl) (by kernel_rfl) (ldMs (W.alloc (.cells #[.bool true,.string x] 60)) ⟨L,2,none⟩ _ ((((h).on ((Below.refl _ W).alloc (Nat.le_refl _) (.cells #[.bool true,.string x] 60)) (h).sz)).mx.row.cell (i:=2) (by omega)))) hS (T_fr 14 99 [10,11,12,13] [(1,.pointer (some ⟨L,0,none⟩)),(5,.pointer (some ⟨w.heap.size+1,0,none⟩)),(81,.pointer (some ⟨L,0,none⟩)),(84,.pointer (some ⟨L,2,none⟩)),(85,o.c2),(87,.string x),(89,.agg #[.bool true,.string x]),(90,.slice (some ⟨W.heap.size,0,none⟩) 1 1)] (by kernel_rfl) fun v=>Q2 v W h)
 have P1:∀ v W,Wb w k x y b0 base L o d W→wpS Try.prog wr11Ops Q (fun W=>W.cell? ⟨w.heap.size+1,1,none⟩=some (.string x)) (unl 14 [4,9,10,11,12,13],frL v 99 [(1,.pointer (some ⟨L,0,none⟩)),(5,.pointer (some ⟨w.heap.size+1,0,none⟩)),(81,.pointer (some ⟨L,0,none⟩)),(84,.pointer (some ⟨L,2,none⟩)),(87,.string x),(89,.agg #[.bool true,.string x])]) [] W:=fun v W h=>T_two 4 9 (by kernel_rfl)
  (fun hS=>O_val (some 85) (o.c2) (by kernel_rfl) (ldOp (X:=.tmp 84) (by kernel_rfl) (by kernel_rfl) (ldMs W ⟨L,2,none⟩ _ ((h).mx.row.cell (i:=2) (by omega)))) hS (T_fr 14 99 [9,10,11,12,13] [(1,.pointer (some ⟨L,0,none⟩)),(5,.pointer (some ⟨w.heap.size+1,0,none⟩)),(81,.pointer (some ⟨L,0,none⟩)),(84,.pointer (some ⟨L,2,none⟩)),(85,o.c2),(87,.string x),(89,.agg #[.bool true,.string x])] (by kernel_rfl) fun v=>Q1 v W h))
  (fun _=>O_val (w':=W.alloc (.cells #[.bool true,.string x] 60)) (some 90) (.slice (some ⟨W.heap.size,0,none⟩) 1 1) (by kernel_rfl) (by kernel_rfl) ((((h).on ((Below.refl _ W).alloc (Nat.le_refl _) (.cells #[.bool true,.string x] 60)) (h).sz)).m1) ((T_fr 14 99 [4,10,11,12,13] [(1,.pointer (some ⟨L,0,none⟩)),(5,.pointer (some ⟨w.heap.size+1,0,none⟩)),(81,.pointer (some ⟨L,0,none⟩)),(84,.pointer (some ⟨L,2,none⟩)),(87,.string x),(89,.agg #[.bool true,.string x]),(90,.slice (some ⟨W.heap.size,0,none⟩) 1 1)] (by kernel_rfl) fun v=>P2 v W h)))
 have P0:∀ v W,Wb w k x y b0 base L o d W→wpS Try.prog wr11Ops Q (fun W=>W.cell? ⟨w.heap.size+1,1,none⟩=some (.string x)) (unl 14 [4,7,8,9,10,11,12,13],frL v 99 [(1,.pointer (some ⟨L,0,none⟩)),(5,.pointer (some ⟨w.heap.size+1,0,none⟩)),(81,.pointer (some ⟨L,0,none⟩)),(84,.pointer (some ⟨L,2,none⟩)),(87,.string x)]) [] W:=fun v W h=>T_two 4 7 (by kernel_rfl)
  (fun hS=>O_val (some 85) (o.c2) (by kernel_rfl) (ldOp (X:=.tmp 84) (by kernel_rfl) (by kernel_rfl) (ldMs W ⟨L,2,none⟩ _ ((h).mx.row.cell (i:=2) (by omega)))) hS (T_fr 14 99 [7,8,9,10,11,12,13] [(1,.pointer (some ⟨L,0,none⟩)),(5,.pointer (some ⟨w.heap.size+1,0,none⟩)),(81,.pointer (some ⟨L,0,none⟩)),(84,.pointer (some ⟨L,2,none⟩)),(85,o.c2),(87,.string x)] (by kernel_rfl) fun v=>Q0 v W h))
  (fun _=>O_go (clone_any x W (by omega)) (by kernel_rfl) (by rintro _ W1 ⟨rfl,hb⟩;have h1:=h.on hb h.sz;exact ⟨_,rfl,(h1).m1,T_z hq [8] (by kernel_rfl) (T_fr 14 99 [4,9,10,11,12,13] [(1,.pointer (some ⟨L,0,none⟩)),(5,.pointer (some ⟨w.heap.size+1,0,none⟩)),(81,.pointer (some ⟨L,0,none⟩)),(84,.pointer (some ⟨L,2,none⟩)),(87,.string x),(89,.agg #[.bool true,.string x])] (by kernel_rfl) fun v=>P1 v W1 h1)⟩))
 refine T_start (S:=fun W=>W.cell? ⟨w.heap.size+1,1,none⟩=some (.string x)) (by kernel_rfl) h.m1 (T_a hq [0,1,2,3,5,6] (fun w hS=>.cons (ldStr _ _ _ hS) Lds.nil) (by kernel_rfl) ?_)
 exact T_fr 14 99 [4,7,8,9,10,11,12,13] [(1,.pointer (some ⟨L,0,none⟩)),(5,.pointer (some ⟨w.heap.size+1,0,none⟩)),(81,.pointer (some ⟨L,0,none⟩)),(84,.pointer (some ⟨L,2,none⟩)),(87,.string x)] (by kernel_rfl) fun v=>P0 v _ h


theorem refusalIf_any (b:Bool) (c:Int) (w:World):Calls Try.prog 60 #[.bool b,.int .i64 c] w fun e w'=>e=.returned (.int .i64 (if b=true then c else 0))∧w'=w:=by
 cases b with
 | true =>
   go_enter Try.func60,Try.ntmps60
   go_wp2_with fail
   go_ret
   exact ⟨rfl,rfl⟩
 | false =>
   go_enter Try.func60,Try.ntmps60
   go_wp2_with fail
   go_ret
   exact ⟨rfl,rfl⟩
def fr2 (c0 c1:Int):Int:=if c0=0 then c1 else c0
theorem firstRefusal_two (g:Nat) (c0 c1:Int) (w:World) (h0:w.cell? ⟨g,0,none⟩=some (.int .i64 c0)) (h1:w.cell? ⟨g,1,none⟩=some (.int .i64 c1)) :
 Calls Try.prog 59 #[.slice (some ⟨g,0,none⟩) 2 2] w fun e w'=>e=.returned (.int .i64 (fr2 c0 c1))∧w'=w:=by
 have hcell:∀ i:Nat,i < 2→∃ c:Int,w.cell? ⟨g,i,none⟩=some (.int .i64 c)∧c=(if i=0 then c0 else c1):=fun i hi=>by
  match i,hi with
  | 0,_=>exact ⟨c0,h0,rfl⟩
  | 1,_=>exact ⟨c1,h1,rfl⟩
 have HC:=xH hcell
 clear hcell h0 h1
 go_enter Try.func59,Try.ntmps59
 go_wp2_with fail
 go_loopw [7] (fun i wr=>∃ (k:Nat),k≤2∧i=.int .i64 k∧Hid (1≤k→c0=0)∧Hid (2≤k→c1=0)∧wr=w) (fun i _=>2 - (intOf i).toNat)
 case atStart=>exact ⟨0,by omega,rfl,fun h=>by omega,fun h=>by omega,rfl⟩
 case round =>
  obtain ⟨k,hk,rfl,H0,H1,rfl⟩:=hrel
  by_cases hlt:k < 2
  · obtain ⟨c,hc,hcv⟩:=xU HC k hlt
    have HCV:=xH hcv
    clear hcv
    by_cases hz:c=0
    · go_wp2_with fail
      go_roundw
      case rel=>exact ⟨k+1,by omega,by go_num,fun _=>(by
       by_cases e:k=0
       · subst e;have:=xU HCV;rw [if_pos rfl] at this;omega
       · exact H0.out (by omega)),fun h=>(by
       have e:k=1:=by omega
       subst e;have:=xU HCV;rw [if_neg (by decide)] at this;omega),trivial⟩
      case measure=>simp [intOf];omega
    · go_wp2_with fail
      go_ret
      have hf:fr2 c0 c1=c:=by
       unfold fr2
       by_cases e:k=0
       · have h:=xU HCV;rw [if_pos e] at h
         rw [if_neg (by omega)];omega
       · have h:=xU HCV;rw [if_neg e] at h
         rw [if_pos (H0.out (by omega))];omega
      refine ⟨?_,rfl⟩
      rw [hf];rfl
  · go_wp2_with fail
    go_ret
    have hf:fr2 c0 c1=0:=by
     unfold fr2
     rw [if_pos (H0.out (by omega))];exact H1.out (by omega)
    refine ⟨?_,rfl⟩
    rw [hf];rfl
theorem movesFull_any (q0 q1 x2 q3 x4:Option Addr) (n2 m2 n4 m4:Nat) (w:World) :
 Calls Try.prog 62 #[.agg #[.pointer q0,.pointer q1,.slice x2 n2 m2,.pointer q3,.slice x4 n4 m4]] w fun e w'=>e=.returned (.bool (decide (128≤n4)))∧Below w.heap.size w w':=by
 have hbx:∀ o,Below w.heap.size w (w.alloc o):=fun o=>(Below.refl _ _).alloc (Nat.le_refl _) o
 have HBX:=xH hbx
 clear hbx
 have hd:decide ((128:Int)≤(n4:Int))=decide (128≤n4):=by
  rw [decide_eq_decide];omega
 have HD:=xH hd
 clear hd
 by_cases h:128≤n4
 · go_enter Try.func62,Try.ntmps62
   go_wp2_with fail
   go_ret
   refine ⟨?_,xU HBX _⟩
   first | rfl | (simp [h];done) | (rw [← xU HD];rfl)
 · go_enter Try.func62,Try.ntmps62
   go_wp2_with fail
   go_ret
   refine ⟨?_,xU HBX _⟩
   first | rfl | (simp [h];done) | (rw [← xU HD];rfl)

def refE (k:Int) (t:Bool):Int:=if k=3 then (if t=true then 0 else 2) else if k=5 then 0 else 5
theorem refusal_easy (ns:List ByteArray) (ms:List Dm) (T B:Nat) (v0:Value) (fn:List ByteArray) (x2:Option Addr) (n2 m2:Nat) (x4:Option Addr) (n4 m4:Nat) (P:Nat→Prop) (w:World) (hP:∀ b,P b→b < w.heap.size) (hn:StrsAt P w (.slice x2 n2 m2) ns) (hf:FnAt P w (.slice x4 n4 m4) ms) (hl1:ns.length≤1000) (hl2:ms.length≤1000) (l:List ByteArray) (hl:mfold ns ms=some l)
 (hrow:w.rowIs T 84 2 (rowO v0 (.map (some B)))) (hmap:NMap w B fn) (k:Int) (x y:ByteArray) (hx:x.size≤9223372036854775807) (h1:k≠1) (h2:k≠2) (h4:k≠4) :
 Calls Try.prog 36 #[.agg #[.pointer (some ⟨T,0,none⟩),.pointer (some ⟨T,0,none⟩),.slice x2 n2 m2,.pointer (some ⟨T,0,none⟩),.slice x4 n4 m4],.agg #[.int .i64 k,.string x,.string y]] w fun e w'=>e=.returned (.int .i64 (refE k (hasB l x)))∧Below w.heap.size w w':=by
 obtain ⟨W0,hW0⟩:∃ W0,(w.alloc (.cells #[.pointer (some ⟨T,0,none⟩),.pointer (some ⟨T,0,none⟩),.slice x2 n2 m2,.pointer (some ⟨T,0,none⟩),.slice x4 n4 m4] 71)).alloc (.cells #[.int .i64 k,.string x,.string y] 29)=W0:=⟨_,rfl⟩
 have hb0:Below w.heap.size w W0:=by rw [← hW0];exact ((Below.refl _ w).alloc (Nat.le_refl _) _).alloc (by simp) _
 have hbd:=hb0.drew
 have HTH:=xH (isThere_any ns ms (some ⟨T,0,none⟩) (some ⟨T,0,none⟩) x2 n2 m2 (some ⟨T,0,none⟩) x4 n4 m4 P W0.drew (fun b hb=>Nat.lt_of_lt_of_le (hP b hb) hbd.size) (hn.carry (fun b hb=>hbd.block b (hP b hb)) (fun _ h=>h)) (hf.carry (fun b hb=>hbd.block b (hP b hb)) (fun _ h=>h)) hl1 hl2 l hl x)
 have t1:=(hrow.of_block (hb0.block T hrow.lt)).cell (i:=1) (by omega)
 simp only [rowO] at t1
 have hmap0:NMap W0 B fn:=by rw [← hW0];exact World.ownsMap.alloc (World.ownsMap.alloc hmap _) _
 obtain ⟨c,hlk,-,-⟩:=look_all hmap0 x hx
 have hlk1:=hlk 1
 have hlk2:(Instr.lookup 82 (.map (some B)) (.string x) true).run Try.prog W0.drew=.ok (.tuple #[.int .i64 c,.bool (Maps.has _ (nkey x))]) W0.drew:=hlk1
 have HRI:=xH (fun b c W=>refusalIf_any b c W)
 have HBD:=xH hbd
 clear hlk hlk1 hmap0 hmap hrow hn hf hl hP hbd
 subst hW0
 go_enter Try.func36,Try.ntmps36
 go_wp2_with fail
 go_region
 by_cases h3:k=3
 · subst h3
   have hr:∀ t,refE 3 t=if t=true then 0 else 2:=fun t=>if_pos rfl
   have HR:=xH hr
   clear hr hlk2 t1
   go_wp2_with fail
   refine (xU HTH).mono ?_
   rintro e w1 ⟨rfl,hb1⟩
   have HB1:=xH ((xU HBD).trans (hb1.mono (xU HBD).size))
   clear hb1 HTH HBD
   obtain ⟨t,ht⟩:∃ t,hasB l x=t:=⟨_,rfl⟩
   rw [ht]
   have HT:=xH ht
   clear ht
   cases t with
   | true =>
     go_wp2_with fail
     refine (xU HRI _ _ _).mono ?_
     rintro e w2 ⟨rfl,rfl⟩
     go_wp2_with fail
     go_ret
     refine ⟨?_,xU HB1⟩
     rw [xU HR,xU HT];rfl
   | false =>
     go_wp2_with fail
     refine (xU HRI _ _ _).mono ?_
     rintro e w2 ⟨rfl,rfl⟩
     go_wp2_with fail
     go_ret
     refine ⟨?_,xU HB1⟩
     rw [xU HR,xU HT];rfl
 · by_cases h5:k=5
   · subst h5
     go_wp2_with fail
     go_ret
     exact ⟨rfl,xU HBD⟩
   · have HR:=xH (show refE k (hasB l x)=5 by unfold refE;rw [if_neg h3,if_neg h5])
     go_wp2_with fail
     go_ret
     refine ⟨?_,xU HBD⟩
     rw [xU HR];rfl
end Go.Proofs.Yteikmbkljkkjiaa
