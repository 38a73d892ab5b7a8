/- A part. -/
import Derived.Test.YteikmbkljkkjiaaSart22
namespace Go.Proofs.Yteikmbkljkkjiaa
open Go Go.RowKit
set_option maxRecDepth 100000
set_option maxHeartbeats 3200000
structure Rg (P:Nat→Prop) (w:World) (d:Dk) (a0:Option Addr) (p0 T B:Nat) (x2:Option Addr) (n2 m2:Nat) (x4:Option Addr) (n4 m4:Nat) (k:Int) (x y:ByteArray) (W:World):Prop where
 b0:W.rowIs w.heap.size 71 5 (row5 (.pointer (some ⟨T,0,none⟩)) (.pointer (some ⟨T,0,none⟩)) (.slice x2 n2 m2) (.pointer (some ⟨T,0,none⟩)) (.slice x4 n4 m4))
 b1:W.rowIs (w.heap.size+1) 29 3 (row3 (.int .i64 k) (.string x) (.string y))
 row:W.rowIs T 84 2 (rowO (.slice a0 d.files.length p0) (.map (some B)))
 map:NMap W B (d.files.map Df.name)
 ns:StrsAt P W (.slice x2 n2 m2) d.names
 fn:FnAt P W (.slice x4 n4 m4) d.moves
 fs:FsAt P W (.slice a0 d.files.length p0) d.files
 lt:∀ b,P b→b < w.heap.size
 bel:Below w.heap.size w W
theorem Rg.on {P:Nat→Prop} {w:World} {d:Dk} {a0:Option Addr} {p0 T B:Nat} {x2:Option Addr} {n2 m2:Nat} {x4:Option Addr} {n4 m4:Nat} {k:Int} {x y:ByteArray} {W W':World} (h:Rg P w d a0 p0 T B x2 n2 m2 x4 n4 m4 k x y W) (hb:Below W.heap.size W W'):Rg P w d a0 p0 T B x2 n2 m2 x4 n4 m4 k x y W' :=
 have hp:∀ b,P b→W'.heap[b]? = W.heap[b]? := fun b hp=>hb.block b (Nat.lt_of_lt_of_le (h.lt b hp) h.bel.size)
 ⟨h.b0.of_block (hb.block _ h.b0.lt),h.b1.of_block (hb.block _ h.b1.lt),h.row.of_block (hb.block _ h.row.lt),World.ownsMap.kept (row:=none) h.map ⟨hb.os,hb.tape,hb.output,hb.size,fun b hb' _=>hb.block b hb'⟩ (by simp),h.ns.carry hp (fun _ h=>h),h.fn.carry hp (fun _ h=>h),h.fs.carry hp (fun _ h=>h),h.lt,h.bel.trans (hb.mono h.bel.size)⟩
theorem Rg.pl {P:Nat→Prop} {w:World} {d:Dk} {a0:Option Addr} {p0 T B:Nat} {x2:Option Addr} {n2 m2:Nat} {x4:Option Addr} {n4 m4:Nat} {k:Int} {x y:ByteArray} {W:World} (h:Rg P w d a0 p0 T B x2 n2 m2 x4 n4 m4 k x y W):∀ b,P b→b < W.heap.size:=fun b hb=>Nat.lt_of_lt_of_le (h.lt b hb) h.bel.size
theorem Rg.v0 {P:Nat→Prop} {w:World} {d:Dk} {a0:Option Addr} {p0 T B:Nat} {x2:Option Addr} {n2 m2:Nat} {x4:Option Addr} {n4 m4:Nat} {k:Int} {x y:ByteArray} {W:World} (h:Rg P w d a0 p0 T B x2 n2 m2 x4 n4 m4 k x y W):W.cell? ⟨w.heap.size,0,none⟩=some (.pointer (some ⟨T,0,none⟩)):=h.b0.cell (i:=0) (by omega)
theorem Rg.m1 {P:Nat→Prop} {w:World} {d:Dk} {a0:Option Addr} {p0 T B:Nat} {x2:Option Addr} {n2 m2:Nat} {x4:Option Addr} {n4 m4:Nat} {k:Int} {x y:ByteArray} {W:World} (h:Rg P w d a0 p0 T B x2 n2 m2 x4 n4 m4 k x y W):W.cell? ⟨w.heap.size+1,1,none⟩=some (.string x):=h.b1.cell (i:=1) (by omega)
theorem Rg.m2 {P:Nat→Prop} {w:World} {d:Dk} {a0:Option Addr} {p0 T B:Nat} {x2:Option Addr} {n2 m2:Nat} {x4:Option Addr} {n4 m4:Nat} {k:Int} {x y:ByteArray} {W:World} (h:Rg P w d a0 p0 T B x2 n2 m2 x4 n4 m4 k x y W):W.cell? ⟨w.heap.size+1,2,none⟩=some (.string y):=h.b1.cell (i:=2) (by omega)
theorem Rg.f0 {P:Nat→Prop} {w:World} {d:Dk} {a0:Option Addr} {p0 T B:Nat} {x2:Option Addr} {n2 m2:Nat} {x4:Option Addr} {n4 m4:Nat} {k:Int} {x y:ByteArray} {W:World} (h:Rg P w d a0 p0 T B x2 n2 m2 x4 n4 m4 k x y W):W.cell? ⟨T,0,none⟩=some (.slice a0 d.files.length p0):=h.row.cell (i:=0) (by omega)
theorem ldTp (w:World) (ad:Addr) (v:Value) (h:w.cell? ad=some v):(Instr.loadAt 64 (.pointer (some ad))).run Try.prog w=.ok v w:=by
 simp [Instr.loadAt,Instr.sureAddr,loadVar,Try.isAgg64,h,go_sem]
theorem rowViewO:∃ d,Try.prog.underlying 71=some d∧d.isRow=true:=⟨_,Try.underlying71,by rfl⟩
theorem info5V:(Try.prog.info? 71).map (·.size)=some 5:=by kernel_rfl
theorem Rg.ld {P:Nat→Prop} {w:World} {d:Dk} {a0:Option Addr} {p0 T B:Nat} {x2:Option Addr} {n2 m2:Nat} {x4:Option Addr} {n4 m4:Nat} {k:Int} {x y:ByteArray} {W:World} (h:Rg P w d a0 p0 T B x2 n2 m2 x4 n4 m4 k x y W):(Instr.loadAt 71 (.pointer (some ⟨w.heap.size,0,none⟩))).run Try.prog W=.ok (.agg #[.pointer (some ⟨T,0,none⟩),.pointer (some ⟨T,0,none⟩),.slice x2 n2 m2,.pointer (some ⟨T,0,none⟩),.slice x4 n4 m4]) W:=by
 obtain ⟨dd,hdu,hdr⟩:=rowViewO
 have hr:W.rangeAt w.heap.size 0 [.pointer (some ⟨T,0,none⟩),.pointer (some ⟨T,0,none⟩),.slice x2 n2 m2,.pointer (some ⟨T,0,none⟩),.slice x4 n4 m4]:=fun j v hv=>by
  match j,hv with
  | 0,hv=>simp only [List.getElem?_cons_zero,Option.some.injEq] at hv;subst hv;exact h.b0.cell (i:=0) (by omega)
  | 1,hv=>simp only [List.getElem?_cons_succ,List.getElem?_cons_zero,Option.some.injEq] at hv;subst hv;exact h.b0.cell (i:=1) (by omega)
  | 2,hv=>simp only [List.getElem?_cons_succ,List.getElem?_cons_zero,Option.some.injEq] at hv;subst hv;exact h.b0.cell (i:=2) (by omega)
  | 3,hv=>simp only [List.getElem?_cons_succ,List.getElem?_cons_zero,Option.some.injEq] at hv;subst hv;exact h.b0.cell (i:=3) (by omega)
  | 4,hv=>simp only [List.getElem?_cons_succ,List.getElem?_cons_zero,Option.some.injEq] at hv;subst hv;exact h.b0.cell (i:=4) (by omega)
  | _+5,hv=>simp at hv
 unfold Instr.loadAt
 simp only [Instr.sureAddr,Sem.run_bind,Sem.run_pure,Result.andThen_ok,run_loadVar_mid W w.heap.size 0 71 [.pointer (some ⟨T,0,none⟩),.pointer (some ⟨T,0,none⟩),.slice x2 n2 m2,.pointer (some ⟨T,0,none⟩),.slice x4 n4 m4] dd hr hdu hdr info5V]
theorem two_cells (W:World) (c0 c1:Int) (t:TypeId):(W.alloc (.cells #[.int .i64 c0,.int .i64 c1] t)).cell? ⟨W.heap.size,0,none⟩=some (.int .i64 c0)∧(W.alloc (.cells #[.int .i64 c0,.int .i64 c1] t)).cell? ⟨W.heap.size,1,none⟩=some (.int .i64 c1):=by
 constructor <;> simp [go_sem]
noncomputable def rf11Ops:Array Oper:=fops Try.f36 11
theorem rf11_neat:Region.noSelect rf11Ops=true∧neat rf11Ops=true:=⟨by kernel_rfl,by kernel_rfl⟩
theorem rf11 (P:Nat→Prop) (w:World) (d:Dk) (a0:Option Addr) (p0 T B:Nat) (x2:Option Addr) (n2 m2:Nat) (x4:Option Addr) (n4 m4:Nat) (k:Int) (x y:ByteArray) (l2:List ByteArray) (hl2:mfold d.names d.moves=some l2) (hn1:d.names.length≤1000) (hn2:d.moves.length≤1000) (W0:World) {l:List Value} (Q:Exit→Act→World→Prop) (hQ:∀ c a d v w,Q (.panic c) (Act.put a d v) w→Q (.panic c) a w) (hS:Rg P w d a0 p0 T B x2 n2 m2 x4 n4 m4 k x y W0.drew) (hl:lookL [(2,.pointer (some ⟨w.heap.size,0,none⟩)),(3,.pointer (some ⟨w.heap.size+1,0,none⟩))] l=(95,[.pointer (some ⟨w.heap.size,0,none⟩),.pointer (some ⟨w.heap.size+1,0,none⟩)]))
 (hend:∀ v W',Rg P w d a0 p0 T B x2 n2 m2 x4 n4 m4 k x y W'→Q .normal ⟨(frL v 95 [(4,.int .i64 (fr2 (if (!hasB l2 x)=true then 2 else 0) (if decide (128≤n4)=true then 4 else 0)))]).toArray,[]⟩ W'):(Code.region 11 rf11Ops true).wp Try.prog Q ⟨l.toArray,[]⟩ W0:=by
 obtain ⟨v,rfl⟩:=look_fr hl
 have hq:NtQ rf11Ops Q:=⟨rf11_neat,hQ⟩
 refine T_start (S:=fun W=>Rg P w d a0 p0 T B x2 n2 m2 x4 n4 m4 k x y W) (by kernel_rfl) hS ?_
 clear hl hQ hS
 generalize W0.drew=W
 refine T_a hq (List.range 12) (fun w h=>.cons h.ld (.cons (ldStr _ _ _ h.m1) (.cons h.ld Lds.nil))) (by kernel_rfl) ?_
 refine T_one 3 (by kernel_rfl) fun h=>O_go (isThere_any d.names d.moves (some ⟨T,0,none⟩) (some ⟨T,0,none⟩) x2 n2 m2 (some ⟨T,0,none⟩) x4 n4 m4 P W h.pl h.ns h.fn hn1 hn2 l2 hl2 x) (by kernel_rfl) ?_
 rintro _ W ⟨rfl,hb⟩
 refine ⟨_,rfl,h.on hb,?_⟩
 clear h hb
 refine T_z hq (List.range 12) (by kernel_rfl) ?_
 refine T_one 5 (by kernel_rfl) fun h=>O_go (refusalIf_any (!hasB l2 x) 2 W) (by kernel_rfl) ?_
 rintro _ W ⟨rfl,hb⟩
 refine ⟨_,rfl,hb ▸ h,?_⟩
 clear h hb
 refine T_one 7 (by kernel_rfl) fun h=>O_go (movesFull_any (some ⟨T,0,none⟩) (some ⟨T,0,none⟩) x2 (some ⟨T,0,none⟩) x4 n2 m2 n4 m4 W) (by kernel_rfl) ?_
 rintro _ W ⟨rfl,hb⟩
 refine ⟨_,rfl,h.on hb,?_⟩
 clear h hb
 refine T_one 8 (by kernel_rfl) fun h=>O_go (refusalIf_any (decide (128≤n4)) 4 W) (by kernel_rfl) ?_
 rintro _ W ⟨rfl,hb⟩
 refine ⟨_,rfl,hb ▸ h,?_⟩
 clear h hb
 refine T_one 9 (by kernel_rfl) fun h=>O_val (w':=W.alloc (.cells #[.int .i64 (if (!hasB l2 x)=true then 2 else 0),.int .i64 (if decide (128≤n4)=true then 4 else 0)] 3)) (some 91) (.slice (some ⟨W.heap.size,0,none⟩) 2 2) (by kernel_rfl) (by kernel_rfl) (h.on ((Below.refl _ W).alloc (Nat.le_refl _) _)) ?_
 refine T_one 10 (by kernel_rfl) fun h=>O_go (firstRefusal_two W.heap.size (if (!hasB l2 x)=true then 2 else 0) (if decide (128≤n4)=true then 4 else 0) _ (two_cells W _ _ _).1 (two_cells W _ _ _).2) (by kernel_rfl) ?_
 rintro _ W1 ⟨rfl,hb⟩
 refine ⟨_,rfl,hb ▸ h,?_⟩
 exact T_z hq (List.range 12) (by kernel_rfl) (T_end 95 [(4,.int .i64 (fr2 (if (!hasB l2 x)=true then 2 else 0) (if decide (128≤n4)=true then 4 else 0)))] (by kernel_rfl) (by kernel_rfl) fun hS v=>hend v _ hS)
noncomputable def rf4tOps:Array Oper:=fops Try.f36 4
theorem rf4t_neat:Region.noSelect rf4tOps=true∧neat rf4tOps=true:=⟨by kernel_rfl,by kernel_rfl⟩
theorem rf4t (P:Nat→Prop) (w:World) (d:Dk) (a0:Option Addr) (p0 T B:Nat) (x2:Option Addr) (n2 m2:Nat) (x4:Option Addr) (n4 m4:Nat) (k:Int) (x y:ByteArray) (W0:World) {l:List Value} (Q:Exit→Act→World→Prop) (hQ:∀ c a d v w,Q (.panic c) (Act.put a d v) w→Q (.panic c) a w) (hS:Rg P w d a0 p0 T B x2 n2 m2 x4 n4 m4 k x y W0.drew) (hl:lookL [(2,.pointer (some ⟨w.heap.size,0,none⟩)),(3,.pointer (some ⟨w.heap.size+1,0,none⟩)),(6,.bool true)] l=(95,[.pointer (some ⟨w.heap.size,0,none⟩),.pointer (some ⟨w.heap.size+1,0,none⟩),.bool true]))
 (hend:∀ v W',Rg P w d a0 p0 T B x2 n2 m2 x4 n4 m4 k x y W'→Q .normal ⟨(frL v 95 [(4,.int .i64 (fr2 (if true=true then 3 else 0) (if (decide (64≤d.files.length) || decide (128≤n4))=true then 4 else 0)))]).toArray,[]⟩ W'):(Code.region 4 rf4tOps true).wp Try.prog Q ⟨l.toArray,[]⟩ W0:=by
 obtain ⟨v,rfl⟩:=look_fr hl
 have hq:NtQ rf4tOps Q:=⟨rf4t_neat,hQ⟩
 refine T_start (S:=fun W=>Rg P w d a0 p0 T B x2 n2 m2 x4 n4 m4 k x y W) (by kernel_rfl) hS ?_
 clear hl hQ hS
 generalize W0.drew=W
 refine T_a hq [0,1,2,3,4,5,6,7,8,9,10,11,12,13] (fun w h=>.cons (ldTp _ _ _ h.v0) (.cons (ldFs _ _ _ h.f0) Lds.nil)) (by kernel_rfl) ?_
 by_cases h64:64≤d.files.length
 case pos =>
  rw [show (decide (64≤d.files.length) || decide (128≤n4))=true from by simp [h64]] at hend
  refine T_val (i:=14) hq (some 37) (.bool (decide ((64:Int)≤(d.files.length:Int)))) (.bool true) (congrArg Value.bool (decide_eq_true (by omega))) (by kernel_rfl) (by kernel_rfl) ?_
  refine T_one 7 (by kernel_rfl) fun h=>O_go (refusalIf_any true 3 W) (by kernel_rfl) ?_
  rintro _ W ⟨rfl,hb⟩
  refine ⟨_,rfl,hb ▸ h,?_⟩
  clear h hb
  refine T_z hq (List.range 23) (by kernel_rfl) ?_
  refine T_one 19 (by kernel_rfl) fun h=>O_go (refusalIf_any true 4 W) (by kernel_rfl) ?_
  rintro _ W ⟨rfl,hb⟩
  refine ⟨_,rfl,hb ▸ h,?_⟩
  clear h hb
  refine T_one 20 (by kernel_rfl) fun h=>O_val (w':=W.alloc (.cells #[.int .i64 (if true=true then 3 else 0),.int .i64 (if true=true then 4 else 0)] 3)) (some 43) (.slice (some ⟨W.heap.size,0,none⟩) 2 2) (by kernel_rfl) (by kernel_rfl) (h.on ((Below.refl _ W).alloc (Nat.le_refl _) _)) ?_
  refine T_one 21 (by kernel_rfl) fun h=>O_go (firstRefusal_two W.heap.size (if true=true then 3 else 0) (if true=true then 4 else 0) _ (two_cells W _ _ _).1 (two_cells W _ _ _).2) (by kernel_rfl) ?_
  rintro _ W1 ⟨rfl,hb⟩
  refine ⟨_,rfl,hb ▸ h,?_⟩
  exact T_z hq (List.range 23) (by kernel_rfl) (T_end 95 [(4,.int .i64 (fr2 (if true=true then 3 else 0) (if true=true then 4 else 0)))] (by kernel_rfl) (by kernel_rfl) fun hS v=>hend v _ hS)
 case neg =>
  rw [show (decide (64≤d.files.length) || decide (128≤n4))=decide (128≤n4) from by simp [h64]] at hend
  refine T_val (i:=14) hq (some 37) (.bool (decide ((64:Int)≤(d.files.length:Int)))) (.bool false) (congrArg Value.bool (decide_eq_false (by omega))) (by kernel_rfl) (by kernel_rfl) ?_
  refine T_one 7 (by kernel_rfl) fun h=>O_go (refusalIf_any true 3 W) (by kernel_rfl) ?_
  rintro _ W ⟨rfl,hb⟩
  refine ⟨_,rfl,hb ▸ h,?_⟩
  clear h hb
  refine T_a hq (List.range 23) (fun w h=>.cons (h.ld) Lds.nil) (by kernel_rfl) ?_
  refine T_one 17 (by kernel_rfl) fun h=>O_go (movesFull_any (some ⟨T,0,none⟩) (some ⟨T,0,none⟩) x2 (some ⟨T,0,none⟩) x4 n2 m2 n4 m4 W) (by kernel_rfl) ?_
  rintro _ W ⟨rfl,hb⟩
  refine ⟨_,rfl,h.on hb,?_⟩
  clear h hb
  refine T_z hq (List.range 23) (by kernel_rfl) ?_
  refine T_one 19 (by kernel_rfl) fun h=>O_go (refusalIf_any (decide (128≤n4)) 4 W) (by kernel_rfl) ?_
  rintro _ W ⟨rfl,hb⟩
  refine ⟨_,rfl,hb ▸ h,?_⟩
  clear h hb
  refine T_one 20 (by kernel_rfl) fun h=>O_val (w':=W.alloc (.cells #[.int .i64 (if true=true then 3 else 0),.int .i64 (if decide (128≤n4)=true then 4 else 0)] 3)) (some 43) (.slice (some ⟨W.heap.size,0,none⟩) 2 2) (by kernel_rfl) (by kernel_rfl) (h.on ((Below.refl _ W).alloc (Nat.le_refl _) _)) ?_
  refine T_one 21 (by kernel_rfl) fun h=>O_go (firstRefusal_two W.heap.size (if true=true then 3 else 0) (if decide (128≤n4)=true then 4 else 0) _ (two_cells W _ _ _).1 (two_cells W _ _ _).2) (by kernel_rfl) ?_
  rintro _ W1 ⟨rfl,hb⟩
  refine ⟨_,rfl,hb ▸ h,?_⟩
  exact T_z hq (List.range 23) (by kernel_rfl) (T_end 95 [(4,.int .i64 (fr2 (if true=true then 3 else 0) (if decide (128≤n4)=true then 4 else 0)))] (by kernel_rfl) (by kernel_rfl) fun hS v=>hend v _ hS)
noncomputable def rf4fOps:Array Oper:=fops Try.f36 4
theorem rf4f_neat:Region.noSelect rf4fOps=true∧neat rf4fOps=true:=⟨by kernel_rfl,by kernel_rfl⟩
theorem rf4f (P:Nat→Prop) (w:World) (d:Dk) (a0:Option Addr) (p0 T B:Nat) (x2:Option Addr) (n2 m2:Nat) (x4:Option Addr) (n4 m4:Nat) (k:Int) (x y:ByteArray) (hx:x.size≤1048576) (W0:World) {l:List Value} (Q:Exit→Act→World→Prop) (hQ:∀ c a d v w,Q (.panic c) (Act.put a d v) w→Q (.panic c) a w) (hS:Rg P w d a0 p0 T B x2 n2 m2 x4 n4 m4 k x y W0.drew) (hl:lookL [(2,.pointer (some ⟨w.heap.size,0,none⟩)),(3,.pointer (some ⟨w.heap.size+1,0,none⟩)),(6,.bool false)] l=(95,[.pointer (some ⟨w.heap.size,0,none⟩),.pointer (some ⟨w.heap.size+1,0,none⟩),.bool false]))
 (hend:∀ v W',Rg P w d a0 p0 T B x2 n2 m2 x4 n4 m4 k x y W'→Q .normal ⟨(frL v 95 [(4,.int .i64 (fr2 (if (!nameOkB x)=true then 3 else 0) (if (decide (64≤d.files.length) || decide (128≤n4))=true then 4 else 0)))]).toArray,[]⟩ W'):(Code.region 4 rf4fOps true).wp Try.prog Q ⟨l.toArray,[]⟩ W0:=by
 obtain ⟨v,rfl⟩:=look_fr hl
 have hq:NtQ rf4fOps Q:=⟨rf4f_neat,hQ⟩
 refine T_start (S:=fun W=>Rg P w d a0 p0 T B x2 n2 m2 x4 n4 m4 k x y W) (by kernel_rfl) hS ?_
 clear hl hQ hS
 generalize W0.drew=W
 refine T_a hq [0,1,2,3,4,5,6,7,8,9,10,11,12,13] (fun w h=>.cons (ldStr _ _ _ h.m1) (.cons (ldTp _ _ _ h.v0) (.cons (ldFs _ _ _ h.f0) Lds.nil))) (by kernel_rfl) ?_
 by_cases h64:64≤d.files.length
 case pos =>
  rw [show (decide (64≤d.files.length) || decide (128≤n4))=true from by simp [h64]] at hend
  refine T_val (i:=14) hq (some 37) (.bool (decide ((64:Int)≤(d.files.length:Int)))) (.bool true) (congrArg Value.bool (decide_eq_true (by omega))) (by kernel_rfl) (by kernel_rfl) ?_
  refine T_one 4 (by kernel_rfl) fun h=>O_go (nameOk_any x W (by omega)) (by kernel_rfl) ?_
  rintro _ W ⟨rfl,hb⟩
  refine ⟨_,rfl,hb ▸ h,?_⟩
  clear h hb
  refine T_z hq [0,1,2,3,4,5,6,7,8,9,10,11,12,13] (by kernel_rfl) ?_
  refine T_one 7 (by kernel_rfl) fun h=>O_go (refusalIf_any (!nameOkB x) 3 W) (by kernel_rfl) ?_
  rintro _ W ⟨rfl,hb⟩
  refine ⟨_,rfl,hb ▸ h,?_⟩
  clear h hb
  refine T_z hq (List.range 23) (by kernel_rfl) ?_
  refine T_one 19 (by kernel_rfl) fun h=>O_go (refusalIf_any true 4 W) (by kernel_rfl) ?_
  rintro _ W ⟨rfl,hb⟩
  refine ⟨_,rfl,hb ▸ h,?_⟩
  clear h hb
  refine T_one 20 (by kernel_rfl) fun h=>O_val (w':=W.alloc (.cells #[.int .i64 (if (!nameOkB x)=true then 3 else 0),.int .i64 (if true=true then 4 else 0)] 3)) (some 43) (.slice (some ⟨W.heap.size,0,none⟩) 2 2) (by kernel_rfl) (by kernel_rfl) (h.on ((Below.refl _ W).alloc (Nat.le_refl _) _)) ?_
  refine T_one 21 (by kernel_rfl) fun h=>O_go (firstRefusal_two W.heap.size (if (!nameOkB x)=true then 3 else 0) (if true=true then 4 else 0) _ (two_cells W _ _ _).1 (two_cells W _ _ _).2) (by kernel_rfl) ?_
  rintro _ W1 ⟨rfl,hb⟩
  refine ⟨_,rfl,hb ▸ h,?_⟩
  exact T_z hq (List.range 23) (by kernel_rfl) (T_end 95 [(4,.int .i64 (fr2 (if (!nameOkB x)=true then 3 else 0) (if true=true then 4 else 0)))] (by kernel_rfl) (by kernel_rfl) fun hS v=>hend v _ hS)
 case neg =>
  rw [show (decide (64≤d.files.length) || decide (128≤n4))=decide (128≤n4) from by simp [h64]] at hend
  refine T_val (i:=14) hq (some 37) (.bool (decide ((64:Int)≤(d.files.length:Int)))) (.bool false) (congrArg Value.bool (decide_eq_false (by omega))) (by kernel_rfl) (by kernel_rfl) ?_
  refine T_one 4 (by kernel_rfl) fun h=>O_go (nameOk_any x W (by omega)) (by kernel_rfl) ?_
  rintro _ W ⟨rfl,hb⟩
  refine ⟨_,rfl,hb ▸ h,?_⟩
  clear h hb
  refine T_z hq [0,1,2,3,4,5,6,7,8,9,10,11,12,13] (by kernel_rfl) ?_
  refine T_one 7 (by kernel_rfl) fun h=>O_go (refusalIf_any (!nameOkB x) 3 W) (by kernel_rfl) ?_
  rintro _ W ⟨rfl,hb⟩
  refine ⟨_,rfl,hb ▸ h,?_⟩
  clear h hb
  refine T_a hq (List.range 23) (fun w h=>.cons (h.ld) Lds.nil) (by kernel_rfl) ?_
  refine T_one 17 (by kernel_rfl) fun h=>O_go (movesFull_any (some ⟨T,0,none⟩) (some ⟨T,0,none⟩) x2 (some ⟨T,0,none⟩) x4 n2 m2 n4 m4 W) (by kernel_rfl) ?_
  rintro _ W ⟨rfl,hb⟩
  refine ⟨_,rfl,h.on hb,?_⟩
  clear h hb
  refine T_z hq (List.range 23) (by kernel_rfl) ?_
  refine T_one 19 (by kernel_rfl) fun h=>O_go (refusalIf_any (decide (128≤n4)) 4 W) (by kernel_rfl) ?_
  rintro _ W ⟨rfl,hb⟩
  refine ⟨_,rfl,hb ▸ h,?_⟩
  clear h hb
  refine T_one 20 (by kernel_rfl) fun h=>O_val (w':=W.alloc (.cells #[.int .i64 (if (!nameOkB x)=true then 3 else 0),.int .i64 (if decide (128≤n4)=true then 4 else 0)] 3)) (some 43) (.slice (some ⟨W.heap.size,0,none⟩) 2 2) (by kernel_rfl) (by kernel_rfl) (h.on ((Below.refl _ W).alloc (Nat.le_refl _) _)) ?_
  refine T_one 21 (by kernel_rfl) fun h=>O_go (firstRefusal_two W.heap.size (if (!nameOkB x)=true then 3 else 0) (if decide (128≤n4)=true then 4 else 0) _ (two_cells W _ _ _).1 (two_cells W _ _ _).2) (by kernel_rfl) ?_
  rintro _ W1 ⟨rfl,hb⟩
  refine ⟨_,rfl,hb ▸ h,?_⟩
  exact T_z hq (List.range 23) (by kernel_rfl) (T_end 95 [(4,.int .i64 (fr2 (if (!nameOkB x)=true then 3 else 0) (if decide (128≤n4)=true then 4 else 0)))] (by kernel_rfl) (by kernel_rfl) fun hS v=>hend v _ hS)
noncomputable def rf6tOps:Array Oper:=fops Try.f36 6
theorem rf6t_neat:Region.noSelect rf6tOps=true∧neat rf6tOps=true:=⟨by kernel_rfl,by kernel_rfl⟩
theorem rf6t (P:Nat→Prop) (w:World) (d:Dk) (a0:Option Addr) (p0 T B:Nat) (x2:Option Addr) (n2 m2:Nat) (x4:Option Addr) (n4 m4:Nat) (k:Int) (x y:ByteArray) (hnd:(d.files.map Df.name).Nodup) (i:Nat) (hi:i < d.files.length) (hxi:d.files[i].name=x) (W0:World) {l:List Value} (Q:Exit→Act→World→Prop) (hQ:∀ c a d v w,Q (.panic c) (Act.put a d v) w→Q (.panic c) a w) (hS:Rg P w d a0 p0 T B x2 n2 m2 x4 n4 m4 k x y W0.drew) (hl:lookL [(2,.pointer (some ⟨w.heap.size,0,none⟩)),(3,.pointer (some ⟨w.heap.size+1,0,none⟩)),(6,.bool true)] l=(95,[.pointer (some ⟨w.heap.size,0,none⟩),.pointer (some ⟨w.heap.size+1,0,none⟩),.bool true]))
 (hend:∀ v W',Rg P w d a0 p0 T B x2 n2 m2 x4 n4 m4 k x y W'→Q .normal ⟨(frL v 95 [(2,.pointer (some ⟨w.heap.size,0,none⟩)),(3,.pointer (some ⟨w.heap.size+1,0,none⟩)),(7,.bool (decide (IntKind.i64.wrap (20000 - (d.files[i].data.size:Int)) < (y.size:Int))))]).toArray,[]⟩ W'):(Code.region 6 rf6tOps true).wp Try.prog Q ⟨l.toArray,[]⟩ W0:=by
 obtain ⟨v,rfl⟩:=look_fr hl
 have hq:NtQ rf6tOps Q:=⟨rf6t_neat,hQ⟩
 refine T_start (S:=fun W=>Rg P w d a0 p0 T B x2 n2 m2 x4 n4 m4 k x y W) (by kernel_rfl) hS ?_
 clear hl hQ hS
 generalize W0.drew=W
 refine T_a hq (List.range 16) (fun w h=>.cons (ldStr _ _ _ h.m2) (.cons (ldTp _ _ _ h.v0) (.cons (ldStr _ _ _ h.m1) Lds.nil))) (by kernel_rfl) ?_
 refine T_one 9 (by kernel_rfl) fun h=>O_go (hxi ▸ fileOf_any d.files a0 d.files.length p0 T B P W h.pl h.fs h.row h.map hnd i hi) (by kernel_rfl) ?_
 rintro _ W ⟨rfl,hb⟩
 refine ⟨_,rfl,h.on hb,?_⟩
 clear h hb
 refine T_z hq (List.range 16) (by kernel_rfl) ?_
 exact T_end 95 [(2,.pointer (some ⟨w.heap.size,0,none⟩)),(3,.pointer (some ⟨w.heap.size+1,0,none⟩)),(7,.bool (decide (IntKind.i64.wrap (20000 - (d.files[i].data.size:Int)) < (y.size:Int))))] (by kernel_rfl) (by kernel_rfl) fun hS v=>hend v _ hS
noncomputable def rf6fOps:Array Oper:=fops Try.f36 6
theorem rf6f_neat:Region.noSelect rf6fOps=true∧neat rf6fOps=true:=⟨by kernel_rfl,by kernel_rfl⟩
theorem rf6f (P:Nat→Prop) (w:World) (d:Dk) (a0:Option Addr) (p0 T B:Nat) (x2:Option Addr) (n2 m2:Nat) (x4:Option Addr) (n4 m4:Nat) (k:Int) (x y:ByteArray) (W0:World) {l:List Value} (Q:Exit→Act→World→Prop) (hQ:∀ c a d v w,Q (.panic c) (Act.put a d v) w→Q (.panic c) a w) (hS:Rg P w d a0 p0 T B x2 n2 m2 x4 n4 m4 k x y W0.drew) (hl:lookL [(2,.pointer (some ⟨w.heap.size,0,none⟩)),(3,.pointer (some ⟨w.heap.size+1,0,none⟩)),(6,.bool false)] l=(95,[.pointer (some ⟨w.heap.size,0,none⟩),.pointer (some ⟨w.heap.size+1,0,none⟩),.bool false]))
 (hend:∀ v W',Rg P w d a0 p0 T B x2 n2 m2 x4 n4 m4 k x y W'→Q .normal ⟨(frL v 95 [(2,.pointer (some ⟨w.heap.size,0,none⟩)),(3,.pointer (some ⟨w.heap.size+1,0,none⟩)),(7,.bool false)]).toArray,[]⟩ W'):(Code.region 6 rf6fOps true).wp Try.prog Q ⟨l.toArray,[]⟩ W0:=by
 obtain ⟨v,rfl⟩:=look_fr hl
 have hq:NtQ rf6fOps Q:=⟨rf6f_neat,hQ⟩
 refine T_start (S:=fun W=>Rg P w d a0 p0 T B x2 n2 m2 x4 n4 m4 k x y W) (by kernel_rfl) hS ?_
 clear hl hQ hS
 generalize W0.drew=W
 refine T_z hq (List.range 16) (by kernel_rfl) ?_
 exact T_end 95 [(2,.pointer (some ⟨w.heap.size,0,none⟩)),(3,.pointer (some ⟨w.heap.size+1,0,none⟩)),(7,.bool false)] (by kernel_rfl) (by kernel_rfl) fun hS v=>hend v _ hS

theorem lkRun {o:Oper} {a:Act} {X I:Operand} {B:Nat} {ns:List ByteArray} {x:ByteArray} {c:Int} {W:World} (ho:o.op=.lookup 82 X I true) (hX:a.eval X=.map (some B)) (hI:a.eval I=.string x) (hm:NMap W B ns) (hx:x.size≤9223372036854775807) (hc:(nmap ns ns.length).atKey (nkey x) (.lit (.int .i64 0))=.lit (.int .i64 c)):(execOp a.eval o).run Try.prog W=.ok (.value (.tuple #[.int .i64 c,.bool (Maps.has (nmap ns ns.length) (nkey x))])) W:=by
 obtain ⟨c',h1,h2,-⟩:=look_all hm x hx
 rw [hc] at h2
 have e:c'=c:=by simpa using h2.symm
 subst e
 have h3:(Instr.lookup 82 (.map (some B)) (.string x) true).run Try.prog W=.ok (.tuple #[.int .i64 c',.bool (Maps.has (nmap ns ns.length) (nkey x))]) W:=h1 0
 unfold execOp
 simp only [ho,hX,hI,Sem.run_bind,Sem.run_pure,Result.andThen_ok,h3]
theorem Rg.t1 {P:Nat→Prop} {w:World} {d:Dk} {a0:Option Addr} {p0 T B:Nat} {x2:Option Addr} {n2 m2:Nat} {x4:Option Addr} {n4 m4:Nat} {k:Int} {x y:ByteArray} {W:World} (h:Rg P w d a0 p0 T B x2 n2 m2 x4 n4 m4 k x y W):W.cell? ⟨T,1,none⟩=some (.map (some B)):=h.row.cell (i:=1) (by omega)
theorem ldMp (w:World) (ad:Addr) (v:Value) (h:w.cell? ad=some v):(Instr.loadAt 82 (.pointer (some ad))).run Try.prog w=.ok v w:=by
 simp [Instr.loadAt,Instr.sureAddr,loadVar,Try.isAgg82,h,go_sem]
theorem has_file {d:Dk} {x:ByteArray}:Maps.has (nmap (d.files.map Df.name) (d.files.map Df.name).length) (nkey x)=hasB (d.files.map Df.name) x:=by
 have h1:=has_nmap (d.files.map Df.name) x _ (Nat.le_refl _)
 rw [List.take_length] at h1
 have h2:hasB (d.files.map Df.name) x=true↔x∈(d.files.map Df.name):=hasB_iff
 cases hb:hasB (d.files.map Df.name) x with
 | true=>exact h1.2 (h2.1 hb)
 | false=>cases hc:Maps.has (nmap (d.files.map Df.name) (d.files.map Df.name).length) (nkey x) with
   | false=>rfl
   | true=>exact absurd (h2.2 (h1.1 hc)) (by rw [hb];decide)
noncomputable def rf1Ops:Array Oper:=fops Try.f36 1
theorem rf1_neat:Region.noSelect rf1Ops=true∧neat rf1Ops=true:=⟨by kernel_rfl,by kernel_rfl⟩
theorem rf1 (P:Nat→Prop) (w:World) (d:Dk) (a0:Option Addr) (p0 T B:Nat) (x2:Option Addr) (n2 m2:Nat) (x4:Option Addr) (n4 m4:Nat) (k:Int) (x y:ByteArray) (hx:x.size≤9223372036854775807) (c:Int) (hc:(nmap (d.files.map Df.name) (d.files.map Df.name).length).atKey (nkey x) (.lit (.int .i64 0))=.lit (.int .i64 c)) (W0:World) {l:List Value} (Q:Exit→Act→World→Prop) (hQ:∀ c a d v w,Q (.panic c) (Act.put a d v) w→Q (.panic c) a w) (hS:Rg P w d a0 p0 T B x2 n2 m2 x4 n4 m4 k x y W0.drew) (hl:lookL [(2,.pointer (some ⟨w.heap.size,0,none⟩)),(3,.pointer (some ⟨w.heap.size+1,0,none⟩))] l=(95,[.pointer (some ⟨w.heap.size,0,none⟩),.pointer (some ⟨w.heap.size+1,0,none⟩)]))
 (hend:∀ v W',Rg P w d a0 p0 T B x2 n2 m2 x4 n4 m4 k x y W'→Q .normal ⟨(frL v 95 [(2,.pointer (some ⟨w.heap.size,0,none⟩)),(3,.pointer (some ⟨w.heap.size+1,0,none⟩)),(6,.bool (hasB (d.files.map Df.name) x))]).toArray,[]⟩ W'):(Code.region 1 rf1Ops true).wp Try.prog Q ⟨l.toArray,[]⟩ W0:=by
 obtain ⟨v,rfl⟩:=look_fr hl
 have hq:NtQ rf1Ops Q:=⟨rf1_neat,hQ⟩
 refine T_start (S:=fun W=>Rg P w d a0 p0 T B x2 n2 m2 x4 n4 m4 k x y W) (by kernel_rfl) hS ?_
 clear hl hQ hS
 generalize W0.drew=W
 rw [← has_file] at hend
 refine T_a hq (List.range 7) (fun w h=>.cons (ldTp _ _ _ h.v0) (.cons (ldMp _ _ _ h.t1) (.cons (ldStr _ _ _ h.m1) Lds.nil))) (by kernel_rfl) ?_
 refine T_yld hq 7 (some 16) (.tuple #[.int .i64 c,.bool (Maps.has (nmap (d.files.map Df.name) (d.files.map Df.name).length) (nkey x))]) (by kernel_rfl) (by kernel_rfl) (fun w h=>lkRun (B:=B) (X:=.tmp 13) (I:=.tmp 15) (by kernel_rfl) (by kernel_rfl) (by kernel_rfl) h.map hx hc) ?_
 exact T_z hq (List.range 13) (by kernel_rfl) (T_end 95 [(2,.pointer (some ⟨w.heap.size,0,none⟩)),(3,.pointer (some ⟨w.heap.size+1,0,none⟩)),(6,.bool (Maps.has (nmap (d.files.map Df.name) (d.files.map Df.name).length) (nkey x)))] (by kernel_rfl) (by kernel_rfl) fun hS v=>hend v _ hS)
structure Vs (P:Nat→Prop) (d:Dk) (a0:Option Addr) (p0 T B:Nat) (x2:Option Addr) (n2 m2:Nat) (x4:Option Addr) (n4 m4:Nat) (W:World):Prop where
 row:W.rowIs T 84 2 (rowO (.slice a0 d.files.length p0) (.map (some B)))
 map:NMap W B (d.files.map Df.name)
 ns:StrsAt P W (.slice x2 n2 m2) d.names
 fn:FnAt P W (.slice x4 n4 m4) d.moves
 fs:FsAt P W (.slice a0 d.files.length p0) d.files
 lt:∀ b,P b→b < W.heap.size
theorem Vs.on {P:Nat→Prop} {d:Dk} {a0:Option Addr} {p0 T B:Nat} {x2:Option Addr} {n2 m2:Nat} {x4:Option Addr} {n4 m4:Nat} {W W':World} (h:Vs P d a0 p0 T B x2 n2 m2 x4 n4 m4 W) (hb:Below W.heap.size W W'):Vs P d a0 p0 T B x2 n2 m2 x4 n4 m4 W' :=
 have hp:∀ b,P b→W'.heap[b]? = W.heap[b]? := fun b hp=>hb.block b (h.lt b hp)
 ⟨h.row.of_block (hb.block _ h.row.lt),World.ownsMap.kept (row:=none) h.map ⟨hb.os,hb.tape,hb.output,hb.size,fun b hb' _=>hb.block b hb'⟩ (by simp),h.ns.carry hp (fun _ h=>h),h.fn.carry hp (fun _ h=>h),h.fs.carry hp (fun _ h=>h),fun b hp=>Nat.lt_of_lt_of_le (h.lt b hp) hb.size⟩
theorem Rg.start {P:Nat→Prop} {w:World} {d:Dk} {a0:Option Addr} {p0 T B:Nat} {x2:Option Addr} {n2 m2:Nat} {x4:Option Addr} {n4 m4:Nat} {k:Int} {x y:ByteArray} (h:Vs P d a0 p0 T B x2 n2 m2 x4 n4 m4 w):Rg P w d a0 p0 T B x2 n2 m2 x4 n4 m4 k x y ((w.alloc (.cells #[.pointer (some ⟨T,0,none⟩),.pointer (some ⟨T,0,none⟩),.slice x2 n2 m2,.pointer (some ⟨T,0,none⟩),.slice x4 n4 m4] 71)).alloc (.cells #[.int .i64 k,.string x,.string y] 29)):=by
 have hb:Below w.heap.size w ((w.alloc (.cells #[.pointer (some ⟨T,0,none⟩),.pointer (some ⟨T,0,none⟩),.slice x2 n2 m2,.pointer (some ⟨T,0,none⟩),.slice x4 n4 m4] 71)).alloc (.cells #[.int .i64 k,.string x,.string y] 29)):=((Below.refl _ _).alloc (Nat.le_refl _) _).alloc (by simp) _
 have h2:=h.on hb
 refine ⟨?_,?_,h2.row,h2.map,h2.ns,h2.fn,h2.fs,h.lt,hb⟩
 · refine World.rowIs.alloc ?_ _
   exact World.rowIs_alloc w #[.pointer (some ⟨T,0,none⟩),.pointer (some ⟨T,0,none⟩),.slice x2 n2 m2,.pointer (some ⟨T,0,none⟩),.slice x4 n4 m4] 71 _ (fun i hi=>by
    have hi':i < 5:=by simpa using hi
    rcases (show i=0∨i=1∨i=2∨i=3∨i=4 by omega) with rfl | rfl | rfl | rfl | rfl <;> rfl)
 · have:=row3_alloc (w.alloc (.cells #[.pointer (some ⟨T,0,none⟩),.pointer (some ⟨T,0,none⟩),.slice x2 n2 m2,.pointer (some ⟨T,0,none⟩),.slice x4 n4 m4] 71)) (.int .i64 k) (.string x) (.string y) 29
   rw [World.size_alloc] at this;exact this
theorem refusal_gone (P:Nat→Prop) (w:World) (d:Dk) (a0:Option Addr) (p0 T B:Nat) (x2:Option Addr) (n2 m2:Nat) (x4:Option Addr) (n4 m4:Nat) (x y:ByteArray) (h:Vs P d a0 p0 T B x2 n2 m2 x4 n4 m4 w) (hx:x.size≤1048576) (l2:List ByteArray) (hl2:mfold d.names d.moves=some l2) (hn1:d.names.length≤1000) (hn2:d.moves.length≤1000):Calls Try.prog 36 #[.agg #[.pointer (some ⟨T,0,none⟩),.pointer (some ⟨T,0,none⟩),.slice x2 n2 m2,.pointer (some ⟨T,0,none⟩),.slice x4 n4 m4],.agg #[.int .i64 4,.string x,.string y]] w fun e w'=>e=.returned (.int .i64 (fr2 (if (!hasB l2 x)=true then 2 else 0) (if decide (128≤n4)=true then 4 else 0)))∧Below w.heap.size w w':=by
 obtain ⟨c,hlk,hc,-⟩:=look_all h.map x (by omega)
 have HC:=xH hc
 have HG:=xH (Rg.start (k:=4) (x:=x) (y:=y) h)
 clear hlk hc h
 go_enter Try.func36,Try.ntmps36
 go_upto_region 1 with fail
 generalize (w.alloc _).alloc _=W0 at HG ⊢
 refine wp_swap (c':=Code.region 1 rf1Ops true) (by kernel_rfl) ?_
 refine wp_region_noPanic ?_
 refine rf1 P w d a0 p0 T B x2 n2 m2 x4 n4 m4 4 x y (by omega) c (xU HC) _ _ (fun _ _ _ _ _ h=>h) ((xU HG).on (drewB _)) (by kernel_rfl) ?_
 intro v W1 h1
 refine NoPanic.normal ?_
 simp only [frL_eq,frG,List.lookup,Nat.reduceBEq,Nat.reduceAdd,Option.getD_some,Option.getD_none]
 have HG1:=xH h1
 have m0:=h1.b1.cell (i:=0) (by omega)
 simp only [row3] at m0
 clear h1 HG HC
 go_upto_region 11 with fail
 refine wp_swap (c':=Code.region 11 rf11Ops true) (by kernel_rfl) ?_
 refine wp_region_noPanic ?_
 refine rf11 P w d a0 p0 T B x2 n2 m2 x4 n4 m4 4 x y l2 hl2 hn1 hn2 _ _ (fun _ _ _ _ _ h=>h) ((xU HG1).on (drewB _)) (by kernel_rfl) ?_
 intro v2 W2 h2
 refine NoPanic.normal ?_
 simp only [frL_eq,frG,List.lookup,Nat.reduceBEq,Nat.reduceAdd,Option.getD_some,Option.getD_none]
 have HB2:=xH h2.bel
 clear h2 HG1 m0
 go_wp2_with fail
 all_goals
  go_ret
  exact ⟨rfl,xU HB2⟩
theorem refusal_make (P:Nat→Prop) (w:World) (d:Dk) (a0:Option Addr) (p0 T B:Nat) (x2:Option Addr) (n2 m2:Nat) (x4:Option Addr) (n4 m4:Nat) (x y:ByteArray) (h:Vs P d a0 p0 T B x2 n2 m2 x4 n4 m4 w) (hx:x.size≤1048576):Calls Try.prog 36 #[.agg #[.pointer (some ⟨T,0,none⟩),.pointer (some ⟨T,0,none⟩),.slice x2 n2 m2,.pointer (some ⟨T,0,none⟩),.slice x4 n4 m4],.agg #[.int .i64 1,.string x,.string y]] w fun e w'=>e=.returned (.int .i64 (fr2 (if (hasB (d.files.map Df.name) x || !nameOkB x)=true then 3 else 0) (if (decide (64≤d.files.length) || decide (128≤n4))=true then 4 else 0)))∧Below w.heap.size w w':=by
 obtain ⟨c,hlk,hc,-⟩:=look_all h.map x (by omega)
 have HC:=xH hc
 have HG:=xH (Rg.start (k:=1) (x:=x) (y:=y) h)
 clear hlk hc h
 go_enter Try.func36,Try.ntmps36
 go_upto_region 1 with fail
 generalize (w.alloc _).alloc _=W0 at HG ⊢
 refine wp_swap (c':=Code.region 1 rf1Ops true) (by kernel_rfl) ?_
 refine wp_region_noPanic ?_
 refine rf1 P w d a0 p0 T B x2 n2 m2 x4 n4 m4 1 x y (by omega) c (xU HC) _ _ (fun _ _ _ _ _ h=>h) ((xU HG).on (drewB _)) (by kernel_rfl) ?_
 intro v W1 h1
 refine NoPanic.normal ?_
 simp only [frL_eq,frG,List.lookup,Nat.reduceBEq,Nat.reduceAdd,Option.getD_some,Option.getD_none]
 have HG1:=xH h1
 have m0:=h1.b1.cell (i:=0) (by omega)
 simp only [row3] at m0
 clear h1 HG HC
 cases hb:hasB (d.files.map Df.name) x with
 | true =>
   go_upto_region 4 with fail
   refine wp_swap (c':=Code.region 4 rf4tOps true) (by kernel_rfl) ?_
   refine wp_region_noPanic ?_
   refine rf4t P w d a0 p0 T B x2 n2 m2 x4 n4 m4 1 x y _ _ (fun _ _ _ _ _ h=>h) ((xU HG1).on (drewB _)) (by kernel_rfl) ?_
   intro v2 W2 h2
   refine NoPanic.normal ?_
   simp only [frL_eq,frG,List.lookup,Nat.reduceBEq,Nat.reduceAdd,Option.getD_some,Option.getD_none]
   have HB2:=xH h2.bel
   clear h2 HG1 m0
   go_wp2_with fail
   all_goals
    go_ret
    exact ⟨rfl,xU HB2⟩
 | false =>
   go_upto_region 4 with fail
   refine wp_swap (c':=Code.region 4 rf4fOps true) (by kernel_rfl) ?_
   refine wp_region_noPanic ?_
   refine rf4f P w d a0 p0 T B x2 n2 m2 x4 n4 m4 1 x y hx _ _ (fun _ _ _ _ _ h=>h) ((xU HG1).on (drewB _)) (by kernel_rfl) ?_
   intro v2 W2 h2
   refine NoPanic.normal ?_
   simp only [frL_eq,frG,List.lookup,Nat.reduceBEq,Nat.reduceAdd,Option.getD_some,Option.getD_none]
   have HB2:=xH h2.bel
   clear h2 HG1 m0
   go_wp2_with fail
   all_goals
    go_ret
    exact ⟨rfl,xU HB2⟩
noncomputable def rf7Ops:Array Oper:=fops Try.f36 7
theorem rf7 (P:Nat→Prop) (w:World) (d:Dk) (a0:Option Addr) (p0 T B:Nat) (x2:Option Addr) (n2 m2:Nat) (x4:Option Addr) (n4 m4:Nat) (k:Int) (x y:ByteArray) (l2:List ByteArray) (hl2:mfold d.names d.moves=some l2) (hn1:d.names.length≤1000) (hn2:d.moves.length≤1000) (nr:Bool) (W:World) {l:List Value} (Q:Exit→Act→World→Prop) (h:Rg P w d a0 p0 T B x2 n2 m2 x4 n4 m4 k x y W) (hl:lookL [(2,.pointer (some ⟨w.heap.size,0,none⟩)),(3,.pointer (some ⟨w.heap.size+1,0,none⟩)),(7,.bool nr)] l=(95,[.pointer (some ⟨w.heap.size,0,none⟩),.pointer (some ⟨w.heap.size+1,0,none⟩),.bool nr])) (hend:∀ v W',Rg P w d a0 p0 T B x2 n2 m2 x4 n4 m4 k x y W'→Q .normal ⟨(frL v 95 [(4,.int .i64 (fr2 (if (!hasB l2 x)=true then 2 else 0) (if nr=true then 4 else 0)))]).toArray,[]⟩ W'):wpFrom Try.prog rf7Ops Q 0 ⟨l.toArray,[]⟩ W:=by
 obtain ⟨v,rfl⟩:=look_fr hl
 clear hl
 refine from_a 3 (.cons h.ld (.cons (ldStr _ _ _ h.m1) Lds.nil)) (by kernel_rfl) ?_
 refine F_go (isThere_any d.names d.moves (some ⟨T,0,none⟩) (some ⟨T,0,none⟩) x2 n2 m2 (some ⟨T,0,none⟩) x4 n4 m4 P W h.pl h.ns h.fn hn1 hn2 l2 hl2 x) (by kernel_rfl) ?_
 rintro _ W1 ⟨rfl,hb⟩
 refine ⟨_,rfl,?_⟩
 have h1:=h.on hb
 clear hb h
 refine from_a 1 Lds.nil (by kernel_rfl) ?_
 refine F_go (refusalIf_any (!hasB l2 x) 2 W1) (by kernel_rfl) ?_
 rintro _ W2 ⟨rfl,hb⟩
 refine ⟨_,rfl,?_⟩
 have h2:Rg P w d a0 p0 T B x2 n2 m2 x4 n4 m4 k x y W2:=hb ▸ h1
 clear hb h1
 refine from_a 1 Lds.nil (by kernel_rfl) ?_
 refine F_go (refusalIf_any nr 4 W2) (by kernel_rfl) ?_
 rintro _ W3 ⟨rfl,hb⟩
 refine ⟨_,rfl,?_⟩
 have h3:Rg P w d a0 p0 T B x2 n2 m2 x4 n4 m4 k x y W3:=hb ▸ h2
 clear hb h2
 refine F_new (w':=W3.alloc (.cells #[.int .i64 (if (!hasB l2 x)=true then 2 else 0),.int .i64 (if nr=true then 4 else 0)] 3)) (some 70) (.slice (some ⟨W3.heap.size,0,none⟩) 2 2) (by kernel_rfl) (by kernel_rfl) (by kernel_rfl) ?_
 refine F_go (firstRefusal_two W3.heap.size (if (!hasB l2 x)=true then 2 else 0) (if nr=true then 4 else 0) _ (two_cells W3 _ _ _).1 (two_cells W3 _ _ _).2) (by kernel_rfl) ?_
 rintro _ W4 ⟨rfl,hb⟩
 refine ⟨_,rfl,?_⟩
 have h4:Rg P w d a0 p0 T B x2 n2 m2 x4 n4 m4 k x y W4:=hb ▸ h3.on ((Below.refl _ W3).alloc (Nat.le_refl _) _)
 exact from_q 1 95 [(4,.int .i64 (fr2 (if (!hasB l2 x)=true then 2 else 0) (if nr=true then 4 else 0)))] [] (by kernel_rfl) Lds.nil fun v=>from_end (by kernel_rfl) (hend v _ h4)
theorem refusal_addN (P:Nat→Prop) (w:World) (d:Dk) (a0:Option Addr) (p0 T B:Nat) (x2:Option Addr) (n2 m2:Nat) (x4:Option Addr) (n4 m4:Nat) (x y:ByteArray) (h:Vs P d a0 p0 T B x2 n2 m2 x4 n4 m4 w) (hx:x.size≤1048576) (l2:List ByteArray) (hl2:mfold d.names d.moves=some l2) (hn1:d.names.length≤1000) (hn2:d.moves.length≤1000) (hb:hasB (d.files.map Df.name) x=false):Calls Try.prog 36 #[.agg #[.pointer (some ⟨T,0,none⟩),.pointer (some ⟨T,0,none⟩),.slice x2 n2 m2,.pointer (some ⟨T,0,none⟩),.slice x4 n4 m4],.agg #[.int .i64 2,.string x,.string y]] w fun e w'=>e=.returned (.int .i64 (fr2 (if (!hasB l2 x)=true then 2 else 0) (if false=true then 4 else 0)))∧Below w.heap.size w w':=by
 obtain ⟨c,hlk,hc,-⟩:=look_all h.map x (by omega)
 have HC:=xH hc
 have HG:=xH (Rg.start (k:=2) (x:=x) (y:=y) h)
 clear hlk hc h
 go_enter Try.func36,Try.ntmps36
 go_upto_region 1 with fail
 generalize (w.alloc _).alloc _=W0 at HG ⊢
 refine wp_swap (c':=Code.region 1 rf1Ops true) (by kernel_rfl) ?_
 refine wp_region_noPanic ?_
 refine rf1 P w d a0 p0 T B x2 n2 m2 x4 n4 m4 2 x y (by omega) c (xU HC) _ _ (fun _ _ _ _ _ h=>h) ((xU HG).on (drewB _)) (by kernel_rfl) ?_
 intro v W1 h1
 refine NoPanic.normal ?_
 simp only [frL_eq,frG,List.lookup,Nat.reduceBEq,Nat.reduceAdd,Option.getD_some,Option.getD_none]
 have HG1:=xH h1
 have m0:=h1.b1.cell (i:=0) (by omega)
 simp only [row3] at m0
 clear h1 HG HC
 rw [hb]
 go_upto_region 6 with fail
 refine wp_swap (c':=Code.region 6 rf6fOps true) (by kernel_rfl) ?_
 refine wp_region_noPanic ?_
 refine rf6f P w d a0 p0 T B x2 n2 m2 x4 n4 m4 2 x y _ _ (fun _ _ _ _ _ h=>h) ((xU HG1).on (drewB _)) (by kernel_rfl) ?_
 intro v2 W2 h2
 refine NoPanic.normal ?_
 simp only [frL_eq,frG,List.lookup,Nat.reduceBEq,Nat.reduceAdd,Option.getD_some,Option.getD_none]
 have HG2:=xH h2
 clear h2 HG1 m0
 go_upto_region 7 with fail
 refine wp_swap (c':=Code.region 7 rf7Ops false) (by kernel_rfl) ?_
 refine wp_region_from ?_
 refine rf7 P w d a0 p0 T B x2 n2 m2 x4 n4 m4 2 x y l2 hl2 hn1 hn2 false W2 _ (xU HG2) (by kernel_rfl) ?_
 intro v3 W3 h3
 simp only [frL_eq,frG,List.lookup,Nat.reduceBEq,Nat.reduceAdd,Option.getD_some,Option.getD_none]
 have HB3:=xH h3.bel
 clear h3 HG2
 go_wp2_with fail
 all_goals
  go_ret
  exact ⟨rfl,xU HB3⟩
theorem refusal_addY (P:Nat→Prop) (w:World) (d:Dk) (a0:Option Addr) (p0 T B:Nat) (x2:Option Addr) (n2 m2:Nat) (x4:Option Addr) (n4 m4:Nat) (x y:ByteArray) (h:Vs P d a0 p0 T B x2 n2 m2 x4 n4 m4 w) (hx:x.size≤1048576) (l2:List ByteArray) (hl2:mfold d.names d.moves=some l2) (hn1:d.names.length≤1000) (hn2:d.moves.length≤1000) (hnd:(d.files.map Df.name).Nodup) (i:Nat) (hi:i < d.files.length) (hxi:d.files[i].name=x):Calls Try.prog 36 #[.agg #[.pointer (some ⟨T,0,none⟩),.pointer (some ⟨T,0,none⟩),.slice x2 n2 m2,.pointer (some ⟨T,0,none⟩),.slice x4 n4 m4],.agg #[.int .i64 2,.string x,.string y]] w fun e w'=>e=.returned (.int .i64 (fr2 (if (!hasB l2 x)=true then 2 else 0) (if (decide (IntKind.i64.wrap (20000 - (d.files[i].data.size:Int)) < (y.size:Int)))=true then 4 else 0)))∧Below w.heap.size w w':=by
 have hb:hasB (d.files.map Df.name) x=true:=hasB_iff.2 (by rw [← hxi];exact List.mem_map.2 ⟨_,List.getElem_mem hi,rfl⟩)
 obtain ⟨c,hlk,hc,-⟩:=look_all h.map x (by omega)
 have HC:=xH hc
 have HG:=xH (Rg.start (k:=2) (x:=x) (y:=y) h)
 clear hlk hc h
 go_enter Try.func36,Try.ntmps36
 go_upto_region 1 with fail
 generalize (w.alloc _).alloc _=W0 at HG ⊢
 refine wp_swap (c':=Code.region 1 rf1Ops true) (by kernel_rfl) ?_
 refine wp_region_noPanic ?_
 refine rf1 P w d a0 p0 T B x2 n2 m2 x4 n4 m4 2 x y (by omega) c (xU HC) _ _ (fun _ _ _ _ _ h=>h) ((xU HG).on (drewB _)) (by kernel_rfl) ?_
 intro v W1 h1
 refine NoPanic.normal ?_
 simp only [frL_eq,frG,List.lookup,Nat.reduceBEq,Nat.reduceAdd,Option.getD_some,Option.getD_none]
 have HG1:=xH h1
 have m0:=h1.b1.cell (i:=0) (by omega)
 simp only [row3] at m0
 clear h1 HG HC
 rw [hb]
 clear hb
 go_upto_region 6 with fail
 refine wp_swap (c':=Code.region 6 rf6tOps true) (by kernel_rfl) ?_
 refine wp_region_noPanic ?_
 refine rf6t P w d a0 p0 T B x2 n2 m2 x4 n4 m4 2 x y hnd i hi hxi _ _ (fun _ _ _ _ _ h=>h) ((xU HG1).on (drewB _)) (by kernel_rfl) ?_
 intro v2 W2 h2
 refine NoPanic.normal ?_
 simp only [frL_eq,frG,List.lookup,Nat.reduceBEq,Nat.reduceAdd,Option.getD_some,Option.getD_none]
 have HG2:=xH h2
 clear h2 HG1 m0
 go_upto_region 7 with fail
 refine wp_swap (c':=Code.region 7 rf7Ops false) (by kernel_rfl) ?_
 refine wp_region_from ?_
 refine rf7 P w d a0 p0 T B x2 n2 m2 x4 n4 m4 2 x y l2 hl2 hn1 hn2 (decide (IntKind.i64.wrap (20000 - (d.files[i].data.size:Int)) < (y.size:Int))) W2 _ (xU HG2) (by kernel_rfl) ?_
 intro v3 W3 h3
 simp only [frL_eq,frG,List.lookup,Nat.reduceBEq,Nat.reduceAdd,Option.getD_some,Option.getD_none]
 have HB3:=xH h3.bel
 clear h3 HG2
 go_wp2_with fail
 all_goals
  go_ret
  exact ⟨rfl,xU HB3⟩
end Go.Proofs.Yteikmbkljkkjiaa
