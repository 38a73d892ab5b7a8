/- A part. -/
import Derived.Test.YteikmbkljkkjiaaPart29
namespace Go.Proofs.Yteikmbkljkkjiaa
open Go Go.RowKit
set_option maxRecDepth 100000
set_option maxHeartbeats 3200000
theorem wrS8 {a:Nat} (h:a≤20000):Value.int .i64 (IntKind.i64.wrap (20000 - (a:Int)))=.int .i64 ((20000 - a:Nat):Int):=by
 congr 1
 rw [IntKind.wrap_i64]
 omega
theorem last_store3 {P:Program} {ops:Array Oper} {Q:Exit→Act→World→Prop} {l:List Value} {ds:List Deferred} {w:World} (ty:TypeId) (x y:Operand) (b o:Nat) (cells:Array Value) (hb:opB ops (ops.size - 1) none=true) (ho:(opI ops (ops.size - 1)).op=.store ty x y) (hxy:((⟨l.toArray,ds⟩:Act).eval x,(⟨l.toArray,ds⟩:Act).eval y)=(.pointer (some ⟨b,o,none⟩),.agg cells)) (ht:w.there b o cells.size) (hi:(P.info? ty).map (·.size)=some cells.size) (h1:cells.all (·.oneCell')=true) (H:Q .normal ⟨l.toArray,ds⟩ (w.setCells b o cells.toList)):QL P ops Q .normal ⟨l.toArray,ds⟩ w:=by
 obtain ⟨hx,hy⟩:=Prod.mk.inj hxy
 exact op_store_mid none ty x y b o cells hb ho hx hy ht hi h1 H
noncomputable def rd3Ops:Array Oper:=fops Try.f6 3
theorem rd3_neat:Region.noSelect rd3Ops.pop=true∧neat rd3Ops.pop=true:=⟨by kernel_rfl,by kernel_rfl⟩
theorem rd3_last:lastB rd3Ops=true:=by kernel_rfl
theorem rd3 (R A2 A3 B q:Nat) (v:Value) (b:List UInt8) (c:C3) (W0:World) {l:List Value} (Q:Exit→Act→World→Prop) (hQ:∀ c a d v w,Q (.panic c) (Act.put a d v) w→Q (.panic c) a w) (hD0:DR R W0.drew v b q) (hB:W0.drew.rowIs B 27 3 (row3 c.c0 c.c1 c.c2)) (hBR:B≠R) (HPK:∀ W,DR R W v b q→Calls Try.prog 24 #[.pointer (some ⟨R,0,none⟩),.int .i64 3] W fun e w'=>PickEnd R W w' v b q 3 e) (HWR:∀ W (more:ByteArray),more.size≤1000000→DR R W v b (q+1)→But R W0.drew W→Calls Try.prog 22 #[.pointer (some ⟨R,0,none⟩),.agg #[c.c0,c.c1,c.c2],.string more] W fun e w'=>WdEnd R W w' v b (q+1) e)
 (hl:lookL [(2,.pointer (some ⟨A2,0,none⟩)),(3,.pointer (some ⟨A3,0,none⟩)),(4,.pointer (some ⟨R,0,none⟩)),(5,.pointer (some ⟨B,0,none⟩))] l=(20,([(2,.pointer (some ⟨A2,0,none⟩)),(3,.pointer (some ⟨A3,0,none⟩)),(4,.pointer (some ⟨R,0,none⟩)),(5,.pointer (some ⟨B,0,none⟩))]:List (Nat × Value)).map (·.2)))
 (hend:∀ (u:Nat→Value) (W:World) (b6:Nat) (x:Wr),x.x.size≤1000→x.y.size≤1000000→(W0.drew.heap.size≤b6∧b6≠R)→W.rowIs b6 29 3 (row3 (.int .i64 0) (.string ⟨#[]⟩) (.string ⟨#[]⟩))→DR R W v b (q+1+1+1+1)→But R W0.drew W→Q .normal ⟨(frL u 20 [(2,.pointer (some ⟨A2,0,none⟩)),(3,.pointer (some ⟨A3,0,none⟩)),(5,.pointer (some ⟨B,0,none⟩)),(6,.pointer (some ⟨b6,0,none⟩))]).toArray,[]⟩ (W.setCells b6 0 [.int .i64 x.k,.string x.x,.string x.y])):(Code.region 3 rd3Ops true).wp Try.prog Q ⟨l.toArray,[]⟩ W0:=by
 obtain ⟨v0,rfl⟩:=look_fr hl
 have hq:NtQ rd3Ops.pop (QL Try.prog rd3Ops Q):=nq_last rd3_neat hQ
 refine T_start_last (S:=fun W=>But R W0.drew W) (by kernel_rfl) rd3_last (But.refl _ _) ?_
 clear hl hQ
 generalize W0.drew=V at hD0 hB HWR hend ⊢
 have N31:∀ (u:Nat→Value) (W:World) (kk:Nat) (hkk:kk < 3) (more:ByteArray) (hmo:more.size≤1000000) (x:Wr) (hx:x.x.size≤1000) (hy:x.y.size≤1000000) (b6:Nat) (hb6:V.heap.size≤b6∧b6≠R) (h6:W.rowIs b6 29 3 (row3 (.int .i64 0) (.string ⟨#[]⟩) (.string ⟨#[]⟩))) (hD:DR R W v b (q+1+1+1+1)) (hBt:But R V W),wpS Try.prog rd3Ops.pop (QL Try.prog rd3Ops Q) (fun W=>But R V W) (unl 8 [],frL u 20 [(2,.pointer (some ⟨A2,0,none⟩)),(3,.pointer (some ⟨A3,0,none⟩)),(4,.pointer (some ⟨R,0,none⟩)),(5,.pointer (some ⟨B,0,none⟩)),(6,.pointer (some ⟨b6,0,none⟩)),(11,.pointer (some ⟨R,0,none⟩)),(12,.agg #[c.c0,c.c1,c.c2]),(13,.pointer (some ⟨R,0,none⟩)),(14,.int .i64 (kk:Nat)),(15,.int .i64 ((20000 - kk:Nat):Int)),(16,.string more),(17,.agg #[.int .i64 x.k,.string x.x,.string x.y])]) [] W:=by
  intro u W kk hkk more hmo x hx hy b6 hb6 h6 hD hBt
  obtain ⟨s1,s2,s3,s4⟩:=set3 W b6 (.int .i64 x.k) (.string x.x) (.string x.y)
  exact T_end 20 [(2,.pointer (some ⟨A2,0,none⟩)),(3,.pointer (some ⟨A3,0,none⟩)),(5,.pointer (some ⟨B,0,none⟩)),(6,.pointer (some ⟨b6,0,none⟩)),(17,.agg #[.int .i64 x.k,.string x.x,.string x.y])] (by kernel_rfl) (by kernel_rfl) fun _ u=>last_store3 29 (.tmp 6) (.tmp 17) b6 0 #[.int .i64 x.k,.string x.x,.string x.y] (by kernel_rfl) (by kernel_rfl) (by kernel_rfl) (there3 h6) info3W (by rw [← Array.all_toList];rfl) (look_end (N:=20) (s:=[(2,.pointer (some ⟨A2,0,none⟩)),(3,.pointer (some ⟨A3,0,none⟩)),(5,.pointer (some ⟨B,0,none⟩)),(6,.pointer (some ⟨b6,0,none⟩))]) (by kernel_rfl) fun u=>hend u W b6 x hx hy hb6 h6 hD hBt)
 have N21:∀ (u:Nat→Value) (W:World) (kk:Nat) (hkk:kk < 3) (more:ByteArray) (hmo:more.size≤1000000) (b6:Nat) (hb6:V.heap.size≤b6∧b6≠R) (h6:W.rowIs b6 29 3 (row3 (.int .i64 0) (.string ⟨#[]⟩) (.string ⟨#[]⟩))) (hD:DR R W v b (q+1)) (hBt:But R V W),wpS Try.prog rd3Ops.pop (QL Try.prog rd3Ops Q) (fun W=>But R V W) (unl 8 [6],frL u 20 [(2,.pointer (some ⟨A2,0,none⟩)),(3,.pointer (some ⟨A3,0,none⟩)),(4,.pointer (some ⟨R,0,none⟩)),(5,.pointer (some ⟨B,0,none⟩)),(6,.pointer (some ⟨b6,0,none⟩)),(11,.pointer (some ⟨R,0,none⟩)),(12,.agg #[c.c0,c.c1,c.c2]),(13,.pointer (some ⟨R,0,none⟩)),(14,.int .i64 (kk:Nat)),(15,.int .i64 ((20000 - kk:Nat):Int)),(16,.string more)]) [] W:=by
  intro u W kk hkk more hmo b6 hb6 h6 hD hBt
  refine T_one 6 (by kernel_rfl) fun _=>?_
  refine O_go (HWR W more hmo hD hBt) (by kernel_rfl) ?_
  rintro e w1 ⟨x,rfl,hx,hy,HD,HB⟩
  refine ⟨_,rfl,hBt.trans HB.out,?_⟩
  exact T_fr 8 20 [] [(2,.pointer (some ⟨A2,0,none⟩)),(3,.pointer (some ⟨A3,0,none⟩)),(4,.pointer (some ⟨R,0,none⟩)),(5,.pointer (some ⟨B,0,none⟩)),(6,.pointer (some ⟨b6,0,none⟩)),(11,.pointer (some ⟨R,0,none⟩)),(12,.agg #[c.c0,c.c1,c.c2]),(13,.pointer (some ⟨R,0,none⟩)),(14,.int .i64 (kk:Nat)),(15,.int .i64 ((20000 - kk:Nat):Int)),(16,.string more),(17,.agg #[.int .i64 x.k,.string x.x,.string x.y])] (by kernel_rfl) fun u=>N31 u w1 kk hkk more hmo x hx hy b6 hb6 (h6.of_block (HB.out.at h6.lt hb6.2)) HD.out (hBt.trans HB.out)
 have N11:∀ (u:Nat→Value) (W:World) (kk:Nat) (hkk:kk < 3) (b6:Nat) (hb6:V.heap.size≤b6∧b6≠R) (h6:W.rowIs b6 29 3 (row3 (.int .i64 0) (.string ⟨#[]⟩) (.string ⟨#[]⟩))) (hD:DR R W v b (q+1)) (hBt:But R V W),wpS Try.prog rd3Ops.pop (QL Try.prog rd3Ops Q) (fun W=>But R V W) (unl 8 [5,6],frL u 20 [(2,.pointer (some ⟨A2,0,none⟩)),(3,.pointer (some ⟨A3,0,none⟩)),(4,.pointer (some ⟨R,0,none⟩)),(5,.pointer (some ⟨B,0,none⟩)),(6,.pointer (some ⟨b6,0,none⟩)),(11,.pointer (some ⟨R,0,none⟩)),(12,.agg #[c.c0,c.c1,c.c2]),(13,.pointer (some ⟨R,0,none⟩)),(14,.int .i64 (kk:Nat)),(15,.int .i64 ((20000 - kk:Nat):Int))]) [] W:=by
  intro u W kk hkk b6 hb6 h6 hD hBt
  refine T_one 5 (by kernel_rfl) fun _=>?_
  refine O_go (l6Many_huge W ⟨#[119]⟩ (20000 - kk) (by decide) (by omega)) (by kernel_rfl) ?_
  rintro e w1 ⟨more,rfl,hmo',rfl⟩
  have hmo:more.size≤1000000:=by omega
  refine ⟨_,rfl,hBt,?_⟩
  exact T_fr 8 20 [6] [(2,.pointer (some ⟨A2,0,none⟩)),(3,.pointer (some ⟨A3,0,none⟩)),(4,.pointer (some ⟨R,0,none⟩)),(5,.pointer (some ⟨B,0,none⟩)),(6,.pointer (some ⟨b6,0,none⟩)),(11,.pointer (some ⟨R,0,none⟩)),(12,.agg #[c.c0,c.c1,c.c2]),(13,.pointer (some ⟨R,0,none⟩)),(14,.int .i64 (kk:Nat)),(15,.int .i64 ((20000 - kk:Nat):Int)),(16,.string more)] (by kernel_rfl) fun u=>N21 u w1 kk hkk more hmo b6 hb6 h6 hD hBt
 have N01:∀ (u:Nat→Value) (W:World) (b6:Nat) (hb6:V.heap.size≤b6∧b6≠R) (h6:W.rowIs b6 29 3 (row3 (.int .i64 0) (.string ⟨#[]⟩) (.string ⟨#[]⟩))) (hD:DR R W v b (q )) (hBt:But R V W),wpS Try.prog rd3Ops.pop (QL Try.prog rd3Ops Q) (fun W=>But R V W) (unl 8 [3,4,5,6],frL u 20 [(2,.pointer (some ⟨A2,0,none⟩)),(3,.pointer (some ⟨A3,0,none⟩)),(4,.pointer (some ⟨R,0,none⟩)),(5,.pointer (some ⟨B,0,none⟩)),(6,.pointer (some ⟨b6,0,none⟩)),(11,.pointer (some ⟨R,0,none⟩)),(12,.agg #[c.c0,c.c1,c.c2]),(13,.pointer (some ⟨R,0,none⟩))]) [] W:=by
  intro u W b6 hb6 h6 hD hBt
  refine T_one 3 (by kernel_rfl) fun _=>?_
  refine O_go (HPK W hD) (by kernel_rfl) ?_
  rintro e w1 ⟨kk,rfl,hkk,HD,HB⟩
  refine ⟨_,rfl,hBt.trans HB.out,?_⟩
  refine T_val (i:=4) hq (some 15) (.int .i64 (IntKind.i64.wrap (20000 - (kk:Int)))) (.int .i64 ((20000 - kk:Nat):Int)) (wrS8 (by omega)) (by kernel_rfl) (by kernel_rfl) ?_
  exact T_fr 8 20 [5,6] [(2,.pointer (some ⟨A2,0,none⟩)),(3,.pointer (some ⟨A3,0,none⟩)),(4,.pointer (some ⟨R,0,none⟩)),(5,.pointer (some ⟨B,0,none⟩)),(6,.pointer (some ⟨b6,0,none⟩)),(11,.pointer (some ⟨R,0,none⟩)),(12,.agg #[c.c0,c.c1,c.c2]),(13,.pointer (some ⟨R,0,none⟩)),(14,.int .i64 (kk:Nat)),(15,.int .i64 ((20000 - kk:Nat):Int))] (by kernel_rfl) fun u=>N11 u w1 kk hkk b6 hb6 (h6.of_block (HB.out.at h6.lt hb6.2)) HD.out (hBt.trans HB.out)
 have N30:∀ (u:Nat→Value) (W:World) (kk:Nat) (hkk:kk < 3) (more:ByteArray) (hmo:more.size≤1000000) (x:Wr) (hx:x.x.size≤1000) (hy:x.y.size≤1000000) (hD:DR R W v b (q+1+1+1+1)) (hBt:But R V W),wpS Try.prog rd3Ops.pop (QL Try.prog rd3Ops Q) (fun W=>But R V W) (unl 8 [7],frL u 20 [(2,.pointer (some ⟨A2,0,none⟩)),(3,.pointer (some ⟨A3,0,none⟩)),(4,.pointer (some ⟨R,0,none⟩)),(5,.pointer (some ⟨B,0,none⟩)),(11,.pointer (some ⟨R,0,none⟩)),(12,.agg #[c.c0,c.c1,c.c2]),(13,.pointer (some ⟨R,0,none⟩)),(14,.int .i64 (kk:Nat)),(15,.int .i64 ((20000 - kk:Nat):Int)),(16,.string more),(17,.agg #[.int .i64 x.k,.string x.x,.string x.y])]) [] W:=by
  intro u W kk hkk more hmo x hx hy hD hBt
  refine T_one 7 (by kernel_rfl) fun _=>?_
  exact O_val (w':=W.alloc (.cells #[.int .i64 0,.string ⟨#[]⟩,.string ⟨#[]⟩] 29)) (some 6) (.pointer (some ⟨W.heap.size,0,none⟩)) (by kernel_rfl) (by kernel_rfl) (hBt.trans (But.alloc R W _)) (T_fr 8 20 [] [(2,.pointer (some ⟨A2,0,none⟩)),(3,.pointer (some ⟨A3,0,none⟩)),(4,.pointer (some ⟨R,0,none⟩)),(5,.pointer (some ⟨B,0,none⟩)),(6,.pointer (some ⟨W.heap.size,0,none⟩)),(11,.pointer (some ⟨R,0,none⟩)),(12,.agg #[c.c0,c.c1,c.c2]),(13,.pointer (some ⟨R,0,none⟩)),(14,.int .i64 (kk:Nat)),(15,.int .i64 ((20000 - kk:Nat):Int)),(16,.string more),(17,.agg #[.int .i64 x.k,.string x.x,.string x.y])] (by kernel_rfl) fun u=>N31 u _ kk hkk more hmo x hx hy _ ⟨hBt.size,by have:=hD.cells.lt;omega⟩ (row3_alloc W _ _ _ _) (hD.on ((Below.refl _ _).alloc (Nat.le_refl _) _)) (hBt.trans (But.alloc R W _)))
 have N20:∀ (u:Nat→Value) (W:World) (kk:Nat) (hkk:kk < 3) (more:ByteArray) (hmo:more.size≤1000000) (hD:DR R W v b (q+1)) (hBt:But R V W),wpS Try.prog rd3Ops.pop (QL Try.prog rd3Ops Q) (fun W=>But R V W) (unl 8 [6,7],frL u 20 [(2,.pointer (some ⟨A2,0,none⟩)),(3,.pointer (some ⟨A3,0,none⟩)),(4,.pointer (some ⟨R,0,none⟩)),(5,.pointer (some ⟨B,0,none⟩)),(11,.pointer (some ⟨R,0,none⟩)),(12,.agg #[c.c0,c.c1,c.c2]),(13,.pointer (some ⟨R,0,none⟩)),(14,.int .i64 (kk:Nat)),(15,.int .i64 ((20000 - kk:Nat):Int)),(16,.string more)]) [] W:=by
  intro u W kk hkk more hmo hD hBt
  refine T_two 6 7 (by kernel_rfl) (fun _=>?_) fun _=>?_
  · refine O_go (HWR W more hmo hD hBt) (by kernel_rfl) ?_
    rintro e w1 ⟨x,rfl,hx,hy,HD,HB⟩
    refine ⟨_,rfl,hBt.trans HB.out,?_⟩
    exact T_fr 8 20 [7] [(2,.pointer (some ⟨A2,0,none⟩)),(3,.pointer (some ⟨A3,0,none⟩)),(4,.pointer (some ⟨R,0,none⟩)),(5,.pointer (some ⟨B,0,none⟩)),(11,.pointer (some ⟨R,0,none⟩)),(12,.agg #[c.c0,c.c1,c.c2]),(13,.pointer (some ⟨R,0,none⟩)),(14,.int .i64 (kk:Nat)),(15,.int .i64 ((20000 - kk:Nat):Int)),(16,.string more),(17,.agg #[.int .i64 x.k,.string x.x,.string x.y])] (by kernel_rfl) fun u=>N30 u w1 kk hkk more hmo x hx hy HD.out (hBt.trans HB.out)
  · exact O_val (w':=W.alloc (.cells #[.int .i64 0,.string ⟨#[]⟩,.string ⟨#[]⟩] 29)) (some 6) (.pointer (some ⟨W.heap.size,0,none⟩)) (by kernel_rfl) (by kernel_rfl) (hBt.trans (But.alloc R W _)) (T_fr 8 20 [6] [(2,.pointer (some ⟨A2,0,none⟩)),(3,.pointer (some ⟨A3,0,none⟩)),(4,.pointer (some ⟨R,0,none⟩)),(5,.pointer (some ⟨B,0,none⟩)),(6,.pointer (some ⟨W.heap.size,0,none⟩)),(11,.pointer (some ⟨R,0,none⟩)),(12,.agg #[c.c0,c.c1,c.c2]),(13,.pointer (some ⟨R,0,none⟩)),(14,.int .i64 (kk:Nat)),(15,.int .i64 ((20000 - kk:Nat):Int)),(16,.string more)] (by kernel_rfl) fun u=>N21 u _ kk hkk more hmo _ ⟨hBt.size,by have:=hD.cells.lt;omega⟩ (row3_alloc W _ _ _ _) (hD.on ((Below.refl _ _).alloc (Nat.le_refl _) _)) (hBt.trans (But.alloc R W _)))
 have N10:∀ (u:Nat→Value) (W:World) (kk:Nat) (hkk:kk < 3) (hD:DR R W v b (q+1)) (hBt:But R V W),wpS Try.prog rd3Ops.pop (QL Try.prog rd3Ops Q) (fun W=>But R V W) (unl 8 [5,6,7],frL u 20 [(2,.pointer (some ⟨A2,0,none⟩)),(3,.pointer (some ⟨A3,0,none⟩)),(4,.pointer (some ⟨R,0,none⟩)),(5,.pointer (some ⟨B,0,none⟩)),(11,.pointer (some ⟨R,0,none⟩)),(12,.agg #[c.c0,c.c1,c.c2]),(13,.pointer (some ⟨R,0,none⟩)),(14,.int .i64 (kk:Nat)),(15,.int .i64 ((20000 - kk:Nat):Int))]) [] W:=by
  intro u W kk hkk hD hBt
  refine T_two 5 7 (by kernel_rfl) (fun _=>?_) fun _=>?_
  · refine O_go (l6Many_huge W ⟨#[119]⟩ (20000 - kk) (by decide) (by omega)) (by kernel_rfl) ?_
    rintro e w1 ⟨more,rfl,hmo',rfl⟩
    have hmo:more.size≤1000000:=by omega
    refine ⟨_,rfl,hBt,?_⟩
    exact T_fr 8 20 [6,7] [(2,.pointer (some ⟨A2,0,none⟩)),(3,.pointer (some ⟨A3,0,none⟩)),(4,.pointer (some ⟨R,0,none⟩)),(5,.pointer (some ⟨B,0,none⟩)),(11,.pointer (some ⟨R,0,none⟩)),(12,.agg #[c.c0,c.c1,c.c2]),(13,.pointer (some ⟨R,0,none⟩)),(14,.int .i64 (kk:Nat)),(15,.int .i64 ((20000 - kk:Nat):Int)),(16,.string more)] (by kernel_rfl) fun u=>N20 u w1 kk hkk more hmo hD hBt
  · exact O_val (w':=W.alloc (.cells #[.int .i64 0,.string ⟨#[]⟩,.string ⟨#[]⟩] 29)) (some 6) (.pointer (some ⟨W.heap.size,0,none⟩)) (by kernel_rfl) (by kernel_rfl) (hBt.trans (But.alloc R W _)) (T_fr 8 20 [5,6] [(2,.pointer (some ⟨A2,0,none⟩)),(3,.pointer (some ⟨A3,0,none⟩)),(4,.pointer (some ⟨R,0,none⟩)),(5,.pointer (some ⟨B,0,none⟩)),(6,.pointer (some ⟨W.heap.size,0,none⟩)),(11,.pointer (some ⟨R,0,none⟩)),(12,.agg #[c.c0,c.c1,c.c2]),(13,.pointer (some ⟨R,0,none⟩)),(14,.int .i64 (kk:Nat)),(15,.int .i64 ((20000 - kk:Nat):Int))] (by kernel_rfl) fun u=>N11 u _ kk hkk _ ⟨hBt.size,by have:=hD.cells.lt;omega⟩ (row3_alloc W _ _ _ _) (hD.on ((Below.refl _ _).alloc (Nat.le_refl _) _)) (hBt.trans (But.alloc R W _)))
 have N00:∀ (u:Nat→Value) (W:World) (hD:DR R W v b (q )) (hBt:But R V W),wpS Try.prog rd3Ops.pop (QL Try.prog rd3Ops Q) (fun W=>But R V W) (unl 8 [3,4,5,6,7],frL u 20 [(2,.pointer (some ⟨A2,0,none⟩)),(3,.pointer (some ⟨A3,0,none⟩)),(4,.pointer (some ⟨R,0,none⟩)),(5,.pointer (some ⟨B,0,none⟩)),(11,.pointer (some ⟨R,0,none⟩)),(12,.agg #[c.c0,c.c1,c.c2]),(13,.pointer (some ⟨R,0,none⟩))]) [] W:=by
  intro u W hD hBt
  refine T_two 3 7 (by kernel_rfl) (fun _=>?_) fun _=>?_
  · refine O_go (HPK W hD) (by kernel_rfl) ?_
    rintro e w1 ⟨kk,rfl,hkk,HD,HB⟩
    refine ⟨_,rfl,hBt.trans HB.out,?_⟩
    refine T_val (i:=4) hq (some 15) (.int .i64 (IntKind.i64.wrap (20000 - (kk:Int)))) (.int .i64 ((20000 - kk:Nat):Int)) (wrS8 (by omega)) (by kernel_rfl) (by kernel_rfl) ?_
    exact T_fr 8 20 [5,6,7] [(2,.pointer (some ⟨A2,0,none⟩)),(3,.pointer (some ⟨A3,0,none⟩)),(4,.pointer (some ⟨R,0,none⟩)),(5,.pointer (some ⟨B,0,none⟩)),(11,.pointer (some ⟨R,0,none⟩)),(12,.agg #[c.c0,c.c1,c.c2]),(13,.pointer (some ⟨R,0,none⟩)),(14,.int .i64 (kk:Nat)),(15,.int .i64 ((20000 - kk:Nat):Int))] (by kernel_rfl) fun u=>N10 u w1 kk hkk HD.out (hBt.trans HB.out)
  · exact O_val (w':=W.alloc (.cells #[.int .i64 0,.string ⟨#[]⟩,.string ⟨#[]⟩] 29)) (some 6) (.pointer (some ⟨W.heap.size,0,none⟩)) (by kernel_rfl) (by kernel_rfl) (hBt.trans (But.alloc R W _)) (T_fr 8 20 [3,4,5,6] [(2,.pointer (some ⟨A2,0,none⟩)),(3,.pointer (some ⟨A3,0,none⟩)),(4,.pointer (some ⟨R,0,none⟩)),(5,.pointer (some ⟨B,0,none⟩)),(6,.pointer (some ⟨W.heap.size,0,none⟩)),(11,.pointer (some ⟨R,0,none⟩)),(12,.agg #[c.c0,c.c1,c.c2]),(13,.pointer (some ⟨R,0,none⟩))] (by kernel_rfl) fun u=>N01 u _ _ ⟨hBt.size,by have:=hD.cells.lt;omega⟩ (row3_alloc W _ _ _ _) (hD.on ((Below.refl _ _).alloc (Nat.le_refl _) _)) (hBt.trans (But.alloc R W _)))
 refine T_a hq [0,1,2] (fun w h=>.cons (ldDk (hB.of_block (h.at hB.lt hBR))) (Lds.nil)) (by kernel_rfl) ?_
 refine T_fr 8 20 [3,4,5,6,7] [(2,.pointer (some ⟨A2,0,none⟩)),(3,.pointer (some ⟨A3,0,none⟩)),(4,.pointer (some ⟨R,0,none⟩)),(5,.pointer (some ⟨B,0,none⟩)),(11,.pointer (some ⟨R,0,none⟩)),(12,.agg #[c.c0,c.c1,c.c2]),(13,.pointer (some ⟨R,0,none⟩))] (by kernel_rfl) fun u=>?_
 exact T_fr 8 20 [3,4,5,6,7] [(2,.pointer (some ⟨A2,0,none⟩)),(3,.pointer (some ⟨A3,0,none⟩)),(4,.pointer (some ⟨R,0,none⟩)),(5,.pointer (some ⟨B,0,none⟩)),(11,.pointer (some ⟨R,0,none⟩)),(12,.agg #[c.c0,c.c1,c.c2]),(13,.pointer (some ⟨R,0,none⟩))] (by kernel_rfl) fun u=>N00 u V hD0 (But.refl _ _)
theorem ldWr9 {W:World} {b:Nat} {x y z:Value} (h:W.rowIs b 29 3 (row3 x y z)):(Instr.loadAt 29 (.pointer (some ⟨b,0,none⟩))).run Try.prog W=.ok (.agg #[x,y,z]) W :=
 ldWr8 (c:=⟨x,y,z⟩) ⟨h.cell (i:=0) (by omega),h.cell (i:=1) (by omega),h.cell (i:=2) (by omega)⟩
noncomputable def rd4Ops:Array Oper:=fops Try.f6 4
theorem rd4_neat:Region.noSelect rd4Ops=true∧neat rd4Ops=true:=⟨by kernel_rfl,by kernel_rfl⟩
theorem rd4 (A2 A3 B b6:Nat) (c:C3) (x:Wr) (W0:World) {l:List Value} (Q:Exit→Act→World→Prop) (hQ:∀ c a d v w,Q (.panic c) (Act.put a d v) w→Q (.panic c) a w) (hB:W0.drew.rowIs B 27 3 (row3 c.c0 c.c1 c.c2)) (h6:W0.drew.rowIs b6 29 3 (row3 (.int .i64 x.k) (.string x.x) (.string x.y))) (hA2:W0.drew.rowIs A2 27 3 (row3 (.slice none 0 0) (.slice none 0 0) (.slice none 0 0))) (hA3:W0.drew.rowIs A3 29 3 (row3 (.int .i64 0) (.string ⟨#[]⟩) (.string ⟨#[]⟩))) (hone:(#[c.c0,c.c1,c.c2]:Array Value).all (·.oneCell')=true) (hne:B≠A2∧b6≠A2∧A3≠A2∧B≠A3∧b6≠A3)
 (hl:lookL [(2,.pointer (some ⟨A2,0,none⟩)),(3,.pointer (some ⟨A3,0,none⟩)),(5,.pointer (some ⟨B,0,none⟩)),(6,.pointer (some ⟨b6,0,none⟩))] l=(20,([(2,.pointer (some ⟨A2,0,none⟩)),(3,.pointer (some ⟨A3,0,none⟩)),(5,.pointer (some ⟨B,0,none⟩)),(6,.pointer (some ⟨b6,0,none⟩))]:List (Nat × Value)).map (·.2)))
 (hend:∀ (u:Nat→Value),Q .normal ⟨(frL u 20 [(2,.pointer (some ⟨A2,0,none⟩)),(3,.pointer (some ⟨A3,0,none⟩))]).toArray,[]⟩ ((W0.drew.setCells A2 0 [c.c0,c.c1,c.c2]).setCells A3 0 [.int .i64 x.k,.string x.x,.string x.y])):(Code.region 4 rd4Ops true).wp Try.prog Q ⟨l.toArray,[]⟩ W0:=by
 obtain ⟨v0,rfl⟩:=look_fr hl
 have hq:NtQ rd4Ops Q:=⟨rd4_neat,hQ⟩
 refine T_start (S:=fun W=>W.heap[B]? = W0.drew.heap[B]? ∧ W.heap[b6]? = W0.drew.heap[b6]?) (by kernel_rfl) ⟨rfl,rfl⟩ ?_
 clear hl hQ
 generalize W0.drew=V at hB h6 hA2 hA3 hend ⊢
 refine T_a hq [0,1] (fun w h=>.cons (ldDk (hB.of_block h.1)) (.cons (ldWr9 (h6.of_block h.2)) (Lds.nil))) (by kernel_rfl) ?_
 refine T_fr 4 20 [2,3] [(2,.pointer (some ⟨A2,0,none⟩)),(3,.pointer (some ⟨A3,0,none⟩)),(5,.pointer (some ⟨B,0,none⟩)),(6,.pointer (some ⟨b6,0,none⟩)),(18,.agg #[c.c0,c.c1,c.c2]),(19,.agg #[.int .i64 x.k,.string x.x,.string x.y])] (by kernel_rfl) fun u=>?_
 obtain ⟨s1,s2,s3,s4⟩:=set3 V A2 c.c0 c.c1 c.c2
 refine T_one 2 (by kernel_rfl) fun _=>O_store_mid none 27 (.tmp 2) (.tmp 18) A2 0 #[c.c0,c.c1,c.c2] (by kernel_rfl) (by kernel_rfl) (by kernel_rfl) (there3 hA2) info3D hone ⟨s1 _ hne.1,s1 _ hne.2.1⟩ ?_
 refine T_fr 4 20 [3] [(2,.pointer (some ⟨A2,0,none⟩)),(3,.pointer (some ⟨A3,0,none⟩)),(5,.pointer (some ⟨B,0,none⟩)),(6,.pointer (some ⟨b6,0,none⟩)),(18,.agg #[c.c0,c.c1,c.c2]),(19,.agg #[.int .i64 x.k,.string x.x,.string x.y])] (by kernel_rfl) fun u=>?_
 have hA3':=hA3.of_block (s1 _ hne.2.2.1)
 obtain ⟨t1,t2,t3,t4⟩:=set3 (V.setCells A2 0 [c.c0,c.c1,c.c2]) A3 (.int .i64 x.k) (.string x.x) (.string x.y)
 refine T_one 3 (by kernel_rfl) fun _=>O_store_mid none 29 (.tmp 3) (.tmp 19) A3 0 #[.int .i64 x.k,.string x.x,.string x.y] (by kernel_rfl) (by kernel_rfl) (by kernel_rfl) (there3 hA3') info3W (by rw [← Array.all_toList];rfl) ⟨(t1 _ hne.2.2.2.1).trans (s1 _ hne.1),(t1 _ hne.2.2.2.2).trans (s1 _ hne.2.1)⟩ ?_
 exact T_end 20 [(2,.pointer (some ⟨A2,0,none⟩)),(3,.pointer (some ⟨A3,0,none⟩))] (by kernel_rfl) (by kernel_rfl) fun _ u=>hend u
def DdDn (w w':World) (e:Ending):Prop:=∃ (d:Dk) (c:C3) (x:Wr),e=.returned (.tuple #[.agg #[c.c0,c.c1,c.c2],.agg #[.int .i64 x.k,.string x.x,.string x.y]])∧DkAt (New w w') w' d c∧x.x.size≤1000∧x.y.size≤1000000∧Below w.heap.size w w'
theorem drawDiskDo_any (w:World) (a:Option Addr) (cap:Nat) (l:List UInt8) (hv:BytesAt w (.slice a l.length cap) l) (hcap:l.length≤cap) :
 Calls Try.prog 6 #[.slice a l.length cap] w fun e w'=>DdDn w w' e:=by
 have HO:=xH (l6Open_any ((w.alloc (.cells #[.slice none 0 0,.slice none 0 0,.slice none 0 0] 27)).alloc (.cells #[.int .i64 0,.string ⟨#[]⟩,.string ⟨#[]⟩] 29)) a cap l (bytes_on (bytes_on hv _) _) hcap)
 have HR0:=xH ((row3_alloc w (.slice none 0 0) (.slice none 0 0) (.slice none 0 0) 27).alloc (.cells #[.int .i64 0,.string ⟨#[]⟩,.string ⟨#[]⟩] 29))
 have HQ0:Hid (((w.alloc (.cells #[.slice none 0 0,.slice none 0 0,.slice none 0 0] 27)).alloc (.cells #[.int .i64 0,.string ⟨#[]⟩,.string ⟨#[]⟩] 29)).rowIs (w.heap.size+1) 29 3 (row3 (.int .i64 0) (.string ⟨#[]⟩) (.string ⟨#[]⟩))):=xH (by
  have:=row3_alloc (w.alloc (.cells #[.slice none 0 0,.slice none 0 0,.slice none 0 0] 27)) (.int .i64 0) (.string ⟨#[]⟩) (.string ⟨#[]⟩) 29
  rw [World.size_alloc] at this
  exact this)
 have HB0:Hid (Below w.heap.size w ((w.alloc (.cells #[.slice none 0 0,.slice none 0 0,.slice none 0 0] 27)).alloc (.cells #[.int .i64 0,.string ⟨#[]⟩,.string ⟨#[]⟩] 29))):=xH (((Below.refl _ _).alloc (Nat.le_refl _) _).alloc (by simp) _)
 clear hv
 have hsW:((w.alloc (.cells #[.slice none 0 0,.slice none 0 0,.slice none 0 0] 27)).alloc (.cells #[.int .i64 0,.string ⟨#[]⟩,.string ⟨#[]⟩] 29)).heap.size=w.heap.size+2:=by simp
 go_enter Try.func6,Try.ntmps6
 go_upto_region 1 with fail
 generalize ((w.alloc (.cells #[.slice none 0 0,.slice none 0 0,.slice none 0 0] 27)).alloc (.cells #[.int .i64 0,.string ⟨#[]⟩,.string ⟨#[]⟩] 29))=W1 at HO HR0 HQ0 HB0 hsW ⊢
 go_wp2_with fail
 refine HO.out.mono ?_
 rintro e w1 ⟨v1,b1,rfl,hd,hb⟩
 have hs:=hb.size
 rw [hsW] at hd hs ⊢
 have hRl:=hd.cells.lt
 have HR1:=xH (HR0.out.of_block (hb.block w.heap.size HR0.out.lt))
 have HQ1:=xH (HQ0.out.of_block (hb.block _ HQ0.out.lt))
 have HB1:=xH (HB0.out.trans (hb.mono HB0.out.size))
 have HAN:=xH (l45Any_any (w.heap.size+2) w1 v1 b1 0 hd (by omega))
 clear hd hb HO HR0 HQ0 HB0
 go_wp2_with fail
 refine HAN.out.mono ?_
 rintro e w2 ⟨d,⟨u0,u1,u2⟩,p2,rfl,hdk,hp2,HD2,HB2⟩
 obtain ⟨a0,r0,g0,-,-⟩:=hdk.fs.open
 obtain ⟨a1,r1,g1,-,-⟩:=id hdk.ns
 obtain ⟨a2,r2,g2,-,-⟩:=hdk.ms.open
 simp only at g0 g1 g2
 subst g0 g1 g2
 have hs2:=HB2.out.size
 go_upto_region 3 with fail
 have hbx:But (w.heap.size+2) w2 (w2.alloc (.cells #[.slice a0 d.files.length r0,.slice a1 d.names.length r1,.slice a2 d.moves.length r2] 27)):=But.alloc _ _ _
 have HR2:=xH ((HR1.out.of_block (HB2.out.at HR1.out.lt (by omega))).alloc (.cells #[.slice a0 d.files.length r0,.slice a1 d.names.length r1,.slice a2 d.moves.length r2] 27))
 have HQ2:=xH ((HQ1.out.of_block (HB2.out.at HQ1.out.lt (by omega))).alloc (.cells #[.slice a0 d.files.length r0,.slice a1 d.names.length r1,.slice a2 d.moves.length r2] 27))
 have HB3:=xH (but_below HB1.out (HB2.out.trans hbx) (by omega))
 have HX2:=xH (row3_alloc w2 (.slice a0 d.files.length r0) (.slice a1 d.names.length r1) (.slice a2 d.moves.length r2) 27)
 have HD3:=xH (HD2.out.on ((Below.refl w2.heap.size w2).alloc (Nat.le_refl _) (.cells #[.slice a0 d.files.length r0,.slice a1 d.names.length r1,.slice a2 d.moves.length r2] 27)))
 have HK2:=xH (hdk.carry (w':=w2.alloc (.cells #[.slice a0 d.files.length r0,.slice a1 d.names.length r1,.slice a2 d.moves.length r2] 27)) (Q:=fun g=>w1.heap.size≤g∧g < w2.heap.size) (fun g hg=>Below.heap_alloc _ _ _ hg.2) (fun _ hg=>hg))
 have hsz:(w2.alloc (.cells #[.slice a0 d.files.length r0,.slice a1 d.names.length r1,.slice a2 d.moves.length r2] 27)).heap.size=w2.heap.size+1:=by simp
 clear HAN HB1 HB2 HR1 HQ1 HD2 hdk hbx
 generalize w2.alloc (.cells #[.slice a0 d.files.length r0,.slice a1 d.names.length r1,.slice a2 d.moves.length r2] 27)=W3 at HR2 HQ2 HB3 HX2 HD3 HK2 hsz ⊢
 generalize w2.heap.size=B at HX2 HK2 hsz hs2 ⊢
 refine wp_swap (c':=Code.region 3 rd3Ops true) (by kernel_rfl) ?_
 refine wp_region_noPanic ?_
 refine rd3 (w.heap.size+2) w.heap.size (w.heap.size+1) B p2 v1 b1 ⟨.slice a0 d.files.length r0,.slice a1 d.names.length r1,.slice a2 d.moves.length r2⟩ W3 _ (fun _ _ _ _ _ h=>h) (HD3.out.on (Below.refl _ _).drew) (HX2.out.of_block rfl) (by omega) (fun W hD=>pick_any (w.heap.size+2) W v1 b1 p2 3 hD (by omega) (by omega)) (fun W more hmo hD hB=>l45Write_any (w.heap.size+2) W v1 b1 (p2+1) d ⟨.slice a0 d.files.length r0,.slice a1 d.names.length r1,.slice a2 d.moves.length r2⟩ more (fun g=>w1.heap.size≤g∧g < B) hD (by omega) (fun g hg=>by have:=hB.size;have h2:W3.drew.heap.size=W3.heap.size:=rfl;have:=hg.2;omega) (HK2.out.carry (fun g hg=>(hB.at (by show g < W3.heap.size;have:=hg.2;omega) (by have:=hg.1;omega)).trans rfl) (fun _ hg=>hg)) hmo) (by kernel_rfl) ?_
 intro u W b6 x hx hy hb6 h6 hD hB
 refine NoPanic.normal ?_
 simp only [frL_eq,frG,List.lookup,Nat.reduceBEq,Nat.reduceAdd,Option.getD_some,Option.getD_none]
 have hsd:W3.drew.heap.size=W3.heap.size:=rfl
 rw [hsd] at hb6
 have hB9:But (w.heap.size+2) W3 W:=(But.of_below (Below.refl W3.heap.size W3).drew).trans hB
 obtain ⟨s1,s2,s3,s4⟩:=set3 W b6 (.int .i64 x.k) (.string x.x) (.string x.y)
 have hs9:=hB9.size
 have hr2l:=HR2.out.lt;have hq2l:=HQ2.out.lt;have hx2l:=HX2.out.lt
 have HR4:=xH ((HR2.out.of_block (hB9.at HR2.out.lt (by omega))).of_block (s1 _ (by omega)))
 have HQ4:=xH ((HQ2.out.of_block (hB9.at HQ2.out.lt (by omega))).of_block (s1 _ (by omega)))
 have HX4:=xH ((HX2.out.of_block (hB9.at HX2.out.lt (by omega))).of_block (s1 _ (by omega)))
 have H64:=xH (s3 _ _ h6)
 have HB4:=xH (((but_below HB3.out hB9 (by omega)).setCell (p:=⟨b6,0,none⟩) (by show w.heap.size≤b6;omega) (.int .i64 x.k) |>.setCell (p:=⟨b6,1,none⟩) (by show w.heap.size≤b6;omega) (.string x.x)).setCell (p:=⟨b6,2,none⟩) (by show w.heap.size≤b6;omega) (.string x.y))
 have HK4:=xH ((HK2.out.carry (w':=W) (Q:=fun g=>w1.heap.size≤g∧g < B) (fun g hg=>hB9.at (by have:=hg.2;omega) (by have:=hg.1;omega)) (fun _ hg=>hg)).carry (w':=W.setCells b6 0 [.int .i64 x.k,.string x.x,.string x.y]) (Q:=fun g=>w1.heap.size≤g∧g < B) (fun g hg=>s1 g (by have:=hg.2;omega)) (fun _ hg=>hg))
 have hsz4:(W.setCells b6 0 [.int .i64 x.k,.string x.x,.string x.y]).heap.size=W.heap.size:=s2
 change Hid (Below w.heap.size w (W.setCells b6 0 [.int .i64 x.k,.string x.x,.string x.y])) at HB4
 clear hD hB hB9 h6 s1 s2 s3 s4 HR2 HQ2 HX2 HD3 HB3 HK2
 generalize W.setCells b6 0 [.int .i64 x.k,.string x.x,.string x.y]=W4 at HR4 HQ4 HX4 H64 HB4 HK4 hsz4 ⊢
 go_upto_region 4 with fail
 refine wp_swap (c':=Code.region 4 rd4Ops true) (by kernel_rfl) ?_
 refine wp_region_noPanic ?_
 refine rd4 w.heap.size (w.heap.size+1) B b6 ⟨.slice a0 d.files.length r0,.slice a1 d.names.length r1,.slice a2 d.moves.length r2⟩ x W4 _ (fun _ _ _ _ _ h=>h) (HX4.out.of_block rfl) (H64.out.of_block rfl) (HR4.out.of_block rfl) (HQ4.out.of_block rfl) (dk_one8 HK4.out) ⟨by omega,by omega,by omega,by omega,by omega⟩ (by kernel_rfl) ?_
 intro u2
 refine NoPanic.normal ?_
 simp only [frL_eq,frG,List.lookup,Nat.reduceBEq,Nat.reduceAdd,Option.getD_some,Option.getD_none]
 have HF:Hid (DdDn w ((W4.drew.setCells w.heap.size 0 [.slice a0 d.files.length r0,.slice a1 d.names.length r1,.slice a2 d.moves.length r2]).setCells (w.heap.size+1) 0 [.int .i64 x.k,.string x.x,.string x.y]) (.returned (.tuple #[.agg #[.slice a0 d.files.length r0,.slice a1 d.names.length r1,.slice a2 d.moves.length r2],.agg #[.int .i64 x.k,.string x.x,.string x.y]]))∧((W4.drew.setCells w.heap.size 0 [.slice a0 d.files.length r0,.slice a1 d.names.length r1,.slice a2 d.moves.length r2]).setCells (w.heap.size+1) 0 [.int .i64 x.k,.string x.x,.string x.y]).rowIs w.heap.size 27 3 (row3 (.slice a0 d.files.length r0) (.slice a1 d.names.length r1) (.slice a2 d.moves.length r2))∧((W4.drew.setCells w.heap.size 0 [.slice a0 d.files.length r0,.slice a1 d.names.length r1,.slice a2 d.moves.length r2]).setCells (w.heap.size+1) 0 [.int .i64 x.k,.string x.x,.string x.y]).rowIs (w.heap.size+1) 29 3 (row3 (.int .i64 x.k) (.string x.x) (.string x.y))):=xH (by
  obtain ⟨s1,s2,s3,s4⟩:=set3 W4.drew w.heap.size (.slice a0 d.files.length r0) (.slice a1 d.names.length r1) (.slice a2 d.moves.length r2)
  obtain ⟨t1,t2,t3,t4⟩:=set3 (W4.drew.setCells w.heap.size 0 [.slice a0 d.files.length r0,.slice a1 d.names.length r1,.slice a2 d.moves.length r2]) (w.heap.size+1) (.int .i64 x.k) (.string x.x) (.string x.y)
  have hzz:((W4.drew.setCells w.heap.size 0 [.slice a0 d.files.length r0,.slice a1 d.names.length r1,.slice a2 d.moves.length r2]).setCells (w.heap.size+1) 0 [.int .i64 x.k,.string x.x,.string x.y]).heap.size=W4.heap.size:=t2.trans s2
  have hk:∀ g,w.heap.size+1 < g→((W4.drew.setCells w.heap.size 0 [.slice a0 d.files.length r0,.slice a1 d.names.length r1,.slice a2 d.moves.length r2]).setCells (w.heap.size+1) 0 [.int .i64 x.k,.string x.x,.string x.y]).heap[g]? = W4.heap[g]? := fun g hg=>(t1 g (by omega)).trans (s1 g (by omega))
  have hbb:Below w.heap.size w ((W4.drew.setCells w.heap.size 0 [.slice a0 d.files.length r0,.slice a1 d.names.length r1,.slice a2 d.moves.length r2]).setCells (w.heap.size+1) 0 [.int .i64 x.k,.string x.x,.string x.y]):=(((((HB4.out.drew.setCell (p:=⟨w.heap.size,0,none⟩) (Nat.le_refl _) (.slice a0 d.files.length r0)).setCell (p:=⟨w.heap.size,1,none⟩) (Nat.le_refl _) (.slice a1 d.names.length r1)).setCell (p:=⟨w.heap.size,2,none⟩) (Nat.le_refl _) (.slice a2 d.moves.length r2)).setCell (p:=⟨w.heap.size+1,0,none⟩) (Nat.le_succ _) (.int .i64 x.k)).setCell (p:=⟨w.heap.size+1,1,none⟩) (Nat.le_succ _) (.string x.x)).setCell (p:=⟨w.heap.size+1,2,none⟩) (Nat.le_succ _) (.string x.y)
  exact ⟨⟨d,⟨_,_,_⟩,x,rfl,HK4.out.carry (fun g hg=>hk g (by have:=hg.1;omega)) (fun g hg=>⟨by have:=hg.1;omega,by rw [hzz];have:=hg.2;omega⟩),hx,hy,hbb⟩,(s3 _ _ (HR4.out.of_block rfl)).of_block (t1 _ (by omega)),t3 _ _ ((HQ4.out.of_block rfl:W4.drew.rowIs _ _ _ _).of_block (s1 _ (by omega)))⟩)
 generalize (W4.drew.setCells w.heap.size 0 [.slice a0 d.files.length r0,.slice a1 d.names.length r1,.slice a2 d.moves.length r2]).setCells (w.heap.size+1) 0 [.int .i64 x.k,.string x.x,.string x.y]=W9 at HF ⊢
 obtain ⟨y0,y1,y2⟩:=cs3 HF.out.2.1 (by omega)
 have x0:=HF.out.2.2.cell (i:=0) (by omega);have x1:=HF.out.2.2.cell (i:=1) (by omega);have x2:=HF.out.2.2.cell (i:=2) (by omega)
 simp only [row3] at y0 y1 y2 x0 x1 x2
 clear HR4 HQ4 HX4 H64 HB4 HK4
 go_wp2_with fail
 refine bodyPost_ret (v:=.tuple #[.agg #[.slice a0 d.files.length r0,.slice a1 d.names.length r1,.slice a2 d.moves.length r2],.agg #[.int .i64 x.k,.string x.x,.string x.y]]) (by simp [results,Try.results6,go_sem,y0,y1,y2,x0,x1,x2]) rfl ?_
 exact HF.out.1

end Go.Proofs.Yteikmbkljkkjiaa
