/- A part. -/
import Derived.Test.YteefjeddboefcaaGreatDoorPart11
import Derived.RangeFuncNested
import Derived.RangeFuncBound
import Derived.Shelf.RegionOpen
import Derived.OwnWalkIn
import Derived.LoopNIn
import Derived.LoopIn
import Derived.Sort.Walk0
import Derived.Lib.SlicesCompact
set_option maxRecDepth 100000
set_option maxHeartbeats 2000000
namespace Go.Proofs.YteefjeddboefcaaGreatDoor
open Go Go.RowKit Go.Maps
def row4 (c0 c1 c2 c3:Value):Nat→Value
 | 0=>c0
 | 1=>c1
 | 2=>c2
 | _=>c3
theorem row4_alloc (w:World) (c0 c1 c2 c3:Value) (t:TypeId):(w.alloc (.cells #[c0,c1,c2,c3] t)).rowIs w.heap.size t 4 (row4 c0 c1 c2 c3) :=
 World.rowIs_alloc w #[c0,c1,c2,c3] t _ (fun i hi=>by
  have hi':i < 4:=hi
  match i,hi' with
  | 0,_=>rfl
  | 1,_=>rfl
  | 2,_=>rfl
  | 3,_=>rfl)
theorem heap_set4n (w:World) (b:Nat) (c0 c1 c2 c3:Value) (k:Nat) (h:k≠b) :
 ((((w.setCell ⟨b,0,none⟩ c0).setCell ⟨b,1,none⟩ c1).setCell ⟨b,2,none⟩ c2).setCell ⟨b,3,none⟩ c3).heap[k]? = w.heap[k]? := by
 rw [Below.heap_setCell _ _ _ _ h,Below.heap_setCell _ _ _ _ h,Below.heap_setCell _ _ _ _ h,Below.heap_setCell _ _ _ _ h]
theorem size_set4 (w:World) (b:Nat) (c0 c1 c2 c3:Value) :
 ((((w.setCell ⟨b,0,none⟩ c0).setCell ⟨b,1,none⟩ c1).setCell ⟨b,2,none⟩ c2).setCell ⟨b,3,none⟩ c3).heap.size=w.heap.size:=by simp [World.setCell]
theorem below_set4 {B:Nat} {a w:World} (h:Below B a w) (b:Nat) (c0 c1 c2 c3:Value) (hb:B≤b) :
 Below B a ((((w.setCell ⟨b,0,none⟩ c0).setCell ⟨b,1,none⟩ c1).setCell ⟨b,2,none⟩ c2).setCell ⟨b,3,none⟩ c3) :=
 (((h.setCell hb _).setCell hb _).setCell hb _).setCell hb _
def OrNew (P:Nat→Prop) (n:Nat) (w':World):Nat→Prop:=fun b=>P b∨(n≤b∧b < w'.heap.size)
theorem nameKind_any (t:Kd) (P:Nat→Prop) (c:C3) (vK:Value) (w:World) (hP:∀ b,P b→b < w.heap.size) (hrep:KRep P w t c) (hK:NKids P w vK t.kids) (hn:t.names.length≤1048576) :
 Calls Tryz.prog 33 #[.agg #[c.c0,c.c1,c.c2],vK] w fun e w'=>∃ B,e=.returned (.agg #[c.c0,c.c1,.map (some B),vK])∧NRep (OrNew P w.heap.size w') w' t ⟨c.c0,c.c1,.map (some B),vK⟩∧Below w.heap.size w w':=by
 obtain ⟨c0,c1,c2⟩:=c
 obtain ⟨e0,hi0,hns,a,cap,e2,-,-⟩:=hrep.open
 simp only at e0 e2 hns
 have HNS:=xH hns;have HK:=xH hK
 obtain ⟨a3,cap3,e1,-,-⟩:=hns
 obtain ⟨a4,cap4,e4,-,-⟩:=hK
 subst e0 e1 e2 e4
 obtain ⟨W0,hW0⟩:∃ W0,((w.alloc (.cells #[.int .i64 t.sort,.slice a3 t.names.length cap3,.slice a t.kids.length cap] 26)).alloc (.cells #[.int .i64 0,.slice none 0 0,.map none,.slice none 0 0] 75))=W0:=⟨_,rfl⟩
 have hb0:Below w.heap.size w W0:=by rw [← hW0];exact ((Below.refl _ _).alloc (Nat.le_refl _) _).alloc (by simp) _
 have hs0:W0.heap.size=w.heap.size+2:=by rw [← hW0];simp
 have hrk:W0.rowIs w.heap.size 26 3 (row3 (.int .i64 t.sort) (.slice a3 t.names.length cap3) (.slice a t.kids.length cap)):=by rw [← hW0];exact (row3_alloc w _ _ _ _).alloc _
 have hrn:W0.rowIs (w.heap.size+1) 75 4 (row4 (.int .i64 0) (.slice none 0 0) (.map none) (.slice none 0 0)):=by
  rw [← hW0]
  have q:=row4_alloc (w.alloc (.cells #[.int .i64 t.sort,.slice a3 t.names.length cap3,.slice a t.kids.length cap] 26)) (.int .i64 0) (.slice none 0 0) (.map none) (.slice none 0 0) 75
  rw [World.size_alloc] at q
  exact q
 have hcall:=newNameOrder_any (.slice a3 t.names.length cap3) t.names W0.drew (P:=P) (fun b hb=>Nat.lt_of_lt_of_le (hP b hb) hb0.drew.size) ((xU HNS).carry (w':=W0.drew) (fun b hb=>hb0.drew.block b (hP b hb)) (fun _ h=>h)) hn
 obtain ⟨k0,k1⟩:=cs2 hrk (by omega)
 simp only [row3] at k0 k1
 have HCALL:=xH hcall;have HRK:=xH hrk;have HRN:=xH hrn;have HB0:=xH hb0;have HP:=xH hP;have HI0:=xH hi0
 clear hcall hrk hrn hb0 hP hi0 hrep
 go_enter Tryz.func33,Tryz.ntmps33
 go_wp2_with fail
 go_region_with (go_at_call 59;refine (xU HCALL).mono ?_;rintro e w2 ⟨B,rfl,hm,hBl,hb2⟩;have hs2:W0.heap.size≤w2.heap.size:=hb2.size;have q0:=(xU HRK).of_block (hb2.block w.heap.size (by show w.heap.size < W0.heap.size;omega));have q1:=(xU HRN).of_block (hb2.block (w.heap.size+1) (by show _ < W0.heap.size;omega));have k0':=q0.cell (i:=0) (by omega);have k1':=q0.cell (i:=1) (by omega);have z:=q1.frozen;obtain ⟨y0,y1,y2,y3⟩:=cs4 q1 (by omega);simp only [row3,row4] at k0' k1' y0 y1 y2 y3;have HM:=xH hm;have HB2:=xH ((xU HB0).drew.trans (hb2.mono (xU HB0).size));clear q0 q1 hm hb2)
 all_goals
  go_wp2_with fail
  have hBl':w.heap.size+2≤B:=by have h:W0.heap.size≤B:=hBl;omega
  have hBlt:=(xU HM).lt
  have hbk:∀ b,P b→((((w2.setCell ⟨w.heap.size+1,0,none⟩ (.int .i64 t.sort)).setCell ⟨w.heap.size+1,1,none⟩ (.slice a3 t.names.length cap3)).setCell ⟨w.heap.size+1,2,none⟩ (.map (some B))).setCell ⟨w.heap.size+1,3,none⟩ (.slice a4 t.kids.length cap4)).heap[b]? = w.heap[b]? := fun b hb=>by
   have:=xU HP b hb
   rw [heap_set4n _ _ _ _ _ _ _ (by omega)];exact (xU HB2).block b this
  refine bodyPost_ret (v:=.agg #[.int .i64 t.sort,.slice a3 t.names.length cap3,.map (some B),.slice a4 t.kids.length cap4]) (by simp [results,Tryz.results33,go_sem,y0,y1,y2,y3]) rfl ⟨B,rfl,?_,?_⟩
  · refine NRep.make (xU HI0) ((xU HNS).carry hbk (fun b hb=>Or.inl hb)) (Or.inr ⟨by omega,by rw [size_set4];exact hBlt⟩) ((xU HM).carry (heap_set4n _ _ _ _ _ _ _ (by omega))) ((xU HK).carry hbk (fun b hb=>Or.inl hb))
  · exact below_set4 (xU HB2) _ _ _ _ _ (by omega)
end Go.Proofs.YteefjeddboefcaaGreatDoor

namespace Go.Proofs.YteefjeddboefcaaGreatDoor
open Go Go.RowKit Go.Shelf
attribute [local go_sem] Oper.semAt_some
abbrev KX (n₀:Nat) (w0:World):={ x:Int × Kd × C3 // KRep (fun b=>b < n₀) w0 x.2.1 x.2.2 }
def kKey {n₀:Nat} {w0:World} (x:KX n₀ w0):Int × Kd:=(x.1.1,x.1.2.1)
def kEnc {n₀:Nat} {w0:World} (x:KX n₀ w0):Array Value:=#[.int .i64 x.1.1,.agg #[x.1.2.2.c0,x.1.2.2.c1,x.1.2.2.c2]]
structure Kept (n₀:Nat) (S:Nat→Prop) (W W':World):Prop where
 below:Below n₀ W W'
 same:∀ k (o:Obj),¬ S k→W.heap[k]? = some o→o.isCells=true→W'.heap[k]? = some o
theorem Kept.refl (n₀:Nat) (S:Nat→Prop) (W:World):Kept n₀ S W W:=⟨Below.refl _ _,fun _ _ _ h _=>h⟩
theorem Kept.trans {n₀:Nat} {S:Nat→Prop} {A B C:World} (h:Kept n₀ S A B) (k:Kept n₀ S B C):Kept n₀ S A C :=
 ⟨h.below.trans k.below,fun i o hs hi ho=>k.same i o hs (h.same i o hs hi ho) ho⟩
theorem Kept.grown {n₀:Nat} {S:Nat→Prop} {A B:World} (hg:A.grownBy B none) (hn:n₀≤A.heap.size):Kept n₀ S A B :=
 ⟨(Below.refl _ _).grown hg hn (fun k e=>by cases e),fun k o _ hk _=>(hg.block k (Array.getElem?_eq_some_iff.1 hk).1 (by simp)).trans hk⟩
theorem Kept.putObj {n₀:Nat} {S:Nat→Prop} {w:World} (hn:n₀≤w.heap.size) (W:World) (l:Nat) (o o':Obj) (hl:w.heap.size≤l) (h:W.heap[l]? = some o) (hc:o.isCells=false) (hw:o.isWalk=false):Kept n₀ S W (W.putObj l o') :=
 ⟨belowK_b hn W l o o' hl h hc hw,fun k o2 _ hk hc2=>(World.putObj_heap_other (fun e=>by subst e;rw [h] at hk;cases hk;rw [hc] at hc2;cases hc2)).trans hk⟩
theorem depth_any {F:Fence} (hd:F.depth=none) (k:Nat):F.room k:=fun d h=>by rw [hd] at h;cases h
theorem round_any {F:Fence} (hd:F.depth=none) {m m':Nat} {P:Program} {l:Nat} {f:FuncId} {tmps:Array Value} {assign body:Code} {w:World} {R:Ending→World→Prop}
 (h:RoundIn F m P l f tmps assign body w R):RoundIn F m' P l f tmps assign body w R:=⟨h.1,fun c cs _=>h.2 c cs (depth_any hd _)⟩
theorem yield_any {F:Fence} (hd:F.depth=none) {m:Nat} (m':Nat) {P:Program} {l:Nat} {args:Array Value} {W:World} {R:Ending→World→Prop} (h:YieldAt F m P l args W R):YieldAt F m' P l args W R:=by
 obtain ⟨fn,tmps,assign,body,hy,hR⟩:=h
 exact ⟨fn,tmps,assign,body,hy,round_any hd hR⟩
theorem pordK_take (ks:List Kd) (k:Nat) (h:k < ks.length) (l:Int):pordK (ks.take (k+1)) l=pordK (ks.take k) l++pord ks[k] l:=by
 induction ks generalizing k with
 | nil=>simp at h
 | cons a r ih =>
   cases k with
   | zero=>simp [pordK]
   | succ k=>simp only [List.take_succ_cons,pordK,List.getElem_cons_succ];rw [ih k (by simpa using h),List.append_assoc]
theorem pordK_take_pre (ks:List Kd) (k:Nat) (l:Int):pordK (ks.take k) l <+: pordK ks l:=by
 induction ks generalizing k with
 | nil=>simp [pordK]
 | cons a r ih =>
   cases k with
   | zero=>simp [pordK]
   | succ k=>simp only [List.take_succ_cons,pordK];exact (List.prefix_append_right_inj _).2 (ih k)
theorem kids_in (F:Fence) (n:Nat) (hf:F.fn 152) (hro:F.round=none) (c0 c1:Value) (a:Option Addr) (len cap:Nat) (w:World) :
 CallsIn F n Tryz.prog 152 #[.agg #[c0,c1,.slice a len cap]] w fun e w'=>e=.returned (.slice a len cap)∧w'=w.alloc (.cells #[c0,c1,.slice a len cap] 26):=by
 refine callsIn_of_wp Tryz.func152 rfl hf ?_ hro
 simp only [Tryz.ntmps152,List.size_toArray,List.length_cons,List.length_nil,Nat.reduceAdd,Nat.reduceSub,Array.replicate_succ,Array.replicate_zero,List.push_toArray,List.append_toArray,List.nil_append,List.cons_append]
 gi_wp2
 go_ret
 exact ⟨rfl,rfl⟩
def WalkSaid (F:Fence) (l n₀ N M:Nat) (S:Nat→Prop) (w0:World) (J Jx:List (KX n₀ w0)→World→Prop) (sz:Nat):Prop :=
 ∀ (T:Kd),ksz T < sz→∀ (n:Nat) (c:C3) (lv:Int) (pre:List (KX n₀ w0)) (W:World),KRep (fun b=>b < n₀) w0 T c→Below n₀ w0 W→M≤W.heap.size→J pre W→pre.length+(pord T lv).length≤N→0≤lv→lv+ksz T≤1152921504606846976 →
   CallsIn F n Tryz.prog 83 #[.agg #[c.c0,c.c1,c.c2],.int .i64 lv,.func (.yield l) #[] #[]] W fun e W' =>
    (e=.returned (.bool true)∧∃ q:List (KX n₀ w0),q.map kKey=pord T lv∧J (pre++q) W'∧Kept n₀ S W W')∨(e=.returned (.bool false)∧∃ q:List (KX n₀ w0),q.map kKey <+: pord T lv∧Jx (pre++q) W')
theorem walkOn_step (F:Fence) (hd:F.depth=none) (hf:F.fn 83) (hk:F.fn 152) (hro:F.round=none) (l n₀ N M:Nat) (S:Nat→Prop) (w0:World) (hn₀:n₀≤w0.heap.size)
 (J Jx:List (KX n₀ w0)→World→Prop) (hJ:∀ s A B,J s A→A.grownBy B none→J s B) (hS:∀ k,S k→k < M)
 (hY:∀ m pre (x:KX n₀ w0) W,J pre W→pre.length < N→YieldAt F m Tryz.prog l (kEnc x) W fun e W' =>
   (e=.returned (.bool true)∧J (pre++[x]) W'∧Kept n₀ S W W')∨(e=.returned (.bool false)∧Jx (pre++[x]) W')) (sz:Nat)
 (IH:WalkSaid F l n₀ N M S w0 J Jx sz):WalkSaid F l n₀ N M S w0 J Jx (sz+1):=by
 intro T hT n c lv pre W hrep hb hMW hJp hN h0 hlv
 obtain ⟨c0,c1,c2⟩:=c
 have hrep':=hrep
 obtain ⟨e0,-,⟨a3,cap3,e1,hl3,-⟩,a,cap,e2,hlen,hks⟩:=hrep.open
 simp only at e0 e1 e2
 subst e0 e1 e2
 have hdd:∀ k:Nat,(F.depth.isSome=true→1≤k):=fun k h=>by rw [hd] at h;cases h
 obtain ⟨x,hx⟩:∃ x:KX n₀ w0,x=⟨(lv,T,⟨.int .i64 T.sort,.slice a3 T.names.length cap3,.slice a T.kids.length cap⟩),hrep'⟩:=⟨_,rfl⟩
 have hxk:kKey x=(lv,T):=by rw [hx];rfl
 have hxe:kEnc x=#[.int .i64 lv,.agg #[.int .i64 T.sort,.slice a3 T.names.length cap3,.slice a T.kids.length cap]]:=by rw [hx];rfl
 have hsz:=hb.size
 have hpl:0 < (pord T lv).length:=by rw [pord_eq];simp
 have hg0:=World.grownBy_alloc W (.cells #[.int .i64 T.sort,.slice a3 T.names.length cap3,.slice a T.kids.length cap] 26) none
 have hJ0:=hJ pre _ _ hJp hg0
 have hK0:Kept n₀ S W (W.alloc (.cells #[.int .i64 T.sort,.slice a3 T.names.length cap3,.slice a T.kids.length cap] 26)):=Kept.grown hg0 (by omega)
 have hSW:¬ S W.heap.size:=fun h=>by have:=hS _ h;omega
 have hr0:=row3_alloc W (.int .i64 T.sort) (.slice a3 T.names.length cap3) (.slice a T.kids.length cap) 26
 obtain ⟨fn,tmps,assign,body,hy,hR⟩:=YieldAt.mono (R':=fun e W1=>(e=.returned (.bool true)∧Hid (J (pre++[x]) W1)∧Hid (Kept n₀ S W W1)∧W1.cell? ⟨W.heap.size,0,none⟩=some (.int .i64 T.sort)∧W1.cell? ⟨W.heap.size,1,none⟩=some (.slice a3 T.names.length cap3)∧W1.cell? ⟨W.heap.size,2,none⟩=some (.slice a T.kids.length cap))∨(e=.returned (.bool false)∧Hid (Jx (pre++[x]) W1)))
  (hY (n - 1) pre x _ hJ0 (by omega)) (fun e W1 h=>h.elim (fun ⟨he,hj,hb1⟩=>by
    have q1:=hr0.of_block ((hb1.same W.heap.size _ hSW (World.alloc_heap_new W _) rfl).trans (World.alloc_heap_new W _).symm)
    exact .inl ⟨he,hj,hK0.trans hb1,q1.cell (i:=0) (by omega),q1.cell (i:=1) (by omega),q1.cell (i:=2) (by omega)⟩) (fun ⟨he,hj⟩=>.inr ⟨he,hj⟩))
 rw [hxe] at hy
 have HKS:=xH hks;have HI:=xH IH;have HB:=xH hb;have HJ:=xH hJ;have HN:=xH hN;have HX:=xH hxk;have HREP:=xH hrep';have HYY:=xH hY
 clear hx hxe hg0 hJ0 hK0 hks IH hb hJ hSW hN hxk hrep' hrep hY hS hJp hr0 hsz
 have hm:∀ w,(method 349 26 (.agg #[.int .i64 T.sort,.slice a3 T.names.length cap3,.slice a T.kids.length cap]) "loop.example/teagle/impl.kids").run Tryz.prog w=.ok (152,.agg #[.int .i64 T.sort,.slice a3 T.names.length cap3,.slice a T.kids.length cap]) w:=fun _=>by kernel_rfl
 refine callsIn_of_wp Tryz.func83 rfl hf ?_ hro
 simp only [Tryz.ntmps83,List.size_toArray,List.length_cons,List.length_nil,Nat.reduceAdd,Nat.reduceSub,Array.replicate_succ,Array.replicate_zero,List.push_toArray,List.append_toArray,List.nil_append,List.cons_append]
 gi_wp2_with (first
  | ((try refine ⟨hdd _,?_⟩);refine hR.mono ?_;clear hR hy;rintro e W1 (⟨rfl,HJ1,HK1,k0,k1,k2⟩ | ⟨rfl,HX1⟩))
  | ((try refine ⟨hdd _,?_⟩);gi_at_call 152;refine (kids_in F (n - 1) hk hro _ _ _ _ _ _).mono ?_;rintro e w' ⟨rfl,rfl⟩))
 · clear hpl hm k0 k1 k2
   have hJL:=xU HJ _ _ _ (xU HJ1) (World.grownBy_alloc W1 (.cells #[.int .i64 T.sort,.slice a3 T.names.length cap3,.slice a T.kids.length cap] 26) none)
   have hsW:n₀≤W.heap.size:=Nat.le_trans hn₀ (xU HB).size
   have hsW1:=(xU HK1).below.size
   have hKL:Kept n₀ S W (W1.alloc (.cells #[.int .i64 T.sort,.slice a3 T.names.length cap3,.slice a T.kids.length cap] 26)):=(xU HK1).trans (Kept.grown (World.grownBy_alloc _ _ none) (by omega))
   have HJL:=xH hJL;have HKL:=xH hKL
   clear hJL hKL HJ1 HK1
   generalize hks:T.kids=ks at *
   have HKE:=xH hks;clear hks
   gi_loopw [18] (fun i wr=>∃ (k:Nat) (q:List (KX n₀ w0)),k≤ks.length∧i=.int .i64 k∧Hid (q.map kKey=(lv,T)::pordK (ks.take k) (lv+1))∧Hid (J (pre++q) wr)∧Hid (Kept n₀ S W wr)) (fun i _=>ks.length - (intOf i).toNat)
   case atStart=>exact ⟨0,[x],Nat.zero_le _,rfl,by simp [Hid,pordK,xU HX],xU HJL,xU HKL⟩
   case round =>
    obtain ⟨k,q,hk',rfl,HQ,HJQ,HKQ⟩:=hrel
    by_cases hlt:k < ks.length
    · obtain ⟨b,o,c,rfl,hbn,hat,hrepk⟩:=xU HKS k hlt
      have hbw:=(xU HB).trans HKQ.out.below
      have hat':=hat.carry (hbw.block b hbn)
      obtain ⟨d0,d1,d2⟩:=c
      have hrepk':=hrepk
      obtain ⟨g0,-,⟨a5,cap5,g1,-⟩,a6,cap6,g2,-⟩:=hrepk.open
      simp only at g0 g1 g2
      subst g0 g1 g2
      obtain ⟨e0,e1,e2⟩:=hat'
      simp only at e0 e1 e2
      have hmem:ks[k]∈T.kids:=by rw [xU HKE];exact List.getElem_mem hlt
      have hsm:ksz ks[k] < sz:=by have:=ksz_kid hmem;omega
      have hsm':ksz ks[k] < ksz T:=ksz_kid hmem
      have hnext:q.map kKey++pord ks[k] (lv+1)=(lv,T)::pordK (ks.take (k+1)) (lv+1):=by rw [HQ.out,pordK_take ks k hlt];simp
      have hpre:q.map kKey++pord ks[k] (lv+1) <+: pord T lv:=by
       rw [hnext,pord_eq,xU HKE]
       exact (List.prefix_cons_inj _).2 (pordK_take_pre ks (k+1) (lv+1))
      have hlenq:pre.length+(q.length+(pord ks[k] (lv+1)).length)≤N:=by
       have h1:=hpre.length_le
       simp only [List.length_append,List.length_map] at h1
       have h2:=xU HN
       omega
      have hgw:=World.grownBy_alloc wr (.cells #[.int .i64 ks[k].sort,.slice a5 ks[k].names.length cap5,.slice a6 ks[k].kids.length cap6] 26) none
      have hsWr:n₀≤wr.heap.size:=Nat.le_trans hsW HKQ.out.below.size
      have hcall:=fun m=>xU HI ks[k] hsm m ⟨.int .i64 ks[k].sort,.slice a5 ks[k].names.length cap5,.slice a6 ks[k].kids.length cap6⟩ (lv+1) (pre++q) _ hrepk' (hbw.trans ((Below.refl n₀ wr).grown hgw hsWr (fun k e=>by cases e))) (by have h1:=HKQ.out.below.size;have h2:=hgw.size;omega) (xU HJ _ _ _ HJQ.out hgw) (by rw [List.length_append];omega) (by omega) (by omega)
      have HCALL:=xH hcall
      have HKN:=xH (HKQ.out.trans (Kept.grown (S:=S) hgw hsWr))
      have HNX:=xH hnext;have HPR:=xH hpre
      clear hcall hgw hnext hpre hlenq hmem hrepk hrepk' hat hbw hbn hsm
      gi_wp2_with ((try refine ⟨hdd _,?_⟩);gi_at_call 83;refine (xU HCALL _).mono ?_;clear HCALL;rintro e W2 (⟨rfl,q2,hq2,hJ2,hk2⟩ | ⟨rfl,q2,hq2,hx2⟩))
      · go_roundw
        case rel =>
         refine ⟨k+1,q++q2,by omega,by go_num,?_,?_,(xU HKN).trans hk2⟩
         · show _=_
           rw [List.map_append,hq2];exact xU HNX
         · show J _ _
           rw [← List.append_assoc];exact hJ2
        case measure=>simp [intOf];omega
      · go_ret
        refine .inr ⟨rfl,q++q2,?_,by rw [← List.append_assoc];exact hx2⟩
        rw [List.map_append]
        exact ((List.prefix_append_right_inj _).2 hq2).trans (xU HPR)
    · gi_wp2
      go_ret
      obtain rfl:k=ks.length:=by omega
      refine .inl ⟨rfl,q,?_,HJQ.out,HKQ.out⟩
      rw [HQ.out,List.take_length,pord_eq,xU HKE]
 · go_ret
   exact .inr ⟨rfl,[x],by rw [pord_eq];simp [xU HX],xU HX1⟩
theorem walkOn_all (F:Fence) (hd:F.depth=none) (hf:F.fn 83) (hk:F.fn 152) (hro:F.round=none) (l n₀ N M:Nat) (S:Nat→Prop) (w0:World) (hn₀:n₀≤w0.heap.size)
 (J Jx:List (KX n₀ w0)→World→Prop) (hJ:∀ s A B,J s A→A.grownBy B none→J s B) (hS:∀ k,S k→k < M)
 (hY:∀ m pre (x:KX n₀ w0) W,J pre W→pre.length < N→YieldAt F m Tryz.prog l (kEnc x) W fun e W' =>
   (e=.returned (.bool true)∧J (pre++[x]) W'∧Kept n₀ S W W')∨(e=.returned (.bool false)∧Jx (pre++[x]) W')):∀ sz,WalkSaid F l n₀ N M S w0 J Jx sz
 | 0=>fun T h=>by omega
 | sz+1=>walkOn_step F hd hf hk hro l n₀ N M S w0 hn₀ J Jx hJ hS hY sz (walkOn_all F hd hf hk hro l n₀ N M S w0 hn₀ J Jx hJ hS hY sz)
theorem walk_in (F:Fence) (n:Nat) (hf:F.fn 55) (hro:F.round=none) (c0 c1:Value) (a:Option Addr) (len cap:Nat) (w:World) :
 CallsIn F n Tryz.prog 55 #[.agg #[c0,c1,.slice a len cap]] w fun e w'=>e=.returned (.func (.func 82) #[] #[.pointer (some ⟨w.heap.size,0,none⟩)])∧w'=w.alloc (.cells #[c0,c1,.slice a len cap] 26):=by
 refine callsIn_of_wp Tryz.func55 rfl hf ?_ hro
 simp only [Tryz.ntmps55,List.size_toArray,List.length_cons,List.length_nil,Nat.reduceAdd,Nat.reduceSub,Array.replicate_succ,Array.replicate_zero,List.push_toArray,List.append_toArray,List.nil_append,List.cons_append]
 gi_wp2
 go_ret
 exact ⟨rfl,rfl⟩
theorem walk1_in (F:Fence) (hd:F.depth=none) (n:Nat) (h1:F.fn 82) (hf:F.fn 83) (hk:F.fn 152) (hro:F.round=none) (l Bt n₀ M:Nat) (S:Nat→Prop) (w0:World) (hn₀:n₀≤w0.heap.size)
 (T:Kd) (c:C3) (hrep:KRep (fun b=>b < n₀) w0 T c) (hlv:ksz T≤1152921504606846970) (J Jx:List (KX n₀ w0)→World→Prop) (hJ:∀ s A B,J s A→A.grownBy B none→J s B) (hS:∀ k,S k→k < M)
 (hY:∀ pre (x:KX n₀ w0) W,J pre W→pre.length < (pord T 1).length→YieldAt F (n - 1) Tryz.prog l (kEnc x) W fun e W' =>
   (e=.returned (.bool true)∧J (pre++[x]) W'∧Kept n₀ S W W')∨(e=.returned (.bool false)∧Jx (pre++[x]) W'))
 (W:World) (hBt:C3.at W Bt 0 c) (hb:Below n₀ w0 W) (hMW:M≤W.heap.size) (h0:J [] W) :
 CallsIn F n Tryz.prog 82 #[.func (.yield l) #[] #[],.pointer (some ⟨Bt,0,none⟩)] W fun e W'=>(∃ v,e=.returned v) ∧
  ((∃ ys:List (KX n₀ w0),ys.map kKey=pord T 1∧J ys W')∨(∃ pre:List (KX n₀ w0),pre.map kKey <+: pord T 1∧Jx pre W')):=by
 have hdd:∀ k:Nat,(F.depth.isSome=true→1≤k):=fun k h=>by rw [hd] at h;cases h
 have hp:=walkOn_all F hd hf hk hro l n₀ (pord T 1).length M S w0 hn₀ J Jx hJ hS (fun m pre x W hj hl=>yield_any hd m (hY pre x W hj hl)) (ksz T+1) T (by omega) (n - 1) c 1 [] W hrep hb hMW h0 (by simp) (by omega) (by omega)
 obtain ⟨c0,c1,c2⟩:=c
 obtain ⟨e0,e1,e2⟩:=hBt
 simp only at e0 e1 e2 hp
 have HP:=xH hp
 clear hp hrep hY hS hJ hb
 refine callsIn_of_wp Tryz.func82 rfl h1 ?_ hro
 simp only [Tryz.ntmps82,List.size_toArray,List.length_cons,List.length_nil,Nat.reduceAdd,Nat.reduceSub,Array.replicate_succ,Array.replicate_zero,List.push_toArray,List.append_toArray,List.nil_append,List.cons_append]
 gi_wp2_with ((try refine ⟨hdd _,?_⟩);gi_at_call 83;refine (xU HP).mono ?_;clear HP;rintro e W1 (⟨rfl,q,hq,hJ1,_⟩ | ⟨rfl,q,hq,hx⟩))
 · go_end0
   exact ⟨⟨_,rfl⟩,.inl ⟨q,hq,by simpa using hJ1⟩⟩
 · go_end0
   exact ⟨⟨_,rfl⟩,.inr ⟨q,hq,by simpa using hx⟩⟩
end Go.Proofs.YteefjeddboefcaaGreatDoor

namespace Go.Proofs.YteefjeddboefcaaGreatDoor
open Go Go.RowKit Go.Maps
def RP (P:Nat→Prop) (base:Nat) (w:World) (v:Value):Nat→Prop:=fun b=>P b∨(base≤b∧b < w.heap.size∧v.ownBlock≠some b)
structure GotN (P:Nat→Prop) (base:Nat) (w:World) (v:Value) (ks:List Kd) (xs:List Value):Prop where
 row:w.ownsRow base 75 4 v ks.length xs
 reps:NRepL (RP P base w v) w ks xs
theorem GotN.start (P:Nat→Prop) (base:Nat) (w:World):GotN P base w (.slice none 0 0) [] []:=⟨World.ownsRow_nil _ _ _ _,rfl⟩
theorem GotN.kept {P:Nat→Prop} {base:Nat} {w w':World} {v:Value} {ks:List Kd} {xs:List Value} (h:GotN P base w v ks xs) (hP:∀ b,P b→b < w.heap.size) (hg:w.grownBy w' none):GotN P base w' v ks xs :=
 ⟨h.row.kept hg (by
  rcases e:v.ownBlock with _ | g
  · exact Or.inl rfl
  · exact Or.inr (by simp)),
  h.reps.carry (fun b hb=>hg.block b (hb.elim (hP b) (fun h=>h.2.1)) (by simp)) (fun b hb=>hb.imp id (fun h=>⟨h.1,Nat.lt_of_lt_of_le h.2.1 hg.size,h.2.2⟩))⟩
theorem GotN.push {P:Nat→Prop} {base m:Nat} {w w':World} {v v':Value} {ks:List Kd} {xs:List Value} {t:Kd} {c:C4} (h:GotN P base w v ks xs) (hP:∀ b,P b→b < base) (ht:NRep (OrNew P m w) w t c) (hbm:base≤m) (hmw:m≤w.heap.size) (hvm:∀ b,v.ownBlock=some b→b < m)
 (hown:w'.ownsRow base 75 4 v' (ks.length+1) (xs++c4l c)) (hg:w.grownBy w' v.ownBlock) (hv:v'.ownBlock=v.ownBlock∨∃ g,v'.ownBlock=some g∧w.heap.size≤g) :
 GotN P base w' v' (ks++[t]) (xs++c4l c):=by
 have hkid:NRep (RP P base w v) w t c:=NRep.carry (fun _ _=>rfl) (fun b hb=>hb.imp id (fun h=>⟨by omega,h.2,fun e=>by have:=hvm b e;omega⟩)) t c ht
 refine ⟨by simpa using hown,(h.reps.snoc hkid).carry (fun b hb=>hg.block b ?_ ?_) (fun b hb=>?_)⟩
 · rcases hb with hb | hb
   · have:=hP b hb;omega
   · exact hb.2.1
 · rcases hb with hb | hb
   · intro e;have:=hP b hb;have:=(h.row.lt b e.symm).1;omega
   · exact fun e=>hb.2.2 e.symm
 · refine hb.imp id (fun hb=>⟨hb.1,Nat.lt_of_lt_of_le hb.2.1 hg.size,?_⟩)
   rcases hv with e | ⟨g,e,hge⟩
   · rw [e];exact hb.2.2
   · rw [e];intro e2;simp only [Option.some.injEq] at e2;have:=hb.2.1;omega
theorem infoNamed:(Tryz.prog.info? 75).map (fun i=>(i.zero,i.size,i.bytes))=some (some (.agg #[.int .i64 0,.slice none 0 0,.map none,.slice none 0 0]),4,64):=by kernel_rfl
theorem kidsN_any (c0 c1:Value) (a:Option Addr) (len cap:Nat) (w:World) :
 Calls Tryz.prog 152 #[.agg #[c0,c1,.slice a len cap]] w fun e w'=>e=.returned (.slice a len cap)∧w'=w.alloc (.cells #[c0,c1,.slice a len cap] 26) :=
 (callsIn_wide (n:=1)).1 (kids_in Fence.wide _ trivial rfl c0 c1 a len cap w)
theorem klszLenN (l:List Kd):l.length≤klsz l:=by
 induction l with
 | nil=>simp
 | cons a r ih =>
   rw [klsz,List.length_cons]
   have:1≤ksz a:=by obtain ⟨s,ns,ks⟩:=a;rw [ksz];omega
   omega
theorem cell_four (w:World) (c:C4) (t:TypeId):∀ j u,(c4l c)[j]? = some u→(w.alloc (.cells #[c.c0,c.c1,c.c2,c.c3] t)).cell? ((⟨w.heap.size,0,none⟩:Addr).add j)=some u:=by
 intro j u hj
 have hrow:=row4_alloc w c.c0 c.c1 c.c2 c.c3 t
 rw [Addr.add_lit,Nat.zero_add]
 match j with
 | 0=>rw [hrow.cell (by omega)];exact hj
 | 1=>rw [hrow.cell (by omega)];exact hj
 | 2=>rw [hrow.cell (by omega)];exact hj
 | 3=>rw [hrow.cell (by omega)];exact hj
 | j+4=>simp [c4l] at hj
theorem NRep.one {P:Nat→Prop} {w:World} {t:Kd} {c:C4} (h:NRep P w t c):∀ u∈c4l c,u.oneCell'=true:=by
 obtain ⟨h0,-,⟨a,cap,h1,-⟩,⟨B,h2,-⟩,a2,cap2,h3,-⟩:=h.open
 intro u hu
 simp only [c4l,h0,h1,h2,h3,List.mem_cons,List.not_mem_nil,or_false] at hu
 rcases hu with rfl | rfl | rfl | rfl <;> rfl
def GNSaid (n:Nat):Prop:=∀ (t:Kd),ksz t < n→∀ (P:Nat→Prop) (c:C3) (w:World),(∀ b,P b→b < w.heap.size)→KRep P w t c→ksz t≤1000000→wKd t≤1048576 →
    Calls Tryz.prog 32 #[.agg #[c.c0,c.c1,c.c2],.func (.func 33) #[] #[]] w fun e w'=>∃ d:C4,e=.returned (.agg #[d.c0,d.c1,d.c2,d.c3])∧NRep (OrNew P w.heap.size w') w' t d∧Below w.heap.size w w'
theorem gatherN_step (n:Nat) (IH:GNSaid n):GNSaid (n+1):=by
 intro t hn P c w hP hrep hsz hwt
 have hks1:t.kids.length≤1000000:=by
  have:=klszLenN t.kids
  have e:ksz t=1+klsz t.kids:=by obtain ⟨s,ns,ks⟩:=t;rw [ksz];rfl
  omega
 have hwe:wKd t=wS t.names+wKs t.kids:=by obtain ⟨s,ns,ks⟩:=t;rfl
 have hnl:t.names.length≤1048576:=by have:=wS_len t.names;omega
 obtain ⟨c0,c1,c2⟩:=c
 obtain ⟨e0,-,hns,a,cap,e2,-,hks⟩:=hrep.open
 simp only at e0 e2 hns
 obtain ⟨a3,cap3,e1,-,-⟩:=hns
 subst e0 e1 e2
 obtain ⟨i0,hi,hz0,hz1,hz2⟩:=info_parts infoNamed
 have hm:∀ w,(method 349 26 (.agg #[.int .i64 t.sort,.slice a3 t.names.length cap3,.slice a t.kids.length cap]) "loop.example/teagle/impl.kids").run Tryz.prog w=.ok (152,.agg #[.int .i64 t.sort,.slice a3 t.names.length cap3,.slice a t.kids.length cap]) w:=fun _=>by kernel_rfl
 have hft:=fun (vK:Value) (W:World) (hW:Below w.heap.size w W) (hK:NKids (OrNew P (w.heap.size+2) W) W vK t.kids) =>
  nameKind_any t (OrNew P (w.heap.size+2) W) ⟨.int .i64 t.sort,.slice a3 t.names.length cap3,.slice a t.kids.length cap⟩ vK W (fun b hb=>hb.elim (fun h=>Nat.lt_of_lt_of_le (hP b h) hW.size) (fun h=>h.2)) (KRep.carry (fun b hb=>hW.block b (hP b hb)) (fun b hb=>Or.inl hb) _ _ hrep) hK hnl
 have HFT:=xH hft;have HP:=xH hP;have HI:=xH IH;have HK:=xH hks
 have HII:=xH hi;have HZ0:=xH hz0;have HZ1:=xH hz1;have HZ2:=xH hz2
 have hkw:∀ i (hi:i < t.kids.length),wKd t.kids[i]≤1048576:=fun i hi=>by have:=wKs_mem (List.getElem_mem hi);omega
 have HKW:=xH hkw
 clear hft hP IH hks hi hz0 hz1 hz2 hrep hwt hwe hkw
 go_enter Tryz.func32,Tryz.ntmps32
 go_wp2_with (go_at_call 152;refine (kidsN_any _ _ _ _ _ _).mono ?_;rintro e w' ⟨rfl,rfl⟩)
 clear hm
 obtain ⟨W0,hW0⟩:∃ W0,(((w.alloc (.cells #[.int .i64 t.sort,.slice a3 t.names.length cap3,.slice a t.kids.length cap] 26)).alloc (.cells #[.int .i64 0,.slice none 0 0,.map none,.slice none 0 0] 75)).alloc (.cells #[.int .i64 t.sort,.slice a3 t.names.length cap3,.slice a t.kids.length cap] 26))=W0:=⟨_,rfl⟩
 have hs0:W0.heap.size=w.heap.size+3:=by rw [← hW0];simp
 have hbl:Below w.heap.size w W0:=by rw [← hW0];exact (((Below.refl _ _).alloc (Nat.le_refl _) _).alloc (by simp) _).alloc (by simp;omega) _
 have hr0:W0.rowIs w.heap.size 26 3 (row3 (.int .i64 t.sort) (.slice a3 t.names.length cap3) (.slice a t.kids.length cap)):=by rw [← hW0];exact ((row3_alloc w _ _ _ _).alloc _).alloc _
 have hr1:W0.rowIs (w.heap.size+1) 75 4 (row4 (.int .i64 0) (.slice none 0 0) (.map none) (.slice none 0 0)):=by
  rw [← hW0]
  have q:=row4_alloc (w.alloc (.cells #[.int .i64 t.sort,.slice a3 t.names.length cap3,.slice a t.kids.length cap] 26)) (.int .i64 0) (.slice none 0 0) (.map none) (.slice none 0 0) 75
  rw [World.size_alloc] at q
  exact q.alloc _
 rw [hW0]
 have HBL:=xH hbl;have HR0:=xH hr0;have HR1:=xH hr1
 clear hW0 hbl hr0 hr1
 generalize hkk:t.kids=ks at *
 have HKS:=xH hkk;clear hkk
 go_loopw [5,12] (fun s i wr=>∃ (k:Nat) (a':Option Addr) (cap':Nat) (xs:List Value),k≤ks.length∧i=.int .i64 k∧s=.slice a' k cap'∧Hid (GotN P (w.heap.size+2) wr (.slice a' k cap') (ks.take k) xs)∧Hid (Below (w.heap.size+2) W0 wr)) (fun _ i _=>ks.length - (intOf i).toNat)
 case atStart=>exact ⟨0,none,0,[],Nat.zero_le _,rfl,rfl,GotN.start _ _ _,Below.refl _ _⟩
 case round =>
  obtain ⟨k,a',cap',xs,hk,rfl,rfl,HG,HB⟩:=hrel
  have hsw:=HB.out.size
  have hkl:(ks.take k).length=k:=by simp;omega
  have HKL:=xH hkl;clear hkl
  have hbw:Below w.heap.size w wr:=(xU HBL).trans (HB.out.mono (by omega))
  have HBW:=xH hbw;clear hbw
  by_cases hlt:k < ks.length
  · obtain ⟨b,o,c,rfl,hpb,hcell,hrp⟩:=xU HK k hlt
    have hcell':=hcell.carry ((xU HBW).block b (xU HP b hpb))
    obtain ⟨d0,d1,d2⟩:=c
    have hrw:KRep P wr ks[k] ⟨d0,d1,d2⟩:=KRep.carry (fun b hb=>(xU HBW).block b (xU HP b hb)) (fun _ h=>h) _ _ hrp
    obtain ⟨g0,-,⟨a5,cap5,g1,-⟩,a6,cap6,g2,-⟩:=hrp.open
    simp only at g0 g1 g2
    subst g0 g1 g2
    obtain ⟨f0,f1,f2⟩:=hcell'
    simp only at f0 f1 f2
    have hmem:ks[k]∈t.kids:=by rw [xU HKS];exact List.getElem_mem hlt
    have hsm:ksz ks[k] < n:=by have:=ksz_kid hmem;omega
    have hsm':ksz ks[k] < ksz t:=ksz_kid hmem
    have hba:∀ ob,Below wr.heap.size wr (wr.alloc ob):=fun ob=>(Below.refl _ _).alloc (Nat.le_refl _) ob
    have hcall:∀ ob,Calls Tryz.prog 32 #[.agg #[.int .i64 ks[k].sort,.slice a5 ks[k].names.length cap5,.slice a6 ks[k].kids.length cap6],.func (.func 33) #[] #[]] (wr.alloc ob) fun e w'=>∃ d:C4,e=.returned (.agg #[d.c0,d.c1,d.c2,d.c3])∧NRep (OrNew P wr.heap.size w') w' ks[k] d∧Below wr.heap.size wr w':=fun ob =>
     (xU HI ks[k] hsm P ⟨_,_,_⟩ (wr.alloc ob) (fun b hb=>by have:=xU HP b hb;simp;omega) (KRep.carry (fun b hb=>(hba ob).block b (by have:=xU HP b hb;omega)) (fun _ h=>h) _ _ hrw) (by omega) (xU HKW k hlt)).mono
       fun e w' ⟨d,h1,h2,h3⟩=>⟨d,h1,NRep.carry (P:=OrNew P (wr.alloc ob).heap.size w') (Q:=OrNew P wr.heap.size w') (fun _ _=>rfl) (fun b (hb:P b∨((wr.alloc ob).heap.size≤b∧b < w'.heap.size))=>hb.elim Or.inl (fun h=>Or.inr ⟨by have:=h.1;simp at this;omega,h.2⟩)) _ _ h2,(hba ob).trans (h3.mono (hba ob).size)⟩
    have htk:ks.take (k+1)=ks.take k++[ks[k]]:=List.take_succ_eq_append_getElem hlt
    generalize ks[k]=tk at *
    have HCALL:=xH hcall;have HTK:=xH htk
    clear hcall htk hcell hrp hrw hmem hsm hsm' hba hpb
    go_wp2_with fail
    refine (xU HCALL _).mono ?_
    rintro e w2 ⟨⟨d0,d1,d2,d3⟩,rfl,hnr,hb2⟩
    have hs2:=hb2.size
    have hg2:wr.grownBy w2 none:=⟨hb2.os,hb2.tape,hb2.output,hb2.size,fun i hi _=>hb2.block i hi⟩
    have hgot2:=HG.out.kept (fun b hb=>by have:=xU HP b hb;omega) hg2
    have hvm:∀ b,(Value.slice a' k cap').ownBlock=some b→b < wr.heap.size:=fun b hb=>(HG.out.row.lt b hb).2
    obtain ⟨y0,-,⟨a7,cap7,y1,-⟩,⟨B,y2,-⟩,a8,cap8,y3,-⟩:=hnr.open
    have hone:=hnr.one
    simp only at y0 y1 y2 y3
    subst y0 y1 y2 y3
    have HNR:=xH hnr;have HGOT:=xH hgot2;have HVM:=xH hvm;have HONE:=xH hone;have HB2:=xH (HB.out.trans (hb2.mono (by omega)))
    clear hnr hb2 hg2 hgot2 hvm hone f0 f1 f2 HCALL
    go_wp2_with (at_builtin;refine append_row _ rfl _ _ 73 rfl (w.heap.size+2) 75 i0 _ 4 64 Tryz.underlying73 (xU HII) (xU HZ0) (xU HZ1) (xU HZ2) rfl (by decide) (.slice a' k cap') k xs rfl (by have:=(xU HGOT).row;rw [xU HKL] at this;exact this.alloc _) ⟨w2.heap.size,0,none⟩ 1 1 (c4l ⟨_,_,_,_⟩) rfl rfl (cell_four _ _ _) (xU HONE) (by decide) (by unfold maxLen;omega) (by omega) (by simp;omega) ?_;intro v' w4 hown4 hgrow4 hv4)
    obtain ⟨g',cap'',hv''⟩:∃ g' cap'',v'=.slice (some ⟨g',0,none⟩) (k+1) cap'':=by
     rcases hown4.2 with ⟨_,h⟩ | ⟨g',cap'',_,h,_⟩
     · omega
     · exact ⟨g',cap'',h⟩
    have hal:=World.grownBy_alloc w2 (.cells #[.int .i64 tk.sort,.slice a7 tk.names.length cap7,.map (some B),.slice a8 tk.kids.length cap8] 75) none
    have hlt4:=(xU HGOT).row.lt
    have hpush:=GotN.push (m:=wr.heap.size) ((xU HGOT).kept (fun b hb=>by have:=xU HP b hb;omega) hal) (fun b hb=>by have:=xU HP b hb;omega) (NRep.carry (fun b hb=>hal.block b (hb.elim (fun h=>by have:=xU HP b h;omega) (fun h=>h.2)) (by simp)) (fun b hb=>hb.imp id (fun h=>⟨h.1,by have:=h.2;simp;omega⟩)) tk _ (xU HNR)) (by omega) (by simp;omega) (xU HVM) (by rw [xU HKL];exact hown4) hgrow4 hv4
    rw [← xU HTK] at hpush
    have hb4:Below (w.heap.size+2) w2 w4:=((Below.refl _ w2).alloc (by omega) _).trans ((Below.refl _ _).grown hgrow4 (by simp;omega) (fun k e=>(hlt4 k e).1))
    subst hv''
    have HPU:=xH hpush;have HB4:=xH ((xU HB2).trans hb4)
    clear hown4 hgrow4 hv4 hpush hb4 hlt4 hal
    go_roundw
    case rel=>exact ⟨k+1,some ⟨g',0,none⟩,cap'',_,by omega,by go_num,rfl,xU HPU,xU HB4⟩
    case measure=>simp [intOf];omega
  · obtain rfl:k=ks.length:=by omega
    have hg:=HG.out
    rw [List.take_length] at hg
    have hKN:NKids (OrNew P (w.heap.size+2) wr) wr (.slice a' ks.length cap') ks:=NKids.of_row hg.row (hg.reps.carry (fun _ _=>rfl) (fun b hb=>hb.imp id (fun h=>⟨h.1,h.2.1⟩))) (fun g h1 h2=>Or.inr ⟨h1,h2⟩)
    have hcall:=xU HFT (.slice a' ks.length cap') wr (xU HBW) hKN
    have q0:=(xU HR0).of_block (HB.out.block w.heap.size (by omega))
    have q1:=(xU HR1).of_block (HB.out.block (w.heap.size+1) (by omega))
    obtain ⟨k0,k1,k2⟩:=cs3 q0 (by omega)
    simp only [row3] at k0 k1 k2
    have HCALL:=xH hcall;have Q1:=xH q1
    clear hcall hKN hg q0 q1
    go_wp2_with fail
    refine (xU HCALL).mono ?_
    rintro e w2 ⟨B,rfl,hnr,hb2⟩
    have hs2:=hb2.size
    have q2:=(xU Q1).of_block (hb2.block (w.heap.size+1) (by omega))
    have z:=q2.frozen
    obtain ⟨y0,y1,y2,y3⟩:=cs4 q2 (by omega)
    simp only [row4] at y0 y1 y2 y3
    have HNR:=xH hnr;have HB2:=xH ((xU HBW).trans (hb2.mono (by omega)))
    clear hnr hb2 q2 HCALL
    go_wp2_with fail
    refine bodyPost_ret (v:=.agg #[.int .i64 t.sort,.slice a3 t.names.length cap3,.map (some B),.slice a' ks.length cap']) (by simp [results,Tryz.results32,go_sem,y0,y1,y2,y3]) rfl ⟨⟨_,_,_,_⟩,rfl,?_,?_⟩
    · refine NRep.carry (fun b hb=>heap_set4n _ _ _ _ _ _ _ ?_) (fun b hb=>?_) t _ (xU HNR)
      · rcases hb with (h | h) | h
        · have:=xU HP b h;omega
        · have:=h.1;omega
        · have:=h.1;omega
      · rcases hb with (h | h) | h
        · exact Or.inl h
        · exact Or.inr ⟨by have:=h.1;omega,by rw [size_set4];have:=h.2;omega⟩
        · exact Or.inr ⟨by have:=h.1;omega,by rw [size_set4];exact h.2⟩
    · exact below_set4 (xU HB2) _ _ _ _ _ (by omega)
theorem gatherN_all:∀ n,GNSaid n
 | 0=>fun t h=>by omega
 | n+1=>gatherN_step n (gatherN_all n)
end Go.Proofs.YteefjeddboefcaaGreatDoor

namespace Go.Proofs.YteefjeddboefcaaGreatDoor
open Go Go.RowKit Go.Maps
def row9 (c:C4) (d:C5):Nat→Value
 | 0=>c.c0
 | 1=>c.c1
 | 2=>c.c2
 | 3=>c.c3
 | 4=>d.c0
 | 5=>d.c1
 | 6=>d.c2
 | 7=>d.c3
 | _=>d.c4
theorem row9_alloc (w:World) (c:C4) (d:C5) (t:TypeId):(w.alloc (.cells #[c.c0,c.c1,c.c2,c.c3,d.c0,d.c1,d.c2,d.c3,d.c4] t)).rowIs w.heap.size t 9 (row9 c d) :=
 World.rowIs_alloc w #[c.c0,c.c1,c.c2,c.c3,d.c0,d.c1,d.c2,d.c3,d.c4] t _ (fun i hi=>by
  have hi':i < 9:=hi
  match i,hi' with
  | 0,_=>rfl
  | 1,_=>rfl
  | 2,_=>rfl
  | 3,_=>rfl
  | 4,_=>rfl
  | 5,_=>rfl
  | 6,_=>rfl
  | 7,_=>rfl
  | 8,_=>rfl)
def holdB (k:Kd) (t:Tr):Bool:=decide (k.sort=t.sort) && justB k.names t.names
theorem holds_any (k:Kd) (t:Tr) (P Q:Nat→Prop) (c:C4) (d:C5) (w:World) (hP:∀ b,P b→b < w.heap.size) (hQ:∀ b,Q b→b < w.heap.size) (hrep:NRep P w k c) (hrep2:Rep Q w t d) :
 Calls Tryz.prog 34 #[.agg #[c.c0,c.c1,c.c2,c.c3,d.c0,d.c1,d.c2,d.c3,d.c4]] w fun e w'=>e=.returned (.bool (holdB k t))∧Below w.heap.size w w':=by
 obtain ⟨c0,c1,c2,c3⟩:=c
 obtain ⟨d0,d1,d2,d3,d4⟩:=d
 obtain ⟨e0,-,⟨a3,cap3,e1,-,-⟩,⟨B,e2,hPB,hm⟩,a,cap,e3,-,-⟩:=hrep.open
 obtain ⟨g0,g1,g2,-,-,-,hns,a6,cap6,g4,-,-⟩:=hrep2.open
 simp only at e0 e1 e2 e3 g0 g1 g2 g4 hns
 have HNS:=xH hns
 obtain ⟨a5,cap5,g3,-,-⟩:=hns
 subst e0 e1 e2 e3 g0 g1 g2 g3 g4
 have hb0:∀ o,Below w.heap.size w (w.alloc o):=fun o=>(Below.refl _ _).alloc (Nat.le_refl _) o
 have hcall:=fun o=>hasJust_any a3 cap3 B k.names (.slice a5 t.names.length cap5) t.names (w.alloc o) (P:=Q) (fun b hb=>Nat.lt_of_lt_of_le (hQ b hb) (hb0 o).size) ((xU HNS).carry (fun b hb=>(hb0 o).block b (hQ b hb)) (fun _ h=>h)) (hm.carry ((hb0 o).block B (hP B hPB)))
 have HCALL:=xH hcall;have HB0:=xH hb0
 clear hcall hb0 hrep hrep2 hP hQ hPB hm
 by_cases hs:k.sort=t.sort
 · have hh:holdB k t=justB k.names t.names:=by rw [holdB,decide_eq_true hs,Bool.true_and]
   rw [hh]
   simp only [hs]
   clear hs hh
   generalize justB k.names t.names=r at *
   go_enter Tryz.func34,Tryz.ntmps34
   go_wp2_with (go_at_call 60;refine (xU HCALL _).mono ?_;rintro e w1 ⟨rfl,hb1⟩)
   go_ret
   exact ⟨rfl,(xU HB0 _).trans (hb1.mono (xU HB0 _).size)⟩
 · have hh:holdB k t=false:=by rw [holdB,decide_eq_false hs,Bool.false_and]
   rw [hh]
   clear hh HCALL
   go_enter Tryz.func34,Tryz.ntmps34
   go_wp2_with fail
   go_ret
   exact ⟨rfl,xU HB0 _⟩
end Go.Proofs.YteefjeddboefcaaGreatDoor

namespace Go.Proofs.YteefjeddboefcaaGreatDoor
open Go Go.RowKit Go.Maps
def nlt (a b:ByteArray):Prop:=Op.bytesLess a.toList b.toList=true
theorem nlt_iff (a b:ByteArray):nlt a b↔a.toList < b.toList:=by unfold nlt;rw [bytesLess_eq,decide_eq_true_eq]
theorem nlt_irrefl (a:ByteArray):¬ nlt a a:=by rw [nlt_iff];exact List.lt_irrefl _
theorem nlt_trans {a b c:ByteArray} (h:nlt a b) (k:nlt b c):nlt a c:=by
 rw [nlt_iff] at *;exact List.lt_trans h k
theorem rise_step {ns:List ByteArray} (h:riseB ns=true) (i:Nat) (hi:i+1 < ns.length):nlt ns[i] ns[i+1]:=by
 unfold riseB at h
 rw [List.all_eq_true] at h
 have hg:=h (i+1) (List.mem_range.2 hi)
 unfold good at hg
 rw [Bool.and_eq_true,getD_lt _ _ hi,getD_lt _ _ (show i+1 - 1 < ns.length by omega)] at hg
 have:=hg.2
 rw [decide_eq_false (by omega),Bool.false_or] at this
 exact this
theorem rise_lt {ns:List ByteArray} (h:riseB ns=true) (i:Nat):∀ (d:Nat) (hd:i+d+1 < ns.length),nlt (ns[i]'(by omega)) ns[i+d+1]
 | 0,hd=>rise_step h i hd
 | d+1,hd=>nlt_trans (rise_lt h i d (by omega)) (rise_step h (i+d+1) hd)
theorem rise_pairs {ns:List ByteArray} (h:riseB ns=true):ns.Pairwise nlt:=by
 rw [List.pairwise_iff_getElem]
 intro i j hi hj hij
 obtain ⟨d,rfl⟩:∃ d,j=i+d+1:=⟨j - i - 1,by omega⟩
 exact rise_lt h i d hj
theorem rise_nodup {ns:List ByteArray} (h:riseB ns=true):ns.Nodup :=
 (rise_pairs h).imp (fun {a b} hab e=>by subst e;exact nlt_irrefl _ hab)
theorem rise_sub:∀ (ns ms:List ByteArray),ns.Pairwise nlt→ms.Pairwise nlt→(∀ x,x∈ms→x∈ns)→ms.Sublist ns
 | [],[],_,_,_=>List.Sublist.slnil
 | [],b::s,_,_,h=>by have:=h b (by simp);simp at this
 | a::r,[],_,_,_=>List.nil_sublist _
 | a::r,b::s,h1,h2,h=>by
   rw [List.pairwise_cons] at h1
   have h2':=h2
   rw [List.pairwise_cons] at h2'
   by_cases e:b=a
   · subst e
     refine List.Sublist.cons_cons _ (rise_sub r s h1.2 h2'.2 (fun x hx=>?_))
     rcases List.mem_cons.1 (h x (List.mem_cons_of_mem _ hx)) with rfl | hr
     · exact absurd (h2'.1 x hx) (nlt_irrefl _)
     · exact hr
   · have hb:b∈r:=(List.mem_cons.1 (h b (by simp))).resolve_left e
     refine List.Sublist.cons _ (rise_sub r (b::s) h1.2 h2 (fun x hx=>?_))
     rcases List.mem_cons.1 (h x hx) with rfl | hr
     · rcases List.mem_cons.1 hx with rfl | hs
       · exact absurd rfl e
       · exact absurd (nlt_trans (h1.1 b hb) (h2'.1 x hs)) (nlt_irrefl _)
     · exact hr
theorem just_iff {ns ms:List ByteArray} (h1:riseB ns=true) (h2:riseB ms=true):justB ns ms=decide (ns=ms):=by
 rw [Bool.eq_iff_iff,justB,Bool.and_eq_true,List.all_eq_true,decide_eq_true_eq,decide_eq_true_eq]
 constructor
 · rintro ⟨ha,hl⟩
   refine ((rise_sub ns ms (rise_pairs h1) (rise_pairs h2) (fun x hx=>?_)).eq_of_length hl).symm
   have:=(has_nmap ns x ns.length (Nat.le_refl _)).1 (ha x hx)
   rwa [List.take_length] at this
 · rintro rfl
   exact ⟨fun x hx=>(has_nmap ns x ns.length (Nat.le_refl _)).2 (by rw [List.take_length];exact hx),rfl⟩
theorem hold_eq {k:Kd} {t:Tr} (hk:shB k=true) (ht:aloneB t=true):holdB k t=(decide (k.sort=t.sort) && decide (k.names=t.names)):=by
 by_cases hs:k.sort=t.sort
 · rw [holdB]
   congr 1
   by_cases h5:k.sort=5
   · have h1:riseB k.names=true:=by
      rcases shB_cases hk with ⟨h,-⟩ | ⟨h,-⟩ | ⟨-,-,h⟩
      · omega
      · omega
      · exact h
     have h2:riseB t.names=true:=by
      have ht5:t.sort=5:=by omega
      unfold aloneB at ht
      simp [ht5] at ht
      exact ht.2
     exact just_iff h1 h2
   · have h1:k.names=[]:=by
      rcases shB_cases hk with ⟨-,-,h⟩ | ⟨-,-,h⟩ | ⟨h,-⟩
      · exact List.eq_nil_of_length_eq_zero h
      · exact List.eq_nil_of_length_eq_zero h
      · exact absurd h h5
     have h2:t.names=[]:=by
      have ht5:t.sort≠5:=by omega
      unfold aloneB at ht
      apply List.eq_nil_of_length_eq_zero
      by_cases e1:t.sort=1
      · simp [e1] at ht;simp [ht]
      by_cases e2:t.sort=2
      · simp [e2] at ht;simp [ht]
      by_cases e3:t.sort=3
      · simp [e3] at ht;simp [ht]
      by_cases e4:t.sort=4
      · simp [e4] at ht;simp [ht]
      by_cases e6:t.sort=6
      · simp [e6] at ht;simp [ht]
      · rw [if_neg e1,if_neg e2,if_neg e3,if_neg e4,if_neg ht5,if_neg e6] at ht;cases ht
     rw [h1,h2]
     simp [justB]
 · rw [holdB,decide_eq_false hs];rfl
end Go.Proofs.YteefjeddboefcaaGreatDoor

namespace Go.Proofs.YteefjeddboefcaaGreatDoor
open Go Go.RowKit
theorem cmp_mem_upto (d:Array (List UInt8)) (x:List UInt8):∀ m,x∈Lib.compactUpTo d m↔∃ j,j < m∧d[j]! = x
 | 0=>by simp [Lib.compactUpTo]
 | m+1=>by
   rw [Lib.compactUpTo_succ,List.mem_append,cmp_mem_upto d x m]
   by_cases hk:Lib.keeps d m=true
   · rw [if_pos hk]
     constructor
     · rintro (⟨j,hj,e⟩ | h)
       · exact ⟨j,by omega,e⟩
       · exact ⟨m,by omega,(List.mem_singleton.1 h).symm⟩
     · rintro ⟨j,hj,e⟩
       by_cases h:j=m
       · subst h;exact Or.inr (List.mem_singleton.2 e.symm)
       · exact Or.inl ⟨j,by omega,e⟩
   · rw [if_neg hk]
     have hk2:m≠0∧d[m]! = d[m - 1]! := by
      unfold Lib.keeps at hk
      rw [decide_eq_true_eq] at hk
      refine ⟨fun h=>hk (Or.inl h),?_⟩
      by_cases h:d[m]! = d[m - 1]!
      · exact h
      · exact absurd (Or.inr h) hk
     constructor
     · rintro (⟨j,hj,e⟩ | h)
       · exact ⟨j,by omega,e⟩
       · cases h
     · rintro ⟨j,hj,e⟩
       by_cases h:j=m
       · subst h;exact Or.inl ⟨j - 1,by omega,by rw [← hk2.2];exact e⟩
       · exact Or.inl ⟨j,by omega,e⟩
theorem cmp_mem {zs:List (List UInt8)} {x:List UInt8}:x∈Lib.compact zs↔x∈zs:=by
 unfold Lib.compact
 rw [cmp_mem_upto,List.mem_iff_getElem]
 constructor
 · rintro ⟨j,hj,e⟩
   exact ⟨j,hj,by rw [← e];simp [hj]⟩
 · rintro ⟨j,hj,e⟩
   exact ⟨j,hj,by rw [← e];simp [hj]⟩
theorem le_ne_lt {a b:List UInt8} (h:a≤b) (hne:b≠a):a < b:=by
 rcases Classical.em (a < b) with h1 | h1
 · exact h1
 · exact absurd (List.le_antisymm (List.not_lt.1 h1) h) hne
theorem cmp_rise_upto (d:Array (List UInt8)) (hs:∀ i j,i < j→j < d.size→d[i]! ≤ d[j]!):∀ m,m≤d.size→(Lib.compactUpTo d m).Pairwise (· < ·)∧∀ x,x∈Lib.compactUpTo d m→x≤d[m - 1]!
 | 0,_=>by simp [Lib.compactUpTo]
 | m+1,hm=>by
   obtain ⟨h1,h2⟩:=cmp_rise_upto d hs m (by omega)
   have hle:∀ x,x∈Lib.compactUpTo d m→x≤d[m]! := fun x hx=>by
    have h0:m≠0:=by rintro rfl;simp [Lib.compactUpTo] at hx
    exact List.le_trans (h2 x hx) (hs (m - 1) m (by omega) (by omega))
   rw [Lib.compactUpTo_succ]
   by_cases hk:Lib.keeps d m=true
   · rw [if_pos hk,List.pairwise_append]
     refine ⟨⟨h1,List.pairwise_singleton _ _,fun x hx y hy=>?_⟩,fun x hx=>?_⟩
     · rw [List.mem_singleton.1 hy]
       have h0:m≠0:=by rintro rfl;simp [Lib.compactUpTo] at hx
       unfold Lib.keeps at hk
       rw [decide_eq_true_eq] at hk
       have hne:=hk.resolve_left h0
       have h3:d[m - 1]! < d[m]! := le_ne_lt (hs (m - 1) m (by omega) (by omega)) hne
       exact List.lt_of_le_of_lt (h2 x hx) h3
     · rcases List.mem_append.1 hx with h | h
       · exact hle x h
       · rw [List.mem_singleton.1 h];exact List.le_refl _
   · rw [if_neg hk,List.append_nil]
     exact ⟨h1,fun x hx=>hle x hx⟩
theorem cmp_rise {zs:List (List UInt8)} (h:zs.Pairwise fun x y=>decide (x≤y)=true):(Lib.compact zs).Pairwise (· < ·):=by
 refine (cmp_rise_upto zs.toArray (fun i j hij hj=>?_) zs.length (by simp)).1
 have hj':j < zs.length:=by simpa using hj
 have:=List.pairwise_iff_getElem.1 h i j (by omega) hj' hij
 rw [decide_eq_true_eq] at this
 simpa [hj',show i < zs.length by omega] using this
def srtS (zs:List (List UInt8)):List (List UInt8):=zs.mergeSort fun x y=>decide (x≤y)
theorem srtS_rise (zs:List (List UInt8)):(srtS zs).Pairwise fun x y=>decide (x≤y)=true :=
 List.pairwise_mergeSort (le:=fun (x y:List UInt8)=>decide (x≤y)) (fun a b c h1 h2=>by rw [decide_eq_true_eq] at *;exact List.le_trans h1 h2) (fun a b=>by simpa using List.le_total a b) zs
theorem srtS_mem {zs:List (List UInt8)} {x:List UInt8}:x∈srtS zs↔x∈zs:=(List.mergeSort_perm zs _).mem_iff
theorem srtS_len (zs:List (List UInt8)):(srtS zs).length=zs.length:=(List.mergeSort_perm zs _).length_eq
def uniL (an bn:List ByteArray):List (List UInt8):=Lib.compact (srtS ((an++bn).map ByteArray.toList))
def uniN (an bn:List ByteArray):List ByteArray:=(uniL an bn).map fun l=>⟨l.toArray⟩
theorem ba_of (x:ByteArray):(⟨x.toList.toArray⟩:ByteArray)=x:=by rw [Lib.toList_data]
theorem ba_to (l:List UInt8):(⟨l.toArray⟩:ByteArray).toList=l:=by rw [Lib.toList_data]
theorem uniN_mem {an bn:List ByteArray} (nm:ByteArray):nm∈uniN an bn↔nm∈an∨nm∈bn:=by
 unfold uniN uniL
 rw [List.mem_map,← List.mem_append]
 constructor
 · rintro ⟨l,hl,rfl⟩
   rw [cmp_mem,srtS_mem,List.mem_map] at hl
   obtain ⟨y,hy,rfl⟩:=hl
   rw [ba_of];exact hy
 · intro h
   exact ⟨nm.toList,by rw [cmp_mem,srtS_mem];exact List.mem_map_of_mem h,ba_of nm⟩
theorem uniN_rise (an bn:List ByteArray):(uniN an bn).Pairwise nlt:=by
 unfold uniN
 rw [List.pairwise_map]
 refine (cmp_rise (srtS_rise _)).imp (fun {a b} h=>?_)
 rw [nlt_iff,ba_to,ba_to]
 exact h
theorem uniL_len (an bn:List ByteArray):(uniL an bn).length≤an.length+bn.length:=by
 unfold uniL Lib.compact Lib.compactUpTo
 rw [List.length_map]
 refine Nat.le_trans (List.length_filter_le _ _) ?_
 rw [List.length_range,srtS_len]
 simp
theorem uniN_len (an bn:List ByteArray):(uniN an bn).length=(uniL an bn).length:=by unfold uniN;rw [List.length_map]
theorem bs_place {ns:List ByteArray} (hr:ns.Pairwise nlt) (x:ByteArray):∃ k,k≤ns.length∧(∀ t,t < k→Op.bytesLess (ns.getD t x).toList x.toList=true)∧(∀ t,k≤t→Op.bytesLess (ns.getD t x).toList x.toList=false):=by
 refine ⟨ns.findIdx (fun y=>!Op.bytesLess y.toList x.toList),List.findIdx_le_length,fun t ht=>?_,fun t ht=>?_⟩
 · have hl:t < ns.length:=Nat.lt_of_lt_of_le ht List.findIdx_le_length
   have:=List.not_of_lt_findIdx ht
   rw [List.getD_eq_getElem?_getD,List.getElem?_eq_getElem hl,Option.getD_some]
   simpa using this
 · by_cases hl:t < ns.length
   · rw [List.getD_eq_getElem?_getD,List.getElem?_eq_getElem hl,Option.getD_some]
     have hk:ns.findIdx (fun y=>!Op.bytesLess y.toList x.toList) < ns.length:=by omega
     have h0:=List.findIdx_getElem (w:=hk)
     by_cases e:ns.findIdx (fun y=>!Op.bytesLess y.toList x.toList)=t
     · subst e;simpa using h0
     · have h1:=List.pairwise_iff_getElem.1 hr _ t hk hl (by omega)
       rw [Bool.eq_false_iff]
       intro h2
       have h3:=nlt_trans h1 h2
       rw [nlt] at h3
       rw [h3] at h0
       cases h0
   · rw [List.getD_eq_getElem?_getD,List.getElem?_eq_none (by omega),Option.getD_none,less_irr]
theorem kidZ_at {k:Kd} {x:ByteArray} {i:Nat} (hr:k.names.Pairwise nlt) (hl:k.kids.length=k.names.length) (hi:i < k.names.length) (h:k.names[i]=x):kidZ k x=k.kids[i]'(by omega):=by
 unfold kidZ
 rw [← h,kidN_at (hr.imp (fun {a b} hab e=>by subst e;exact nlt_irrefl _ hab)) hl hi]
 rfl
theorem kidZ_not {k:Kd} {x:ByteArray} {i:Nat} (hr:k.names.Pairwise nlt) (h1:∀ t,t < i→Op.bytesLess (k.names.getD t x).toList x.toList=true) (h2:∀ t,i≤t→Op.bytesLess (k.names.getD t x).toList x.toList=false) (hn:¬ (i < k.names.length∧k.names.getD i x=x)):kidZ k x=kd0∧x∉k.names:=by
 have hx:x∉k.names:=fun hm=>by
  obtain ⟨j,hj,e⟩:=List.mem_iff_getElem.1 hm
  have ej:k.names.getD j x=x:=by rw [List.getD_eq_getElem?_getD,List.getElem?_eq_getElem hj,Option.getD_some,e]
  rcases Nat.lt_trichotomy j i with h | h | h
  · have:=h1 j h
    rw [ej,less_irr] at this
    cases this
  · subst h;exact hn ⟨hj,ej⟩
  · have hi:i < k.names.length:=by omega
    have h3:=List.pairwise_iff_getElem.1 hr i j hi hj h
    have h4:=h2 i (Nat.le_refl _)
    rw [List.getD_eq_getElem?_getD,List.getElem?_eq_getElem hi,Option.getD_some] at h4
    rw [nlt,e,h4] at h3
    cases h3
 exact ⟨by unfold kidZ;rw [kidN_none hx];rfl,hx⟩
end Go.Proofs.YteefjeddboefcaaGreatDoor

namespace Go.Proofs.YteefjeddboefcaaGreatDoor
open Go Go.RowKit
def tr0:Tr:=.mk 0 0 ByteArray.empty [] []
def fldZ (t:Tr) (nm:ByteArray):Tr:=if plN t.names nm < t.names.length then t.kids.getD (plN t.names nm) tr0 else tr0
def widF:Nat→Kd→Kd→Tr→Tr
 | 0,_,_,t=>t
 | n+1,a,b,t =>
   if a.sort=0 then .mk 6 0 ByteArray.empty [] []
   else if b.sort=6∧a.sort≠6 then .mk 6 0 ByteArray.empty [] [widF n a (b.kids.getD 0 kd0) t]
   else if b.sort=4∨b.sort=6 then .mk t.sort 0 ByteArray.empty [] (t.kids.map (widF n (a.kids.getD 0 kd0) (b.kids.getD 0 kd0)))
   else if b.sort=5 then .mk 5 0 ByteArray.empty (uniN a.names b.names) ((uniN a.names b.names).map fun nm=>widF n (kidZ a nm) (kidZ b nm) (fldZ t nm))
   else .mk t.sort t.num t.text [] []
def wOk:Nat→Kd→Kd→Prop
 | 0,_,_=>False
 | n+1,a,b=>b.sort≠0∧(a.sort≠0→(b.sort=6∧a.sort≠6→wOk n a (b.kids.getD 0 kd0))∧((b.sort=4∨(b.sort=6∧a.sort=6))→wOk n (a.kids.getD 0 kd0) (b.kids.getD 0 kd0))∧(b.sort=5→∀ nm,nm∈uniN a.names b.names→wOk n (kidZ a nm) (kidZ b nm)))
theorem wid_fuel:∀ (n m:Nat) (a b:Kd) (t:Tr),wOk n a b→wOk m a b→widF n a b t=widF m a b t
 | 0,_,_,_,_,h,_=>h.elim
 | _+1,0,_,_,_,_,h=>h.elim
 | n+1,m+1,a,b,t,h,k=>by
   rw [widF,widF]
   by_cases h0:a.sort=0
   · rw [if_pos h0,if_pos h0]
   rw [if_neg h0,if_neg h0]
   have h':=h.2 h0
   have k':=k.2 h0
   by_cases h1:b.sort=6∧a.sort≠6
   · rw [if_pos h1,if_pos h1,wid_fuel n m a _ t (h'.1 h1) (k'.1 h1)]
   rw [if_neg h1,if_neg h1]
   by_cases h2:b.sort=4∨b.sort=6
   · rw [if_pos h2,if_pos h2]
     have h3:b.sort=4∨(b.sort=6∧a.sort=6):=by
      rcases h2 with h2 | h2
      · exact Or.inl h2
      · exact Or.inr ⟨h2,Classical.byContradiction fun h4=>h1 ⟨h2,h4⟩⟩
     congr 1
     exact List.map_congr_left (fun x _=>wid_fuel n m _ _ x (h'.2.1 h3) (k'.2.1 h3))
   rw [if_neg h2,if_neg h2]
   by_cases h5:b.sort=5
   · rw [if_pos h5,if_pos h5]
     congr 1
     exact List.map_congr_left (fun nm hm=>wid_fuel n m _ _ _ (h'.2.2 h5 nm hm) (k'.2.2 h5 nm hm))
   · rw [if_neg h5,if_neg h5]
theorem wOk_mono:∀ (n:Nat) (a b:Kd),wOk n a b→wOk (n+1) a b
 | 0,_,_,h=>h.elim
 | n+1,a,b,h=>by
   rw [wOk] at h ⊢
   exact ⟨h.1,fun h0=>⟨fun h1=>wOk_mono n _ _ ((h.2 h0).1 h1),fun h1=>wOk_mono n _ _ ((h.2 h0).2.1 h1),fun h1 nm hm=>wOk_mono n _ _ ((h.2 h0).2.2 h1 nm hm)⟩⟩
theorem wOk_le {n m:Nat} {a b:Kd} (h:wOk n a b) (hm:n≤m):wOk m a b:=by
 induction m with
 | zero =>
   obtain rfl:n=0:=by omega
   exact h
 | succ m ih =>
   by_cases e:n=m+1
   · subst e;exact h
   · exact wOk_mono m a b (ih (by omega))
theorem wOk_zero {n:Nat} {a b:Kd} (ha:a.sort=0) (hb:b.sort≠0):wOk (n+1) a b:=⟨hb,fun h=>absurd ha h⟩
theorem widF_zero {n:Nat} {a b:Kd} {t:Tr} (ha:a.sort=0):widF (n+1) a b t=.mk 6 0 ByteArray.empty [] []:=by rw [widF,if_pos ha]
theorem widF_into {n:Nat} {a b:Kd} {t:Tr} (ha:a.sort≠0) (h1:b.sort=6) (h2:a.sort≠6) (hb:0 < b.kids.length):widF (n+1) a b t=.mk 6 0 ByteArray.empty [] [widF n a b.kids[0] t]:=by
 rw [widF,if_neg ha,if_pos ⟨h1,h2⟩]
 simp [List.getD_eq_getElem?_getD,List.getElem?_eq_getElem hb]
theorem widF_each {n:Nat} {a b:Kd} {t:Tr} (h:(a.sort=4∧b.sort=4)∨(a.sort=6∧b.sort=6)) (ha:0 < a.kids.length) (hb:0 < b.kids.length):widF (n+1) a b t=.mk t.sort 0 ByteArray.empty [] (t.kids.map (widF n a.kids[0] b.kids[0])):=by
 rw [widF,if_neg (by omega),if_neg (by omega),if_pos (by omega)]
 simp [List.getD_eq_getElem?_getD,List.getElem?_eq_getElem hb,List.getElem?_eq_getElem ha]
theorem widF_form {n:Nat} {a b:Kd} {t:Tr} (ha:a.sort=5) (hb:b.sort=5):widF (n+1) a b t=.mk 5 0 ByteArray.empty (uniN a.names b.names) ((uniN a.names b.names).map fun nm=>widF n (kidZ a nm) (kidZ b nm) (fldZ t nm)):=by
 rw [widF,if_neg (by omega),if_neg (by omega),if_neg (by omega),if_pos hb]
theorem widF_leaf {n:Nat} {a b:Kd} {t:Tr} (h:a.sort=b.sort) (h1:a.sort=1∨a.sort=2∨a.sort=3):widF (n+1) a b t=.mk t.sort t.num t.text [] []:=by
 rw [widF,if_neg (by omega),if_neg (by omega),if_neg (by omega),if_neg (by omega)]
theorem fldZ_at {t:Tr} {x:ByteArray} {i:Nat} (hr:t.names.Pairwise nlt) (hl:t.kids.length=t.names.length) (hi:i < t.names.length) (h:t.names[i]=x):fldZ t x=t.kids[i]'(by omega):=by
 unfold fldZ
 have hp:plN t.names x=i:=plN_at hi h (fun j hj e=>by
  have h1:=List.pairwise_iff_getElem.1 hr j i (by omega) hi hj
  rw [e,h] at h1
  exact nlt_irrefl _ h1)
 rw [hp,if_pos hi]
 simp [List.getD_eq_getElem?_getD,List.getElem?_eq_getElem (show i < t.kids.length by omega)]
theorem fldZ_not {t:Tr} {x:ByteArray} (h:x∉t.names):fldZ t x=tr0:=by
 unfold fldZ
 rw [plN_none h,if_neg (by omega)]
end Go.Proofs.YteefjeddboefcaaGreatDoor
