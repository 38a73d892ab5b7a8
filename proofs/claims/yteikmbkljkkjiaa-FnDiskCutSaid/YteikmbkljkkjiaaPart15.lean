/- A part. -/
import Derived.Test.YteikmbkljkkjiaaPart14
namespace Go.Proofs.Yteikmbkljkkjiaa
open Go Go.RowKit
set_option maxRecDepth 100000
set_option maxHeartbeats 6400000
theorem append_list9 {P:Program} (w:World) {ops:Array Oper} {rest:List Oper} {o:Oper} {a:Act} {Q:Exit→Act→World→Prop}
 (hg:o.guard=none) (s x:Operand) (t:TypeId) (hop:o.op=Op.call { callee:=Callee.builtin Builtin.append,args:=#[s,x],argTypes:=#[t,t] })
 (base:Nat) (e:TypeId) (i:TypeInfo) (z:Value) (size bytes:Nat) (h1:P.underlying t=some (.slice e)) (h2:P.info? e=some i) (h3:i.zero=some z) (h4:i.size=size) (h5:i.bytes=bytes) (h6:z.cells.size=size) (h7:0 < size)
 (a0:Option Addr) (n cap:Nat) (xs:List Value) (hs:a.eval s=.slice a0 n cap) (hown:Hid (w.ownsRow base e size (.slice a0 n cap) n xs))
 (ax:Option Addr) (m c:Nat) (ys:List Value) (hx:a.eval x=.slice ax m c) (hn:ys.length=m * size) (hc:0 < m→∃ ad,ax=some ad∧∀ j u,ys[j]? = some u→w.cell? (ad.add j)=some u) (h1c:∀ u∈ys,u.oneCell'=true)
 (b1:n+m≤maxLen) (b2:(n+m) * bytes≤140737488355328) (hbase:base≤w.heap.size) (k:Nat) (hk:n+m=k)
 (hK:∀ a' cap' w',Hid (w'.ownsRow base e size (.slice a' k cap') k (xs++ys))→Hid (w.grownBy w' (Value.slice a0 n cap).ownBlock)→Hid ((Value.slice a' k cap').ownBlock=(Value.slice a0 n cap).ownBlock∨∃ g,(Value.slice a' k cap').ownBlock=some g∧w.heap.size≤g)→wpList P ops Q rest (a.put o.dst (.slice a' k cap')) w') :
 wpList P ops Q (o::rest) a w:=by
 have hown:=xU hown
 subst hk
 rcases Nat.eq_zero_or_pos m with h0 | h0
 · subst h0
   have hys:ys=[]:=List.eq_nil_of_length_eq_zero (by rw [hn];omega)
   subst hys
   have hcap:n≤cap:=own_cap8 hown
   have hrun:∀ ty,(Builtin.append_ #[t,t] ty #[.slice a0 n cap,.slice ax 0 c]).run P w=.ok (.slice a0 n cap) w:=fun ty=>by
    cases a0 with
    | none=>cases ax <;> simp [Builtin.append_,run_underlying h1,sizeOf,typeInfo,h2,Builtin.lenOf,Builtin.firstCells,go_sem,hcap]
    | some a1=>cases ax <;> simp [Builtin.append_,run_underlying h1,sizeOf,typeInfo,h2,Builtin.lenOf,Builtin.firstCells,go_sem,hcap]
   refine wpList_plain hg fun K hKK=>?_
   unfold Oper.wp execOp
   simp only [hop,resolve,invoke,builtin,Sem.run_bind,Sem.run_pure,Result.andThen_ok,List.map_toArray,List.map_cons,List.map_nil,hs,hx,hrun]
   exact hKK _ _ (hK a0 cap w (by rw [Nat.add_zero,List.append_nil];exact hown) (World.grownBy.refl w _) (Or.inl rfl))
 · obtain ⟨ad,rfl,hcc⟩:=hc h0
   refine append_row w hg s x t hop base e i z size bytes h1 h2 h3 h4 h5 h6 h7 (.slice a0 n cap) n xs hs hown ad m c ys hx hn hcc h1c h0 b1 b2 hbase (fun v' w' r1 r2 r3=>?_)
   obtain ⟨a',cap',rfl⟩:=own_form8 r1
   exact hK _ cap' w' r1 r2 r3
theorem infoPartD:∃ i,Try.prog.info? 138=some i∧i.zero=some (.agg #[.int .i64 0,.int .i64 0,.int .i64 0,.int .i64 0])∧i.size=4∧i.bytes=32:=by
 have:(Try.prog.info? 138).map (fun i=>(i.zero,i.size,i.bytes))=some (some (.agg #[.int .i64 0,.int .i64 0,.int .i64 0,.int .i64 0]),4,32):=by kernel_rfl
 cases h:Try.prog.info? 138 with
 | none=>rw [h] at this;simp at this
 | some i=>rw [h] at this;exact ⟨i,rfl,by simpa using this⟩
def Lies (W:World) (g:Nat) (vs:List Value):Prop:=g < W.heap.size∧∀ j u,vs[j]? = some u→W.cell? ((⟨g,0,none⟩:Addr).add j)=some u
theorem add_block (a:Addr) (j:Nat):(a.add j).block=a.block:=by unfold Addr.add;split <;> rfl
theorem Lies.of_block {W W':World} {g:Nat} {vs:List Value} (h:Lies W g vs) (hb:W'.heap[g]? = W.heap[g]?):Lies W' g vs:=by
 refine ⟨?_,fun j u hu=>(World.cell?_of_block (by rw [add_block];exact hb)).trans (h.2 j u hu)⟩
 have h1:=h.1
 rw [Array.getElem?_eq_getElem h1] at hb
 exact (Array.getElem?_eq_some_iff.1 hb).1
theorem Lies.on {W W':World} {g:Nat} {vs:List Value} (h:Lies W g vs) (hb:Below W.heap.size W W'):Lies W' g vs:=h.of_block (hb.block _ h.1)
theorem lies_alloc (W:World) (vs:List Value) (T:TypeId):Lies (W.alloc (.cells vs.toArray T)) W.heap.size vs:=by
 have hr:=World.rowIs_alloc W vs.toArray T (fun i=>vs.getD i undef) (fun i hi=>by
  have hi':i < vs.length:=by simpa using hi
  simp [List.getD_eq_getElem?_getD,List.getElem?_eq_getElem hi'])
 refine ⟨hr.lt,fun j u hu=>?_⟩
 have hj:=(List.getElem?_eq_some_iff.1 hu).1
 have hc:=hr.cell (i:=j) (by simpa using hj)
 rw [List.getD_eq_getElem?_getD,hu] at hc
 rw [addr_add,Nat.zero_add]
 exact hc
theorem own_new (W:World) (base:Nat) (T:TypeId) (size:Nat) (hb:base≤W.heap.size):(W.alloc (.cells #[] T)).ownsRow base T size (.slice (some ⟨W.heap.size,0,none⟩) 0 0) 0 [] :=
 empty_row (World.rowIs_alloc W #[] T (fun _=>.bool false) (fun i hi=>by simp at hi)) hb
theorem butcell {B b o:Nat} {V W:World} (h:But B V W) (hb:b < V.heap.size) (hne:b≠B):W.cell? ⟨b,o,none⟩=V.cell? ⟨b,o,none⟩:=World.cell?_of_block (h.at hb hne)
noncomputable def cl7Ops:Array Oper:=fops Try.f90 7
theorem cl7_neat:Region.noSelect cl7Ops=true∧neat cl7Ops=true:=⟨by kernel_rfl,by kernel_rfl⟩
theorem cl7 (B2 B3 B9 n vc:Nat) (va:Option Addr) (xs:List Value) (op fi next size:Int) (x1 x2:Value) (sa sb:ByteArray) (W0:World) {l:List Value} (Q:Exit→Act→World→Prop) (hQ:∀ c a d v w,Q (.panic c) (Act.put a d v) w→Q (.panic c) a w) (hB3:B3 < W0.drew.heap.size) (hne:B3≠B9) (h2:W0.drew.cell? ⟨B3,2,none⟩=some (.slice va n vc)) (h3:W0.drew.cell? ⟨B3,3,none⟩=some (.int .i64 op)) (h4:W0.drew.cell? ⟨B3,4,none⟩=some (.int .i64 fi)) (h5:W0.drew.cell? ⟨B3,5,none⟩=some (.int .i64 size)) (h7:W0.drew.cell? ⟨B3,7,none⟩=some (.int .i64 next)) (h9:W0.drew.rowIs B9 115 3 (row3 (.slice none 0 0) x1 x2)) (hsrc:0 < n→∃ ad,va=some ad∧ad.block < W0.drew.heap.size∧∀ j u,xs[j]? = some u→W0.drew.cell? (ad.add j)=some u) (hxs:xs.length=n * 4) (hxo:∀ u∈xs,u.oneCell'=true) (hn:n≤40)
 (hl:lookL [(2,.pointer (some ⟨B2,0,none⟩)),(3,.pointer (some ⟨B3,0,none⟩)),(7,.string sa),(8,.string sb),(9,.pointer (some ⟨B9,0,none⟩))] l=(79,([(2,.pointer (some ⟨B2,0,none⟩)),(3,.pointer (some ⟨B3,0,none⟩)),(7,.string sa),(8,.string sb),(9,.pointer (some ⟨B9,0,none⟩))]:List (Nat × Value)).map (·.2)))
 (hend:∀ (u:Nat→Value) (W:World) (a:Option Addr) (cap:Nat),But B9 W0.drew W→W.rowIs B9 115 3 (row3 (.slice a (n+1) cap) x1 x2)→W.ownsRow W0.drew.heap.size 138 4 (.slice a (n+1) cap) (n+1) (xs++[.int .i64 op,.int .i64 fi,.int .i64 next,.int .i64 size])→Q .normal ⟨(frL u 79 [(2,.pointer (some ⟨B2,0,none⟩)),(3,.pointer (some ⟨B3,0,none⟩)),(7,.string sa),(8,.string sb),(9,.pointer (some ⟨B9,0,none⟩))]).toArray,[]⟩ W):(Code.region 7 cl7Ops true).wp Try.prog Q ⟨l.toArray,[]⟩ W0:=by
 obtain ⟨v0,rfl⟩:=look_fr hl
 have hq:NtQ cl7Ops Q:=⟨cl7_neat,hQ⟩
 refine T_start (S:=fun W=>But B9 W0.drew W) (by kernel_rfl) (But.of_below (Below.refl _ _)) ?_
 clear hl hQ
 generalize W0.drew=V at hB3 h2 h3 h4 h5 h7 h9 hsrc hend ⊢
 have F:∀ (u:Nat→Value) (W:World) (hb:Below V.heap.size V W) (a:Option Addr) (cap:Nat) (ho:W.ownsRow V.heap.size 138 4 (.slice a n cap) n xs) (g1:Nat) (h1:Lies W g1 [.int .i64 op,.int .i64 fi,.int .i64 next,.int .i64 size]),wpS Try.prog cl7Ops Q (fun W=>But B9 V W) (unl 20 [17,18,19],frL u 79 [(2,.pointer (some ⟨B2,0,none⟩)),(3,.pointer (some ⟨B3,0,none⟩)),(7,.string sa),(8,.string sb),(9,.pointer (some ⟨B9,0,none⟩)),(46,.slice a n cap),(58,.slice (some ⟨g1,0,none⟩) 1 1)]) [] W:=by
  intro u W hb a cap ho g1 h1
  refine T_one 17 (by kernel_rfl) fun _=>?_
  refine O_list (some 59) (by kernel_rfl) ?_
  obtain ⟨j0,hj,hy0,hy1,hy2⟩:=infoPartD
  refine append_list9 _ (by kernel_rfl) (.tmp 46) (.tmp 58) 113 (by kernel_rfl) V.heap.size 138 j0 (.agg #[.int .i64 0,.int .i64 0,.int .i64 0,.int .i64 0]) 4 32 Try.underlying113 hj hy0 hy1 hy2 rfl (by decide) a n cap xs (by kernel_rfl) (xH ho) (some ⟨g1,0,none⟩) 1 1 [.int .i64 op,.int .i64 fi,.int .i64 next,.int .i64 size] (by kernel_rfl) rfl (fun _=>⟨_,rfl,h1.2⟩) (fun u hu=>by simp only [List.mem_cons,List.not_mem_nil,or_false] at hu;rcases hu with rfl | rfl | rfl | rfl <;> rfl) (by unfold maxLen;omega) (by omega) hb.size (n+1) rfl ?_
  intro a' cap' W2 ho2 hg2 _
  have hb2:=hb.grown hg2.out hb.size (fun b e=>(own_ge ho e).1)
  have h9w:=h9.of_block (hb2.block _ h9.lt)
  have c9:=h9w.cell (i:=0) (by omega)
  have f9:=h9w.frozen 0
  simp only [row3] at c9
  refine ⟨But.of_below hb2,_,put_putL ..,?_⟩
  have hbt:But B9 V (W2.setCell ⟨B9,0,none⟩ (.slice a' (n+1) cap')):=(But.of_below hb2).trans (But.set W2 0 _)
  refine T_z hq [18] (by kernel_rfl) ?_
  refine T_one 19 (by kernel_rfl) fun _=>O_store none 113 (.tmp 60) (.tmp 59) ⟨B9,0,none⟩ (.slice a' (n+1) cap') _ (by kernel_rfl) (by kernel_rfl) (by kernel_rfl) (stPts W2 _ _ _ _ _ c9 f9) hbt ?_
  exact T_end 79 [(2,.pointer (some ⟨B2,0,none⟩)),(3,.pointer (some ⟨B3,0,none⟩)),(7,.string sa),(8,.string sb),(9,.pointer (some ⟨B9,0,none⟩))] (by kernel_rfl) (by kernel_rfl) fun _ u=>hend u _ a' cap' hbt ((h9w.set 0 _).congr (fun i hi=>by rcases (show i=0∨i=1∨i=2 by omega) with rfl | rfl | rfl <;> rfl)) (ownsRow_keepR ho2.out (fun g hg=>Below.heap_setCell _ _ _ _ (by have:=(own_ge ho2.out hg).1;have:=h9.lt;show g≠B9;omega)))
 have D:∀ (u:Nat→Value) (W:World) (hb:Below V.heap.size V W) (a:Option Addr) (cap:Nat) (ho:W.ownsRow V.heap.size 138 4 (.slice a n cap) n xs),wpS Try.prog cl7Ops Q (fun W=>But B9 V W) (unl 20 [16,17,18,19],frL u 79 [(2,.pointer (some ⟨B2,0,none⟩)),(3,.pointer (some ⟨B3,0,none⟩)),(7,.string sa),(8,.string sb),(9,.pointer (some ⟨B9,0,none⟩)),(46,.slice a n cap),(57,.agg #[.int .i64 op,.int .i64 fi,.int .i64 next,.int .i64 size])]) [] W:=by
  intro u W hb a cap ho
  have hal0:=hb.alloc hb.size (.cells #[] 138)
  have hal1:=hb.alloc hb.size (.cells #[.int .i64 op,.int .i64 fi,.int .i64 next,.int .i64 size] 138)
  have hz0:=(Below.refl W.heap.size W).alloc (Nat.le_refl _) (.cells #[] 138)
  have hz1:=(Below.refl W.heap.size W).alloc (Nat.le_refl _) (.cells #[.int .i64 op,.int .i64 fi,.int .i64 next,.int .i64 size] 138)
  have hn0:=own_new W V.heap.size 138 4 hb.size
  have hn1:=lies_alloc W [.int .i64 op,.int .i64 fi,.int .i64 next,.int .i64 size] 138
  refine T_one 16 (by kernel_rfl) fun _=>?_
  exact O_val (w':=W.alloc (.cells #[.int .i64 op,.int .i64 fi,.int .i64 next,.int .i64 size] 138)) (some 58) (.slice (some ⟨W.heap.size,0,none⟩) 1 1) (by kernel_rfl) (by kernel_rfl) (But.of_below hal1) (T_fr 20 79 [17,18,19] [(2,.pointer (some ⟨B2,0,none⟩)),(3,.pointer (some ⟨B3,0,none⟩)),(7,.string sa),(8,.string sb),(9,.pointer (some ⟨B9,0,none⟩)),(46,.slice a n cap),(58,.slice (some ⟨W.heap.size,0,none⟩) 1 1)] (by kernel_rfl) fun u=>F u _ hal1 a cap (own_on ho hz1) _ hn1)
 have EE:∀ (u:Nat→Value) (W:World) (hb:Below V.heap.size V W) (g0:Nat) (h0:W.ownsRow V.heap.size 138 4 (.slice (some ⟨g0,0,none⟩) 0 0) 0 []) (g1:Nat) (h1:Lies W g1 [.int .i64 op,.int .i64 fi,.int .i64 next,.int .i64 size]) (hgg:g1≠g0),wpS Try.prog cl7Ops Q (fun W=>But B9 V W) (unl 20 [4,17,18,19],frL u 79 [(2,.pointer (some ⟨B2,0,none⟩)),(3,.pointer (some ⟨B3,0,none⟩)),(7,.string sa),(8,.string sb),(9,.pointer (some ⟨B9,0,none⟩)),(42,.slice (some ⟨g0,0,none⟩) 0 0),(45,.slice va n vc),(58,.slice (some ⟨g1,0,none⟩) 1 1)]) [] W:=by
  intro u W hb g0 h0 g1 h1 hgg
  refine T_one 4 (by kernel_rfl) fun _=>?_
  refine O_list (some 46) (by kernel_rfl) ?_
  obtain ⟨j0,hj,hy0,hy1,hy2⟩:=infoPartD
  refine append_list9 _ (by kernel_rfl) (.tmp 42) (.tmp 45) 113 (by kernel_rfl) V.heap.size 138 j0 (.agg #[.int .i64 0,.int .i64 0,.int .i64 0,.int .i64 0]) 4 32 Try.underlying113 hj hy0 hy1 hy2 rfl (by decide) (some ⟨g0,0,none⟩) 0 0 [] (by kernel_rfl) (xH h0) va n vc xs (by kernel_rfl) hxs (fun h=>by obtain ⟨ad,e,h1,h2⟩:=hsrc h;exact ⟨ad,e,fun j u hu=>(hb.cell (show (ad.add j).block < V.heap.size by rw [add_block];exact h1)).trans (h2 j u hu)⟩) hxo (by unfold maxLen;omega) (by omega) hb.size n (Nat.zero_add n) ?_
  intro a cap W2 ho2 hg2 hn2
  have hb2:=hb.grown hg2.out hb.size (fun b e=>(own_ge h0 e).1)
  refine ⟨But.of_below hb2,_,put_putL ..,?_⟩
  exact T_fr 20 79 [17,18,19] [(2,.pointer (some ⟨B2,0,none⟩)),(3,.pointer (some ⟨B3,0,none⟩)),(7,.string sa),(8,.string sb),(9,.pointer (some ⟨B9,0,none⟩)),(46,.slice a n cap),(58,.slice (some ⟨g1,0,none⟩) 1 1)] (by kernel_rfl) fun u=>F u W2 hb2 a cap ho2.out g1 (h1.of_block (hg2.out.block g1 h1.1 (fun e=>hgg (Option.some.inj e))))
 have C:∀ (u:Nat→Value) (W:World) (hb:Below V.heap.size V W) (g1:Nat) (h1:Lies W g1 [.int .i64 op,.int .i64 fi,.int .i64 next,.int .i64 size]),wpS Try.prog cl7Ops Q (fun W=>But B9 V W) (unl 20 [0,4,17,18,19],frL u 79 [(2,.pointer (some ⟨B2,0,none⟩)),(3,.pointer (some ⟨B3,0,none⟩)),(7,.string sa),(8,.string sb),(9,.pointer (some ⟨B9,0,none⟩)),(45,.slice va n vc),(58,.slice (some ⟨g1,0,none⟩) 1 1)]) [] W:=by
  intro u W hb g1 h1
  have hal0:=hb.alloc hb.size (.cells #[] 138)
  have hal1:=hb.alloc hb.size (.cells #[.int .i64 op,.int .i64 fi,.int .i64 next,.int .i64 size] 138)
  have hz0:=(Below.refl W.heap.size W).alloc (Nat.le_refl _) (.cells #[] 138)
  have hz1:=(Below.refl W.heap.size W).alloc (Nat.le_refl _) (.cells #[.int .i64 op,.int .i64 fi,.int .i64 next,.int .i64 size] 138)
  have hn0:=own_new W V.heap.size 138 4 hb.size
  have hn1:=lies_alloc W [.int .i64 op,.int .i64 fi,.int .i64 next,.int .i64 size] 138
  refine T_one 0 (by kernel_rfl) fun _=>?_
  exact O_val (w':=W.alloc (.cells #[] 138)) (some 42) (.slice (some ⟨W.heap.size,0,none⟩) 0 0) (by kernel_rfl) (by kernel_rfl) (But.of_below hal0) (T_fr 20 79 [4,17,18,19] [(2,.pointer (some ⟨B2,0,none⟩)),(3,.pointer (some ⟨B3,0,none⟩)),(7,.string sa),(8,.string sb),(9,.pointer (some ⟨B9,0,none⟩)),(42,.slice (some ⟨W.heap.size,0,none⟩) 0 0),(45,.slice va n vc),(58,.slice (some ⟨g1,0,none⟩) 1 1)] (by kernel_rfl) fun u=>EE u _ hal0 _ hn0 g1 (h1.on hz0) (Nat.ne_of_lt h1.1))
 have BB:∀ (u:Nat→Value) (W:World) (hb:Below V.heap.size V W) (g0:Nat) (h0:W.ownsRow V.heap.size 138 4 (.slice (some ⟨g0,0,none⟩) 0 0) 0 []),wpS Try.prog cl7Ops Q (fun W=>But B9 V W) (unl 20 [4,16,17,18,19],frL u 79 [(2,.pointer (some ⟨B2,0,none⟩)),(3,.pointer (some ⟨B3,0,none⟩)),(7,.string sa),(8,.string sb),(9,.pointer (some ⟨B9,0,none⟩)),(42,.slice (some ⟨g0,0,none⟩) 0 0),(45,.slice va n vc),(57,.agg #[.int .i64 op,.int .i64 fi,.int .i64 next,.int .i64 size])]) [] W:=by
  intro u W hb g0 h0
  have hal0:=hb.alloc hb.size (.cells #[] 138)
  have hal1:=hb.alloc hb.size (.cells #[.int .i64 op,.int .i64 fi,.int .i64 next,.int .i64 size] 138)
  have hz0:=(Below.refl W.heap.size W).alloc (Nat.le_refl _) (.cells #[] 138)
  have hz1:=(Below.refl W.heap.size W).alloc (Nat.le_refl _) (.cells #[.int .i64 op,.int .i64 fi,.int .i64 next,.int .i64 size] 138)
  have hn0:=own_new W V.heap.size 138 4 hb.size
  have hn1:=lies_alloc W [.int .i64 op,.int .i64 fi,.int .i64 next,.int .i64 size] 138
  refine T_two 4 16 (by kernel_rfl) (fun _=>?_) fun _=>?_
  · refine O_list (some 46) (by kernel_rfl) ?_
    obtain ⟨j0,hj,hy0,hy1,hy2⟩:=infoPartD
    refine append_list9 _ (by kernel_rfl) (.tmp 42) (.tmp 45) 113 (by kernel_rfl) V.heap.size 138 j0 (.agg #[.int .i64 0,.int .i64 0,.int .i64 0,.int .i64 0]) 4 32 Try.underlying113 hj hy0 hy1 hy2 rfl (by decide) (some ⟨g0,0,none⟩) 0 0 [] (by kernel_rfl) (xH h0) va n vc xs (by kernel_rfl) hxs (fun h=>by obtain ⟨ad,e,h1,h2⟩:=hsrc h;exact ⟨ad,e,fun j u hu=>(hb.cell (show (ad.add j).block < V.heap.size by rw [add_block];exact h1)).trans (h2 j u hu)⟩) hxo (by unfold maxLen;omega) (by omega) hb.size n (Nat.zero_add n) ?_
    intro a cap W2 ho2 hg2 hn2
    have hb2:=hb.grown hg2.out hb.size (fun b e=>(own_ge h0 e).1)
    refine ⟨But.of_below hb2,_,put_putL ..,?_⟩
    exact T_fr 20 79 [16,17,18,19] [(2,.pointer (some ⟨B2,0,none⟩)),(3,.pointer (some ⟨B3,0,none⟩)),(7,.string sa),(8,.string sb),(9,.pointer (some ⟨B9,0,none⟩)),(46,.slice a n cap),(57,.agg #[.int .i64 op,.int .i64 fi,.int .i64 next,.int .i64 size])] (by kernel_rfl) fun u=>D u W2 hb2 a cap ho2.out
  · exact O_val (w':=W.alloc (.cells #[.int .i64 op,.int .i64 fi,.int .i64 next,.int .i64 size] 138)) (some 58) (.slice (some ⟨W.heap.size,0,none⟩) 1 1) (by kernel_rfl) (by kernel_rfl) (But.of_below hal1) (T_fr 20 79 [4,17,18,19] [(2,.pointer (some ⟨B2,0,none⟩)),(3,.pointer (some ⟨B3,0,none⟩)),(7,.string sa),(8,.string sb),(9,.pointer (some ⟨B9,0,none⟩)),(42,.slice (some ⟨g0,0,none⟩) 0 0),(45,.slice va n vc),(58,.slice (some ⟨W.heap.size,0,none⟩) 1 1)] (by kernel_rfl) fun u=>EE u _ hal1 g0 (own_on h0 hz1) _ hn1 (fun e=>by have:g0 < W.heap.size:=(own_ge h0 rfl).2;omega))
 have A:∀ (u:Nat→Value) (W:World) (hb:Below V.heap.size V W),wpS Try.prog cl7Ops Q (fun W=>But B9 V W) (unl 20 [0,4,16,17,18,19],frL u 79 [(2,.pointer (some ⟨B2,0,none⟩)),(3,.pointer (some ⟨B3,0,none⟩)),(7,.string sa),(8,.string sb),(9,.pointer (some ⟨B9,0,none⟩)),(45,.slice va n vc),(57,.agg #[.int .i64 op,.int .i64 fi,.int .i64 next,.int .i64 size])]) [] W:=by
  intro u W hb
  have hal0:=hb.alloc hb.size (.cells #[] 138)
  have hal1:=hb.alloc hb.size (.cells #[.int .i64 op,.int .i64 fi,.int .i64 next,.int .i64 size] 138)
  have hz0:=(Below.refl W.heap.size W).alloc (Nat.le_refl _) (.cells #[] 138)
  have hz1:=(Below.refl W.heap.size W).alloc (Nat.le_refl _) (.cells #[.int .i64 op,.int .i64 fi,.int .i64 next,.int .i64 size] 138)
  have hn0:=own_new W V.heap.size 138 4 hb.size
  have hn1:=lies_alloc W [.int .i64 op,.int .i64 fi,.int .i64 next,.int .i64 size] 138
  refine T_two 0 16 (by kernel_rfl) (fun _=>?_) fun _=>?_
  · exact O_val (w':=W.alloc (.cells #[] 138)) (some 42) (.slice (some ⟨W.heap.size,0,none⟩) 0 0) (by kernel_rfl) (by kernel_rfl) (But.of_below hal0) (T_fr 20 79 [4,16,17,18,19] [(2,.pointer (some ⟨B2,0,none⟩)),(3,.pointer (some ⟨B3,0,none⟩)),(7,.string sa),(8,.string sb),(9,.pointer (some ⟨B9,0,none⟩)),(42,.slice (some ⟨W.heap.size,0,none⟩) 0 0),(45,.slice va n vc),(57,.agg #[.int .i64 op,.int .i64 fi,.int .i64 next,.int .i64 size])] (by kernel_rfl) fun u=>BB u _ hal0 _ hn0)
  · exact O_val (w':=W.alloc (.cells #[.int .i64 op,.int .i64 fi,.int .i64 next,.int .i64 size] 138)) (some 58) (.slice (some ⟨W.heap.size,0,none⟩) 1 1) (by kernel_rfl) (by kernel_rfl) (But.of_below hal1) (T_fr 20 79 [0,4,17,18,19] [(2,.pointer (some ⟨B2,0,none⟩)),(3,.pointer (some ⟨B3,0,none⟩)),(7,.string sa),(8,.string sb),(9,.pointer (some ⟨B9,0,none⟩)),(45,.slice va n vc),(58,.slice (some ⟨W.heap.size,0,none⟩) 1 1)] (by kernel_rfl) fun u=>C u _ hal1 _ hn1)
 refine T_a hq [1,2,3,5,6,7,8,9,10,11,12,13,14,15] (fun w h=>.cons (ldPts _ _ _ ((butcell h hB3 hne).trans h2)) (.cons (ldIntR _ _ _ ((butcell h hB3 hne).trans h3)) (.cons (ldIntR _ _ _ ((butcell h hB3 hne).trans h4)) (.cons (ldIntR _ _ _ ((butcell h hB3 hne).trans h7)) (.cons (ldIntR _ _ _ ((butcell h hB3 hne).trans h5)) (Lds.nil)))))) (by kernel_rfl) ?_
 exact T_fr 20 79 [0,4,16,17,18,19] [(2,.pointer (some ⟨B2,0,none⟩)),(3,.pointer (some ⟨B3,0,none⟩)),(7,.string sa),(8,.string sb),(9,.pointer (some ⟨B9,0,none⟩)),(45,.slice va n vc),(57,.agg #[.int .i64 op,.int .i64 fi,.int .i64 next,.int .i64 size])] (by kernel_rfl) fun u=>A u V (Below.refl _ _)
theorem info3L:(Try.prog.info? 115).map (·.size)=some 3:=by kernel_rfl
theorem rowPlanO:∃ d,Try.prog.underlying 115=some d∧d.isRow=true:=⟨_,Try.underlying115,by rfl⟩
theorem ldPlan {W:World} {b:Nat} {x y z:Value} (h:W.rowIs b 115 3 (row3 x y z)):(Instr.loadAt 115 (.pointer (some ⟨b,0,none⟩))).run Try.prog W=.ok (.agg #[x,y,z]) W:=by
 obtain ⟨dd,hdu,hdr⟩:=rowPlanO
 unfold Instr.loadAt
 simp only [Instr.sureAddr,Sem.run_bind,Sem.run_pure,Result.andThen_ok,run_loadVar_mid W b 0 115 [x,y,z] dd (range3 h) hdu hdr info3L]
noncomputable def cl8Ops:Array Oper:=fops Try.f90 8
theorem cl8_neat:Region.noSelect cl8Ops=true∧neat cl8Ops=true:=⟨by kernel_rfl,by kernel_rfl⟩
theorem cl8 (B3 B9 n cap:Nat) (a:Option Addr) (op fi num:Int) (sa sb y D:ByteArray) (W0:World) {l:List Value} (Q:Exit→Act→World→Prop) (hQ:∀ c a d v w,Q (.panic c) (Act.put a d v) w→Q (.panic c) a w) (h9:W0.drew.rowIs B9 115 3 (row3 (.slice a n cap) (.int .i64 op) (.int .i64 fi))) (hB3:B3 < W0.drew.heap.size) (h1:W0.drew.cell? ⟨B3,1,none⟩=some (.int .i64 num)) (hDs:D.size≤100) (HW:∀ W,Below W0.drew.heap.size W0.drew W→Calls Try.prog 68 #[.agg #[.slice a n cap,.int .i64 op,.int .i64 fi]] W fun e w'=>e=.returned (.string y)∧Below W.heap.size W w') (HD:∀ W,Calls Try.prog 71 #[.int .i64 num] W fun e w'=>e=.returned (.string D)∧Below W.heap.size W w')
 (hl:lookL [(3,.pointer (some ⟨B3,0,none⟩)),(7,.string sa),(8,.string sb),(9,.pointer (some ⟨B9,0,none⟩))] l=(79,([(3,.pointer (some ⟨B3,0,none⟩)),(7,.string sa),(8,.string sb),(9,.pointer (some ⟨B9,0,none⟩))]:List (Nat × Value)).map (·.2)))
 (hend:∀ (u:Nat→Value) (W:World) (g:Nat),Below W0.drew.heap.size W0.drew W→Lies W g [.int .i64 1,.string sa,.string ⟨#[]⟩,.int .i64 1,.string sb,.string ⟨#[]⟩,.int .i64 2,.string sb,.string y,.int .i64 3,.string sb,.string ⟨#[]⟩,.int .i64 5,.string ⟨#[]⟩,.string ⟨#[]⟩,.int .i64 4,.string (⟨#[109]⟩++D),.string ⟨#[]⟩,.int .i64 5,.string ⟨#[]⟩,.string ⟨#[]⟩]→W0.drew.heap.size≤g→Q .normal ⟨(frL u 79 [(4,.slice (some ⟨g,0,none⟩) 7 7),(5,.int .i64 0)]).toArray,[]⟩ W):(Code.region 8 cl8Ops true).wp Try.prog Q ⟨l.toArray,[]⟩ W0:=by
 obtain ⟨v0,rfl⟩:=look_fr hl
 have hq:NtQ cl8Ops Q:=⟨cl8_neat,hQ⟩
 refine T_start (S:=fun W=>Below W0.drew.heap.size W0.drew W) (by kernel_rfl) (Below.refl _ _) ?_
 clear hl hQ
 generalize W0.drew=V at h9 hB3 h1 HW hend ⊢
 refine T_a hq [0,1,2,3,4,5,8,9,10,11,12,16] (fun w h=>.cons (ldPlan (h9.of_block (h.block _ h9.lt))) (.cons (ldIntR _ _ _ ((h.cell hB3).trans h1)) (Lds.nil))) (by kernel_rfl) ?_
 refine T_fr 20 79 [6,7,13,14,15,17,18,19] [(3,.pointer (some ⟨B3,0,none⟩)),(7,.string sa),(8,.string sb),(9,.pointer (some ⟨B9,0,none⟩)),(61,.string sa),(62,.agg #[.int .i64 1,.string sa,.string ⟨#[]⟩]),(63,.string sb),(64,.agg #[.int .i64 1,.string sb,.string ⟨#[]⟩]),(65,.string sb),(66,.agg #[.slice a n cap,.int .i64 op,.int .i64 fi]),(69,.string sb),(70,.agg #[.int .i64 3,.string sb,.string ⟨#[]⟩]),(71,.agg #[.int .i64 5,.string ⟨#[]⟩,.string ⟨#[]⟩]),(72,.pointer (some ⟨B3,1,none⟩)),(73,.int .i64 num),(77,.agg #[.int .i64 5,.string ⟨#[]⟩,.string ⟨#[]⟩])] (by kernel_rfl) fun u=>?_
 refine T_one 6 (by kernel_rfl) fun _=>O_go (HW V (Below.refl _ _)) (by kernel_rfl) ?_
 rintro e w1 ⟨rfl,hb1⟩
 refine ⟨_,rfl,hb1,?_⟩
 refine T_z hq [7] (by kernel_rfl) ?_
 refine T_fr 20 79 [13,14,15,17,18,19] [(3,.pointer (some ⟨B3,0,none⟩)),(7,.string sa),(8,.string sb),(9,.pointer (some ⟨B9,0,none⟩)),(61,.string sa),(62,.agg #[.int .i64 1,.string sa,.string ⟨#[]⟩]),(63,.string sb),(64,.agg #[.int .i64 1,.string sb,.string ⟨#[]⟩]),(65,.string sb),(66,.agg #[.slice a n cap,.int .i64 op,.int .i64 fi]),(67,.string y),(68,.agg #[.int .i64 2,.string sb,.string y]),(69,.string sb),(70,.agg #[.int .i64 3,.string sb,.string ⟨#[]⟩]),(71,.agg #[.int .i64 5,.string ⟨#[]⟩,.string ⟨#[]⟩]),(72,.pointer (some ⟨B3,1,none⟩)),(73,.int .i64 num),(77,.agg #[.int .i64 5,.string ⟨#[]⟩,.string ⟨#[]⟩])] (by kernel_rfl) fun u=>?_
 refine T_one 13 (by kernel_rfl) fun _=>O_go (HD w1) (by kernel_rfl) ?_
 rintro e w2 ⟨rfl,hb2⟩
 refine ⟨_,rfl,hb1.trans (hb2.mono hb1.size),?_⟩
 refine T_yld hq 14 (some 75) (.string (⟨#[109]⟩++D)) (by kernel_rfl) (by kernel_rfl) (fun w h=>addRun (T:=9) (X:=.const (.string ⟨#[109]⟩)) (Y:=.tmp 74) (p:=⟨#[109]⟩) (q:=D) (by kernel_rfl) (by kernel_rfl) (by kernel_rfl) (by have e:(⟨#[109]⟩:ByteArray).size=1:=rfl;omega) w) ?_
 refine T_z hq [15] (by kernel_rfl) ?_
 refine T_fr 20 79 [17,18,19] [(3,.pointer (some ⟨B3,0,none⟩)),(7,.string sa),(8,.string sb),(9,.pointer (some ⟨B9,0,none⟩)),(62,.agg #[.int .i64 1,.string sa,.string ⟨#[]⟩]),(64,.agg #[.int .i64 1,.string sb,.string ⟨#[]⟩]),(68,.agg #[.int .i64 2,.string sb,.string y]),(70,.agg #[.int .i64 3,.string sb,.string ⟨#[]⟩]),(71,.agg #[.int .i64 5,.string ⟨#[]⟩,.string ⟨#[]⟩]),(76,.agg #[.int .i64 4,.string (⟨#[109]⟩++D),.string ⟨#[]⟩]),(77,.agg #[.int .i64 5,.string ⟨#[]⟩,.string ⟨#[]⟩])] (by kernel_rfl) fun u=>?_
 have hb12:=hb1.trans (hb2.mono hb1.size)
 refine T_one 17 (by kernel_rfl) fun _=>?_
 refine O_val (w':=w2.alloc (.cells #[.int .i64 1,.string sa,.string ⟨#[]⟩,.int .i64 1,.string sb,.string ⟨#[]⟩,.int .i64 2,.string sb,.string y,.int .i64 3,.string sb,.string ⟨#[]⟩,.int .i64 5,.string ⟨#[]⟩,.string ⟨#[]⟩,.int .i64 4,.string (⟨#[109]⟩++D),.string ⟨#[]⟩,.int .i64 5,.string ⟨#[]⟩,.string ⟨#[]⟩] 29)) (some 78) (.slice (some ⟨w2.heap.size,0,none⟩) 7 7) (by kernel_rfl) (by kernel_rfl) (hb12.alloc hb12.size _) ?_
 refine T_z hq [18,19] (by kernel_rfl) ?_
 exact T_end 79 [(4,.slice (some ⟨w2.heap.size,0,none⟩) 7 7),(5,.int .i64 0)] (by kernel_rfl) (by kernel_rfl) fun hS u=>hend u _ w2.heap.size hS (lies_alloc w2 [.int .i64 1,.string sa,.string ⟨#[]⟩,.int .i64 1,.string sb,.string ⟨#[]⟩,.int .i64 2,.string sb,.string y,.int .i64 3,.string sb,.string ⟨#[]⟩,.int .i64 5,.string ⟨#[]⟩,.string ⟨#[]⟩,.int .i64 4,.string (⟨#[109]⟩++D),.string ⟨#[]⟩,.int .i64 5,.string ⟨#[]⟩,.string ⟨#[]⟩] 29) hb12.size
def WrE9 (n:Nat) (w w':World) (e:Ending):Prop:=∃ (ws:List Wr) (v:Value) (code:Int),e=.returned (.tuple #[v,.int .i64 code])∧WsAt (New w w') w' v ws∧ws.length≤n∧(∀ x,x∈ws→x.x.size≤1000∧x.y.size≤1000000)∧Below w.heap.size w w'
theorem ws_lies {W:World} {g cap:Nat} {ws:List Wr} (h:Lies W g (ws.map Wr.cs).flatten) (hl:ws.length≤1000000) (hok:∀ x,x∈ws→x.x.size≤1000∧x.y.size≤1000000):WsAt (·=g) W (.slice (some ⟨g,0,none⟩) ws.length cap) ws:=by
 refine ⟨⟨some ⟨g,0,none⟩,cap,by rw [List.length_map],by rw [List.length_map];omega,fun i hi=>⟨g,0,rfl,rfl,fun j hj=>?_⟩⟩,fun x hx=>by have:=hok x hx;exact ⟨by omega,by omega⟩⟩
 have h1:=h.2 (i * 3+j) _ (flat_get (ws.map Wr.cs) (fun r hr=>by obtain ⟨x,-,rfl⟩:=List.mem_map.1 hr;rfl) i hi j hj)
 rw [addr_add] at h1
 rw [Nat.zero_add] at h1 ⊢
 exact h1
theorem ws_nil {P:Nat→Prop} {w:World} (a:Option Addr) (cap:Nat):WsAt P w (.slice a 0 cap) []:=⟨⟨a,cap,rfl,by decide,fun i hi=>absurd hi (Nat.not_lt_zero i)⟩,fun _ h=>by cases h⟩
theorem plT_len8 {l:Pl} (h:plOk l):(plT l).length≤20000:=by
 have h1:=plX_len h l.parts.length (Nat.le_refl _)
 have ho:=op_nn h
 have h2:=opnL_len (l:=l) ⟨⟨by have:=ho.1.1;omega,by have:=ho.1.2;omega⟩,⟨by have:=ho.2.1;omega,by have:=ho.2.2;omega⟩⟩
 have h3:=h.1
 unfold plT
 rw [List.length_append,List.length_append]
 have:endL.length=4:=rfl
 omega
theorem plW_size8 (l:Pl):(plW l).size≤20000:=by
 by_cases h:plOk l
 · rw [plW_yes h]
   have h3:=plT_len8 h
   simpa [ByteArray.size] using h3
 · rw [plW_no h];decide
theorem pts_flat (ps:List Pt):(ps.map Pt.cs).flatten.length=ps.length * 4:=by
 have:=flat_len (ps.map Pt.cs) (n:=4) (fun r hr=>by obtain ⟨x,-,rfl⟩:=List.mem_map.1 hr;rfl)
 rw [List.length_map] at this;exact this
theorem pts_one (ps:List Pt):∀ u∈(ps.map Pt.cs).flatten,u.oneCell'=true:=fun u hu=>by
 obtain ⟨r,hr,hu⟩:=List.mem_flatten.1 hu
 obtain ⟨x,-,rfl⟩:=List.mem_map.1 hr
 simp only [Pt.cs,List.mem_cons,List.not_mem_nil,or_false] at hu
 rcases hu with rfl | rfl | rfl | rfl <;> rfl
theorem pts_snoc (ps:List Pt) (q:Pt):((ps++[q]).map Pt.cs).flatten=(ps.map Pt.cs).flatten++[.int .i64 q.num,.int .i64 q.first,.int .i64 q.next,.int .i64 q.size]:=by
 rw [List.map_append,List.flatten_append];rfl
theorem pts_src {P:Nat→Prop} {W:World} {a:Option Addr} {cap:Nat} {ps:List Pt} (h:PtsAt P W (.slice a ps.length cap) ps) (hP:∀ b,P b→b < W.heap.size) (h0:0 < ps.length):∃ ad,a=some ad∧ad.block < W.heap.size∧∀ j u,(ps.map Pt.cs).flatten[j]? = some u→W.cell? (ad.add j)=some u:=by
 obtain ⟨ad,e,hc⟩:=flat_src h (fun r hr=>by obtain ⟨x,-,rfl⟩:=List.mem_map.1 hr;rfl) h0
 obtain ⟨a',c',e',-,hcell⟩:=h.open
 simp only [Value.slice.injEq] at e'
 obtain ⟨rfl,-,-⟩:=e'
 obtain ⟨b,o,e2,hb,-⟩:=hcell 0 h0
 rw [e] at e2
 obtain rfl:=Option.some.inj e2
 exact ⟨_,e,hP b hb,hc⟩
theorem l44Close_any (d:Dk) (c:C3) (code num size next:Int) (torn:Bool) (l:Pl) (vP:Value) (a8:Option Addr) (n8 p8:Nat) (P Q:Nat→Prop) (w:World) (hP:∀ b,P b→b < w.heap.size) (hQ:∀ b,Q b→b < w.heap.size) (hd:DkAt P w d c) (hnm:∀ f,f∈d.files→f.name.size≤1048576) (hs:StOk Q w num l vP) :
 Calls Try.prog 90 #[.agg #[c.c0,c.c1,c.c2],.agg #[.int .i64 code,.int .i64 num,vP,.int .i64 l.op,.int .i64 l.fi,.int .i64 size,.bool torn,.int .i64 next,.slice a8 n8 p8]] w fun e w'=>WrE9 7 w w' e:=by
 have HTP:=xH (fun W (hW:Below w.heap.size w W)=>l44Top_any d P c W (fun b hb=>Nat.lt_of_lt_of_le (hP b hb) hW.size) (hd.carry (fun b hb=>hW.block b (hP b hb)) (fun _ h=>h)) hnm)
 obtain ⟨c0,c1,c2⟩:=c
 obtain ⟨a0,p0,g0,hfl,-⟩:=hd.fs.open
 obtain ⟨a1,p1,g1,-,-⟩:=id hd.ns
 obtain ⟨a2,p2,g2,-,-⟩:=hd.ms.open
 simp only at g0 g1 g2
 subst g0 g1 g2
 obtain ⟨va,vc,rfl,-,-⟩:=hs.pts.open
 have hb0:Below w.heap.size w ((w.alloc (.cells #[.slice a0 d.files.length p0,.slice a1 d.names.length p1,.slice a2 d.moves.length p2] 27)).alloc (.cells #[.int .i64 code,.int .i64 num,.slice va l.parts.length vc,.int .i64 l.op,.int .i64 l.fi,.int .i64 size,.bool torn,.int .i64 next,.slice a8 n8 p8] 118)):=((Below.refl _ _).alloc (Nat.le_refl _) _).alloc (by simp) _
 have hr1:=(row3_alloc w (.slice a0 d.files.length p0) (.slice a1 d.names.length p1) (.slice a2 d.moves.length p2) 27).alloc (.cells #[.int .i64 code,.int .i64 num,.slice va l.parts.length vc,.int .i64 l.op,.int .i64 l.fi,.int .i64 size,.bool torn,.int .i64 next,.slice a8 n8 p8] 118)
 have hr2:=row9_alloc (w.alloc (.cells #[.slice a0 d.files.length p0,.slice a1 d.names.length p1,.slice a2 d.moves.length p2] 27)) (.int .i64 code) (.int .i64 num) (.slice va l.parts.length vc) (.int .i64 l.op) (.int .i64 l.fi) (.int .i64 size) (.bool torn) (.int .i64 next) (.slice a8 n8 p8) 118
 rw [World.size_alloc] at hr2
 have hz0:((w.alloc (.cells #[.slice a0 d.files.length p0,.slice a1 d.names.length p1,.slice a2 d.moves.length p2] 27)).alloc (.cells #[.int .i64 code,.int .i64 num,.slice va l.parts.length vc,.int .i64 l.op,.int .i64 l.fi,.int .i64 size,.bool torn,.int .i64 next,.slice a8 n8 p8] 118)).heap.size=w.heap.size+2:=by simp
 have hsrc:=flat_src hs.pts (fun r hr=>by obtain ⟨x,-,rfl⟩:=List.mem_map.1 hr;rfl)
 have HB0:=xH hb0;have HR1:=xH hr1;have HR2:=xH hr2;have HZ0:=xH hz0
 have hnum:=hs.num;have hlen:=hs.len
 have HST:=xH hs;have HQ:=xH hQ
 clear hP hQ hd hb0 hr1 hr2 hz0 hnm hs hsrc
 go_enter Try.func90,Try.ntmps90
 go_wp2_with fail
 generalize ((w.alloc (.cells #[.slice a0 d.files.length p0,.slice a1 d.names.length p1,.slice a2 d.moves.length p2] 27)).alloc (.cells #[.int .i64 code,.int .i64 num,.slice va l.parts.length vc,.int .i64 l.op,.int .i64 l.fi,.int .i64 size,.bool torn,.int .i64 next,.slice a8 n8 p8] 118))=W0 at HB0 HR1 HR2 HZ0 ⊢
 refine (HTP.out W0 HB0.out).mono ?_
 rintro e w1 ⟨top,rfl,htop,hb1⟩
 have HB1:=xH (HB0.out.trans (hb1.mono HB0.out.size))
 have hr:=HR2.out.of_block (hb1.block _ HR2.out.lt)
 have hrd:=HR1.out.of_block (hb1.block _ HR1.out.lt)
 have HRS:=xH hr
 obtain ⟨z0,z1,z2,z3,z4,z5,z6,z7,z8⟩:=cell9 hr
 have k0:=hrd.cell (i:=0) (by omega)
 simp only [row3] at k0
 have hw1:w.heap.size+2≤w1.heap.size:=by have:=HZ0.out;have:=hb1.size;omega
 clear hb1 hr hrd HTP HB0 HR1 HR2 HZ0
 have HNO:Hid (WrE9 7 w (w1.alloc (.cells #[] 29)) (.returned (.tuple #[.slice (some ⟨w1.heap.size,0,none⟩) 0 0,.int .i64 4]))):=⟨[],_,4,rfl,ws_nil _ _,by decide,fun x hx=>(by cases hx),HB1.out.alloc HB1.out.size _⟩
 by_cases h1:999999≤top
 · have e1:decide ((999999:Int)≤(top:Int))=true:=decide_eq_true (by omega)
   go_wp2_with fail
   refine bodyPost_ret (v:=.tuple #[.slice (some ⟨w1.heap.size,0,none⟩) 0 0,.int .i64 4]) (by simp [results,Try.results90,go_sem]) rfl ?_
   exact xU HNO
 have e1:decide ((999999:Int)≤(top:Int))=false:=decide_eq_false (by omega)
 by_cases h2:40≤l.parts.length
 · have e2:decide ((40:Int)≤(l.parts.length:Int))=true:=decide_eq_true (by omega)
   go_wp2_with fail
   refine bodyPost_ret (v:=.tuple #[.slice (some ⟨w1.heap.size,0,none⟩) 0 0,.int .i64 4]) (by simp [results,Try.results90,go_sem]) rfl ?_
   exact xU HNO
 have e2:decide ((40:Int)≤(l.parts.length:Int))=false:=decide_eq_false (by omega)
 cases e3:decide ((64:Int) < wrap64 ((d.files.length:Int)+2)) with
 | true =>
   go_wp2_with fail
   refine bodyPost_ret (v:=.tuple #[.slice (some ⟨w1.heap.size,0,none⟩) 0 0,.int .i64 4]) (by simp [results,Try.results90,go_sem]) rfl ?_
   exact xU HNO
 | false =>
 clear HNO
 obtain ⟨D1,hD1⟩:∃ D:ByteArray,⟨(Lib.itoa ((top:Int)+1)).toArray⟩=D:=⟨_,rfl⟩
 have HD1:=xH (fun W=>l6Dec_any ((top:Int)+1) W (by omega) (by omega))
 have hsD1:D1.size≤100:=by rw [← hD1];exact decB_le (by omega) (by omega)
 rw [hD1] at HD1
 obtain ⟨E1,hE1⟩:∃ E:ByteArray,⟨#[115]⟩++D1=E:=⟨_,rfl⟩
 obtain ⟨E2,hE2⟩:∃ E:ByteArray,⟨#[109]⟩++D1=E:=⟨_,rfl⟩
 have haE1:∀ T,binOp .add T (.string ⟨#[115]⟩) (.string D1)=pure (.string E1):=fun T=>by
  rw [← hE1];exact addP T _ _ (by have e:(⟨#[115]⟩:ByteArray).size=1:=rfl;omega)
 have haE2:∀ T,binOp .add T (.string ⟨#[109]⟩) (.string D1)=pure (.string E2):=fun T=>by
  rw [← hE2];exact addP T _ _ (by have e:(⟨#[109]⟩:ByteArray).size=1:=rfl;omega)
 have hsE:E1.size≤1000∧E2.size≤1000:=by
  have e1:(⟨#[115]⟩:ByteArray).size=1:=rfl
  have e2:(⟨#[109]⟩:ByteArray).size=1:=rfl
  rw [← hE1,← hE2,ByteArray.size_append,ByteArray.size_append];omega
 obtain ⟨D3,hD3⟩:∃ D:ByteArray,⟨(Lib.itoa num).toArray⟩=D:=⟨_,rfl⟩
 have HD3:=xH (fun W=>l6Dec_any num W (by omega) (by omega))
 have hsD3:D3.size≤100:=by rw [← hD3];exact decB_le (by omega) (by omega)
 rw [hD3] at HD3
 clear hD1 hE1 hE2 hD3 hsD1
 go_wp2_with fail
 refine (HD1.out w1).mono ?_
 rintro e w2 ⟨rfl,hb2⟩
 have HB2:=xH (HB1.out.trans (hb2.mono HB1.out.size))
 have HRS2:=xH (HRS.out.of_block (hb2.block _ HRS.out.lt))
 have hw2:w.heap.size+2≤w2.heap.size:=Nat.le_trans hw1 hb2.size
 clear hb2 HB1 HRS z0 z1 z2 z3 z4 z5 z6 z7 z8 k0 hw1
 go_wp2_with fail
 refine (HD1.out w2).mono ?_
 rintro e w3 ⟨rfl,hb3⟩
 have HB3:=xH (HB2.out.trans (hb3.mono HB2.out.size))
 have HRS3:=xH (HRS2.out.of_block (hb3.block _ HRS2.out.lt))
 have hw3:w.heap.size+2≤w3.heap.size:=Nat.le_trans hw2 hb3.size
 obtain ⟨z0,z1,z2,z3,z4,z5,z6,z7,z8⟩:=cell9 HRS3.out
 have zl:=HRS3.out.lt
 clear hb3 HB2 HRS2 hw2 HD1
 go_upto_region 7 with fail
 have HP9:=xH (row3_alloc w3 (.slice none 0 0) (.int .i64 ((top:Int)+1)) (.int .i64 next) 115)
 have HB4:=xH (HB3.out.alloc HB3.out.size (.cells #[.slice none 0 0,.int .i64 ((top:Int)+1),.int .i64 next] 115))
 have HR4:=xH (HRS3.out.alloc (.cells #[.slice none 0 0,.int .i64 ((top:Int)+1),.int .i64 next] 115))
 clear z0 z1 z2 z3 z4 z5 z6 z7 z8 HRS3 HB3 zl
 generalize w3.alloc (.cells #[.slice none 0 0,.int .i64 ((top:Int)+1),.int .i64 next] 115)=W4 at HP9 HB4 HR4 ⊢
 obtain ⟨z0,z1,z2,z3,z4,z5,z6,z7,z8⟩:=cell9 HR4.out
 refine wp_swap (c':=Code.region 7 cl7Ops true) (by kernel_rfl) ?_
 refine wp_region_noPanic ?_
 refine cl7 w.heap.size (w.heap.size+1) w3.heap.size l.parts.length vc va (l.parts.map Pt.cs).flatten l.op l.fi next size (.int .i64 ((top:Int)+1)) (.int .i64 next) E1 E2 W4 _ (fun _ _ _ _ _ h=>h) HR4.out.lt (by omega) z2 z3 z4 z5 z7 (HP9.out.of_block rfl) (fun h=>?_) (pts_flat l.parts) (pts_one l.parts) (by omega) (by kernel_rfl) ?_
 · obtain ⟨ad,e,hb,hc⟩:=pts_src HST.out.pts HQ.out h
   exact ⟨ad,e,Nat.lt_of_lt_of_le hb HB4.out.size,fun j u hj=>((HB4.out.cell (show (ad.add j).block < w.heap.size by rw [add_block];exact hb))).trans (hc j u hj)⟩
 intro u W5 a cap hbt hr9 hown
 refine NoPanic.normal ?_
 simp only [frL_eq,frG,List.lookup,Nat.reduceBEq,Nat.reduceAdd,Option.getD_some,Option.getD_none]
 have hp9:=HP9.out.lt
 have HB5:Hid (Below w.heap.size w W5):=HB4.out.trans (show Below w.heap.size W4 W5 from ⟨hbt.os,hbt.tape,hbt.output,hbt.size,fun i hi=>hbt.at (show i < W4.heap.size by have:=HB4.out.size;omega) (by omega)⟩)
 have HR5:=xH (HR4.out.of_block (hbt.at (show w.heap.size+1 < W4.heap.size from HR4.out.lt) (by omega)))
 have hfo:=FlatOwn.of_row (rs:=(l.parts++[(⟨l.op,l.fi,next,size⟩:Pt)]).map Pt.cs) (n:=4) (by rw [List.length_map,List.length_append,pts_snoc];exact hown) (fun r hr=>by obtain ⟨x,-,rfl⟩:=List.mem_map.1 hr;rfl)
 obtain ⟨F,hF,-,hFb,-⟩:=hfo
 have HPT:=xH (show PtsAt (·∈F) W5 (.slice a (l.parts.length+1) cap) (l.parts++[(⟨l.op,l.fi,next,size⟩:Pt)]) from hF.at)
 have HFB:Hid (∀ b,b∈F→b < W5.heap.size):=fun b hb=>(hFb b hb).2
 have HR9:=xH hr9
 have hw5:w.heap.size+2≤W5.heap.size:=by have:W4.heap.size≤W5.heap.size:=hbt.size;omega
 clear hbt hr9 hown hF hFb HB4 HR4 HP9 z0 z1 z2 z3 z4 z5 z6 z7 z8 hp9
 obtain ⟨lp,hlp⟩:∃ lp:Pl,lp=⟨l.parts++[(⟨l.op,l.fi,next,size⟩:Pt)],(top:Int)+1,next⟩:=⟨_,rfl⟩
 have HPW:Hid (∀ W,Below W5.heap.size W5 W→Calls Try.prog 68 #[.agg #[.slice a (l.parts.length+1) cap,.int .i64 ((top:Int)+1),.int .i64 next]] W fun e w'=>e=.returned (.string (plW lp))∧Below W.heap.size W w'):=fun W hW=>by
  rw [hlp]
  exact specLogPlanWrite_any ⟨l.parts++[(⟨l.op,l.fi,next,size⟩:Pt)],(top:Int)+1,next⟩ (·∈F) _ W (fun b hb=>Nat.lt_of_lt_of_le (HFB.out b hb) hW.size) (HPT.out.carry (fun b hb=>hW.block b (HFB.out b hb)) (fun _ h=>h))
 have hwl:=plW_size8 lp
 go_upto_region 8 with fail
 refine wp_swap (c':=Code.region 8 cl8Ops true) (by kernel_rfl) ?_
 refine wp_region_noPanic ?_
 have z1:=(cell9 HR5.out).2.1
 refine cl8 (w.heap.size+1) w3.heap.size (l.parts.length+1) cap a ((top:Int)+1) next num E1 E2 (plW lp) D3 W5 _ (fun _ _ _ _ _ h=>h) (HR9.out.of_block rfl) HR5.out.lt z1 hsD3 (fun W hW=>HPW.out W ((Below.refl _ _).drew.trans (hW:Below W5.drew.heap.size W5.drew W))) HD3.out (by kernel_rfl) ?_
 intro u2 W6 g hb6 hli hg
 refine NoPanic.normal ?_
 simp only [frL_eq,frG,List.lookup,Nat.reduceBEq,Nat.reduceAdd,Option.getD_some,Option.getD_none]
 have hok:∀ x,x∈([⟨1,E1,⟨#[]⟩⟩,⟨1,E2,⟨#[]⟩⟩,⟨2,E2,(plW lp)⟩,⟨3,E2,⟨#[]⟩⟩,⟨5,⟨#[]⟩,⟨#[]⟩⟩,⟨4,(⟨#[109]⟩++D3),⟨#[]⟩⟩,⟨5,⟨#[]⟩,⟨#[]⟩⟩]:List Wr)→x.x.size≤1000∧x.y.size≤1000000:=fun x hx=>by
  have h3:(⟨#[109]⟩++D3:ByteArray).size≤1000:=by
   have e2:(⟨#[109]⟩:ByteArray).size=1:=rfl
   rw [ByteArray.size_append];omega
  have h0:(⟨#[]⟩:ByteArray).size=0:=rfl
  simp only [List.mem_cons,List.not_mem_nil,or_false] at hx
  rcases hx with rfl | rfl | rfl | rfl | rfl | rfl | rfl <;> refine ⟨?_,?_⟩ <;> simp only <;> omega
 have HEND:Hid (WrE9 7 w W6 (.returned (.tuple #[.slice (some ⟨g,0,none⟩) 7 7,.int .i64 0]))):=by
  have hb56:Below W5.heap.size W5 W6:=(Below.refl _ _).drew.trans hb6
  have hgl:W5.heap.size≤g:=hg
  exact ⟨[⟨1,E1,⟨#[]⟩⟩,⟨1,E2,⟨#[]⟩⟩,⟨2,E2,(plW lp)⟩,⟨3,E2,⟨#[]⟩⟩,⟨5,⟨#[]⟩,⟨#[]⟩⟩,⟨4,(⟨#[109]⟩++D3),⟨#[]⟩⟩,⟨5,⟨#[]⟩,⟨#[]⟩⟩],_,0,rfl,(ws_lies (cap:=7) hli (by simp) hok).carry (fun _ _=>rfl) (fun b hb=>by rw [hb];exact ⟨by omega,hli.1⟩),by simp,hok,HB5.out.trans (hb56.mono HB5.out.size)⟩
 clear hb6 hli hg hok HPW HD3 HR5 HR9 HB5 z1
 go_wp2_with fail
 refine bodyPost_ret (v:=.tuple #[.slice (some ⟨g,0,none⟩) 7 7,.int .i64 0]) (by simp [results,Try.results90,go_sem]) rfl ?_
 exact xU HEND

theorem infoWrD:∃ i,Try.prog.info? 29=some i∧i.zero=some (.agg #[.int .i64 0,.string ByteArray.empty,.string ByteArray.empty])∧i.size=3∧i.bytes=40:=by
 have:(Try.prog.info? 29).map (fun i=>(i.zero,i.size,i.bytes))=some (some (.agg #[.int .i64 0,.string ByteArray.empty,.string ByteArray.empty]),3,40):=by kernel_rfl
 cases h:Try.prog.info? 29 with
 | none=>rw [h] at this;simp at this
 | some i=>rw [h] at this;exact ⟨i,rfl,by simpa using this⟩
theorem heap_new8 (w:World) (o:Obj):(w.alloc o).heap[w.heap.size]? = some o:=by
 show (w.heap.push o)[w.heap.size]? = some o
 simp
theorem own_lit (W:World) (base:Nat) (T:TypeId) (size m:Nat) (vs:List Value) (hb:base≤W.heap.size) (hl:vs.length=m * size) (hm:m≤maxLen):(W.alloc (.cells vs.toArray T)).ownsRow base T size (.slice (some ⟨W.heap.size,0,none⟩) m m) m vs :=
 ⟨hl,Or.inr ⟨W.heap.size,m,vs.toArray,rfl,hb,heap_new8 _ _,Nat.le_refl _,hm,by simpa using hl,by rw [← hl];simp⟩⟩
theorem ws_flat (ws:List Wr):(ws.map Wr.cs).flatten.length=ws.length * 3:=by
 have:=flat_len (ws.map Wr.cs) (n:=3) (fun r hr=>by obtain ⟨x,-,rfl⟩:=List.mem_map.1 hr;rfl)
 rw [List.length_map] at this;exact this
theorem ws_one (ws:List Wr):∀ u∈(ws.map Wr.cs).flatten,u.oneCell'=true:=fun u hu=>by
 obtain ⟨r,hr,hu⟩:=List.mem_flatten.1 hu
 obtain ⟨x,-,rfl⟩:=List.mem_map.1 hr
 simp only [Wr.cs,List.mem_cons,List.not_mem_nil,or_false] at hu
 rcases hu with rfl | rfl | rfl <;> rfl
structure WoS (base:Nat) (W:World) (v:Value) (ws:List Wr):Prop where
 own:W.ownsRow base 29 3 v ws.length (ws.map Wr.cs).flatten
 ok:∀ x,x∈ws→x.x.size≤1000∧x.y.size≤1000000
theorem WoS.on {base:Nat} {W W':World} {v:Value} {ws:List Wr} (h:WoS base W v ws) (hb:Below W.heap.size W W'):WoS base W' v ws:=⟨own_on h.own hb,h.ok⟩
theorem WoS.at {base:Nat} {W:World} {v:Value} {ws:List Wr} (h:WoS base W v ws):WsAt (fun b=>base≤b∧b < W.heap.size) W v ws:=by
 obtain ⟨F,hF,-,hb,-⟩:=FlatOwn.of_row (rs:=ws.map Wr.cs) (n:=3) (by rw [List.length_map];exact h.own) (fun r hr=>by obtain ⟨x,-,rfl⟩:=List.mem_map.1 hr;rfl)
 exact ⟨FlatAt.carry hF.at (fun _ _=>rfl) hb,fun x hx=>by have:=h.ok x hx;exact ⟨by omega,by omega⟩⟩
theorem append_wr (W:World) {ops:Array Oper} {rest:List Oper} {o:Oper} {a:Act} {Q:Exit→Act→World→Prop} (hg:o.guard=none) (s x:Operand) (hop:o.op=Op.call { callee:=Callee.builtin Builtin.append,args:=#[s,x],argTypes:=#[120,120] })
 (base:Nat) (a0:Option Addr) (c0:Nat) (ws:List Wr) (n:Nat) (hn:ws.length=n) (hs:a.eval s=.slice a0 n c0) (hown:Hid (WoS base W (.slice a0 n c0) ws)) (ax:Option Addr) (c m:Nat) (us:List Wr) (hx:a.eval x=.slice ax m c) (hm:us.length=m) (hok:Hid (∀ x,x∈us→x.x.size≤1000∧x.y.size≤1000000)) (hc:Hid (0 < m→∃ ad,ax=some ad∧∀ j u,(us.map Wr.cs).flatten[j]? = some u→W.cell? (ad.add j)=some u)) (hl:n≤2000) (hl2:m≤2000) (hN:base≤W.heap.size) (k:Nat) (hk:n+m=k)
 (hK:∀ a' c' W',Hid (WoS base W' (.slice a' k c') (ws++us))→Hid (W.grownBy W' (Value.slice a0 n c0).ownBlock)→Hid ((Value.slice a' k c').ownBlock=(Value.slice a0 n c0).ownBlock∨∃ g,(Value.slice a' k c').ownBlock=some g∧W.heap.size≤g)→wpList Try.prog ops Q rest (a.put o.dst (.slice a' k c')) W') :
 wpList Try.prog ops Q (o::rest) a W:=by
 subst hn hm
 obtain ⟨i,h2,h3,h4,h5⟩:=infoWrD
 refine append_list9 W hg s x 120 hop base 29 i (.agg #[.int .i64 0,.string ByteArray.empty,.string ByteArray.empty]) 3 40 Try.underlying120 h2 h3 h4 h5 rfl (by decide) a0 ws.length c0 (ws.map Wr.cs).flatten hs (xH hown.out.own) ax us.length c (us.map Wr.cs).flatten hx (ws_flat us) hc.out (ws_one us) (by unfold maxLen;omega) (by omega) hN k hk ?_
 intro a' c' W' h6 h7 h9
 refine hK a' c' W' (xH ⟨?_,fun y hy=>?_⟩) h7 h9
 · have h8:=h6.out
   rw [← hk] at h8 ⊢
   rw [List.length_append,List.map_append,List.flatten_append]
   exact h8
 · rcases List.mem_append.1 hy with h | h
   · exact hown.out.ok y h
   · exact hok.out y h
theorem lies_src {W:World} {g:Nat} {us:List Wr} (h:Lies W g (us.map Wr.cs).flatten) {m:Nat}:0 < m→∃ ad,some (⟨g,0,none⟩:Addr)=some ad∧∀ j u,(us.map Wr.cs).flatten[j]? = some u→W.cell? (ad.add j)=some u:=fun _=>⟨_,rfl,h.2⟩
theorem namesD_len8 (d:Dk):(namesD d).length≤1000:=by
 by_cases h:DkOkS d
 · exact namesD_len h
 · rw [namesD_no h];decide
theorem strs_grown {W W':World} {v v':Value} {na:Value} {ns:List ByteArray} (h:StrsAt (fun b=>b < W.heap.size∧v.ownBlock≠some b) W na ns) (hg:W.grownBy W' v.ownBlock) (hn:v'.ownBlock=v.ownBlock∨∃ g,v'.ownBlock=some g∧W.heap.size≤g):StrsAt (fun b=>b < W'.heap.size∧v'.ownBlock≠some b) W' na ns :=
 h.carry (fun b hb=>hg.block b hb.1 (fun e=>hb.2 e.symm)) (fun b hb=>⟨Nat.lt_of_lt_of_le hb.1 hg.size,by
  rcases hn with e | ⟨g,e,hl⟩
  · rw [e];exact hb.2
  · rw [e];intro e2;have:=Option.some.inj e2;have:=hb.1;omega⟩)
theorem strs_on {W W':World} {v:Value} {na:Value} {ns:List ByteArray} (h:StrsAt (fun b=>b < W.heap.size∧v.ownBlock≠some b) W na ns) (hb:Below W.heap.size W W'):StrsAt (fun b=>b < W'.heap.size∧v.ownBlock≠some b) W' na ns :=
 h.carry (fun b hb'=>hb.block b hb'.1) (fun _ hb'=>⟨Nat.lt_of_lt_of_le hb'.1 hb.size,hb'.2⟩)
theorem l44Birth_any (d:Dk) (c:C3) (P:Nat→Prop) (w:World) (hP:∀ b,P b→b < w.heap.size) (hd:DkAt P w d c) (hnm:∀ f,f∈d.files→f.name.size≤1048576) :
 Calls Try.prog 88 #[.agg #[c.c0,c.c1,c.c2]] w fun e w'=>WrE9 1010 w w' e:=by
 have HTP:=xH (fun W (hW:Below w.heap.size w W)=>l44Top_any d P c W (fun b hb=>Nat.lt_of_lt_of_le (hP b hb) hW.size) (hd.carry (fun b hb=>hW.block b (hP b hb)) (fun _ h=>h)) hnm)
 have HNM:=xH (fun W (hW:Below w.heap.size w W)=>specDiskNames_any d P c W (fun b hb=>Nat.lt_of_lt_of_le (hP b hb) hW.size) (hd.carry (fun b hb=>hW.block b (hP b hb)) (fun _ h=>h)))
 obtain ⟨c0,c1,c2⟩:=c
 obtain ⟨a0,p0,g0,-,-⟩:=hd.fs.open
 obtain ⟨a1,p1,g1,-,-⟩:=id hd.ns
 obtain ⟨a2,p2,g2,-,-⟩:=hd.ms.open
 simp only at g0 g1 g2
 subst g0 g1 g2
 have hb0:Below w.heap.size w (w.alloc (.cells #[.slice a0 d.files.length p0,.slice a1 d.names.length p1,.slice a2 d.moves.length p2] 27)):=(Below.refl _ _).alloc (Nat.le_refl _) _
 have hr1:=row3_alloc w (.slice a0 d.files.length p0) (.slice a1 d.names.length p1) (.slice a2 d.moves.length p2) 27
 have HB0:=xH hb0;have HR1:=xH hr1
 have HNL:=xH (namesD_len8 d)
 clear hP hd hb0 hr1 hnm
 go_enter Try.func88,Try.ntmps88
 go_wp2_with fail
 generalize (w.alloc (.cells #[.slice a0 d.files.length p0,.slice a1 d.names.length p1,.slice a2 d.moves.length p2] 27))=W0 at HB0 HR1 ⊢
 refine (HTP.out W0 HB0.out).mono ?_
 rintro e w1 ⟨top,rfl,htop,hb1⟩
 have HB1:=xH (HB0.out.trans (hb1.mono HB0.out.size))
 have hrd:=HR1.out.of_block (hb1.block _ HR1.out.lt)
 obtain ⟨k0,k1,k2⟩:=cs3 hrd (by omega)
 have kl:=hrd.lt
 simp only [row3] at k0 k1 k2
 clear hb1 hrd HTP HB0 HR1
 have HNO:Hid (WrE9 1010 w (w1.alloc (.cells #[] 29)) (.returned (.tuple #[.slice (some ⟨w1.heap.size,0,none⟩) 0 0,.int .i64 4]))):=⟨[],_,4,rfl,ws_nil _ _,by decide,fun x hx=>(by cases hx),HB1.out.alloc HB1.out.size _⟩
 by_cases h1:999999≤top
 · have e1:decide ((999999:Int)≤(top:Int))=true:=decide_eq_true (by omega)
   clear HNM
   go_wp2_with fail
   refine bodyPost_ret (v:=.tuple #[.slice (some ⟨w1.heap.size,0,none⟩) 0 0,.int .i64 4]) (by simp [results,Try.results88,go_sem]) rfl ?_
   exact xU HNO
 have e1:decide ((999999:Int)≤(top:Int))=false:=decide_eq_false (by omega)
 cases e3:decide ((64:Int) < wrap64 ((d.files.length:Int)+2)) with
 | true =>
   clear HNM
   go_wp2_with fail
   refine bodyPost_ret (v:=.tuple #[.slice (some ⟨w1.heap.size,0,none⟩) 0 0,.int .i64 4]) (by simp [results,Try.results88,go_sem]) rfl ?_
   exact xU HNO
 | false =>
 clear HNO
 go_wp2_with fail
 have HBW:=xH (HB1.out.alloc HB1.out.size (.cells #[] 29))
 have HW0:Hid (WoS w1.heap.size (w1.alloc (.cells #[] 29)) (.slice (some ⟨w1.heap.size,0,none⟩) 0 0) []):=⟨own_new w1 w1.heap.size 29 3 (Nat.le_refl _),fun x hx=>(by cases hx)⟩
 have HA0:=xH ((Below.refl w1.heap.size w1).alloc (Nat.le_refl _) (.cells #[] 29))
 have hza:w1.heap.size < (w1.alloc (.cells #[] 29)).heap.size:=by rw [World.size_alloc];exact Nat.lt_succ_self _
 clear k0 k1 k2 kl
 generalize w1.alloc (.cells #[] 29)=W1 at HBW HW0 HA0 hza ⊢
 refine (HNM.out W1 HBW.out).mono ?_
 rintro e w2 ⟨nv,rfl,hn⟩
 obtain ⟨na,ncap,rfl,-,hc⟩:=hn.strs
 have hst:=hn.strs
 have HN0:Hid (StrsAt (fun b=>b < w2.heap.size∧(Value.slice (some ⟨w1.heap.size,0,none⟩) 0 0).ownBlock≠some b) w2 (.slice na (namesD d).length ncap) (namesD d)):=hst.carry (fun _ _=>rfl) (fun b hb=>⟨hb.2,fun e=>by
  have h3:w1.heap.size=b:=Option.some.inj e
  have h4:W1.heap.size≤b:=hb.1
  omega⟩)
 have HW2:=xH (HW0.out.on hn.below)
 have HB2:=xH (HA0.out.trans (hn.below.mono HA0.out.size))
 have HSM:Hid (∀ x,x∈namesD d→x.size≤8):=fun x hx=>names_small hx
 clear hn hst hc HNM HBW HW0 HA0 hza
 go_wp2_with fail
 go_loopw [5,7] (fun vo vi wr=>∃ (i:Nat) (b0:Option Addr) (d0:Nat) (ws:List Wr),i≤(namesD d).length∧vi=.int .i64 i∧vo=.slice b0 i d0∧ws.length=i∧Hid (WoS w1.heap.size wr (.slice b0 i d0) ws)∧Hid (Below w1.heap.size w1 wr)∧Hid (StrsAt (fun b=>b < wr.heap.size∧(Value.slice b0 i d0).ownBlock≠some b) wr (.slice na (namesD d).length ncap) (namesD d))) (fun _ vi _=>(namesD d).length - (intOf vi).toNat)
 case atStart=>exact ⟨0,_,_,[],by omega,rfl,rfl,rfl,HW2.out,HB2.out,HN0.out⟩
 case round =>
  clear HW2 HB2 HN0
  obtain ⟨i,b0,d0,ws,hi,rfl,rfl,hwl,HS,HB,HN⟩:=hrel
  have hnl:=HNL.out
  by_cases hlt:i < (namesD d).length
  · obtain ⟨a9,c9,e9,-,h9⟩:=HN.out
    simp only [Value.slice.injEq] at e9
    obtain ⟨rfl,-,rfl⟩:=e9
    obtain ⟨nb,no,rfl,hnb,hx,-⟩:=h9 i hlt
    have hsm:=HSM.out _ (List.getElem_mem hlt)
    clear h9
    have HSR:Hid (WoS w1.heap.size wr (.slice b0 i d0) ws):=HS
    generalize (namesD d)[i]=x at hx hsm
    have hd1:decide ((i:Int) < ((namesD d).length:Int))=true:=decide_eq_true (by omega)
    have hi0:(0:Int)≤(i:Int):=by omega
    have hil:(i:Int) < ((namesD d).length:Int):=by omega
    have hal:=(Below.refl wr.heap.size wr).alloc (Nat.le_refl _) (.cells #[.int .i64 4,.string x,.string ⟨#[]⟩] 29)
    have HSA:=xH (HS.out.on hal)
    have HBA:=xH (HB.out.alloc HB.out.size (.cells #[.int .i64 4,.string x,.string ⟨#[]⟩] 29))
    have HNA:=xH (strs_on HN.out hal)
    have HLS:Hid (0 < 1→∃ ad,some (⟨wr.heap.size,0,none⟩:Addr)=some ad∧∀ j u,(([⟨4,x,⟨#[]⟩⟩]:List Wr).map Wr.cs).flatten[j]? = some u→(wr.alloc (.cells #[.int .i64 4,.string x,.string ⟨#[]⟩] 29)).cell? (ad.add j)=some u):=lies_src (us:=[⟨4,x,⟨#[]⟩⟩]) (lies_alloc wr [.int .i64 4,.string x,.string ⟨#[]⟩] 29)
    have HOK:Hid (∀ y,y∈([⟨4,x,⟨#[]⟩⟩]:List Wr)→y.x.size≤1000∧y.y.size≤1000000):=fun y hy=>by
     rw [List.mem_singleton.1 hy]
     exact ⟨Nat.le_trans hsm (by decide),show (⟨#[]⟩:ByteArray).size≤1000000 by decide⟩
    have hbz:=HBA.out.size
    clear hal HS HSR hsm
    go_wp2_with (at_builtin;refine append_wr _ rfl _ _ rfl w1.heap.size b0 d0 ws i hwl rfl HSA (some ⟨wr.heap.size,0,none⟩) 1 1 [⟨4,x,⟨#[]⟩⟩] rfl rfl HOK HLS (by omega) (by decide) hbz (i+1) rfl ?_;intro fa fc W5 ho5 hg5 hn5)
    have HB5:=xH (HBA.out.grown hg5.out hbz (fun b e=>(own_ge HSA.out.own e).1))
    have HN5:=xH (strs_grown HNA.out hg5.out hn5.out)
    clear hg5 hn5 HSA HBA HNA HLS HOK hx HB HN
    go_roundw
    case rel=>exact ⟨i+1,fa,fc,ws++[⟨4,x,⟨#[]⟩⟩],hlt,by go_num,rfl,by rw [List.length_append,hwl];rfl,ho5,HB5,HN5⟩
    case measure=>simp [intOf];omega
  · obtain rfl:i=(namesD d).length:=by omega
    have hd1:decide (((namesD d).length:Int) < ((namesD d).length:Int))=false:=decide_eq_false (by omega)
    obtain ⟨D1,hD1⟩:∃ D:ByteArray,⟨(Lib.itoa ((top:Int)+1)).toArray⟩=D:=⟨_,rfl⟩
    have HD1:=xH (fun W=>l6Dec_any ((top:Int)+1) W (by omega) (by omega))
    have hsD1:D1.size≤100:=by rw [← hD1];exact decB_le (by omega) (by omega)
    rw [hD1] at HD1
    obtain ⟨E1,hE1⟩:∃ E:ByteArray,⟨#[115]⟩++D1=E:=⟨_,rfl⟩
    obtain ⟨E2,hE2⟩:∃ E:ByteArray,⟨#[109]⟩++D1=E:=⟨_,rfl⟩
    have haE1:∀ T,binOp .add T (.string ⟨#[115]⟩) (.string D1)=pure (.string E1):=fun T=>by
     rw [← hE1];exact addP T _ _ (by have e:(⟨#[115]⟩:ByteArray).size=1:=rfl;omega)
    have haE2:∀ T,binOp .add T (.string ⟨#[109]⟩) (.string D1)=pure (.string E2):=fun T=>by
     rw [← hE2];exact addP T _ _ (by have e:(⟨#[109]⟩:ByteArray).size=1:=rfl;omega)
    have hsE:E1.size≤1000∧E2.size≤1000:=by
     have e1:(⟨#[115]⟩:ByteArray).size=1:=rfl
     have e2:(⟨#[109]⟩:ByteArray).size=1:=rfl
     rw [← hE1,← hE2,ByteArray.size_append,ByteArray.size_append];omega
    clear hD1 hE1 hE2 hsD1
    have HNOT:=xH HN
    clear HSM HNL hnl HN
    go_wp2_with fail
    refine (HD1.out wr).mono ?_
    rintro e w3 ⟨rfl,hb3⟩
    have HS3:=xH (HS.out.on hb3)
    have HB3:=xH (HB.out.trans (hb3.mono HB.out.size))
    clear hb3 HS HB HNOT
    go_wp2_with fail
    refine (HD1.out w3).mono ?_
    rintro e w4 ⟨rfl,hb4⟩
    have HS4:=xH (HS3.out.on hb4)
    have HB4:=xH (HB3.out.trans (hb4.mono HB3.out.size))
    clear hb4 HS3 HB3 HD1
    have hwl2:=plW_size8 ⟨[],(top:Int)+1,1⟩
    have HPW:=xH (fun W=>specLogPlanWrite_any ⟨[],(top:Int)+1,1⟩ (fun _=>False) (.slice none 0 0) W (fun b hb=>hb.elim) ⟨none,0,rfl,by simp,fun i hi=>absurd hi (Nat.not_lt_zero i)⟩)
    have hok:∀ x,x∈([⟨1,E1,⟨#[]⟩⟩,⟨1,E2,⟨#[]⟩⟩,⟨2,E2,(plW ⟨[],(top:Int)+1,1⟩)⟩,⟨3,E2,⟨#[]⟩⟩,⟨5,⟨#[]⟩,⟨#[]⟩⟩]:List Wr)→x.x.size≤1000∧x.y.size≤1000000:=fun x hx=>by
     have h0:(⟨#[]⟩:ByteArray).size=0:=rfl
     simp only [List.mem_cons,List.not_mem_nil,or_false] at hx
     rcases hx with rfl | rfl | rfl | rfl | rfl <;> refine ⟨?_,?_⟩ <;> simp only <;> omega
    have hnl2:=namesD_len8 d
    have HOK:=xH hok
    clear hok
    go_wp2_with fail
    refine (HPW.out w4).mono ?_
    rintro e w5 ⟨rfl,hb5⟩
    have HS5:=xH (HS4.out.on hb5)
    have HB5:=xH (HB4.out.trans (hb5.mono HB4.out.size))
    have hal:=(Below.refl w5.heap.size w5).alloc (Nat.le_refl _) (.cells #[.int .i64 1,.string E1,.string ⟨#[]⟩,.int .i64 1,.string E2,.string ⟨#[]⟩,.int .i64 2,.string E2,.string (plW ⟨[],(top:Int)+1,1⟩),.int .i64 3,.string E2,.string ⟨#[]⟩,.int .i64 5,.string ⟨#[]⟩,.string ⟨#[]⟩] 29)
    have HSA:=xH (HS5.out.on hal)
    have HBA:=xH (HB5.out.alloc HB5.out.size (.cells #[.int .i64 1,.string E1,.string ⟨#[]⟩,.int .i64 1,.string E2,.string ⟨#[]⟩,.int .i64 2,.string E2,.string (plW ⟨[],(top:Int)+1,1⟩),.int .i64 3,.string E2,.string ⟨#[]⟩,.int .i64 5,.string ⟨#[]⟩,.string ⟨#[]⟩] 29))
    have HLS:Hid (0 < 5→∃ ad,some (⟨w5.heap.size,0,none⟩:Addr)=some ad∧∀ j u,(([⟨1,E1,⟨#[]⟩⟩,⟨1,E2,⟨#[]⟩⟩,⟨2,E2,(plW ⟨[],(top:Int)+1,1⟩)⟩,⟨3,E2,⟨#[]⟩⟩,⟨5,⟨#[]⟩,⟨#[]⟩⟩]:List Wr).map Wr.cs).flatten[j]? = some u→(w5.alloc (.cells #[.int .i64 1,.string E1,.string ⟨#[]⟩,.int .i64 1,.string E2,.string ⟨#[]⟩,.int .i64 2,.string E2,.string (plW ⟨[],(top:Int)+1,1⟩),.int .i64 3,.string E2,.string ⟨#[]⟩,.int .i64 5,.string ⟨#[]⟩,.string ⟨#[]⟩] 29)).cell? (ad.add j)=some u):=lies_src (us:=[⟨1,E1,⟨#[]⟩⟩,⟨1,E2,⟨#[]⟩⟩,⟨2,E2,(plW ⟨[],(top:Int)+1,1⟩)⟩,⟨3,E2,⟨#[]⟩⟩,⟨5,⟨#[]⟩,⟨#[]⟩⟩]) (lies_alloc w5 [.int .i64 1,.string E1,.string ⟨#[]⟩,.int .i64 1,.string E2,.string ⟨#[]⟩,.int .i64 2,.string E2,.string (plW ⟨[],(top:Int)+1,1⟩),.int .i64 3,.string E2,.string ⟨#[]⟩,.int .i64 5,.string ⟨#[]⟩,.string ⟨#[]⟩] 29)
    have hbz:=HBA.out.size
    clear hb5 hal HS5 HB5 HS4 HB4 HPW
    go_wp2_with (at_builtin;refine append_wr _ rfl _ _ rfl w1.heap.size b0 d0 ws (namesD d).length hwl rfl HSA (some ⟨w5.heap.size,0,none⟩) 5 5 [⟨1,E1,⟨#[]⟩⟩,⟨1,E2,⟨#[]⟩⟩,⟨2,E2,(plW ⟨[],(top:Int)+1,1⟩)⟩,⟨3,E2,⟨#[]⟩⟩,⟨5,⟨#[]⟩,⟨#[]⟩⟩] rfl rfl HOK HLS (by omega) (by decide) hbz ((namesD d).length+5) rfl ?_;intro fa fc W6 hw6 hg6 hn6)
    have HEND:Hid (WrE9 1010 w W6 (.returned (.tuple #[.slice fa ((namesD d).length+5) fc,.int .i64 0]))):=by
     have hb46:=HBA.out.grown hg6.out hbz (fun b e=>(own_ge HSA.out.own e).1)
     have hws:=hw6.out.at
     refine ⟨_,_,0,rfl,hws.carry (fun _ _=>rfl) (fun b hb=>⟨Nat.le_trans HB1.out.size hb.1,hb.2⟩),?_,hw6.out.ok,HB1.out.trans (hb46.mono HB1.out.size)⟩
     rw [List.length_append,hwl]
     simp only [List.length_cons,List.length_nil]
     omega
    refine bodyPost_ret (v:=.tuple #[.slice fa ((namesD d).length+5) fc,.int .i64 0]) (by simp [results,Try.results88,go_sem]) rfl ?_
    exact xU HEND
end Go.Proofs.Yteikmbkljkkjiaa
