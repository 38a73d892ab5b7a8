/- A part. -/
import Derived.Test.YteikmbkljkkjiaaSart20
namespace Go.Proofs.Yteikmbkljkkjiaa
open Go Go.RowKit
set_option maxRecDepth 100000
set_option maxHeartbeats 1600000
theorem But.setNew8 {B:Nat} {w w':World} (h:But B w w') {b o:Nat} (hb:w.heap.size≤b) (v:Value):But B w (w'.setCell ⟨b,o,none⟩ v) :=
 ⟨h.os,h.tape,h.output,by simpa using h.size,fun k hk hne=>(Below.heap_setCell _ _ _ _ (by simp;omega)).trans (h.block k hk hne)⟩
def r6a (a b c d e f:Value):Nat→Value
 | 0=>a
 | 1=>b
 | 2=>c
 | 3=>d
 | 4=>e
 | _=>f
theorem r6a_alloc (w:World) (a b c d e f:Value) (t:TypeId):(w.alloc (.cells #[a,b,c,d,e,f] t)).rowIs w.heap.size t 6 (r6a a b c d e f) :=
 World.rowIs_alloc w #[a,b,c,d,e,f] t _ (fun i hi=>by
  have hi':i < 6:=by simpa using hi
  rcases (show i=0∨i=1∨i=2∨i=3∨i=4∨i=5 by omega) with rfl | rfl | rfl | rfl | rfl | rfl <;> rfl)
theorem ixRunZ {o:Oper} {a:Act} {X I:Operand} {g n cap i:Nat} (ho:o.op=.indexAddr 39 X I) (hx:a.eval X=.slice (some ⟨g,0,none⟩) n cap) (hi:a.eval I=.int .i64 (i:Nat)) (h:i < n) (w:World):(execOp a.eval o).run Try.prog w=.ok (.value (.pointer (some ⟨g,i,none⟩))) w:=by
 have h1:(0:Int)≤(i:Int)∧(i:Int) < (n:Int):=⟨by omega,by omega⟩
 have h2:(Instr.indexAt 39 (.slice (some ⟨g,0,none⟩) n cap) (.int .i64 (i:Nat))).run Try.prog w=.ok (.pointer (some ⟨g,i,none⟩)) w:=by
  have e:(⟨g,i,none⟩:Addr)=(⟨g,0,none⟩:Addr).add (i * 1):=by simp [Addr.add]
  rw [e]
  simp [go_sem,h1]
 unfold execOp
 simp only [ho,hx,hi,Sem.run_bind,Sem.run_pure,Result.andThen_ok,h2]
theorem ldZs (w:World) (ad:Addr) (v:Value) (h:w.cell? ad=some v):(Instr.loadAt 39 (.pointer (some ad))).run Try.prog w=.ok v w:=by
 simp [Instr.loadAt,Instr.sureAddr,loadVar,Try.isAgg39,h,go_sem]
theorem stZs (w:World) (ad:Addr) (a:Option Addr) (n c:Nat) (u:Value) (h:w.cell? ad=some u) (hf:w.frozen? ad=false):(Instr.storeAt 39 (.pointer (some ad)) (.slice a n c)).run Try.prog w=.ok () (w.setCell ad (.slice a n c)):=by
 simp [Instr.storeAt,Instr.sureAddr,storeVar,h,hf,go_sem]
structure AcT (R:Nat) (w W:World) (B:Nat) (v:Value) (b:List UInt8) (q:Nat) (kind:Int) (data:ByteArray) (cuts:Bool) (after moves:Int) (ca:Option Addr) (cc:Nat) (zs:List Int):Prop where
 hw:w.heap.size < B
 hR:R < w.heap.size
 row:W.rowIs B 124 6 (r6a (.int .i64 kind) (.string data) (.bool cuts) (.int .i64 after) (.int .i64 moves) (.slice ca zs.length cc))
 b6:W.rowIs w.heap.size 124 6 (r6a (.int .i64 0) (.string ⟨#[]⟩) (.bool false) (.int .i64 0) (.int .i64 0) (.slice none 0 0))
 own:W.ownsRow (B+1) 3 1 (.slice ca zs.length cc) zs.length (zs.map (Value.int .i64))
 is:∀ z,z∈zs→I64 z
 dr:DR R W v b q
 but:But R w W
theorem AcT.kc {R:Nat} {w W:World} {B:Nat} {v:Value} {b:List UInt8} {q:Nat} {kind:Int} {data:ByteArray} {cuts:Bool} {after moves:Int} {ca:Option Addr} {cc:Nat} {zs:List Int} (h:AcT R w W B v b q kind data cuts after moves ca cc zs):W.cell? ⟨B,5,none⟩=some (.slice ca zs.length cc):=h.row.cell (i:=5) (by omega)
theorem AcT.on {R:Nat} {w W W':World} {B:Nat} {v:Value} {b:List UInt8} {q:Nat} {kind:Int} {data:ByteArray} {cuts:Bool} {after moves:Int} {ca:Option Addr} {cc:Nat} {zs:List Int} (h:AcT R w W B v b q kind data cuts after moves ca cc zs) (hb:Below W.heap.size W W'):AcT R w W' B v b q kind data cuts after moves ca cc zs :=
 ⟨h.hw,h.hR,h.row.of_block (hb.block _ h.row.lt),h.b6.of_block (hb.block _ h.b6.lt),own_on h.own hb,h.is,h.dr.on hb,h.but.trans (But.of_below hb)⟩
theorem AcT.draw {R:Nat} {w W W':World} {B:Nat} {v:Value} {b:List UInt8} {q q':Nat} {kind:Int} {data:ByteArray} {cuts:Bool} {after moves:Int} {ca:Option Addr} {cc:Nat} {zs:List Int} (h:AcT R w W B v b q kind data cuts after moves ca cc zs) (hb:But R W W') (hd:DR R W' v b q'):AcT R w W' B v b q' kind data cuts after moves ca cc zs :=
 ⟨h.hw,h.hR,h.row.of_block (hb.at h.row.lt (by have:=h.hw;have:=h.hR;omega)),h.b6.of_block (hb.at h.b6.lt (by have:=h.hR;omega)),own_but h.own hb (by have:=h.hw;have:=h.hR;omega),h.is,hd,h.but.trans hb⟩
theorem AcT.app {R:Nat} {w W W':World} {B:Nat} {v:Value} {b:List UInt8} {q:Nat} {kind:Int} {data:ByteArray} {cuts:Bool} {after moves:Int} {ca ca':Option Addr} {cc cc':Nat} {zs:List Int} {z:Int} (h:AcT R w W B v b q kind data cuts after moves ca cc zs) (hz:I64 z) (ho:W'.ownsRow (B+1) 3 1 (.slice ca' (zs.length+1) cc') (zs.length+1) ((zs++[z]).map (Value.int .i64))) (hg:W.grownBy W' (Value.slice ca zs.length cc).ownBlock):AcT R w (W'.setCell ⟨B,5,none⟩ (.slice ca' (zs++[z]).length cc')) B v b q kind data cuts after moves ca' cc' (zs++[z]):=by
 have hge:∀ g,(Value.slice ca zs.length cc).ownBlock=some g→B+1≤g:=fun g e=>(own_ge h.own e).1
 have hlow:∀ g,g < B+1→W'.heap[g]? = W.heap[g]? := fun g hg'=>hg.block g (by have:=h.row.lt;omega) (fun e=>by have:=hge g e.symm;omega)
 have hw:=h.hw;have hR:=h.hR
 have hs:∀ a,a≠B→(W'.setCell ⟨B,5,none⟩ (.slice ca' (zs++[z]).length cc')).heap[a]? = W'.heap[a]? := fun a ha=>Below.heap_setCell _ _ _ _ ha
 refine ⟨hw,hR,((h.row.of_block (hlow _ (by omega))).set 5 _).congr (fun i hi=>?_),h.b6.of_block ((hs _ (by omega)).trans (hlow _ (by omega))),?_,fun y hy=>?_,(h.dr.grown hg (fun g e=>by have:=hge g e;omega)).set (by omega) _ _,?_⟩
 · rcases (show i=0∨i=1∨i=2∨i=3∨i=4∨i=5 by omega) with rfl | rfl | rfl | rfl | rfl | rfl <;> rfl
 · have hl:(zs++[z]).length=zs.length+1:=by simp
   have ho2:W'.ownsRow (B+1) 3 1 (.slice ca' (zs++[z]).length cc') (zs++[z]).length ((zs++[z]).map (Value.int .i64)):=by rw [hl];exact ho
   exact ownsRow_keepR ho2 (fun g e=>hs g (by have:=(own_ge ho2 e).1;omega))
 · rcases List.mem_append.1 hy with h' | h'
   · exact h.is y h'
   · rw [List.mem_singleton.1 h'];exact hz
 · exact But.setNew8 (But.grown8 h.but hg (fun g e=>by have:=hge g e;omega)) (Nat.le_of_lt hw) _
noncomputable def la17Ops:Array Oper:=fops Try.f83 17
theorem la17_neat:Region.noSelect la17Ops=true∧neat la17Ops=true:=⟨by kernel_rfl,by kernel_rfl⟩
def kp_la17 (z:Nat→Value):List (Nat × Value):=[(1,z 1),(2,z 2),(3,z 3),(4,z 4),(5,z 5),(6,z 6),(8,z 8),(9,z 9),(10,z 10),(11,z 11),(12,z 12),(13,z 13),(14,z 14),(15,z 15),(16,z 16),(17,z 17),(18,z 18),(19,z 19),(20,z 20),(21,z 21),(22,z 22),(23,z 23),(24,z 24),(25,z 25),(26,z 26),(27,z 27),(28,z 28),(29,z 29),(30,z 30),(31,z 31),(32,z 32),(33,z 33),(34,z 34),(35,z 35),(36,z 36),(37,z 37),(38,z 38),(39,z 39),(40,z 40),(41,z 41),(52,z 52)]
theorem la17z (z:Nat→Value) (LL:(Nat→Value)→Int→Option Addr→Nat→List Value) (R B q:Nat) (w:World) (v:Value) (b:List UInt8) (kind:Int) (data:ByteArray) (cuts:Bool) (after moves:Int) (ca:Option Addr) (cc:Nat) (zs:List Int) (W0:World) {l:List Value} (Q:Exit→Act→World→Prop) (hQ:∀ c a d v w,Q (.panic c) (Act.put a d v) w→Q (.panic c) a w) (hA:AcT R w W0.drew B v b q kind data cuts after moves ca cc zs) (hzl:zs.length≤100) (HPK:∀ W,DR R W v b q→Calls Try.prog 24 #[.pointer (some ⟨R,0,none⟩),.int .i64 6] W fun e w'=>PickEnd R W w' v b q 6 e)
 (hl:lookL (kp_la17 z++[(0,.pointer (some ⟨R,0,none⟩)),(7,.pointer (some ⟨B,0,none⟩))]) l=(53,((kp_la17 z++[(0,.pointer (some ⟨R,0,none⟩)),(7,.pointer (some ⟨B,0,none⟩))]):List (Nat × Value)).map (·.2)))
 (hfr:∀ (u:Nat→Value) (zz:Int) (ga:Option Addr) (gc:Nat),frL u 53 (kp_la17 z++[(0,.pointer (some ⟨R,0,none⟩)),(7,.pointer (some ⟨B,0,none⟩))])=LL u zz ga gc)
 (hend:∀ (u:Nat→Value) (zz:Int) (ga:Option Addr) (gc:Nat) (W:World),AcT R w W B v b (q+1) kind data cuts after moves ga gc (zs++[zz])→Q .normal ⟨(LL u zz ga gc).toArray,[]⟩ W):(Code.region 17 la17Ops true).wp Try.prog Q ⟨l.toArray,[]⟩ W0:=by
 obtain ⟨v0,rfl⟩:=look_fr hl
 have hq:NtQ la17Ops Q:=⟨la17_neat,hQ⟩
 refine T_start (S:=fun _=>True) (by kernel_rfl) trivial ?_
 clear hl hQ
 generalize W0.drew=V at hA hend ⊢
 have M31:∀ (u:Nat→Value) (W:World) (g:Nat) (zz:Int) (hzi:I64 zz) (hl:Lies W g [.int .i64 zz]) (hA2:AcT R w W B v b (q+1) kind data cuts after moves ca cc zs),wpS Try.prog la17Ops Q (fun _=>True) (unl 11 [8,9,10],frL u 53 (kp_la17 z++[(0,.pointer (some ⟨R,0,none⟩)),(7,.pointer (some ⟨B,0,none⟩)),(43,.slice ca zs.length cc),(49,.slice (some ⟨g,0,none⟩) 1 1)])) [] W:=by
  intro u W g zz hzi hl hA2
  have hw:=hA2.hw;have hRl:=hA2.hR;have hlt:=hA2.row.lt
  refine T_one 8 (by kernel_rfl) fun _=>O_list (some 50) (by kernel_rfl) ?_
  refine append_z _ (by kernel_rfl) (.tmp 43) (.tmp 49) (by kernel_rfl) (B+1) ca cc zs.length zs (by kernel_rfl) (xH hA2.own) g zz (by kernel_rfl) (xH hl) (by omega) (by omega) ?_
  intro ga gc W7 ho7 hg7 hn7
  refine ⟨trivial,_,put_putL ..,?_⟩
  refine T_z hq [9] (by kernel_rfl) ?_
  refine T_fr 11 53 [10] (kp_la17 z++[(0,.pointer (some ⟨R,0,none⟩)),(7,.pointer (some ⟨B,0,none⟩)),(50,.slice ga (zs.length+1) gc),(51,.pointer (some ⟨B,5,none⟩))]) (by kernel_rfl) fun u=>?_
  have hrow:=(hA2.app hzi ho7.out hg7.out)
  have hc5:W7.cell? ⟨B,5,none⟩=some (.slice ca zs.length cc)∧W7.frozen? ⟨B,5,none⟩=false:=by
   have h1:W7.heap[B]? = W.heap[B]? := hg7.out.block B (by omega) (fun e=>by have:=(own_ge hA2.own e.symm).1;omega)
   have h2:=hA2.row.of_block h1
   exact ⟨h2.cell (i:=5) (by omega),h2.frozen 5⟩
  refine T_one 10 (by kernel_rfl) fun _=>O_store none 39 (.tmp 51) (.tmp 50) ⟨B,5,none⟩ (.slice ga (zs.length+1) gc) _ (by kernel_rfl) (by kernel_rfl) (by kernel_rfl) (stZs W7 _ _ _ _ _ hc5.1 hc5.2) trivial ?_
  exact T_end 53 (kp_la17 z++[(0,.pointer (some ⟨R,0,none⟩)),(7,.pointer (some ⟨B,0,none⟩))]) (by kernel_rfl) (by kernel_rfl) fun _ u=>by rw [hfr];exact hend u zz ga gc _ (by rw [List.length_append] at hrow;exact hrow)
 have M30:∀ (u:Nat→Value) (W:World) (g:Nat) (zz:Int) (hzi:I64 zz) (hl:Lies W g [.int .i64 zz]) (hA2:AcT R w W B v b (q+1) kind data cuts after moves ca cc zs),wpS Try.prog la17Ops Q (fun _=>True) (unl 11 [1,8,9,10],frL u 53 (kp_la17 z++[(0,.pointer (some ⟨R,0,none⟩)),(7,.pointer (some ⟨B,0,none⟩)),(42,.pointer (some ⟨B,5,none⟩)),(49,.slice (some ⟨g,0,none⟩) 1 1)])) [] W:=by
  intro u W g zz hzi hl hA2
  refine T_one 1 (by kernel_rfl) fun _=>?_
  exact O_val (w':=W) (some 43) (.slice ca zs.length cc) (by kernel_rfl) (ldOpR (X:=.tmp 42) (T:=39) (ad:=⟨B,5,none⟩) (by kernel_rfl) (by kernel_rfl) (ldZs _ _ _ hA2.kc)) trivial (T_fr 11 53 [8,9,10] (kp_la17 z++[(0,.pointer (some ⟨R,0,none⟩)),(7,.pointer (some ⟨B,0,none⟩)),(43,.slice ca zs.length cc),(49,.slice (some ⟨g,0,none⟩) 1 1)]) (by kernel_rfl) fun u=>M31 u W g zz hzi hl hA2)
 have M21:∀ (u:Nat→Value) (W:World) (zz:Int) (hzi:I64 zz) (hA2:AcT R w W B v b (q+1) kind data cuts after moves ca cc zs),wpS Try.prog la17Ops Q (fun _=>True) (unl 11 [7,8,9,10],frL u 53 (kp_la17 z++[(0,.pointer (some ⟨R,0,none⟩)),(7,.pointer (some ⟨B,0,none⟩)),(43,.slice ca zs.length cc),(48,.int .i64 zz)])) [] W:=by
  intro u W zz hzi hA2
  refine T_one 7 (by kernel_rfl) fun _=>?_
  exact O_val (w':=W.alloc (.cells #[.int .i64 zz] 3)) (some 49) (.slice (some ⟨W.heap.size,0,none⟩) 1 1) (by kernel_rfl) (by kernel_rfl) trivial (T_fr 11 53 [8,9,10] (kp_la17 z++[(0,.pointer (some ⟨R,0,none⟩)),(7,.pointer (some ⟨B,0,none⟩)),(43,.slice ca zs.length cc),(49,.slice (some ⟨W.heap.size,0,none⟩) 1 1)]) (by kernel_rfl) fun u=>M31 u _ _ zz hzi (lies_alloc W [.int .i64 zz] 3) (hA2.on ((Below.refl _ _).alloc (Nat.le_refl _) (.cells #[.int .i64 zz] 3))))
 have M20:∀ (u:Nat→Value) (W:World) (zz:Int) (hzi:I64 zz) (hA2:AcT R w W B v b (q+1) kind data cuts after moves ca cc zs),wpS Try.prog la17Ops Q (fun _=>True) (unl 11 [1,7,8,9,10],frL u 53 (kp_la17 z++[(0,.pointer (some ⟨R,0,none⟩)),(7,.pointer (some ⟨B,0,none⟩)),(42,.pointer (some ⟨B,5,none⟩)),(48,.int .i64 zz)])) [] W:=by
  intro u W zz hzi hA2
  refine T_two 1 7 (by kernel_rfl) (fun _=>?_) fun _=>?_
  · exact O_val (w':=W) (some 43) (.slice ca zs.length cc) (by kernel_rfl) (ldOpR (X:=.tmp 42) (T:=39) (ad:=⟨B,5,none⟩) (by kernel_rfl) (by kernel_rfl) (ldZs _ _ _ hA2.kc)) trivial (T_fr 11 53 [7,8,9,10] (kp_la17 z++[(0,.pointer (some ⟨R,0,none⟩)),(7,.pointer (some ⟨B,0,none⟩)),(43,.slice ca zs.length cc),(48,.int .i64 zz)]) (by kernel_rfl) fun u=>M21 u W zz hzi hA2)
  · exact O_val (w':=W.alloc (.cells #[.int .i64 zz] 3)) (some 49) (.slice (some ⟨W.heap.size,0,none⟩) 1 1) (by kernel_rfl) (by kernel_rfl) trivial (T_fr 11 53 [1,8,9,10] (kp_la17 z++[(0,.pointer (some ⟨R,0,none⟩)),(7,.pointer (some ⟨B,0,none⟩)),(42,.pointer (some ⟨B,5,none⟩)),(49,.slice (some ⟨W.heap.size,0,none⟩) 1 1)]) (by kernel_rfl) fun u=>M30 u _ _ zz hzi (lies_alloc W [.int .i64 zz] 3) (hA2.on ((Below.refl _ _).alloc (Nat.le_refl _) (.cells #[.int .i64 zz] 3))))
 have M11:∀ (u:Nat→Value) (W:World) (g r:Nat) (zz:Int) (hz:W.cell? ⟨g,r,none⟩=some (.int .i64 zz)) (hzi:I64 zz) (hA2:AcT R w W B v b (q+1) kind data cuts after moves ca cc zs),wpS Try.prog la17Ops Q (fun _=>True) (unl 11 [6,7,8,9,10],frL u 53 (kp_la17 z++[(0,.pointer (some ⟨R,0,none⟩)),(7,.pointer (some ⟨B,0,none⟩)),(43,.slice ca zs.length cc),(47,.pointer (some ⟨g,r,none⟩))])) [] W:=by
  intro u W g r zz hz hzi hA2
  refine T_one 6 (by kernel_rfl) fun _=>?_
  exact O_val (w':=W) (some 48) (.int .i64 zz) (by kernel_rfl) (ldOpR (X:=.tmp 47) (T:=3) (ad:=⟨g,r,none⟩) (by kernel_rfl) (by kernel_rfl) (ldIntR _ _ _ hz)) trivial (T_fr 11 53 [7,8,9,10] (kp_la17 z++[(0,.pointer (some ⟨R,0,none⟩)),(7,.pointer (some ⟨B,0,none⟩)),(43,.slice ca zs.length cc),(48,.int .i64 zz)]) (by kernel_rfl) fun u=>M21 u W zz hzi hA2)
 have M10:∀ (u:Nat→Value) (W:World) (g r:Nat) (zz:Int) (hz:W.cell? ⟨g,r,none⟩=some (.int .i64 zz)) (hzi:I64 zz) (hA2:AcT R w W B v b (q+1) kind data cuts after moves ca cc zs),wpS Try.prog la17Ops Q (fun _=>True) (unl 11 [1,6,7,8,9,10],frL u 53 (kp_la17 z++[(0,.pointer (some ⟨R,0,none⟩)),(7,.pointer (some ⟨B,0,none⟩)),(42,.pointer (some ⟨B,5,none⟩)),(47,.pointer (some ⟨g,r,none⟩))])) [] W:=by
  intro u W g r zz hz hzi hA2
  refine T_two 1 6 (by kernel_rfl) (fun _=>?_) fun _=>?_
  · exact O_val (w':=W) (some 43) (.slice ca zs.length cc) (by kernel_rfl) (ldOpR (X:=.tmp 42) (T:=39) (ad:=⟨B,5,none⟩) (by kernel_rfl) (by kernel_rfl) (ldZs _ _ _ hA2.kc)) trivial (T_fr 11 53 [6,7,8,9,10] (kp_la17 z++[(0,.pointer (some ⟨R,0,none⟩)),(7,.pointer (some ⟨B,0,none⟩)),(43,.slice ca zs.length cc),(47,.pointer (some ⟨g,r,none⟩))]) (by kernel_rfl) fun u=>M11 u W g r zz hz hzi hA2)
  · exact O_val (w':=W) (some 48) (.int .i64 zz) (by kernel_rfl) (ldOpR (X:=.tmp 47) (T:=3) (ad:=⟨g,r,none⟩) (by kernel_rfl) (by kernel_rfl) (ldIntR _ _ _ hz)) trivial (T_fr 11 53 [1,7,8,9,10] (kp_la17 z++[(0,.pointer (some ⟨R,0,none⟩)),(7,.pointer (some ⟨B,0,none⟩)),(42,.pointer (some ⟨B,5,none⟩)),(48,.int .i64 zz)]) (by kernel_rfl) fun u=>M20 u W zz hzi hA2)
 have M01:∀ (u:Nat→Value) (W:World) (g r:Nat) (hl:Lies W g [.int .i64 0,.int .i64 1,.int .i64 4,.int .i64 7,.int .i64 30,.int .i64 9999]) (hr:r < 6) (hA2:AcT R w W B v b (q+1) kind data cuts after moves ca cc zs),wpS Try.prog la17Ops Q (fun _=>True) (unl 11 [5,6,7,8,9,10],frL u 53 (kp_la17 z++[(0,.pointer (some ⟨R,0,none⟩)),(7,.pointer (some ⟨B,0,none⟩)),(43,.slice ca zs.length cc),(44,.slice (some ⟨g,0,none⟩) 6 6),(46,.int .i64 (r:Nat))])) [] W:=by
  intro u W g r hl hr hA2
  obtain ⟨zz,hz,hzi⟩:=six_cell hl (by simp only [I64];omega) hr
  refine T_yld hq 5 (some 47) (.pointer (some ⟨g,r,none⟩)) (by kernel_rfl) (by kernel_rfl) (fun w _=>ixRunZ (X:=.tmp 44) (I:=.tmp 46) (n:=6) (cap:=6) (i:=r) (by kernel_rfl) (by kernel_rfl) (by kernel_rfl) hr w) ?_
  exact T_fr 11 53 [6,7,8,9,10] (kp_la17 z++[(0,.pointer (some ⟨R,0,none⟩)),(7,.pointer (some ⟨B,0,none⟩)),(43,.slice ca zs.length cc),(47,.pointer (some ⟨g,r,none⟩))]) (by kernel_rfl) fun u=>M11 u W g r zz hz hzi hA2
 have M00:∀ (u:Nat→Value) (W:World) (g r:Nat) (hl:Lies W g [.int .i64 0,.int .i64 1,.int .i64 4,.int .i64 7,.int .i64 30,.int .i64 9999]) (hr:r < 6) (hA2:AcT R w W B v b (q+1) kind data cuts after moves ca cc zs),wpS Try.prog la17Ops Q (fun _=>True) (unl 11 [1,5,6,7,8,9,10],frL u 53 (kp_la17 z++[(0,.pointer (some ⟨R,0,none⟩)),(7,.pointer (some ⟨B,0,none⟩)),(42,.pointer (some ⟨B,5,none⟩)),(44,.slice (some ⟨g,0,none⟩) 6 6),(46,.int .i64 (r:Nat))])) [] W:=by
  intro u W g r hl hr hA2
  obtain ⟨zz,hz,hzi⟩:=six_cell hl (by simp only [I64];omega) hr
  refine T_yld hq 5 (some 47) (.pointer (some ⟨g,r,none⟩)) (by kernel_rfl) (by kernel_rfl) (fun w _=>ixRunZ (X:=.tmp 44) (I:=.tmp 46) (n:=6) (cap:=6) (i:=r) (by kernel_rfl) (by kernel_rfl) (by kernel_rfl) hr w) ?_
  exact T_fr 11 53 [1,6,7,8,9,10] (kp_la17 z++[(0,.pointer (some ⟨R,0,none⟩)),(7,.pointer (some ⟨B,0,none⟩)),(42,.pointer (some ⟨B,5,none⟩)),(47,.pointer (some ⟨g,r,none⟩))]) (by kernel_rfl) fun u=>M10 u W g r zz hz hzi hA2
 have N12:∀ (u:Nat→Value) (W:World) (g:Nat) (hl:Lies W g [.int .i64 0,.int .i64 1,.int .i64 4,.int .i64 7,.int .i64 30,.int .i64 9999]) (hgR:g≠R) (hA2:AcT R w W B v b q kind data cuts after moves ca cc zs),wpS Try.prog la17Ops Q (fun _=>True) (unl 11 [4,5,6,7,8,9,10],frL u 53 (kp_la17 z++[(0,.pointer (some ⟨R,0,none⟩)),(7,.pointer (some ⟨B,0,none⟩)),(43,.slice ca zs.length cc),(44,.slice (some ⟨g,0,none⟩) 6 6),(45,.pointer (some ⟨R,0,none⟩))])) [] W:=by
  intro u W g hl hgR hA2
  have hRl:=hA2.hR;have hsz:=hA2.but.size
  refine T_one 4 (by kernel_rfl) fun _=>?_
  refine O_go (HPK W hA2.dr) (by kernel_rfl) ?_
  rintro e w1 ⟨r,rfl,hr,HD,HB⟩
  exact ⟨_,rfl,trivial,T_fr 11 53 [5,6,7,8,9,10] (kp_la17 z++[(0,.pointer (some ⟨R,0,none⟩)),(7,.pointer (some ⟨B,0,none⟩)),(43,.slice ca zs.length cc),(44,.slice (some ⟨g,0,none⟩) 6 6),(46,.int .i64 (r:Nat))]) (by kernel_rfl) fun u=>M01 u w1 g r (lies_but hl HB.out hgR) hr (hA2.draw HB.out HD.out)⟩
 have N14:∀ (u:Nat→Value) (W:World) (r:Nat) (hr:r < 6) (hA2:AcT R w W B v b (q+1) kind data cuts after moves ca cc zs),wpS Try.prog la17Ops Q (fun _=>True) (unl 11 [2,5,6,7,8,9,10],frL u 53 (kp_la17 z++[(0,.pointer (some ⟨R,0,none⟩)),(7,.pointer (some ⟨B,0,none⟩)),(43,.slice ca zs.length cc),(46,.int .i64 (r:Nat))])) [] W:=by
  intro u W r hr hA2
  have hRl:=hA2.hR;have hsz:=hA2.but.size
  refine T_one 2 (by kernel_rfl) fun _=>?_
  exact O_val (w':=W.alloc (.cells #[.int .i64 0,.int .i64 1,.int .i64 4,.int .i64 7,.int .i64 30,.int .i64 9999] 3)) (some 44) (.slice (some ⟨W.heap.size,0,none⟩) 6 6) (by kernel_rfl) (by kernel_rfl) trivial (T_fr 11 53 [5,6,7,8,9,10] (kp_la17 z++[(0,.pointer (some ⟨R,0,none⟩)),(7,.pointer (some ⟨B,0,none⟩)),(43,.slice ca zs.length cc),(44,.slice (some ⟨W.heap.size,0,none⟩) 6 6),(46,.int .i64 (r:Nat))]) (by kernel_rfl) fun u=>M01 u _ _ r (lies_alloc W [.int .i64 0,.int .i64 1,.int .i64 4,.int .i64 7,.int .i64 30,.int .i64 9999] 3) hr (hA2.on ((Below.refl _ _).alloc (Nat.le_refl _) (.cells #[.int .i64 0,.int .i64 1,.int .i64 4,.int .i64 7,.int .i64 30,.int .i64 9999] 3))))
 have N1:∀ (u:Nat→Value) (W:World) (hA2:AcT R w W B v b q kind data cuts after moves ca cc zs),wpS Try.prog la17Ops Q (fun _=>True) (unl 11 [2,4,5,6,7,8,9,10],frL u 53 (kp_la17 z++[(0,.pointer (some ⟨R,0,none⟩)),(7,.pointer (some ⟨B,0,none⟩)),(43,.slice ca zs.length cc),(45,.pointer (some ⟨R,0,none⟩))])) [] W:=by
  intro u W hA2
  have hRl:=hA2.hR;have hsz:=hA2.but.size
  refine T_all [2,4] (by kernel_rfl) (by decide) (fun i hi _=>?_)
  simp only [List.mem_cons,List.not_mem_nil,or_false] at hi
  rcases hi with rfl | rfl
  · exact O_val (w':=W.alloc (.cells #[.int .i64 0,.int .i64 1,.int .i64 4,.int .i64 7,.int .i64 30,.int .i64 9999] 3)) (some 44) (.slice (some ⟨W.heap.size,0,none⟩) 6 6) (by kernel_rfl) (by kernel_rfl) trivial (T_fr 11 53 [4,5,6,7,8,9,10] (kp_la17 z++[(0,.pointer (some ⟨R,0,none⟩)),(7,.pointer (some ⟨B,0,none⟩)),(43,.slice ca zs.length cc),(44,.slice (some ⟨W.heap.size,0,none⟩) 6 6),(45,.pointer (some ⟨R,0,none⟩))]) (by kernel_rfl) fun u=>N12 u _ _ (lies_alloc W [.int .i64 0,.int .i64 1,.int .i64 4,.int .i64 7,.int .i64 30,.int .i64 9999] 3) (by omega) (hA2.on ((Below.refl _ _).alloc (Nat.le_refl _) (.cells #[.int .i64 0,.int .i64 1,.int .i64 4,.int .i64 7,.int .i64 30,.int .i64 9999] 3))))
  · refine O_go (HPK W hA2.dr) (by kernel_rfl) ?_
    rintro e w1 ⟨r,rfl,hr,HD,HB⟩
    exact ⟨_,rfl,trivial,T_fr 11 53 [2,5,6,7,8,9,10] (kp_la17 z++[(0,.pointer (some ⟨R,0,none⟩)),(7,.pointer (some ⟨B,0,none⟩)),(43,.slice ca zs.length cc),(46,.int .i64 (r:Nat))]) (by kernel_rfl) fun u=>N14 u w1 r hr (hA2.draw HB.out HD.out)⟩
 have N2:∀ (u:Nat→Value) (W:World) (g:Nat) (hl:Lies W g [.int .i64 0,.int .i64 1,.int .i64 4,.int .i64 7,.int .i64 30,.int .i64 9999]) (hgR:g≠R) (hA2:AcT R w W B v b q kind data cuts after moves ca cc zs),wpS Try.prog la17Ops Q (fun _=>True) (unl 11 [1,4,5,6,7,8,9,10],frL u 53 (kp_la17 z++[(0,.pointer (some ⟨R,0,none⟩)),(7,.pointer (some ⟨B,0,none⟩)),(42,.pointer (some ⟨B,5,none⟩)),(44,.slice (some ⟨g,0,none⟩) 6 6),(45,.pointer (some ⟨R,0,none⟩))])) [] W:=by
  intro u W g hl hgR hA2
  have hRl:=hA2.hR;have hsz:=hA2.but.size
  refine T_all [1,4] (by kernel_rfl) (by decide) (fun i hi _=>?_)
  simp only [List.mem_cons,List.not_mem_nil,or_false] at hi
  rcases hi with rfl | rfl
  · exact O_val (w':=W) (some 43) (.slice ca zs.length cc) (by kernel_rfl) (ldOpR (X:=.tmp 42) (T:=39) (ad:=⟨B,5,none⟩) (by kernel_rfl) (by kernel_rfl) (ldZs _ _ _ hA2.kc)) trivial (T_fr 11 53 [4,5,6,7,8,9,10] (kp_la17 z++[(0,.pointer (some ⟨R,0,none⟩)),(7,.pointer (some ⟨B,0,none⟩)),(43,.slice ca zs.length cc),(44,.slice (some ⟨g,0,none⟩) 6 6),(45,.pointer (some ⟨R,0,none⟩))]) (by kernel_rfl) fun u=>N12 u W g hl hgR hA2)
  · refine O_go (HPK W hA2.dr) (by kernel_rfl) ?_
    rintro e w1 ⟨r,rfl,hr,HD,HB⟩
    exact ⟨_,rfl,trivial,T_fr 11 53 [1,5,6,7,8,9,10] (kp_la17 z++[(0,.pointer (some ⟨R,0,none⟩)),(7,.pointer (some ⟨B,0,none⟩)),(42,.pointer (some ⟨B,5,none⟩)),(44,.slice (some ⟨g,0,none⟩) 6 6),(46,.int .i64 (r:Nat))]) (by kernel_rfl) fun u=>M00 u w1 g r (lies_but hl HB.out hgR) hr (hA2.draw HB.out HD.out)⟩
 have N4:∀ (u:Nat→Value) (W:World) (r:Nat) (hr:r < 6) (hA2:AcT R w W B v b (q+1) kind data cuts after moves ca cc zs),wpS Try.prog la17Ops Q (fun _=>True) (unl 11 [1,2,5,6,7,8,9,10],frL u 53 (kp_la17 z++[(0,.pointer (some ⟨R,0,none⟩)),(7,.pointer (some ⟨B,0,none⟩)),(42,.pointer (some ⟨B,5,none⟩)),(46,.int .i64 (r:Nat))])) [] W:=by
  intro u W r hr hA2
  have hRl:=hA2.hR;have hsz:=hA2.but.size
  refine T_all [1,2] (by kernel_rfl) (by decide) (fun i hi _=>?_)
  simp only [List.mem_cons,List.not_mem_nil,or_false] at hi
  rcases hi with rfl | rfl
  · exact O_val (w':=W) (some 43) (.slice ca zs.length cc) (by kernel_rfl) (ldOpR (X:=.tmp 42) (T:=39) (ad:=⟨B,5,none⟩) (by kernel_rfl) (by kernel_rfl) (ldZs _ _ _ hA2.kc)) trivial (T_fr 11 53 [2,5,6,7,8,9,10] (kp_la17 z++[(0,.pointer (some ⟨R,0,none⟩)),(7,.pointer (some ⟨B,0,none⟩)),(43,.slice ca zs.length cc),(46,.int .i64 (r:Nat))]) (by kernel_rfl) fun u=>N14 u W r hr hA2)
  · exact O_val (w':=W.alloc (.cells #[.int .i64 0,.int .i64 1,.int .i64 4,.int .i64 7,.int .i64 30,.int .i64 9999] 3)) (some 44) (.slice (some ⟨W.heap.size,0,none⟩) 6 6) (by kernel_rfl) (by kernel_rfl) trivial (T_fr 11 53 [1,5,6,7,8,9,10] (kp_la17 z++[(0,.pointer (some ⟨R,0,none⟩)),(7,.pointer (some ⟨B,0,none⟩)),(42,.pointer (some ⟨B,5,none⟩)),(44,.slice (some ⟨W.heap.size,0,none⟩) 6 6),(46,.int .i64 (r:Nat))]) (by kernel_rfl) fun u=>M00 u _ _ r (lies_alloc W [.int .i64 0,.int .i64 1,.int .i64 4,.int .i64 7,.int .i64 30,.int .i64 9999] 3) hr (hA2.on ((Below.refl _ _).alloc (Nat.le_refl _) (.cells #[.int .i64 0,.int .i64 1,.int .i64 4,.int .i64 7,.int .i64 30,.int .i64 9999] 3))))
 have N:∀ (u:Nat→Value) (W:World) (hA2:AcT R w W B v b q kind data cuts after moves ca cc zs),wpS Try.prog la17Ops Q (fun _=>True) (unl 11 [1,2,4,5,6,7,8,9,10],frL u 53 (kp_la17 z++[(0,.pointer (some ⟨R,0,none⟩)),(7,.pointer (some ⟨B,0,none⟩)),(42,.pointer (some ⟨B,5,none⟩)),(45,.pointer (some ⟨R,0,none⟩))])) [] W:=by
  intro u W hA2
  have hRl:=hA2.hR;have hsz:=hA2.but.size
  refine T_all [1,2,4] (by kernel_rfl) (by decide) (fun i hi _=>?_)
  simp only [List.mem_cons,List.not_mem_nil,or_false] at hi
  rcases hi with rfl | rfl | rfl
  · exact O_val (w':=W) (some 43) (.slice ca zs.length cc) (by kernel_rfl) (ldOpR (X:=.tmp 42) (T:=39) (ad:=⟨B,5,none⟩) (by kernel_rfl) (by kernel_rfl) (ldZs _ _ _ hA2.kc)) trivial (T_fr 11 53 [2,4,5,6,7,8,9,10] (kp_la17 z++[(0,.pointer (some ⟨R,0,none⟩)),(7,.pointer (some ⟨B,0,none⟩)),(43,.slice ca zs.length cc),(45,.pointer (some ⟨R,0,none⟩))]) (by kernel_rfl) fun u=>N1 u W hA2)
  · exact O_val (w':=W.alloc (.cells #[.int .i64 0,.int .i64 1,.int .i64 4,.int .i64 7,.int .i64 30,.int .i64 9999] 3)) (some 44) (.slice (some ⟨W.heap.size,0,none⟩) 6 6) (by kernel_rfl) (by kernel_rfl) trivial (T_fr 11 53 [1,4,5,6,7,8,9,10] (kp_la17 z++[(0,.pointer (some ⟨R,0,none⟩)),(7,.pointer (some ⟨B,0,none⟩)),(42,.pointer (some ⟨B,5,none⟩)),(44,.slice (some ⟨W.heap.size,0,none⟩) 6 6),(45,.pointer (some ⟨R,0,none⟩))]) (by kernel_rfl) fun u=>N2 u _ _ (lies_alloc W [.int .i64 0,.int .i64 1,.int .i64 4,.int .i64 7,.int .i64 30,.int .i64 9999] 3) (by omega) (hA2.on ((Below.refl _ _).alloc (Nat.le_refl _) (.cells #[.int .i64 0,.int .i64 1,.int .i64 4,.int .i64 7,.int .i64 30,.int .i64 9999] 3))))
  · refine O_go (HPK W hA2.dr) (by kernel_rfl) ?_
    rintro e w1 ⟨r,rfl,hr,HD,HB⟩
    exact ⟨_,rfl,trivial,T_fr 11 53 [1,2,5,6,7,8,9,10] (kp_la17 z++[(0,.pointer (some ⟨R,0,none⟩)),(7,.pointer (some ⟨B,0,none⟩)),(42,.pointer (some ⟨B,5,none⟩)),(46,.int .i64 (r:Nat))]) (by kernel_rfl) fun u=>N4 u w1 r hr (hA2.draw HB.out HD.out)⟩
 refine T_z hq [0,3] (by kernel_rfl) ?_
 exact T_fr 11 53 [1,2,4,5,6,7,8,9,10] (kp_la17 z++[(0,.pointer (some ⟨R,0,none⟩)),(7,.pointer (some ⟨B,0,none⟩)),(42,.pointer (some ⟨B,5,none⟩)),(45,.pointer (some ⟨R,0,none⟩))]) (by kernel_rfl) fun u=>N u V hA
theorem la17 (R B q:Nat) (w:World) (v:Value) (b:List UInt8) (kind:Int) (data:ByteArray) (cuts:Bool) (after moves:Int) (ca:Option Addr) (cc:Nat) (zs:List Int) (W0:World) {l:List Value} (Q:Exit→Act→World→Prop) (hQ:∀ c a d v w,Q (.panic c) (Act.put a d v) w→Q (.panic c) a w) (hA:AcT R w W0.drew B v b q kind data cuts after moves ca cc zs) (hzl:zs.length≤100) (HPK:∀ W,DR R W v b q→Calls Try.prog 24 #[.pointer (some ⟨R,0,none⟩),.int .i64 6] W fun e w'=>PickEnd R W w' v b q 6 e)
 (hl:lookL (kp_la17 (fun i=>l.getD i undef)++[(0,.pointer (some ⟨R,0,none⟩)),(7,.pointer (some ⟨B,0,none⟩))]) l=(53,((kp_la17 (fun i=>l.getD i undef)++[(0,.pointer (some ⟨R,0,none⟩)),(7,.pointer (some ⟨B,0,none⟩))]):List (Nat × Value)).map (·.2)))
 (hfr:∀ (u:Nat→Value) (_zz:Int) (_ga:Option Addr) (_gc:Nat),frL u 53 (kp_la17 (fun i=>l.getD i undef)++[(0,.pointer (some ⟨R,0,none⟩)),(7,.pointer (some ⟨B,0,none⟩))])=(l.take 42++(u 42::(u 43::(u 44::(u 45::(u 46::(u 47::(u 48::(u 49::(u 50::(u 51::l.drop 52))))))))))))
 (hend:∀ (u:Nat→Value) (zz:Int) (ga:Option Addr) (gc:Nat) (W:World),AcT R w W B v b (q+1) kind data cuts after moves ga gc (zs++[zz])→Q .normal ⟨((l.take 42++(u 42::(u 43::(u 44::(u 45::(u 46::(u 47::(u 48::(u 49::(u 50::(u 51::l.drop 52)))))))))))).toArray,[]⟩ W):(Code.region 17 la17Ops true).wp Try.prog Q ⟨l.toArray,[]⟩ W0 :=
 la17z (fun i=>l.getD i undef) (fun u _zz _ga _gc=>(l.take 42++(u 42::(u 43::(u 44::(u 45::(u 46::(u 47::(u 48::(u 49::(u 50::(u 51::l.drop 52)))))))))))) R B q w v b kind data cuts after moves ca cc zs W0 Q hQ hA hzl HPK hl hfr hend
def AcEnd (R:Nat) (w w':World) (v:Value) (b:List UInt8) (p:Nat) (e:Ending):Prop :=
 ∃ (x:Ar) (p':Nat),e=.returned (.agg #[.int .i64 x.kind,.string x.data,.bool x.cuts,.int .i64 x.after,.int .i64 x.moves,x.vk])∧x.data.size≤2000∧(∃ zs,ZsAt (New w w') w' x.vk zs)∧p'≤p+20∧Hid (DR R w' v b p')∧Hid (But R w w')
theorem AcT.s2 {R:Nat} {w W:World} {B:Nat} {v:Value} {b:List UInt8} {q:Nat} {kind:Int} {data:ByteArray} {cuts:Bool} {after moves:Int} {ca:Option Addr} {cc:Nat} {zs:List Int} (h:AcT R w W B v b q kind data cuts after moves ca cc zs) (y:Bool):AcT R w (W.setCell ⟨B,2,none⟩ (.bool y)) B v b q kind data y after moves ca cc zs:=by
 have hw:=h.hw;have hR:=h.hR
 have hs:∀ a,a≠B→(W.setCell ⟨B,2,none⟩ (.bool y)).heap[a]? = W.heap[a]? := fun a ha=>Below.heap_setCell _ _ _ _ ha
 refine ⟨hw,hR,(h.row.set 2 _).congr (fun i hi=>?_),h.b6.of_block (hs _ (by omega)),ownsRow_keepR h.own (fun g e=>hs g (by have:=(own_ge h.own e).1;omega)),h.is,h.dr.set (by omega) _ _,But.setNew8 h.but (Nat.le_of_lt hw) _⟩
 rcases (show i=0∨i=1∨i=2∨i=3∨i=4∨i=5 by omega) with rfl | rfl | rfl | rfl | rfl | rfl <;> rfl
theorem AcT.s3 {R:Nat} {w W:World} {B:Nat} {v:Value} {b:List UInt8} {q:Nat} {kind:Int} {data:ByteArray} {cuts:Bool} {after moves:Int} {ca:Option Addr} {cc:Nat} {zs:List Int} (h:AcT R w W B v b q kind data cuts after moves ca cc zs) (y:Int):AcT R w (W.setCell ⟨B,3,none⟩ (.int .i64 y)) B v b q kind data cuts y moves ca cc zs:=by
 have hw:=h.hw;have hR:=h.hR
 have hs:∀ a,a≠B→(W.setCell ⟨B,3,none⟩ (.int .i64 y)).heap[a]? = W.heap[a]? := fun a ha=>Below.heap_setCell _ _ _ _ ha
 refine ⟨hw,hR,(h.row.set 3 _).congr (fun i hi=>?_),h.b6.of_block (hs _ (by omega)),ownsRow_keepR h.own (fun g e=>hs g (by have:=(own_ge h.own e).1;omega)),h.is,h.dr.set (by omega) _ _,But.setNew8 h.but (Nat.le_of_lt hw) _⟩
 rcases (show i=0∨i=1∨i=2∨i=3∨i=4∨i=5 by omega) with rfl | rfl | rfl | rfl | rfl | rfl <;> rfl
theorem AcT.s4 {R:Nat} {w W:World} {B:Nat} {v:Value} {b:List UInt8} {q:Nat} {kind:Int} {data:ByteArray} {cuts:Bool} {after moves:Int} {ca:Option Addr} {cc:Nat} {zs:List Int} (h:AcT R w W B v b q kind data cuts after moves ca cc zs) (y:Int):AcT R w (W.setCell ⟨B,4,none⟩ (.int .i64 y)) B v b q kind data cuts after y ca cc zs:=by
 have hw:=h.hw;have hR:=h.hR
 have hs:∀ a,a≠B→(W.setCell ⟨B,4,none⟩ (.int .i64 y)).heap[a]? = W.heap[a]? := fun a ha=>Below.heap_setCell _ _ _ _ ha
 refine ⟨hw,hR,(h.row.set 4 _).congr (fun i hi=>?_),h.b6.of_block (hs _ (by omega)),ownsRow_keepR h.own (fun g e=>hs g (by have:=(own_ge h.own e).1;omega)),h.is,h.dr.set (by omega) _ _,But.setNew8 h.but (Nat.le_of_lt hw) _⟩
 rcases (show i=0∨i=1∨i=2∨i=3∨i=4∨i=5 by omega) with rfl | rfl | rfl | rfl | rfl | rfl <;> rfl
theorem set6 (W:World) (B:Nat) (a0 a1 a2 a3 a4 a5:Value):(∀ g,g≠B→((((((W.setCell ⟨B,0,none⟩ (a0)).setCell ⟨B,1,none⟩ (a1)).setCell ⟨B,2,none⟩ (a2)).setCell ⟨B,3,none⟩ (a3)).setCell ⟨B,4,none⟩ (a4)).setCell ⟨B,5,none⟩ (a5)).heap[g]? = W.heap[g]?)∧((((((W.setCell ⟨B,0,none⟩ (a0)).setCell ⟨B,1,none⟩ (a1)).setCell ⟨B,2,none⟩ (a2)).setCell ⟨B,3,none⟩ (a3)).setCell ⟨B,4,none⟩ (a4)).setCell ⟨B,5,none⟩ (a5)).heap.size=W.heap.size∧(∀ T f,W.rowIs B T 6 f→((((((W.setCell ⟨B,0,none⟩ (a0)).setCell ⟨B,1,none⟩ (a1)).setCell ⟨B,2,none⟩ (a2)).setCell ⟨B,3,none⟩ (a3)).setCell ⟨B,4,none⟩ (a4)).setCell ⟨B,5,none⟩ (a5)).rowIs B T 6 (r6a a0 a1 a2 a3 a4 a5)):=by
 refine ⟨fun g hg=>?_,by simp,fun T f h=>((((((h.set 0 a0).set 1 a1).set 2 a2).set 3 a3).set 4 a4).set 5 a5).congr (fun i hi=>?_)⟩
 · rw [Below.heap_setCell _ _ _ _ hg,Below.heap_setCell _ _ _ _ hg,Below.heap_setCell _ _ _ _ hg,Below.heap_setCell _ _ _ _ hg,Below.heap_setCell _ _ _ _ hg,Below.heap_setCell _ _ _ _ hg]
 · rcases (show i=0∨i=1∨i=2∨i=3∨i=4∨i=5 by omega) with rfl | rfl | rfl | rfl | rfl | rfl <;> rfl
theorem AcT.anew {R:Nat} {w W:World} {B:Nat} {v:Value} {b:List UInt8} {q:Nat} {kind:Int} {data:ByteArray} {cuts:Bool} {after moves:Int} {ca:Option Addr} {cc:Nat} {zs:List Int} (h:AcT R w W B v b q kind data cuts after moves ca cc zs) (k2:Int):AcT R w ((((((W.setCell ⟨B,0,none⟩ (.int .i64 k2)).setCell ⟨B,1,none⟩ (.string ⟨#[]⟩)).setCell ⟨B,2,none⟩ (.bool false)).setCell ⟨B,3,none⟩ (.int .i64 0)).setCell ⟨B,4,none⟩ (.int .i64 0)).setCell ⟨B,5,none⟩ (.slice none 0 0)) B v b q k2 ⟨#[]⟩ false 0 0 none 0 []:=by
 obtain ⟨s1,s2,s3⟩:=set6 W B (.int .i64 k2) (.string ⟨#[]⟩) (.bool false) (.int .i64 0) (.int .i64 0) (.slice none 0 0)
 have hw:=h.hw;have hR:=h.hR
 exact ⟨hw,hR,s3 _ _ h.row,h.b6.of_block (s1 _ (by omega)),World.ownsRow_nil _ _ _ _,fun z hz=>(by cases hz),(((((h.dr.set (by omega) _ _).set (by omega) _ _).set (by omega) _ _).set (by omega) _ _).set (by omega) _ _).set (by omega) _ _,But.setNew8 (But.setNew8 (But.setNew8 (But.setNew8 (But.setNew8 (But.setNew8 h.but (Nat.le_of_lt hw) _) (Nat.le_of_lt hw) _) (Nat.le_of_lt hw) _) (Nat.le_of_lt hw) _) (Nat.le_of_lt hw) _) (Nat.le_of_lt hw) _⟩
theorem AcT.done {R:Nat} {w W:World} {B:Nat} {v:Value} {b:List UInt8} {q:Nat} {kind:Int} {data:ByteArray} {cuts:Bool} {after moves:Int} {ca:Option Addr} {cc:Nat} {zs:List Int} (h:AcT R w W B v b q kind data cuts after moves ca cc zs) {p:Nat} (hd:data.size≤2000) (hq:q≤p+20):AcEnd R w ((((((W.setCell ⟨w.heap.size,0,none⟩ (.int .i64 kind)).setCell ⟨w.heap.size,1,none⟩ (.string data)).setCell ⟨w.heap.size,2,none⟩ (.bool cuts)).setCell ⟨w.heap.size,3,none⟩ (.int .i64 after)).setCell ⟨w.heap.size,4,none⟩ (.int .i64 moves)).setCell ⟨w.heap.size,5,none⟩ (.slice ca zs.length cc)) v b p (.returned (.agg #[.int .i64 kind,.string data,.bool cuts,.int .i64 after,.int .i64 moves,.slice ca zs.length cc])):=by
 obtain ⟨s1,s2,-⟩:=set6 W w.heap.size (.int .i64 kind) (.string data) (.bool cuts) (.int .i64 after) (.int .i64 moves) (.slice ca zs.length cc)
 have hw:=h.hw;have hR:=h.hR
 have hle:w.heap.size≤w.heap.size:=Nat.le_refl _
 exact ⟨⟨kind,data,cuts,after,moves,.slice ca zs.length cc⟩,q,rfl,hd,⟨zs,(zs_own h.own h.is).carry (fun g hg=>s1 g (by omega)) (fun g hg=>⟨by omega,by rw [s2];exact hg.2⟩)⟩,hq,xH ((((((h.dr.set hR _ _).set hR _ _).set hR _ _).set hR _ _).set hR _ _).set hR _ _),xH (But.setNew8 (But.setNew8 (But.setNew8 (But.setNew8 (But.setNew8 (But.setNew8 h.but hle _) hle _) hle _) hle _) hle _) hle _)⟩

section
variable {P:Program} {ops:Array Oper} {Q:Exit→Act→World→Prop} {S:World→Prop}
def lastB (ops:Array Oper):Bool :=
 decide (0 < ops.size) && (ops.toList.zipIdx.all fun p=>p.1.guard.isNone && p.1.after.all fun e=>!Region.binds .any e || decide (e.on < p.2)) &&
 ((List.range (ops.size - 1)).all fun i=>ops.toList.zipIdx.any fun p=>decide (i < p.2) && p.1.after.any fun e=>Region.binds .any e && e.on==i)
structure LastOk (ops:Array Oper):Prop where
 pos:0 < ops.size
 grd:∀ (i:Nat) (o:Oper),ops[i]? = some o→o.guard.isNone=true
 dn:∀ (i:Nat) (o:Oper),ops[i]? = some o→∀ e∈o.after,Region.binds .any e=true→e.on < i
 up:∀ i,i+1 < ops.size→∃ (j:Nat) (o:Oper),i < j∧ops[j]? = some o∧∃ e∈o.after,Region.binds .any e=true∧e.on=i
theorem mem_zip8 {i:Nat} {o:Oper} (h:ops[i]? = some o):(o,i)∈ops.toList.zipIdx:=by
 rw [List.mem_zipIdx_iff_getElem?]
 simpa using h
theorem lastOk_of (h:lastB ops=true):LastOk ops:=by
 unfold lastB at h
 simp only [Bool.and_eq_true,decide_eq_true_eq,List.all_eq_true] at h
 obtain ⟨⟨h1,h2⟩,h3⟩:=h
 refine ⟨h1,fun i o ho=>(h2 _ (mem_zip8 ho)).1,fun i o ho e he hb=>?_,fun i hi=>?_⟩
 · have:=(h2 _ (mem_zip8 ho)).2
   simp only [Array.all_eq_true_iff_forall_mem,Bool.or_eq_true,Bool.not_eq_true',decide_eq_true_eq] at this
   rcases this e he with h | h
   · rw [hb] at h;cases h
   · exact h
 · have:=h3 i (List.mem_range.2 (by omega))
   simp only [List.any_eq_true,Bool.and_eq_true,decide_eq_true_eq,Array.any_eq_true',beq_iff_eq] at this
   obtain ⟨⟨o,j⟩,hm,hij,e,he,hb,hon⟩:=this
   rw [List.mem_zipIdx_iff_getElem?] at hm
   exact ⟨j,o,hij,by simpa using hm,e,he,hb,hon⟩
def Cl (ops:Array Oper) (listed:Array Bool):Prop:=∀ (j:Nat) (o:Oper),ops[j]? = some o→listed.getD j false=true→∀ e∈o.after,Region.binds .any e=true→listed.getD e.on false=true
theorem cl_all (h:LastOk ops) {listed:Array Bool} (hc:Cl ops listed) (hn:∀ o,ops[ops.size - 1]? = some o→∀ e∈o.after,Region.binds .any e=true→listed.getD e.on false=true):∀ i,i+1 < ops.size→listed.getD i false=true:=by
 intro i hi
 induction hk:ops.size - i using Nat.strongRecOn generalizing i with
 | _ k ih =>
   obtain ⟨j,o,hij,hj,e,he,hb,hon⟩:=h.up i hi
   have hjs:j < ops.size:=(Array.getElem?_eq_some_iff.1 hj).1
   rw [← hon]
   by_cases hjl:j+1 < ops.size
   · exact hc j o hj (ih (ops.size - j) (by omega) j hjl rfl) e he hb
   · have:j=ops.size - 1:=by omega
     subst this
     exact hn o hj e he hb
theorem getD_size {listed:Array Bool} {i:Nat} (hi:i < listed.size) (a b:Bool):listed.getD i a=listed.getD i b:=by
 simp [Array.getD,hi]
theorem ready_ne (h:LastOk ops) {listed:Array Bool} (hs:listed.size=ops.size) (hl:listed.getD (ops.size - 1) true=false):Region.ready .any ops listed≠[]:=by
 intro hr
 have hall:∀ i,i < ops.size→listed.getD i false=true:=by
  intro i
  induction i using Nat.strongRecOn with
  | _ i ih =>
    intro hi
    cases hg:listed.getD i false with
    | true=>rfl
    | false =>
      have:i∈Region.ready .any ops listed:=mem_ready.2 ⟨by rw [getD_size (by omega) true false];exact hg,ops[i],Array.getElem?_eq_getElem hi,fun e he hb=>by
       have:=h.dn i ops[i] (Array.getElem?_eq_getElem hi) e he hb
       exact ih e.on this (by omega)⟩
      rw [hr] at this
      cases this
 have hp:=h.pos
 have:=hall (ops.size - 1) (by omega)
 rw [getD_size (by omega) false true,hl] at this
 cases this
theorem getD_pop {listed:Array Bool} {i:Nat} (hi:i+1 < listed.size) (b:Bool):listed.pop.getD i b=listed.getD i b:=by
 have h1:i < listed.size:=by omega
 have h2:i < listed.size - 1:=by omega
 simp [Array.getD,h1,h2]
theorem ops_pop {i:Nat} (hi:i+1 < ops.size):ops.pop[i]? = ops[i]? := by
 rw [Array.getElem?_pop]
 rw [if_pos (by omega)]
theorem mem_pop (h:LastOk ops) {listed:Array Bool} {i:Nat} (hs:listed.size=ops.size) (hm:i∈Region.ready .any ops listed) (hn:i≠ops.size - 1):i∈Region.ready .any ops.pop listed.pop:=by
 obtain ⟨h0,o,ho,hall⟩:=mem_ready.1 hm
 have hi:i < ops.size:=(Array.getElem?_eq_some_iff.1 ho).1
 refine mem_ready.2 ⟨by rw [getD_pop (by omega)];exact h0,o,by rw [ops_pop (by omega)];exact ho,fun e he hb=>?_⟩
 have:=h.dn i o ho e he hb
 rw [getD_pop (by omega)]
 exact hall e he hb
theorem pop_done {listed:Array Bool} (hs:listed.size=ops.size) (ha:∀ i,i+1 < ops.size→listed.getD i false=true):Region.ready .any ops.pop listed.pop=[]:=by
 rw [List.eq_nil_iff_forall_not_mem]
 intro j hj
 obtain ⟨h0,o,ho,-⟩:=mem_ready.1 hj
 have hj2:j < ops.pop.size:=(Array.getElem?_eq_some_iff.1 ho).1
 rw [Array.size_pop] at hj2
 rw [getD_pop (by omega),getD_size (by omega) true false,ha j (by omega)] at h0
 cases h0
theorem all_done (h:LastOk ops) {listed:Array Bool} (hs:listed.size=ops.size) (ha:∀ i,i+1 < ops.size→listed.getD i false=true):Region.ready .any ops (listed.setIfInBounds (ops.size - 1) true)=[]:=by
 rw [List.eq_nil_iff_forall_not_mem]
 intro j hj
 obtain ⟨h0,o,ho,-⟩:=mem_ready.1 hj
 have hj2:j < ops.size:=(Array.getElem?_eq_some_iff.1 ho).1
 have hp:=h.pos
 by_cases hjn:ops.size - 1=j
 · subst hjn
   rw [getD_size (by simp;omega) true false] at h0
   have:(listed.setIfInBounds (ops.size - 1) true).getD (ops.size - 1) false=true:=by
    have h1:ops.size - 1 < listed.size:=by omega
    simp [h1]
   rw [this] at h0
   cases h0
 · rw [getD_set_ne true hjn,getD_size (by omega) true false,ha j (by omega)] at h0
   cases h0
theorem wp_nrm2 {o:Oper} {a:Act} {w:World} {K K2:Act→World→Prop} (h:o.wp P a w K (Nrm K2 Q)):o.wp P a w K Q:=by
 unfold Oper.wp at *
 generalize (execOp a.eval o).run P w=r at *
 cases r with
 | ok n w' =>
   cases n with
   | enter f args =>
     refine Calls.mono h fun e w'' he=>?_
     cases e <;> exact he
   | _=>exact h
 | halt x w'=>cases x <;> exact h
theorem wpOp_pop (h:LastOk ops) {i:Nat} (hi:i+1 < ops.size) {a:Act} {w:World} {K K2 K3:Act→World→Prop} (hK:∀ a w,K a w→K3 a w) (hh:wpOp P ops.pop (Nrm K2 Q) i K a w):wpOp P ops Q i K3 a w:=by
 refine wpOp_mono hK ?_
 have hg:=h.grd i ops[i] (Array.getElem?_eq_getElem (by omega))
 unfold wpOp at *
 rw [ops_pop hi] at hh
 rw [Array.getElem?_eq_getElem (by omega)] at hh ⊢
 simp only [wanted_none _ hg,if_true] at hh ⊢
 rcases hh with hh | hh
 · exact Or.inl (wp_nrm2 hh)
 · exact Or.inr ⟨hh.1,hh.2⟩
def QL (P:Program) (ops:Array Oper) (Q:Exit→Act→World→Prop):Exit→Act→World→Prop:=Nrm (fun a w=>wpOp P ops Q (ops.size - 1) (fun a' w'=>Q .normal a' w') a w) Q
theorem pop_set {listed:Array Bool} {i:Nat} (hi:i+1 < listed.size):(listed.setIfInBounds i true).pop=listed.pop.setIfInBounds i true:=by
 apply Array.ext_getElem?
 intro j
 rw [Array.getElem?_pop,Array.getElem?_setIfInBounds,Array.getElem?_setIfInBounds,Array.getElem?_pop]
 by_cases h1:i=j
 · subst h1
   have h2:i < listed.size:=by omega
   have h3:i < listed.size - 1:=by omega
   simp [h2,h3]
 · simp [h1]
theorem any_last (hk:LastOk ops):∀ (fuel:Nat) (listed:Array Bool) (a:Act) (w:World),listed.size=ops.size→listed.getD (ops.size - 1) true=false→Cl ops listed→wpAny P .any ops.pop (QL P ops Q) fuel listed.pop a w→wpAny P .any ops Q (fuel+1) listed a w:=by
 have hp:=hk.pos
 intro fuel
 induction fuel with
 | zero =>
   intro listed a w hsz hl hc H
   refine ⟨fun h=>absurd h (ready_ne hk hsz hl),fun i hi=>?_⟩
   by_cases hin:i=ops.size - 1
   · subst hin
     have ha:=cl_all hk hc (fun o ho e he hb=>by
      obtain ⟨-,o2,ho2,h2⟩:=mem_ready.1 hi
      rw [ho2] at ho
      cases ho
      exact h2 e he hb)
     exact wpOp_mono (fun a' w' h=>⟨all_done hk hsz ha,h⟩) H.2
   · have:=mem_pop hk hsz hi hin
     rw [H.1] at this
     cases this
 | succ fuel ih =>
   intro listed a w hsz hl hc H
   refine ⟨fun h=>absurd h (ready_ne hk hsz hl),fun i hi=>?_⟩
   by_cases hin:i=ops.size - 1
   · subst hin
     have ha:=cl_all hk hc (fun o ho e he hb=>by
      obtain ⟨-,o2,ho2,h2⟩:=mem_ready.1 hi
      rw [ho2] at ho
      cases ho
      exact h2 e he hb)
     exact wpOp_mono (fun a' w' h=>⟨fun _=>h,fun j hj=>by rw [all_done hk hsz ha] at hj;cases hj⟩) (H.1 (pop_done hsz ha))
   · obtain ⟨-,o,ho,hw⟩:=mem_ready.1 hi
     have hio:i < ops.size:=(Array.getElem?_eq_some_iff.1 ho).1
     refine wpOp_pop hk (by omega) (fun a' w' h=>ih (listed.setIfInBounds i true) a' w' (by simpa using hsz) (by rw [getD_set_ne true hin];exact hl) ?_ (by rw [pop_set (by omega)];exact h)) (H.2 i (mem_pop hk hsz hi hin))
     intro j oj hj hlj e he hb
     by_cases hij:i=j
     · subst hij
       rw [ho] at hj
       cases hj
       exact getD_set_true (hw e he hb)
     · rw [getD_set_ne false hij] at hlj
       exact getD_set_true (hc j oj hj hlj e he hb)
theorem T_start_last {l:List Value} {ds:List Deferred} {id:Nat} {w:World} (hm:P.follows .mixedOrders=true) (hk:lastB ops=true) (hS:S w.drew) (h:wpS P ops.pop (QL P ops Q) S (List.replicate ops.pop.size false,l) ds w.drew):(Code.region id ops true).wp P Q ⟨l.toArray,ds⟩ w:=by
 have hk:=lastOk_of hk
 have hp:=hk.pos
 refine wp_region_any hm ?_
 have h1:=h.out.out hS ops.pop.size (Nat.le_trans (List.countP_le_length ..) (by simp))
 have h2:=wpAny_of_held _ _ _ _ h1
 have e:(List.replicate ops.pop.size false).toArray=(Array.replicate ops.size false).pop:=by
  apply Array.ext_getElem?
  intro i
  simp [Array.getElem?_replicate]
 simp only at h2
 rw [e] at h2
 have h3:=any_last (Q:=Q) hk ops.pop.size (Array.replicate ops.size false) ⟨l.toArray,ds⟩ w.drew (by simp) (by
  have:ops.size - 1 < ops.size:=by omega
  simp [this]) (fun j o _ hj=>by
  exfalso
  simp only [Array.getD] at hj
  split at hj
  · simp at hj
  · cases hj) h2
 have e2:ops.pop.size+1=ops.size:=by rw [Array.size_pop];omega
 rw [e2] at h3
 exact h3
theorem nq_last (hs:Region.noSelect ops.pop=true∧neat ops.pop=true) (hQ:∀ c a d v w,Q (.panic c) (Act.put a d v) w→Q (.panic c) a w):NtQ ops.pop (QL P ops Q):=⟨hs,hQ⟩
theorem last_store {l:List Value} {ds:List Deferred} {w:World} (ty:TypeId) (x y:Operand) (ad:Addr) (v:Value) (w':World) (hb:opB ops (ops.size - 1) none=true) (ho:(opI ops (ops.size - 1)).op=.store ty x y) (hxy:((⟨l.toArray,ds⟩:Act).eval x,(⟨l.toArray,ds⟩:Act).eval y)=(.pointer (some ad),v)) (hr:(Instr.storeAt ty (.pointer (some ad)) v).run P w=.ok () w') (H:Q .normal ⟨l.toArray,ds⟩ w'):QL P ops Q .normal ⟨l.toArray,ds⟩ w:=by
 obtain ⟨hx,hy⟩:=Prod.mk.inj hxy
 exact op_store none ty x y ad v w' hb ho hx hy hr H
end
end Go.Proofs.Yteikmbkljkkjiaa
