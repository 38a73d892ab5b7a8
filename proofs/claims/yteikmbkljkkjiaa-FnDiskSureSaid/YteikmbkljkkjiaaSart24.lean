/- A part. -/
import Derived.Test.YteikmbkljkkjiaaSart23
import Derived.Test.YteikmbkljkkjiaaSart21
set_option maxRecDepth 100000
set_option maxHeartbeats 1600000
namespace Go.Proofs.Yteikmbkljkkjiaa
open Go Go.RowKit Go.WideMaps Go.Maps
theorem lkRun0 {o:Oper} {a:Act} {X I:Operand} {B:Nat} {ns:List ByteArray} {x:ByteArray} {c:Int} {W:World} (ho:o.op=.lookup 82 X I false) (hX:a.eval X=.map (some B)) (hI:a.eval I=.string x) (hm:NMap W B ns) (hx:x.size≤9223372036854775807) (hc:(nmap ns ns.length).atKey (nkey x) (.lit (.int .i64 0))=.lit (.int .i64 c)):(execOp a.eval o).run Try.prog W=.ok (.value (.int .i64 c)) W:=by
 have hkey:keyOf Try.prog 9 (.string x)=some (nkey x):=keyOf_string_mk Try.underlying9 (by unfold maxLen;omega)
 obtain ⟨c',h1,h2,-⟩:=World.ownsMap.lookup_int hm keyLaw Try.underlying82 Try.underlying3 (zeroInt _) hkey
 rw [hc] at h2
 have e:c'=c:=by simpa using h2.symm
 subst e
 unfold execOp
 simp only [ho,hX,hI,Sem.run_bind,Sem.run_pure,Result.andThen_ok,h1]
theorem NMap.drewX {W:World} {B:Nat} {ns:List ByteArray} (h:NMap W B ns):NMap W.drew B ns:=World.ownsMap.drew h
noncomputable def wr1Ops:Array Oper:=fops Try.f37 1
theorem wr1_neat:Region.noSelect wr1Ops=true∧neat wr1Ops=true:=⟨by kernel_rfl,by kernel_rfl⟩
theorem wr1 (w:World) (L T B:Nat) (x:ByteArray) (ns:List ByteArray) (c:Int) (hx:x.size≤9223372036854775807) (hc:(nmap ns ns.length).atKey (nkey x) (.lit (.int .i64 0))=.lit (.int .i64 c)) (W0:World) {l:List Value} (Q:Exit→Act→World→Prop) (hQ:∀ c a d v w,Q (.panic c) (Act.put a d v) w→Q (.panic c) a w) (v0:W0.cell? ⟨w.heap.size,0,none⟩=some (.pointer (some ⟨T,0,none⟩))) (t1:W0.cell? ⟨T,1,none⟩=some (.map (some B))) (m1:W0.cell? ⟨w.heap.size+1,1,none⟩=some (.string x)) (hm:NMap W0 B ns) (hl:lookL [(1,.pointer (some ⟨L,0,none⟩)),(3,.pointer (some ⟨w.heap.size,0,none⟩)),(5,.pointer (some ⟨w.heap.size+1,0,none⟩))] l=(99,[.pointer (some ⟨L,0,none⟩),.pointer (some ⟨w.heap.size,0,none⟩),.pointer (some ⟨w.heap.size+1,0,none⟩)]))
 (hend:∀ v,Q .normal ⟨(frL v 99 [(1,.pointer (some ⟨L,0,none⟩)),(3,.pointer (some ⟨w.heap.size,0,none⟩)),(5,.pointer (some ⟨w.heap.size+1,0,none⟩)),(6,.int .i64 c)]).toArray,[]⟩ W0.drew):(Code.region 1 wr1Ops true).wp Try.prog Q ⟨l.toArray,[]⟩ W0:=by
 obtain ⟨v,rfl⟩:=look_fr hl
 have hq:NtQ wr1Ops Q:=⟨wr1_neat,hQ⟩
 refine T_start (S:=fun W=>W.cell? ⟨w.heap.size,0,none⟩=some (.pointer (some ⟨T,0,none⟩))∧W.cell? ⟨T,1,none⟩=some (.map (some B))∧W.cell? ⟨w.heap.size+1,1,none⟩=some (.string x)∧NMap W B ns) (by kernel_rfl) ⟨v0,t1,m1,hm.drewX⟩ ?_
 clear hl hQ v0 t1 m1 hm
 generalize W0.drew=W at hend ⊢
 refine T_a hq (List.range 7) (fun w h=>.cons (ldTp _ _ _ h.1) (.cons (ldMp _ _ _ h.2.1) (.cons (ldStr _ _ _ h.2.2.1) Lds.nil))) (by kernel_rfl) ?_
 refine T_yld hq 7 (some 14) (.int .i64 c) (by kernel_rfl) (by kernel_rfl) (fun w h=>lkRun0 (B:=B) (X:=.tmp 11) (I:=.tmp 13) (by kernel_rfl) (by kernel_rfl) (by kernel_rfl) h.2.2.2 hx hc) ?_
 exact T_z hq (List.range 9) (by kernel_rfl) (T_end 99 [(1,.pointer (some ⟨L,0,none⟩)),(3,.pointer (some ⟨w.heap.size,0,none⟩)),(5,.pointer (some ⟨w.heap.size+1,0,none⟩)),(6,.int .i64 c)] (by kernel_rfl) (by kernel_rfl) fun _ v=>hend v)
theorem ownFile {base g cap:Nat} {W:World} {fs:List Df} (h:W.ownsRow base 44 3 (.slice (some ⟨g,0,none⟩) fs.length cap) fs.length (fs.map Df.cs).flatten) (i:Nat) (hi:i < fs.length):W.cell? ⟨g,i * 3,none⟩=some (.string fs[i].name)∧W.cell? ⟨g,i * 3+1,none⟩=some (.string fs[i].data)∧W.cell? ⟨g,i * 3+2,none⟩=some (.int .i64 fs[i].kept):=by
 have key:∀ j,j < 3→W.cell? ⟨g,i * 3+j,none⟩=some (fs[i].cs.getD j undef):=fun j hj=>by
  rw [h.cellAt (i * 3+j) (by omega),flat_get (n:=3) (fs.map Df.cs) (fun r hr=>by obtain ⟨f,-,rfl⟩:=List.mem_map.1 hr;rfl) i (by rw [List.length_map];exact hi) j hj,List.getElem_map]
 exact ⟨key 0 (by omega),key 1 (by omega),key 2 (by omega)⟩
theorem MxSt.dataF {base L g cap:Nat} {W:World} {x1 x2:Value} {fs:List Df} {ns:List ByteArray} {ms:List Dm} (h:MxSt base L W (.slice (some ⟨g,0,none⟩) fs.length cap) x1 x2 fs ns ms) (i:Nat) (hi:i < fs.length):W.cell? ⟨g,i * 3+1,none⟩=some (.string fs[i].data):=(ownFile h.o0 i hi).2.1
theorem Wb.put {w:World} {k:Int} {x y:ByteArray} {b0 base L:Nat} {o:C3} {d d2:Dk} {W:World} {g j:Nat} {v:Value} (h:Wb w k x y b0 base L o d W) (hg:base≤g) (hne:w.heap.size+1≠g) (hgt:∃ cs t fz,W.heap[g]? = some (Obj.cells cs t fz)∧(t=44∨t=60)) (hm:MxSt base L (W.setCell ⟨g,j,none⟩ v) o.c0 o.c1 o.c2 d2.files d2.names d2.moves):Wb w k x y b0 base L o d2 (W.setCell ⟨g,j,none⟩ v) :=
 have hbb:=h.hb
 ⟨h.b1.of_block (Below.heap_setCell _ _ _ _ (by simpa using hne)),hm,h.bel.setCell (by simp;omega) _,h.hb,h.hL,by
  obtain ⟨cs,t,fz,h5,h6⟩:=hgt
  exact h.ty.trans (TyK.set h5 (h6.elim Or.inl fun h=>Or.inr (Or.inl h)))⟩
noncomputable def wr7Ops:Array Oper:=fops Try.f37 7
theorem wr7_neat:Region.noSelect wr7Ops=true∧neat wr7Ops=true:=⟨by kernel_rfl,by kernel_rfl⟩
theorem wr7 (w:World) (k:Int) (x y:ByteArray) (b0 base L:Nat) (o:C3) (d:Dk) (hy:y.size≤1048576) (i:Nat) (hi:i < d.files.length) (g s0:Nat) (hO:o.c0=.slice (some ⟨g,0,none⟩) d.files.length s0) (hs:¬ (9223372036854775807 < d.files[i].data.size+y.size)) (W0:World) {l:List Value} (Q:Exit→Act→World→Prop) (hQ:∀ c a d v w,Q (.panic c) (Act.put a d v) w→Q (.panic c) a w) (h:Wb w k x y b0 base L o d W0.drew) (hl:lookL [(1,.pointer (some ⟨L,0,none⟩)),(5,.pointer (some ⟨w.heap.size+1,0,none⟩)),(6,.int .i64 (i:Nat))] l=(99,[.pointer (some ⟨L,0,none⟩),.pointer (some ⟨w.heap.size+1,0,none⟩),.int .i64 (i:Nat)]))
 (hend:∀ v W',Wb w k x y b0 base L o ⟨d.files.set i ⟨d.files[i].name,d.files[i].data++y,d.files[i].kept⟩,d.names,d.moves⟩ W'→Q .normal ⟨(frL v 99 [(1,.pointer (some ⟨L,0,none⟩))]).toArray,[]⟩ W'):(Code.region 7 wr7Ops true).wp Try.prog Q ⟨l.toArray,[]⟩ W0:=by
 obtain ⟨v,rfl⟩:=look_fr hl
 have hq:NtQ wr7Ops Q:=⟨wr7_neat,hQ⟩
 have hc0:∀ {W d'},Wb w k x y b0 base L o d' W→W.cell? ⟨w.heap.size+1,2,none⟩=some (.string y)∧W.cell? ⟨L,0,none⟩=some (.slice (some ⟨g,0,none⟩) d.files.length s0):=fun h=>⟨h.m2,by have:=h.mx.row.cell (i:=0) (by omega);rw [← hO];exact this⟩
 have hmm:∀ {W},Wb w k x y b0 base L o d W→MxSt base L W (.slice (some ⟨g,0,none⟩) d.files.length s0) o.c1 o.c2 d.files d.names d.moves:=fun h=>by rw [← hO];exact h.mx
 clear hl hQ
 have Q1:∀ v W,Wb w k x y b0 base L o d W→wpS Try.prog wr7Ops Q (fun W=>W.cell? ⟨w.heap.size+1,2,none⟩=some (.string y)∧W.cell? ⟨L,0,none⟩=some (.slice (some ⟨g,0,none⟩) d.files.length s0)) (unl 15 [11,12,13,14],frL v 99 [(1,.pointer (some ⟨L,0,none⟩)),(5,.pointer (some ⟨w.heap.size+1,0,none⟩)),(6,.int .i64 (i:Nat)),(50,.slice (some ⟨g,0,none⟩) d.files.length s0),(51,.int .i64 (i:Nat)),(53,.pointer (some ⟨g,i * 3+1,none⟩)),(54,.string d.files[i].data),(56,.string y),(57,.string y)]) [] W:=fun v W h=>by
  refine T_yld hq 11 (some 58) (.string (d.files[i].data++y)) (by kernel_rfl) (by kernel_rfl) (fun w _=>addRun (T:=9) (X:=.tmp 54) (Y:=.tmp 57) (by kernel_rfl) (by kernel_rfl) (by kernel_rfl) hs w) ?_
  refine T_yld hq 12 (some 59) (.pointer (some ⟨g,i * 3,none⟩)) (by kernel_rfl) (by kernel_rfl) (fun w _=>ixRun0 (cap:=s0) (X:=.tmp 50) (I:=.tmp 51) (by kernel_rfl) (by kernel_rfl) (by kernel_rfl) hi w) ?_
  refine T_z hq [13] (by kernel_rfl) ?_
  obtain ⟨⟨u,hu⟩,hfz,hbg⟩:=(hmm h).cellF i 1 hi (by omega)
  have hz2:Wb w k x y b0 base L o ⟨d.files.set i ⟨d.files[i].name,d.files[i].data++y,d.files[i].kept⟩,d.names,d.moves⟩ (W.setCell ⟨g,i * 3+1,none⟩ (.string (d.files[i].data++y))):=h.put hbg (fun e=>own_apart (hmm h).o0 h.b1 (by decide) (by rw [e];rfl)) (own_ty (hmm h).o0 (Or.inl rfl) g rfl) (by have:=(hmm h).setF i 1 (.string (d.files[i].data++y)) ⟨d.files[i].name,d.files[i].data++y,d.files[i].kept⟩ hi (by omega) rfl;rw [hO];exact this)
  refine T_one 14 (by kernel_rfl) fun _=>O_store none 9 (.tmp 60) (.tmp 58) ⟨g,i * 3+1,none⟩ (.string (d.files[i].data++y)) _ (by kernel_rfl) (by kernel_rfl) (by kernel_rfl) (stStr W _ _ u hu hfz) (hc0 hz2) ?_
  exact T_end 99 [(1,.pointer (some ⟨L,0,none⟩))] (by kernel_rfl) (by kernel_rfl) fun _ v=>hend v _ hz2
 have Q0:∀ v W,Wb w k x y b0 base L o d W→wpS Try.prog wr7Ops Q (fun W=>W.cell? ⟨w.heap.size+1,2,none⟩=some (.string y)∧W.cell? ⟨L,0,none⟩=some (.slice (some ⟨g,0,none⟩) d.files.length s0)) (unl 15 [10,11,12,13,14],frL v 99 [(1,.pointer (some ⟨L,0,none⟩)),(5,.pointer (some ⟨w.heap.size+1,0,none⟩)),(6,.int .i64 (i:Nat)),(50,.slice (some ⟨g,0,none⟩) d.files.length s0),(51,.int .i64 (i:Nat)),(53,.pointer (some ⟨g,i * 3+1,none⟩)),(54,.string d.files[i].data),(56,.string y)]) [] W:=fun v W h=>T_one 10 (by kernel_rfl) fun _=>O_go (clone_any y W (by omega)) (by kernel_rfl) (by rintro _ W1 ⟨rfl,hb⟩;have h1:=h.on hb h.sz;exact ⟨_,rfl,(hc0 h1),(T_fr 15 99 [11,12,13,14] [(1,.pointer (some ⟨L,0,none⟩)),(5,.pointer (some ⟨w.heap.size+1,0,none⟩)),(6,.int .i64 (i:Nat)),(50,.slice (some ⟨g,0,none⟩) d.files.length s0),(51,.int .i64 (i:Nat)),(53,.pointer (some ⟨g,i * 3+1,none⟩)),(54,.string d.files[i].data),(56,.string y),(57,.string y)] (by kernel_rfl) fun v=>Q1 v W1 h1)⟩)
 have P1:∀ v W,Wb w k x y b0 base L o d W→wpS Try.prog wr7Ops Q (fun W=>W.cell? ⟨w.heap.size+1,2,none⟩=some (.string y)∧W.cell? ⟨L,0,none⟩=some (.slice (some ⟨g,0,none⟩) d.files.length s0)) (unl 15 [7,11,12,13,14],frL v 99 [(1,.pointer (some ⟨L,0,none⟩)),(5,.pointer (some ⟨w.heap.size+1,0,none⟩)),(6,.int .i64 (i:Nat)),(50,.slice (some ⟨g,0,none⟩) d.files.length s0),(51,.int .i64 (i:Nat)),(53,.pointer (some ⟨g,i * 3+1,none⟩)),(56,.string y),(57,.string y)]) [] W:=fun v W h=>T_one 7 (by kernel_rfl) fun hS=>O_val (some 54) (.string d.files[i].data) (by kernel_rfl) (ldOp (X:=.tmp 53) (by kernel_rfl) (by kernel_rfl) (ldStr W ⟨g,i * 3+1,none⟩ _ ((hmm h).dataF i hi))) hS (T_fr 15 99 [11,12,13,14] [(1,.pointer (some ⟨L,0,none⟩)),(5,.pointer (some ⟨w.heap.size+1,0,none⟩)),(6,.int .i64 (i:Nat)),(50,.slice (some ⟨g,0,none⟩) d.files.length s0),(51,.int .i64 (i:Nat)),(53,.pointer (some ⟨g,i * 3+1,none⟩)),(54,.string d.files[i].data),(56,.string y),(57,.string y)] (by kernel_rfl) fun v=>Q1 v W h)
 have P0:∀ v W,Wb w k x y b0 base L o d W→wpS Try.prog wr7Ops Q (fun W=>W.cell? ⟨w.heap.size+1,2,none⟩=some (.string y)∧W.cell? ⟨L,0,none⟩=some (.slice (some ⟨g,0,none⟩) d.files.length s0)) (unl 15 [7,10,11,12,13,14],frL v 99 [(1,.pointer (some ⟨L,0,none⟩)),(5,.pointer (some ⟨w.heap.size+1,0,none⟩)),(6,.int .i64 (i:Nat)),(50,.slice (some ⟨g,0,none⟩) d.files.length s0),(51,.int .i64 (i:Nat)),(53,.pointer (some ⟨g,i * 3+1,none⟩)),(56,.string y)]) [] W:=fun v W h=>T_two 7 10 (by kernel_rfl)
  (fun hS=>O_val (some 54) (.string d.files[i].data) (by kernel_rfl) (ldOp (X:=.tmp 53) (by kernel_rfl) (by kernel_rfl) (ldStr W ⟨g,i * 3+1,none⟩ _ ((hmm h).dataF i hi))) hS (T_fr 15 99 [10,11,12,13,14] [(1,.pointer (some ⟨L,0,none⟩)),(5,.pointer (some ⟨w.heap.size+1,0,none⟩)),(6,.int .i64 (i:Nat)),(50,.slice (some ⟨g,0,none⟩) d.files.length s0),(51,.int .i64 (i:Nat)),(53,.pointer (some ⟨g,i * 3+1,none⟩)),(54,.string d.files[i].data),(56,.string y)] (by kernel_rfl) fun v=>Q0 v W h))
  (fun _=>O_go (clone_any y W (by omega)) (by kernel_rfl) (by rintro _ W1 ⟨rfl,hb⟩;have h1:=h.on hb h.sz;exact ⟨_,rfl,(hc0 h1),(T_fr 15 99 [7,11,12,13,14] [(1,.pointer (some ⟨L,0,none⟩)),(5,.pointer (some ⟨w.heap.size+1,0,none⟩)),(6,.int .i64 (i:Nat)),(50,.slice (some ⟨g,0,none⟩) d.files.length s0),(51,.int .i64 (i:Nat)),(53,.pointer (some ⟨g,i * 3+1,none⟩)),(56,.string y),(57,.string y)] (by kernel_rfl) fun v=>P1 v W1 h1)⟩))
 refine T_start (S:=fun W=>W.cell? ⟨w.heap.size+1,2,none⟩=some (.string y)∧W.cell? ⟨L,0,none⟩=some (.slice (some ⟨g,0,none⟩) d.files.length s0)) (by kernel_rfl) (hc0 h) (T_a hq [0,1,2,3,4,8,9] (fun w h=>.cons (ldFs _ _ _ h.2) (.cons (ldStr _ _ _ h.1) Lds.nil)) (by kernel_rfl) (T_yld hq 5 (some 52) (.pointer (some ⟨g,i * 3,none⟩)) (by kernel_rfl) (by kernel_rfl) (fun w _=>ixRun0 (cap:=s0) (X:=.tmp 50) (I:=.tmp 51) (by kernel_rfl) (by kernel_rfl) (by kernel_rfl) hi w) (T_z hq [6] (by kernel_rfl) ?_)))
 exact T_fr 15 99 [7,10,11,12,13,14] [(1,.pointer (some ⟨L,0,none⟩)),(5,.pointer (some ⟨w.heap.size+1,0,none⟩)),(6,.int .i64 (i:Nat)),(50,.slice (some ⟨g,0,none⟩) d.files.length s0),(51,.int .i64 (i:Nat)),(53,.pointer (some ⟨g,i * 3+1,none⟩)),(56,.string y)] (by kernel_rfl) fun v=>P0 v _ h
noncomputable def wr9Ops:Array Oper:=fops Try.f37 9
theorem wr9_neat:Region.noSelect wr9Ops=true∧neat wr9Ops=true:=⟨by kernel_rfl,by kernel_rfl⟩
theorem wr9 (w:World) (k:Int) (x y:ByteArray) (b0 base L:Nat) (o:C3) (d:Dk) (i:Nat) (hi:i < d.files.length) (g s0:Nat) (hO:o.c0=.slice (some ⟨g,0,none⟩) d.files.length s0) (W0:World) {l:List Value} (Q:Exit→Act→World→Prop) (hQ:∀ c a d v w,Q (.panic c) (Act.put a d v) w→Q (.panic c) a w) (h:Wb w k x y b0 base L o d W0.drew) (hl:lookL [(1,.pointer (some ⟨L,0,none⟩)),(6,.int .i64 (i:Nat))] l=(99,[.pointer (some ⟨L,0,none⟩),.int .i64 (i:Nat)]))
 (hend:∀ v W',Wb w k x y b0 base L o ⟨d.files.set i ⟨d.files[i].name,d.files[i].data,d.files[i].data.size⟩,d.names,d.moves⟩ W'→Q .normal ⟨(frL v 99 [(1,.pointer (some ⟨L,0,none⟩))]).toArray,[]⟩ W'):(Code.region 9 wr9Ops true).wp Try.prog Q ⟨l.toArray,[]⟩ W0:=by
 obtain ⟨v,rfl⟩:=look_fr hl
 have hq:NtQ wr9Ops Q:=⟨wr9_neat,hQ⟩
 have hc0:∀ {W d'},Wb w k x y b0 base L o d' W→W.cell? ⟨L,0,none⟩=some (.slice (some ⟨g,0,none⟩) d.files.length s0):=fun h=>by have:=h.mx.row.cell (i:=0) (by omega);rw [← hO];exact this
 refine T_start (S:=fun W=>W.cell? ⟨L,0,none⟩=some (.slice (some ⟨g,0,none⟩) d.files.length s0)) (by kernel_rfl) (hc0 h) ?_
 clear hl hQ
 generalize W0.drew=W at h ⊢
 have hm:MxSt base L W (.slice (some ⟨g,0,none⟩) d.files.length s0) o.c1 o.c2 d.files d.names d.moves:=by rw [← hO];exact h.mx
 have hfd:=hm.dataF i hi
 refine T_a hq [0,1,2,3,4,5,6,7,8,9] (fun w h=>.cons (ldFs _ _ _ h) (.cons (ldFs _ _ _ h) Lds.nil)) (by kernel_rfl) ?_
 refine T_yld hq 10 (some 73) (.pointer (some ⟨g,i * 3,none⟩)) (by kernel_rfl) (by kernel_rfl) (fun w _=>ixRun0 (cap:=s0) (X:=.tmp 71) (I:=.tmp 72) (by kernel_rfl) (by kernel_rfl) (by kernel_rfl) hi w) ?_
 refine T_z hq [11] (by kernel_rfl) ?_
 refine T_one 12 (by kernel_rfl) fun hS=>O_val (some 75) (.string d.files[i].data) (by kernel_rfl) (ldOp (X:=.tmp 74) (by kernel_rfl) (by kernel_rfl) (ldStr W ⟨g,i * 3+1,none⟩ _ hfd)) hS ?_
 refine T_z hq [13] (by kernel_rfl) ?_
 refine T_yld hq 14 (some 77) (.pointer (some ⟨g,i * 3,none⟩)) (by kernel_rfl) (by kernel_rfl) (fun w _=>ixRun0 (cap:=s0) (X:=.tmp 66) (I:=.tmp 67) (by kernel_rfl) (by kernel_rfl) (by kernel_rfl) hi w) ?_
 refine T_z hq [15] (by kernel_rfl) ?_
 obtain ⟨⟨u,hu⟩,hfz,hbg⟩:=hm.cellF i 2 hi (by omega)
 have hz2:Wb w k x y b0 base L o ⟨d.files.set i ⟨d.files[i].name,d.files[i].data,d.files[i].data.size⟩,d.names,d.moves⟩ (W.setCell ⟨g,i * 3+2,none⟩ (.int .i64 (d.files[i].data.size:Nat))):=h.put hbg (fun e=>own_apart hm.o0 h.b1 (by decide) (by rw [e];rfl)) (own_ty hm.o0 (Or.inl rfl) g rfl) (by have:=hm.setF i 2 (.int .i64 (d.files[i].data.size:Nat)) ⟨d.files[i].name,d.files[i].data,d.files[i].data.size⟩ hi (by omega) rfl;rw [hO];exact this)
 refine T_one 16 (by kernel_rfl) fun _=>O_store none 3 (.tmp 78) (.tmp 76) ⟨g,i * 3+2,none⟩ (.int .i64 (d.files[i].data.size:Nat)) _ (by kernel_rfl) (by kernel_rfl) (by kernel_rfl) (stInt W _ _ u hu hfz) (hc0 hz2) ?_
 exact T_end 99 [(1,.pointer (some ⟨L,0,none⟩))] (by kernel_rfl) (by kernel_rfl) fun _ v=>hend v _ hz2
structure Cx (w5:World) (L:Nat) (vf vn:Value) (fs:List Df) (ns:List ByteArray) (W:World):Prop where
 st:CtSt w5.heap.size L W vf vn fs ns
 bt:But L w5 W
theorem but_grew {L:Nat} {w W W':World} {row:Option Nat} (h:But L w W) (hg:W.grownBy W' row) (hr:∀ g,row=some g→w.heap.size≤g):But L w W' :=
 ⟨hg.os.trans h.os,hg.tape.trans h.tape,hg.output.trans h.output,Nat.le_trans h.size hg.size,fun i hi hne=>(hg.block i (Nat.lt_of_lt_of_le hi h.size) (fun e=>by have:=hr i e.symm;omega)).trans (h.block i hi hne)⟩
theorem Cx.on {w5:World} {L:Nat} {vf vn:Value} {fs:List Df} {ns:List ByteArray} {W W':World} (h:Cx w5 L vf vn fs ns W) (hb:Below W.heap.size W W'):Cx w5 L vf vn fs ns W':=⟨h.st.keep hb,h.bt.trans (But.of_below hb)⟩
theorem ldSs (w:World) (ad:Addr) (v:Value) (h:w.cell? ad=some v):(Instr.loadAt 24 (.pointer (some ad))).run Try.prog w=.ok v w:=by
 simp [Instr.loadAt,Instr.sureAddr,loadVar,Try.isAgg24,h,go_sem]
theorem stSs (w:World) (ad:Addr) (a:Option Addr) (n c:Nat) (u:Value) (h:w.cell? ad=some u) (hf:w.frozen? ad=false):(Instr.storeAt 24 (.pointer (some ad)) (.slice a n c)).run Try.prog w=.ok () (w.setCell ad (.slice a n c)):=by
 simp [Instr.storeAt,Instr.sureAddr,storeVar,h,hf,go_sem]
theorem rowFileO:∃ d,Try.prog.underlying 44=some d∧d.isRow=true:=⟨_,Try.underlying44,by rfl⟩
theorem info3F:(Try.prog.info? 44).map (·.size)=some 3:=by kernel_rfl
theorem ldFile (W:World) (g q:Nat) (a b c:Value) (h:W.cell? ⟨g,q,none⟩=some a∧W.cell? ⟨g,q+1,none⟩=some b∧W.cell? ⟨g,q+2,none⟩=some c):(Instr.loadAt 44 (.pointer (some ⟨g,q,none⟩))).run Try.prog W=.ok (.agg #[a,b,c]) W:=by
 obtain ⟨dd,hdu,hdr⟩:=rowFileO
 have hr:W.rangeAt g q [a,b,c]:=fun j v hv=>by
  match j,hv with
  | 0,hv=>simp only [List.getElem?_cons_zero,Option.some.injEq] at hv;subst hv;exact h.1
  | 1,hv=>simp only [List.getElem?_cons_succ,List.getElem?_cons_zero,Option.some.injEq] at hv;subst hv;exact h.2.1
  | 2,hv=>simp only [List.getElem?_cons_succ,List.getElem?_cons_zero,Option.some.injEq] at hv;subst hv;exact h.2.2
  | _+3,hv=>simp at hv
 unfold Instr.loadAt
 simp only [Instr.sureAddr,Sem.run_bind,Sem.run_pure,Result.andThen_ok,run_loadVar_mid W g q 44 [a,b,c] dd hr hdu hdr info3F]
noncomputable def se6Ops:Array Oper:=fops Try.f63 6
theorem se6_neat:Region.noSelect se6Ops=true∧neat se6Ops=true:=⟨by kernel_rfl,by kernel_rfl⟩
theorem se6 (w5:World) (L:Nat) (vf vn:Value) (fs:List Df) (ns:List ByteArray) (x:ByteArray) (hx:x.size≤1048576) (hn:ns.length≤1000) {a0 a2 a3 a4 a5 a7 a8 a9 a10 a11 a12 a13 a14 a15 a16 a17:Value} {r:List Value} (hr:r.length=34) (W0:World) (Q:Exit→Act→World→Prop) (hQ:∀ c a d v w,Q (.panic c) (Act.put a d v) w→Q (.panic c) a w) (h:Cx w5 L vf vn fs ns W0.drew)
 (hend:∀ v vn' W',Cx w5 L vf vn' fs (ns++[x]) W'→Q .normal ⟨(frL v 52 [(0,a0),(1,.pointer (some ⟨L,0,none⟩)),(2,a2),(3,a3),(4,a4),(5,a5),(6,.string x),(7,a7),(8,a8),(9,a9),(10,a10),(11,a11),(12,a12),(13,a13),(14,a14),(15,a15),(16,a16),(17,a17)]).toArray,[]⟩ W'):(Code.region 6 se6Ops true).wp Try.prog Q ⟨(a0::.pointer (some ⟨L,0,none⟩)::a2::a3::a4::a5::.string x::a7::a8::a9::a10::a11::a12::a13::a14::a15::a16::a17::r).toArray,[]⟩ W0:=by
 have hl:lookL [(0,a0),(1,.pointer (some ⟨L,0,none⟩)),(2,a2),(3,a3),(4,a4),(5,a5),(6,.string x),(7,a7),(8,a8),(9,a9),(10,a10),(11,a11),(12,a12),(13,a13),(14,a14),(15,a15),(16,a16),(17,a17)] (a0::.pointer (some ⟨L,0,none⟩)::a2::a3::a4::a5::.string x::a7::a8::a9::a10::a11::a12::a13::a14::a15::a16::a17::r)=(52,[a0,.pointer (some ⟨L,0,none⟩),a2,a3,a4,a5,.string x,a7,a8,a9,a10,a11,a12,a13,a14,a15,a16,a17]):=by
  show (r.length+18,_)=_
  rw [hr];rfl
 obtain ⟨v,hv⟩:=look_fr hl
 rw [hv]
 have hq:NtQ se6Ops Q:=⟨se6_neat,hQ⟩
 clear hl hv hQ hr
 have Q2:∀ v W,Cx w5 L vf vn fs ns W→wpS Try.prog se6Ops Q (fun _=>True) (unl 12 [8,9,10,11],frL v 52 [(0,a0),(1,.pointer (some ⟨L,0,none⟩)),(2,a2),(3,a3),(4,a4),(5,a5),(6,.string x),(7,a7),(8,a8),(9,a9),(10,a10),(11,a11),(12,a12),(13,a13),(14,a14),(15,a15),(16,a16),(17,a17),(21,.pointer (some ⟨L,0,none⟩)),(24,.pointer (some ⟨L,1,none⟩)),(25,vn),(26,.string x),(27,.string x),(28,.slice (some ⟨W.heap.size,0,none⟩) 1 1)]) [] (W.alloc (.cells #[.string x] 9)):=fun v W h=>by
  obtain ⟨i0,hi0,hi1,hi2,hi3⟩:=infoStrD
  refine T_one 8 (by kernel_rfl) fun _=>O_list (some 29) (by kernel_rfl) ?_
  refine append_row _ (by kernel_rfl) (.tmp 25) (.tmp 28) 24 (by kernel_rfl) w5.heap.size 9 i0 (.string ByteArray.empty) 1 16 Try.underlying24 hi0 hi1 hi2 hi3 rfl (by decide) vn ns.length (ns.map Value.string) (by kernel_rfl) (World.ownsRow.alloc h.st.on _) ⟨W.heap.size,0,none⟩ 1 1 [.string x] (by kernel_rfl) rfl (cell_one W _ _) (fun u hu=>by simp at hu;subst hu;rfl) (by decide) (by unfold maxLen;omega) (by omega) (by rw [World.size_alloc];have:=h.bt.size;omega) ?_
  intro v' W2 hown hgrow hat
  obtain ⟨g5,cap5,rfl,-,-⟩:=hown.form (by omega)
  have hlt:=h.st.lt
  have hL2:W2.rowIs L 27 3 (row3 vf vn (.slice none 0 0)):=h.st.row.of_block ((grown_alloc hgrow).block L h.st.row.lt (fun e=>by have:=(h.st.on.lt L e.symm).1;omega))
  have h2:Cx w5 L vf (.slice (some ⟨g5,0,none⟩) (ns.length+1) cap5) fs (ns++[x]) (W2.setCell ⟨L,1,none⟩ (.slice (some ⟨g5,0,none⟩) (ns.length+1) cap5)):=⟨h.st.addN x hown (grown_alloc hgrow),(but_grew h.bt (grown_alloc hgrow) (fun g e=>(h.st.on.lt g e).1)).trans (But.set W2 1 _)⟩
  refine ⟨trivial,_,put_putL ..,?_⟩
  refine T_z hq [9,10] (by kernel_rfl) ?_
  refine T_one 11 (by kernel_rfl) fun _=>O_store none 24 (.tmp 31) (.tmp 29) ⟨L,1,none⟩ (.slice (some ⟨g5,0,none⟩) (ns.length+1) cap5) _ (by kernel_rfl) (by kernel_rfl) (by kernel_rfl) (stSs W2 _ _ _ _ _ (hL2.cell (i:=1) (by omega)) (hL2.frozen 1)) trivial ?_
  exact T_end 52 [(0,a0),(1,.pointer (some ⟨L,0,none⟩)),(2,a2),(3,a3),(4,a4),(5,a5),(6,.string x),(7,a7),(8,a8),(9,a9),(10,a10),(11,a11),(12,a12),(13,a13),(14,a14),(15,a15),(16,a16),(17,a17)] (by kernel_rfl) (by kernel_rfl) fun _ v=>hend v _ _ h2
 have Q1:∀ v W,Cx w5 L vf vn fs ns W→wpS Try.prog se6Ops Q (fun _=>True) (unl 12 [7,8,9,10,11],frL v 52 [(0,a0),(1,.pointer (some ⟨L,0,none⟩)),(2,a2),(3,a3),(4,a4),(5,a5),(6,.string x),(7,a7),(8,a8),(9,a9),(10,a10),(11,a11),(12,a12),(13,a13),(14,a14),(15,a15),(16,a16),(17,a17),(21,.pointer (some ⟨L,0,none⟩)),(24,.pointer (some ⟨L,1,none⟩)),(25,vn),(26,.string x),(27,.string x)]) [] W:=fun v W h=>T_one 7 (by kernel_rfl) fun _=>O_val (w':=W.alloc (.cells #[.string x] 9)) (some 28) (.slice (some ⟨W.heap.size,0,none⟩) 1 1) (by kernel_rfl) (by kernel_rfl) (trivial) ((T_fr 12 52 [8,9,10,11] [(0,a0),(1,.pointer (some ⟨L,0,none⟩)),(2,a2),(3,a3),(4,a4),(5,a5),(6,.string x),(7,a7),(8,a8),(9,a9),(10,a10),(11,a11),(12,a12),(13,a13),(14,a14),(15,a15),(16,a16),(17,a17),(21,.pointer (some ⟨L,0,none⟩)),(24,.pointer (some ⟨L,1,none⟩)),(25,vn),(26,.string x),(27,.string x),(28,.slice (some ⟨W.heap.size,0,none⟩) 1 1)] (by kernel_rfl) fun v=>Q2 v W h))
 have Q0:∀ v W,Cx w5 L vf vn fs ns W→wpS Try.prog se6Ops Q (fun _=>True) (unl 12 [6,7,8,9,10,11],frL v 52 [(0,a0),(1,.pointer (some ⟨L,0,none⟩)),(2,a2),(3,a3),(4,a4),(5,a5),(6,.string x),(7,a7),(8,a8),(9,a9),(10,a10),(11,a11),(12,a12),(13,a13),(14,a14),(15,a15),(16,a16),(17,a17),(21,.pointer (some ⟨L,0,none⟩)),(24,.pointer (some ⟨L,1,none⟩)),(25,vn),(26,.string x)]) [] W:=fun v W h=>T_one 6 (by kernel_rfl) fun _=>O_go (clone_any x W (by omega)) (by kernel_rfl) (by rintro _ W1 ⟨rfl,hb⟩;have h1:=h.on hb;exact ⟨_,rfl,trivial,(T_fr 12 52 [7,8,9,10,11] [(0,a0),(1,.pointer (some ⟨L,0,none⟩)),(2,a2),(3,a3),(4,a4),(5,a5),(6,.string x),(7,a7),(8,a8),(9,a9),(10,a10),(11,a11),(12,a12),(13,a13),(14,a14),(15,a15),(16,a16),(17,a17),(21,.pointer (some ⟨L,0,none⟩)),(24,.pointer (some ⟨L,1,none⟩)),(25,vn),(26,.string x),(27,.string x)] (by kernel_rfl) fun v=>Q1 v W1 h1)⟩)
 have P2:∀ v W,Cx w5 L vf vn fs ns W→wpS Try.prog se6Ops Q (fun _=>True) (unl 12 [4,8,9,10,11],frL v 52 [(0,a0),(1,.pointer (some ⟨L,0,none⟩)),(2,a2),(3,a3),(4,a4),(5,a5),(6,.string x),(7,a7),(8,a8),(9,a9),(10,a10),(11,a11),(12,a12),(13,a13),(14,a14),(15,a15),(16,a16),(17,a17),(21,.pointer (some ⟨L,0,none⟩)),(24,.pointer (some ⟨L,1,none⟩)),(26,.string x),(27,.string x),(28,.slice (some ⟨W.heap.size,0,none⟩) 1 1)]) [] (W.alloc (.cells #[.string x] 9)):=fun v W h=>T_one 4 (by kernel_rfl) fun hS=>O_val (some 25) (vn) (by kernel_rfl) (ldOp (X:=.tmp 24) (by kernel_rfl) (by kernel_rfl) (ldSs (W.alloc (.cells #[.string x] 9)) ⟨L,1,none⟩ _ ((((h).on ((Below.refl _ W).alloc (Nat.le_refl _) (.cells #[.string x] 9)))).st.row.cell (i:=1) (by omega)))) hS (T_fr 12 52 [8,9,10,11] [(0,a0),(1,.pointer (some ⟨L,0,none⟩)),(2,a2),(3,a3),(4,a4),(5,a5),(6,.string x),(7,a7),(8,a8),(9,a9),(10,a10),(11,a11),(12,a12),(13,a13),(14,a14),(15,a15),(16,a16),(17,a17),(21,.pointer (some ⟨L,0,none⟩)),(24,.pointer (some ⟨L,1,none⟩)),(25,vn),(26,.string x),(27,.string x),(28,.slice (some ⟨W.heap.size,0,none⟩) 1 1)] (by kernel_rfl) fun v=>Q2 v W h)
 have P1:∀ v W,Cx w5 L vf vn fs ns W→wpS Try.prog se6Ops Q (fun _=>True) (unl 12 [4,7,8,9,10,11],frL v 52 [(0,a0),(1,.pointer (some ⟨L,0,none⟩)),(2,a2),(3,a3),(4,a4),(5,a5),(6,.string x),(7,a7),(8,a8),(9,a9),(10,a10),(11,a11),(12,a12),(13,a13),(14,a14),(15,a15),(16,a16),(17,a17),(21,.pointer (some ⟨L,0,none⟩)),(24,.pointer (some ⟨L,1,none⟩)),(26,.string x),(27,.string x)]) [] W:=fun v W h=>T_two 4 7 (by kernel_rfl)
  (fun hS=>O_val (some 25) (vn) (by kernel_rfl) (ldOp (X:=.tmp 24) (by kernel_rfl) (by kernel_rfl) (ldSs W ⟨L,1,none⟩ _ ((h).st.row.cell (i:=1) (by omega)))) hS (T_fr 12 52 [7,8,9,10,11] [(0,a0),(1,.pointer (some ⟨L,0,none⟩)),(2,a2),(3,a3),(4,a4),(5,a5),(6,.string x),(7,a7),(8,a8),(9,a9),(10,a10),(11,a11),(12,a12),(13,a13),(14,a14),(15,a15),(16,a16),(17,a17),(21,.pointer (some ⟨L,0,none⟩)),(24,.pointer (some ⟨L,1,none⟩)),(25,vn),(26,.string x),(27,.string x)] (by kernel_rfl) fun v=>Q1 v W h))
  (fun _=>O_val (w':=W.alloc (.cells #[.string x] 9)) (some 28) (.slice (some ⟨W.heap.size,0,none⟩) 1 1) (by kernel_rfl) (by kernel_rfl) (trivial) ((T_fr 12 52 [4,8,9,10,11] [(0,a0),(1,.pointer (some ⟨L,0,none⟩)),(2,a2),(3,a3),(4,a4),(5,a5),(6,.string x),(7,a7),(8,a8),(9,a9),(10,a10),(11,a11),(12,a12),(13,a13),(14,a14),(15,a15),(16,a16),(17,a17),(21,.pointer (some ⟨L,0,none⟩)),(24,.pointer (some ⟨L,1,none⟩)),(26,.string x),(27,.string x),(28,.slice (some ⟨W.heap.size,0,none⟩) 1 1)] (by kernel_rfl) fun v=>P2 v W h)))
 have P0:∀ v W,Cx w5 L vf vn fs ns W→wpS Try.prog se6Ops Q (fun _=>True) (unl 12 [4,6,7,8,9,10,11],frL v 52 [(0,a0),(1,.pointer (some ⟨L,0,none⟩)),(2,a2),(3,a3),(4,a4),(5,a5),(6,.string x),(7,a7),(8,a8),(9,a9),(10,a10),(11,a11),(12,a12),(13,a13),(14,a14),(15,a15),(16,a16),(17,a17),(21,.pointer (some ⟨L,0,none⟩)),(24,.pointer (some ⟨L,1,none⟩)),(26,.string x)]) [] W:=fun v W h=>T_two 4 6 (by kernel_rfl)
  (fun hS=>O_val (some 25) (vn) (by kernel_rfl) (ldOp (X:=.tmp 24) (by kernel_rfl) (by kernel_rfl) (ldSs W ⟨L,1,none⟩ _ ((h).st.row.cell (i:=1) (by omega)))) hS (T_fr 12 52 [6,7,8,9,10,11] [(0,a0),(1,.pointer (some ⟨L,0,none⟩)),(2,a2),(3,a3),(4,a4),(5,a5),(6,.string x),(7,a7),(8,a8),(9,a9),(10,a10),(11,a11),(12,a12),(13,a13),(14,a14),(15,a15),(16,a16),(17,a17),(21,.pointer (some ⟨L,0,none⟩)),(24,.pointer (some ⟨L,1,none⟩)),(25,vn),(26,.string x)] (by kernel_rfl) fun v=>Q0 v W h))
  (fun _=>O_go (clone_any x W (by omega)) (by kernel_rfl) (by rintro _ W1 ⟨rfl,hb⟩;have h1:=h.on hb;exact ⟨_,rfl,trivial,(T_fr 12 52 [4,7,8,9,10,11] [(0,a0),(1,.pointer (some ⟨L,0,none⟩)),(2,a2),(3,a3),(4,a4),(5,a5),(6,.string x),(7,a7),(8,a8),(9,a9),(10,a10),(11,a11),(12,a12),(13,a13),(14,a14),(15,a15),(16,a16),(17,a17),(21,.pointer (some ⟨L,0,none⟩)),(24,.pointer (some ⟨L,1,none⟩)),(26,.string x),(27,.string x)] (by kernel_rfl) fun v=>P1 v W1 h1)⟩))
 refine T_start (S:=fun _=>True) (by kernel_rfl) trivial (T_z hq [0,1,2,3,5] (by kernel_rfl) ?_)
 exact T_fr 12 52 [4,6,7,8,9,10,11] [(0,a0),(1,.pointer (some ⟨L,0,none⟩)),(2,a2),(3,a3),(4,a4),(5,a5),(6,.string x),(7,a7),(8,a8),(9,a9),(10,a10),(11,a11),(12,a12),(13,a13),(14,a14),(15,a15),(16,a16),(17,a17),(21,.pointer (some ⟨L,0,none⟩)),(24,.pointer (some ⟨L,1,none⟩)),(26,.string x)] (by kernel_rfl) fun v=>P0 v _ h
noncomputable def se7Ops:Array Oper:=fops Try.f63 7
theorem se7_neat:Region.noSelect se7Ops=true∧neat se7Ops=true:=⟨by kernel_rfl,by kernel_rfl⟩
theorem se7 (w5:World) (L V T B:Nat) (vf vn:Value) (fs:List Df) (ns ns0:List ByteArray) (x:ByteArray) (f:Df) (i g n4 s0:Nat) (hi:i < n4) (hx:x.size≤9223372036854775807) (hn:fs.length≤1000) (hc:(nmap ns0 ns0.length).atKey (nkey x) (.lit (.int .i64 0))=.lit (.int .i64 (i:Nat)))
 (hV:∀ W,But L w5 W→W.cell? ⟨V,0,none⟩=some (.pointer (some ⟨T,0,none⟩))) (hT:∀ W,But L w5 W→W.cell? ⟨T,1,none⟩=some (.map (some B))) (hM:∀ W,But L w5 W→NMap W B ns0)
 (hF:∀ W,But L w5 W→W.cell? ⟨g,i * 3,none⟩=some (.string f.name)∧W.cell? ⟨g,i * 3+1,none⟩=some (.string f.data)∧W.cell? ⟨g,i * 3+2,none⟩=some (.int .i64 f.kept)) {a0 a3 a5 a7 a8 a9 a10 a11 a12 a13 a14 a15 a16 a17:Value} {r:List Value} (hr:r.length=34) (W0:World) (Q:Exit→Act→World→Prop) (hQ:∀ c a d v w,Q (.panic c) (Act.put a d v) w→Q (.panic c) a w) (h:Cx w5 L vf vn fs ns W0.drew)
 (hend:∀ v vf' W',Cx w5 L vf' vn (fs++[f]) ns W'→Q .normal ⟨(frL v 52 [(0,a0),(1,.pointer (some ⟨L,0,none⟩)),(2,.pointer (some ⟨V,0,none⟩)),(3,a3),(4,.slice (some ⟨g,0,none⟩) n4 s0),(5,a5),(6,.string x),(7,a7),(8,a8),(9,a9),(10,a10),(11,a11),(12,a12),(13,a13),(14,a14),(15,a15),(16,a16),(17,a17)]).toArray,[]⟩ W'):(Code.region 7 se7Ops true).wp Try.prog Q ⟨(a0::.pointer (some ⟨L,0,none⟩)::.pointer (some ⟨V,0,none⟩)::a3::.slice (some ⟨g,0,none⟩) n4 s0::a5::.string x::a7::a8::a9::a10::a11::a12::a13::a14::a15::a16::a17::r).toArray,[]⟩ W0:=by
 have hl:lookL [(0,a0),(1,.pointer (some ⟨L,0,none⟩)),(2,.pointer (some ⟨V,0,none⟩)),(3,a3),(4,.slice (some ⟨g,0,none⟩) n4 s0),(5,a5),(6,.string x),(7,a7),(8,a8),(9,a9),(10,a10),(11,a11),(12,a12),(13,a13),(14,a14),(15,a15),(16,a16),(17,a17)] (a0::.pointer (some ⟨L,0,none⟩)::.pointer (some ⟨V,0,none⟩)::a3::.slice (some ⟨g,0,none⟩) n4 s0::a5::.string x::a7::a8::a9::a10::a11::a12::a13::a14::a15::a16::a17::r)=(52,[a0,.pointer (some ⟨L,0,none⟩),.pointer (some ⟨V,0,none⟩),a3,.slice (some ⟨g,0,none⟩) n4 s0,a5,.string x,a7,a8,a9,a10,a11,a12,a13,a14,a15,a16,a17]):=by
  show (r.length+18,_)=_
  rw [hr];rfl
 obtain ⟨v,hv⟩:=look_fr hl
 rw [hv]
 have hq:NtQ se7Ops Q:=⟨se7_neat,hQ⟩
 clear hl hv hQ hr
 have Q1:∀ v W,Cx w5 L vf vn fs ns W→wpS Try.prog se7Ops Q (fun W=>But L w5 W) (unl 20 [16,17,18,19],frL v 52 [(0,a0),(1,.pointer (some ⟨L,0,none⟩)),(2,.pointer (some ⟨V,0,none⟩)),(3,a3),(4,.slice (some ⟨g,0,none⟩) n4 s0),(5,a5),(6,.string x),(7,a7),(8,a8),(9,a9),(10,a10),(11,a11),(12,a12),(13,a13),(14,a14),(15,a15),(16,a16),(17,a17),(32,.pointer (some ⟨L,0,none⟩)),(35,.pointer (some ⟨L,0,none⟩)),(36,vf),(46,.agg #[.string f.name,.string f.data,.int .i64 f.kept]),(47,.slice (some ⟨W.heap.size,0,none⟩) 1 1)]) [] (W.alloc (.cells #[.string f.name,.string f.data,.int .i64 f.kept] 44)):=fun v W h=>by
  obtain ⟨i0,hi0,hi1,hi2,hi3⟩:=infoFileD
  refine T_one 16 (by kernel_rfl) fun _=>O_list (some 48) (by kernel_rfl) ?_
  refine append_row _ (by kernel_rfl) (.tmp 36) (.tmp 47) 23 (by kernel_rfl) w5.heap.size 44 i0 (.agg #[.string ByteArray.empty,.string ByteArray.empty,.int .i64 0]) 3 40 Try.underlying23 hi0 hi1 hi2 hi3 rfl (by decide) vf fs.length (fs.map Df.cs).flatten (by kernel_rfl) (World.ownsRow.alloc h.st.of _) ⟨W.heap.size,0,none⟩ 1 1 [.string f.name,.string f.data,.int .i64 f.kept] (by kernel_rfl) rfl (cell_3 W _ _ _ _) (fun u hu=>by simp at hu;rcases hu with rfl | rfl | rfl <;> rfl) (by decide) (by unfold maxLen;omega) (by omega) (by rw [World.size_alloc];have:=h.bt.size;omega) ?_
  intro v' W2 hown hgrow hat
  obtain ⟨g5,cap5,rfl,-,-⟩:=hown.form (by omega)
  have hlt:=h.st.lt
  have hL2:W2.rowIs L 27 3 (row3 vf vn (.slice none 0 0)):=h.st.row.of_block ((grown_alloc hgrow).block L h.st.row.lt (fun e=>by have:=(h.st.of.lt L e.symm).1;omega))
  have hb2:=but_grew h.bt (grown_alloc hgrow) (fun g e=>(h.st.of.lt g e).1)
  have h2:Cx w5 L (.slice (some ⟨g5,0,none⟩) (fs.length+1) cap5) vn (fs++[f]) ns (W2.setCell ⟨L,0,none⟩ (.slice (some ⟨g5,0,none⟩) (fs.length+1) cap5)):=⟨h.st.addF f hown (grown_alloc hgrow),hb2.trans (But.set W2 0 _)⟩
  refine ⟨hb2,_,put_putL ..,?_⟩
  refine T_z hq [17,18] (by kernel_rfl) ?_
  refine T_one 19 (by kernel_rfl) fun _=>O_store none 23 (.tmp 50) (.tmp 48) ⟨L,0,none⟩ (.slice (some ⟨g5,0,none⟩) (fs.length+1) cap5) _ (by kernel_rfl) (by kernel_rfl) (by kernel_rfl) (stFs W2 _ _ _ _ _ (hL2.cell (i:=0) (by omega)) (hL2.frozen 0)) h2.bt ?_
  exact T_end 52 [(0,a0),(1,.pointer (some ⟨L,0,none⟩)),(2,.pointer (some ⟨V,0,none⟩)),(3,a3),(4,.slice (some ⟨g,0,none⟩) n4 s0),(5,a5),(6,.string x),(7,a7),(8,a8),(9,a9),(10,a10),(11,a11),(12,a12),(13,a13),(14,a14),(15,a15),(16,a16),(17,a17)] (by kernel_rfl) (by kernel_rfl) fun _ v=>hend v _ _ h2
 have Q0:∀ v W,Cx w5 L vf vn fs ns W→wpS Try.prog se7Ops Q (fun W=>But L w5 W) (unl 20 [15,16,17,18,19],frL v 52 [(0,a0),(1,.pointer (some ⟨L,0,none⟩)),(2,.pointer (some ⟨V,0,none⟩)),(3,a3),(4,.slice (some ⟨g,0,none⟩) n4 s0),(5,a5),(6,.string x),(7,a7),(8,a8),(9,a9),(10,a10),(11,a11),(12,a12),(13,a13),(14,a14),(15,a15),(16,a16),(17,a17),(32,.pointer (some ⟨L,0,none⟩)),(35,.pointer (some ⟨L,0,none⟩)),(36,vf),(46,.agg #[.string f.name,.string f.data,.int .i64 f.kept])]) [] W:=fun v W h=>T_one 15 (by kernel_rfl) fun _=>O_val (w':=W.alloc (.cells #[.string f.name,.string f.data,.int .i64 f.kept] 44)) (some 47) (.slice (some ⟨W.heap.size,0,none⟩) 1 1) (by kernel_rfl) (by kernel_rfl) ((((h).on ((Below.refl _ W).alloc (Nat.le_refl _) (.cells #[.string f.name,.string f.data,.int .i64 f.kept] 44)))).bt) ((T_fr 20 52 [16,17,18,19] [(0,a0),(1,.pointer (some ⟨L,0,none⟩)),(2,.pointer (some ⟨V,0,none⟩)),(3,a3),(4,.slice (some ⟨g,0,none⟩) n4 s0),(5,a5),(6,.string x),(7,a7),(8,a8),(9,a9),(10,a10),(11,a11),(12,a12),(13,a13),(14,a14),(15,a15),(16,a16),(17,a17),(32,.pointer (some ⟨L,0,none⟩)),(35,.pointer (some ⟨L,0,none⟩)),(36,vf),(46,.agg #[.string f.name,.string f.data,.int .i64 f.kept]),(47,.slice (some ⟨W.heap.size,0,none⟩) 1 1)] (by kernel_rfl) fun v=>Q1 v W h))
 have P1:∀ v W,Cx w5 L vf vn fs ns W→wpS Try.prog se7Ops Q (fun W=>But L w5 W) (unl 20 [4,16,17,18,19],frL v 52 [(0,a0),(1,.pointer (some ⟨L,0,none⟩)),(2,.pointer (some ⟨V,0,none⟩)),(3,a3),(4,.slice (some ⟨g,0,none⟩) n4 s0),(5,a5),(6,.string x),(7,a7),(8,a8),(9,a9),(10,a10),(11,a11),(12,a12),(13,a13),(14,a14),(15,a15),(16,a16),(17,a17),(32,.pointer (some ⟨L,0,none⟩)),(35,.pointer (some ⟨L,0,none⟩)),(46,.agg #[.string f.name,.string f.data,.int .i64 f.kept]),(47,.slice (some ⟨W.heap.size,0,none⟩) 1 1)]) [] (W.alloc (.cells #[.string f.name,.string f.data,.int .i64 f.kept] 44)):=fun v W h=>T_one 4 (by kernel_rfl) fun hS=>O_val (some 36) (vf) (by kernel_rfl) (ldOp (X:=.tmp 35) (by kernel_rfl) (by kernel_rfl) (ldFs (W.alloc (.cells #[.string f.name,.string f.data,.int .i64 f.kept] 44)) ⟨L,0,none⟩ _ ((((h).on ((Below.refl _ W).alloc (Nat.le_refl _) (.cells #[.string f.name,.string f.data,.int .i64 f.kept] 44)))).st.row.cell (i:=0) (by omega)))) hS (T_fr 20 52 [16,17,18,19] [(0,a0),(1,.pointer (some ⟨L,0,none⟩)),(2,.pointer (some ⟨V,0,none⟩)),(3,a3),(4,.slice (some ⟨g,0,none⟩) n4 s0),(5,a5),(6,.string x),(7,a7),(8,a8),(9,a9),(10,a10),(11,a11),(12,a12),(13,a13),(14,a14),(15,a15),(16,a16),(17,a17),(32,.pointer (some ⟨L,0,none⟩)),(35,.pointer (some ⟨L,0,none⟩)),(36,vf),(46,.agg #[.string f.name,.string f.data,.int .i64 f.kept]),(47,.slice (some ⟨W.heap.size,0,none⟩) 1 1)] (by kernel_rfl) fun v=>Q1 v W h)
 have P0:∀ v W,Cx w5 L vf vn fs ns W→wpS Try.prog se7Ops Q (fun W=>But L w5 W) (unl 20 [4,15,16,17,18,19],frL v 52 [(0,a0),(1,.pointer (some ⟨L,0,none⟩)),(2,.pointer (some ⟨V,0,none⟩)),(3,a3),(4,.slice (some ⟨g,0,none⟩) n4 s0),(5,a5),(6,.string x),(7,a7),(8,a8),(9,a9),(10,a10),(11,a11),(12,a12),(13,a13),(14,a14),(15,a15),(16,a16),(17,a17),(32,.pointer (some ⟨L,0,none⟩)),(35,.pointer (some ⟨L,0,none⟩)),(46,.agg #[.string f.name,.string f.data,.int .i64 f.kept])]) [] W:=fun v W h=>T_two 4 15 (by kernel_rfl)
  (fun hS=>O_val (some 36) (vf) (by kernel_rfl) (ldOp (X:=.tmp 35) (by kernel_rfl) (by kernel_rfl) (ldFs W ⟨L,0,none⟩ _ ((h).st.row.cell (i:=0) (by omega)))) hS (T_fr 20 52 [15,16,17,18,19] [(0,a0),(1,.pointer (some ⟨L,0,none⟩)),(2,.pointer (some ⟨V,0,none⟩)),(3,a3),(4,.slice (some ⟨g,0,none⟩) n4 s0),(5,a5),(6,.string x),(7,a7),(8,a8),(9,a9),(10,a10),(11,a11),(12,a12),(13,a13),(14,a14),(15,a15),(16,a16),(17,a17),(32,.pointer (some ⟨L,0,none⟩)),(35,.pointer (some ⟨L,0,none⟩)),(36,vf),(46,.agg #[.string f.name,.string f.data,.int .i64 f.kept])] (by kernel_rfl) fun v=>Q0 v W h))
  (fun _=>O_val (w':=W.alloc (.cells #[.string f.name,.string f.data,.int .i64 f.kept] 44)) (some 47) (.slice (some ⟨W.heap.size,0,none⟩) 1 1) (by kernel_rfl) (by kernel_rfl) ((((h).on ((Below.refl _ W).alloc (Nat.le_refl _) (.cells #[.string f.name,.string f.data,.int .i64 f.kept] 44)))).bt) ((T_fr 20 52 [4,16,17,18,19] [(0,a0),(1,.pointer (some ⟨L,0,none⟩)),(2,.pointer (some ⟨V,0,none⟩)),(3,a3),(4,.slice (some ⟨g,0,none⟩) n4 s0),(5,a5),(6,.string x),(7,a7),(8,a8),(9,a9),(10,a10),(11,a11),(12,a12),(13,a13),(14,a14),(15,a15),(16,a16),(17,a17),(32,.pointer (some ⟨L,0,none⟩)),(35,.pointer (some ⟨L,0,none⟩)),(46,.agg #[.string f.name,.string f.data,.int .i64 f.kept]),(47,.slice (some ⟨W.heap.size,0,none⟩) 1 1)] (by kernel_rfl) fun v=>P1 v W h)))
 refine T_start (S:=fun W=>But L w5 W) (by kernel_rfl) h.bt (T_a hq [0,1,2,3,5,6,7,8,9,10,11] (fun w h=>.cons (ldTp _ _ _ (hV w h)) (.cons (ldMp _ _ _ (hT w h)) Lds.nil)) (by kernel_rfl) (T_yld hq 12 (some 44) (.int .i64 (i:Nat)) (by kernel_rfl) (by kernel_rfl) (fun w h=>lkRun0 (B:=B) (X:=.tmp 42) (I:=.tmp 43) (by kernel_rfl) (by kernel_rfl) (by kernel_rfl) (hM w h) hx hc) (T_yld hq 13 (some 45) (.pointer (some ⟨g,i * 3,none⟩)) (by kernel_rfl) (by kernel_rfl) (fun w _=>ixRun0 (cap:=s0) (X:=.tmp 37) (I:=.tmp 44) (by kernel_rfl) (by kernel_rfl) (by kernel_rfl) hi w) (T_a hq [14] (fun w h=>.cons (ldFile _ _ _ _ _ _ (hF w h)) Lds.nil) (by kernel_rfl) ?_))))
 exact T_fr 20 52 [4,15,16,17,18,19] [(0,a0),(1,.pointer (some ⟨L,0,none⟩)),(2,.pointer (some ⟨V,0,none⟩)),(3,a3),(4,.slice (some ⟨g,0,none⟩) n4 s0),(5,a5),(6,.string x),(7,a7),(8,a8),(9,a9),(10,a10),(11,a11),(12,a12),(13,a13),(14,a14),(15,a15),(16,a16),(17,a17),(32,.pointer (some ⟨L,0,none⟩)),(35,.pointer (some ⟨L,0,none⟩)),(46,.agg #[.string f.name,.string f.data,.int .i64 f.kept])] (by kernel_rfl) fun v=>P0 v _ h
end Go.Proofs.Yteikmbkljkkjiaa

namespace Go.Proofs.Yteikmbkljkkjiaa
open Go Go.RowKit
theorem sliceToRun8 {o:Oper} {a:Act} {X Y:Operand} {T:TypeId} {s:ByteArray} {i:Nat} (ho:o.op=.slice T X none (some Y) none) (hx:a.eval X=.string s) (hy:a.eval Y=.int .i64 (i:Nat)) (hT:Try.prog.underlying T=some .string) (h:i≤s.size) (w:World):(execOp a.eval o).run Try.prog w=.ok (.value (.string (s.extract 0 i))) w:=by
 unfold execOp
 have h2:=run_slice_string_to_if (P:=Try.prog) w T s .i64 (i:Int) hT
 rw [if_pos ⟨by omega,by omega⟩,Int.toNat_natCast] at h2
 simp only [ho,hx,hy,Option.map_some,Option.map_none,Sem.run_bind,Sem.run_pure,Instr.sliceAt,run_underlying hT,Result.andThen_ok,h2]
theorem sliceFs0 {o:Oper} {a:Act} {X Y:Operand} {g n cap i:Nat} (ho:o.op=.slice 23 X none (some Y) none) (hx:a.eval X=.slice (some ⟨g,0,none⟩) n cap) (hy:a.eval Y=.int .i64 (i:Nat)) (h:i≤cap) (w:World):(execOp a.eval o).run Try.prog w=.ok (.value (.slice (some ⟨g,0,none⟩) i cap)) w:=by
 have h1:(Instr.sliceAt 23 (.slice (some ⟨g,0,none⟩) n cap) none (some (.int .i64 (i:Nat))) none).run Try.prog w=.ok (.slice (some ⟨g,0,none⟩) i cap) w:=by
  simp [go_sem,h]
 unfold execOp
 simp only [ho,hx,hy,Option.map_some,Option.map_none,Sem.run_bind,Sem.run_pure,Result.andThen_ok,h1]
theorem sliceFs1 {o:Oper} {a:Act} {X Y:Operand} {g n cap i:Nat} (ho:o.op=.slice 23 X (some Y) none none) (hx:a.eval X=.slice (some ⟨g,0,none⟩) n cap) (hy:a.eval Y=.int .i64 (i:Nat)) (h:i≤n) (w:World):(execOp a.eval o).run Try.prog w=.ok (.value (.slice (some (if cap=i then ⟨g,0,none⟩ else ⟨g,i * 3,none⟩)) (n - i) (cap - i))) w:=by
 have h1:(Instr.sliceAt 23 (.slice (some ⟨g,0,none⟩) n cap) (some (.int .i64 (i:Nat))) none none).run Try.prog w=.ok (.slice (some (if cap=i then ⟨g,0,none⟩ else ⟨g,i * 3,none⟩)) (n - i) (cap - i)) w:=by
  simp [go_sem,h]
  split
  · rfl
  · simp
 unfold execOp
 simp only [ho,hx,hy,Option.map_some,Option.map_none,Sem.run_bind,Sem.run_pure,Result.andThen_ok,h1]
structure SpS (R:Nat) (w W:World) (L base:Nat) (v:Value) (b:List UInt8) (q:Nat) (x0 x1 x2:Value) (fs:List Df) (ns:List ByteArray) (ms:List Dm):Prop where
 hR:R < w.heap.size
 hL:w.heap.size≤L∧L < base∧L≠w.heap.size+1∧w.heap.size+2≤base
 mx:MxSt base L W x0 x1 x2 fs ns ms
 b4:W.rowIs (w.heap.size+1) 27 3 (row3 (.slice none 0 0) (.slice none 0 0) (.slice none 0 0))
 fo:∀ f,f∈fs→f.okM
 no:∀ x,x∈ns→x.size≤9223372036854775807
 mo:∀ m,m∈ms→m.okM
 dr:DR R W v b q
 but:But R w W
theorem SpS.draw {{R L base:Nat}} {{w W:World}} {{v:Value}} {{b:List UInt8}} {{q:Nat}} {{x0 x1 x2:Value}} {{fs:List Df}} {{ns:List ByteArray}} {{ms:List Dm}} {W':World} {q':Nat} (h:SpS R w W L base v b q x0 x1 x2 fs ns ms) (hb:But R W W') (hd:DR R W' v b q'):SpS R w W' L base v b q' x0 x1 x2 fs ns ms:=by
 have hR:=h.hR
 have hL:=h.hL
 have k:∀ {e:TypeId} {s:Nat} {y:Value} {n:Nat} {xs:List Value},W.ownsRow base e s y n xs→W'.ownsRow base e s y n xs:=fun ho=>ownsRow_keep ho (fun g e=>hb.at (own_ge ho e).2 (by have:=(own_ge ho e).1;omega))
 exact ⟨hR,hL,⟨h.mx.row.of_block (hb.at h.mx.row.lt (by omega)),k h.mx.o0,k h.mx.o1,k h.mx.o2⟩,h.b4.of_block (hb.at h.b4.lt (by omega)),h.fo,h.no,h.mo,hd,h.but.trans hb⟩
theorem SpS.on {{R L base:Nat}} {{w W:World}} {{v:Value}} {{b:List UInt8}} {{q:Nat}} {{x0 x1 x2:Value}} {{fs:List Df}} {{ns:List ByteArray}} {{ms:List Dm}} {W':World} (h:SpS R w W L base v b q x0 x1 x2 fs ns ms) (hb:Below W.heap.size W W'):SpS R w W' L base v b q x0 x1 x2 fs ns ms:=h.draw (But.of_below hb) (h.dr.on hb)
theorem SpS.setF {R L base:Nat} {w W:World} {v:Value} {b:List UInt8} {q g n cap:Nat} {x1 x2:Value} {fs:List Df} {ns:List ByteArray} {ms:List Dm} (h:SpS R w W L base v b q (.slice (some ⟨g,0,none⟩) n cap) x1 x2 fs ns ms) (hn:n=fs.length) (i j:Nat) (u:Value) (f:Df) (hi:i < fs.length) (hj:j < 3) (hf:f.cs=fs[i].cs.set j u) (ho:f.okM):SpS R w (W.setCell ⟨g,i * 3+j,none⟩ u) L base v b q (.slice (some ⟨g,0,none⟩) n cap) x1 x2 (fs.set i f) ns ms:=by
 subst hn
 have hg:base≤g:=(own_ge h.mx.o0 rfl).1
 have hR:=h.hR
 have hL:=h.hL
 exact ⟨hR,hL,h.mx.setF i j u f hi hj hf,h.b4.of_block (Below.heap_setCell _ _ _ _ (by simp;omega)),okSet h.fo ho,h.no,h.mo,h.dr.set (by omega) _ _,But.setNew8 h.but (by omega) _⟩
theorem SpS.cellF {R L base:Nat} {w W:World} {v:Value} {b:List UInt8} {q g n cap:Nat} {x1 x2:Value} {fs:List Df} {ns:List ByteArray} {ms:List Dm} (h:SpS R w W L base v b q (.slice (some ⟨g,0,none⟩) n cap) x1 x2 fs ns ms) (hn:n=fs.length) (i j:Nat) (hi:i < fs.length) (hj:j < 3):(∃ u,W.cell? ⟨g,i * 3+j,none⟩=some u)∧W.frozen? ⟨g,i * 3+j,none⟩=false:=by
 subst hn
 exact ⟨(h.mx.cellF i j hi hj).1,(h.mx.cellF i j hi hj).2.1⟩
theorem SpS.grown {{R L base:Nat}} {{w W:World}} {{v:Value}} {{b:List UInt8}} {{q:Nat}} {{x0 x1 x2:Value}} {{fs:List Df}} {{ns:List ByteArray}} {{ms:List Dm}} {W':World} {row:Option Nat} (h:SpS R w W L base v b q x0 x1 x2 fs ns ms) (hg:W.grownBy W' row) (hr:∀ g,row=some g→base≤g) (j:Nat) (y:Value):(W'.setCell ⟨L,j,none⟩ y).rowIs (w.heap.size+1) 27 3 (row3 (.slice none 0 0) (.slice none 0 0) (.slice none 0 0))∧DR R (W'.setCell ⟨L,j,none⟩ y) v b q∧But R w (W'.setCell ⟨L,j,none⟩ y):=by
 have hR:=h.hR
 have hL:=h.hL
 have h4:=h.b4.lt
 have hb:But R w W':=h.but.grown8 hg (fun g e=>by have:=hr g e;omega)
 refine ⟨(h.b4.of_block (hg.block _ h.b4.lt (fun e=>by have:=hr _ e.symm;omega))).of_block (Below.heap_setCell _ _ _ _ (by simp;omega)),?_,But.setNew8 hb hL.1 _⟩
 exact (h.dr.block (fun g hlt=>hg.block _ (by omega) (fun e=>by have:=hr _ e.symm;omega)) (h.dr.cells.of_block (hg.block _ (by omega) (fun e=>by have:=hr _ e.symm;omega)))).set (by omega) _ _
theorem SpS.newF {{R L base:Nat}} {{w W:World}} {{v:Value}} {{b:List UInt8}} {{q:Nat}} {{x0 x1 x2:Value}} {{fs:List Df}} {{ns:List ByteArray}} {{ms:List Dm}} {W':World} (h:SpS R w W L base v b q x0 x1 x2 fs ns ms) (y:Value) (fs':List Df) (ho:W'.ownsRow base 44 3 y fs'.length (fs'.map Df.cs).flatten) (hg:W.grownBy W' x0.ownBlock) (hf:∀ f,f∈fs'→f.okM):SpS R w (W'.setCell ⟨L,0,none⟩ y) L base v b q y x1 x2 fs' ns ms:=by
 have hRw:W'.rowIs L 27 3 (row3 x0 x1 x2):=h.mx.row.of_block (hg.block _ h.mx.row.lt (fun e=>own_apart h.mx.o0 h.mx.row (by decide) e.symm))
 have h1:=ownsRow_keep h.mx.o1 (fun g e=>hg.block g (h.mx.o1.lt g e).2 (fun e2=>own_ne h.mx.o0 h.mx.o1 (by decide) g e2.symm e))
 have h2:=ownsRow_keep h.mx.o2 (fun g e=>hg.block g (h.mx.o2.lt g e).2 (fun e2=>own_ne h.mx.o0 h.mx.o2 (by decide) g e2.symm e))
 obtain ⟨g1,g2,g3⟩:=h.grown hg (fun g e=>(own_ge h.mx.o0 e).1) 0 y
 exact ⟨h.hR,h.hL,⟨(crow_set hRw y).1,ownsRow_setCell_other ho (own_apart ho hRw (by decide)) _,ownsRow_setCell_other h1 (own_apart h1 hRw (by decide)) _,ownsRow_setCell_other h2 (own_apart h2 hRw (by decide)) _⟩,g1,hf,h.no,h.mo,g2,g3⟩
theorem SpS.newN {{R L base:Nat}} {{w W:World}} {{v:Value}} {{b:List UInt8}} {{q:Nat}} {{x0 x1 x2:Value}} {{fs:List Df}} {{ns:List ByteArray}} {{ms:List Dm}} {W':World} (h:SpS R w W L base v b q x0 x1 x2 fs ns ms) (y:Value) (ns':List ByteArray) (ho:W'.ownsRow base 9 1 y ns'.length (ns'.map Value.string)) (hg:W.grownBy W' x1.ownBlock) (hf:∀ x,x∈ns'→x.size≤9223372036854775807):SpS R w (W'.setCell ⟨L,1,none⟩ y) L base v b q x0 y x2 fs ns' ms:=by
 have hRw:W'.rowIs L 27 3 (row3 x0 x1 x2):=h.mx.row.of_block (hg.block _ h.mx.row.lt (fun e=>own_apart h.mx.o1 h.mx.row (by decide) e.symm))
 have h0:=ownsRow_keep h.mx.o0 (fun g e=>hg.block g (h.mx.o0.lt g e).2 (fun e2=>own_ne h.mx.o0 h.mx.o1 (by decide) g e e2.symm))
 have h2:=ownsRow_keep h.mx.o2 (fun g e=>hg.block g (h.mx.o2.lt g e).2 (fun e2=>own_ne h.mx.o1 h.mx.o2 (by decide) g e2.symm e))
 obtain ⟨g1,g2,g3⟩:=h.grown hg (fun g e=>(own_ge h.mx.o1 e).1) 1 y
 exact ⟨h.hR,h.hL,⟨(crow_set hRw y).2,ownsRow_setCell_other h0 (own_apart h0 hRw (by decide)) _,ownsRow_setCell_other ho (own_apart ho hRw (by decide)) _,ownsRow_setCell_other h2 (own_apart h2 hRw (by decide)) _⟩,g1,h.fo,hf,h.mo,g2,g3⟩
theorem SpS.newM {{R L base:Nat}} {{w W:World}} {{v:Value}} {{b:List UInt8}} {{q:Nat}} {{x0 x1 x2:Value}} {{fs:List Df}} {{ns:List ByteArray}} {{ms:List Dm}} {W':World} (h:SpS R w W L base v b q x0 x1 x2 fs ns ms) (y:Value) (ms':List Dm) (ho:W'.ownsRow base 60 2 y ms'.length (ms'.map Dm.cs).flatten) (hg:W.grownBy W' x2.ownBlock) (hf:∀ m,m∈ms'→m.okM):SpS R w (W'.setCell ⟨L,2,none⟩ y) L base v b q x0 x1 y fs ns ms':=by
 have hRw:W'.rowIs L 27 3 (row3 x0 x1 x2):=h.mx.row.of_block (hg.block _ h.mx.row.lt (fun e=>own_apart h.mx.o2 h.mx.row (by decide) e.symm))
 have h0:=ownsRow_keep h.mx.o0 (fun g e=>hg.block g (h.mx.o0.lt g e).2 (fun e2=>own_ne h.mx.o0 h.mx.o2 (by decide) g e e2.symm))
 have h1:=ownsRow_keep h.mx.o1 (fun g e=>hg.block g (h.mx.o1.lt g e).2 (fun e2=>own_ne h.mx.o1 h.mx.o2 (by decide) g e e2.symm))
 obtain ⟨g1,g2,g3⟩:=h.grown hg (fun g e=>(own_ge h.mx.o2 e).1) 2 y
 exact ⟨h.hR,h.hL,⟨crow_set2 hRw y,ownsRow_setCell_other h0 (own_apart h0 hRw (by decide)) _,ownsRow_setCell_other h1 (own_apart h1 hRw (by decide)) _,ownsRow_setCell_other ho (own_apart ho hRw (by decide)) _⟩,g1,h.fo,h.no,hf,g2,g3⟩
def SpE (R:Nat) (w w':World) (v:Value) (b:List UInt8) (p most:Nat) (e:Ending):Prop :=
 ∃ (d:Dk) (c:C3) (p':Nat),e=.returned (.agg #[c.c0,c.c1,c.c2])∧DkAt (New w w') w' d c∧p'≤p+most∧Hid (DR R w' v b p')∧Hid (But R w w')
end Go.Proofs.Yteikmbkljkkjiaa

namespace Go.Proofs.Yteikmbkljkkjiaa
open Go Go.RowKit
theorem l6Many_huge (w:World) (s:ByteArray) (n:Nat) (hs:s.size≤2) (hn:n≤30000) :
 Calls Try.prog 23 #[.string s,.int .i64 (n:Int)] w fun e w'=>∃ out:ByteArray,e=.returned (.string out)∧out.size≤60000∧w'=w:=by
 have h0:n * s.size≤60000:=Nat.le_trans (Nat.mul_le_mul hn hs) (by decide)
 go_enter Try.func23,Try.ntmps23
 go_wp2_with fail
 go_loopw [0,1,5] (fun s0 nn oo wr=>∃ (m:Nat) (x out:ByteArray),s0=.string x∧nn=.int .i64 (m:Int)∧oo=.string out∧m≤30000∧out.size+m * x.size≤60000∧x.size≤120000∧Hid (wr=w)) (fun _ nn _ _=>(intOf nn).toNat)
 case atStart=>exact ⟨n,s,⟨#[]⟩,rfl,rfl,rfl,hn,by show 0+_≤_;omega,by omega,rfl⟩
 case round =>
  obtain ⟨m,x,out,rfl,rfl,rfl,hm,hmx,hx,HW⟩:=hrel
  by_cases hm0:m=0
  · have hq:decide ((0:Int) < (m:Int))=false:=by simp;omega
    have hqn:decide (0 < m)=false:=by simp;omega
    clear hm0
    go_wp2_with fail
    go_ret
    exact ⟨out,rfl,by omega,HW.out⟩
  · have hq:decide ((0:Int) < (m:Int))=true:=by simp;omega
    have hqn:decide (0 < m)=true:=by simp;omega
    have hxm:x.size≤m * x.size:=Nat.le_mul_of_pos_left _ (by omega)
    have hl1:¬ (9223372036854775807 < x.size+x.size):=by omega
    have hl2:¬ (9223372036854775807 < out.size+x.size):=by omega
    have hsx:(x++x).size=x.size+x.size:=ByteArray.size_append
    have hso:(out++x).size=out.size+x.size:=ByteArray.size_append
    rcases (show (m:Int) % 2=0∨(m:Int) % 2=1 by omega) with he | he
    · have hh:=half_even m x.size (by omega)
      go_wp2_with fail
      go_roundw
      case rel=>exact ⟨m / 2,x++x,out,rfl,by go_num,rfl,by omega,by rw [hsx];omega,by rw [hsx];omega,HW⟩
      case measure=>simp [intOf];omega
    · have hh:=half_odd m x.size (by omega)
      go_wp2_with fail
      go_roundw
      case rel=>exact ⟨m / 2,x++x,out++x,rfl,by go_num,rfl,by omega,by rw [hsx,hso];omega,by rw [hsx];omega,HW⟩
      case measure=>simp [intOf];omega
end Go.Proofs.Yteikmbkljkkjiaa
