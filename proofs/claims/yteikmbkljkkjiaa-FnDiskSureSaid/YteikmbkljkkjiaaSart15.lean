/- A part. -/
import Derived.Test.YteikmbkljkkjiaaSart14
namespace Go.Proofs.Yteikmbkljkkjiaa
open Go Go.RowKit
set_option maxRecDepth 100000
set_option maxHeartbeats 12800000
theorem ixRunP8 {o:Oper} {a:Act} {X I:Operand} {g p n cap i:Nat} (ho:o.op=.indexAddr 113 X I) (hx:a.eval X=.slice (some ⟨g,p,none⟩) n cap) (hi:a.eval I=.int .i64 (i:Nat)) (h:i < n) (w:World):(execOp a.eval o).run Try.prog w=.ok (.value (.pointer (some ⟨g,p+i * 4,none⟩))) w:=by
 have h1:(0:Int)≤(i:Int)∧(i:Int) < (n:Int):=⟨by omega,by omega⟩
 have h2:(Instr.indexAt 113 (.slice (some ⟨g,p,none⟩) n cap) (.int .i64 (i:Nat))).run Try.prog w=.ok (.pointer (some ⟨g,p+i * 4,none⟩)) w:=by
  have e:(⟨g,p+i * 4,none⟩:Addr)=(⟨g,p,none⟩:Addr).add (i * 4):=by simp [Addr.add]
  rw [e]
  simp [go_sem,h1]
 unfold execOp
 simp only [ho,hx,hi,Sem.run_bind,Sem.run_pure,Result.andThen_ok,h2]
theorem info4P:(Try.prog.info? 138).map (·.size)=some 4:=by kernel_rfl
theorem rowPartO:∃ d,Try.prog.underlying 138=some d∧d.isRow=true:=⟨_,Try.underlying138,by rfl⟩
theorem P4At.on {w w':World} {b o:Nat} {q:Pt} (h:P4At w b o q) (hb:w'.heap[b]? = w.heap[b]?):P4At w' b o q:=h.carry hb
theorem ldPart {w:World} {b o:Nat} {q:Pt} (h:P4At w b o q):(Instr.loadAt 138 (.pointer (some ⟨b,o,none⟩))).run Try.prog w=.ok (.agg #[.int .i64 q.num,.int .i64 q.first,.int .i64 q.next,.int .i64 q.size]) w:=by
 have hr:w.rangeAt b o [.int .i64 q.num,.int .i64 q.first,.int .i64 q.next,.int .i64 q.size]:=fun j v hv=>by
  match j,hv with
  | 0,hv=>simp only [List.getElem?_cons_zero,Option.some.injEq] at hv;subst hv;exact h.e0
  | 1,hv=>simp only [List.getElem?_cons_succ,List.getElem?_cons_zero,Option.some.injEq] at hv;subst hv;exact h.e1
  | 2,hv=>simp only [List.getElem?_cons_succ,List.getElem?_cons_zero,Option.some.injEq] at hv;subst hv;exact h.e2
  | 3,hv=>simp only [List.getElem?_cons_succ,List.getElem?_cons_zero,Option.some.injEq] at hv;subst hv;exact h.e3
  | j+4,hv=>simp at hv
 obtain ⟨dd,hdu,hdr⟩:=rowPartO
 unfold Instr.loadAt
 simp only [Instr.sureAddr,Sem.run_bind,Sem.run_pure,Result.andThen_ok,run_loadVar_mid w b o 138 _ dd hr hdu hdr info4P]
noncomputable def lo10Ops:Array Oper:=fops Try.f69 10
theorem lo10_neat:Region.noSelect lo10Ops=true∧neat lo10Ops=true:=⟨by kernel_rfl,by kernel_rfl⟩
def kp_lo10 (z:Nat→Value):List (Nat × Value):=[(0,z 0),(2,z 2),(4,z 4),(5,z 5),(9,z 9),(10,z 10),(11,z 11),(12,z 12),(13,z 13),(14,z 14),(15,z 15),(16,z 16),(17,z 17),(18,z 18),(19,z 19),(20,z 20),(21,z 21),(22,z 22),(23,z 23),(24,z 24),(25,z 25),(26,z 26),(27,z 27),(28,z 28),(29,z 29),(30,z 30),(31,z 31),(32,z 32),(33,z 33),(34,z 34),(35,z 35),(46,z 46),(47,z 47),(48,z 48),(49,z 49),(50,z 50),(51,z 51),(52,z 52),(53,z 53),(54,z 54),(55,z 55),(56,z 56),(57,z 57),(58,z 58),(59,z 59),(60,z 60),(61,z 61),(62,z 62),(63,z 63),(64,z 64),(65,z 65),(66,z 66),(67,z 67),(68,z 68),(69,z 69),(70,z 70),(71,z 71),(72,z 72),(73,z 73),(74,z 74),(75,z 75),(76,z 76),(77,z 77),(78,z 78),(79,z 79),(80,z 80),(81,z 81),(82,z 82),(83,z 83),(84,z 84),(85,z 85),(86,z 86),(87,z 87),(88,z 88),(89,z 89),(90,z 90),(91,z 91),(92,z 92),(93,z 93),(94,z 94),(95,z 95),(96,z 96),(97,z 97),(98,z 98),(99,z 99),(100,z 100),(101,z 101),(102,z 102),(103,z 103),(104,z 104),(105,z 105),(106,z 106)]
theorem lo10z (z:Nat→Value) (LL:(Nat→Value)→Value→Bool→List Value) (B1 B3 g p n cap i:Nat) (c:C3) (q:Pt) (W0:World) {l:List Value} (Q:Exit→Act→World→Prop) (hQ:∀ c a d v w,Q (.panic c) (Act.put a d v) w→Q (.panic c) a w) (h1:W0.drew.rowIs B1 27 3 (row3 c.c0 c.c1 c.c2)) (hB3:B3 < W0.drew.heap.size) (h3:W0.drew.cell? ⟨B3,0,none⟩=some (.slice (some ⟨g,p,none⟩) n cap)) (hg:g < W0.drew.heap.size) (hq4:P4At W0.drew g (p+i * 4) q) (hi:i < n) (HK:∀ W,Below W0.drew.heap.size W0.drew W→Calls Try.prog 86 #[.agg #[c.c0,c.c1,c.c2],.agg #[.int .i64 q.num,.int .i64 q.first,.int .i64 q.next,.int .i64 q.size]] W fun e w'=>PaEnd W w' e)
 (hl:lookL (kp_lo10 z++[(1,.pointer (some ⟨B1,0,none⟩)),(3,.pointer (some ⟨B3,0,none⟩)),(6,.int .i64 (i:Nat))]) l=(107,((kp_lo10 z++[(1,.pointer (some ⟨B1,0,none⟩)),(3,.pointer (some ⟨B3,0,none⟩)),(6,.int .i64 (i:Nat))]):List (Nat × Value)).map (·.2)))
 (hfr:∀ (u:Nat→Value) (v:Value) (b:Bool),frL u 107 (kp_lo10 z++[(1,.pointer (some ⟨B1,0,none⟩)),(3,.pointer (some ⟨B3,0,none⟩)),(6,.int .i64 (i:Nat)),(7,v),(8,.bool b)])=LL u v b)
 (hend:∀ (u:Nat→Value) (v:Value) (b:Bool) (W:World),Below W0.drew.heap.size W0.drew W→(∃ Lr,RcsAt (New W0.drew W) W v Lr∧Lr.length≤4000)→Q .normal ⟨(LL u v b).toArray,[]⟩ W):(Code.region 10 lo10Ops true).wp Try.prog Q ⟨l.toArray,[]⟩ W0:=by
 obtain ⟨v0,rfl⟩:=look_fr hl
 have hq:NtQ lo10Ops Q:=⟨lo10_neat,hQ⟩
 refine T_start (S:=fun W=>Below W0.drew.heap.size W0.drew W) (by kernel_rfl) (Below.refl _ _) ?_
 clear hl hQ
 generalize W0.drew=V at h1 hB3 h3 hg hq4 HK hend ⊢
 refine T_a hq [0,1,2,3] (fun w h=>.cons (ldDk (h1.of_block (h.block _ h1.lt))) (.cons (ldPts _ _ _ ((h.cell hB3).trans h3)) (Lds.nil))) (by kernel_rfl) ?_
 refine T_yld hq 4 (some 41) (.pointer (some ⟨g,p+i * 4,none⟩)) (by kernel_rfl) (by kernel_rfl) (fun w h=>ixRunP8 (X:=.tmp 39) (I:=.tmp 40) (n:=n) (cap:=cap) (i:=i) (by kernel_rfl) (by kernel_rfl) (by kernel_rfl) hi w) ?_
 refine T_a hq [5] (fun w h=>.cons (ldPart (hq4.on (h.block _ hg))) (Lds.nil)) (by kernel_rfl) ?_
 refine T_fr 12 107 [6,7,8,9,10,11] (kp_lo10 z++[(1,.pointer (some ⟨B1,0,none⟩)),(3,.pointer (some ⟨B3,0,none⟩)),(6,.int .i64 (i:Nat)),(37,.agg #[c.c0,c.c1,c.c2]),(42,.agg #[.int .i64 q.num,.int .i64 q.first,.int .i64 q.next,.int .i64 q.size])]) (by kernel_rfl) fun u=>?_
 refine T_one 6 (by kernel_rfl) fun _=>O_go (HK V (Below.refl _ _)) (by kernel_rfl) ?_
 rintro e w1 ⟨Lr,v,b,rfl,hv,hl4,hb1⟩
 refine ⟨_,rfl,hb1,?_⟩
 refine T_z hq [7,8,9,10,11] (by kernel_rfl) ?_
 exact T_end 107 (kp_lo10 z++[(1,.pointer (some ⟨B1,0,none⟩)),(3,.pointer (some ⟨B3,0,none⟩)),(6,.int .i64 (i:Nat)),(7,v),(8,.bool b)]) (by kernel_rfl) (by kernel_rfl) fun hS u=>by rw [hfr];exact hend u v b w1 hS ⟨Lr,hv,hl4⟩
theorem lo10 (B1 B3 g p n cap i:Nat) (c:C3) (q:Pt) (W0:World) {l:List Value} (Q:Exit→Act→World→Prop) (hQ:∀ c a d v w,Q (.panic c) (Act.put a d v) w→Q (.panic c) a w) (h1:W0.drew.rowIs B1 27 3 (row3 c.c0 c.c1 c.c2)) (hB3:B3 < W0.drew.heap.size) (h3:W0.drew.cell? ⟨B3,0,none⟩=some (.slice (some ⟨g,p,none⟩) n cap)) (hg:g < W0.drew.heap.size) (hq4:P4At W0.drew g (p+i * 4) q) (hi:i < n) (HK:∀ W,Below W0.drew.heap.size W0.drew W→Calls Try.prog 86 #[.agg #[c.c0,c.c1,c.c2],.agg #[.int .i64 q.num,.int .i64 q.first,.int .i64 q.next,.int .i64 q.size]] W fun e w'=>PaEnd W w' e)
 (hl:lookL (kp_lo10 (fun i=>l.getD i undef)++[(1,.pointer (some ⟨B1,0,none⟩)),(3,.pointer (some ⟨B3,0,none⟩)),(6,.int .i64 (i:Nat))]) l=(107,((kp_lo10 (fun i=>l.getD i undef)++[(1,.pointer (some ⟨B1,0,none⟩)),(3,.pointer (some ⟨B3,0,none⟩)),(6,.int .i64 (i:Nat))]):List (Nat × Value)).map (·.2)))
 (hfr:∀ (u:Nat→Value) (v:Value) (b:Bool),frL u 107 (kp_lo10 (fun i=>l.getD i undef)++[(1,.pointer (some ⟨B1,0,none⟩)),(3,.pointer (some ⟨B3,0,none⟩)),(6,.int .i64 (i:Nat)),(7,v),(8,.bool b)])=(l.take 7++(v::(.bool b::((l.drop 9).take 27++(u 36::(u 37::(u 38::(u 39::(u 40::(u 41::(u 42::(u 43::(u 44::(u 45::l.drop 46)))))))))))))))
 (hend:∀ (u:Nat→Value) (v:Value) (b:Bool) (W:World),Below W0.drew.heap.size W0.drew W→(∃ Lr,RcsAt (New W0.drew W) W v Lr∧Lr.length≤4000)→Q .normal ⟨((l.take 7++(v::(.bool b::((l.drop 9).take 27++(u 36::(u 37::(u 38::(u 39::(u 40::(u 41::(u 42::(u 43::(u 44::(u 45::l.drop 46))))))))))))))).toArray,[]⟩ W):(Code.region 10 lo10Ops true).wp Try.prog Q ⟨l.toArray,[]⟩ W0 :=
 lo10z (fun i=>l.getD i undef) (fun u v b=>(l.take 7++(v::(.bool b::((l.drop 9).take 27++(u 36::(u 37::(u 38::(u 39::(u 40::(u 41::(u 42::(u 43::(u 44::(u 45::l.drop 46))))))))))))))) B1 B3 g p n cap i c q W0 Q hQ h1 hB3 h3 hg hq4 hi HK hl hfr hend
noncomputable def lo14Ops:Array Oper:=fops Try.f69 14
theorem lo14_neat:Region.noSelect lo14Ops=true∧neat lo14Ops=true:=⟨by kernel_rfl,by kernel_rfl⟩
theorem lo14 (B1 B2 B3 B5:Nat) (c:C3) (z:Int) (D y:ByteArray) (b:Bool) (W0:World) {l:List Value} (Q:Exit→Act→World→Prop) (hQ:∀ c a d v w,Q (.panic c) (Act.put a d v) w→Q (.panic c) a w) (h1:W0.drew.rowIs B1 27 3 (row3 c.c0 c.c1 c.c2)) (hB3:B3 < W0.drew.heap.size) (h3:W0.drew.cell? ⟨B3,1,none⟩=some (.int .i64 z)) (hDs:D.size≤100) (HD:∀ W,Calls Try.prog 71 #[.int .i64 z] W fun e w'=>e=.returned (.string D)∧Below W.heap.size W w') (HK:∀ W,Below W0.drew.heap.size W0.drew W→Calls Try.prog 9 #[.agg #[c.c0,c.c1,c.c2],.string (⟨#[115]⟩++D)] W fun e w'=>e=.returned (.tuple #[.string y,.bool b])∧Below W.heap.size W w')
 (hl:lookL [(1,.pointer (some ⟨B1,0,none⟩)),(2,.pointer (some ⟨B2,0,none⟩)),(3,.pointer (some ⟨B3,0,none⟩)),(5,.pointer (some ⟨B5,0,none⟩))] l=(107,([(1,.pointer (some ⟨B1,0,none⟩)),(2,.pointer (some ⟨B2,0,none⟩)),(3,.pointer (some ⟨B3,0,none⟩)),(5,.pointer (some ⟨B5,0,none⟩))]:List (Nat × Value)).map (·.2)))
 (hend:∀ (u:Nat→Value) (W:World),Below W0.drew.heap.size W0.drew W→Q .normal ⟨(frL u 107 [(1,.pointer (some ⟨B1,0,none⟩)),(2,.pointer (some ⟨B2,0,none⟩)),(3,.pointer (some ⟨B3,0,none⟩)),(5,.pointer (some ⟨B5,0,none⟩)),(9,.string y),(10,.bool b)]).toArray,[]⟩ W):(Code.region 14 lo14Ops true).wp Try.prog Q ⟨l.toArray,[]⟩ W0:=by
 obtain ⟨v0,rfl⟩:=look_fr hl
 have hq:NtQ lo14Ops Q:=⟨lo14_neat,hQ⟩
 refine T_start (S:=fun W=>Below W0.drew.heap.size W0.drew W) (by kernel_rfl) (Below.refl _ _) ?_
 clear hl hQ
 generalize W0.drew=V at h1 hB3 h3 HK hend ⊢
 refine T_a hq [0,1,2] (fun w h=>.cons (ldDk (h1.of_block (h.block _ h1.lt))) (.cons (ldIntR _ _ _ ((h.cell hB3).trans h3)) (Lds.nil))) (by kernel_rfl) ?_
 refine T_fr 11 107 [3,4,5,6,7,8,9,10] [(1,.pointer (some ⟨B1,0,none⟩)),(2,.pointer (some ⟨B2,0,none⟩)),(3,.pointer (some ⟨B3,0,none⟩)),(5,.pointer (some ⟨B5,0,none⟩)),(55,.agg #[c.c0,c.c1,c.c2]),(56,.pointer (some ⟨B3,1,none⟩)),(57,.int .i64 z)] (by kernel_rfl) fun u=>?_
 refine T_one 3 (by kernel_rfl) fun _=>O_go (HD V) (by kernel_rfl) ?_
 rintro e w1 ⟨rfl,hb1⟩
 refine ⟨_,rfl,hb1,?_⟩
 refine T_yld hq 4 (some 59) (.string (⟨#[115]⟩++D)) (by kernel_rfl) (by kernel_rfl) (fun w h=>addRun (T:=9) (X:=.const (.string ⟨#[115]⟩)) (Y:=.tmp 58) (p:=⟨#[115]⟩) (q:=D) (by kernel_rfl) (by kernel_rfl) (by kernel_rfl) (by have e:(⟨#[115]⟩:ByteArray).size=1:=rfl;omega) w) ?_
 refine T_fr 11 107 [5,6,7,8,9,10] [(1,.pointer (some ⟨B1,0,none⟩)),(2,.pointer (some ⟨B2,0,none⟩)),(3,.pointer (some ⟨B3,0,none⟩)),(5,.pointer (some ⟨B5,0,none⟩)),(55,.agg #[c.c0,c.c1,c.c2]),(56,.pointer (some ⟨B3,1,none⟩)),(57,.int .i64 z),(58,.string D),(59,.string (⟨#[115]⟩++D))] (by kernel_rfl) fun u=>?_
 refine T_one 5 (by kernel_rfl) fun _=>O_go (HK w1 hb1) (by kernel_rfl) ?_
 rintro e w2 ⟨rfl,hb2⟩
 refine ⟨_,rfl,hb1.trans (hb2.mono hb1.size),?_⟩
 refine T_z hq [6,7,8,9,10] (by kernel_rfl) ?_
 exact T_end 107 [(1,.pointer (some ⟨B1,0,none⟩)),(2,.pointer (some ⟨B2,0,none⟩)),(3,.pointer (some ⟨B3,0,none⟩)),(5,.pointer (some ⟨B5,0,none⟩)),(9,.string y),(10,.bool b)] (by kernel_rfl) (by kernel_rfl) fun hS u=>hend u w2 hS
def row9 (c0 c1 c2 c3 c4 c5 c6 c7 c8:Value):Nat→Value
 | 0=>c0 | 1=>c1 | 2=>c2 | 3=>c3 | 4=>c4 | 5=>c5 | 6=>c6 | 7=>c7 | _=>c8
theorem nine {i:Nat} (h:i < 9):i=0∨i=1∨i=2∨i=3∨i=4∨i=5∨i=6∨i=7∨i=8:=by omega
theorem row9_alloc (w:World) (c0 c1 c2 c3 c4 c5 c6 c7 c8:Value) (t:TypeId):(w.alloc (.cells #[c0,c1,c2,c3,c4,c5,c6,c7,c8] t)).rowIs w.heap.size t 9 (row9 c0 c1 c2 c3 c4 c5 c6 c7 c8) :=
 World.rowIs_alloc w #[c0,c1,c2,c3,c4,c5,c6,c7,c8] t _ (fun i hi=>by
  have hi':i < 9:=hi
  rcases nine hi' with rfl | rfl | rfl | rfl | rfl | rfl | rfl | rfl | rfl <;> rfl)
theorem row9_set8 {W:World} {B:Nat} {T:TypeId} {c0 c1 c2 c3 c4 c5 c6 c7 c8:Value} (h:W.rowIs B T 9 (row9 c0 c1 c2 c3 c4 c5 c6 c7 c8)) (v:Value):(W.setCell ⟨B,8,none⟩ v).rowIs B T 9 (row9 c0 c1 c2 c3 c4 c5 c6 c7 v) :=
 (h.set 8 v).congr (fun i hi=>by rcases nine hi with rfl | rfl | rfl | rfl | rfl | rfl | rfl | rfl | rfl <;> rfl)
theorem cell9 {W:World} {B:Nat} {T:TypeId} {c0 c1 c2 c3 c4 c5 c6 c7 c8:Value} (h:W.rowIs B T 9 (row9 c0 c1 c2 c3 c4 c5 c6 c7 c8)) :
 W.cell? ⟨B,0,none⟩=some c0∧W.cell? ⟨B,1,none⟩=some c1∧W.cell? ⟨B,2,none⟩=some c2∧W.cell? ⟨B,3,none⟩=some c3∧W.cell? ⟨B,4,none⟩=some c4∧W.cell? ⟨B,5,none⟩=some c5∧W.cell? ⟨B,6,none⟩=some c6∧W.cell? ⟨B,7,none⟩=some c7∧W.cell? ⟨B,8,none⟩=some c8 :=
 ⟨h.cell (i:=0) (by omega),h.cell (i:=1) (by omega),h.cell (i:=2) (by omega),h.cell (i:=3) (by omega),h.cell (i:=4) (by omega),h.cell (i:=5) (by omega),h.cell (i:=6) (by omega),h.cell (i:=7) (by omega),h.cell (i:=8) (by omega)⟩
theorem recs_one (L:List Rc):∀ u∈(L.map Rc.cs).flatten,u.oneCell'=true:=fun u hu=>by
 obtain ⟨r,hr,hu⟩:=List.mem_flatten.1 hu
 obtain ⟨x,-,rfl⟩:=List.mem_map.1 hr
 simp only [Rc.cs,List.mem_cons,List.not_mem_nil,or_false] at hu
 rcases hu with rfl | rfl <;> rfl
def OpEnd (d:Dk) (w w':World) (e:Ending):Prop:=∃ (code num size next:Int) (torn:Bool) (l:Pl) (vP:Value) (a8:Option Addr) (n8 p8:Nat),e=.returned (.agg #[.int .i64 code,.int .i64 num,vP,.int .i64 l.op,.int .i64 l.fi,.int .i64 size,.bool torn,.int .i64 next,.slice a8 n8 p8])∧PtsAt (New w w') w' vP l.parts∧l.parts.length≤40∧(∀ p,p∈l.parts→1≤p.num∧p.num≤999999)∧(0≤num∧num≤999999)∧(0≤l.op∧l.op≤999999)∧(code=7∨DkOkS d)∧Below w.heap.size w w'
structure OpS (w W:World) (c:C3) (B3 B5:Nat) (num:Int) (l:Pl) (vP:Value) (ra:Option Addr) (n rc:Nat):Prop where
 below:Below w.heap.size w W
 b1:W.rowIs w.heap.size 27 3 (row3 c.c0 c.c1 c.c2)
 b2:W.rowIs (w.heap.size+1) 118 9 (row9 (.int .i64 0) (.int .i64 0) (.slice none 0 0) (.int .i64 0) (.int .i64 0) (.int .i64 0) (.bool false) (.int .i64 0) (.slice none 0 0))
 b3:W.rowIs B3 115 3 (row3 vP (.int .i64 l.op) (.int .i64 l.fi))
 b5:W.rowIs B5 118 9 (row9 (.int .i64 0) (.int .i64 num) vP (.int .i64 l.op) (.int .i64 l.fi) (.int .i64 0) (.bool false) (.int .i64 0) (.slice ra n rc))
 pts:PtsAt (fun b=>w.heap.size+2≤b∧b < B3) W vP l.parts
 row:∃ xs,W.ownsRow (B5+1) 146 2 (.slice ra n rc) n xs
 lo:w.heap.size+2≤B3
 h35:B3 < B5
theorem own_on {W W':World} {base:Nat} {e:TypeId} {size:Nat} {v:Value} {n:Nat} {xs:List Value} (h:W.ownsRow base e size v n xs) (hb:Below W.heap.size W W'):W'.ownsRow base e size v n xs:=by
 refine ownsRow_keepR h (fun g hg=>hb.block g ?_)
 rcases h.2 with ⟨hv,_⟩ | ⟨g',cap,cur,hv,_,hh,_⟩
 · rw [hv] at hg;cases hg
 · rw [hv] at hg
   obtain rfl:g'=g:=Option.some.inj (show some g'=some g from hg)
   exact (Array.getElem?_eq_some_iff.1 hh).1
theorem OpS.on {w W W':World} {c:C3} {B3 B5:Nat} {num:Int} {l:Pl} {vP:Value} {ra:Option Addr} {n rc:Nat} (h:OpS w W c B3 B5 num l vP ra n rc) (hb:Below W.heap.size W W'):OpS w W' c B3 B5 num l vP ra n rc:=by
 have h3:=h.b3.lt
 obtain ⟨xs,hx⟩:=h.row
 exact ⟨h.below.trans (hb.mono h.below.size),h.b1.of_block (hb.block _ h.b1.lt),h.b2.of_block (hb.block _ h.b2.lt),h.b3.of_block (hb.block _ h3),h.b5.of_block (hb.block _ h.b5.lt),h.pts.carry (fun b hb'=>hb.block b (by omega)) (fun _ h=>h),⟨xs,own_on hx hb⟩,h.lo,h.h35⟩
theorem own_ge {W:World} {base:Nat} {e:TypeId} {size:Nat} {v:Value} {n:Nat} {xs:List Value} (h:W.ownsRow base e size v n xs) {g:Nat} (hg:v.ownBlock=some g):base≤g∧g < W.heap.size:=by
 rcases h.2 with ⟨hv,_⟩ | ⟨g',cap,cur,hv,hb,hh,_⟩
 · rw [hv] at hg;cases hg
 · rw [hv] at hg
   obtain rfl:g'=g:=Option.some.inj (show some g'=some g from hg)
   exact ⟨hb,(Array.getElem?_eq_some_iff.1 hh).1⟩
theorem OpS.app {w W W':World} {c:C3} {B3 B5:Nat} {num:Int} {l:Pl} {vP:Value} {ra ra':Option Addr} {n rc n' rc':Nat} {xs:List Value} (h:OpS w W c B3 B5 num l vP ra n rc) (ho:W'.ownsRow (B5+1) 146 2 (.slice ra' n' rc') n' xs) (hg:W.grownBy W' (Value.slice ra n rc).ownBlock):OpS w (W'.setCell ⟨B5,8,none⟩ (.slice ra' n' rc')) c B3 B5 num l vP ra' n' rc':=by
 have h3:=h.b3.lt;have h5:=h.b5.lt;have h35:=h.h35;have hlo:=h.lo;have hsz:=h.below.size
 obtain ⟨ys,hy⟩:=h.row
 have hne:∀ b,b≤B5→some b≠(Value.slice ra n rc).ownBlock:=fun b hb e=>by have:=(own_ge hy e.symm).1;omega
 have hbk:∀ b,b≤B5→W'.heap[b]? = W.heap[b]? := fun b hb=>hg.block b (by omega) (hne b hb)
 have hs:∀ b,b≠B5→(W'.setCell ⟨B5,8,none⟩ (.slice ra' n' rc')).heap[b]? = W'.heap[b]? := fun b hb=>Below.heap_setCell _ _ _ _ hb
 refine ⟨(h.below.trans ⟨hg.os,hg.tape,hg.output,hg.size,fun b hb=>hbk b (by omega)⟩).setCell (by show w.heap.size≤B5;omega) _,h.b1.of_block ((hs _ (by omega)).trans (hbk _ (by omega))),h.b2.of_block ((hs _ (by omega)).trans (hbk _ (by omega))),h.b3.of_block ((hs _ (by omega)).trans (hbk _ (by omega))),row9_set8 (h.b5.of_block (hbk _ (Nat.le_refl _))) _,h.pts.carry (fun b hb=>(hs b (by omega)).trans (hbk b (by omega))) (fun _ h=>h),⟨xs,ownsRow_keepR ho (fun g hg'=>hs g (by have:=(own_ge ho hg').1;omega))⟩,hlo,h35⟩
theorem set9f (W:World) (B:Nat) (v0 v1 v2 v3 v4 v5 v6 v7 v8:Value) :
 (∀ a,a≠B→((((((((((W.setCell ⟨B,0,none⟩ (v0)).setCell ⟨B,1,none⟩ (v1)).setCell ⟨B,2,none⟩ (v2)).setCell ⟨B,3,none⟩ (v3)).setCell ⟨B,4,none⟩ (v4)).setCell ⟨B,5,none⟩ (v5)).setCell ⟨B,6,none⟩ (v6)).setCell ⟨B,7,none⟩ (v7)).setCell ⟨B,8,none⟩ (v8))).heap[a]? = W.heap[a]?)∧((((((((((W.setCell ⟨B,0,none⟩ (v0)).setCell ⟨B,1,none⟩ (v1)).setCell ⟨B,2,none⟩ (v2)).setCell ⟨B,3,none⟩ (v3)).setCell ⟨B,4,none⟩ (v4)).setCell ⟨B,5,none⟩ (v5)).setCell ⟨B,6,none⟩ (v6)).setCell ⟨B,7,none⟩ (v7)).setCell ⟨B,8,none⟩ (v8))).heap.size=W.heap.size∧∀ b V,b≤B→Below b V W→Below b V ((((((((((W.setCell ⟨B,0,none⟩ (v0)).setCell ⟨B,1,none⟩ (v1)).setCell ⟨B,2,none⟩ (v2)).setCell ⟨B,3,none⟩ (v3)).setCell ⟨B,4,none⟩ (v4)).setCell ⟨B,5,none⟩ (v5)).setCell ⟨B,6,none⟩ (v6)).setCell ⟨B,7,none⟩ (v7)).setCell ⟨B,8,none⟩ (v8))):=by
 refine ⟨fun a ha=>by repeat rw [Below.heap_setCell _ _ _ _ ha],by simp only [size_setCell],fun b V hb h=>?_⟩
 repeat refine Below.setCell ?_ hb _
 exact h
theorem op_fail {d:Dk} {w W:World} (code:Int) (hc:code=7∨DkOkS d) (h:Below w.heap.size w W):OpEnd d w ((((((((((W.setCell ⟨w.heap.size+1,0,none⟩ (.int .i64 code)).setCell ⟨w.heap.size+1,1,none⟩ (.int .i64 0)).setCell ⟨w.heap.size+1,2,none⟩ (.slice none 0 0)).setCell ⟨w.heap.size+1,3,none⟩ (.int .i64 0)).setCell ⟨w.heap.size+1,4,none⟩ (.int .i64 0)).setCell ⟨w.heap.size+1,5,none⟩ (.int .i64 0)).setCell ⟨w.heap.size+1,6,none⟩ (.bool false)).setCell ⟨w.heap.size+1,7,none⟩ (.int .i64 0)).setCell ⟨w.heap.size+1,8,none⟩ (.slice none 0 0))) (.returned (.agg #[.int .i64 code,.int .i64 0,.slice none 0 0,.int .i64 0,.int .i64 0,.int .i64 0,.bool false,.int .i64 0,.slice none 0 0])):=by
 obtain ⟨s1,s2,s3⟩:=set9f W (w.heap.size+1) (.int .i64 code) (.int .i64 0) (.slice none 0 0) (.int .i64 0) (.int .i64 0) (.int .i64 0) (.bool false) (.int .i64 0) (.slice none 0 0)
 exact ⟨code,0,0,0,false,⟨[],0,0⟩,_,none,0,0,rfl,⟨none,0,rfl,by decide,fun i hi=>absurd hi (Nat.not_lt_zero i)⟩,by decide,fun p hp=>(by cases hp),by decide,by decide,hc,s3 _ _ (by omega) h⟩
structure OpF (w W:World) (B3 B5:Nat) (num:Int) (l:Pl) (vP:Value) (size:Int) (torn:Bool) (next:Int) (a8:Option Addr) (n8 p8:Nat):Prop where
 below:Below w.heap.size w W
 b2:W.rowIs (w.heap.size+1) 118 9 (row9 (.int .i64 0) (.int .i64 0) (.slice none 0 0) (.int .i64 0) (.int .i64 0) (.int .i64 0) (.bool false) (.int .i64 0) (.slice none 0 0))
 b5:W.rowIs B5 118 9 (row9 (.int .i64 0) (.int .i64 num) (vP) (.int .i64 l.op) (.int .i64 l.fi) (.int .i64 size) (.bool torn) (.int .i64 next) (.slice a8 n8 p8))
 pts:PtsAt (fun b=>w.heap.size+2≤b∧b < B3) W vP l.parts
 h35:w.heap.size+2≤B3∧B3 < B5
theorem OpS.fin {w W:World} {c:C3} {B3 B5:Nat} {num:Int} {l:Pl} {vP:Value} {ra:Option Addr} {n rc:Nat} (h:OpS w W c B3 B5 num l vP ra n rc) (size:Int) (torn:Bool) (next:Int) :
 OpF w (((W.setCell ⟨B5,5,none⟩ (.int .i64 size)).setCell ⟨B5,6,none⟩ (.bool torn)).setCell ⟨B5,7,none⟩ (.int .i64 next)) B3 B5 num l vP size torn next ra n rc:=by
 have h35:=h.h35;have hlo:=h.lo
 have hs:∀ b,b≠B5→(((W.setCell ⟨B5,5,none⟩ (.int .i64 size)).setCell ⟨B5,6,none⟩ (.bool torn)).setCell ⟨B5,7,none⟩ (.int .i64 next)).heap[b]? = W.heap[b]? := fun b hb=>by
  rw [Below.heap_setCell _ _ _ _ hb,Below.heap_setCell _ _ _ _ hb,Below.heap_setCell _ _ _ _ hb]
 exact ⟨((h.below.setCell (by show w.heap.size≤B5;omega) _).setCell (by show w.heap.size≤B5;omega) _).setCell (by show w.heap.size≤B5;omega) _,h.b2.of_block (hs _ (by omega)),(((h.b5.set 5 _).set 6 _).set 7 _).congr (fun i hi=>by rcases nine hi with rfl | rfl | rfl | rfl | rfl | rfl | rfl | rfl | rfl <;> rfl),h.pts.carry (fun b hb=>hs b (by omega)) (fun _ h=>h),hlo,h35⟩
theorem OpF.done {w W:World} {B3 B5:Nat} {num:Int} {l:Pl} {vP:Value} {size:Int} {torn:Bool} {next:Int} {a8:Option Addr} {n8 p8:Nat} (h:OpF w W B3 B5 num l vP size torn next a8 n8 p8) (hn:0≤num∧num≤999999) (hok:plOk l) {d:Dk} (hd:DkOkS d) :
 OpEnd d w ((((((((((W.setCell ⟨w.heap.size+1,0,none⟩ (.int .i64 0)).setCell ⟨w.heap.size+1,1,none⟩ (.int .i64 num)).setCell ⟨w.heap.size+1,2,none⟩ (vP)).setCell ⟨w.heap.size+1,3,none⟩ (.int .i64 l.op)).setCell ⟨w.heap.size+1,4,none⟩ (.int .i64 l.fi)).setCell ⟨w.heap.size+1,5,none⟩ (.int .i64 size)).setCell ⟨w.heap.size+1,6,none⟩ (.bool torn)).setCell ⟨w.heap.size+1,7,none⟩ (.int .i64 next)).setCell ⟨w.heap.size+1,8,none⟩ (.slice a8 n8 p8))) (.returned (.agg #[.int .i64 0,.int .i64 num,vP,.int .i64 l.op,.int .i64 l.fi,.int .i64 size,.bool torn,.int .i64 next,.slice a8 n8 p8])):=by
 obtain ⟨s1,s2,s3⟩:=set9f W (w.heap.size+1) (.int .i64 0) (.int .i64 num) (vP) (.int .i64 l.op) (.int .i64 l.fi) (.int .i64 size) (.bool torn) (.int .i64 next) (.slice a8 n8 p8)
 have hlt:=h.b5.lt;have h35:=h.h35
 refine ⟨0,num,size,next,torn,l,vP,a8,n8,p8,rfl,h.pts.carry (fun b hb=>s1 b (by omega)) (fun b hb=>⟨by omega,by rw [s2];omega⟩),hok.1,fun p hp=>hok.2.1.1 p.num (List.mem_cons_of_mem _ (List.mem_map.2 ⟨p,hp,rfl⟩)),hn,?_,Or.inr hd,s3 _ _ (by omega) h.below⟩
 have:=hok.2.1.1 l.op (by simp)
 omega
theorem specLogOpen_any (d:Dk) (P:Nat→Prop) (c:C3) (w:World) (hP:∀ b,P b→b < w.heap.size) (hd:DkAt P w d c) :
 Calls Try.prog 69 #[.agg #[c.c0,c.c1,c.c2]] w fun e w'=>OpEnd d w w' e:=by
 have HOK:=xH (fun W (hW:Below w.heap.size w W)=>specDiskOk_any d P c W (fun b hb=>Nat.lt_of_lt_of_le (hP b hb) hW.size) (hd.carry (fun b hb=>hW.block b (hP b hb)) (fun _ h=>h)))
 have HPN:=xH (fun W (hW:Below w.heap.size w W)=>l43Plan_any d P c W (fun b hb=>Nat.lt_of_lt_of_le (hP b hb) hW.size) (hd.carry (fun b hb=>hW.block b (hP b hb)) (fun _ h=>h)))
 have HLK:=xH (fun x W (hW:Below w.heap.size w W)=>specDiskLook_any d x P c W (fun b hb=>Nat.lt_of_lt_of_le (hP b hb) hW.size) (hd.carry (fun b hb=>hW.block b (hP b hb)) (fun _ h=>h)))
 have HPA:=xH (fun q W (hW:Below w.heap.size w W) (h1:1≤q.num∧q.num≤999999) (h2:0≤q.size∧q.size≤20000)=>l43Part_any d q P c W (fun b hb=>Nat.lt_of_lt_of_le (hP b hb) hW.size) (hd.carry (fun b hb=>hW.block b (hP b hb)) (fun _ h=>h)) h1 h2)
 obtain ⟨c0,c1,c2⟩:=c
 obtain ⟨a0,p0,g0,-,-⟩:=hd.fs.open
 obtain ⟨a1,p1,g1,-,-⟩:=id hd.ns
 obtain ⟨a2,p2,g2,-,-⟩:=hd.ms.open
 simp only at g0 g1 g2
 subst g0 g1 g2
 have hb0:Below w.heap.size w ((w.alloc (.cells #[.slice a0 d.files.length p0,.slice a1 d.names.length p1,.slice a2 d.moves.length p2] 27)).alloc (.cells #[.int .i64 0,.int .i64 0,.slice none 0 0,.int .i64 0,.int .i64 0,.int .i64 0,.bool false,.int .i64 0,.slice none 0 0] 118)):=((Below.refl _ _).alloc (Nat.le_refl _) _).alloc (by simp) _
 have hr1:=(row3_alloc w (.slice a0 d.files.length p0) (.slice a1 d.names.length p1) (.slice a2 d.moves.length p2) 27).alloc (.cells #[.int .i64 0,.int .i64 0,.slice none 0 0,.int .i64 0,.int .i64 0,.int .i64 0,.bool false,.int .i64 0,.slice none 0 0] 118)
 have hr2:=row9_alloc (w.alloc (.cells #[.slice a0 d.files.length p0,.slice a1 d.names.length p1,.slice a2 d.moves.length p2] 27)) (.int .i64 0) (.int .i64 0) (.slice none 0 0) (.int .i64 0) (.int .i64 0) (.int .i64 0) (.bool false) (.int .i64 0) (.slice none 0 0) 118
 rw [World.size_alloc] at hr2
 have hs0:((w.alloc (.cells #[.slice a0 d.files.length p0,.slice a1 d.names.length p1,.slice a2 d.moves.length p2] 27)).alloc (.cells #[.int .i64 0,.int .i64 0,.slice none 0 0,.int .i64 0,.int .i64 0,.int .i64 0,.bool false,.int .i64 0,.slice none 0 0] 118)).heap.size=w.heap.size+2:=by simp
 have HB0:=xH hb0;have HR1:=xH hr1;have HR2:=xH hr2;have HS0:=xH hs0
 clear hP hd hb0 hr1 hr2 hs0
 go_enter Try.func69,Try.ntmps69
 go_wp2_with fail
 generalize ((w.alloc (.cells #[.slice a0 d.files.length p0,.slice a1 d.names.length p1,.slice a2 d.moves.length p2] 27)).alloc (.cells #[.int .i64 0,.int .i64 0,.slice none 0 0,.int .i64 0,.int .i64 0,.int .i64 0,.bool false,.int .i64 0,.slice none 0 0] 118))=W0 at HB0 HR1 HR2 HS0 ⊢
 refine ((xU HOK) W0 (xU HB0)).mono ?_
 rintro e w1 ⟨⟨r,rfl,hr⟩,hb1⟩
 have h1:=HB0.out.trans (hb1.mono HB0.out.size)
 have HB1:=xH h1
 have HR11:=xH (HR1.out.of_block (hb1.block _ HR1.out.lt));have HR21:=xH (HR2.out.of_block (hb1.block _ HR2.out.lt))
 have hz1:=hb1.size
 have HS1:Hid (w.heap.size+2≤w1.heap.size):=by have:=HS0.out;show _≤_;omega
 clear h1 hb1 HOK HB0 HR1 HR2 HS0 hz1
 cases r with
 | false =>
   have HFIN:=xH (op_fail (d:=d) (w:=w) 7 (Or.inl rfl) HB1.out)
   obtain ⟨z0,z1,z2,z3,z4,z5,z6,z7,z8⟩:=cell9 HR21.out
   have zf:=HR21.out.frozen
   clear HPN HLK HPA hr
   go_wp2_with fail
   refine bodyPost_ret (v:=.agg #[.int .i64 7,.int .i64 0,.slice none 0 0,.int .i64 0,.int .i64 0,.int .i64 0,.bool false,.int .i64 0,.slice none 0 0]) (by simp [results,Try.results69,go_sem,z0,z1,z2,z3,z4,z5,z6,z7,z8]) rfl (xU HFIN)
 | true =>
 have HDK:=xH (hr.1 rfl)
 clear hr
 obtain ⟨k0,k1,k2⟩:=cs3 HR11.out (by omega)
 simp only [row3] at k0 k1 k2
 go_wp2_with fail
 clear k0 k1 k2
 refine ((xU HPN) w1 HB1.out).mono ?_
 rintro e w3 ⟨l,v,num,rfl,hpt,hok,hnum,hb3⟩
 obtain ⟨va,vc,rfl,hvl,hvc⟩:=hpt.open
 have HB3:=xH (HB1.out.trans (hb3.mono HB1.out.size))
 have HR13:=xH (HR11.out.of_block (hb3.block _ HR11.out.lt));have HR23:=xH (HR21.out.of_block (hb3.block _ HR21.out.lt))
 have hz3:=hb3.size
 have HS3:Hid (w.heap.size+2≤w3.heap.size):=by have:=HS1.out;show _≤_;omega
 have HPT:=xH (hpt.carry (w':=w3) (Q:=fun b=>w.heap.size+2≤b∧b < w3.heap.size) (fun _ _=>rfl) (fun b hb=>⟨by have h1:w1.heap.size≤b:=hb.1;have:=HS1.out;omega,hb.2⟩))
 clear hpt hb3 HPN HB1 HR11 HR21 HS1 hz3 hvc
 have HB4:=xH (HB3.out.alloc HB3.out.size (.cells #[.slice va l.parts.length vc,.int .i64 l.op,.int .i64 l.fi] 115))
 have HR14:=xH (HR13.out.alloc (.cells #[.slice va l.parts.length vc,.int .i64 l.op,.int .i64 l.fi] 115));have HR24:=xH (HR23.out.alloc (.cells #[.slice va l.parts.length vc,.int .i64 l.op,.int .i64 l.fi] 115))
 by_cases hn0:num=0
 · subst hn0
   go_upto_region 5 with fail
   generalize w3.alloc (.cells #[.slice va l.parts.length vc,.int .i64 l.op,.int .i64 l.fi] 115)=W4 at HB4 HR24 ⊢
   have HFIN:=xH (op_fail (d:=d) (w:=w) 1 (Or.inr HDK.out) HB4.out)
   obtain ⟨z0,z1,z2,z3,z4,z5,z6,z7,z8⟩:=cell9 HR24.out
   have zf:=HR24.out.frozen
   clear HLK HPA hok HR13 HR23 HB3 HR14 HS3 HPT
   go_wp2_with fail
   refine bodyPost_ret (v:=.agg #[.int .i64 1,.int .i64 0,.slice none 0 0,.int .i64 0,.int .i64 0,.int .i64 0,.bool false,.int .i64 0,.slice none 0 0]) (by simp [results,Try.results69,go_sem,z0,z1,z2,z3,z4,z5,z6,z7,z8]) rfl (xU HFIN)
 have hne0:((num:Int)==0)=false:=beq_eq_false_iff_ne.2 (by omega)
 obtain hok:=hok.resolve_left hn0
 have hw35:Below w3.heap.size w3 ((w3.alloc (.cells #[.slice va l.parts.length vc,.int .i64 l.op,.int .i64 l.fi] 115)).alloc (.cells #[.int .i64 0,.int .i64 num,.slice va l.parts.length vc,.int .i64 l.op,.int .i64 l.fi,.int .i64 0,.bool false,.int .i64 0,.slice none 0 0] 118)):=((Below.refl _ _).alloc (Nat.le_refl _) _).alloc (by simp) _
 have hp0:OpS w ((w3.alloc (.cells #[.slice va l.parts.length vc,.int .i64 l.op,.int .i64 l.fi] 115)).alloc (.cells #[.int .i64 0,.int .i64 num,.slice va l.parts.length vc,.int .i64 l.op,.int .i64 l.fi,.int .i64 0,.bool false,.int .i64 0,.slice none 0 0] 118)) ⟨.slice a0 d.files.length p0,.slice a1 d.names.length p1,.slice a2 d.moves.length p2⟩ w3.heap.size (w3.heap.size+1) num l (.slice va l.parts.length vc) none 0 0:=by
  have h9:=row9_alloc (w3.alloc (.cells #[.slice va l.parts.length vc,.int .i64 l.op,.int .i64 l.fi] 115)) (.int .i64 0) (.int .i64 num) (.slice va l.parts.length vc) (.int .i64 l.op) (.int .i64 l.fi) (.int .i64 0) (.bool false) (.int .i64 0) (.slice none 0 0) 118
  rw [World.size_alloc] at h9
  have hs3:=HS3.out
  exact ⟨HB4.out.alloc HB4.out.size _,HR14.out.alloc _,HR24.out.alloc _,(row3_alloc w3 _ _ _ _).alloc _,h9,HPT.out.carry (fun b hb=>hw35.block b hb.2) (fun _ h=>h),⟨[],World.ownsRow_nil _ _ _ _⟩,hs3,Nat.lt_succ_self _⟩
 have HP0:=xH hp0;have HW0:=xH hw35
 have hvc:∀ i,(hi:i < l.parts.length)→∃ b o,va=some ⟨b,o,none⟩∧b < w3.heap.size∧P4At w3 b (o+i * 4) l.parts[i]:=fun i hi=>by
  obtain ⟨a9,c9,e9,-,h9⟩:=HPT.out.open
  simp only [Value.slice.injEq] at e9
  obtain ⟨rfl,-,rfl⟩:=e9
  obtain ⟨b,o,e,hb,h4⟩:=h9 i hi
  exact ⟨b,o,e,hb.2,h4⟩
 have HVC:=xH hvc;have HOKP:=xH hok
 have hl40:=hok.1
 clear hp0 hw35 hvc hok HB3 HR13 HR23 HPT HB4 HR14 HR24 HS3 hvl hn0
 go_wp2_with fail
 generalize ((w3.alloc (.cells #[.slice va l.parts.length vc,.int .i64 l.op,.int .i64 l.fi] 115)).alloc (.cells #[.int .i64 0,.int .i64 num,.slice va l.parts.length vc,.int .i64 l.op,.int .i64 l.fi,.int .i64 0,.bool false,.int .i64 0,.slice none 0 0] 118))=W5 at HP0 HW0 ⊢
 go_loopw [6] (fun vi wr=>∃ (i n:Nat) (ra:Option Addr) (rc:Nat),i≤l.parts.length∧vi=.int .i64 i∧n≤4000 * i∧Hid (OpS w wr ⟨.slice a0 d.files.length p0,.slice a1 d.names.length p1,.slice a2 d.moves.length p2⟩ w3.heap.size (w3.heap.size+1) num l (.slice va l.parts.length vc) ra n rc)∧Hid (Below w3.heap.size w3 wr)) (fun vi _=>l.parts.length - (intOf vi).toNat)
 case atStart=>exact ⟨0,0,none,0,by omega,rfl,by omega,HP0.out,HW0.out⟩
 case round =>
  clear HP0 HW0
  obtain ⟨i,n,ra,rc,hi,rfl,hn4,HS,HW⟩:=hrel
  have k0:=HS.out.b3.cell (i:=0) (by omega)
  simp only [row3] at k0
  by_cases hlt:i < l.parts.length
  · obtain ⟨pb,po,rfl,hpb,hp4⟩:=(xU HVC) i hlt
    have hq1:=(xU HOKP).2.1.1 l.parts[i].num (List.mem_cons_of_mem _ (List.mem_map.2 ⟨_,List.getElem_mem hlt,rfl⟩))
    have hq2:=((xU HOKP).2.2.1 i hlt).2.2.2
    have HP4:=xH hp4
    clear hp4
    generalize l.parts[i]=q at *
    have hd1:decide ((i:Int) < (l.parts.length:Int))=true:=decide_eq_true (by omega)
    go_wp2_with fail
    go_upto_region 10 with fail
    refine wp_swap (c':=Code.region 10 lo10Ops true) (by kernel_rfl) ?_
    refine wp_region_noPanic ?_
    have hwz:=HW.out.size
    have hwd:Below w3.heap.size w3 wr.drew:=HW.out.drew
    refine lo10 w.heap.size w3.heap.size pb po l.parts.length vc i ⟨.slice a0 d.files.length p0,.slice a1 d.names.length p1,.slice a2 d.moves.length p2⟩ q wr _ (fun _ _ _ _ _ h=>h) (HS.out.b1.of_block rfl) (show w3.heap.size < wr.heap.size from HS.out.b3.lt) k0 (show pb < wr.heap.size by omega) (HP4.out.carry (hwd.block _ hpb)) hlt (fun W hW=>(xU HPA) q W (HS.out.below.trans ((Below.refl _ _).drew.trans (hW:Below wr.drew.heap.size wr.drew W) |>.mono HS.out.below.size)) hq1 hq2) (by kernel_rfl) (fun u v b=>by kernel_rfl) ?_
    intro u v b W1 hb1 hL
    refine NoPanic.normal ?_
    simp only [List.take_succ_cons,List.take_zero,List.drop_succ_cons,List.drop_zero,List.cons_append,List.nil_append]
    obtain ⟨Lr,hv,hl4⟩:=hL
    obtain ⟨ra2,rc2,rfl,-,-⟩:=hv.open
    have hb01:Below wr.heap.size wr W1:=(Below.refl _ _).drew.trans hb1
    have HS1:=xH (HS.out.on hb01)
    have HW1:=xH (HW.out.trans (hb01.mono hwz))
    have HV:=xH hv
    clear hb1 hb01 hv HS HW HP4 k0 hwd hwz
    cases b with
    | false =>
      have HFIN:=xH (op_fail (d:=d) (w:=w) 2 (Or.inr HDK.out) HS1.out.below)
      obtain ⟨z0,z1,z2,z3,z4,z5,z6,z7,z8⟩:=cell9 HS1.out.b2
      have zf:=(HS1.out.b2).frozen
      clear HLK HPA HVC HOKP HV HS1 HW1
      go_wp2_with fail
      refine bodyPost_ret (v:=.agg #[.int .i64 2,.int .i64 0,.slice none 0 0,.int .i64 0,.int .i64 0,.int .i64 0,.bool false,.int .i64 0,.slice none 0 0]) (by simp [results,Try.results69,go_sem,z0,z1,z2,z3,z4,z5,z6,z7,z8]) rfl (xU HFIN)
    | true =>
      obtain ⟨j0,hj,hy0,hy1,hy2⟩:=infoRecD
      obtain ⟨xs,hxs⟩:=HS1.out.row
      have z8:=(cell9 HS1.out.b5).2.2.2.2.2.2.2.2
      have z5l:=HS1.out.b5.lt
      have HXS:=xH hxs;have HJ:=xH hj;have HY0:=xH hy0;have HY1:=xH hy1;have HY2:=xH hy2
      have HSRC:=xH (flat_src HV.out.1 (fun r hr=>by obtain ⟨x,-,rfl⟩:=List.mem_map.1 hr;rfl))
      have HONE:=xH (recs_one Lr)
      have HLN:Hid ((Lr.map Rc.cs).flatten.length=Lr.length * 2):=by
       have:=flat_len (Lr.map Rc.cs) (n:=2) (fun r hr=>by obtain ⟨x,-,rfl⟩:=List.mem_map.1 hr;rfl)
       rw [List.length_map] at this;exact this
      have hn6:n≤160000:=by omega
      have HNE:Hid (∀ g,(Value.slice ra n rc).ownBlock=some g→(w3.heap.size+1)+1≤g):=fun g hg=>(own_ge hxs hg).1
      clear hxs hj hy0 hy1 hy2
      clear HV
      go_wp2_with (at_builtin;refine append_list8 _ rfl _ _ 116 rfl ((w3.heap.size+1)+1) 146 j0 (.agg #[.int .i64 0,.string ByteArray.empty]) 2 24 Try.underlying116 HJ.out HY0.out HY1.out HY2.out rfl (by decide) ra n rc xs rfl HXS ra2 Lr.length rc2 (Lr.map Rc.cs).flatten rfl HLN.out HSRC.out HONE.out (by unfold maxLen;omega) (by omega) (Nat.succ_le_of_lt z5l) (n+Lr.length) rfl ?_;intro fa fc W5 ho5 hg5;have hb5:=HS1.out.b5.of_block (hg5.out.block (w3.heap.size+1) z5l (fun e=>by have:=HNE.out _ e.symm;omega));have hc5:=hb5.cell (i:=8) (by omega);have hf5:=hb5.frozen 8)
      have HS5:=xH (HS1.out.app ho5.out hg5.out)
      have HW5:=xH ((HW1.out.grown hg5.out (Nat.le_trans (Nat.le_succ _) (Nat.le_of_lt z5l)) (fun b e=>by have:=HNE.out _ e;omega)).setCell (show w3.heap.size≤(⟨(w3.heap.size+1),8,none⟩:Addr).block by show w3.heap.size≤w3.heap.size+1;omega) (.slice fa (n+Lr.length) fc))
      clear ho5 hg5 hb5 hc5 hf5 HS1 HW1 HXS HJ HY0 HY1 HY2 HSRC HONE HLN HNE z8
      go_roundw
      case rel=>exact ⟨i+1,n+Lr.length,fa,fc,hlt,by go_num,by omega,HS5,HW5⟩
      case measure=>simp [intOf];omega
  · have hd1:decide ((i:Int) < (l.parts.length:Int))=false:=decide_eq_false (by omega)
    obtain rfl:i=l.parts.length:=by omega
    obtain ⟨D,hD⟩:∃ D:ByteArray,⟨(Lib.itoa l.op).toArray⟩=D:=⟨_,rfl⟩
    have hop:=(xU HOKP).2.1.1 l.op (by simp)
    have HDS:Hid (D.size≤100):=by rw [← hD];exact decB_le (by omega) (by omega)
    have HDD:=xH (fun W=>l6Dec_any l.op W (by omega) (by omega))
    rw [hD] at HDD
    have HLKx:=xH ((xU HLK) (⟨#[115]⟩++D))
    have HLSx:=xH (look_small (d:=d) (⟨#[115]⟩++D))
    generalize lookD d (⟨#[115]⟩++D)=yb at *
    obtain ⟨y,bb⟩:=yb
    simp only at HLKx HLSx
    have k1:=HS.out.b3.cell (i:=1) (by omega)
    simp only [row3] at k1
    clear hD HLK HPA HVC
    go_wp2_with fail
    go_upto_region 14 with fail
    refine wp_swap (c':=Code.region 14 lo14Ops true) (by kernel_rfl) ?_
    refine wp_region_noPanic ?_
    refine lo14 w.heap.size (w.heap.size+1) w3.heap.size (w3.heap.size+1) ⟨.slice a0 d.files.length p0,.slice a1 d.names.length p1,.slice a2 d.moves.length p2⟩ l.op D y bb wr _ (fun _ _ _ _ _ h=>h) (HS.out.b1.of_block rfl) (show w3.heap.size < wr.heap.size from HS.out.b3.lt) k1 HDS.out HDD.out (fun W hW=>(xU HLKx) W (HS.out.below.trans ((Below.refl _ _).drew.trans (hW:Below wr.drew.heap.size wr.drew W) |>.mono HS.out.below.size))) (by kernel_rfl) ?_
    intro u W1 hb1
    refine NoPanic.normal ?_
    simp only [frL_eq,frG,List.lookup,Nat.reduceBEq,Nat.reduceAdd,Option.getD_some,Option.getD_none]
    have hb01:Below wr.heap.size wr W1:=(Below.refl _ _).drew.trans hb1
    have HS1:=xH (HS.out.on hb01)
    have HW1:=xH (HW.out.trans (hb01.mono HW.out.size))
    clear hb1 hb01 HS HW k0 k1 HDD HDS HLKx
    cases bb with
    | false =>
      have HFIN:=xH (op_fail (d:=d) (w:=w) 2 (Or.inr HDK.out) HS1.out.below)
      obtain ⟨z0,z1,z2,z3,z4,z5,z6,z7,z8⟩:=cell9 HS1.out.b2
      have zf:=(HS1.out.b2).frozen
      clear HOKP HS1 HW1 HLSx
      go_wp2_with fail
      refine bodyPost_ret (v:=.agg #[.int .i64 2,.int .i64 0,.slice none 0 0,.int .i64 0,.int .i64 0,.int .i64 0,.bool false,.int .i64 0,.slice none 0 0]) (by simp [results,Try.results69,go_sem,z0,z1,z2,z3,z4,z5,z6,z7,z8]) rfl (xU HFIN)
    | true =>
      have HFR:=xH (specLogFrames_any y (by have:=HLSx.out;omega) W1)
      have hfl:=frs_len8 y _ 0 (Nat.le_refl _) (Nat.zero_le _)
      go_wp2_with fail
      refine (xU HFR).mono ?_
      rintro e w2 ⟨v,F,rfl,ho,hF,hb2⟩
      generalize frs y 0=fr at *
      obtain ⟨LL,nn⟩:=fr
      simp only at ho hfl ⊢
      have hLL:LL.length≤4000:=by have:=HLSx.out;omega
      have hrc:=rcs_new ho hF
      have HS2:=xH (HS1.out.on hb2)
      have HW2:=xH (HW1.out.trans (hb2.mono HW1.out.size))
      have HRC:=xH (hrc.carry (Q:=fun b=>b < w2.heap.size) (fun _ _=>rfl) (fun b hb=>hb.2))
      obtain ⟨ra3,rc3,rfl,-,hcell⟩:=HRC.out.open
      have HCE:=xH hcell
      clear ho hF hb2 hrc HFR hfl HS1 HW1 HLSx hcell
      go_wp2_with fail
      go_loopw [13] (fun vi wr=>∃ (j:Nat),j≤LL.length∧vi=.int .i64 j∧Hid (Below w2.heap.size w2 wr)) (fun vi _=>LL.length - (intOf vi).toNat)
      case atStart=>exact ⟨0,by omega,rfl,Below.refl _ _⟩
      case round =>
       obtain ⟨j,hj,rfl,HZ⟩:=hrel
       have HSE:=xH (HS2.out.on HZ.out)
       by_cases hjl:j < LL.length
       · obtain ⟨rb,ro,rfl,hrb,hpos,-,-⟩:=(xU HCE) j hjl
         have hp:wr.cell? ⟨rb,ro+j * 2,none⟩=some (.int .i64 LL[j].pos):=(HZ.out.cell (show (⟨rb,ro+j * 2,none⟩:Addr).block < w2.heap.size from hrb)).trans hpos
         generalize LL[j].pos=pos at *
         have hd2:decide ((j:Int) < (LL.length:Int))=true:=decide_eq_true (by omega)
         have hi0:(0:Int)≤(j:Int):=by omega
         have hil:(j:Int) < (LL.length:Int):=by omega
         have k2:=HSE.out.b3.cell (i:=2) (by omega)
         simp only [row3] at k2
         clear hpos HRC
         by_cases hpe:pos=wrap64 (l.fi+(j:Int))
         · have hbe:(pos != wrap64 (l.fi+(j:Int)))=false:=by rw [hpe];simp
           go_wp2_with fail
           go_quiet (fail)
           go_wp2_with fail
           go_roundw
           case rel=>exact ⟨j+1,hjl,by go_num,below_drewN HZ.out _⟩
           case measure=>simp [intOf];omega
         · have hbe:(pos != wrap64 (l.fi+(j:Int)))=true:=by simp [hpe]
           go_wp2_with fail
           go_quiet (fail)
           have HSF:=xH (HSE.out.on (below_drewN (Below.refl _ _) nq))
           generalize (wr.drewN nq)=wq at *
           have HFIN:=xH (op_fail (d:=d) (w:=w) 2 (Or.inr HDK.out) HSF.out.below)
           obtain ⟨z0,z1,z2,z3,z4,z5,z6,z7,z8⟩:=cell9 HSF.out.b2
           have zf:=(HSF.out.b2).frozen
           clear HSE HSF HS2 HW2 HCE HOKP
           go_wp2_with fail
           refine bodyPost_ret (v:=.agg #[.int .i64 2,.int .i64 0,.slice none 0 0,.int .i64 0,.int .i64 0,.int .i64 0,.bool false,.int .i64 0,.slice none 0 0]) (by simp [results,Try.results69,go_sem,z0,z1,z2,z3,z4,z5,z6,z7,z8]) rfl (xU HFIN)
       · obtain rfl:j=LL.length:=by omega
         have hd2:decide ((LL.length:Int) < (LL.length:Int))=false:=decide_eq_false (by omega)
         have HVE:=xH (HRC.out.carry (w':=wr) (Q:=fun _=>True) (fun b hb=>HZ.out.block b hb) (fun _ _=>trivial))
         have HWE:=xH (HW2.out.trans (HZ.out.mono HW2.out.size))
         clear HS2 HW2 HCE HRC HZ
         obtain ⟨j0,hj,hy0,hy1,hy2⟩:=infoRecD
         obtain ⟨xs,hxs⟩:=HSE.out.row
         have z8:=(cell9 HSE.out.b5).2.2.2.2.2.2.2.2
         have z5l:=HSE.out.b5.lt
         have HXS:=xH hxs;have HJ:=xH hj;have HY0:=xH hy0;have HY1:=xH hy1;have HY2:=xH hy2
         have HSRC:=xH (flat_src HVE.out.1 (fun r hr=>by obtain ⟨x,-,rfl⟩:=List.mem_map.1 hr;rfl))
         have HONE:=xH (recs_one LL)
         have HLN:Hid ((LL.map Rc.cs).flatten.length=LL.length * 2):=by
          have:=flat_len (LL.map Rc.cs) (n:=2) (fun r hr=>by obtain ⟨x,-,rfl⟩:=List.mem_map.1 hr;rfl)
          rw [List.length_map] at this;exact this
         have hn6:n≤160000:=by omega
         have HNE:Hid (∀ g,(Value.slice ra n rc).ownBlock=some g→(w3.heap.size+1)+1≤g):=fun g hg=>(own_ge hxs hg).1
         clear hxs hj hy0 hy1 hy2
         clear HVE
         go_upto_region 24 with (at_builtin;refine append_list8 _ rfl _ _ 116 rfl ((w3.heap.size+1)+1) 146 j0 (.agg #[.int .i64 0,.string ByteArray.empty]) 2 24 Try.underlying116 HJ.out HY0.out HY1.out HY2.out rfl (by decide) ra n rc xs rfl HXS ra3 LL.length rc3 (LL.map Rc.cs).flatten rfl HLN.out HSRC.out HONE.out (by unfold maxLen;omega) (by omega) (Nat.succ_le_of_lt z5l) (n+LL.length) rfl ?_;intro fa fc W5 ho5 hg5;have hb5:=HSE.out.b5.of_block (hg5.out.block (w3.heap.size+1) z5l (fun e=>by have:=HNE.out _ e.symm;omega));have hc5:=hb5.cell (i:=8) (by omega);have hf5:=hb5.frozen 8)
         have HS5:=xH (HSE.out.app ho5.out hg5.out)
         have HS4:=HS5
         generalize (W5.setCell ⟨(w3.heap.size+1),8,none⟩ (.slice fa (n+LL.length) fc))=W6 at HS4 ⊢
         obtain ⟨y0,y1,y2,y3,y4,y5,y6,y7,y8⟩:=cell9 HS4.out.b5
         have yf:=HS4.out.b5.frozen
         have k2:=HS4.out.b3.cell (i:=2) (by omega)
         simp only [row3] at k2
         have h35:=HS4.out.h35
         clear ho5 hg5 hb5 hc5 hf5 HSE HWE HXS HJ HY0 HY1 HY2 HSRC HONE HLN HNE z8 HS5
         go_upto_region 27 with fail
         have HF:=xH (HS4.out.fin (nn:Int) (decide (nn < y.size)) (wrap64 (l.fi+((LL.length:Nat):Int))))
         clear y0 y1 y2 y3 y4 y5 y6 y7 y8 yf k2 HS4
         generalize (((W6.setCell ⟨(w3.heap.size+1),5,none⟩ (.int .i64 (nn:Int))).setCell ⟨(w3.heap.size+1),6,none⟩ (.bool (decide (nn < y.size)))).setCell ⟨(w3.heap.size+1),7,none⟩ (.int .i64 (wrap64 (l.fi+((LL.length:Nat):Int)))))=W7 at HF ⊢
         have HFIN:=xH (HF.out.done ⟨by omega,by omega⟩ HOKP.out HDK.out)
         obtain ⟨y0,y1,y2,y3,y4,y5,y6,y7,y8⟩:=cell9 HF.out.b5
         obtain ⟨z0,z1,z2,z3,z4,z5,z6,z7,z8⟩:=cell9 HF.out.b2
         have zf:=HF.out.b2.frozen
         clear HF HOKP
         go_wp2_with fail
         refine bodyPost_ret (v:=.agg #[.int .i64 0,.int .i64 num,.slice va l.parts.length vc,.int .i64 l.op,.int .i64 l.fi,.int .i64 (nn:Int),.bool (decide (nn < y.size)),.int .i64 (wrap64 (l.fi+((LL.length:Nat):Int))),.slice fa (n+LL.length) fc]) (by simp [results,Try.results69,go_sem,z0,z1,z2,z3,z4,z5,z6,z7,z8]) rfl (xU HFIN)

theorem addNat8 {a b:Nat} (h:a+b≤4000000000):Value.int .i64 (IntKind.i64.wrap ((a:Int)+(b:Int)))=.int .i64 ((a+b:Nat):Int):=by
 congr 1
 rw [IntKind.wrap_i64]
 omega
noncomputable def tp5Ops:Array Oper:=fops Try.f95 5
theorem tp5_neat:Region.noSelect tp5Ops=true∧neat tp5Ops=true:=⟨by kernel_rfl,by kernel_rfl⟩
def kp_tp5 (z:Nat→Value):List (Nat × Value):=[(0,z 0),(2,z 2),(6,z 6),(7,z 7),(8,z 8),(9,z 9),(10,z 10),(11,z 11),(12,z 12),(28,z 28),(29,z 29),(30,z 30),(31,z 31),(32,z 32)]
theorem tp5z (z:Nat→Value) (LL:(Nat→Value)→Nat→Nat→List Value) (B1 g p n cap i top:Nat) (x:ByteArray) (W0:World) {l:List Value} (Q:Exit→Act→World→Prop) (hQ:∀ c a d v w,Q (.panic c) (Act.put a d v) w→Q (.panic c) a w) (hB1:B1 < W0.drew.heap.size) (h1:W0.drew.cell? ⟨B1,0,none⟩=some (.slice (some ⟨g,p,none⟩) n cap)) (hg:g < W0.drew.heap.size) (hx:W0.drew.cell? ⟨g,p+i * 3,none⟩=some (.string x)) (hi:i < n) (HN:∀ (c:Int) W,Calls Try.prog 93 #[.string x,.int .u8 c] W fun e w'=>∃ n:Nat,e=.returned (.int .i64 n)∧n≤999999∧Below W.heap.size W w')
 (hl:lookL (kp_tp5 z++[(1,.pointer (some ⟨B1,0,none⟩)),(3,.int .i64 (top:Nat)),(4,.int .i64 (i:Nat))]) l=(33,((kp_tp5 z++[(1,.pointer (some ⟨B1,0,none⟩)),(3,.int .i64 (top:Nat)),(4,.int .i64 (i:Nat))]):List (Nat × Value)).map (·.2)))
 (hfr:∀ (u:Nat→Value) (n1:Nat) (n2:Nat),frL u 33 (kp_tp5 z++[(1,.pointer (some ⟨B1,0,none⟩)),(3,.int .i64 (top:Nat)),(4,.int .i64 (i:Nat)),(5,.int .i64 ((n1+n2:Nat):Int))])=LL u n1 n2)
 (hend:∀ (u:Nat→Value) (n1:Nat) (n2:Nat) (W:World),Below W0.drew.heap.size W0.drew W→(n1≤999999∧n2≤999999)→Q .normal ⟨(LL u n1 n2).toArray,[]⟩ W):(Code.region 5 tp5Ops true).wp Try.prog Q ⟨l.toArray,[]⟩ W0:=by
 obtain ⟨v0,rfl⟩:=look_fr hl
 have hq:NtQ tp5Ops Q:=⟨tp5_neat,hQ⟩
 refine T_start (S:=fun W=>Below W0.drew.heap.size W0.drew W) (by kernel_rfl) (Below.refl _ _) ?_
 clear hl hQ
 generalize W0.drew=V at hB1 h1 hg hx hend ⊢
 refine T_a hq [0,1,2,7,8,9] (fun w h=>.cons (ldFs _ _ _ ((h.cell hB1).trans h1)) (.cons (ldFs _ _ _ ((h.cell hB1).trans h1)) (Lds.nil))) (by kernel_rfl) ?_
 refine T_yld hq 3 (some 16) (.pointer (some ⟨g,p+i * 3,none⟩)) (by kernel_rfl) (by kernel_rfl) (fun w h=>ixRun (X:=.tmp 14) (I:=.tmp 15) (n:=n) (cap:=cap) (i:=i) (by kernel_rfl) (by kernel_rfl) (by kernel_rfl) hi w) ?_
 refine T_yld hq 10 (some 23) (.pointer (some ⟨g,p+i * 3,none⟩)) (by kernel_rfl) (by kernel_rfl) (fun w h=>ixRun (X:=.tmp 21) (I:=.tmp 22) (n:=n) (cap:=cap) (i:=i) (by kernel_rfl) (by kernel_rfl) (by kernel_rfl) hi w) ?_
 refine T_a hq [4,5,11,12] (fun w h=>.cons (ldStr _ _ _ ((h.cell hg).trans hx)) (.cons (ldStr _ _ _ ((h.cell hg).trans hx)) (Lds.nil))) (by kernel_rfl) ?_
 refine T_fr 16 33 [6,13,14,15] (kp_tp5 z++[(1,.pointer (some ⟨B1,0,none⟩)),(3,.int .i64 (top:Nat)),(4,.int .i64 (i:Nat)),(18,.string x),(25,.string x)]) (by kernel_rfl) fun u=>?_
 refine T_one 6 (by kernel_rfl) fun _=>O_go (HN 109 V) (by kernel_rfl) ?_
 rintro e w1 ⟨n1,rfl,hn1,hb1⟩
 refine ⟨_,rfl,hb1,?_⟩
 refine T_fr 16 33 [13,14,15] (kp_tp5 z++[(1,.pointer (some ⟨B1,0,none⟩)),(3,.int .i64 (top:Nat)),(4,.int .i64 (i:Nat)),(18,.string x),(19,.int .i64 (n1:Nat)),(25,.string x)]) (by kernel_rfl) fun u=>?_
 refine T_one 13 (by kernel_rfl) fun _=>O_go (HN 115 w1) (by kernel_rfl) ?_
 rintro e w2 ⟨n2,rfl,hn2,hb2⟩
 refine ⟨_,rfl,hb1.trans (hb2.mono hb1.size),?_⟩
 refine T_val (i:=14) hq (some 27) (.int .i64 (IntKind.i64.wrap ((n1:Int)+(n2:Int)))) (.int .i64 ((n1+n2:Nat):Int)) (addNat8 (by omega)) (by kernel_rfl) (by kernel_rfl) ?_
 refine T_z hq [15] (by kernel_rfl) ?_
 exact T_end 33 (kp_tp5 z++[(1,.pointer (some ⟨B1,0,none⟩)),(3,.int .i64 (top:Nat)),(4,.int .i64 (i:Nat)),(5,.int .i64 ((n1+n2:Nat):Int))]) (by kernel_rfl) (by kernel_rfl) fun hS u=>by rw [hfr];exact hend u n1 n2 w2 hS ⟨hn1,hn2⟩
theorem tp5 (B1 g p n cap i top:Nat) (x:ByteArray) (W0:World) {l:List Value} (Q:Exit→Act→World→Prop) (hQ:∀ c a d v w,Q (.panic c) (Act.put a d v) w→Q (.panic c) a w) (hB1:B1 < W0.drew.heap.size) (h1:W0.drew.cell? ⟨B1,0,none⟩=some (.slice (some ⟨g,p,none⟩) n cap)) (hg:g < W0.drew.heap.size) (hx:W0.drew.cell? ⟨g,p+i * 3,none⟩=some (.string x)) (hi:i < n) (HN:∀ (c:Int) W,Calls Try.prog 93 #[.string x,.int .u8 c] W fun e w'=>∃ n:Nat,e=.returned (.int .i64 n)∧n≤999999∧Below W.heap.size W w')
 (hl:lookL (kp_tp5 (fun i=>l.getD i undef)++[(1,.pointer (some ⟨B1,0,none⟩)),(3,.int .i64 (top:Nat)),(4,.int .i64 (i:Nat))]) l=(33,((kp_tp5 (fun i=>l.getD i undef)++[(1,.pointer (some ⟨B1,0,none⟩)),(3,.int .i64 (top:Nat)),(4,.int .i64 (i:Nat))]):List (Nat × Value)).map (·.2)))
 (hfr:∀ (u:Nat→Value) (n1:Nat) (n2:Nat),frL u 33 (kp_tp5 (fun i=>l.getD i undef)++[(1,.pointer (some ⟨B1,0,none⟩)),(3,.int .i64 (top:Nat)),(4,.int .i64 (i:Nat)),(5,.int .i64 ((n1+n2:Nat):Int))])=(l.take 5++(.int .i64 ((n1+n2:Nat):Int)::((l.drop 6).take 7++(u 13::(u 14::(u 15::(u 16::(u 17::(u 18::(u 19::(u 20::(u 21::(u 22::(u 23::(u 24::(u 25::(u 26::(u 27::l.drop 28)))))))))))))))))))
 (hend:∀ (u:Nat→Value) (n1:Nat) (n2:Nat) (W:World),Below W0.drew.heap.size W0.drew W→(n1≤999999∧n2≤999999)→Q .normal ⟨((l.take 5++(.int .i64 ((n1+n2:Nat):Int)::((l.drop 6).take 7++(u 13::(u 14::(u 15::(u 16::(u 17::(u 18::(u 19::(u 20::(u 21::(u 22::(u 23::(u 24::(u 25::(u 26::(u 27::l.drop 28))))))))))))))))))).toArray,[]⟩ W):(Code.region 5 tp5Ops true).wp Try.prog Q ⟨l.toArray,[]⟩ W0 :=
 tp5z (fun i=>l.getD i undef) (fun u n1 n2=>(l.take 5++(.int .i64 ((n1+n2:Nat):Int)::((l.drop 6).take 7++(u 13::(u 14::(u 15::(u 16::(u 17::(u 18::(u 19::(u 20::(u 21::(u 22::(u 23::(u 24::(u 25::(u 26::(u 27::l.drop 28))))))))))))))))))) B1 g p n cap i top x W0 Q hQ hB1 h1 hg hx hi HN hl hfr hend
theorem l44Top_any (d:Dk) (P:Nat→Prop) (c:C3) (w:World) (hP:∀ b,P b→b < w.heap.size) (hd:DkAt P w d c) (hnm:∀ f,f∈d.files→f.name.size≤1048576) :
 Calls Try.prog 95 #[.agg #[c.c0,c.c1,c.c2]] w fun e w'=>∃ n:Nat,e=.returned (.int .i64 n)∧n≤1999998∧Below w.heap.size w w':=by
 obtain ⟨c0,c1,c2⟩:=c
 obtain ⟨a0,p0,g0,hl0,hfc⟩:=hd.fs.open
 obtain ⟨a1,p1,g1,-,-⟩:=id hd.ns
 obtain ⟨a2,p2,g2,-,-⟩:=hd.ms.open
 simp only at g0 g1 g2
 subst g0 g1 g2
 have hb0:Below w.heap.size w (w.alloc (.cells #[.slice a0 d.files.length p0,.slice a1 d.names.length p1,.slice a2 d.moves.length p2] 27)):=(Below.refl _ _).alloc (Nat.le_refl _) _
 have hr1:=row3_alloc w (.slice a0 d.files.length p0) (.slice a1 d.names.length p1) (.slice a2 d.moves.length p2) 27
 have HB0:=xH hb0;have HR1:=xH hr1
 have HFC:Hid (∀ i,(hi:i < d.files.length)→∃ b o,a0=some ⟨b,o,none⟩∧b < w.heap.size∧w.cell? ⟨b,o+i * 3,none⟩=some (.string d.files[i].name)):=fun i hi=>by
  obtain ⟨b,o,e,hb,h3,-⟩:=hfc i hi
  exact ⟨b,o,e,hP b hb,h3.1⟩
 have HNM:=xH hnm
 clear hP hd hb0 hr1 hfc hnm
 go_enter Try.func95,Try.ntmps95
 go_wp2_with fail
 generalize (w.alloc (.cells #[.slice a0 d.files.length p0,.slice a1 d.names.length p1,.slice a2 d.moves.length p2] 27))=W0 at HB0 HR1 ⊢
 go_loopw [3,4] (fun vt vi wr=>∃ (i top:Nat),i≤d.files.length∧top≤1999998∧vt=.int .i64 top∧vi=.int .i64 i∧Hid (Below W0.heap.size W0 wr)) (fun _ vi _=>d.files.length - (intOf vi).toNat)
 case atStart=>exact ⟨0,0,by omega,by omega,rfl,rfl,Below.refl _ _⟩
 case round =>
  obtain ⟨i,top,hi,ht,rfl,rfl,HW⟩:=hrel
  have hr:=HR1.out.of_block (HW.out.block _ HR1.out.lt)
  have k0:=hr.cell (i:=0) (by omega)
  simp only [row3] at k0
  have hrl:=hr.lt
  clear hr
  by_cases hlt:i < d.files.length
  · obtain ⟨b,q,rfl,hb,hx⟩:=HFC.out i hlt
    have hbw:=HB0.out.trans (HW.out.mono HB0.out.size)
    have hx2:wr.cell? ⟨b,q+i * 3,none⟩=some (.string d.files[i].name):=(hbw.cell (show (⟨b,q+i * 3,none⟩:Addr).block < w.heap.size from hb)).trans hx
    have hbl:b < wr.heap.size:=Nat.lt_of_lt_of_le hb hbw.size
    have hsm:=HNM.out _ (List.getElem_mem hlt)
    generalize d.files[i].name=x at *
    have HNU:=xH (fun (c:Int) W=>l43Num_any x c W hsm)
    have hd1:decide ((i:Int) < (d.files.length:Int))=true:=decide_eq_true (by omega)
    clear hx hsm hbw HFC
    go_wp2_with fail
    go_upto_region 5 with fail
    refine wp_swap (c':=Code.region 5 tp5Ops true) (by kernel_rfl) ?_
    refine wp_region_noPanic ?_
    refine tp5 w.heap.size b q d.files.length p0 i top x wr _ (fun _ _ _ _ _ h=>h) hrl k0 hbl hx2 hlt HNU.out (by kernel_rfl) (fun u n1 n2=>by kernel_rfl) ?_
    intro u n1 n2 W1 hb1 hn
    refine NoPanic.normal ?_
    simp only [List.take_succ_cons,List.take_zero,List.drop_succ_cons,List.drop_zero,List.cons_append,List.nil_append]
    have HW1:=xH (HW.out.trans (((Below.refl _ _).drew.trans hb1).mono HW.out.size))
    clear hb1 HW k0 hx2 HNU
    obtain ⟨hn1,hn2⟩:=hn
    by_cases hgt:top < n1+n2
    · have hd2:decide ((top:Int) < ((n1+n2:Nat):Int))=true:=decide_eq_true (by omega)
      have hm:n1+n2≤1999998:=by omega
      generalize n1+n2=m at *
      go_wp2_with fail
      go_roundw
      case rel=>exact ⟨i+1,m,hlt,hm,rfl,by go_num,xU HW1⟩
      case measure=>simp [intOf];omega
    · have hd2:decide ((top:Int) < ((n1+n2:Nat):Int))=false:=decide_eq_false (by omega)
      generalize n1+n2=m at *
      go_wp2_with fail
      go_roundw
      case rel=>exact ⟨i+1,top,hlt,ht,rfl,by go_num,xU HW1⟩
      case measure=>simp [intOf];omega
  · have hd1:decide ((i:Int) < (d.files.length:Int))=false:=decide_eq_false (by omega)
    have HEND:=xH (HB0.out.trans (HW.out.mono HB0.out.size))
    go_wp2_with fail
    go_ret
    exact ⟨top,rfl,ht,xU HEND⟩
structure StOk (P:Nat→Prop) (w:World) (num:Int) (l:Pl) (vP:Value):Prop where
 pts:PtsAt P w vP l.parts
 len:l.parts.length≤40
 nums:∀ p,p∈l.parts→1≤p.num∧p.num≤999999
 num:0≤num∧num≤999999
 op:0≤l.op∧l.op≤999999
theorem StOk.carry {P Q:Nat→Prop} {w w':World} {num:Int} {l:Pl} {vP:Value} (h:StOk P w num l vP) (hP:∀ b,P b→w'.heap[b]? = w.heap[b]?) (hQ:∀ b,P b→Q b):StOk Q w' num l vP:=⟨h.pts.carry hP hQ,h.len,h.nums,h.num,h.op⟩
theorem l44Ours_any (code num size next:Int) (torn:Bool) (l:Pl) (vP:Value) (a8:Option Addr) (n8 p8:Nat) (x:ByteArray) (P:Nat→Prop) (w:World) (hP:∀ b,P b→b < w.heap.size) (hs:StOk P w num l vP) :
 Calls Try.prog 96 #[.agg #[.int .i64 code,.int .i64 num,vP,.int .i64 l.op,.int .i64 l.fi,.int .i64 size,.bool torn,.int .i64 next,.slice a8 n8 p8],.string x] w fun e w'=>(∃ b:Bool,e=.returned (.bool b))∧Below w.heap.size w w':=by
 obtain ⟨va,vc,rfl,-,hvc⟩:=hs.pts.open
 have hb0:Below w.heap.size w (w.alloc (.cells #[.int .i64 code,.int .i64 num,.slice va l.parts.length vc,.int .i64 l.op,.int .i64 l.fi,.int .i64 size,.bool torn,.int .i64 next,.slice a8 n8 p8] 118)):=(Below.refl _ _).alloc (Nat.le_refl _) _
 have hr1:=row9_alloc w (.int .i64 code) (.int .i64 num) (.slice va l.parts.length vc) (.int .i64 l.op) (.int .i64 l.fi) (.int .i64 size) (.bool torn) (.int .i64 next) (.slice a8 n8 p8) 118
 have HB0:=xH hb0;have HR1:=xH hr1
 have HVC:Hid (∀ i,(hi:i < l.parts.length)→∃ b o,va=some ⟨b,o,none⟩∧b < w.heap.size∧w.cell? ⟨b,o+i * 4,none⟩=some (.int .i64 l.parts[i].num)):=fun i hi=>by
  obtain ⟨b,o,e,hb,h4⟩:=hvc i hi
  exact ⟨b,o,e,hP b hb,h4.e0⟩
 have hnum:=hs.num;have hop:=hs.op;have hlen:=hs.len
 have HNS:=xH hs.nums
 obtain ⟨D1,hD1⟩:∃ D:ByteArray,⟨(Lib.itoa num).toArray⟩=D:=⟨_,rfl⟩
 have HD1:=xH (fun W=>l6Dec_any num W (by omega) (by omega))
 have hsD1:D1.size≤100:=by rw [← hD1];exact decB_le (by omega) (by omega)
 rw [hD1] at HD1
 obtain ⟨E1,hE1⟩:∃ E:ByteArray,⟨#[109]⟩++D1=E:=⟨_,rfl⟩
 have haE1:∀ T,binOp .add T (.string ⟨#[109]⟩) (.string D1)=pure (.string E1):=fun T=>by
  rw [← hE1];exact addP T _ _ (by have e:(⟨#[109]⟩:ByteArray).size=1:=rfl;omega)
 clear hD1 hE1 hsD1
 obtain ⟨D2,hD2⟩:∃ D:ByteArray,⟨(Lib.itoa l.op).toArray⟩=D:=⟨_,rfl⟩
 have HD2:=xH (fun W=>l6Dec_any l.op W (by omega) (by omega))
 have hsD2:D2.size≤100:=by rw [← hD2];exact decB_le (by omega) (by omega)
 rw [hD2] at HD2
 obtain ⟨E2,hE2⟩:∃ E:ByteArray,⟨#[115]⟩++D2=E:=⟨_,rfl⟩
 have haE2:∀ T,binOp .add T (.string ⟨#[115]⟩) (.string D2)=pure (.string E2):=fun T=>by
  rw [← hE2];exact addP T _ _ (by have e:(⟨#[115]⟩:ByteArray).size=1:=rfl;omega)
 clear hD2 hE2 hsD2
 clear hP hs hb0 hr1 hvc hnum hop
 go_enter Try.func96,Try.ntmps96
 go_wp2_with fail
 generalize (w.alloc (.cells #[.int .i64 code,.int .i64 num,.slice va l.parts.length vc,.int .i64 l.op,.int .i64 l.fi,.int .i64 size,.bool torn,.int .i64 next,.slice a8 n8 p8] 118))=W0 at HB0 HR1 ⊢
 refine (HD1.out W0).mono ?_
 rintro e w1 ⟨rfl,hb1⟩
 have HW1:=xH (HB0.out.trans (hb1.mono HB0.out.size))
 have hr:=HR1.out.of_block (hb1.block _ HR1.out.lt)
 have hb01:=hb1
 obtain ⟨z0,z1,z2,z3,z4,z5,z6,z7,z8⟩:=cell9 hr
 have HRW:=xH hr
 clear hb1 hr hb01 HD1
 cases hq1:(x.toList==E1.toList) with
 | true =>
   go_wp2_with fail
   go_ret
   exact ⟨⟨_,rfl⟩,xU HW1⟩
 | false =>
   go_wp2_with fail
   refine (HD2.out w1).mono ?_
   rintro e w2 ⟨rfl,hb2⟩
   have HW2:=xH (HW1.out.trans (hb2.mono HW1.out.size))
   have HR2:=xH (HRW.out.of_block (hb2.block _ HRW.out.lt))
   clear hb2 HD2 HW1 HRW z0 z1 z2 z3 z4 z5 z6 z7 z8 HB0 HR1
   cases hq2:(x.toList==E2.toList) with
   | true =>
     go_wp2_with fail
     go_ret
     exact ⟨⟨_,rfl⟩,xU HW2⟩
   | false =>
     go_wp2_with fail
     go_loopw [5] (fun vi wr=>∃ (i:Nat),i≤l.parts.length∧vi=.int .i64 i∧Hid (Below w2.heap.size w2 wr)) (fun vi _=>l.parts.length - (intOf vi).toNat)
     case atStart=>exact ⟨0,by omega,rfl,Below.refl _ _⟩
     case round =>
      obtain ⟨i,hi,rfl,HZ⟩:=hrel
      have hr:=HR2.out.of_block (HZ.out.block _ HR2.out.lt)
      obtain ⟨z0,z1,z2,z3,z4,z5,z6,z7,z8⟩:=cell9 hr
      clear hr
      by_cases hlt:i < l.parts.length
      · obtain ⟨b,q,rfl,hb,hx⟩:=HVC.out i hlt
        have hbw:=HW2.out.trans (HZ.out.mono HW2.out.size)
        have hx2:wr.cell? ⟨b,q+i * 4,none⟩=some (.int .i64 l.parts[i].num):=(hbw.cell (show (⟨b,q+i * 4,none⟩:Addr).block < w.heap.size from hb)).trans hx
        obtain ⟨hq3,hq4⟩:=HNS.out _ (List.getElem_mem hlt)
        have HNS:=HNS
        generalize l.parts[i].num=qn at *
        obtain ⟨D3,hD3⟩:∃ D:ByteArray,⟨(Lib.itoa qn).toArray⟩=D:=⟨_,rfl⟩
        have HD3:=xH (fun W=>l6Dec_any qn W (by omega) (by omega))
        have hsD3:D3.size≤100:=by rw [← hD3];exact decB_le (by omega) (by omega)
        rw [hD3] at HD3
        obtain ⟨E3,hE3⟩:∃ E:ByteArray,⟨#[115]⟩++D3=E:=⟨_,rfl⟩
        have haE3:∀ T,binOp .add T (.string ⟨#[115]⟩) (.string D3)=pure (.string E3):=fun T=>by
         rw [← hE3];exact addP T _ _ (by have e:(⟨#[115]⟩:ByteArray).size=1:=rfl;omega)
        clear hD3 hE3 hsD3
        have hd1:decide ((i:Int) < (l.parts.length:Int))=true:=decide_eq_true (by omega)
        have hi0:(0:Int)≤(i:Int):=by omega
        have hil:(i:Int) < (l.parts.length:Int):=by omega
        clear hx hbw HVC
        go_wp2_with fail
        refine (HD3.out _).mono ?_
        rintro e w3 ⟨rfl,hb3⟩
        have HZ3:=xH (HZ.out.trans (hb3.mono HZ.out.size))
        clear hb3 HD3 HZ z0 z1 z2 z3 z4 z5 z6 z7 z8 hx2
        cases hq5:(x.toList==E3.toList) with
        | true =>
          go_wp2_with fail
          go_ret
          exact ⟨⟨_,rfl⟩,HW2.out.trans (HZ3.out.mono HW2.out.size)⟩
        | false =>
          go_wp2_with fail
          go_roundw
          case rel=>exact ⟨i+1,hlt,by go_num,xU HZ3⟩
          case measure=>simp [intOf];omega
      · have hd1:decide ((i:Int) < (l.parts.length:Int))=false:=decide_eq_false (by omega)
        go_wp2_with fail
        go_ret
        exact ⟨⟨_,rfl⟩,HW2.out.trans (HZ.out.mono HW2.out.size)⟩
end Go.Proofs.Yteikmbkljkkjiaa
