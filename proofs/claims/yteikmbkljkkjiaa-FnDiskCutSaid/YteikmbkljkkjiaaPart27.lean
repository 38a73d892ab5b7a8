/- A part. -/
import Derived.Test.YteikmbkljkkjiaaPart26
import Derived.Laws.CopyOwn
set_option maxRecDepth 100000
set_option maxHeartbeats 3200000
namespace Go.Proofs.Yteikmbkljkkjiaa
open Go Go.RowKit
theorem fieldsFile9:Try.prog.underlying 44=some (.struct (Try.prog.fieldsOf 44)):=by kernel_rfl
theorem heldFile9:Try.prog.stoodInHeld 44=false:=by kernel_rfl
theorem guardFile9:Try.prog.eqGuardType Try.prog.depth 44=false:=by kernel_rfl
theorem listFile9:(Try.prog.fieldsOf 44).toList.map (fun f=>(f.name == "_", f.type,f.offset))=[(false,9,0),(false,9,1),(false,3,2)]:=by kernel_rfl
theorem partFile90 (x:ByteArray) (y:ByteArray) (k:Int) (w:World):(part 9 #[.string x,.string y,.int .i64 k] 0).run Try.prog w=.ok (.string x) w:=by kernel_rfl
theorem partFile91 (x:ByteArray) (y:ByteArray) (k:Int) (w:World):(part 9 #[.string x,.string y,.int .i64 k] 1).run Try.prog w=.ok (.string y) w:=by kernel_rfl
theorem partFile92 (x:ByteArray) (y:ByteArray) (k:Int) (w:World):(part 3 #[.string x,.string y,.int .i64 k] 2).run Try.prog w=.ok (.int .i64 k) w:=by kernel_rfl
theorem nFile9 (x:ByteArray) (y:ByteArray) (k:Int) (w:World):(binOp .neq 44 (.agg #[.string x,.string y,.int .i64 k]) (.agg #[.string x,.string y,.int .i64 k])).run Try.prog w=.ok (.bool false) w:=by
 rw [run_neq_struct,run_equalIn_agg w 9999 _ _ _ fieldsFile9 heldFile9]
 have hl:=listFile9
 generalize (Try.prog.fieldsOf 44).toList=fs at hl
 have hlen:fs.length=3:=by have:=congrArg List.length hl;simpa using this
 match fs,hlen with
 | [f0,f1,f2],_ =>
   simp only [List.map_cons,List.map_nil,List.cons.injEq,Prod.mk.injEq,beq_eq_false_iff_ne,and_true] at hl
   obtain ⟨⟨n0,t0,o0⟩,⟨n1,t1,o1⟩,n2,t2,o2⟩:=hl
   have e0:∀ (W:World),(Op.equalIn 9999 9 (.string x) (.string x)).run Try.prog W=.ok true W:=fun W=>by
    have:=run_equalIn_string (P:=Try.prog) W 9998 9 x x Try.underlying9
    simpa using this
   have e1:∀ (W:World),(Op.equalIn 9999 9 (.string y) (.string y)).run Try.prog W=.ok true W:=fun W=>by
    have:=run_equalIn_string (P:=Try.prog) W 9998 9 y y Try.underlying9
    simpa using this
   have e2:∀ (W:World),(Op.equalIn 9999 3 (.int .i64 k) (.int .i64 k)).run Try.prog W=.ok true W:=fun W=>by
    have:=run_equalIn_int (P:=Try.prog) W 9998 3 .i64 .i64 k k Try.underlying3
    simpa using this
   simp only [Op.eqFields,n0,t0,o0,n1,t1,o1,n2,t2,o2,ne_eq,not_false_eq_true,if_true,Sem.run_bind,partFile90,partFile91,partFile92,Result.andThen_ok,e0,e1,e2,Bool.not_true,Bool.false_eq_true,if_false,Sem.run_pure]
theorem neqRunFile9 {o:Oper} {a:Act} {X Y:Operand} {S:TypeId} {x:ByteArray} {y:ByteArray} {k:Int} (ho:o.op=.binOp .neq 44 X Y S) (hx:a.eval X=.agg #[.string x,.string y,.int .i64 k]) (hy:a.eval Y=.agg #[.string x,.string y,.int .i64 k]) (w:World):(execOp a.eval o).run Try.prog w=.ok (.value (.bool false)) w:=by
 unfold execOp
 simp only [ho,hx,hy,Sem.run_bind,run_eqGuard_agg w .neq _ X Y _ _ guardFile9,Result.andThen_ok,nFile9,Sem.run_pure]
theorem fieldsMove9:Try.prog.underlying 60=some (.struct (Try.prog.fieldsOf 60)):=by kernel_rfl
theorem heldMove9:Try.prog.stoodInHeld 60=false:=by kernel_rfl
theorem guardMove9:Try.prog.eqGuardType Try.prog.depth 60=false:=by kernel_rfl
theorem listMove9:(Try.prog.fieldsOf 60).toList.map (fun f=>(f.name == "_", f.type,f.offset))=[(false,4,0),(false,9,1)]:=by kernel_rfl
theorem partMove90 (g:Bool) (x:ByteArray) (w:World):(part 4 #[.bool g,.string x] 0).run Try.prog w=.ok (.bool g) w:=by kernel_rfl
theorem partMove91 (g:Bool) (x:ByteArray) (w:World):(part 9 #[.bool g,.string x] 1).run Try.prog w=.ok (.string x) w:=by kernel_rfl
theorem nMove9 (g:Bool) (x:ByteArray) (w:World):(binOp .neq 60 (.agg #[.bool g,.string x]) (.agg #[.bool g,.string x])).run Try.prog w=.ok (.bool false) w:=by
 rw [run_neq_struct,run_equalIn_agg w 9999 _ _ _ fieldsMove9 heldMove9]
 have hl:=listMove9
 generalize (Try.prog.fieldsOf 60).toList=fs at hl
 have hlen:fs.length=2:=by have:=congrArg List.length hl;simpa using this
 match fs,hlen with
 | [f0,f1],_ =>
   simp only [List.map_cons,List.map_nil,List.cons.injEq,Prod.mk.injEq,beq_eq_false_iff_ne,and_true] at hl
   obtain ⟨⟨n0,t0,o0⟩,n1,t1,o1⟩:=hl
   have e0:∀ (W:World),(Op.equalIn 9999 4 (.bool g) (.bool g)).run Try.prog W=.ok true W:=fun W=>by
    have:=run_equalIn_bool (P:=Try.prog) W 9998 4 g g Try.underlying4
    simpa using this
   have e1:∀ (W:World),(Op.equalIn 9999 9 (.string x) (.string x)).run Try.prog W=.ok true W:=fun W=>by
    have:=run_equalIn_string (P:=Try.prog) W 9998 9 x x Try.underlying9
    simpa using this
   simp only [Op.eqFields,n0,t0,o0,n1,t1,o1,ne_eq,not_false_eq_true,if_true,Sem.run_bind,partMove90,partMove91,Result.andThen_ok,e0,e1,Bool.not_true,Bool.false_eq_true,if_false,Sem.run_pure]
theorem neqRunMove9 {o:Oper} {a:Act} {X Y:Operand} {S:TypeId} {g:Bool} {x:ByteArray} (ho:o.op=.binOp .neq 60 X Y S) (hx:a.eval X=.agg #[.bool g,.string x]) (hy:a.eval Y=.agg #[.bool g,.string x]) (w:World):(execOp a.eval o).run Try.prog w=.ok (.value (.bool false)) w:=by
 unfold execOp
 simp only [ho,hx,hy,Sem.run_bind,run_eqGuard_agg w .neq _ X Y _ _ guardMove9,Result.andThen_ok,nMove9,Sem.run_pure]
theorem ixRunM9 {o:Oper} {a:Act} {X I:Operand} {b q n cap i:Nat} (ho:o.op=.indexAddr 25 X I) (hx:a.eval X=.slice (some ⟨b,q,none⟩) n cap) (hi:a.eval I=.int .i64 (i:Nat)) (h:i < n) (w:World):(execOp a.eval o).run Try.prog w=.ok (.value (.pointer (some ⟨b,q+i * 2,none⟩))) w:=by
 have h1:(0:Int)≤(i:Int)∧(i:Int) < (n:Int):=⟨by omega,by omega⟩
 have h2:(Instr.indexAt 25 (.slice (some ⟨b,q,none⟩) n cap) (.int .i64 (i:Nat))).run Try.prog w=.ok (.pointer (some ⟨b,q+i * 2,none⟩)) w:=by
  rw [← addr_add b q (i * 2)]
  simp [go_sem,h1]
 unfold execOp
 simp only [ho,hx,hi,Sem.run_bind,Sem.run_pure,Result.andThen_ok,h2]
theorem rowMove9:∃ d,Try.prog.underlying 60=some d∧d.isRow=true:=⟨_,Try.underlying60,by rfl⟩
theorem infoMove9:(Try.prog.info? 60).map (·.size)=some 2:=by kernel_rfl
theorem ldMove9 (W:World) (g q:Nat) (a b:Value) (h:W.cell? ⟨g,q,none⟩=some a∧W.cell? ⟨g,q+1,none⟩=some b):(Instr.loadAt 60 (.pointer (some ⟨g,q,none⟩))).run Try.prog W=.ok (.agg #[a,b]) W:=by
 obtain ⟨dd,hdu,hdr⟩:=rowMove9
 have hr:W.rangeAt g q [a,b]:=fun j v hv=>by
  match j,hv with
  | 0,hv=>simp only [List.getElem?_cons_zero,Option.some.injEq] at hv;subst hv;exact h.1
  | 1,hv=>simp only [List.getElem?_cons_succ,List.getElem?_cons_zero,Option.some.injEq] at hv;subst hv;exact h.2
  | _+2,hv=>simp at hv
 unfold Instr.loadAt
 simp only [Instr.sureAddr,Sem.run_bind,Sem.run_pure,Result.andThen_ok,run_loadVar_mid W g q 60 [a,b] dd hr hdu hdr infoMove9]
noncomputable def lt6Ops:Array Oper:=fops Try.f38 6
theorem lt6_neat:Region.noSelect lt6Ops=true∧neat lt6Ops=true:=⟨by kernel_rfl,by kernel_rfl⟩
def kp_lt6 (z:Nat→Value):List (Nat × Value):=[(2,z 2),(3,z 3),(4,z 4),(6,z 6),(7,z 7),(8,z 8),(9,z 9),(10,z 10),(11,z 11),(12,z 12),(13,z 13),(14,z 14),(15,z 15),(16,z 16)]
theorem lt6z (z:Nat→Value) (LL:(Nat→Value)→List Value) (b o n c b2 o2 c2 k:Nat) (x:ByteArray) (W0:World) {l:List Value} (Q:Exit→Act→World→Prop) (hQ:∀ c a d v w,Q (.panic c) (Act.put a d v) w→Q (.panic c) a w) (hc1:W0.drew.cell? ⟨b,o+k,none⟩=some (.string x)) (hc2:W0.drew.cell? ⟨b2,o2+k,none⟩=some (.string x)) (hk:k < n)
 (hl:lookL (kp_lt6 z++[(0,.slice (some ⟨b,o,none⟩) n c),(1,.slice (some ⟨b2,o2,none⟩) n c2),(5,.int .i64 (k:Nat))]) l=(26,((kp_lt6 z++[(0,.slice (some ⟨b,o,none⟩) n c),(1,.slice (some ⟨b2,o2,none⟩) n c2),(5,.int .i64 (k:Nat))]):List (Nat × Value)).map (·.2)))
 (hfr:∀ (u:Nat→Value) ,frL u 26 (kp_lt6 z++[(0,.slice (some ⟨b,o,none⟩) n c),(1,.slice (some ⟨b2,o2,none⟩) n c2),(5,.int .i64 (k:Nat)),(25,.bool false)])=LL u )
 (hend:∀ (u:Nat→Value)  (W:World),W=W0.drew→Q .normal ⟨(LL u ).toArray,[]⟩ W):(Code.region 6 lt6Ops true).wp Try.prog Q ⟨l.toArray,[]⟩ W0:=by
 obtain ⟨v0,rfl⟩:=look_fr hl
 have hq:NtQ lt6Ops Q:=⟨lt6_neat,hQ⟩
 refine T_start (S:=fun W=>W.cell? ⟨b,o+k,none⟩=some (.string x)∧W.cell? ⟨b2,o2+k,none⟩=some (.string x)) (by kernel_rfl) ⟨hc1,hc2⟩ ?_
 clear hl hQ
 generalize W0.drew=V at hc1 hc2 hend ⊢
 refine T_z hq [0,1,4,5] (by kernel_rfl) ?_
 refine T_yld hq 2 (some 19) (.pointer (some ⟨b,o+k,none⟩)) (by kernel_rfl) (by kernel_rfl) (fun w h=>ixRunN (cap:=c) (X:=.tmp 17) (I:=.tmp 18) (by kernel_rfl) (by kernel_rfl) (by kernel_rfl) hk w) ?_
 refine T_a hq [3] (fun w h=>.cons (ldStr _ _ _ h.1) (Lds.nil)) (by kernel_rfl) ?_
 refine T_yld hq 6 (some 23) (.pointer (some ⟨b2,o2+k,none⟩)) (by kernel_rfl) (by kernel_rfl) (fun w h=>ixRunN (cap:=c2) (X:=.tmp 21) (I:=.tmp 22) (by kernel_rfl) (by kernel_rfl) (by kernel_rfl) hk w) ?_
 refine T_a hq [7] (fun w h=>.cons (ldStr _ _ _ h.2) (Lds.nil)) (by kernel_rfl) ?_
 refine T_yld hq 8 (some 25) (.bool false) (by kernel_rfl) (by kernel_rfl) (fun w h=>neqStrRun (T:=9) (S:=9) (X:=.tmp 20) (Y:=.tmp 24) (p:=x) (q:=x) (b:=false) (by kernel_rfl) (by kernel_rfl) (by kernel_rfl) (by simp) w) ?_
 exact T_end 26 (kp_lt6 z++[(0,.slice (some ⟨b,o,none⟩) n c),(1,.slice (some ⟨b2,o2,none⟩) n c2),(5,.int .i64 (k:Nat)),(25,.bool false)]) (by kernel_rfl) (by kernel_rfl) fun hS u=>by rw [hfr];exact hend u V rfl
theorem lt6 (b o n c b2 o2 c2 k:Nat) (x:ByteArray) (W0:World) {l:List Value} (Q:Exit→Act→World→Prop) (hQ:∀ c a d v w,Q (.panic c) (Act.put a d v) w→Q (.panic c) a w) (hc1:W0.drew.cell? ⟨b,o+k,none⟩=some (.string x)) (hc2:W0.drew.cell? ⟨b2,o2+k,none⟩=some (.string x)) (hk:k < n)
 (hl:lookL (kp_lt6 (fun i=>l.getD i undef)++[(0,.slice (some ⟨b,o,none⟩) n c),(1,.slice (some ⟨b2,o2,none⟩) n c2),(5,.int .i64 (k:Nat))]) l=(26,((kp_lt6 (fun i=>l.getD i undef)++[(0,.slice (some ⟨b,o,none⟩) n c),(1,.slice (some ⟨b2,o2,none⟩) n c2),(5,.int .i64 (k:Nat))]):List (Nat × Value)).map (·.2)))
 (hfr:∀ (u:Nat→Value) ,frL u 26 (kp_lt6 (fun i=>l.getD i undef)++[(0,.slice (some ⟨b,o,none⟩) n c),(1,.slice (some ⟨b2,o2,none⟩) n c2),(5,.int .i64 (k:Nat)),(25,.bool false)])=(l.take 17++(u 17::(u 18::(u 19::(u 20::(u 21::(u 22::(u 23::(u 24::(.bool false::[])))))))))))
 (hend:∀ (u:Nat→Value)  (W:World),W=W0.drew→Q .normal ⟨((l.take 17++(u 17::(u 18::(u 19::(u 20::(u 21::(u 22::(u 23::(u 24::(.bool false::[]))))))))))).toArray,[]⟩ W):(Code.region 6 lt6Ops true).wp Try.prog Q ⟨l.toArray,[]⟩ W0 :=
 lt6z (fun i=>l.getD i undef) (fun u =>(l.take 17++(u 17::(u 18::(u 19::(u 20::(u 21::(u 22::(u 23::(u 24::(.bool false::[]))))))))))) b o n c b2 o2 c2 k x W0 Q hQ hc1 hc2 hk hl hfr hend
noncomputable def ld6xOps:Array Oper:=fops Try.f11 6
theorem ld6x_neat:Region.noSelect ld6xOps=true∧neat ld6xOps=true:=⟨by kernel_rfl,by kernel_rfl⟩
def kp_ld6x (z:Nat→Value):List (Nat × Value):=[(0,z 0),(1,z 1),(4,z 4),(6,z 6),(7,z 7),(8,z 8),(9,z 9),(10,z 10),(11,z 11),(12,z 12),(13,z 13),(14,z 14),(15,z 15),(16,z 16),(17,z 17),(18,z 18),(19,z 19),(20,z 20),(21,z 21),(22,z 22),(23,z 23),(24,z 24),(25,z 25),(26,z 26),(27,z 27),(28,z 28),(29,z 29),(30,z 30),(31,z 31),(32,z 32),(33,z 33),(34,z 34),(35,z 35),(36,z 36),(37,z 37),(49,z 49),(50,z 50),(51,z 51),(52,z 52),(53,z 53),(54,z 54),(55,z 55),(56,z 56),(57,z 57),(58,z 58),(59,z 59),(60,z 60),(61,z 61),(62,z 62),(63,z 63),(64,z 64),(65,z 65),(66,z 66)]
theorem ld6xz (z:Nat→Value) (LL:(Nat→Value)→List Value) (A2 A3 b o n c b2 o2 c2 k:Nat) (x y:ByteArray) (zz:Int) (W0:World) {l:List Value} (Q:Exit→Act→World→Prop) (hQ:∀ c a d v w,Q (.panic c) (Act.put a d v) w→Q (.panic c) a w) (hc0:W0.drew.cell? ⟨A2,0,none⟩=some (.slice (some ⟨b,o,none⟩) n c)) (hc1:W0.drew.cell? ⟨A3,0,none⟩=some (.slice (some ⟨b2,o2,none⟩) n c2)) (hc2:(W0.drew.cell? ⟨b,o+k * 3,none⟩=some (.string x)∧W0.drew.cell? ⟨b,o+k * 3+1,none⟩=some (.string y)∧W0.drew.cell? ⟨b,o+k * 3+2,none⟩=some (.int .i64 zz))) (hc3:(W0.drew.cell? ⟨b2,o2+k * 3,none⟩=some (.string x)∧W0.drew.cell? ⟨b2,o2+k * 3+1,none⟩=some (.string y)∧W0.drew.cell? ⟨b2,o2+k * 3+2,none⟩=some (.int .i64 zz))) (hk:k < n)
 (hl:lookL (kp_ld6x z++[(2,.pointer (some ⟨A2,0,none⟩)),(3,.pointer (some ⟨A3,0,none⟩)),(5,.int .i64 (k:Nat))]) l=(67,((kp_ld6x z++[(2,.pointer (some ⟨A2,0,none⟩)),(3,.pointer (some ⟨A3,0,none⟩)),(5,.int .i64 (k:Nat))]):List (Nat × Value)).map (·.2)))
 (hfr:∀ (u:Nat→Value) ,frL u 67 (kp_ld6x z++[(2,.pointer (some ⟨A2,0,none⟩)),(3,.pointer (some ⟨A3,0,none⟩)),(5,.int .i64 (k:Nat)),(48,.bool false)])=LL u )
 (hend:∀ (u:Nat→Value)  (W:World),W=W0.drew→Q .normal ⟨(LL u ).toArray,[]⟩ W):(Code.region 6 ld6xOps true).wp Try.prog Q ⟨l.toArray,[]⟩ W0:=by
 obtain ⟨v0,rfl⟩:=look_fr hl
 have hq:NtQ ld6xOps Q:=⟨ld6x_neat,hQ⟩
 refine T_start (S:=fun W=>W.cell? ⟨A2,0,none⟩=some (.slice (some ⟨b,o,none⟩) n c)∧W.cell? ⟨A3,0,none⟩=some (.slice (some ⟨b2,o2,none⟩) n c2)∧(W.cell? ⟨b,o+k * 3,none⟩=some (.string x)∧W.cell? ⟨b,o+k * 3+1,none⟩=some (.string y)∧W.cell? ⟨b,o+k * 3+2,none⟩=some (.int .i64 zz))∧(W.cell? ⟨b2,o2+k * 3,none⟩=some (.string x)∧W.cell? ⟨b2,o2+k * 3+1,none⟩=some (.string y)∧W.cell? ⟨b2,o2+k * 3+2,none⟩=some (.int .i64 zz))) (by kernel_rfl) ⟨hc0,hc1,hc2,hc3⟩ ?_
 clear hl hQ
 generalize W0.drew=V at hc0 hc1 hc2 hc3 hend ⊢
 refine T_a hq [0,1,2,5,6,7] (fun w h=>.cons (ldFs _ _ _ h.1) (.cons (ldFs _ _ _ h.2.1) (Lds.nil))) (by kernel_rfl) ?_
 refine T_yld hq 3 (some 41) (.pointer (some ⟨b,o+k * 3,none⟩)) (by kernel_rfl) (by kernel_rfl) (fun w h=>ixRun (cap:=c) (X:=.tmp 39) (I:=.tmp 40) (by kernel_rfl) (by kernel_rfl) (by kernel_rfl) hk w) ?_
 refine T_a hq [4] (fun w h=>.cons (ldFile _ _ _ _ _ _ h.2.2.1) (Lds.nil)) (by kernel_rfl) ?_
 refine T_yld hq 8 (some 46) (.pointer (some ⟨b2,o2+k * 3,none⟩)) (by kernel_rfl) (by kernel_rfl) (fun w h=>ixRun (cap:=c2) (X:=.tmp 44) (I:=.tmp 45) (by kernel_rfl) (by kernel_rfl) (by kernel_rfl) hk w) ?_
 refine T_a hq [9] (fun w h=>.cons (ldFile _ _ _ _ _ _ h.2.2.2) (Lds.nil)) (by kernel_rfl) ?_
 refine T_yld hq 10 (some 48) (.bool false) (by kernel_rfl) (by kernel_rfl) (fun w h=>neqRunFile9 (S:=44) (x:=x) (y:=y) (k:=zz) (X:=.tmp 42) (Y:=.tmp 47) (by kernel_rfl) (by kernel_rfl) (by kernel_rfl) w) ?_
 exact T_end 67 (kp_ld6x z++[(2,.pointer (some ⟨A2,0,none⟩)),(3,.pointer (some ⟨A3,0,none⟩)),(5,.int .i64 (k:Nat)),(48,.bool false)]) (by kernel_rfl) (by kernel_rfl) fun hS u=>by rw [hfr];exact hend u V rfl
theorem ld6x (A2 A3 b o n c b2 o2 c2 k:Nat) (x y:ByteArray) (zz:Int) (W0:World) {l:List Value} (Q:Exit→Act→World→Prop) (hQ:∀ c a d v w,Q (.panic c) (Act.put a d v) w→Q (.panic c) a w) (hc0:W0.drew.cell? ⟨A2,0,none⟩=some (.slice (some ⟨b,o,none⟩) n c)) (hc1:W0.drew.cell? ⟨A3,0,none⟩=some (.slice (some ⟨b2,o2,none⟩) n c2)) (hc2:(W0.drew.cell? ⟨b,o+k * 3,none⟩=some (.string x)∧W0.drew.cell? ⟨b,o+k * 3+1,none⟩=some (.string y)∧W0.drew.cell? ⟨b,o+k * 3+2,none⟩=some (.int .i64 zz))) (hc3:(W0.drew.cell? ⟨b2,o2+k * 3,none⟩=some (.string x)∧W0.drew.cell? ⟨b2,o2+k * 3+1,none⟩=some (.string y)∧W0.drew.cell? ⟨b2,o2+k * 3+2,none⟩=some (.int .i64 zz))) (hk:k < n)
 (hl:lookL (kp_ld6x (fun i=>l.getD i undef)++[(2,.pointer (some ⟨A2,0,none⟩)),(3,.pointer (some ⟨A3,0,none⟩)),(5,.int .i64 (k:Nat))]) l=(67,((kp_ld6x (fun i=>l.getD i undef)++[(2,.pointer (some ⟨A2,0,none⟩)),(3,.pointer (some ⟨A3,0,none⟩)),(5,.int .i64 (k:Nat))]):List (Nat × Value)).map (·.2)))
 (hfr:∀ (u:Nat→Value) ,frL u 67 (kp_ld6x (fun i=>l.getD i undef)++[(2,.pointer (some ⟨A2,0,none⟩)),(3,.pointer (some ⟨A3,0,none⟩)),(5,.int .i64 (k:Nat)),(48,.bool false)])=(l.take 38++(u 38::(u 39::(u 40::(u 41::(u 42::(u 43::(u 44::(u 45::(u 46::(u 47::(.bool false::l.drop 49)))))))))))))
 (hend:∀ (u:Nat→Value)  (W:World),W=W0.drew→Q .normal ⟨((l.take 38++(u 38::(u 39::(u 40::(u 41::(u 42::(u 43::(u 44::(u 45::(u 46::(u 47::(.bool false::l.drop 49))))))))))))).toArray,[]⟩ W):(Code.region 6 ld6xOps true).wp Try.prog Q ⟨l.toArray,[]⟩ W0 :=
 ld6xz (fun i=>l.getD i undef) (fun u =>(l.take 38++(u 38::(u 39::(u 40::(u 41::(u 42::(u 43::(u 44::(u 45::(u 46::(u 47::(.bool false::l.drop 49))))))))))))) A2 A3 b o n c b2 o2 c2 k x y zz W0 Q hQ hc0 hc1 hc2 hc3 hk hl hfr hend
noncomputable def ld11xOps:Array Oper:=fops Try.f11 11
theorem ld11x_neat:Region.noSelect ld11xOps=true∧neat ld11xOps=true:=⟨by kernel_rfl,by kernel_rfl⟩
def kp_ld11x (z:Nat→Value):List (Nat × Value):=[(0,z 0),(1,z 1),(4,z 4),(5,z 5),(7,z 7),(8,z 8),(9,z 9),(10,z 10),(11,z 11),(12,z 12),(13,z 13),(14,z 14),(15,z 15),(16,z 16),(17,z 17),(18,z 18),(19,z 19),(20,z 20),(21,z 21),(22,z 22),(23,z 23),(24,z 24),(25,z 25),(26,z 26),(27,z 27),(28,z 28),(29,z 29),(30,z 30),(31,z 31),(32,z 32),(33,z 33),(34,z 34),(35,z 35),(36,z 36),(37,z 37),(38,z 38),(39,z 39),(40,z 40),(41,z 41),(42,z 42),(43,z 43),(44,z 44),(45,z 45),(46,z 46),(47,z 47),(48,z 48),(49,z 49),(50,z 50),(51,z 51),(52,z 52),(53,z 53),(54,z 54),(55,z 55)]
theorem ld11xz (z:Nat→Value) (LL:(Nat→Value)→List Value) (A2 A3 b o n c b2 o2 c2 k:Nat) (x:Bool) (y:ByteArray) (W0:World) {l:List Value} (Q:Exit→Act→World→Prop) (hQ:∀ c a d v w,Q (.panic c) (Act.put a d v) w→Q (.panic c) a w) (hc0:W0.drew.cell? ⟨A2,2,none⟩=some (.slice (some ⟨b,o,none⟩) n c)) (hc1:W0.drew.cell? ⟨A3,2,none⟩=some (.slice (some ⟨b2,o2,none⟩) n c2)) (hc2:(W0.drew.cell? ⟨b,o+k * 2,none⟩=some (.bool x)∧W0.drew.cell? ⟨b,o+k * 2+1,none⟩=some (.string y))) (hc3:(W0.drew.cell? ⟨b2,o2+k * 2,none⟩=some (.bool x)∧W0.drew.cell? ⟨b2,o2+k * 2+1,none⟩=some (.string y))) (hk:k < n)
 (hl:lookL (kp_ld11x z++[(2,.pointer (some ⟨A2,0,none⟩)),(3,.pointer (some ⟨A3,0,none⟩)),(6,.int .i64 (k:Nat))]) l=(67,((kp_ld11x z++[(2,.pointer (some ⟨A2,0,none⟩)),(3,.pointer (some ⟨A3,0,none⟩)),(6,.int .i64 (k:Nat))]):List (Nat × Value)).map (·.2)))
 (hfr:∀ (u:Nat→Value) ,frL u 67 (kp_ld11x z++[(2,.pointer (some ⟨A2,0,none⟩)),(3,.pointer (some ⟨A3,0,none⟩)),(6,.int .i64 (k:Nat)),(66,.bool false)])=LL u )
 (hend:∀ (u:Nat→Value)  (W:World),W=W0.drew→Q .normal ⟨(LL u ).toArray,[]⟩ W):(Code.region 11 ld11xOps true).wp Try.prog Q ⟨l.toArray,[]⟩ W0:=by
 obtain ⟨v0,rfl⟩:=look_fr hl
 have hq:NtQ ld11xOps Q:=⟨ld11x_neat,hQ⟩
 refine T_start (S:=fun W=>W.cell? ⟨A2,2,none⟩=some (.slice (some ⟨b,o,none⟩) n c)∧W.cell? ⟨A3,2,none⟩=some (.slice (some ⟨b2,o2,none⟩) n c2)∧(W.cell? ⟨b,o+k * 2,none⟩=some (.bool x)∧W.cell? ⟨b,o+k * 2+1,none⟩=some (.string y))∧(W.cell? ⟨b2,o2+k * 2,none⟩=some (.bool x)∧W.cell? ⟨b2,o2+k * 2+1,none⟩=some (.string y))) (by kernel_rfl) ⟨hc0,hc1,hc2,hc3⟩ ?_
 clear hl hQ
 generalize W0.drew=V at hc0 hc1 hc2 hc3 hend ⊢
 refine T_a hq [0,1,2,5,6,7] (fun w h=>.cons (ldMs _ _ _ h.1) (.cons (ldMs _ _ _ h.2.1) (Lds.nil))) (by kernel_rfl) ?_
 refine T_yld hq 3 (some 59) (.pointer (some ⟨b,o+k * 2,none⟩)) (by kernel_rfl) (by kernel_rfl) (fun w h=>ixRunM9 (cap:=c) (X:=.tmp 57) (I:=.tmp 58) (by kernel_rfl) (by kernel_rfl) (by kernel_rfl) hk w) ?_
 refine T_a hq [4] (fun w h=>.cons (ldMove9 _ _ _ _ _ h.2.2.1) (Lds.nil)) (by kernel_rfl) ?_
 refine T_yld hq 8 (some 64) (.pointer (some ⟨b2,o2+k * 2,none⟩)) (by kernel_rfl) (by kernel_rfl) (fun w h=>ixRunM9 (cap:=c2) (X:=.tmp 62) (I:=.tmp 63) (by kernel_rfl) (by kernel_rfl) (by kernel_rfl) hk w) ?_
 refine T_a hq [9] (fun w h=>.cons (ldMove9 _ _ _ _ _ h.2.2.2) (Lds.nil)) (by kernel_rfl) ?_
 refine T_yld hq 10 (some 66) (.bool false) (by kernel_rfl) (by kernel_rfl) (fun w h=>neqRunMove9 (S:=60) (g:=x) (x:=y) (X:=.tmp 60) (Y:=.tmp 65) (by kernel_rfl) (by kernel_rfl) (by kernel_rfl) w) ?_
 exact T_end 67 (kp_ld11x z++[(2,.pointer (some ⟨A2,0,none⟩)),(3,.pointer (some ⟨A3,0,none⟩)),(6,.int .i64 (k:Nat)),(66,.bool false)]) (by kernel_rfl) (by kernel_rfl) fun hS u=>by rw [hfr];exact hend u V rfl
theorem ld11x (A2 A3 b o n c b2 o2 c2 k:Nat) (x:Bool) (y:ByteArray) (W0:World) {l:List Value} (Q:Exit→Act→World→Prop) (hQ:∀ c a d v w,Q (.panic c) (Act.put a d v) w→Q (.panic c) a w) (hc0:W0.drew.cell? ⟨A2,2,none⟩=some (.slice (some ⟨b,o,none⟩) n c)) (hc1:W0.drew.cell? ⟨A3,2,none⟩=some (.slice (some ⟨b2,o2,none⟩) n c2)) (hc2:(W0.drew.cell? ⟨b,o+k * 2,none⟩=some (.bool x)∧W0.drew.cell? ⟨b,o+k * 2+1,none⟩=some (.string y))) (hc3:(W0.drew.cell? ⟨b2,o2+k * 2,none⟩=some (.bool x)∧W0.drew.cell? ⟨b2,o2+k * 2+1,none⟩=some (.string y))) (hk:k < n)
 (hl:lookL (kp_ld11x (fun i=>l.getD i undef)++[(2,.pointer (some ⟨A2,0,none⟩)),(3,.pointer (some ⟨A3,0,none⟩)),(6,.int .i64 (k:Nat))]) l=(67,((kp_ld11x (fun i=>l.getD i undef)++[(2,.pointer (some ⟨A2,0,none⟩)),(3,.pointer (some ⟨A3,0,none⟩)),(6,.int .i64 (k:Nat))]):List (Nat × Value)).map (·.2)))
 (hfr:∀ (u:Nat→Value) ,frL u 67 (kp_ld11x (fun i=>l.getD i undef)++[(2,.pointer (some ⟨A2,0,none⟩)),(3,.pointer (some ⟨A3,0,none⟩)),(6,.int .i64 (k:Nat)),(66,.bool false)])=(l.take 56++(u 56::(u 57::(u 58::(u 59::(u 60::(u 61::(u 62::(u 63::(u 64::(u 65::(.bool false::[])))))))))))))
 (hend:∀ (u:Nat→Value)  (W:World),W=W0.drew→Q .normal ⟨((l.take 56++(u 56::(u 57::(u 58::(u 59::(u 60::(u 61::(u 62::(u 63::(u 64::(u 65::(.bool false::[]))))))))))))).toArray,[]⟩ W):(Code.region 11 ld11xOps true).wp Try.prog Q ⟨l.toArray,[]⟩ W0 :=
 ld11xz (fun i=>l.getD i undef) (fun u =>(l.take 56++(u 56::(u 57::(u 58::(u 59::(u 60::(u 61::(u 62::(u 63::(u 64::(u 65::(.bool false::[]))))))))))))) A2 A3 b o n c b2 o2 c2 k x y W0 Q hQ hc0 hc1 hc2 hc3 hk hl hfr hend
theorem below_dn9 (w:World) (m:Nat):Below w.heap.size w (w.drewN m):=⟨rfl,rfl,rfl,Nat.le_refl _,fun _ _=>rfl⟩
theorem loTexts_same (v v2:Value) (xs:List ByteArray) (P Q:Nat→Prop) (w:World) (h:StrsAt P w v xs) (h2:StrsAt Q w v2 xs) :
 Calls Try.prog 38 #[v,v2] w fun e w'=>e=.returned (.bool true)∧Below w.heap.size w w':=by
 obtain ⟨a,c,rfl,hl,hc⟩:=h
 obtain ⟨a2,c2,rfl,-,hc2⟩:=h2
 have HC:=xH hc;have HC2:=xH hc2
 clear hc hc2
 have hne:((xs.length:Int) != (xs.length:Int))=false:=by simp
 go_enter Try.func38,Try.ntmps38
 go_wp2_with fail
 clear hne
 go_loopw [5] (fun i wr=>∃ (k m:Nat),k≤xs.length∧i=.int .i64 k∧wr=w.drewN m) (fun i _=>xs.length - (intOf i).toNat)
 case atStart=>exact ⟨0,0,Nat.zero_le _,rfl,rfl⟩
 case round =>
  obtain ⟨k,m,hk,rfl,hwr⟩:=hrel
  subst hwr
  by_cases hlt:k < xs.length
  · obtain ⟨b,o,rfl,-,e0,-⟩:=xU HC k hlt
    obtain ⟨b2,o2,rfl,-,e2,-⟩:=xU HC2 k hlt
    have hkd:decide ((k:Int) < (xs.length:Int))=true:=decide_eq_true (by omega)
    go_upto_region 6 with fail
    refine wp_swap (c':=Code.region 6 lt6Ops true) (by kernel_rfl) ?_
    refine wp_region_noPanic ?_
    refine lt6 b o xs.length c b2 o2 c2 k xs[k] (w.drewN m) _ (fun _ _ _ _ _ h=>h) e0 e2 hlt (by kernel_rfl) (fun u=>by kernel_rfl) ?_
    intro u W hW
    subst hW
    refine NoPanic.normal ?_
    simp only [List.take_succ_cons,List.take_zero,List.cons_append,List.nil_append]
    clear e0 e2 hkd
    go_wp2_with fail
    go_roundw
    case rel=>exact ⟨k+1,m+1,by omega,by go_num,by first | rfl | trivial⟩
    case measure=>simp [intOf];omega
  · obtain rfl:k=xs.length:=by omega
    go_wp2_with fail
    go_ret
    exact ⟨rfl,below_dn9 w m⟩
theorem loDisk_same (d:Dk) (P Q:Nat→Prop) (c c':C3) (w:World) (hP:∀ b,P b→b < w.heap.size) (hQ:∀ b,Q b→b < w.heap.size) (h:DkAt P w d c) (h':DkAt Q w d c') :
 Calls Try.prog 11 #[.agg #[c.c0,c.c1,c.c2],.agg #[c'.c0,c'.c1,c'.c2]] w fun e w'=>e=.returned (.bool true)∧Below w.heap.size w w':=by
 obtain ⟨c0,c1,c2⟩:=c
 obtain ⟨u0,u1,u2⟩:=c'
 obtain ⟨a0,c0,g0,hl0,-⟩:=h.fs.open
 obtain ⟨a1,c1,g1,-,-⟩:=id h.ns
 obtain ⟨a2,c2,g2,hl2,-⟩:=h.ms.open
 simp only at g0 g1 g2
 subst g0 g1 g2
 obtain ⟨a0',c0',g0,hl0',-⟩:=h'.fs.open
 obtain ⟨a1',c1',g1,-,-⟩:=id h'.ns
 obtain ⟨a2',c2',g2,hl2',-⟩:=h'.ms.open
 simp only at g0 g1 g2
 subst g0 g1 g2
 have HB0:Hid (Below w.heap.size w ((w.alloc (.cells #[.slice a0 d.files.length c0,.slice a1 d.names.length c1,.slice a2 d.moves.length c2] 27)).alloc (.cells #[.slice a0' d.files.length c0',.slice a1' d.names.length c1',.slice a2' d.moves.length c2'] 27))):=xH (((Below.refl _ _).alloc (Nat.le_refl _) _).alloc (by simp) _)
 have HA2:Hid (((w.alloc (.cells #[.slice a0 d.files.length c0,.slice a1 d.names.length c1,.slice a2 d.moves.length c2] 27)).alloc (.cells #[.slice a0' d.files.length c0',.slice a1' d.names.length c1',.slice a2' d.moves.length c2'] 27)).rowIs w.heap.size 27 3 (row3 (.slice a0 d.files.length c0) (.slice a1 d.names.length c1) (.slice a2 d.moves.length c2))):=xH ((row3_alloc w _ _ _ _).alloc _)
 have HA3:Hid (((w.alloc (.cells #[.slice a0 d.files.length c0,.slice a1 d.names.length c1,.slice a2 d.moves.length c2] 27)).alloc (.cells #[.slice a0' d.files.length c0',.slice a1' d.names.length c1',.slice a2' d.moves.length c2'] 27)).rowIs (w.heap.size+1) 27 3 (row3 (.slice a0' d.files.length c0') (.slice a1' d.names.length c1') (.slice a2' d.moves.length c2'))):=xH (by
  have:=row3_alloc (w.alloc (.cells #[.slice a0 d.files.length c0,.slice a1 d.names.length c1,.slice a2 d.moves.length c2] 27)) (.slice a0' d.files.length c0') (.slice a1' d.names.length c1') (.slice a2' d.moves.length c2') 27
  rw [World.size_alloc] at this
  exact this)
 have HD:=xH (h.carry (w':=((w.alloc (.cells #[.slice a0 d.files.length c0,.slice a1 d.names.length c1,.slice a2 d.moves.length c2] 27)).alloc (.cells #[.slice a0' d.files.length c0',.slice a1' d.names.length c1',.slice a2' d.moves.length c2'] 27))) (Q:=fun b=>b < w.heap.size) (fun b hb=>HB0.out.block b (hP b hb)) hP)
 have HE:=xH (h'.carry (w':=((w.alloc (.cells #[.slice a0 d.files.length c0,.slice a1 d.names.length c1,.slice a2 d.moves.length c2] 27)).alloc (.cells #[.slice a0' d.files.length c0',.slice a1' d.names.length c1',.slice a2' d.moves.length c2'] 27))) (Q:=fun b=>b < w.heap.size) (fun b hb=>HB0.out.block b (hQ b hb)) hQ)
 have hsz:((w.alloc (.cells #[.slice a0 d.files.length c0,.slice a1 d.names.length c1,.slice a2 d.moves.length c2] 27)).alloc (.cells #[.slice a0' d.files.length c0',.slice a1' d.names.length c1',.slice a2' d.moves.length c2'] 27)).heap.size=w.heap.size+2:=by simp
 clear h h' hP hQ
 go_enter Try.func11,Try.ntmps11
 go_upto_region 1 with fail
 generalize ((w.alloc (.cells #[.slice a0 d.files.length c0,.slice a1 d.names.length c1,.slice a2 d.moves.length c2] 27)).alloc (.cells #[.slice a0' d.files.length c0',.slice a1' d.names.length c1',.slice a2' d.moves.length c2'] 27))=W1 at HB0 HA2 HA3 HD HE hsz ⊢
 have HT:=xH (loTexts_same _ _ d.names _ _ W1 HD.out.ns HE.out.ns)
 obtain ⟨l0,l1,l2⟩:=cs3 HA2.out (by omega)
 have y0:=HA3.out.cell (i:=0) (by omega);have y1:=HA3.out.cell (i:=1) (by omega);have y2:=HA3.out.cell (i:=2) (by omega)
 simp only [row3] at l0 l1 l2 y0 y1 y2
 have hn0:((d.files.length:Int) != (d.files.length:Int))=false:=by simp
 have hn2:((d.moves.length:Int) != (d.moves.length:Int))=false:=by simp
 simp only at HT
 go_wp2_with fail
 refine HT.out.mono ?_
 rintro e w1 ⟨rfl,hb1⟩
 have HB1:=xH hb1
 clear HT hb1 l0 l1 l2 y0 y1 y2 hn0 hn2
 go_wp2_with fail
 go_loopw [5] (fun kk wr=>∃ (k:Nat),k≤d.files.length∧kk=.int .i64 k∧Hid (Below W1.heap.size W1 wr)) (fun kk _=>d.files.length - (intOf kk).toNat)
 case atStart=>exact ⟨0,Nat.zero_le _,rfl,HB1⟩
 case round =>
  clear HB1
  obtain ⟨k,hk,rfl,HB⟩:=hrel
  have hA2:=HA2.out.of_block (HB.out.block _ HA2.out.lt)
  have hA3:=HA3.out.of_block (HB.out.block _ HA3.out.lt)
  have l0:=hA2.cell (i:=0) (by omega);have y0:=hA3.cell (i:=0) (by omega)
  simp only [row3] at l0 y0
  by_cases hlt:k < d.files.length
  · have hD:=HD.out.carry (w':=wr) (Q:=fun b=>b < w.heap.size) (fun b hb=>HB.out.block b (by omega)) (fun _ h=>h)
    have hE:=HE.out.carry (w':=wr) (Q:=fun b=>b < w.heap.size) (fun b hb=>HB.out.block b (by omega)) (fun _ h=>h)
    obtain ⟨x0,x1,e1,-,hf⟩:=hD.fs.open
    obtain ⟨z0,z1,e2,-,hg⟩:=hE.fs.open
    simp only [Value.slice.injEq,true_and] at e1 e2
    obtain ⟨rfl,rfl⟩:=e1
    obtain ⟨rfl,rfl⟩:=e2
    obtain ⟨b,o,rfl,-,t1,-⟩:=hf k hlt
    obtain ⟨b2,o2,rfl,-,t2,-⟩:=hg k hlt
    have hkd:decide ((k:Int) < (d.files.length:Int))=true:=decide_eq_true (by omega)
    have HC:=xH (And.intro l0 (And.intro y0 (And.intro t1 t2)))
    clear hD hE hf hg t1 t2 hA2 hA3
    go_upto_region 6 with fail
    refine wp_swap (c':=Code.region 6 ld6xOps true) (by kernel_rfl) ?_
    refine wp_region_noPanic ?_
    refine ld6x w.heap.size (w.heap.size+1) b o d.files.length c0 b2 o2 c0' k d.files[k].name d.files[k].data d.files[k].kept wr _ (fun _ _ _ _ _ h=>h) HC.out.1 HC.out.2.1 HC.out.2.2.1 HC.out.2.2.2 hlt (by kernel_rfl) (fun u=>by kernel_rfl) ?_
    intro u W hW
    subst hW
    refine NoPanic.normal ?_
    simp only [List.take_succ_cons,List.take_zero,List.drop_succ_cons,List.drop_zero,List.cons_append,List.nil_append]
    clear l0 y0 hkd HC
    go_wp2_with fail
    go_roundw
    case rel=>exact ⟨k+1,by omega,by go_num,xH HB.out.drew⟩
    case measure=>simp [intOf];omega
  · obtain rfl:k=d.files.length:=by omega
    have hkd:decide ((d.files.length:Int) < (d.files.length:Int))=false:=decide_eq_false (by omega)
    go_wp2_with fail
    clear l0 y0 hkd hA2 hA3 hlt hk
    go_loopw [6] (fun kk wr=>∃ (k:Nat),k≤d.moves.length∧kk=.int .i64 k∧Hid (Below W1.heap.size W1 wr)) (fun kk _=>d.moves.length - (intOf kk).toNat)
    case atStart=>exact ⟨0,Nat.zero_le _,rfl,HB⟩
    case round =>
     clear HB
     obtain ⟨k,hk,rfl,HB⟩:=hrel
     have hA2:=HA2.out.of_block (HB.out.block _ HA2.out.lt)
     have hA3:=HA3.out.of_block (HB.out.block _ HA3.out.lt)
     have l0:=hA2.cell (i:=2) (by omega);have y0:=hA3.cell (i:=2) (by omega)
     simp only [row3] at l0 y0
     by_cases hlt:k < d.moves.length
     · have hD:=HD.out.carry (w':=wr) (Q:=fun b=>b < w.heap.size) (fun b hb=>HB.out.block b (by omega)) (fun _ h=>h)
       have hE:=HE.out.carry (w':=wr) (Q:=fun b=>b < w.heap.size) (fun b hb=>HB.out.block b (by omega)) (fun _ h=>h)
       obtain ⟨x0,x1,e1,-,hf⟩:=hD.ms.open
       obtain ⟨z0,z1,e2,-,hg⟩:=hE.ms.open
       simp only [Value.slice.injEq,true_and] at e1 e2
       obtain ⟨rfl,rfl⟩:=e1
       obtain ⟨rfl,rfl⟩:=e2
       obtain ⟨b,o,rfl,-,t1,t1',-⟩:=hf k hlt
       obtain ⟨b2,o2,rfl,-,t2,t2',-⟩:=hg k hlt
       have hkd:decide ((k:Int) < (d.moves.length:Int))=true:=decide_eq_true (by omega)
       have HC:=xH (And.intro l0 (And.intro y0 (And.intro (And.intro t1 t1') (And.intro t2 t2'))))
       clear hD hE hf hg t1 t2 t1' t2' hA2 hA3
       go_upto_region 11 with fail
       refine wp_swap (c':=Code.region 11 ld11xOps true) (by kernel_rfl) ?_
       refine wp_region_noPanic ?_
       refine ld11x w.heap.size (w.heap.size+1) b o d.moves.length c2 b2 o2 c2' k d.moves[k].gone d.moves[k].name wr _ (fun _ _ _ _ _ h=>h) HC.out.1 HC.out.2.1 HC.out.2.2.1 HC.out.2.2.2 hlt (by kernel_rfl) (fun u=>by kernel_rfl) ?_
       intro u W hW
       subst hW
       refine NoPanic.normal ?_
       simp only [List.take_succ_cons,List.take_zero,List.cons_append,List.nil_append]
       clear l0 y0 hkd HC
       go_wp2_with fail
       go_roundw
       case rel=>exact ⟨k+1,by omega,by go_num,xH HB.out.drew⟩
       case measure=>simp [intOf];omega
     · obtain rfl:k=d.moves.length:=by omega
       have hkd:decide ((d.moves.length:Int) < (d.moves.length:Int))=false:=decide_eq_false (by omega)
       go_wp2_with fail
       go_ret
       exact ⟨rfl,HB0.out.trans (HB.out.mono HB0.out.size)⟩
end Go.Proofs.Yteikmbkljkkjiaa

namespace Go.Proofs.Yteikmbkljkkjiaa
open Go Go.RowKit
theorem names_inj8 {d:Dk} (h:DkOkS d) {i j:Nat} (hi:i < d.files.length) (hj:j < d.files.length) (e:d.files[i].name=d.files[j].name):i=j:=by
 have h1:=(h.file i hi (by rw [h.len];exact hi)).find
 have h2:=(h.file j hj (by rw [h.len];exact hj)).find
 rw [e,h2] at h1
 omega
theorem file_ok8 {d:Dk} (h:DkOkS d) {f:Df} (hf:f∈d.files):nameOkB f.name=true∧f.data.size≤20000∧0≤f.kept∧f.kept≤f.data.size:=by
 obtain ⟨i,hi,rfl⟩:=List.getElem_of_mem hf
 have:=h.file i hi (by rw [h.len];exact hi)
 exact ⟨this.name,this.data,this.kept⟩
theorem cutF_facts {f:Df} (hk:0≤f.kept∧f.kept≤f.data.size) (n:Int):f.kept≤(cutB f n).size∧(cutB f n).size≤f.data.size∧f.data.extract 0 (cutB f n).size=cutB f n:=by
 have h1:=cutB_sz f n hk
 have h2:((moreN f n:Nat):Int)≤(f.data.size:Int) - f.kept:=by unfold moreN;omega
 refine ⟨by omega,by omega,?_⟩
 have h3:=cutB_eq f n hk
 have h4:(cutB f n).size=f.kept.toNat+moreN f n:=by omega
 rw [h4]
 exact h3.symm
theorem cut_name8 {d:Dk} {m:Int} {zs:List Int} (h:DkOkS d):∀ x,x∈cutN d m→∃ i,∃ hi:i < d.files.length,d.files[i].name=x∧fileD d x=d.files[i]∧cutX d zs x=cutF d.files[i] (zs.getD i 0):=fun x hx=>by
 obtain ⟨i,hi,h1,h2⟩:=(cutN_facts h m).2.2 x hx
 exact ⟨i,hi,h1,fileD_at hi h2,by unfold cutX;rw [fileD_at hi h2,h2];rfl⟩
theorem cut_ok8 {d:Dk} (m:Int) (zs:List Int) (h:DkOkS d):DkOkS (cutD d m zs):=by
 obtain ⟨hnd,heq,-⟩:=dk_nodup h
 rw [cutD_ok h]
 have han:=after_nodup hnd (clampQ m d.moves.length) (clampQ_le _ _)
 have hle:(cutN d m).length≤d.files.length:=by
  have:=len_sub (cutN d m) (madeD d.names d.moves) han.1 (fun x hx=>(made_sub _ _ _).subset (han.2 x hx))
  rw [h.len] at this
  exact this
 have l1:=h.l1
 have hmn:madeD (cutN d m) []=cutN d m:=by unfold madeD;simp
 refine ok_of (by simp only [List.length_map];omega) (by simp only;omega) (by simp) ?_ ?_ ?_ (fun i hi=>by simp at hi)
 · simp only
   rw [hmn,List.map_map]
   refine (List.map_congr_left fun z hz=>?_).trans (List.map_id' _)
   obtain ⟨i,hi,h1,-,h3⟩:=cut_name8 (m:=m) (zs:=zs) h z hz
   show (cutX d zs z).name=z
   rw [h3]
   exact h1
 · simp only;rw [hmn];exact han.1
 · intro f hf
   obtain ⟨z,hz,rfl⟩:=List.mem_map.1 hf
   obtain ⟨i,hi,h1,-,h3⟩:=cut_name8 (m:=m) (zs:=zs) h z hz
   have hfo:=file_ok8 h (List.getElem_mem hi)
   have hcf:=cutF_facts hfo.2.2 (zs.getD i 0)
   rw [h3]
   exact ⟨hfo.1,Nat.le_trans hcf.2.1 hfo.2.1,by show (0:Int)≤((cutB d.files[i] (zs.getD i 0)).size:Nat);omega,Int.le_refl _⟩
theorem cut_files8 {d:Dk} (m:Int) (zs:List Int) (h:DkOkS d):∀ f,f∈(cutD d m zs).files→∃ i,∃ hi:i < d.files.length,d.files[i].name=f.name∧d.files[i].kept≤f.data.size∧f.data.size≤d.files[i].data.size∧d.files[i].data.extract 0 f.data.size=f.data∧f.kept=f.data.size:=fun f hf=>by
 rw [cutD_ok h] at hf
 obtain ⟨z,hz,rfl⟩:=List.mem_map.1 hf
 obtain ⟨i,hi,h1,-,h3⟩:=cut_name8 (m:=m) (zs:=zs) h z hz
 have hfo:=file_ok8 h (List.getElem_mem hi)
 have hcf:=cutF_facts hfo.2.2 (zs.getD i 0)
 rw [h3]
 exact ⟨i,hi,rfl,hcf.1,hcf.2.1,hcf.2.2,rfl⟩
theorem cut_same8 {d:Dk} (m:Int) (zs:List Int) (m2:Int) (zs2:List Int) (h:DkOkS d):cutD (cutD d m zs) m2 zs2=cutD d m zs:=by
 have hok:=cut_ok8 m zs h
 obtain ⟨-,heq,-⟩:=dk_nodup hok
 have hmv:(cutD d m zs).moves=[]:=by rw [cutD_ok h]
 have hN:cutN (cutD d m zs) m2=(cutD d m zs).names:=by unfold cutN;rw [hmv,List.take_nil];rfl
 have hmade:madeD (cutD d m zs).names (cutD d m zs).moves=(cutD d m zs).names:=by rw [hmv];unfold madeD;simp
 rw [cutD_ok hok,hN]
 have hfl:(cutD d m zs).names.map (cutX (cutD d m zs) zs2)=(cutD d m zs).files:=by
  rw [← hmade,← heq,List.map_map]
  refine (List.map_congr_left fun f hf=>?_).trans (List.map_id' _)
  have hfn:f.name∈cutN (cutD d m zs) m2:=by rw [hN,← hmade,← heq];exact List.mem_map_of_mem hf
  obtain ⟨i,hi,h1,-,h3⟩:=cut_name8 (m:=m2) (zs:=zs2) hok f.name hfn
  obtain ⟨j,hj,rfl⟩:=List.getElem_of_mem hf
  have hij:=names_inj8 hok hi hj h1
  subst hij
  show cutX (cutD d m zs) zs2 _=_
  rw [h3]
  obtain ⟨-,-,-,-,-,-,hkp⟩:=cut_files8 m zs h _ (List.getElem_mem hi)
  have hfo:=file_ok8 hok (List.getElem_mem hi)
  have hcf:=cutF_facts hfo.2.2 (zs2.getD i 0)
  have hsz:(cutB (cutD d m zs).files[i] (zs2.getD i 0)).size=(cutD d m zs).files[i].data.size:=by omega
  have hb:cutB (cutD d m zs).files[i] (zs2.getD i 0)=(cutD d m zs).files[i].data:=by rw [← hcf.2.2,hsz,ByteArray.extract_zero_size]
  unfold cutF
  rw [hb,← hkp]
 rw [hfl,← hmv]
end Go.Proofs.Yteikmbkljkkjiaa

namespace Go.Proofs.Yteikmbkljkkjiaa
open Go Go.RowKit Go.WideMaps Go.Maps
end Go.Proofs.Yteikmbkljkkjiaa

namespace Go.Proofs.Yteikmbkljkkjiaa
open Go Go.RowKit Go.WideMaps Go.Maps
end Go.Proofs.Yteikmbkljkkjiaa

namespace Go.Proofs.Yteikmbkljkkjiaa
open Go Go.RowKit Go.WideMaps Go.Maps
end Go.Proofs.Yteikmbkljkkjiaa

namespace Go.Proofs.Yteikmbkljkkjiaa
open Go Go.RowKit
end Go.Proofs.Yteikmbkljkkjiaa

namespace Go.Proofs.Yteikmbkljkkjiaa
open Go Go.RowKit
end Go.Proofs.Yteikmbkljkkjiaa

namespace Go.Proofs.Yteikmbkljkkjiaa
open Go Go.RowKit
end Go.Proofs.Yteikmbkljkkjiaa
