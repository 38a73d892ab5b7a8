/- A part. -/
import Derived.Test.YteikmbkljkkjiaaPart30
set_option maxRecDepth 100000
set_option maxHeartbeats 3200000
namespace Go.Proofs.Yteikmbkljkkjiaa
open Go Go.RowKit
theorem fieldsFile9:Try.prog.underlying 44=some (.struct (Try.prog.fieldsOf 44)):=by kernel_rfl
theorem heldFile9:Try.prog.stoodInHeld 44=false:=by kernel_rfl
theorem guardFile9:Try.prog.eqGuardType Try.prog.depth 44=false:=by kernel_rfl
theorem listFile9:(Try.prog.fieldsOf 44).toList.map (fun f=>(f.name == "_", f.type,f.offset))=[(false,9,0),(false,9,1),(false,3,2)]:=by kernel_rfl
theorem partFile90 (x:ByteArray) (y:ByteArray) (k:Int) (w:World):(part 9 #[.string x,.string y,.int .i64 k] 0).run Try.prog w=.ok (.string x) w:=by kernel_rfl
theorem partFile91 (x:ByteArray) (y:ByteArray) (k:Int) (w:World):(part 9 #[.string x,.string y,.int .i64 k] 1).run Try.prog w=.ok (.string y) w:=by kernel_rfl
theorem partFile92 (x:ByteArray) (y:ByteArray) (k:Int) (w:World):(part 3 #[.string x,.string y,.int .i64 k] 2).run Try.prog w=.ok (.int .i64 k) w:=by kernel_rfl
theorem nFile9 (x:ByteArray) (y:ByteArray) (k:Int) (w:World):(binOp .neq 44 (.agg #[.string x,.string y,.int .i64 k]) (.agg #[.string x,.string y,.int .i64 k])).run Try.prog w=.ok (.bool false) w:=by
 rw [run_neq_struct,run_equalIn_agg w 9999 _ _ _ fieldsFile9 heldFile9]
 have hl:=listFile9
 generalize (Try.prog.fieldsOf 44).toList=fs at hl
 have hlen:fs.length=3:=by have:=congrArg List.length hl;simpa using this
 match fs,hlen with
 | [f0,f1,f2],_ =>
   simp only [List.map_cons,List.map_nil,List.cons.injEq,Prod.mk.injEq,beq_eq_false_iff_ne,and_true] at hl
   obtain ⟨⟨n0,t0,o0⟩,⟨n1,t1,o1⟩,n2,t2,o2⟩:=hl
   have e0:∀ (W:World),(Op.equalIn 9999 9 (.string x) (.string x)).run Try.prog W=.ok true W:=fun W=>by
    have:=run_equalIn_string (P:=Try.prog) W 9998 9 x x Try.underlying9
    simpa using this
   have e1:∀ (W:World),(Op.equalIn 9999 9 (.string y) (.string y)).run Try.prog W=.ok true W:=fun W=>by
    have:=run_equalIn_string (P:=Try.prog) W 9998 9 y y Try.underlying9
    simpa using this
   have e2:∀ (W:World),(Op.equalIn 9999 3 (.int .i64 k) (.int .i64 k)).run Try.prog W=.ok true W:=fun W=>by
    have:=run_equalIn_int (P:=Try.prog) W 9998 3 .i64 .i64 k k Try.underlying3
    simpa using this
   simp only [Op.eqFields,n0,t0,o0,n1,t1,o1,n2,t2,o2,ne_eq,not_false_eq_true,if_true,Sem.run_bind,partFile90,partFile91,partFile92,Result.andThen_ok,e0,e1,e2,Bool.not_true,Bool.false_eq_true,if_false,Sem.run_pure]
theorem neqRunFile9 {o:Oper} {a:Act} {X Y:Operand} {S:TypeId} {x:ByteArray} {y:ByteArray} {k:Int} (ho:o.op=.binOp .neq 44 X Y S) (hx:a.eval X=.agg #[.string x,.string y,.int .i64 k]) (hy:a.eval Y=.agg #[.string x,.string y,.int .i64 k]) (w:World):(execOp a.eval o).run Try.prog w=.ok (.value (.bool false)) w:=by
 unfold execOp
 simp only [ho,hx,hy,Sem.run_bind,run_eqGuard_agg w .neq _ X Y _ _ guardFile9,Result.andThen_ok,nFile9,Sem.run_pure]
theorem fieldsMove9:Try.prog.underlying 60=some (.struct (Try.prog.fieldsOf 60)):=by kernel_rfl
theorem heldMove9:Try.prog.stoodInHeld 60=false:=by kernel_rfl
theorem guardMove9:Try.prog.eqGuardType Try.prog.depth 60=false:=by kernel_rfl
theorem listMove9:(Try.prog.fieldsOf 60).toList.map (fun f=>(f.name == "_", f.type,f.offset))=[(false,4,0),(false,9,1)]:=by kernel_rfl
theorem partMove90 (g:Bool) (x:ByteArray) (w:World):(part 4 #[.bool g,.string x] 0).run Try.prog w=.ok (.bool g) w:=by kernel_rfl
theorem partMove91 (g:Bool) (x:ByteArray) (w:World):(part 9 #[.bool g,.string x] 1).run Try.prog w=.ok (.string x) w:=by kernel_rfl
theorem nMove9 (g:Bool) (x:ByteArray) (w:World):(binOp .neq 60 (.agg #[.bool g,.string x]) (.agg #[.bool g,.string x])).run Try.prog w=.ok (.bool false) w:=by
 rw [run_neq_struct,run_equalIn_agg w 9999 _ _ _ fieldsMove9 heldMove9]
 have hl:=listMove9
 generalize (Try.prog.fieldsOf 60).toList=fs at hl
 have hlen:fs.length=2:=by have:=congrArg List.length hl;simpa using this
 match fs,hlen with
 | [f0,f1],_ =>
   simp only [List.map_cons,List.map_nil,List.cons.injEq,Prod.mk.injEq,beq_eq_false_iff_ne,and_true] at hl
   obtain ⟨⟨n0,t0,o0⟩,n1,t1,o1⟩:=hl
   have e0:∀ (W:World),(Op.equalIn 9999 4 (.bool g) (.bool g)).run Try.prog W=.ok true W:=fun W=>by
    have:=run_equalIn_bool (P:=Try.prog) W 9998 4 g g Try.underlying4
    simpa using this
   have e1:∀ (W:World),(Op.equalIn 9999 9 (.string x) (.string x)).run Try.prog W=.ok true W:=fun W=>by
    have:=run_equalIn_string (P:=Try.prog) W 9998 9 x x Try.underlying9
    simpa using this
   simp only [Op.eqFields,n0,t0,o0,n1,t1,o1,ne_eq,not_false_eq_true,if_true,Sem.run_bind,partMove90,partMove91,Result.andThen_ok,e0,e1,Bool.not_true,Bool.false_eq_true,if_false,Sem.run_pure]
theorem neqRunMove9 {o:Oper} {a:Act} {X Y:Operand} {S:TypeId} {g:Bool} {x:ByteArray} (ho:o.op=.binOp .neq 60 X Y S) (hx:a.eval X=.agg #[.bool g,.string x]) (hy:a.eval Y=.agg #[.bool g,.string x]) (w:World):(execOp a.eval o).run Try.prog w=.ok (.value (.bool false)) w:=by
 unfold execOp
 simp only [ho,hx,hy,Sem.run_bind,run_eqGuard_agg w .neq _ X Y _ _ guardMove9,Result.andThen_ok,nMove9,Sem.run_pure]
theorem ixRunM9 {o:Oper} {a:Act} {X I:Operand} {b q n cap i:Nat} (ho:o.op=.indexAddr 25 X I) (hx:a.eval X=.slice (some ⟨b,q,none⟩) n cap) (hi:a.eval I=.int .i64 (i:Nat)) (h:i < n) (w:World):(execOp a.eval o).run Try.prog w=.ok (.value (.pointer (some ⟨b,q+i * 2,none⟩))) w:=by
 have h1:(0:Int)≤(i:Int)∧(i:Int) < (n:Int):=⟨by omega,by omega⟩
 have h2:(Instr.indexAt 25 (.slice (some ⟨b,q,none⟩) n cap) (.int .i64 (i:Nat))).run Try.prog w=.ok (.pointer (some ⟨b,q+i * 2,none⟩)) w:=by
  rw [← addr_add b q (i * 2)]
  simp [go_sem,h1]
 unfold execOp
 simp only [ho,hx,hi,Sem.run_bind,Sem.run_pure,Result.andThen_ok,h2]
theorem rowMove9:∃ d,Try.prog.underlying 60=some d∧d.isRow=true:=⟨_,Try.underlying60,by rfl⟩
theorem infoMove9:(Try.prog.info? 60).map (·.size)=some 2:=by kernel_rfl
theorem ldMove9 (W:World) (g q:Nat) (a b:Value) (h:W.cell? ⟨g,q,none⟩=some a∧W.cell? ⟨g,q+1,none⟩=some b):(Instr.loadAt 60 (.pointer (some ⟨g,q,none⟩))).run Try.prog W=.ok (.agg #[a,b]) W:=by
 obtain ⟨dd,hdu,hdr⟩:=rowMove9
 have hr:W.rangeAt g q [a,b]:=fun j v hv=>by
  match j,hv with
  | 0,hv=>simp only [List.getElem?_cons_zero,Option.some.injEq] at hv;subst hv;exact h.1
  | 1,hv=>simp only [List.getElem?_cons_succ,List.getElem?_cons_zero,Option.some.injEq] at hv;subst hv;exact h.2
  | _+2,hv=>simp at hv
 unfold Instr.loadAt
 simp only [Instr.sureAddr,Sem.run_bind,Sem.run_pure,Result.andThen_ok,run_loadVar_mid W g q 60 [a,b] dd hr hdu hdr infoMove9]
noncomputable def lt6Ops:Array Oper:=fops Try.f38 6
theorem lt6_neat:Region.noSelect lt6Ops=true∧neat lt6Ops=true:=⟨by kernel_rfl,by kernel_rfl⟩
def kp_lt6 (z:Nat→Value):List (Nat × Value):=[(2,z 2),(3,z 3),(4,z 4),(6,z 6),(7,z 7),(8,z 8),(9,z 9),(10,z 10),(11,z 11),(12,z 12),(13,z 13),(14,z 14),(15,z 15),(16,z 16)]
theorem lt6z (z:Nat→Value) (LL:(Nat→Value)→List Value) (b o n c b2 o2 c2 k:Nat) (x:ByteArray) (W0:World) {l:List Value} (Q:Exit→Act→World→Prop) (hQ:∀ c a d v w,Q (.panic c) (Act.put a d v) w→Q (.panic c) a w) (hc1:W0.drew.cell? ⟨b,o+k,none⟩=some (.string x)) (hc2:W0.drew.cell? ⟨b2,o2+k,none⟩=some (.string x)) (hk:k < n)
 (hl:lookL (kp_lt6 z++[(0,.slice (some ⟨b,o,none⟩) n c),(1,.slice (some ⟨b2,o2,none⟩) n c2),(5,.int .i64 (k:Nat))]) l=(26,((kp_lt6 z++[(0,.slice (some ⟨b,o,none⟩) n c),(1,.slice (some ⟨b2,o2,none⟩) n c2),(5,.int .i64 (k:Nat))]):List (Nat × Value)).map (·.2)))
 (hfr:∀ (u:Nat→Value) ,frL u 26 (kp_lt6 z++[(0,.slice (some ⟨b,o,none⟩) n c),(1,.slice (some ⟨b2,o2,none⟩) n c2),(5,.int .i64 (k:Nat)),(25,.bool false)])=LL u )
 (hend:∀ (u:Nat→Value)  (W:World),W=W0.drew→Q .normal ⟨(LL u ).toArray,[]⟩ W):(Code.region 6 lt6Ops true).wp Try.prog Q ⟨l.toArray,[]⟩ W0:=by
 obtain ⟨v0,rfl⟩:=look_fr hl
 have hq:NtQ lt6Ops Q:=⟨lt6_neat,hQ⟩
 refine T_start (S:=fun W=>W.cell? ⟨b,o+k,none⟩=some (.string x)∧W.cell? ⟨b2,o2+k,none⟩=some (.string x)) (by kernel_rfl) ⟨hc1,hc2⟩ ?_
 clear hl hQ
 generalize W0.drew=V at hc1 hc2 hend ⊢
 refine T_z hq [0,1,4,5] (by kernel_rfl) ?_
 refine T_yld hq 2 (some 19) (.pointer (some ⟨b,o+k,none⟩)) (by kernel_rfl) (by kernel_rfl) (fun w h=>ixRunN (cap:=c) (X:=.tmp 17) (I:=.tmp 18) (by kernel_rfl) (by kernel_rfl) (by kernel_rfl) hk w) ?_
 refine T_a hq [3] (fun w h=>.cons (ldStr _ _ _ h.1) (Lds.nil)) (by kernel_rfl) ?_
 refine T_yld hq 6 (some 23) (.pointer (some ⟨b2,o2+k,none⟩)) (by kernel_rfl) (by kernel_rfl) (fun w h=>ixRunN (cap:=c2) (X:=.tmp 21) (I:=.tmp 22) (by kernel_rfl) (by kernel_rfl) (by kernel_rfl) hk w) ?_
 refine T_a hq [7] (fun w h=>.cons (ldStr _ _ _ h.2) (Lds.nil)) (by kernel_rfl) ?_
 refine T_yld hq 8 (some 25) (.bool false) (by kernel_rfl) (by kernel_rfl) (fun w h=>neqStrRun (T:=9) (S:=9) (X:=.tmp 20) (Y:=.tmp 24) (p:=x) (q:=x) (b:=false) (by kernel_rfl) (by kernel_rfl) (by kernel_rfl) (by simp) w) ?_
 exact T_end 26 (kp_lt6 z++[(0,.slice (some ⟨b,o,none⟩) n c),(1,.slice (some ⟨b2,o2,none⟩) n c2),(5,.int .i64 (k:Nat)),(25,.bool false)]) (by kernel_rfl) (by kernel_rfl) fun hS u=>by rw [hfr];exact hend u V rfl
theorem lt6 (b o n c b2 o2 c2 k:Nat) (x:ByteArray) (W0:World) {l:List Value} (Q:Exit→Act→World→Prop) (hQ:∀ c a d v w,Q (.panic c) (Act.put a d v) w→Q (.panic c) a w) (hc1:W0.drew.cell? ⟨b,o+k,none⟩=some (.string x)) (hc2:W0.drew.cell? ⟨b2,o2+k,none⟩=some (.string x)) (hk:k < n)
 (hl:lookL (kp_lt6 (fun i=>l.getD i undef)++[(0,.slice (some ⟨b,o,none⟩) n c),(1,.slice (some ⟨b2,o2,none⟩) n c2),(5,.int .i64 (k:Nat))]) l=(26,((kp_lt6 (fun i=>l.getD i undef)++[(0,.slice (some ⟨b,o,none⟩) n c),(1,.slice (some ⟨b2,o2,none⟩) n c2),(5,.int .i64 (k:Nat))]):List (Nat × Value)).map (·.2)))
 (hfr:∀ (u:Nat→Value) ,frL u 26 (kp_lt6 (fun i=>l.getD i undef)++[(0,.slice (some ⟨b,o,none⟩) n c),(1,.slice (some ⟨b2,o2,none⟩) n c2),(5,.int .i64 (k:Nat)),(25,.bool false)])=(l.take 17++(u 17::(u 18::(u 19::(u 20::(u 21::(u 22::(u 23::(u 24::(.bool false::[])))))))))))
 (hend:∀ (u:Nat→Value)  (W:World),W=W0.drew→Q .normal ⟨((l.take 17++(u 17::(u 18::(u 19::(u 20::(u 21::(u 22::(u 23::(u 24::(.bool false::[]))))))))))).toArray,[]⟩ W):(Code.region 6 lt6Ops true).wp Try.prog Q ⟨l.toArray,[]⟩ W0 :=
 lt6z (fun i=>l.getD i undef) (fun u =>(l.take 17++(u 17::(u 18::(u 19::(u 20::(u 21::(u 22::(u 23::(u 24::(.bool false::[]))))))))))) b o n c b2 o2 c2 k x W0 Q hQ hc1 hc2 hk hl hfr hend
noncomputable def ld6xOps:Array Oper:=fops Try.f11 6
theorem ld6x_neat:Region.noSelect ld6xOps=true∧neat ld6xOps=true:=⟨by kernel_rfl,by kernel_rfl⟩
def kp_ld6x (z:Nat→Value):List (Nat × Value):=[(0,z 0),(1,z 1),(4,z 4),(6,z 6),(7,z 7),(8,z 8),(9,z 9),(10,z 10),(11,z 11),(12,z 12),(13,z 13),(14,z 14),(15,z 15),(16,z 16),(17,z 17),(18,z 18),(19,z 19),(20,z 20),(21,z 21),(22,z 22),(23,z 23),(24,z 24),(25,z 25),(26,z 26),(27,z 27),(28,z 28),(29,z 29),(30,z 30),(31,z 31),(32,z 32),(33,z 33),(34,z 34),(35,z 35),(36,z 36),(37,z 37),(49,z 49),(50,z 50),(51,z 51),(52,z 52),(53,z 53),(54,z 54),(55,z 55),(56,z 56),(57,z 57),(58,z 58),(59,z 59),(60,z 60),(61,z 61),(62,z 62),(63,z 63),(64,z 64),(65,z 65),(66,z 66)]
theorem ld6xz (z:Nat→Value) (LL:(Nat→Value)→List Value) (A2 A3 b o n c b2 o2 c2 k:Nat) (x y:ByteArray) (zz:Int) (W0:World) {l:List Value} (Q:Exit→Act→World→Prop) (hQ:∀ c a d v w,Q (.panic c) (Act.put a d v) w→Q (.panic c) a w) (hc0:W0.drew.cell? ⟨A2,0,none⟩=some (.slice (some ⟨b,o,none⟩) n c)) (hc1:W0.drew.cell? ⟨A3,0,none⟩=some (.slice (some ⟨b2,o2,none⟩) n c2)) (hc2:(W0.drew.cell? ⟨b,o+k * 3,none⟩=some (.string x)∧W0.drew.cell? ⟨b,o+k * 3+1,none⟩=some (.string y)∧W0.drew.cell? ⟨b,o+k * 3+2,none⟩=some (.int .i64 zz))) (hc3:(W0.drew.cell? ⟨b2,o2+k * 3,none⟩=some (.string x)∧W0.drew.cell? ⟨b2,o2+k * 3+1,none⟩=some (.string y)∧W0.drew.cell? ⟨b2,o2+k * 3+2,none⟩=some (.int .i64 zz))) (hk:k < n)
 (hl:lookL (kp_ld6x z++[(2,.pointer (some ⟨A2,0,none⟩)),(3,.pointer (some ⟨A3,0,none⟩)),(5,.int .i64 (k:Nat))]) l=(67,((kp_ld6x z++[(2,.pointer (some ⟨A2,0,none⟩)),(3,.pointer (some ⟨A3,0,none⟩)),(5,.int .i64 (k:Nat))]):List (Nat × Value)).map (·.2)))
 (hfr:∀ (u:Nat→Value) ,frL u 67 (kp_ld6x z++[(2,.pointer (some ⟨A2,0,none⟩)),(3,.pointer (some ⟨A3,0,none⟩)),(5,.int .i64 (k:Nat)),(48,.bool false)])=LL u )
 (hend:∀ (u:Nat→Value)  (W:World),W=W0.drew→Q .normal ⟨(LL u ).toArray,[]⟩ W):(Code.region 6 ld6xOps true).wp Try.prog Q ⟨l.toArray,[]⟩ W0:=by
 obtain ⟨v0,rfl⟩:=look_fr hl
 have hq:NtQ ld6xOps Q:=⟨ld6x_neat,hQ⟩
 refine T_start (S:=fun W=>W.cell? ⟨A2,0,none⟩=some (.slice (some ⟨b,o,none⟩) n c)∧W.cell? ⟨A3,0,none⟩=some (.slice (some ⟨b2,o2,none⟩) n c2)∧(W.cell? ⟨b,o+k * 3,none⟩=some (.string x)∧W.cell? ⟨b,o+k * 3+1,none⟩=some (.string y)∧W.cell? ⟨b,o+k * 3+2,none⟩=some (.int .i64 zz))∧(W.cell? ⟨b2,o2+k * 3,none⟩=some (.string x)∧W.cell? ⟨b2,o2+k * 3+1,none⟩=some (.string y)∧W.cell? ⟨b2,o2+k * 3+2,none⟩=some (.int .i64 zz))) (by kernel_rfl) ⟨hc0,hc1,hc2,hc3⟩ ?_
 clear hl hQ
 generalize W0.drew=V at hc0 hc1 hc2 hc3 hend ⊢
 refine T_a hq [0,1,2,5,6,7] (fun w h=>.cons (ldFs _ _ _ h.1) (.cons (ldFs _ _ _ h.2.1) (Lds.nil))) (by kernel_rfl) ?_
 refine T_yld hq 3 (some 41) (.pointer (some ⟨b,o+k * 3,none⟩)) (by kernel_rfl) (by kernel_rfl) (fun w h=>ixRun (cap:=c) (X:=.tmp 39) (I:=.tmp 40) (by kernel_rfl) (by kernel_rfl) (by kernel_rfl) hk w) ?_
 refine T_a hq [4] (fun w h=>.cons (ldFile _ _ _ _ _ _ h.2.2.1) (Lds.nil)) (by kernel_rfl) ?_
 refine T_yld hq 8 (some 46) (.pointer (some ⟨b2,o2+k * 3,none⟩)) (by kernel_rfl) (by kernel_rfl) (fun w h=>ixRun (cap:=c2) (X:=.tmp 44) (I:=.tmp 45) (by kernel_rfl) (by kernel_rfl) (by kernel_rfl) hk w) ?_
 refine T_a hq [9] (fun w h=>.cons (ldFile _ _ _ _ _ _ h.2.2.2) (Lds.nil)) (by kernel_rfl) ?_
 refine T_yld hq 10 (some 48) (.bool false) (by kernel_rfl) (by kernel_rfl) (fun w h=>neqRunFile9 (S:=44) (x:=x) (y:=y) (k:=zz) (X:=.tmp 42) (Y:=.tmp 47) (by kernel_rfl) (by kernel_rfl) (by kernel_rfl) w) ?_
 exact T_end 67 (kp_ld6x z++[(2,.pointer (some ⟨A2,0,none⟩)),(3,.pointer (some ⟨A3,0,none⟩)),(5,.int .i64 (k:Nat)),(48,.bool false)]) (by kernel_rfl) (by kernel_rfl) fun hS u=>by rw [hfr];exact hend u V rfl
theorem ld6x (A2 A3 b o n c b2 o2 c2 k:Nat) (x y:ByteArray) (zz:Int) (W0:World) {l:List Value} (Q:Exit→Act→World→Prop) (hQ:∀ c a d v w,Q (.panic c) (Act.put a d v) w→Q (.panic c) a w) (hc0:W0.drew.cell? ⟨A2,0,none⟩=some (.slice (some ⟨b,o,none⟩) n c)) (hc1:W0.drew.cell? ⟨A3,0,none⟩=some (.slice (some ⟨b2,o2,none⟩) n c2)) (hc2:(W0.drew.cell? ⟨b,o+k * 3,none⟩=some (.string x)∧W0.drew.cell? ⟨b,o+k * 3+1,none⟩=some (.string y)∧W0.drew.cell? ⟨b,o+k * 3+2,none⟩=some (.int .i64 zz))) (hc3:(W0.drew.cell? ⟨b2,o2+k * 3,none⟩=some (.string x)∧W0.drew.cell? ⟨b2,o2+k * 3+1,none⟩=some (.string y)∧W0.drew.cell? ⟨b2,o2+k * 3+2,none⟩=some (.int .i64 zz))) (hk:k < n)
 (hl:lookL (kp_ld6x (fun i=>l.getD i undef)++[(2,.pointer (some ⟨A2,0,none⟩)),(3,.pointer (some ⟨A3,0,none⟩)),(5,.int .i64 (k:Nat))]) l=(67,((kp_ld6x (fun i=>l.getD i undef)++[(2,.pointer (some ⟨A2,0,none⟩)),(3,.pointer (some ⟨A3,0,none⟩)),(5,.int .i64 (k:Nat))]):List (Nat × Value)).map (·.2)))
 (hfr:∀ (u:Nat→Value) ,frL u 67 (kp_ld6x (fun i=>l.getD i undef)++[(2,.pointer (some ⟨A2,0,none⟩)),(3,.pointer (some ⟨A3,0,none⟩)),(5,.int .i64 (k:Nat)),(48,.bool false)])=(l.take 38++(u 38::(u 39::(u 40::(u 41::(u 42::(u 43::(u 44::(u 45::(u 46::(u 47::(.bool false::l.drop 49)))))))))))))
 (hend:∀ (u:Nat→Value)  (W:World),W=W0.drew→Q .normal ⟨((l.take 38++(u 38::(u 39::(u 40::(u 41::(u 42::(u 43::(u 44::(u 45::(u 46::(u 47::(.bool false::l.drop 49))))))))))))).toArray,[]⟩ W):(Code.region 6 ld6xOps true).wp Try.prog Q ⟨l.toArray,[]⟩ W0 :=
 ld6xz (fun i=>l.getD i undef) (fun u =>(l.take 38++(u 38::(u 39::(u 40::(u 41::(u 42::(u 43::(u 44::(u 45::(u 46::(u 47::(.bool false::l.drop 49))))))))))))) A2 A3 b o n c b2 o2 c2 k x y zz W0 Q hQ hc0 hc1 hc2 hc3 hk hl hfr hend
noncomputable def ld11xOps:Array Oper:=fops Try.f11 11
theorem ld11x_neat:Region.noSelect ld11xOps=true∧neat ld11xOps=true:=⟨by kernel_rfl,by kernel_rfl⟩
def kp_ld11x (z:Nat→Value):List (Nat × Value):=[(0,z 0),(1,z 1),(4,z 4),(5,z 5),(7,z 7),(8,z 8),(9,z 9),(10,z 10),(11,z 11),(12,z 12),(13,z 13),(14,z 14),(15,z 15),(16,z 16),(17,z 17),(18,z 18),(19,z 19),(20,z 20),(21,z 21),(22,z 22),(23,z 23),(24,z 24),(25,z 25),(26,z 26),(27,z 27),(28,z 28),(29,z 29),(30,z 30),(31,z 31),(32,z 32),(33,z 33),(34,z 34),(35,z 35),(36,z 36),(37,z 37),(38,z 38),(39,z 39),(40,z 40),(41,z 41),(42,z 42),(43,z 43),(44,z 44),(45,z 45),(46,z 46),(47,z 47),(48,z 48),(49,z 49),(50,z 50),(51,z 51),(52,z 52),(53,z 53),(54,z 54),(55,z 55)]
theorem ld11xz (z:Nat→Value) (LL:(Nat→Value)→List Value) (A2 A3 b o n c b2 o2 c2 k:Nat) (x:Bool) (y:ByteArray) (W0:World) {l:List Value} (Q:Exit→Act→World→Prop) (hQ:∀ c a d v w,Q (.panic c) (Act.put a d v) w→Q (.panic c) a w) (hc0:W0.drew.cell? ⟨A2,2,none⟩=some (.slice (some ⟨b,o,none⟩) n c)) (hc1:W0.drew.cell? ⟨A3,2,none⟩=some (.slice (some ⟨b2,o2,none⟩) n c2)) (hc2:(W0.drew.cell? ⟨b,o+k * 2,none⟩=some (.bool x)∧W0.drew.cell? ⟨b,o+k * 2+1,none⟩=some (.string y))) (hc3:(W0.drew.cell? ⟨b2,o2+k * 2,none⟩=some (.bool x)∧W0.drew.cell? ⟨b2,o2+k * 2+1,none⟩=some (.string y))) (hk:k < n)
 (hl:lookL (kp_ld11x z++[(2,.pointer (some ⟨A2,0,none⟩)),(3,.pointer (some ⟨A3,0,none⟩)),(6,.int .i64 (k:Nat))]) l=(67,((kp_ld11x z++[(2,.pointer (some ⟨A2,0,none⟩)),(3,.pointer (some ⟨A3,0,none⟩)),(6,.int .i64 (k:Nat))]):List (Nat × Value)).map (·.2)))
 (hfr:∀ (u:Nat→Value) ,frL u 67 (kp_ld11x z++[(2,.pointer (some ⟨A2,0,none⟩)),(3,.pointer (some ⟨A3,0,none⟩)),(6,.int .i64 (k:Nat)),(66,.bool false)])=LL u )
 (hend:∀ (u:Nat→Value)  (W:World),W=W0.drew→Q .normal ⟨(LL u ).toArray,[]⟩ W):(Code.region 11 ld11xOps true).wp Try.prog Q ⟨l.toArray,[]⟩ W0:=by
 obtain ⟨v0,rfl⟩:=look_fr hl
 have hq:NtQ ld11xOps Q:=⟨ld11x_neat,hQ⟩
 refine T_start (S:=fun W=>W.cell? ⟨A2,2,none⟩=some (.slice (some ⟨b,o,none⟩) n c)∧W.cell? ⟨A3,2,none⟩=some (.slice (some ⟨b2,o2,none⟩) n c2)∧(W.cell? ⟨b,o+k * 2,none⟩=some (.bool x)∧W.cell? ⟨b,o+k * 2+1,none⟩=some (.string y))∧(W.cell? ⟨b2,o2+k * 2,none⟩=some (.bool x)∧W.cell? ⟨b2,o2+k * 2+1,none⟩=some (.string y))) (by kernel_rfl) ⟨hc0,hc1,hc2,hc3⟩ ?_
 clear hl hQ
 generalize W0.drew=V at hc0 hc1 hc2 hc3 hend ⊢
 refine T_a hq [0,1,2,5,6,7] (fun w h=>.cons (ldMs _ _ _ h.1) (.cons (ldMs _ _ _ h.2.1) (Lds.nil))) (by kernel_rfl) ?_
 refine T_yld hq 3 (some 59) (.pointer (some ⟨b,o+k * 2,none⟩)) (by kernel_rfl) (by kernel_rfl) (fun w h=>ixRunM9 (cap:=c) (X:=.tmp 57) (I:=.tmp 58) (by kernel_rfl) (by kernel_rfl) (by kernel_rfl) hk w) ?_
 refine T_a hq [4] (fun w h=>.cons (ldMove9 _ _ _ _ _ h.2.2.1) (Lds.nil)) (by kernel_rfl) ?_
 refine T_yld hq 8 (some 64) (.pointer (some ⟨b2,o2+k * 2,none⟩)) (by kernel_rfl) (by kernel_rfl) (fun w h=>ixRunM9 (cap:=c2) (X:=.tmp 62) (I:=.tmp 63) (by kernel_rfl) (by kernel_rfl) (by kernel_rfl) hk w) ?_
 refine T_a hq [9] (fun w h=>.cons (ldMove9 _ _ _ _ _ h.2.2.2) (Lds.nil)) (by kernel_rfl) ?_
 refine T_yld hq 10 (some 66) (.bool false) (by kernel_rfl) (by kernel_rfl) (fun w h=>neqRunMove9 (S:=60) (g:=x) (x:=y) (X:=.tmp 60) (Y:=.tmp 65) (by kernel_rfl) (by kernel_rfl) (by kernel_rfl) w) ?_
 exact T_end 67 (kp_ld11x z++[(2,.pointer (some ⟨A2,0,none⟩)),(3,.pointer (some ⟨A3,0,none⟩)),(6,.int .i64 (k:Nat)),(66,.bool false)]) (by kernel_rfl) (by kernel_rfl) fun hS u=>by rw [hfr];exact hend u V rfl
theorem ld11x (A2 A3 b o n c b2 o2 c2 k:Nat) (x:Bool) (y:ByteArray) (W0:World) {l:List Value} (Q:Exit→Act→World→Prop) (hQ:∀ c a d v w,Q (.panic c) (Act.put a d v) w→Q (.panic c) a w) (hc0:W0.drew.cell? ⟨A2,2,none⟩=some (.slice (some ⟨b,o,none⟩) n c)) (hc1:W0.drew.cell? ⟨A3,2,none⟩=some (.slice (some ⟨b2,o2,none⟩) n c2)) (hc2:(W0.drew.cell? ⟨b,o+k * 2,none⟩=some (.bool x)∧W0.drew.cell? ⟨b,o+k * 2+1,none⟩=some (.string y))) (hc3:(W0.drew.cell? ⟨b2,o2+k * 2,none⟩=some (.bool x)∧W0.drew.cell? ⟨b2,o2+k * 2+1,none⟩=some (.string y))) (hk:k < n)
 (hl:lookL (kp_ld11x (fun i=>l.getD i undef)++[(2,.pointer (some ⟨A2,0,none⟩)),(3,.pointer (some ⟨A3,0,none⟩)),(6,.int .i64 (k:Nat))]) l=(67,((kp_ld11x (fun i=>l.getD i undef)++[(2,.pointer (some ⟨A2,0,none⟩)),(3,.pointer (some ⟨A3,0,none⟩)),(6,.int .i64 (k:Nat))]):List (Nat × Value)).map (·.2)))
 (hfr:∀ (u:Nat→Value) ,frL u 67 (kp_ld11x (fun i=>l.getD i undef)++[(2,.pointer (some ⟨A2,0,none⟩)),(3,.pointer (some ⟨A3,0,none⟩)),(6,.int .i64 (k:Nat)),(66,.bool false)])=(l.take 56++(u 56::(u 57::(u 58::(u 59::(u 60::(u 61::(u 62::(u 63::(u 64::(u 65::(.bool false::[])))))))))))))
 (hend:∀ (u:Nat→Value)  (W:World),W=W0.drew→Q .normal ⟨((l.take 56++(u 56::(u 57::(u 58::(u 59::(u 60::(u 61::(u 62::(u 63::(u 64::(u 65::(.bool false::[]))))))))))))).toArray,[]⟩ W):(Code.region 11 ld11xOps true).wp Try.prog Q ⟨l.toArray,[]⟩ W0 :=
 ld11xz (fun i=>l.getD i undef) (fun u =>(l.take 56++(u 56::(u 57::(u 58::(u 59::(u 60::(u 61::(u 62::(u 63::(u 64::(u 65::(.bool false::[]))))))))))))) A2 A3 b o n c b2 o2 c2 k x y W0 Q hQ hc0 hc1 hc2 hc3 hk hl hfr hend
theorem below_dn9 (w:World) (m:Nat):Below w.heap.size w (w.drewN m):=⟨rfl,rfl,rfl,Nat.le_refl _,fun _ _=>rfl⟩
theorem loTexts_same (v v2:Value) (xs:List ByteArray) (P Q:Nat→Prop) (w:World) (h:StrsAt P w v xs) (h2:StrsAt Q w v2 xs) :
 Calls Try.prog 38 #[v,v2] w fun e w'=>e=.returned (.bool true)∧Below w.heap.size w w':=by
 obtain ⟨a,c,rfl,hl,hc⟩:=h
 obtain ⟨a2,c2,rfl,-,hc2⟩:=h2
 have HC:=xH hc;have HC2:=xH hc2
 clear hc hc2
 have hne:((xs.length:Int) != (xs.length:Int))=false:=by simp
 go_enter Try.func38,Try.ntmps38
 go_wp2_with fail
 clear hne
 go_loopw [5] (fun i wr=>∃ (k m:Nat),k≤xs.length∧i=.int .i64 k∧wr=w.drewN m) (fun i _=>xs.length - (intOf i).toNat)
 case atStart=>exact ⟨0,0,Nat.zero_le _,rfl,rfl⟩
 case round =>
  obtain ⟨k,m,hk,rfl,hwr⟩:=hrel
  subst hwr
  by_cases hlt:k < xs.length
  · obtain ⟨b,o,rfl,-,e0,-⟩:=xU HC k hlt
    obtain ⟨b2,o2,rfl,-,e2,-⟩:=xU HC2 k hlt
    have hkd:decide ((k:Int) < (xs.length:Int))=true:=decide_eq_true (by omega)
    go_upto_region 6 with fail
    refine wp_swap (c':=Code.region 6 lt6Ops true) (by kernel_rfl) ?_
    refine wp_region_noPanic ?_
    refine lt6 b o xs.length c b2 o2 c2 k xs[k] (w.drewN m) _ (fun _ _ _ _ _ h=>h) e0 e2 hlt (by kernel_rfl) (fun u=>by kernel_rfl) ?_
    intro u W hW
    subst hW
    refine NoPanic.normal ?_
    simp only [List.take_succ_cons,List.take_zero,List.cons_append,List.nil_append]
    clear e0 e2 hkd
    go_wp2_with fail
    go_roundw
    case rel=>exact ⟨k+1,m+1,by omega,by go_num,by first | rfl | trivial⟩
    case measure=>simp [intOf];omega
  · obtain rfl:k=xs.length:=by omega
    go_wp2_with fail
    go_ret
    exact ⟨rfl,below_dn9 w m⟩
theorem loDisk_same (d:Dk) (P Q:Nat→Prop) (c c':C3) (w:World) (hP:∀ b,P b→b < w.heap.size) (hQ:∀ b,Q b→b < w.heap.size) (h:DkAt P w d c) (h':DkAt Q w d c') :
 Calls Try.prog 11 #[.agg #[c.c0,c.c1,c.c2],.agg #[c'.c0,c'.c1,c'.c2]] w fun e w'=>e=.returned (.bool true)∧Below w.heap.size w w':=by
 obtain ⟨c0,c1,c2⟩:=c
 obtain ⟨u0,u1,u2⟩:=c'
 obtain ⟨a0,c0,g0,hl0,-⟩:=h.fs.open
 obtain ⟨a1,c1,g1,-,-⟩:=id h.ns
 obtain ⟨a2,c2,g2,hl2,-⟩:=h.ms.open
 simp only at g0 g1 g2
 subst g0 g1 g2
 obtain ⟨a0',c0',g0,hl0',-⟩:=h'.fs.open
 obtain ⟨a1',c1',g1,-,-⟩:=id h'.ns
 obtain ⟨a2',c2',g2,hl2',-⟩:=h'.ms.open
 simp only at g0 g1 g2
 subst g0 g1 g2
 have HB0:Hid (Below w.heap.size w ((w.alloc (.cells #[.slice a0 d.files.length c0,.slice a1 d.names.length c1,.slice a2 d.moves.length c2] 27)).alloc (.cells #[.slice a0' d.files.length c0',.slice a1' d.names.length c1',.slice a2' d.moves.length c2'] 27))):=xH (((Below.refl _ _).alloc (Nat.le_refl _) _).alloc (by simp) _)
 have HA2:Hid (((w.alloc (.cells #[.slice a0 d.files.length c0,.slice a1 d.names.length c1,.slice a2 d.moves.length c2] 27)).alloc (.cells #[.slice a0' d.files.length c0',.slice a1' d.names.length c1',.slice a2' d.moves.length c2'] 27)).rowIs w.heap.size 27 3 (row3 (.slice a0 d.files.length c0) (.slice a1 d.names.length c1) (.slice a2 d.moves.length c2))):=xH ((row3_alloc w _ _ _ _).alloc _)
 have HA3:Hid (((w.alloc (.cells #[.slice a0 d.files.length c0,.slice a1 d.names.length c1,.slice a2 d.moves.length c2] 27)).alloc (.cells #[.slice a0' d.files.length c0',.slice a1' d.names.length c1',.slice a2' d.moves.length c2'] 27)).rowIs (w.heap.size+1) 27 3 (row3 (.slice a0' d.files.length c0') (.slice a1' d.names.length c1') (.slice a2' d.moves.length c2'))):=xH (by
  have:=row3_alloc (w.alloc (.cells #[.slice a0 d.files.length c0,.slice a1 d.names.length c1,.slice a2 d.moves.length c2] 27)) (.slice a0' d.files.length c0') (.slice a1' d.names.length c1') (.slice a2' d.moves.length c2') 27
  rw [World.size_alloc] at this
  exact this)
 have HD:=xH (h.carry (w':=((w.alloc (.cells #[.slice a0 d.files.length c0,.slice a1 d.names.length c1,.slice a2 d.moves.length c2] 27)).alloc (.cells #[.slice a0' d.files.length c0',.slice a1' d.names.length c1',.slice a2' d.moves.length c2'] 27))) (Q:=fun b=>b < w.heap.size) (fun b hb=>HB0.out.block b (hP b hb)) hP)
 have HE:=xH (h'.carry (w':=((w.alloc (.cells #[.slice a0 d.files.length c0,.slice a1 d.names.length c1,.slice a2 d.moves.length c2] 27)).alloc (.cells #[.slice a0' d.files.length c0',.slice a1' d.names.length c1',.slice a2' d.moves.length c2'] 27))) (Q:=fun b=>b < w.heap.size) (fun b hb=>HB0.out.block b (hQ b hb)) hQ)
 have hsz:((w.alloc (.cells #[.slice a0 d.files.length c0,.slice a1 d.names.length c1,.slice a2 d.moves.length c2] 27)).alloc (.cells #[.slice a0' d.files.length c0',.slice a1' d.names.length c1',.slice a2' d.moves.length c2'] 27)).heap.size=w.heap.size+2:=by simp
 clear h h' hP hQ
 go_enter Try.func11,Try.ntmps11
 go_upto_region 1 with fail
 generalize ((w.alloc (.cells #[.slice a0 d.files.length c0,.slice a1 d.names.length c1,.slice a2 d.moves.length c2] 27)).alloc (.cells #[.slice a0' d.files.length c0',.slice a1' d.names.length c1',.slice a2' d.moves.length c2'] 27))=W1 at HB0 HA2 HA3 HD HE hsz ⊢
 have HT:=xH (loTexts_same _ _ d.names _ _ W1 HD.out.ns HE.out.ns)
 obtain ⟨l0,l1,l2⟩:=cs3 HA2.out (by omega)
 have y0:=HA3.out.cell (i:=0) (by omega);have y1:=HA3.out.cell (i:=1) (by omega);have y2:=HA3.out.cell (i:=2) (by omega)
 simp only [row3] at l0 l1 l2 y0 y1 y2
 have hn0:((d.files.length:Int) != (d.files.length:Int))=false:=by simp
 have hn2:((d.moves.length:Int) != (d.moves.length:Int))=false:=by simp
 simp only at HT
 go_wp2_with fail
 refine HT.out.mono ?_
 rintro e w1 ⟨rfl,hb1⟩
 have HB1:=xH hb1
 clear HT hb1 l0 l1 l2 y0 y1 y2 hn0 hn2
 go_wp2_with fail
 go_loopw [5] (fun kk wr=>∃ (k:Nat),k≤d.files.length∧kk=.int .i64 k∧Hid (Below W1.heap.size W1 wr)) (fun kk _=>d.files.length - (intOf kk).toNat)
 case atStart=>exact ⟨0,Nat.zero_le _,rfl,HB1⟩
 case round =>
  clear HB1
  obtain ⟨k,hk,rfl,HB⟩:=hrel
  have hA2:=HA2.out.of_block (HB.out.block _ HA2.out.lt)
  have hA3:=HA3.out.of_block (HB.out.block _ HA3.out.lt)
  have l0:=hA2.cell (i:=0) (by omega);have y0:=hA3.cell (i:=0) (by omega)
  simp only [row3] at l0 y0
  by_cases hlt:k < d.files.length
  · have hD:=HD.out.carry (w':=wr) (Q:=fun b=>b < w.heap.size) (fun b hb=>HB.out.block b (by omega)) (fun _ h=>h)
    have hE:=HE.out.carry (w':=wr) (Q:=fun b=>b < w.heap.size) (fun b hb=>HB.out.block b (by omega)) (fun _ h=>h)
    obtain ⟨x0,x1,e1,-,hf⟩:=hD.fs.open
    obtain ⟨z0,z1,e2,-,hg⟩:=hE.fs.open
    simp only [Value.slice.injEq,true_and] at e1 e2
    obtain ⟨rfl,rfl⟩:=e1
    obtain ⟨rfl,rfl⟩:=e2
    obtain ⟨b,o,rfl,-,t1,-⟩:=hf k hlt
    obtain ⟨b2,o2,rfl,-,t2,-⟩:=hg k hlt
    have hkd:decide ((k:Int) < (d.files.length:Int))=true:=decide_eq_true (by omega)
    have HC:=xH (And.intro l0 (And.intro y0 (And.intro t1 t2)))
    clear hD hE hf hg t1 t2 hA2 hA3
    go_upto_region 6 with fail
    refine wp_swap (c':=Code.region 6 ld6xOps true) (by kernel_rfl) ?_
    refine wp_region_noPanic ?_
    refine ld6x w.heap.size (w.heap.size+1) b o d.files.length c0 b2 o2 c0' k d.files[k].name d.files[k].data d.files[k].kept wr _ (fun _ _ _ _ _ h=>h) HC.out.1 HC.out.2.1 HC.out.2.2.1 HC.out.2.2.2 hlt (by kernel_rfl) (fun u=>by kernel_rfl) ?_
    intro u W hW
    subst hW
    refine NoPanic.normal ?_
    simp only [List.take_succ_cons,List.take_zero,List.drop_succ_cons,List.drop_zero,List.cons_append,List.nil_append]
    clear l0 y0 hkd HC
    go_wp2_with fail
    go_roundw
    case rel=>exact ⟨k+1,by omega,by go_num,xH HB.out.drew⟩
    case measure=>simp [intOf];omega
  · obtain rfl:k=d.files.length:=by omega
    have hkd:decide ((d.files.length:Int) < (d.files.length:Int))=false:=decide_eq_false (by omega)
    go_wp2_with fail
    clear l0 y0 hkd hA2 hA3 hlt hk
    go_loopw [6] (fun kk wr=>∃ (k:Nat),k≤d.moves.length∧kk=.int .i64 k∧Hid (Below W1.heap.size W1 wr)) (fun kk _=>d.moves.length - (intOf kk).toNat)
    case atStart=>exact ⟨0,Nat.zero_le _,rfl,HB⟩
    case round =>
     clear HB
     obtain ⟨k,hk,rfl,HB⟩:=hrel
     have hA2:=HA2.out.of_block (HB.out.block _ HA2.out.lt)
     have hA3:=HA3.out.of_block (HB.out.block _ HA3.out.lt)
     have l0:=hA2.cell (i:=2) (by omega);have y0:=hA3.cell (i:=2) (by omega)
     simp only [row3] at l0 y0
     by_cases hlt:k < d.moves.length
     · have hD:=HD.out.carry (w':=wr) (Q:=fun b=>b < w.heap.size) (fun b hb=>HB.out.block b (by omega)) (fun _ h=>h)
       have hE:=HE.out.carry (w':=wr) (Q:=fun b=>b < w.heap.size) (fun b hb=>HB.out.block b (by omega)) (fun _ h=>h)
       obtain ⟨x0,x1,e1,-,hf⟩:=hD.ms.open
       obtain ⟨z0,z1,e2,-,hg⟩:=hE.ms.open
       simp only [Value.slice.injEq,true_and] at e1 e2
       obtain ⟨rfl,rfl⟩:=e1
       obtain ⟨rfl,rfl⟩:=e2
       obtain ⟨b,o,rfl,-,t1,t1',-⟩:=hf k hlt
       obtain ⟨b2,o2,rfl,-,t2,t2',-⟩:=hg k hlt
       have hkd:decide ((k:Int) < (d.moves.length:Int))=true:=decide_eq_true (by omega)
       have HC:=xH (And.intro l0 (And.intro y0 (And.intro (And.intro t1 t1') (And.intro t2 t2'))))
       clear hD hE hf hg t1 t2 t1' t2' hA2 hA3
       go_upto_region 11 with fail
       refine wp_swap (c':=Code.region 11 ld11xOps true) (by kernel_rfl) ?_
       refine wp_region_noPanic ?_
       refine ld11x w.heap.size (w.heap.size+1) b o d.moves.length c2 b2 o2 c2' k d.moves[k].gone d.moves[k].name wr _ (fun _ _ _ _ _ h=>h) HC.out.1 HC.out.2.1 HC.out.2.2.1 HC.out.2.2.2 hlt (by kernel_rfl) (fun u=>by kernel_rfl) ?_
       intro u W hW
       subst hW
       refine NoPanic.normal ?_
       simp only [List.take_succ_cons,List.take_zero,List.cons_append,List.nil_append]
       clear l0 y0 hkd HC
       go_wp2_with fail
       go_roundw
       case rel=>exact ⟨k+1,by omega,by go_num,xH HB.out.drew⟩
       case measure=>simp [intOf];omega
     · obtain rfl:k=d.moves.length:=by omega
       have hkd:decide ((d.moves.length:Int) < (d.moves.length:Int))=false:=decide_eq_false (by omega)
       go_wp2_with fail
       go_ret
       exact ⟨rfl,HB0.out.trans (HB.out.mono HB0.out.size)⟩
end Go.Proofs.Yteikmbkljkkjiaa

namespace Go.Proofs.Yteikmbkljkkjiaa
open Go Go.RowKit
theorem names_inj8 {d:Dk} (h:DkOkS d) {i j:Nat} (hi:i < d.files.length) (hj:j < d.files.length) (e:d.files[i].name=d.files[j].name):i=j:=by
 have h1:=(h.file i hi (by rw [h.len];exact hi)).find
 have h2:=(h.file j hj (by rw [h.len];exact hj)).find
 rw [e,h2] at h1
 omega
theorem look_at8 {d:Dk} {x:ByteArray} (hx:x∈namesD d) {j:Nat} (hj:j < d.files.length) (hn:d.files[j].name=x):lookD d x=(d.files[j].data,true):=by
 obtain ⟨i,hi,hok,hni,hfi⟩:=names_file hx
 have:i=j:=names_inj8 hok hi hj (hni.trans hn.symm)
 subst this
 exact lookD_yes hx i hi hfi
theorem look_snd8 {d:Dk} {x:ByteArray}:(lookD d x).2=true↔x∈namesD d:=by
 by_cases h:x∈namesD d
 · obtain ⟨i,hi,-,-,hfi⟩:=names_file h
   rw [lookD_yes h i hi hfi]
   simp [h]
 · rw [lookD_no h]
   simp [h]
theorem file_ok8 {d:Dk} (h:DkOkS d) {f:Df} (hf:f∈d.files):nameOkB f.name=true∧f.data.size≤20000∧0≤f.kept∧f.kept≤f.data.size:=by
 obtain ⟨i,hi,rfl⟩:=List.getElem_of_mem hf
 have:=h.file i hi (by rw [h.len];exact hi)
 exact ⟨this.name,this.data,this.kept⟩
theorem after_snoc8 (ns:List ByteArray) (ms:List Dm) (m:Dm):afterD ns (ms++[m])=stepD (afterD ns ms) m:=by
 unfold afterD
 rw [List.foldl_append]
 rfl
theorem do_make8 {d:Dk} {x y:ByteArray} (h:DkOkS d) (h0:(doD d 1 x y).2=0):x∉namesD d∧lookD (doD d 1 x y).1 x=(ByteArray.empty,true):=by
 have hok:=doD_ok h h0
 by_cases ht:nameOkB x=false∨0≤findF d.files x
 · rw [doD_taken h ht] at h0;cases h0
 by_cases hfu:64≤d.files.length∨128≤d.moves.length
 · rw [doD_full h ht hfu] at h0;cases h0
 rw [doD_make h ht hfu] at hok ⊢
 refine ⟨fun hx=>?_,?_⟩
 · obtain ⟨i,hi,-,-,hfi⟩:=names_file hx
   exact ht (Or.inr (by rw [hfi];omega))
 · have hx:x∈namesD ⟨d.files++[⟨x,ByteArray.empty,0⟩],d.names,d.moves++[⟨false,x⟩]⟩:=by
    rw [namesD_ok hok]
    simp only
    rw [after_snoc8]
    unfold stepD
    simp
   rw [look_at8 hx (j:=d.files.length) (by simp) (by simp)]
   simp
theorem same_names8 {d d':Dk} (h:DkOkS d) (h':DkOkS d') (hn:d'.names=d.names) (hm:d'.moves=d.moves):namesD d'=namesD d:=by
 rw [namesD_ok h,namesD_ok h',hn,hm]
theorem do_add8 {d:Dk} {x y:ByteArray} (h:DkOkS d) (h0:(doD d 2 x y).2=0):x∈namesD d∧lookD (doD d 2 x y).1 x=((lookD d x).1++y,true):=by
 have hok:=doD_ok h h0
 by_cases hin:x∈namesD d
 case neg=>rw [doD_nofile h (by omega) hin] at h0;cases h0
 obtain ⟨i,hi,-,hxi,hfi⟩:=names_file hin
 by_cases hz:20000 - ((fileD d x).data.size:Int) < (y.size:Int)
 · rw [doD_addfull h hin hz] at h0;cases h0
 rw [doD_add h hin hz,putD_at hfi,fileD_at hi hfi] at hok ⊢
 refine ⟨hin,?_⟩
 rw [lookD_yes hin i hi hfi]
 rw [look_at8 (d:=⟨d.files.set i ⟨d.files[i].name,d.files[i].data++y,d.files[i].kept⟩,d.names,d.moves⟩) (by rw [same_names8 h hok rfl rfl];exact hin) (j:=i) (by simpa using hi) (by simpa using hxi)]
 simp
theorem do_sync8 {d:Dk} {x y:ByteArray} (h:DkOkS d) (hin:x∈namesD d):(doD d 3 x y).2=0∧namesD (doD d 3 x y).1=namesD d∧lookD (doD d 3 x y).1 x=lookD d x∧∀ j (hj:j < (doD d 3 x y).1.files.length),(doD d 3 x y).1.files[j].name=x→(doD d 3 x y).1.files[j].kept=(doD d 3 x y).1.files[j].data.size:=by
 obtain ⟨i,hi,-,hxi,hfi⟩:=names_file hin
 have h0:(doD d 3 x y).2=0:=by rw [doD_sync h hin]
 have hok:=doD_ok h h0
 refine ⟨h0,?_⟩
 rw [doD_sync h hin,putD_at hfi,fileD_at hi hfi] at hok ⊢
 have hns:=same_names8 (d':=⟨d.files.set i ⟨d.files[i].name,d.files[i].data,d.files[i].data.size⟩,d.names,d.moves⟩) h hok rfl rfl
 refine ⟨hns,?_,fun j hj e=>?_⟩
 · rw [lookD_yes hin i hi hfi,look_at8 (d:=⟨d.files.set i ⟨d.files[i].name,d.files[i].data,d.files[i].data.size⟩,d.names,d.moves⟩) (by rw [hns];exact hin) (j:=i) (by simpa using hi) (by simpa using hxi)]
   simp
 · have hji:j=i:=names_inj8 hok hj (by simpa using hi) (by rw [e];simpa using hxi.symm)
   subst hji
   simp
theorem keep_facts8 {d:Dk} (h:DkOkS d):DkOkS (keepD d (namesD d))∧namesD (keepD d (namesD d))=namesD d∧∀ x,lookD (keepD d (namesD d)) x=lookD d x:=by
 have h0:(doD d 5 ⟨#[]⟩ ⟨#[]⟩).2=0:=by rw [doD_dirs h]
 have hok:=doD_ok h h0
 rw [doD_dirs h] at hok
 simp only at hok
 have hn:namesD (keepD d (namesD d))=namesD d:=by rw [namesD_ok hok];rfl
 refine ⟨hok,hn,fun x=>?_⟩
 by_cases hx:x∈namesD d
 · obtain ⟨i,hi,-,hxi,hfi⟩:=names_file hx
   obtain ⟨j,hj,rfl⟩:=List.getElem_of_mem hx
   rw [lookD_yes hx i hi hfi,look_at8 (d:=keepD d (namesD d)) (by rw [hn];exact hx) (j:=j) (by simpa [keepD] using hj) (by simp only [keepD,List.getElem_map];rw [fileD_at hi hfi];exact hxi)]
   simp only [keepD,List.getElem_map]
   rw [fileD_at hi hfi]
 · rw [lookD_no hx,lookD_no (by rw [hn];exact hx)]
theorem do_gone8 {d:Dk} {x y:ByteArray} (h:DkOkS d) (h0:(doD d 4 x y).2=0):x∈namesD d∧x∉namesD (doD d 4 x y).1:=by
 have hok:=doD_ok h h0
 by_cases hin:x∈namesD d
 case neg=>rw [doD_nofile h (by omega) hin] at h0;cases h0
 by_cases hfu:128≤d.moves.length
 · rw [doD_gonefull h hin hfu] at h0;cases h0
 rw [doD_gone h hin hfu] at hok ⊢
 refine ⟨hin,?_⟩
 rw [namesD_ok hok]
 simp only
 rw [after_snoc8]
 unfold stepD
 simp only [if_true]
 rw [without_filter]
 simp
theorem do_else8 {d:Dk} {k:Int} {x y:ByteArray} (h:DkOkS d) (h0:(doD d k x y).2=0) (k1:k≠1) (k2:k≠2) (k4:k≠4):lookD (doD d k x y).1 x=lookD d x:=by
 by_cases k5:k=5
 · subst k5
   rw [doD_dirs h]
   exact (keep_facts8 h).2.2 x
 by_cases hk:2≤k∧k≤4
 case neg=>rw [doD_kind h (by omega)] at h0;cases h0
 obtain rfl:k=3:=by omega
 by_cases hin:x∈namesD d
 · exact (do_sync8 h hin).2.2.1
 · rw [doD_nofile h (by omega) hin] at h0;cases h0
end Go.Proofs.Yteikmbkljkkjiaa

namespace Go.Proofs.Yteikmbkljkkjiaa
open Go Go.RowKit Go.WideMaps Go.Maps
theorem settle_any (P:Nat→Prop) (w:World) (d:Dk) (a0:Option Addr) (p0 T B:Nat) (x2:Option Addr) (n2 m2:Nat) (x4:Option Addr) (n4 m4:Nat) (h:Vs P d a0 p0 T B x2 n2 m2 x4 n4 m4 w) (b0 base L:Nat) (o:C3) (hm:MxSt base L w o.c0 o.c1 o.c2 d.files d.names d.moves) (hok:DkOkS d) (hbb:b0≤base) (hbL:base≤L) (hP:∀ b,P b→b≠L) (hT:T≠L) (hB:B≠L∧B < w.heap.size) :
 Calls Try.prog 63 #[.agg #[.pointer (some ⟨T,0,none⟩),.pointer (some ⟨T,0,none⟩),.slice x2 n2 m2,.pointer (some ⟨T,0,none⟩),.slice x4 n4 m4],.pointer (some ⟨L,0,none⟩)] w fun e w'=>e=.returned (.tuple #[])∧(∃ o':C3,MxSt base L w' o'.c0 o'.c1 o'.c2 ((namesD d).map (fileD d)) (namesD d) [])∧Below b0 w w'∧TyK w w':=by
 have hLs:=hm.row.lt
 obtain ⟨l0,l1,l2⟩:=cs3 hm.row (by omega)
 simp only [row3] at l0 l1 l2
 obtain ⟨aF,s0,eF⟩:=own_slice hm.o0
 rw [eF] at l0
 have hfz:∀ j,w.frozen? ⟨L,j,none⟩=false:=fun j=>hm.row.frozen j
 have HM:=xH hm;have HV:=xH h
 clear hm h
 go_enter Try.func63,Try.ntmps63
 go_upto_region 3 with fail
 have hA:∀ ob,But L w (((((w.setCell ⟨L,0,none⟩ (.slice none 0 0)).setCell ⟨L,1,none⟩ (.slice none 0 0)).setCell ⟨L,2,none⟩ (.slice none 0 0))).alloc ob)∧(((((w.setCell ⟨L,0,none⟩ (.slice none 0 0)).setCell ⟨L,1,none⟩ (.slice none 0 0)).setCell ⟨L,2,none⟩ (.slice none 0 0))).alloc ob).rowIs L 27 3 (row3 (.slice none 0 0) (.slice none 0 0) (.slice none 0 0)):=fun ob =>
  ⟨(((But.set w 0 _).trans (But.set _ 1 _)).trans (But.set _ 2 _)).trans (But.alloc _ _ ob),World.rowIs.alloc ((set3 w L (.slice none 0 0) (.slice none 0 0) (.slice none 0 0)).2.2.1 _ _ (xU HM).row) ob⟩
 have hA2:=hA (.cells #[.pointer (some ⟨T,0,none⟩),.pointer (some ⟨T,0,none⟩),.slice x2 n2 m2,.pointer (some ⟨T,0,none⟩),.slice x4 n4 m4] 71)
 have hV:=fiveV_alloc (((w.setCell ⟨L,0,none⟩ (.slice none 0 0)).setCell ⟨L,1,none⟩ (.slice none 0 0)).setCell ⟨L,2,none⟩ (.slice none 0 0)) (.pointer (some ⟨T,0,none⟩)) (.pointer (some ⟨T,0,none⟩)) (.slice x2 n2 m2) (.pointer (some ⟨T,0,none⟩)) (.slice x4 n4 m4) 71
 simp only [World.size_setCell] at hV
 generalize (World.alloc _ _)=W3 at hA2 hV ⊢
 clear hA l0 l1 l2 hfz
 obtain ⟨hbt,hL3⟩:=hA2
 obtain ⟨r0,r1,r2,r3,r4⟩:=cs5 hV (by omega)
 simp only [fiveV] at r0 r1 r2 r3 r4
 have hs3:=hV.lt
 have hPL:∀ b,P b→W3.heap[b]? = w.heap[b]? := fun b hb=>hbt.at ((xU HV).lt b hb) (hP b hb)
 obtain ⟨hmf,hcl,hcf⟩:=cutN_facts hok d.moves.length
 have hcn:cutN d d.moves.length=namesD d:=by
  unfold cutN
  rw [clampQ_all,List.take_of_length_le (Nat.le_refl _),namesD_ok hok]
 rw [clampQ_all,List.take_of_length_le (Nat.le_refl _)] at hmf
 rw [hcn] at hmf hcl hcf
 obtain ⟨hnd,heq,-⟩:=dk_nodup hok
 have HTH:=xH (there_any d.names d.moves (some ⟨T,0,none⟩) (some ⟨T,0,none⟩) x2 n2 m2 (some ⟨T,0,none⟩) x4 n4 m4 P W3 (fun b hb=>by have:=(xU HV).lt b hb;omega) ((xU HV).ns.carry hPL (fun _ h=>h)) ((xU HV).fn.carry hPL (fun _ h=>h)) (by have:=hok.l2;omega) (by have:=hok.l3;omega) (namesD d) hmf)
 have HBT:=xH hbt;have HL3:=xH hL3;have HV3:=xH hV;have HCF:=xH hcf;have HND:=xH (show (d.files.map Df.name).Nodup by rw [heq];exact hnd)
 have HOK:=xH hok;have HP:=xH hP
 have HEF:=xH eF
 clear hbt hL3 hV hPL hmf hcf hnd heq hcn hok hP eF
 go_wp2_with fail
 refine (xU HTH).mono ?_
 rintro e w5 ⟨v5,rfl,hn5⟩
 clear HTH r0 r1 r2 r3 r4
 have hb5:=hn5.below
 have hs5:=hb5.size
 have hbt5:But L w w5:=(xU HBT).trans (But.of_below hb5)
 have hV5:=(xU HV3).of_block (hb5.block _ (by omega))
 have hL5:=(xU HL3).of_block (hb5.block L (by omega))
 obtain ⟨a5,cap5,e5,hl5,hc5⟩:=hn5.strs
 subst e5
 have HC5:=xH hc5;have HBT5:=xH hbt5;have HV5:=xH hV5
 have HST:=xH (show Cx w5 L (.slice none 0 0) (.slice none 0 0) [] [] w5 from ⟨⟨by omega,hL5,⟨rfl,Or.inl ⟨rfl,rfl⟩⟩,⟨rfl,Or.inl ⟨rfl,rfl⟩⟩⟩,But.refl _ _⟩)
 clear hb5 hbt5 hV5 hL5 hc5 hn5 HBT HL3 HV3
 generalize hNN:namesD d=N at *
 have HNN:=xH hNN
 clear hNN
 go_wp2_with fail
 go_loopw [17] (fun i wr=>∃ (k:Nat) (vf vn:Value),k≤N.length∧i=.int .i64 k∧Hid (Cx w5 L vf vn ((N.take k).map (fileD d)) (N.take k) wr)) (fun i _=>N.length - (intOf i).toNat)
 case atStart=>exact ⟨0,_,_,Nat.zero_le _,rfl,xU HST⟩
 case round =>
  clear HST
  obtain ⟨k,vf,vn,hk,rfl,HS⟩:=hrel
  have hws:=HS.out.bt.size
  by_cases hlt:k < N.length
  rotate_left
  · obtain rfl:k=N.length:=by omega
    have hst:=HS.out
    rw [List.take_of_length_le (Nat.le_refl _)] at hst
    have HST:=xH hst
    clear hst HS
    go_wp2_with fail
    go_end0
    have h9:=xU HST
    have hNN:=xU HNN
    subst hNN
    refine ⟨rfl,⟨⟨vf,vn,.slice none 0 0⟩,h9.st.row,h9.st.of.mono (by omega),h9.st.on.mono (by omega),⟨rfl,Or.inl ⟨rfl,rfl⟩⟩⟩,?_⟩
    have hb:=(xU HBT5).trans h9.bt
    refine ⟨⟨hb.os,hb.tape,hb.output,hb.size,fun b hbl=>hb.at (by omega) (by omega)⟩,fun b cs t fz h1 h2 h3 h4=>hb.at (blk_lt h1) fun e=>?_⟩
    subst e
    obtain ⟨cs2,fz2,h5⟩:=row_ty (xU HM).row
    rw [h5] at h1
    simp only [Option.some.injEq,Obj.cells.injEq] at h1
    exact h4 h1.2.1.symm
  · obtain ⟨i,hi,he,hf⟩:=xU HCF N[k] (List.getElem_mem hlt)
    obtain ⟨b5,o5,rfl,hpb5,hc5,hsx⟩:=xU HC5 k hlt
    have hb5L:b5≠L:=by have:=hpb5.1;omega
    have e5:wr.cell? ⟨b5,o5+k,none⟩=some (.string N[k]):=by rw [World.cell?_of_block (w:=w5) (HS.out.bt.at hpb5.2 hb5L)];exact hc5
    have hok:=xU HOK
    have hx8:N[k].size≤8:=by
     refine Classical.byContradiction fun hno=>?_
     have hn:=(hok.file i hi (by rw [hok.len];exact hi)).name
     rw [he,nameOk_len (Or.inr (by omega))] at hn
     cases hn
    have hat:=at_nmap (d.files.map Df.name) (xU HND) i (by rw [List.length_map];exact hi) (d.files.map Df.name).length (Nat.le_refl _) (by rw [List.length_map];exact hi)
    rw [List.getElem_map,he] at hat
    obtain ⟨g,s1,hg,hbg,-⟩:=(xU HM).o0.form (by omega)
    rw [xU HEF] at hg
    simp only [Value.slice.injEq,true_and] at hg
    obtain ⟨rfl,rfl⟩:=hg
    have hO:=(xU HM).o0
    rw [xU HEF] at hO
    have hgL:g≠L:=fun e=>own_apart hO (xU HM).row (by decide) (by rw [e];rfl)
    have hgs:=(hO.lt g rfl).2
    have hbW:∀ W,But L w5 W→But L w W:=fun W hW=>(xU HBT5).trans hW
    have hV':∀ W,But L w5 W→W.cell? ⟨w.heap.size,0,none⟩=some (.pointer (some ⟨T,0,none⟩)):=fun W hW=>((xU HV5).of_block (hW.at (by omega) (by omega))).cell (i:=0) (by omega)
    have hT':∀ W,But L w5 W→W.cell? ⟨T,1,none⟩=some (.map (some B)):=fun W hW=>((xU HV).row.of_block ((hbW W hW).at (xU HV).row.lt hT)).cell (i:=1) (by omega)
    have hM':∀ W,But L w5 W→NMap W B (d.files.map Df.name):=fun W hW=>ownsMap_block (xU HV).map ((hbW W hW).at hB.2 hB.1)
    have hF':∀ W,But L w5 W→W.cell? ⟨g,i * 3,none⟩=some (.string d.files[i].name)∧W.cell? ⟨g,i * 3+1,none⟩=some (.string d.files[i].data)∧W.cell? ⟨g,i * 3+2,none⟩=some (.int .i64 d.files[i].kept):=fun W hW=>ownFile (ownsRow_keep hO (fun g' e=>by
     simp only [Value.ownBlock,Option.some.injEq] at e
     subst e
     exact (hbW W hW).at hgs hgL)) i hi
    have htk:(N.take k).length=k:=by rw [List.length_take];omega
    have HS6:=xH (fun W (h:Cx w5 L vf vn ((N.take k).map (fileD d)) (N.take k) W)=>h)
    have HV':=xH hV';have HT':=xH hT';have HM':=xH hM';have HF':=xH hF';have HAT:=xH hat
    have HFD:=xH (show fileD d N[k]=d.files[i] from fileD_at hi hf)
    have HTS:=xH (List.take_succ_eq_append_getElem hlt)
    have HTK:=xH htk
    clear hV' hT' hM' hF' hat hbW hO hgL hgs htk hsx hpb5 hc5 he hf hok HS6
    go_upto_region 6 with fail
    refine wp_swap (c':=Code.region 6 se6Ops true) (by kernel_rfl) ?_
    refine wp_region_noPanic ?_
    refine se6 w5 L vf vn ((N.take k).map (fileD d)) (N.take k) N[k] (by omega) (by rw [xU HTK];omega) (by rfl) wr _ (fun _ _ _ _ _ h=>h) (HS.out.on (drewB _)) ?_
    intro v vn' W1 h1
    refine NoPanic.normal ?_
    simp only [frL_eq,frG,List.lookup,Nat.reduceBEq,Nat.reduceAdd,Option.getD_some,Option.getD_none]
    rw [← xU HTS] at h1
    have HS1:=xH h1
    clear h1 HS e5
    go_upto_region 7 with fail
    refine wp_swap (c':=Code.region 7 se7Ops true) (by kernel_rfl) ?_
    refine wp_region_noPanic ?_
    refine se7 w5 L w.heap.size T B vf vn' ((N.take k).map (fileD d)) (N.take (k+1)) (d.files.map Df.name) N[k] d.files[i] i g d.files.length s0 hi (by omega) (by rw [List.length_map,xU HTK];omega) (xU HAT) (xU HV') (xU HT') (xU HM') (xU HF') (by rfl) W1 _ (fun _ _ _ _ _ h=>h) ((xU HS1).on (drewB _)) ?_
    intro v2 vf' W2 h2
    refine NoPanic.normal ?_
    simp only [frL_eq,frG,List.lookup,Nat.reduceBEq,Nat.reduceAdd,Option.getD_some,Option.getD_none]
    rw [← xU HFD,show (N.take k).map (fileD d)++[fileD d N[k]]=(N.take (k+1)).map (fileD d) by rw [xU HTS,List.map_append];rfl] at h2
    have HS2:=xH h2
    clear h2 HS1
    go_wp2_with fail
    go_roundw
    case rel=>exact ⟨k+1,vf',vn',by omega,by go_num,xU HS2⟩
    case measure=>simp [intOf];omega
end Go.Proofs.Yteikmbkljkkjiaa
