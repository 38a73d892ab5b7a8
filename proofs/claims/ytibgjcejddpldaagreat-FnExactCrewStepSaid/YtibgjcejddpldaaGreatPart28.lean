/- A part. -/
import Derived.Test.YtibgjcejddpldaaGreatPart26
namespace Go.Proofs.YtibgjcejddpldaaGreat
open Go Go.RowKit
set_option maxRecDepth 100000
set_option maxHeartbeats 1600000
theorem ldPcr (w : World) (ad : Addr) (v : Value) (h : w.cell? ad = some v) : (Instr.loadAt 67 (.pointer (some ad))).run Tryz.prog w = .ok v w := by
 simp [Instr.loadAt, Instr.sureAddr, loadVar, Tryz.isAgg67, h, go_sem]
theorem Kc.bel' {w W : World} {C : Nat} {c : Cw} {B : CrB} (h : Kc w W C c B) : Below w.heap.size w W := h.bel
structure Kw (w W : World) (C : Nat) (c : Cw) (B : CrB) (i : Nat) : Prop where
 k : Kc w W C c B
 bx : W.rowIs w.heap.size 129 2 (r18 [.pointer (some ⟨C, 0, none⟩), .pointer (some ⟨B.H, i * 2, none⟩)])
theorem Kw.on {w W W' : World} {C : Nat} {c : Cw} {B : CrB} {i : Nat} (h : Kw w W C c B i) (hb : Below W.heap.size W W') : Kw w W' C c B i := ⟨h.k.on hb, h.bx.of_block (hb.block _ h.bx.lt)⟩
theorem Kw.bel' {w W : World} {C : Nat} {c : Cw} {B : CrB} {i : Nat} (h : Kw w W C c B i) : Below w.heap.size w W := h.k.bel
theorem Kw.b0 {w W : World} {C : Nat} {c : Cw} {B : CrB} {i : Nat} (h : Kw w W C c B i) : W.cell? ⟨w.heap.size, 0, none⟩ = some (.pointer (some ⟨C, 0, none⟩)) := h.bx.cell (i := 0) (by omega)
theorem Kw.b1 {w W : World} {C : Nat} {c : Cw} {B : CrB} {i : Nat} (h : Kw w W C c B i) : W.cell? ⟨w.heap.size, 1, none⟩ = some (.pointer (some ⟨B.H, i * 2, none⟩)) := h.bx.cell (i := 1) (by omega)
theorem rowWk : ∃ d, Tryz.prog.underlying 129 = some d ∧ d.isRow = true := ⟨_, Tryz.underlying129, by rfl⟩
theorem info2W : (Tryz.prog.info? 129).map (·.size) = some 2 := by kernel_rfl
theorem ldWk {w W : World} {C : Nat} {c : Cw} {B : CrB} {i : Nat} (h : Kw w W C c B i) : (Instr.loadAt 129 (.pointer (some ⟨w.heap.size, 0, none⟩))).run Tryz.prog W = .ok (.agg #[.pointer (some ⟨C, 0, none⟩), .pointer (some ⟨B.H, i * 2, none⟩)]) W := by
 have h0 := h.b0; have h1 := h.b1
 obtain ⟨dd, hdu, hdr⟩ := rowWk
 have hr : W.rangeAt w.heap.size 0 [.pointer (some ⟨C, 0, none⟩), .pointer (some ⟨B.H, i * 2, none⟩)] := fun j v hv => by
  match j, hv with
  | 0, hv => simp only [List.getElem?_cons_zero, Option.some.injEq] at hv; subst hv; exact h0
  | 1, hv => simp only [List.getElem?_cons_succ, List.getElem?_cons_zero, Option.some.injEq] at hv; subst hv; exact h1
  | _ + 2, hv => simp at hv
 unfold Instr.loadAt
 simp only [Instr.sureAddr, Sem.run_bind, Sem.run_pure, Result.andThen_ok, run_loadVar_mid W w.heap.size 0 129 [.pointer (some ⟨C, 0, none⟩), .pointer (some ⟨B.H, i * 2, none⟩)] dd hr hdu hdr info2W]
theorem empI (b n : Nat) (r : Bool) (w : World) (h : w.cell? ⟨b, 2, none⟩ = some (.int .i64 n)) (hr : decide (n = 0) = r) : Calls Tryz.prog 118 #[.pointer (some ⟨b, 0, none⟩)] w fun e w' => e = .returned (.bool r) ∧ Below w.heap.size w w' := by
 subst hr
 exact (emptyI_any b n w h).mono fun e w' ⟨h1, h2⟩ => ⟨h1, by rw [h2]; exact Below.refl _ _⟩
theorem shutI1 {c : Cw} (hF : Form c) (b i : Nat) (w : World) (h : w.cell? ⟨b, 3, none⟩ = some (.int .i64 (c.shut.getD i 0))) : Calls Tryz.prog 116 #[.pointer (some ⟨b, 0, none⟩)] w fun e w' => e = .returned (.bool (decide (shZ c i = 1))) ∧ Below w.heap.size w w' := by
 rw [← stp_eq hF]
 exact (shutI_any b _ w h).mono fun e w' ⟨h1, h2⟩ => ⟨h1, by rw [h2]; exact Below.refl _ _⟩
theorem stop1 {C : Nat} {c : Cw} {B : CrB} (hF : Form c) (w : World) (h : CrAt w C c B) : Calls Tryz.prog 115 #[.pointer (some ⟨C, 0, none⟩)] w fun e w' => e = .returned (.bool (stpB c)) ∧ Below w.heap.size w w' :=
 (stop_any C c B w h hF).mono fun e w' ⟨h1, h2⟩ => ⟨h1, by rw [h2]; exact Below.refl _ _⟩
noncomputable def cpkOps : Array Oper := fops Tryz.f110 3
theorem cpk_neat : Region.noSelect cpkOps = true ∧ neat cpkOps = true := ⟨by kernel_rfl, by kernel_rfl⟩
theorem cpk_0 (C : Nat) (c : Cw) (B : CrB) (w : World) (hF : Form c) (hn : c.results.length = 0) (W0 : World) {l : List Value} (Q : Exit → Act → World → Prop) (hQ : ∀ c a d v w, Q (.panic c) (Act.put a d v) w → Q (.panic c) a w) (hS : Kc w W0.drew C c B) (hl : lookL [(0, .pointer (some ⟨C, 0, none⟩))] l = (73, [.pointer (some ⟨C, 0, none⟩)]))
 (hend : ∀ v s W', WsEnd w W' (.returned s) [(false, fv 132 (pC C)), ((stpB c), fv 133 (pC C)), ((decide (shZ c 1 = 1)), fv 134 (pC C))] → Q .normal ⟨(frL v 73 [(0, .pointer (some ⟨C, 0, none⟩)), (2, s)]).toArray, []⟩ W') : (Code.region 3 cpkOps true).wp Tryz.prog Q ⟨l.toArray, []⟩ W0 := by
 obtain ⟨v, rfl⟩ := look_fr hl
 have hq : NtQ cpkOps Q := ⟨cpk_neat, hQ⟩
 refine T_start (S := fun W => Kc w W C c B) (by kernel_rfl) hS ?_
 clear hl hQ hS
 generalize W0.drew = W
 refine T_a hq (List.range 31) (fun w h => .cons (ld67 w _ _ h.cr.c6) (.cons (ld67 w _ _ h.cr.c6) Lds.nil)) (by kernel_rfl) ?_
 refine T_one 4 (by kernel_rfl) fun h => O_call (empI B.R c.results.length true W h.cr.r2 (by rw [hn]; rfl)) (fun _ => h.on) (by kernel_rfl) ?_
 clear h; intro W _
 refine T_z hq (List.range 31) (by kernel_rfl) ?_
 refine T_one 10 (by kernel_rfl) fun h => O_call (stop1 (B := B) hF W h.cr) (fun _ => h.on) (by kernel_rfl) ?_
 clear h; intro W _
 refine T_z hq (List.range 31) (by kernel_rfl) ?_
 refine T_one 18 (by kernel_rfl) fun h => O_call (empI B.R c.results.length true W h.cr.r2 (by rw [hn]; rfl)) (fun _ => h.on) (by kernel_rfl) ?_
 clear h; intro W _
 refine T_a hq (List.range 31) (fun w h => .cons (ld67 w _ _ h.cr.c6) Lds.nil) (by kernel_rfl) ?_
 refine T_one 24 (by kernel_rfl) fun h => O_call (shutI1 hF B.R 1 W h.cr.r3) (fun _ => h.on) (by kernel_rfl) ?_
 clear h; intro W _
 refine T_z hq (List.range 31) (by kernel_rfl) ?_
 refine T_one 29 (by kernel_rfl) fun h => O_val (w' := W.alloc (.cells #[.bool false, .func (.func 132) #[.pointer (some ⟨C, 0, none⟩)] #[], .bool (stpB c), .func (.func 133) #[.pointer (some ⟨C, 0, none⟩)] #[], .bool (decide (shZ c 1 = 1)), .func (.func 134) #[.pointer (some ⟨C, 0, none⟩)] #[]] 117)) (some 38) (.slice (some ⟨W.heap.size, 0, none⟩) 3 3) (by kernel_rfl) (by kernel_rfl) (h.on ((Below.refl _ W).alloc (Nat.le_refl _) _)) ?_
 have hbs := ws_new h.bel' [(false, fv 132 (pC C)), ((stpB c), fv 133 (pC C)), ((decide (shZ c 1 = 1)), fv 134 (pC C))] (by simp)
 refine T_z hq (List.range 31) (by kernel_rfl) ?_
 exact T_end 73 [(0, .pointer (some ⟨C, 0, none⟩)), (2, .slice (some ⟨W.heap.size, 0, none⟩) 3 3)] (by kernel_rfl) (by kernel_rfl) fun _ v => hend v _ _ hbs
theorem cpk_1 (C : Nat) (c : Cw) (B : CrB) (w : World) (hF : Form c) (n : Nat) (hn : c.results.length = n + 1) (W0 : World) {l : List Value} (Q : Exit → Act → World → Prop) (hQ : ∀ c a d v w, Q (.panic c) (Act.put a d v) w → Q (.panic c) a w) (hS : Kc w W0.drew C c B) (hl : lookL [(0, .pointer (some ⟨C, 0, none⟩))] l = (73, [.pointer (some ⟨C, 0, none⟩)]))
 (hend : ∀ v s W', WsEnd w W' (.returned s) [(true, fv 132 (pC C)), ((stpB c), fv 133 (pC C)), (false, fv 134 (pC C))] → Q .normal ⟨(frL v 73 [(0, .pointer (some ⟨C, 0, none⟩)), (2, s)]).toArray, []⟩ W') : (Code.region 3 cpkOps true).wp Tryz.prog Q ⟨l.toArray, []⟩ W0 := by
 obtain ⟨v, rfl⟩ := look_fr hl
 have hq : NtQ cpkOps Q := ⟨cpk_neat, hQ⟩
 refine T_start (S := fun W => Kc w W C c B) (by kernel_rfl) hS ?_
 clear hl hQ hS
 generalize W0.drew = W
 refine T_a hq (List.range 31) (fun w h => .cons (ld67 w _ _ h.cr.c6) (.cons (ld67 w _ _ h.cr.c6) Lds.nil)) (by kernel_rfl) ?_
 refine T_one 4 (by kernel_rfl) fun h => O_call (empI B.R c.results.length false W h.cr.r2 (by rw [hn]; rfl)) (fun _ => h.on) (by kernel_rfl) ?_
 clear h; intro W _
 refine T_z hq (List.range 31) (by kernel_rfl) ?_
 refine T_one 10 (by kernel_rfl) fun h => O_call (stop1 (B := B) hF W h.cr) (fun _ => h.on) (by kernel_rfl) ?_
 clear h; intro W _
 refine T_z hq (List.range 31) (by kernel_rfl) ?_
 refine T_one 18 (by kernel_rfl) fun h => O_call (empI B.R c.results.length false W h.cr.r2 (by rw [hn]; rfl)) (fun _ => h.on) (by kernel_rfl) ?_
 clear h; intro W _
 refine T_z hq (List.range 31) (by kernel_rfl) ?_
 refine T_one 29 (by kernel_rfl) fun h => O_val (w' := W.alloc (.cells #[.bool true, .func (.func 132) #[.pointer (some ⟨C, 0, none⟩)] #[], .bool (stpB c), .func (.func 133) #[.pointer (some ⟨C, 0, none⟩)] #[], .bool false, .func (.func 134) #[.pointer (some ⟨C, 0, none⟩)] #[]] 117)) (some 38) (.slice (some ⟨W.heap.size, 0, none⟩) 3 3) (by kernel_rfl) (by kernel_rfl) (h.on ((Below.refl _ W).alloc (Nat.le_refl _) _)) ?_
 have hbs := ws_new h.bel' [(true, fv 132 (pC C)), ((stpB c), fv 133 (pC C)), (false, fv 134 (pC C))] (by simp)
 refine T_z hq (List.range 31) (by kernel_rfl) ?_
 exact T_end 73 [(0, .pointer (some ⟨C, 0, none⟩)), (2, .slice (some ⟨W.heap.size, 0, none⟩) 3 3)] (by kernel_rfl) (by kernel_rfl) fun _ v => hend v _ _ hbs
noncomputable def cpuOps : Array Oper := fops Tryz.f111 3
theorem cpu_neat : Region.noSelect cpuOps = true ∧ neat cpuOps = true := ⟨by kernel_rfl, by kernel_rfl⟩
theorem cpu_0 (C : Nat) (c : Cw) (B : CrB) (w : World) (hF : Form c) (hn : c.out.length = 0) (W0 : World) {l : List Value} (Q : Exit → Act → World → Prop) (hQ : ∀ c a d v w, Q (.panic c) (Act.put a d v) w → Q (.panic c) a w) (hS : Kc w W0.drew C c B) (hl : lookL [(0, .pointer (some ⟨C, 0, none⟩))] l = (33, [.pointer (some ⟨C, 0, none⟩)]))
 (hend : ∀ v s W', WsEnd w W' (.returned s) [(false, fv 139 (pC C)), ((decide (shZ c 2 = 1)), fv 140 (pC C))] → Q .normal ⟨(frL v 33 [(0, .pointer (some ⟨C, 0, none⟩)), (2, s)]).toArray, []⟩ W') : (Code.region 3 cpuOps true).wp Tryz.prog Q ⟨l.toArray, []⟩ W0 := by
 obtain ⟨v, rfl⟩ := look_fr hl
 have hq : NtQ cpuOps Q := ⟨cpu_neat, hQ⟩
 refine T_start (S := fun W => Kc w W C c B) (by kernel_rfl) hS ?_
 clear hl hQ hS
 generalize W0.drew = W
 refine T_a hq (List.range 26) (fun w h => .cons (ld67 w _ _ h.cr.c10) (.cons (ld67 w _ _ h.cr.c10) Lds.nil)) (by kernel_rfl) ?_
 refine T_one 4 (by kernel_rfl) fun h => O_call (empI B.O c.out.length true W h.cr.o2 (by rw [hn]; rfl)) (fun _ => h.on) (by kernel_rfl) ?_
 clear h; intro W _
 refine T_z hq (List.range 26) (by kernel_rfl) ?_
 refine T_one 13 (by kernel_rfl) fun h => O_call (empI B.O c.out.length true W h.cr.o2 (by rw [hn]; rfl)) (fun _ => h.on) (by kernel_rfl) ?_
 clear h; intro W _
 refine T_a hq (List.range 26) (fun w h => .cons (ld67 w _ _ h.cr.c10) Lds.nil) (by kernel_rfl) ?_
 refine T_one 19 (by kernel_rfl) fun h => O_call (shutI1 hF B.O 2 W h.cr.o3) (fun _ => h.on) (by kernel_rfl) ?_
 clear h; intro W _
 refine T_z hq (List.range 26) (by kernel_rfl) ?_
 refine T_one 24 (by kernel_rfl) fun h => O_val (w' := W.alloc (.cells #[.bool false, .func (.func 139) #[.pointer (some ⟨C, 0, none⟩)] #[], .bool (decide (shZ c 2 = 1)), .func (.func 140) #[.pointer (some ⟨C, 0, none⟩)] #[]] 117)) (some 32) (.slice (some ⟨W.heap.size, 0, none⟩) 2 2) (by kernel_rfl) (by kernel_rfl) (h.on ((Below.refl _ W).alloc (Nat.le_refl _) _)) ?_
 have hbs := ws_new h.bel' [(false, fv 139 (pC C)), ((decide (shZ c 2 = 1)), fv 140 (pC C))] (by simp)
 refine T_z hq (List.range 26) (by kernel_rfl) ?_
 exact T_end 33 [(0, .pointer (some ⟨C, 0, none⟩)), (2, .slice (some ⟨W.heap.size, 0, none⟩) 2 2)] (by kernel_rfl) (by kernel_rfl) fun _ v => hend v _ _ hbs
theorem cpu_1 (C : Nat) (c : Cw) (B : CrB) (w : World) (_ : Form c) (n : Nat) (hn : c.out.length = n + 1) (W0 : World) {l : List Value} (Q : Exit → Act → World → Prop) (hQ : ∀ c a d v w, Q (.panic c) (Act.put a d v) w → Q (.panic c) a w) (hS : Kc w W0.drew C c B) (hl : lookL [(0, .pointer (some ⟨C, 0, none⟩))] l = (33, [.pointer (some ⟨C, 0, none⟩)]))
 (hend : ∀ v s W', WsEnd w W' (.returned s) [(true, fv 139 (pC C)), (false, fv 140 (pC C))] → Q .normal ⟨(frL v 33 [(0, .pointer (some ⟨C, 0, none⟩)), (2, s)]).toArray, []⟩ W') : (Code.region 3 cpuOps true).wp Tryz.prog Q ⟨l.toArray, []⟩ W0 := by
 obtain ⟨v, rfl⟩ := look_fr hl
 have hq : NtQ cpuOps Q := ⟨cpu_neat, hQ⟩
 refine T_start (S := fun W => Kc w W C c B) (by kernel_rfl) hS ?_
 clear hl hQ hS
 generalize W0.drew = W
 refine T_a hq (List.range 26) (fun w h => .cons (ld67 w _ _ h.cr.c10) (.cons (ld67 w _ _ h.cr.c10) Lds.nil)) (by kernel_rfl) ?_
 refine T_one 4 (by kernel_rfl) fun h => O_call (empI B.O c.out.length false W h.cr.o2 (by rw [hn]; rfl)) (fun _ => h.on) (by kernel_rfl) ?_
 clear h; intro W _
 refine T_z hq (List.range 26) (by kernel_rfl) ?_
 refine T_one 13 (by kernel_rfl) fun h => O_call (empI B.O c.out.length false W h.cr.o2 (by rw [hn]; rfl)) (fun _ => h.on) (by kernel_rfl) ?_
 clear h; intro W _
 refine T_z hq (List.range 26) (by kernel_rfl) ?_
 refine T_one 24 (by kernel_rfl) fun h => O_val (w' := W.alloc (.cells #[.bool true, .func (.func 139) #[.pointer (some ⟨C, 0, none⟩)] #[], .bool false, .func (.func 140) #[.pointer (some ⟨C, 0, none⟩)] #[]] 117)) (some 32) (.slice (some ⟨W.heap.size, 0, none⟩) 2 2) (by kernel_rfl) (by kernel_rfl) (h.on ((Below.refl _ W).alloc (Nat.le_refl _) _)) ?_
 have hbs := ws_new h.bel' [(true, fv 139 (pC C)), (false, fv 140 (pC C))] (by simp)
 refine T_z hq (List.range 26) (by kernel_rfl) ?_
 exact T_end 33 [(0, .pointer (some ⟨C, 0, none⟩)), (2, .slice (some ⟨W.heap.size, 0, none⟩) 2 2)] (by kernel_rfl) (by kernel_rfl) fun _ v => hend v _ _ hbs
noncomputable def cpwOps : Array Oper := fops Tryz.f108 3
theorem cpw_neat : Region.noSelect cpwOps = true ∧ neat cpwOps = true := ⟨by kernel_rfl, by kernel_rfl⟩
theorem cpw_0 (C : Nat) (c : Cw) (B : CrB) (w : World) (i : Nat) (hF : Form c) (hn : c.queue.length = 0) (W0 : World) {l : List Value} (Q : Exit → Act → World → Prop) (hQ : ∀ c a d v w, Q (.panic c) (Act.put a d v) w → Q (.panic c) a w) (hS : Kw w W0.drew C c B i) (hl : lookL [(1, .pointer (some ⟨w.heap.size, 0, none⟩))] l = (69, [.pointer (some ⟨w.heap.size, 0, none⟩)]))
 (hend : ∀ v s W', WsEnd w W' (.returned s) [(false, fv 126 (rW C B.H i)), ((stpB c), fv 127 (rW C B.H i)), ((decide (shZ c 0 = 1)), fv 128 (rW C B.H i))] → Q .normal ⟨(frL v 69 [(1, .pointer (some ⟨w.heap.size, 0, none⟩)), (2, s)]).toArray, []⟩ W') : (Code.region 3 cpwOps true).wp Tryz.prog Q ⟨l.toArray, []⟩ W0 := by
 obtain ⟨v, rfl⟩ := look_fr hl
 have hq : NtQ cpwOps Q := ⟨cpw_neat, hQ⟩
 refine T_start (S := fun W => Kw w W C c B i) (by kernel_rfl) hS ?_
 clear hl hQ hS
 generalize W0.drew = W
 refine T_a hq (List.range 35) (fun w h => .cons (ldPcr w _ _ h.b0) (.cons (ld67 w _ _ h.k.cr.c3) (.cons (ldWk h) (.cons (ldPcr w _ _ h.b0) (.cons (ldWk h) (.cons (ldPcr w _ _ h.b0) (.cons (ld67 w _ _ h.k.cr.c3) (.cons (ldWk h) Lds.nil)))))))) (by kernel_rfl) ?_
 refine T_one 5 (by kernel_rfl) fun h => O_call (empI B.Q c.queue.length true W h.k.cr.q2 (by rw [hn]; rfl)) (fun _ => h.on) (by kernel_rfl) ?_
 clear h; intro W _
 refine T_z hq (List.range 35) (by kernel_rfl) ?_
 refine T_one 12 (by kernel_rfl) fun h => O_call (stop1 (B := B) hF W h.k.cr) (fun _ => h.on) (by kernel_rfl) ?_
 clear h; intro W _
 refine T_z hq (List.range 35) (by kernel_rfl) ?_
 refine T_one 21 (by kernel_rfl) fun h => O_call (empI B.Q c.queue.length true W h.k.cr.q2 (by rw [hn]; rfl)) (fun _ => h.on) (by kernel_rfl) ?_
 clear h; intro W _
 refine T_a hq (List.range 35) (fun w h => .cons (ldPcr w _ _ h.b0) (.cons (ld67 w _ _ h.k.cr.c3) Lds.nil)) (by kernel_rfl) ?_
 refine T_one 28 (by kernel_rfl) fun h => O_call (shutI1 hF B.Q 0 W h.k.cr.q3) (fun _ => h.on) (by kernel_rfl) ?_
 clear h; intro W _
 refine T_z hq (List.range 35) (by kernel_rfl) ?_
 refine T_one 33 (by kernel_rfl) fun h => O_val (w' := W.alloc (.cells #[.bool false, .func (.func 126) #[.agg #[.pointer (some ⟨C, 0, none⟩), .pointer (some ⟨B.H, i * 2, none⟩)]] #[], .bool (stpB c), .func (.func 127) #[.agg #[.pointer (some ⟨C, 0, none⟩), .pointer (some ⟨B.H, i * 2, none⟩)]] #[], .bool (decide (shZ c 0 = 1)), .func (.func 128) #[.agg #[.pointer (some ⟨C, 0, none⟩), .pointer (some ⟨B.H, i * 2, none⟩)]] #[]] 117)) (some 43) (.slice (some ⟨W.heap.size, 0, none⟩) 3 3) (by kernel_rfl) (by kernel_rfl) (h.on ((Below.refl _ W).alloc (Nat.le_refl _) _)) ?_
 have hbs := ws_new h.bel' [(false, fv 126 (rW C B.H i)), ((stpB c), fv 127 (rW C B.H i)), ((decide (shZ c 0 = 1)), fv 128 (rW C B.H i))] (by simp)
 refine T_z hq (List.range 35) (by kernel_rfl) ?_
 exact T_end 69 [(1, .pointer (some ⟨w.heap.size, 0, none⟩)), (2, .slice (some ⟨W.heap.size, 0, none⟩) 3 3)] (by kernel_rfl) (by kernel_rfl) fun _ v => hend v _ _ hbs
theorem cpw_1 (C : Nat) (c : Cw) (B : CrB) (w : World) (i : Nat) (hF : Form c) (n : Nat) (hn : c.queue.length = n + 1) (W0 : World) {l : List Value} (Q : Exit → Act → World → Prop) (hQ : ∀ c a d v w, Q (.panic c) (Act.put a d v) w → Q (.panic c) a w) (hS : Kw w W0.drew C c B i) (hl : lookL [(1, .pointer (some ⟨w.heap.size, 0, none⟩))] l = (69, [.pointer (some ⟨w.heap.size, 0, none⟩)]))
 (hend : ∀ v s W', WsEnd w W' (.returned s) [(true, fv 126 (rW C B.H i)), ((stpB c), fv 127 (rW C B.H i)), (false, fv 128 (rW C B.H i))] → Q .normal ⟨(frL v 69 [(1, .pointer (some ⟨w.heap.size, 0, none⟩)), (2, s)]).toArray, []⟩ W') : (Code.region 3 cpwOps true).wp Tryz.prog Q ⟨l.toArray, []⟩ W0 := by
 obtain ⟨v, rfl⟩ := look_fr hl
 have hq : NtQ cpwOps Q := ⟨cpw_neat, hQ⟩
 refine T_start (S := fun W => Kw w W C c B i) (by kernel_rfl) hS ?_
 clear hl hQ hS
 generalize W0.drew = W
 refine T_a hq (List.range 35) (fun w h => .cons (ldPcr w _ _ h.b0) (.cons (ld67 w _ _ h.k.cr.c3) (.cons (ldWk h) (.cons (ldPcr w _ _ h.b0) (.cons (ldWk h) (.cons (ldPcr w _ _ h.b0) (.cons (ld67 w _ _ h.k.cr.c3) (.cons (ldWk h) Lds.nil)))))))) (by kernel_rfl) ?_
 refine T_one 5 (by kernel_rfl) fun h => O_call (empI B.Q c.queue.length false W h.k.cr.q2 (by rw [hn]; rfl)) (fun _ => h.on) (by kernel_rfl) ?_
 clear h; intro W _
 refine T_z hq (List.range 35) (by kernel_rfl) ?_
 refine T_one 12 (by kernel_rfl) fun h => O_call (stop1 (B := B) hF W h.k.cr) (fun _ => h.on) (by kernel_rfl) ?_
 clear h; intro W _
 refine T_z hq (List.range 35) (by kernel_rfl) ?_
 refine T_one 21 (by kernel_rfl) fun h => O_call (empI B.Q c.queue.length false W h.k.cr.q2 (by rw [hn]; rfl)) (fun _ => h.on) (by kernel_rfl) ?_
 clear h; intro W _
 refine T_z hq (List.range 35) (by kernel_rfl) ?_
 refine T_one 33 (by kernel_rfl) fun h => O_val (w' := W.alloc (.cells #[.bool true, .func (.func 126) #[.agg #[.pointer (some ⟨C, 0, none⟩), .pointer (some ⟨B.H, i * 2, none⟩)]] #[], .bool (stpB c), .func (.func 127) #[.agg #[.pointer (some ⟨C, 0, none⟩), .pointer (some ⟨B.H, i * 2, none⟩)]] #[], .bool false, .func (.func 128) #[.agg #[.pointer (some ⟨C, 0, none⟩), .pointer (some ⟨B.H, i * 2, none⟩)]] #[]] 117)) (some 43) (.slice (some ⟨W.heap.size, 0, none⟩) 3 3) (by kernel_rfl) (by kernel_rfl) (h.on ((Below.refl _ W).alloc (Nat.le_refl _) _)) ?_
 have hbs := ws_new h.bel' [(true, fv 126 (rW C B.H i)), ((stpB c), fv 127 (rW C B.H i)), (false, fv 128 (rW C B.H i))] (by simp)
 refine T_z hq (List.range 35) (by kernel_rfl) ?_
 exact T_end 69 [(1, .pointer (some ⟨w.heap.size, 0, none⟩)), (2, .slice (some ⟨W.heap.size, 0, none⟩) 3 3)] (by kernel_rfl) (by kernel_rfl) fun _ v => hend v _ _ hbs
noncomputable def cpgOps : Array Oper := fops Tryz.f108 7
theorem cpg_neat : Region.noSelect cpgOps = true ∧ neat cpgOps = true := ⟨by kernel_rfl, by kernel_rfl⟩
theorem cpg_g (C : Nat) (c : Cw) (B : CrB) (w : World) (i : Nat) (hF : Form c) (W0 : World) {l : List Value} (Q : Exit → Act → World → Prop) (hQ : ∀ c a d v w, Q (.panic c) (Act.put a d v) w → Q (.panic c) a w) (hS : Kw w W0.drew C c B i) (hl : lookL [(1, .pointer (some ⟨w.heap.size, 0, none⟩))] l = (69, [.pointer (some ⟨w.heap.size, 0, none⟩)]))
 (hend : ∀ v s W', WsEnd w W' (.returned s) [((!((c.results.length : Int) == (c.hands.length : Int))), fv 130 (rW C B.H i)), ((stpB c), fv 127 (rW C B.H i))] → Q .normal ⟨(frL v 69 [(1, .pointer (some ⟨w.heap.size, 0, none⟩)), (2, s)]).toArray, []⟩ W') : (Code.region 7 cpgOps true).wp Tryz.prog Q ⟨l.toArray, []⟩ W0 := by
 obtain ⟨v, rfl⟩ := look_fr hl
 have hq : NtQ cpgOps Q := ⟨cpg_neat, hQ⟩
 refine T_start (S := fun W => Kw w W C c B i) (by kernel_rfl) hS ?_
 clear hl hQ hS
 generalize W0.drew = W
 refine T_a hq (List.range 18) (fun w h => .cons (ldPcr w _ _ h.b0) (.cons (ld67 w _ _ h.k.cr.c6) (.cons (ldWk h) (.cons (ldPcr w _ _ h.b0) (.cons (ldWk h) Lds.nil))))) (by kernel_rfl) ?_
 refine T_one 5 (by kernel_rfl) fun h => O_call (fullR_any C c B W h.k.cr) (fun _ => h.on) (by kernel_rfl) ?_
 clear h; intro W _
 refine T_z hq (List.range 18) (by kernel_rfl) ?_
 refine T_one 12 (by kernel_rfl) fun h => O_call (stop1 (B := B) hF W h.k.cr) (fun _ => h.on) (by kernel_rfl) ?_
 clear h; intro W _
 refine T_z hq (List.range 18) (by kernel_rfl) ?_
 refine T_one 16 (by kernel_rfl) fun h => O_val (w' := W.alloc (.cells #[.bool (!((c.results.length : Int) == (c.hands.length : Int))), .func (.func 130) #[.agg #[.pointer (some ⟨C, 0, none⟩), .pointer (some ⟨B.H, i * 2, none⟩)]] #[], .bool (stpB c), .func (.func 127) #[.agg #[.pointer (some ⟨C, 0, none⟩), .pointer (some ⟨B.H, i * 2, none⟩)]] #[]] 117)) (some 68) (.slice (some ⟨W.heap.size, 0, none⟩) 2 2) (by kernel_rfl) (by kernel_rfl) (h.on ((Below.refl _ W).alloc (Nat.le_refl _) _)) ?_
 have hbs := ws_new h.bel' [((!((c.results.length : Int) == (c.hands.length : Int))), fv 130 (rW C B.H i)), ((stpB c), fv 127 (rW C B.H i))] (by simp)
 refine T_z hq (List.range 18) (by kernel_rfl) ?_
 exact T_end 69 [(1, .pointer (some ⟨w.heap.size, 0, none⟩)), (2, .slice (some ⟨W.heap.size, 0, none⟩) 2 2)] (by kernel_rfl) (by kernel_rfl) fun _ v => hend v _ _ hbs
end Go.Proofs.YtibgjcejddpldaaGreat
