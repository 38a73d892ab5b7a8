/- A part. -/
import Derived.Test.YtibgjcejddpldaaGreatPart16
import Derived.Deep.RegionHeld3
namespace Go.Proofs.YtibgjcejddpldaaGreat
open Go Go.RowKit
set_option maxRecDepth 100000
set_option maxHeartbeats 3200000
section
variable {P : Program} {ops : Array Oper} {Q : Exit → Act → World → Prop} {S : World → Prop}
abbrev Stt := List Bool × List Value
structure wpS (P : Program) (ops : Array Oper) (Q : Exit → Act → World → Prop) (S : World → Prop) (st : Stt) (ds : List Deferred) (w : World) : Prop where
 out : wpT P ops Q S st.1 st.2 ds w
def autoS (P : Program) (ops : Array Oper) (ds : List Deferred) (is : List Nat) (hs : List Told) : Stt → Stt × List (TypeId × Value)
 | (ls, l) => match autoL P ops ds is ls l hs with
   | (a, b, c) => ((a, b), c)
def setS (i : Nat) (d : Option Tmp) (u : Value) : Stt → Stt
 | (ls, l) => (ls.set i true, putL l d u)
def rdyS (ops : Array Oper) : Stt → List Nat
 | (ls, _) => Region.ready .any ops ls.toArray
theorem T_start {l : List Value} {ds : List Deferred} {id : Nat} {w : World} (hm : P.follows .mixedOrders = true) (hS : S w.drew) (h : wpS P ops Q S (List.replicate ops.size false, l) ds w.drew) : (Code.region id ops true).wp P Q ⟨l.toArray, ds⟩ w := U_start hm hS h.out
theorem T_a {st : Stt} {ds : List Deferred} {w : World} (hq : NtQ ops Q) (is : List Nat) {hs : List Told} (hl : ∀ w, S w → Lds P w hs) (h : (autoS P ops ds is hs st).2 = hs.map tp) (H : wpS P ops Q S (autoS P ops ds is hs st).1 ds w) : wpS P ops Q S st ds w := by
 obtain ⟨ls, l⟩ := st
 refine ⟨U_a hq is hl h H.out⟩
theorem T_z {st : Stt} {ds : List Deferred} {w : World} (hq : NtQ ops Q) (is : List Nat) (h : (autoS P ops ds is [] st).2 = []) (H : wpS P ops Q S (autoS P ops ds is [] st).1 ds w) : wpS P ops Q S st ds w := T_a hq is (fun _ _ => Lds.nil) h H
theorem T_fr {st : Stt} {ds : List Deferred} {w : World} (n N : Nat) (r : List Nat) (s : List (Nat × Value)) (h : (st.1, lookL s st.2) = (unl n r, (N, s.map (·.2)))) (H : ∀ v, wpS P ops Q S (unl n r, frL v N s) ds w) : wpS P ops Q S st ds w := ⟨U_fr n N r s h fun v => (H v).out⟩
theorem T_end {st : Stt} {ds : List Deferred} {w : World} (N : Nat) (s : List (Nat × Value)) (hr : rdyS ops st = []) (h : lookL s st.2 = (N, s.map (·.2))) (H : S w → ∀ v, Q .normal ⟨(frL v N s).toArray, ds⟩ w) : wpS P ops Q S st ds w := ⟨U_end N s hr h H⟩
structure wpP (P : Program) (ops : Array Oper) (Q : Exit → Act → World → Prop) (S : World → Prop) (i : Nat) (st : Stt) (ds : List Deferred) (w : World) : Prop where
 out : wpO P ops Q S i st.1 st.2 ds w
theorem T_all {st : Stt} {ds : List Deferred} {w : World} (rs : List Nat) (hr : rdyS ops st = rs) (hne : rs ≠ []) (h : ∀ i ∈ rs, S w → wpP P ops Q S i st ds w) : wpS P ops Q S st ds w := ⟨U_all rs hr hne fun i hi hS => (h i hi hS).out⟩
theorem T_one {st : Stt} {ds : List Deferred} {w : World} (i : Nat) (hr : rdyS ops st = [i]) (h : S w → wpP P ops Q S i st ds w) : wpS P ops Q S st ds w := ⟨U_one i hr fun hS => (h hS).out⟩
theorem T_two {st : Stt} {ds : List Deferred} {w : World} (i k : Nat) (hr : rdyS ops st = [i, k]) (h : S w → wpP P ops Q S i st ds w) (h2 : S w → wpP P ops Q S k st ds w) : wpS P ops Q S st ds w := ⟨U_two i k hr (fun hS => (h hS).out) fun hS => (h2 hS).out⟩
def callS (P : Program) (ops : Array Oper) (ds : List Deferred) (i : Nat) : Stt → Option (FuncId × Array Value)
 | (_, l) => callB P ops ds i l
theorem O_go {i : Nat} {st : Stt} {ds : List Deferred} {w : World} {f : FuncId} {args : Array Value} {R : Ending → World → Prop} (hc : Calls P f args w R) (h : callS P ops ds i st = some (f, args)) (H : ∀ e w', R e w' → ∃ u, e = .returned u ∧ S w' ∧ wpS P ops Q S (setS i (opI ops i).dst u st) ds w') : wpP P ops Q S i st ds w :=
 ⟨V_go hc h fun e w' hr => by obtain ⟨u, h1, h2, h3⟩ := H e w' hr; exact ⟨u, h1, h2, h3.out⟩⟩
theorem O_call {i : Nat} {st : Stt} {ds : List Deferred} {w : World} {f : FuncId} {args : Array Value} {u : Value} {T : World → Prop} (hc : Calls P f args w fun e w' => e = .returned u ∧ T w') (hon : ∀ w', T w' → S w') (h : callS P ops ds i st = some (f, args)) (H : ∀ w', T w' → wpS P ops Q S (setS i (opI ops i).dst u st) ds w') : wpP P ops Q S i st ds w :=
 O_go hc h fun _ w' ⟨he, hT⟩ => ⟨u, he, hon w' hT, H w' hT⟩
theorem O_val {i : Nat} {st : Stt} {ds : List Deferred} {w w' : World} (d : Option Tmp) (v : Value) (hb : opB ops i d = true) (hr : (execOp (⟨st.2.toArray, ds⟩ : Act).eval (opI ops i)).run P w = .ok (.value v) w') (hS : S w') (H : wpS P ops Q S (setS i d v st) ds w') : wpP P ops Q S i st ds w := ⟨V_val d v hb hr hS H.out⟩
theorem O_skip {i : Nat} {st : Stt} {ds : List Deferred} {w w' : World} (d : Option Tmp) (hb : opB ops i d = true) (hr : (execOp (⟨st.2.toArray, ds⟩ : Act).eval (opI ops i)).run P w = .ok .skip w') (hS : S w') (H : wpS P ops Q S (setS i d undef st) ds w') : wpP P ops Q S i st ds w := ⟨V_skip d hb hr hS H.out⟩
theorem O_list {i : Nat} {st : Stt} {ds : List Deferred} {w : World} (d : Option Tmp) (hb : opB ops i d = true) (h : wpList P ops (Nrm (fun a' w' => S w' ∧ ∃ l', a' = ⟨l'.toArray, ds⟩ ∧ wpS P ops Q S (st.1.set i true, l') ds w') Q) [opI ops i] ⟨st.2.toArray, ds⟩ w) : wpP P ops Q S i st ds w :=
 ⟨wpOp_mono (fun _ _ ⟨h1, l', h2, h3⟩ => ⟨h1, l', h2, h3.out⟩) (op_list d hb h)⟩
theorem O_store {i : Nat} {st : Stt} {ds : List Deferred} {w : World} (d : Option Tmp) (ty : TypeId) (x y : Operand) (ad : Addr) (v : Value) (w' : World) (hb : opB ops i d = true) (ho : (opI ops i).op = .store ty x y) (hxy : ((⟨st.2.toArray, ds⟩ : Act).eval x, (⟨st.2.toArray, ds⟩ : Act).eval y) = (.pointer (some ad), v)) (hr : (Instr.storeAt ty (.pointer (some ad)) v).run P w = .ok () w') (hS : S w') (H : wpS P ops Q S (setS i d undef st) ds w') : wpP P ops Q S i st ds w := by
 obtain ⟨hx, hy⟩ := Prod.mk.inj hxy
 refine O_skip d hb ?_ hS H
 unfold execOp
 simp only [ho, hx, hy, Sem.run_bind, Sem.run_pure, Result.andThen_ok, hr]
theorem O_store_mid {i : Nat} {st : Stt} {ds : List Deferred} {w : World} (d : Option Tmp) (ty : TypeId) (x y : Operand) (b o : Nat) (cells : Array Value) (hb : opB ops i d = true) (ho : (opI ops i).op = .store ty x y) (hxy : ((⟨st.2.toArray, ds⟩ : Act).eval x, (⟨st.2.toArray, ds⟩ : Act).eval y) = (.pointer (some ⟨b, o, none⟩), .agg cells)) (ht : w.there b o cells.size) (hi : (P.info? ty).map (·.size) = some cells.size) (h1 : cells.all (·.oneCell') = true) (hS : S (w.setCells b o cells.toList)) (H : wpS P ops Q S (setS i d undef st) ds (w.setCells b o cells.toList)) : wpP P ops Q S i st ds w := by
 obtain ⟨hx, hy⟩ := Prod.mk.inj hxy
 refine O_skip d hb ?_ hS H
 unfold execOp
 simp only [ho, hx, hy, Instr.storeAt, Instr.sureAddr, Sem.run_bind, Sem.run_pure, Result.andThen_ok, run_storeVar_mid w b o ty cells ht hi h1]
end

theorem Mk.put {P : Nat → Prop} {w W : World} {c : Cw} {A : A7} {C : Nat} {x x' : Cw} {B : CrB} (h : Mk P w W c A C x B) (o : Nat) (v : Value) (ho : o < 16) (hr : crRow x' B = (crRow x B).set o v) (e1 : x'.hands = x.hands) (e2 : x'.ring = x.ring) (e3 : x'.got = x.got) (e4 : x'.queue = x.queue) (e5 : x'.results = x.results) (e6 : x'.out = x.out) (e7 : x'.room = x.room) (e8 : x'.shut = x.shut) (e9 : x'.workers = x.workers) (e10 : x'.window = x.window) : Mk P w (W.setCell ⟨C, o, none⟩ v) c A C x' B :=
 ⟨h.ag.other (h.ge C (by simp [CrB.blocks])) o v, h.cr.put o v ho hr e1 e2 e3 e4 e5 e6 e7 e8 e9 e10, h.ge⟩
theorem Mk.ge' {P : Nat → Prop} {w W : World} {c : Cw} {A : A7} {C : Nat} {x : Cw} {B : CrB} (h : Mk P w W c A C x B) : ∀ b, b ∈ [C, B.H, B.Q, B.Qp, B.R, B.Rp, B.O, B.Op, B.M, B.T, B.G] → w.heap.size + 1 ≤ b := fun b hb => h.ge b (List.mem_append_left _ hb)
noncomputable def cf4Ops : Array Oper := fops Tryz.f42 4
theorem cf4_neat : Region.noSelect cf4Ops = true ∧ neat cf4Ops = true := ⟨by kernel_rfl, by kernel_rfl⟩
theorem cf4 (c : Cw) (A : A7) (P : Nat → Prop) (w : World) (C : Nat) (B : CrB) (x : Cw) (W0 : World) {l : List Value} (Q : Exit → Act → World → Prop) (hQ : ∀ c a d v w, Q (.panic c) (Act.put a d v) w → Q (.panic c) a w) (hm : Mk P w W0.drew c A C x B) (e1 : x.hands.length = c.hands.length) (e2 : x.ring.length = c.ring.length) (hlk : lookL [(1, .pointer (some ⟨w.heap.size, 0, none⟩)), (2, .pointer none), (3, .bool false), (4, .pointer (some ⟨C, 0, none⟩))] l = (146, [.pointer (some ⟨w.heap.size, 0, none⟩), .pointer none, .bool false, .pointer (some ⟨C, 0, none⟩)]))
 (hend : ∀ v W', Mk P w W' c A C { x with next := c.next, reader := c.reader, closer := c.closer, keeper := c.keeper, due := c.due, user := c.user, ops := c.ops } B → Q .normal ⟨(frL v 146 [(1, .pointer (some ⟨w.heap.size, 0, none⟩)), (2, .pointer none), (3, .bool false), (4, .pointer (some ⟨C, 0, none⟩))]).toArray, []⟩ W') : (Code.region 4 cf4Ops true).wp Tryz.prog Q ⟨l.toArray, []⟩ W0 := by
 obtain ⟨v, rfl⟩ := look_fr hlk
 have hq : NtQ cf4Ops Q := ⟨cf4_neat, hQ⟩
 refine T_start (S := SM P w c A C B) (by kernel_rfl) ⟨_, hm, e1, e2⟩ ?_
 refine T_a hq (List.range 42) (fun w h => .cons (ld3 w _ _ h.ag.k3) (.cons (ld3 w _ _ h.ag.k4) (.cons (ld3 w _ _ h.ag.k7) (.cons (ld3 w _ _ h.ag.k9) (.cons (ld3 w _ _ h.ag.k11) (.cons (ld3 w _ _ h.ag.k13) (.cons (ld3 w _ _ h.ag.k17) Lds.nil))))))) (by kernel_rfl) ?_
 have hm2 := hm.put (x' := { x with next := c.next }) 1 (.int .i64 c.next) (by decide) rfl rfl rfl rfl rfl rfl rfl rfl rfl rfl rfl
 refine T_one 23 (by kernel_rfl) fun _ => O_store none 3 (.tmp 41) (.tmp 27) ⟨C, 1, none⟩ (.int .i64 c.next) _ (by kernel_rfl) (by kernel_rfl) (by kernel_rfl) (st3 _ _ _ _ (hm.cr.c1) (hm.cr.row.frozen 1)) ⟨_, hm2, e1, e2⟩ ?_
 replace hm := hm2
 clear hm2
 refine T_z hq (List.range 42) (by kernel_rfl) ?_
 have hm2 := hm.put (x' := { ({ x with next := c.next } : Cw) with reader := c.reader }) 2 (.int .i64 c.reader) (by decide) rfl rfl rfl rfl rfl rfl rfl rfl rfl rfl rfl
 refine T_one 26 (by kernel_rfl) fun _ => O_store none 3 (.tmp 43) (.tmp 29) ⟨C, 2, none⟩ (.int .i64 c.reader) _ (by kernel_rfl) (by kernel_rfl) (by kernel_rfl) (st3 _ _ _ _ (hm.cr.c2) (hm.cr.row.frozen 2)) ⟨_, hm2, e1, e2⟩ ?_
 replace hm := hm2
 clear hm2
 refine T_z hq (List.range 42) (by kernel_rfl) ?_
 have hm2 := hm.put (x' := { ({ ({ x with next := c.next } : Cw) with reader := c.reader } : Cw) with closer := c.closer }) 5 (.int .i64 c.closer) (by decide) rfl rfl rfl rfl rfl rfl rfl rfl rfl rfl rfl
 refine T_one 29 (by kernel_rfl) fun _ => O_store none 3 (.tmp 45) (.tmp 31) ⟨C, 5, none⟩ (.int .i64 c.closer) _ (by kernel_rfl) (by kernel_rfl) (by kernel_rfl) (st3 _ _ _ _ (hm.cr.c5) (hm.cr.row.frozen 5)) ⟨_, hm2, e1, e2⟩ ?_
 replace hm := hm2
 clear hm2
 refine T_z hq (List.range 42) (by kernel_rfl) ?_
 have hm2 := hm.put (x' := { ({ ({ ({ x with next := c.next } : Cw) with reader := c.reader } : Cw) with closer := c.closer } : Cw) with keeper := c.keeper }) 7 (.int .i64 c.keeper) (by decide) rfl rfl rfl rfl rfl rfl rfl rfl rfl rfl rfl
 refine T_one 32 (by kernel_rfl) fun _ => O_store none 3 (.tmp 47) (.tmp 33) ⟨C, 7, none⟩ (.int .i64 c.keeper) _ (by kernel_rfl) (by kernel_rfl) (by kernel_rfl) (st3 _ _ _ _ (hm.cr.c7) (hm.cr.row.frozen 7)) ⟨_, hm2, e1, e2⟩ ?_
 replace hm := hm2
 clear hm2
 refine T_z hq (List.range 42) (by kernel_rfl) ?_
 have hm2 := hm.put (x' := { ({ ({ ({ ({ x with next := c.next } : Cw) with reader := c.reader } : Cw) with closer := c.closer } : Cw) with keeper := c.keeper } : Cw) with due := c.due }) 9 (.int .i64 c.due) (by decide) rfl rfl rfl rfl rfl rfl rfl rfl rfl rfl rfl
 refine T_one 35 (by kernel_rfl) fun _ => O_store none 3 (.tmp 49) (.tmp 35) ⟨C, 9, none⟩ (.int .i64 c.due) _ (by kernel_rfl) (by kernel_rfl) (by kernel_rfl) (st3 _ _ _ _ (hm.cr.c9) (hm.cr.row.frozen 9)) ⟨_, hm2, e1, e2⟩ ?_
 replace hm := hm2
 clear hm2
 refine T_z hq (List.range 42) (by kernel_rfl) ?_
 have hm2 := hm.put (x' := { ({ ({ ({ ({ ({ x with next := c.next } : Cw) with reader := c.reader } : Cw) with closer := c.closer } : Cw) with keeper := c.keeper } : Cw) with due := c.due } : Cw) with user := c.user }) 11 (.int .i64 c.user) (by decide) rfl rfl rfl rfl rfl rfl rfl rfl rfl rfl rfl
 refine T_one 38 (by kernel_rfl) fun _ => O_store none 3 (.tmp 51) (.tmp 37) ⟨C, 11, none⟩ (.int .i64 c.user) _ (by kernel_rfl) (by kernel_rfl) (by kernel_rfl) (st3 _ _ _ _ (hm.cr.c11) (hm.cr.row.frozen 11)) ⟨_, hm2, e1, e2⟩ ?_
 replace hm := hm2
 clear hm2
 refine T_z hq (List.range 42) (by kernel_rfl) ?_
 have hm2 := hm.put (x' := { ({ ({ ({ ({ ({ ({ x with next := c.next } : Cw) with reader := c.reader } : Cw) with closer := c.closer } : Cw) with keeper := c.keeper } : Cw) with due := c.due } : Cw) with user := c.user } : Cw) with ops := c.ops }) 15 (.int .i64 c.ops) (by decide) rfl rfl rfl rfl rfl rfl rfl rfl rfl rfl rfl
 refine T_one 41 (by kernel_rfl) fun _ => O_store none 3 (.tmp 53) (.tmp 39) ⟨C, 15, none⟩ (.int .i64 c.ops) _ (by kernel_rfl) (by kernel_rfl) (by kernel_rfl) (st3 _ _ _ _ (hm.cr.c15) (hm.cr.row.frozen 15)) ⟨_, hm2, e1, e2⟩ ?_
 replace hm := hm2
 clear hm2
 exact T_end 146 [(1, .pointer (some ⟨w.heap.size, 0, none⟩)), (2, .pointer none), (3, .bool false), (4, .pointer (some ⟨C, 0, none⟩))] (by kernel_rfl) (by kernel_rfl) fun _ v => hend v _ hm
noncomputable def cf5Ops : Array Oper := fops Tryz.f42 5
theorem cf5_neat : Region.noSelect cf5Ops = true ∧ neat cf5Ops = true := ⟨by kernel_rfl, by kernel_rfl⟩
theorem cf5 (c : Cw) (A : A7) (P : Nat → Prop) (w : World) (C : Nat) (B : CrB) (x : Cw) (W0 : World) {l : List Value} (Q : Exit → Act → World → Prop) (hQ : ∀ c a d v w, Q (.panic c) (Act.put a d v) w → Q (.panic c) a w) (hm : Mk P w W0.drew c A C x B) (e1 : x.hands.length = c.hands.length) (e2 : x.ring.length = c.ring.length) (hlk : lookL [(1, .pointer (some ⟨w.heap.size, 0, none⟩)), (2, .pointer none), (3, .bool false), (4, .pointer (some ⟨C, 0, none⟩))] l = (146, [.pointer (some ⟨w.heap.size, 0, none⟩), .pointer none, .bool false, .pointer (some ⟨C, 0, none⟩)]))
 (hend : ∀ v W', Mk P w W' c A C { x with hands := c.hands } B → Q .normal ⟨(frL v 146 [(1, .pointer (some ⟨w.heap.size, 0, none⟩)), (2, .pointer none), (3, .bool false), (4, .pointer (some ⟨C, 0, none⟩))]).toArray, []⟩ W') : (Code.region 5 cf5Ops true).wp Tryz.prog Q ⟨l.toArray, []⟩ W0 := by
 obtain ⟨v, rfl⟩ := look_fr hlk
 have hq : NtQ cf5Ops Q := ⟨cf5_neat, hQ⟩
 refine T_start (S := SM P w c A C B) (by kernel_rfl) ⟨_, hm, e1, e2⟩ ?_
 refine T_a hq (List.range 6) (fun w h => .cons (ld26 w _ _ h.c4) (.cons (ld26 w _ _ h.ag.k6) Lds.nil)) (by kernel_rfl) ?_
 obtain ⟨ad, hA, hsrc⟩ := HAt.src hm.ag.at'.h (by have := hm.cr.szH; omega)
 obtain ⟨j3, hJ, hW0, hW1, hW2⟩ := info_parts infoHandM
 refine T_one 6 (by kernel_rfl) fun _ => O_list (some 60) (by kernel_rfl) ?_
 refine wpList_copyW (by kernel_rfl) (.tmp 57) (.tmp 59) 24 (by kernel_rfl) 73 j3 Tryz.underlying24 hJ B.H c.hands.length c.hands.length ad A.ph (by kernel_rfl) (by rw [← hA]; kernel_rfl) (x.hands.map Hd.cs).flatten.toArray 73 (c.hands.map Hd.cs).flatten (row_cells hm.cr.hands (hflat_len _)) (by rw [hW1, hflat_len]) (by rw [hW1, List.size_toArray, hflat_len, e1]) hsrc (hflat_one _) ?_
 intro W1 HH HG
 have hx := Exc.grown (xU HG)
 have hrow := row_of_heap (xU HH)
 rw [hflat_len] at hrow
 have hm : Mk P w W1 c A C { x with hands := c.hands } B := ⟨hm.ag.exc hx (fun g hg => hm.ge' g (by simp only [List.mem_cons, List.not_mem_nil, or_false] at hg; subst hg; simp)), hm.cr.mod_h e1.symm hrow hx, hm.ge⟩
 refine ⟨⟨_, hm, rfl, e2⟩, _, put_putL .., ?_⟩
 exact T_end 146 [(1, .pointer (some ⟨w.heap.size, 0, none⟩)), (2, .pointer none), (3, .bool false), (4, .pointer (some ⟨C, 0, none⟩))] (by kernel_rfl) (by kernel_rfl) fun _ v => hend v _ hm
noncomputable def cf6Ops : Array Oper := fops Tryz.f42 6
theorem cf6_neat : Region.noSelect cf6Ops = true ∧ neat cf6Ops = true := ⟨by kernel_rfl, by kernel_rfl⟩
theorem cf6 (c : Cw) (A : A7) (P : Nat → Prop) (w : World) (C : Nat) (B : CrB) (x : Cw) (W0 : World) {l : List Value} (Q : Exit → Act → World → Prop) (hQ : ∀ c a d v w, Q (.panic c) (Act.put a d v) w → Q (.panic c) a w) (hm : Mk P w W0.drew c A C x B) (e1 : x.hands.length = c.hands.length) (e2 : x.ring.length = c.ring.length) (hlk : lookL [(1, .pointer (some ⟨w.heap.size, 0, none⟩)), (2, .pointer none), (3, .bool false), (4, .pointer (some ⟨C, 0, none⟩))] l = (146, [.pointer (some ⟨w.heap.size, 0, none⟩), .pointer none, .bool false, .pointer (some ⟨C, 0, none⟩)]))
 (hend : ∀ v W', Mk P w W' c A C { x with ring := c.ring } B → Q .normal ⟨(frL v 146 [(1, .pointer (some ⟨w.heap.size, 0, none⟩)), (2, .pointer none), (3, .bool false), (4, .pointer (some ⟨C, 0, none⟩))]).toArray, []⟩ W') : (Code.region 6 cf6Ops true).wp Tryz.prog Q ⟨l.toArray, []⟩ W0 := by
 obtain ⟨v, rfl⟩ := look_fr hlk
 have hq : NtQ cf6Ops Q := ⟨cf6_neat, hQ⟩
 refine T_start (S := SM P w c A C B) (by kernel_rfl) ⟨_, hm, e1, e2⟩ ?_
 refine T_a hq (List.range 6) (fun w h => .cons (ld25 w _ _ h.c8) (.cons (ld25 w _ _ h.ag.k10) Lds.nil)) (by kernel_rfl) ?_
 obtain ⟨ad, hA, hsrc⟩ := ZAt.src hm.ag.at'.g (by have := hm.cr.szG; omega)
 obtain ⟨j1, hI, hI0, hI1, hI2⟩ := info_parts infoIntM
 obtain ⟨cur, hh, h1, h2, h3⟩ := own_heap hm.cr.ring
 have hcl : (c.ring.map zcs).flatten.length = c.ring.length := by rw [zflat_lenC, Nat.mul_one]
 refine T_one 6 (by kernel_rfl) fun _ => O_list (some 67) (by kernel_rfl) ?_
 refine wpList_copy_own (by kernel_rfl) (.tmp 64) (.tmp 66) 23 23 (by kernel_rfl) 3 Tryz.underlying23 (by rw [hI]; simp [hI1]) B.G 0 c.ring.length B.cg ad c.ring.length A.pg (by kernel_rfl) (by rw [← hA]; kernel_rfl) cur 3 hh (c.ring.map zcs).flatten (by rw [hcl]; exact (Nat.min_self _).symm) hsrc (by rw [hcl, h3, Nat.zero_add]; omega) (zflat_oneC _) ?_
 obtain ⟨ho, hx⟩ := own_copied (cs := (c.ring.map zcs).flatten) (n := c.ring.length) hh (by omega) h2 h3 hcl
 have hm : Mk P w _ c A C { x with ring := c.ring } B := ⟨hm.ag.exc hx (fun g hg => hm.ge' g (by simp only [List.mem_cons, List.not_mem_nil, or_false] at hg; subst hg; simp)), hm.cr.mod_g e2.symm ho hx, hm.ge⟩
 refine ⟨⟨_, hm, e1, rfl⟩, _, put_putL .., ?_⟩
 exact T_end 146 [(1, .pointer (some ⟨w.heap.size, 0, none⟩)), (2, .pointer none), (3, .bool false), (4, .pointer (some ⟨C, 0, none⟩))] (by kernel_rfl) (by kernel_rfl) fun _ v => hend v _ hm
noncomputable def cf8Ops : Array Oper := fops Tryz.f42 8
theorem cf8_neat : Region.noSelect cf8Ops = true ∧ neat cf8Ops = true := ⟨by kernel_rfl, by kernel_rfl⟩
theorem cf8 (c : Cw) (A : A7) (P : Nat → Prop) (w : World) (C : Nat) (B : CrB) (x : Cw) (W0 : World) {l : List Value} (Q : Exit → Act → World → Prop) (hQ : ∀ c a d v w, Q (.panic c) (Act.put a d v) w → Q (.panic c) a w) (hm : Mk P w W0.drew c A C x B) (e1 : x.hands.length = c.hands.length) (e2 : x.ring.length = c.ring.length) (h0 : x.queue = []) (hn : c.queue.length ≤ x.hands.length) (hlk : lookL [(1, .pointer (some ⟨w.heap.size, 0, none⟩)), (2, .pointer none), (3, .bool false), (4, .pointer (some ⟨C, 0, none⟩))] l = (146, [.pointer (some ⟨w.heap.size, 0, none⟩), .pointer none, .bool false, .pointer (some ⟨C, 0, none⟩)]))
 (hend : ∀ v W', Mk P w W' c A C { x with queue := c.queue } B → Q .normal ⟨(frL v 146 [(1, .pointer (some ⟨w.heap.size, 0, none⟩)), (2, .pointer none), (3, .bool false), (4, .pointer (some ⟨C, 0, none⟩))]).toArray, []⟩ W') : (Code.region 8 cf8Ops true).wp Tryz.prog Q ⟨l.toArray, []⟩ W0 := by
 obtain ⟨v, rfl⟩ := look_fr hlk
 have hq : NtQ cf8Ops Q := ⟨cf8_neat, hQ⟩
 refine T_start (S := SM P w c A C B) (by kernel_rfl) ⟨_, hm, e1, e2⟩ ?_
 refine T_a hq (List.range 7) (fun w h => .cons (ld67 w _ _ h.c3) (.cons (ld25 w _ _ h.ag.k5) Lds.nil)) (by kernel_rfl) ?_
 refine T_one 6 (by kernel_rfl) fun _ => O_go (fillI_any B.Q B.Qp x.hands.length x.queue _ (.slice A.q c.queue.length A.pq) c.queue P _ hm.cr.q hm.ag.at'.q (fun y hy => ⟨hm.ag.hand.2 y hy, Nat.ne_of_lt (Nat.lt_trans (hm.ag.lt y hy) (hm.ge' B.Q (by simp))), Nat.ne_of_lt (Nat.lt_trans (hm.ag.lt y hy) (hm.ge' B.Qp (by simp)))⟩) (by rw [h0, List.length_nil]; omega)) (by kernel_rfl) ?_
 rintro e W1 ⟨rfl, hr, hx⟩
 rw [h0, List.nil_append] at hr
 have hm : Mk P w W1 c A C { x with queue := c.queue } B := ⟨hm.ag.exc hx (fun g hg => hm.ge' g (by simp only [List.mem_cons, List.not_mem_nil, or_false] at hg; rcases hg with rfl | rfl <;> simp)), hm.cr.mod_q hr hx, hm.ge⟩
 refine ⟨_, rfl, ⟨_, hm, e1, e2⟩, ?_⟩
 exact T_end 146 [(1, .pointer (some ⟨w.heap.size, 0, none⟩)), (2, .pointer none), (3, .bool false), (4, .pointer (some ⟨C, 0, none⟩))] (by kernel_rfl) (by kernel_rfl) fun _ v => hend v _ hm
noncomputable def cf9Ops : Array Oper := fops Tryz.f42 9
theorem cf9_neat : Region.noSelect cf9Ops = true ∧ neat cf9Ops = true := ⟨by kernel_rfl, by kernel_rfl⟩
theorem cf9 (c : Cw) (A : A7) (P : Nat → Prop) (w : World) (C : Nat) (B : CrB) (x : Cw) (W0 : World) {l : List Value} (Q : Exit → Act → World → Prop) (hQ : ∀ c a d v w, Q (.panic c) (Act.put a d v) w → Q (.panic c) a w) (hm : Mk P w W0.drew c A C x B) (e1 : x.hands.length = c.hands.length) (e2 : x.ring.length = c.ring.length) (h0 : x.results = []) (hn : c.results.length ≤ x.hands.length) (hlk : lookL [(1, .pointer (some ⟨w.heap.size, 0, none⟩)), (2, .pointer none), (3, .bool false), (4, .pointer (some ⟨C, 0, none⟩))] l = (146, [.pointer (some ⟨w.heap.size, 0, none⟩), .pointer none, .bool false, .pointer (some ⟨C, 0, none⟩)]))
 (hend : ∀ v W', Mk P w W' c A C { x with results := c.results } B → Q .normal ⟨(frL v 146 [(1, .pointer (some ⟨w.heap.size, 0, none⟩)), (2, .pointer none), (3, .bool false), (4, .pointer (some ⟨C, 0, none⟩))]).toArray, []⟩ W') : (Code.region 9 cf9Ops true).wp Tryz.prog Q ⟨l.toArray, []⟩ W0 := by
 obtain ⟨v, rfl⟩ := look_fr hlk
 have hq : NtQ cf9Ops Q := ⟨cf9_neat, hQ⟩
 refine T_start (S := SM P w c A C B) (by kernel_rfl) ⟨_, hm, e1, e2⟩ ?_
 refine T_a hq (List.range 7) (fun w h => .cons (ld67 w _ _ h.c6) (.cons (ld25 w _ _ h.ag.k8) Lds.nil)) (by kernel_rfl) ?_
 refine T_one 6 (by kernel_rfl) fun _ => O_go (fillI_any B.R B.Rp x.hands.length x.results _ (.slice A.r c.results.length A.pr) c.results P _ hm.cr.r hm.ag.at'.r (fun y hy => ⟨hm.ag.hand.2 y hy, Nat.ne_of_lt (Nat.lt_trans (hm.ag.lt y hy) (hm.ge' B.R (by simp))), Nat.ne_of_lt (Nat.lt_trans (hm.ag.lt y hy) (hm.ge' B.Rp (by simp)))⟩) (by rw [h0, List.length_nil]; omega)) (by kernel_rfl) ?_
 rintro e W1 ⟨rfl, hr, hx⟩
 rw [h0, List.nil_append] at hr
 have hm : Mk P w W1 c A C { x with results := c.results } B := ⟨hm.ag.exc hx (fun g hg => hm.ge' g (by simp only [List.mem_cons, List.not_mem_nil, or_false] at hg; rcases hg with rfl | rfl <;> simp)), hm.cr.mod_r hr hx, hm.ge⟩
 refine ⟨_, rfl, ⟨_, hm, e1, e2⟩, ?_⟩
 exact T_end 146 [(1, .pointer (some ⟨w.heap.size, 0, none⟩)), (2, .pointer none), (3, .bool false), (4, .pointer (some ⟨C, 0, none⟩))] (by kernel_rfl) (by kernel_rfl) fun _ v => hend v _ hm
noncomputable def cf10Ops : Array Oper := fops Tryz.f42 10
theorem cf10_neat : Region.noSelect cf10Ops = true ∧ neat cf10Ops = true := ⟨by kernel_rfl, by kernel_rfl⟩
theorem cf10 (c : Cw) (A : A7) (P : Nat → Prop) (w : World) (C : Nat) (B : CrB) (x : Cw) (W0 : World) {l : List Value} (Q : Exit → Act → World → Prop) (hQ : ∀ c a d v w, Q (.panic c) (Act.put a d v) w → Q (.panic c) a w) (hm : Mk P w W0.drew c A C x B) (e1 : x.hands.length = c.hands.length) (e2 : x.ring.length = c.ring.length) (h0 : x.out = []) (hn : c.out.length ≤ 1) (hlk : lookL [(1, .pointer (some ⟨w.heap.size, 0, none⟩)), (2, .pointer none), (3, .bool false), (4, .pointer (some ⟨C, 0, none⟩))] l = (146, [.pointer (some ⟨w.heap.size, 0, none⟩), .pointer none, .bool false, .pointer (some ⟨C, 0, none⟩)]))
 (hend : ∀ v W', Mk P w W' c A C { x with out := c.out } B → Q .normal ⟨(frL v 146 [(1, .pointer (some ⟨w.heap.size, 0, none⟩)), (2, .pointer none), (3, .bool false), (4, .pointer (some ⟨C, 0, none⟩))]).toArray, []⟩ W') : (Code.region 10 cf10Ops true).wp Tryz.prog Q ⟨l.toArray, []⟩ W0 := by
 obtain ⟨v, rfl⟩ := look_fr hlk
 have hq : NtQ cf10Ops Q := ⟨cf10_neat, hQ⟩
 refine T_start (S := SM P w c A C B) (by kernel_rfl) ⟨_, hm, e1, e2⟩ ?_
 refine T_a hq (List.range 7) (fun w h => .cons (ld67 w _ _ h.c10) (.cons (ld25 w _ _ h.ag.k12) Lds.nil)) (by kernel_rfl) ?_
 refine T_one 6 (by kernel_rfl) fun _ => O_go (fillI_any B.O B.Op 1 x.out _ (.slice A.o c.out.length A.po) c.out P _ hm.cr.o hm.ag.at'.o (fun y hy => ⟨hm.ag.hand.2 y hy, Nat.ne_of_lt (Nat.lt_trans (hm.ag.lt y hy) (hm.ge' B.O (by simp))), Nat.ne_of_lt (Nat.lt_trans (hm.ag.lt y hy) (hm.ge' B.Op (by simp)))⟩) (by rw [h0, List.length_nil]; omega)) (by kernel_rfl) ?_
 rintro e W1 ⟨rfl, hr, hx⟩
 rw [h0, List.nil_append] at hr
 have hm : Mk P w W1 c A C { x with out := c.out } B := ⟨hm.ag.exc hx (fun g hg => hm.ge' g (by simp only [List.mem_cons, List.not_mem_nil, or_false] at hg; rcases hg with rfl | rfl <;> simp)), hm.cr.mod_o hr hx, hm.ge⟩
 refine ⟨_, rfl, ⟨_, hm, e1, e2⟩, ?_⟩
 exact T_end 146 [(1, .pointer (some ⟨w.heap.size, 0, none⟩)), (2, .pointer none), (3, .bool false), (4, .pointer (some ⟨C, 0, none⟩))] (by kernel_rfl) (by kernel_rfl) fun _ v => hend v _ hm
noncomputable def cf11Ops : Array Oper := fops Tryz.f42 11
theorem cf11_neat : Region.noSelect cf11Ops = true ∧ neat cf11Ops = true := ⟨by kernel_rfl, by kernel_rfl⟩
theorem cf11 (c : Cw) (A : A7) (P : Nat → Prop) (w : World) (C : Nat) (B : CrB) (x : Cw) (W0 : World) {l : List Value} (Q : Exit → Act → World → Prop) (hQ : ∀ c a d v w, Q (.panic c) (Act.put a d v) w → Q (.panic c) a w) (hm : Mk P w W0.drew c A C x B) (e1 : x.hands.length = c.hands.length) (e2 : x.ring.length = c.ring.length) (hlk : lookL [(1, .pointer (some ⟨w.heap.size, 0, none⟩)), (2, .pointer none), (3, .bool false), (4, .pointer (some ⟨C, 0, none⟩))] l = (146, [.pointer (some ⟨w.heap.size, 0, none⟩), .pointer none, .bool false, .pointer (some ⟨C, 0, none⟩)]))
 (hend : ∀ v W', Mk P w W' c A C { x with room := c.room } B → Q .normal ⟨(frL v 146 [(1, .pointer (some ⟨w.heap.size, 0, none⟩)), (2, .pointer none), (3, .bool false), (4, .pointer (some ⟨C, 0, none⟩))]).toArray, []⟩ W') : (Code.region 11 cf11Ops true).wp Tryz.prog Q ⟨l.toArray, []⟩ W0 := by
 obtain ⟨v, rfl⟩ := look_fr hlk
 have hq : NtQ cf11Ops Q := ⟨cf11_neat, hQ⟩
 refine T_start (S := SM P w c A C B) (by kernel_rfl) ⟨_, hm, e1, e2⟩ ?_
 refine T_a hq (List.range 9) (fun w h => .cons (ld68 w _ _ h.c13) (.cons (ld3 w _ _ h.ag.k15) Lds.nil)) (by kernel_rfl) ?_
 have hm2 := (⟨hm.ag.other (hm.ge' B.M (by simp)) 2 _, hm.cr.set_m c.room, hm.ge⟩ : Mk P w _ c A C { x with room := c.room } B)
 have hfz : World.frozen? _ ⟨B.M, 2, none⟩ = false := (by obtain ⟨_, _, _, h8⟩ := hm.cr.m; exact h8.frozen 2)
 refine T_one 8 (by kernel_rfl) fun _ => O_store none 3 (.tmp 102) (.tmp 100) ⟨B.M, 2, none⟩ (.int .i64 c.room) _ (by kernel_rfl) (by kernel_rfl) (by kernel_rfl) (st3 _ _ _ _ (hm.cr.m2) (hfz)) ⟨_, hm2, e1, e2⟩ ?_
 replace hm := hm2
 clear hm2
 exact T_end 146 [(1, .pointer (some ⟨w.heap.size, 0, none⟩)), (2, .pointer none), (3, .bool false), (4, .pointer (some ⟨C, 0, none⟩))] (by kernel_rfl) (by kernel_rfl) fun _ v => hend v _ hm
theorem sh_at {P : Nat → Prop} {w W : World} {c : Cw} {A : A7} (h : Ag P w W c A) {bs os : Nat} (hA : A.s = some ⟨bs, os, none⟩) (hl : c.shut.length = 4) (i : Nat) (hi : i < 4) : W.cell? ⟨bs, os + i, none⟩ = some (.int .i64 (shZ c i)) := by
 obtain ⟨b, o, ha, e0⟩ := h.at_s i (by omega)
 rw [hA] at ha
 simp only [Option.some.injEq, Addr.mk.injEq, and_true] at ha
 obtain ⟨rfl, rfl⟩ := ha
 rw [e0]
 unfold shZ
 rw [List.getD_eq_getElem?_getD, List.getElem?_eq_getElem (by omega)]
 rfl
noncomputable def cf12Ops : Array Oper := fops Tryz.f42 12
theorem cf12_neat : Region.noSelect cf12Ops = true ∧ neat cf12Ops = true := ⟨by kernel_rfl, by kernel_rfl⟩
theorem cf12 (c : Cw) (A : A7) (P : Nat → Prop) (w : World) (C : Nat) (B : CrB) (x : Cw) (W0 : World) {l : List Value} (Q : Exit → Act → World → Prop) (hQ : ∀ c a d v w, Q (.panic c) (Act.put a d v) w → Q (.panic c) a w) (hm : Mk P w W0.drew c A C x B) (e1 : x.hands.length = c.hands.length) (e2 : x.ring.length = c.ring.length) (hsx : x.shut = [0, 0, 0, 0]) (bs os : Nat) (hA : A.s = some ⟨bs, os, none⟩) (hl : c.shut.length = 4) (hlk : lookL [(1, .pointer (some ⟨w.heap.size, 0, none⟩)), (2, .pointer none), (3, .bool false), (4, .pointer (some ⟨C, 0, none⟩))] l = (146, [.pointer (some ⟨w.heap.size, 0, none⟩), .pointer none, .bool false, .pointer (some ⟨C, 0, none⟩)]))
 (hend : ∀ v W', Mk P w W' c A C { x with shut := [shZ c 0, shZ c 1, shZ c 2, shZ c 3] } B → Q .normal ⟨(frL v 146 [(1, .pointer (some ⟨w.heap.size, 0, none⟩)), (2, .pointer none), (3, .bool false), (4, .pointer (some ⟨C, 0, none⟩))]).toArray, []⟩ W') : (Code.region 12 cf12Ops true).wp Tryz.prog Q ⟨l.toArray, []⟩ W0 := by
 obtain ⟨v, rfl⟩ := look_fr hlk
 have hq : NtQ cf12Ops Q := ⟨cf12_neat, hQ⟩
 refine T_start (S := SM P w c A C B) (by kernel_rfl) ⟨_, hm, e1, e2⟩ ?_
 refine T_a hq (List.range 44) (fun w h => .cons (ld67 w _ _ h.c3) (.cons (ld67 w _ _ h.c6) (.cons (ld67 w _ _ h.c10) (.cons (ld68 w _ _ h.c14) (.cons (ld25 w _ _ (by have := h.ag.k16; rw [hA, hl] at this; exact this)) (.cons (ld3 w _ _ (sh_at h.ag hA hl 0 (by omega))) (.cons (ld25 w _ _ (by have := h.ag.k16; rw [hA, hl] at this; exact this)) (.cons (ld3 w _ _ (sh_at h.ag hA hl 1 (by omega))) (.cons (ld25 w _ _ (by have := h.ag.k16; rw [hA, hl] at this; exact this)) (.cons (ld3 w _ _ (sh_at h.ag hA hl 2 (by omega))) (.cons (ld25 w _ _ (by have := h.ag.k16; rw [hA, hl] at this; exact this)) (.cons (ld3 w _ _ (sh_at h.ag hA hl 3 (by omega))) Lds.nil)))))))))))) (by kernel_rfl) ?_
 have hfz0 : World.frozen? _ ⟨B.Q, 3, none⟩ = false := (by obtain ⟨_, _, _, h8, _, _⟩ := hm.cr.q.ex; exact h8.frozen 3)
 have hm2 := (⟨hm.ag.other (hm.ge' B.Q (by simp)) 3 _, hm.cr.mod_s0 (l := [shZ c 0, 0, 0, 0]) rfl (by rw [hsx]; rfl) (by rw [hsx]; rfl) (by rw [hsx]; rfl) (hm.cr.q.shut (shZ c 0)) (Exc.set _ _ _ _ (by simp)), hm.ge⟩ : Mk P w _ c A C { x with shut := [shZ c 0, 0, 0, 0] } B)
 refine T_one 34 (by kernel_rfl) fun _ => O_store none 3 (.tmp 136) (.tmp 122) ⟨B.Q, 3, none⟩ (.int .i64 (shZ c 0)) _ (by kernel_rfl) (by kernel_rfl) (by kernel_rfl) (st3 _ _ _ _ (hm.cr.q3) (hfz0)) ⟨_, hm2, e1, e2⟩ ?_
 replace hm := hm2
 clear hm2
 have hsx : ({ x with shut := [shZ c 0, 0, 0, 0] } : Cw).shut = [shZ c 0, 0, 0, 0] := rfl
 refine T_z hq (List.range 44) (by kernel_rfl) ?_
 have hfz1 : World.frozen? _ ⟨B.R, 3, none⟩ = false := (by obtain ⟨_, _, _, h8, _, _⟩ := hm.cr.r.ex; exact h8.frozen 3)
 have hm2 := (⟨hm.ag.other (hm.ge' B.R (by simp)) 3 _, hm.cr.mod_s1 (l := [shZ c 0, shZ c 1, 0, 0]) rfl (by rw [hsx]; rfl) (by rw [hsx]; rfl) (by rw [hsx]; rfl) (hm.cr.r.shut (shZ c 1)) (Exc.set _ _ _ _ (by simp)), hm.ge⟩ : Mk P w _ c A C { x with shut := [shZ c 0, shZ c 1, 0, 0] } B)
 refine T_one 37 (by kernel_rfl) fun _ => O_store none 3 (.tmp 138) (.tmp 126) ⟨B.R, 3, none⟩ (.int .i64 (shZ c 1)) _ (by kernel_rfl) (by kernel_rfl) (by kernel_rfl) (st3 _ _ _ _ (hm.cr.r3) (hfz1)) ⟨_, hm2, e1, e2⟩ ?_
 replace hm := hm2
 clear hm2
 have hsx : ({ x with shut := [shZ c 0, shZ c 1, 0, 0] } : Cw).shut = [shZ c 0, shZ c 1, 0, 0] := rfl
 refine T_z hq (List.range 44) (by kernel_rfl) ?_
 have hfz2 : World.frozen? _ ⟨B.O, 3, none⟩ = false := (by obtain ⟨_, _, _, h8, _, _⟩ := hm.cr.o.ex; exact h8.frozen 3)
 have hm2 := (⟨hm.ag.other (hm.ge' B.O (by simp)) 3 _, hm.cr.mod_s2 (l := [shZ c 0, shZ c 1, shZ c 2, 0]) rfl (by rw [hsx]; rfl) (by rw [hsx]; rfl) (by rw [hsx]; rfl) (hm.cr.o.shut (shZ c 2)) (Exc.set _ _ _ _ (by simp)), hm.ge⟩ : Mk P w _ c A C { x with shut := [shZ c 0, shZ c 1, shZ c 2, 0] } B)
 refine T_one 40 (by kernel_rfl) fun _ => O_store none 3 (.tmp 140) (.tmp 130) ⟨B.O, 3, none⟩ (.int .i64 (shZ c 2)) _ (by kernel_rfl) (by kernel_rfl) (by kernel_rfl) (st3 _ _ _ _ (hm.cr.o3) (hfz2)) ⟨_, hm2, e1, e2⟩ ?_
 replace hm := hm2
 clear hm2
 have hsx : ({ x with shut := [shZ c 0, shZ c 1, shZ c 2, 0] } : Cw).shut = [shZ c 0, shZ c 1, shZ c 2, 0] := rfl
 refine T_z hq (List.range 44) (by kernel_rfl) ?_
 obtain ⟨uT, hT⟩ := hm.cr.t
 have hfz3 : World.frozen? _ ⟨B.T, 3, none⟩ = false := hT.frozen 3
 have hnT := (show ∃ v, World.rowIs (World.setCell _ ⟨B.T, 3, none⟩ (.int .i64 (shZ c 3))) B.T 100 4 (rg4 v 0 0 (([shZ c 0, shZ c 1, shZ c 2, shZ c 3] : List Int).getD 3 0)) from ⟨uT, (hT.set 3 (.int .i64 (shZ c 3))).congr fun i hi => (by rcases (show i = 0 ∨ i = 1 ∨ i = 2 ∨ i = 3 by omega) with rfl | rfl | rfl | rfl <;> rfl)⟩)
 have hm2 := (⟨hm.ag.other (hm.ge' B.T (by simp)) 3 _, hm.cr.mod_s3 (l := [shZ c 0, shZ c 1, shZ c 2, shZ c 3]) rfl (by rw [hsx]; rfl) (by rw [hsx]; rfl) (by rw [hsx]; rfl) hnT (Exc.set _ _ _ _ (by simp)), hm.ge⟩ : Mk P w _ c A C { x with shut := [shZ c 0, shZ c 1, shZ c 2, shZ c 3] } B)
 refine T_one 43 (by kernel_rfl) fun _ => O_store none 3 (.tmp 142) (.tmp 134) ⟨B.T, 3, none⟩ (.int .i64 (shZ c 3)) _ (by kernel_rfl) (by kernel_rfl) (by kernel_rfl) (st3 _ _ _ _ (hm.cr.t3) (hfz3)) ⟨_, hm2, e1, e2⟩ ?_
 replace hm := hm2
 clear hm2
 have hsx : ({ x with shut := [shZ c 0, shZ c 1, shZ c 2, shZ c 3] } : Cw).shut = [shZ c 0, shZ c 1, shZ c 2, shZ c 3] := rfl
 exact T_end 146 [(1, .pointer (some ⟨w.heap.size, 0, none⟩)), (2, .pointer none), (3, .bool false), (4, .pointer (some ⟨C, 0, none⟩))] (by kernel_rfl) (by kernel_rfl) fun _ v => hend v _ hm
end Go.Proofs.YtibgjcejddpldaaGreat
