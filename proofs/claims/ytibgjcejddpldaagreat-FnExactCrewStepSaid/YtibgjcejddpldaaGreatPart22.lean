/- A part. -/
import Derived.Test.YtibgjcejddpldaaGreatPart21
namespace Go.Proofs.YtibgjcejddpldaaGreat
open Go Go.RowKit
set_option maxRecDepth 100000
set_option maxHeartbeats 3200000
noncomputable def wOps : Array Oper := fops Tryz.f44 1
theorem wOps_neat : Region.noSelect wOps = true ∧ neat wOps = true := ⟨by kernel_rfl, by kernel_rfl⟩
def WoEnd (w W' : World) (c : Cw) : Prop := ∃ cs : Array Value, W'.heap[w.heap.size]? = some (.cells cs 26 (0, 0)) ∧ cs.size = 18 ∧ CwVal w W' (.returned (.agg cs)) c
theorem ws_cr {w W : World} {C : Nat} {c : Cw} {B : CrB} {vq vh vr vg vo vt vs : Value} (h : WS w W C c B vq vh vr vg vo vt vs) (hcl : ∀ b, b ∈ CrB.blocks C B → b < w.heap.size) (l : List Value) : CrAt (W.setCells w.heap.size 0 l) C c B :=
 h.cr.carry fun b hb => heap_setCells _ _ _ _ (by have := hcl b hb; omega)
theorem ws_end {w W : World} {C : Nat} {c : Cw} {B : CrB} {xq xh xr xg xo xt xs : Option Addr} {pq ph pr pg po pt ps : Nat} (h : WS w W C c B (.slice xq c.queue.length pq) (.slice xh c.hands.length ph) (.slice xr c.results.length pr) (.slice xg c.ring.length pg) (.slice xo c.out.length po) (.slice xt c.got.length pt) (.slice xs 4 ps)) : WoEnd w (W.setCells w.heap.size 0 [.int .i64 c.jobs, .int .i64 c.hands.length, .int .i64 c.ring.length, .int .i64 c.next, .int .i64 c.reader, .slice xq c.queue.length pq, .slice xh c.hands.length ph, .int .i64 c.closer, .slice xr c.results.length pr, .int .i64 c.keeper, .slice xg c.ring.length pg, .int .i64 c.due, .slice xo c.out.length po, .int .i64 c.user, .slice xt c.got.length pt, .int .i64 c.room, .slice xs 4 ps, .int .i64 c.ops]) c := by
 have hr := row_all (n := 18) [.int .i64 c.jobs, .int .i64 c.hands.length, .int .i64 c.ring.length, .int .i64 c.next, .int .i64 c.reader, .slice xq c.queue.length pq, .slice xh c.hands.length ph, .int .i64 c.closer, .slice xr c.results.length pr, .int .i64 c.keeper, .slice xg c.ring.length pg, .int .i64 c.due, .slice xo c.out.length po, .int .i64 c.user, .slice xt c.got.length pt, .int .i64 c.room, .slice xs 4 ps, .int .i64 c.ops] rfl h.box
 have hv := h.end (W' := W.setCells w.heap.size 0 [.int .i64 c.jobs, .int .i64 c.hands.length, .int .i64 c.ring.length, .int .i64 c.next, .int .i64 c.reader, .slice xq c.queue.length pq, .slice xh c.hands.length ph, .int .i64 c.closer, .slice xr c.results.length pr, .int .i64 c.keeper, .slice xg c.ring.length pg, .int .i64 c.due, .slice xo c.out.length po, .int .i64 c.user, .slice xt c.got.length pt, .int .i64 c.room, .slice xs 4 ps, .int .i64 c.ops]) (fun b hb => heap_setCells _ _ _ _ hb) (size_setCells _ _ _) (below_setCells (Nat.le_refl _) _ _ _ h.bel)
 rw [h.cr.wk, h.cr.wn] at hv
 exact ⟨_, row_cells hr rfl, rfl, hv⟩
def wSt (w : World) (C : Nat) (c : Cw) (B : CrB) (x : List (Nat × Value)) : List (Nat × Value) := x ++ [(0, .pointer (some ⟨C, 0, none⟩)), (2, .pointer (some ⟨w.heap.size, 0, none⟩)), (6, .int .i64 c.jobs), (11, .int .i64 c.hands.length), (16, .int .i64 c.ring.length), (20, .int .i64 c.next), (24, .int .i64 c.reader), (28, .pointer (some ⟨B.Q, 0, none⟩)), (33, .slice (some ⟨B.H, 0, none⟩) c.hands.length c.hands.length), (38, .int .i64 c.closer), (42, .pointer (some ⟨B.R, 0, none⟩)), (47, .int .i64 c.keeper), (51, .slice (some ⟨B.G, 0, none⟩) c.ring.length B.cg), (56, .int .i64 c.due), (60, .pointer (some ⟨B.O, 0, none⟩)), (65, .int .i64 c.user), (69, .slice B.aT c.got.length B.cT), (77, .int .i64 c.room), (84, .int .i64 (c.shut.getD 0 0)), (91, .int .i64 (c.shut.getD 1 0)), (98, .int .i64 (c.shut.getD 2 0)), (105, .int .i64 (c.shut.getD 3 0)), (110, .int .i64 c.ops)]
def wNd (Q : Exit → Act → World → Prop) (w : World) (C : Nat) (c : Cw) (B : CrB) (r : List Nat) (x : List (Nat × Value)) (W : World) : Prop := ∀ v, wpS Tryz.prog wOps Q (fun W => CrAt W C c B) (unl 110 r, frL v 112 (wSt w C c B x)) [] W
theorem world_region (C : Nat) (c : Cw) (B : CrB) (w W0 : World) {l : List Value} (Q : Exit → Act → World → Prop) (hQ : ∀ c a d v w, Q (.panic c) (Act.put a d v) w → Q (.panic c) a w) (h0 : WS w W0.drew C c B (.bool false) (.bool false) (.bool false) (.bool false) (.bool false) (.bool false) (.bool false)) (hcl : ∀ b, b ∈ CrB.blocks C B → b < w.heap.size) (hl : lookL [(0, .pointer (some ⟨C, 0, none⟩)), (2, .pointer (some ⟨w.heap.size, 0, none⟩))] l = (112, [.pointer (some ⟨C, 0, none⟩), .pointer (some ⟨w.heap.size, 0, none⟩)])) (hend : ∀ a' W', Act.eval a' (.tmp 2) = .pointer (some ⟨w.heap.size, 0, none⟩) → a'.defers = [] → WoEnd w W' c → Q .normal a' W') : (Code.region 1 wOps true).wp Tryz.prog Q ⟨l.toArray, []⟩ W0 := by
 obtain ⟨v0, rfl⟩ := look_fr hl
 have hq : NtQ wOps Q := ⟨wOps_neat, hQ⟩
 have n6t : ∀ {xq xh xr xg xo xt : Option Addr} {pq ph pr pg po pt : Nat} {xs : Option Addr} {ps : Nat} {W : World}, WS w W C c B (.slice xq c.queue.length pq) (.slice xh c.hands.length ph) (.slice xr c.results.length pr) (.slice xg c.ring.length pg) (.slice xo c.out.length po) (.slice xt c.got.length pt) (.slice xs 4 ps) → wNd Q w C c B [108, 109] [(29, .slice xq c.queue.length pq), (34, .slice xh c.hands.length ph), (43, .slice xr c.results.length pr), (52, .slice xg c.ring.length pg), (61, .slice xo c.out.length po), (70, .slice xt c.got.length pt), (106, .slice xs 4 ps)] W := by
  intro xq xh xr xg xo xt pq ph pr pg po pt xs ps W hw v
  refine T_z hq [108] (by kernel_rfl) ?_
  refine T_one 109 (by kernel_rfl) fun _ => O_store_mid none 26 (.tmp 2) (.tmp 111) w.heap.size 0 #[.int .i64 c.jobs, .int .i64 c.hands.length, .int .i64 c.ring.length, .int .i64 c.next, .int .i64 c.reader, .slice xq c.queue.length pq, .slice xh c.hands.length ph, .int .i64 c.closer, .slice xr c.results.length pr, .int .i64 c.keeper, .slice xg c.ring.length pg, .int .i64 c.due, .slice xo c.out.length po, .int .i64 c.user, .slice xt c.got.length pt, .int .i64 c.room, .slice xs 4 ps, .int .i64 c.ops] (by kernel_rfl) (by kernel_rfl) (by kernel_rfl) (there_row hw.box) info18 (one18 _ _ _ _ _ _ _ _ _ _ _ ⟨.slice xq c.queue.length pq, .slice xh c.hands.length ph, .slice xr c.results.length pr, .slice xg c.ring.length pg, .slice xo c.out.length po, .slice xt c.got.length pt, .slice xs 4 ps⟩ (by simp [Value.oneCell'])) (ws_cr hw hcl _) ?_
  exact T_end 112 [(2, .pointer (some ⟨w.heap.size, 0, none⟩))] (by kernel_rfl) (by kernel_rfl) fun _ v => hend _ _ (by kernel_rfl) rfl (ws_end hw)
 have n5t : ∀ {xq xh xr xg xo : Option Addr} {pq ph pr pg po : Nat} {xs : Option Addr} {ps : Nat} {W : World}, WS w W C c B (.slice xq c.queue.length pq) (.slice xh c.hands.length ph) (.slice xr c.results.length pr) (.slice xg c.ring.length pg) (.slice xo c.out.length po) (.bool false) (.slice xs 4 ps) → wNd Q w C c B [67, 108, 109] [(29, .slice xq c.queue.length pq), (34, .slice xh c.hands.length ph), (43, .slice xr c.results.length pr), (52, .slice xg c.ring.length pg), (61, .slice xo c.out.length po), (106, .slice xs 4 ps)] W := by
  intro xq xh xr xg xo pq ph pr pg po xs ps W hw v
  exact T_one 67 (by kernel_rfl) fun _ => O_go hw.call_t (by kernel_rfl) fun _ _ ⟨_, _, e, hw⟩ => ⟨_, e, (xU hw).cr, T_fr 110 112 [108, 109] (wSt w C c B [(29, .slice xq c.queue.length pq), (34, .slice xh c.hands.length ph), (43, .slice xr c.results.length pr), (52, .slice xg c.ring.length pg), (61, .slice xo c.out.length po), (70, .slice _ c.got.length _), (106, .slice xs 4 ps)]) (by kernel_rfl) (n6t (xU hw))⟩
 have n4t : ∀ {xq xh xr xg : Option Addr} {pq ph pr pg : Nat} {xs : Option Addr} {ps : Nat} {W : World}, WS w W C c B (.slice xq c.queue.length pq) (.slice xh c.hands.length ph) (.slice xr c.results.length pr) (.slice xg c.ring.length pg) (.bool false) (.bool false) (.slice xs 4 ps) → wNd Q w C c B [58, 67, 108, 109] [(29, .slice xq c.queue.length pq), (34, .slice xh c.hands.length ph), (43, .slice xr c.results.length pr), (52, .slice xg c.ring.length pg), (106, .slice xs 4 ps)] W := by
  intro xq xh xr xg pq ph pr pg xs ps W hw v
  exact T_one 58 (by kernel_rfl) fun _ => O_go hw.call_o (by kernel_rfl) fun _ _ ⟨_, _, e, hw⟩ => ⟨_, e, (xU hw).cr, T_fr 110 112 [67, 108, 109] (wSt w C c B [(29, .slice xq c.queue.length pq), (34, .slice xh c.hands.length ph), (43, .slice xr c.results.length pr), (52, .slice xg c.ring.length pg), (61, .slice _ c.out.length _), (106, .slice xs 4 ps)]) (by kernel_rfl) (n5t (xU hw))⟩
 have n3t : ∀ {xq xh xr : Option Addr} {pq ph pr : Nat} {xs : Option Addr} {ps : Nat} {W : World}, WS w W C c B (.slice xq c.queue.length pq) (.slice xh c.hands.length ph) (.slice xr c.results.length pr) (.bool false) (.bool false) (.bool false) (.slice xs 4 ps) → wNd Q w C c B [49, 58, 67, 108, 109] [(29, .slice xq c.queue.length pq), (34, .slice xh c.hands.length ph), (43, .slice xr c.results.length pr), (106, .slice xs 4 ps)] W := by
  intro xq xh xr pq ph pr xs ps W hw v
  exact T_one 49 (by kernel_rfl) fun _ => O_go hw.call_g (by kernel_rfl) fun _ _ ⟨_, _, e, hw⟩ => ⟨_, e, (xU hw).cr, T_fr 110 112 [58, 67, 108, 109] (wSt w C c B [(29, .slice xq c.queue.length pq), (34, .slice xh c.hands.length ph), (43, .slice xr c.results.length pr), (52, .slice _ c.ring.length _), (106, .slice xs 4 ps)]) (by kernel_rfl) (n4t (xU hw))⟩
 have n2t : ∀ {xq xh : Option Addr} {pq ph : Nat} {xs : Option Addr} {ps : Nat} {W : World}, WS w W C c B (.slice xq c.queue.length pq) (.slice xh c.hands.length ph) (.bool false) (.bool false) (.bool false) (.bool false) (.slice xs 4 ps) → wNd Q w C c B [40, 49, 58, 67, 108, 109] [(29, .slice xq c.queue.length pq), (34, .slice xh c.hands.length ph), (106, .slice xs 4 ps)] W := by
  intro xq xh pq ph xs ps W hw v
  exact T_one 40 (by kernel_rfl) fun _ => O_go hw.call_r (by kernel_rfl) fun _ _ ⟨_, _, e, hw⟩ => ⟨_, e, (xU hw).cr, T_fr 110 112 [49, 58, 67, 108, 109] (wSt w C c B [(29, .slice xq c.queue.length pq), (34, .slice xh c.hands.length ph), (43, .slice _ c.results.length _), (106, .slice xs 4 ps)]) (by kernel_rfl) (n3t (xU hw))⟩
 have n1t : ∀ {xq : Option Addr} {pq : Nat} {xs : Option Addr} {ps : Nat} {W : World}, WS w W C c B (.slice xq c.queue.length pq) (.bool false) (.bool false) (.bool false) (.bool false) (.bool false) (.slice xs 4 ps) → wNd Q w C c B [31, 40, 49, 58, 67, 108, 109] [(29, .slice xq c.queue.length pq), (106, .slice xs 4 ps)] W := by
  intro xq pq xs ps W hw v
  exact T_one 31 (by kernel_rfl) fun _ => O_go hw.call_h (by kernel_rfl) fun _ _ ⟨_, _, e, hw⟩ => ⟨_, e, (xU hw).cr, T_fr 110 112 [40, 49, 58, 67, 108, 109] (wSt w C c B [(29, .slice xq c.queue.length pq), (34, .slice _ c.hands.length _), (106, .slice xs 4 ps)]) (by kernel_rfl) (n2t (xU hw))⟩
 have n0t : ∀ {xs : Option Addr} {ps : Nat} {W : World}, WS w W C c B (.bool false) (.bool false) (.bool false) (.bool false) (.bool false) (.bool false) (.slice xs 4 ps) → wNd Q w C c B [26, 31, 40, 49, 58, 67, 108, 109] [(106, .slice xs 4 ps)] W := by
  intro xs ps W hw v
  exact T_one 26 (by kernel_rfl) fun _ => O_go hw.call_q (by kernel_rfl) fun _ _ ⟨_, _, e, hw⟩ => ⟨_, e, (xU hw).cr, T_fr 110 112 [31, 40, 49, 58, 67, 108, 109] (wSt w C c B [(29, .slice _ c.queue.length _), (106, .slice xs 4 ps)]) (by kernel_rfl) (n1t (xU hw))⟩
 have n6f : ∀ {xq xh xr xg xo xt : Option Addr} {pq ph pr pg po pt : Nat} {W : World}, WS w W C c B (.slice xq c.queue.length pq) (.slice xh c.hands.length ph) (.slice xr c.results.length pr) (.slice xg c.ring.length pg) (.slice xo c.out.length po) (.slice xt c.got.length pt) (.bool false) → wNd Q w C c B [103, 108, 109] [(29, .slice xq c.queue.length pq), (34, .slice xh c.hands.length ph), (43, .slice xr c.results.length pr), (52, .slice xg c.ring.length pg), (61, .slice xo c.out.length po), (70, .slice xt c.got.length pt)] W := by
  intro xq xh xr xg xo xt pq ph pr pg po pt W hw v
  exact T_one 103 (by kernel_rfl) fun _ => O_val (w' := W.alloc (.cells #[.int .i64 (c.shut.getD 0 0), .int .i64 (c.shut.getD 1 0), .int .i64 (c.shut.getD 2 0), .int .i64 (c.shut.getD 3 0)] 3)) (some 106) (.slice (some ⟨W.heap.size, 0, none⟩) 4 4) (by kernel_rfl) (by kernel_rfl) hw.sh.cr (T_fr 110 112 [108, 109] (wSt w C c B [(29, .slice xq c.queue.length pq), (34, .slice xh c.hands.length ph), (43, .slice xr c.results.length pr), (52, .slice xg c.ring.length pg), (61, .slice xo c.out.length po), (70, .slice xt c.got.length pt), (106, .slice (some ⟨W.heap.size, 0, none⟩) 4 4)]) (by kernel_rfl) (n6t hw.sh))
 have n5f : ∀ {xq xh xr xg xo : Option Addr} {pq ph pr pg po : Nat} {W : World}, WS w W C c B (.slice xq c.queue.length pq) (.slice xh c.hands.length ph) (.slice xr c.results.length pr) (.slice xg c.ring.length pg) (.slice xo c.out.length po) (.bool false) (.bool false) → wNd Q w C c B [67, 103, 108, 109] [(29, .slice xq c.queue.length pq), (34, .slice xh c.hands.length ph), (43, .slice xr c.results.length pr), (52, .slice xg c.ring.length pg), (61, .slice xo c.out.length po)] W := by
  intro xq xh xr xg xo pq ph pr pg po W hw v
  exact T_two 67 103 (by kernel_rfl) (fun _ => O_go hw.call_t (by kernel_rfl) fun _ _ ⟨_, _, e, hw⟩ => ⟨_, e, (xU hw).cr, T_fr 110 112 [103, 108, 109] (wSt w C c B [(29, .slice xq c.queue.length pq), (34, .slice xh c.hands.length ph), (43, .slice xr c.results.length pr), (52, .slice xg c.ring.length pg), (61, .slice xo c.out.length po), (70, .slice _ c.got.length _)]) (by kernel_rfl) (n6f (xU hw))⟩) fun _ => O_val (w' := W.alloc (.cells #[.int .i64 (c.shut.getD 0 0), .int .i64 (c.shut.getD 1 0), .int .i64 (c.shut.getD 2 0), .int .i64 (c.shut.getD 3 0)] 3)) (some 106) (.slice (some ⟨W.heap.size, 0, none⟩) 4 4) (by kernel_rfl) (by kernel_rfl) hw.sh.cr (T_fr 110 112 [67, 108, 109] (wSt w C c B [(29, .slice xq c.queue.length pq), (34, .slice xh c.hands.length ph), (43, .slice xr c.results.length pr), (52, .slice xg c.ring.length pg), (61, .slice xo c.out.length po), (106, .slice (some ⟨W.heap.size, 0, none⟩) 4 4)]) (by kernel_rfl) (n5t hw.sh))
 have n4f : ∀ {xq xh xr xg : Option Addr} {pq ph pr pg : Nat} {W : World}, WS w W C c B (.slice xq c.queue.length pq) (.slice xh c.hands.length ph) (.slice xr c.results.length pr) (.slice xg c.ring.length pg) (.bool false) (.bool false) (.bool false) → wNd Q w C c B [58, 67, 103, 108, 109] [(29, .slice xq c.queue.length pq), (34, .slice xh c.hands.length ph), (43, .slice xr c.results.length pr), (52, .slice xg c.ring.length pg)] W := by
  intro xq xh xr xg pq ph pr pg W hw v
  exact T_two 58 103 (by kernel_rfl) (fun _ => O_go hw.call_o (by kernel_rfl) fun _ _ ⟨_, _, e, hw⟩ => ⟨_, e, (xU hw).cr, T_fr 110 112 [67, 103, 108, 109] (wSt w C c B [(29, .slice xq c.queue.length pq), (34, .slice xh c.hands.length ph), (43, .slice xr c.results.length pr), (52, .slice xg c.ring.length pg), (61, .slice _ c.out.length _)]) (by kernel_rfl) (n5f (xU hw))⟩) fun _ => O_val (w' := W.alloc (.cells #[.int .i64 (c.shut.getD 0 0), .int .i64 (c.shut.getD 1 0), .int .i64 (c.shut.getD 2 0), .int .i64 (c.shut.getD 3 0)] 3)) (some 106) (.slice (some ⟨W.heap.size, 0, none⟩) 4 4) (by kernel_rfl) (by kernel_rfl) hw.sh.cr (T_fr 110 112 [58, 67, 108, 109] (wSt w C c B [(29, .slice xq c.queue.length pq), (34, .slice xh c.hands.length ph), (43, .slice xr c.results.length pr), (52, .slice xg c.ring.length pg), (106, .slice (some ⟨W.heap.size, 0, none⟩) 4 4)]) (by kernel_rfl) (n4t hw.sh))
 have n3f : ∀ {xq xh xr : Option Addr} {pq ph pr : Nat} {W : World}, WS w W C c B (.slice xq c.queue.length pq) (.slice xh c.hands.length ph) (.slice xr c.results.length pr) (.bool false) (.bool false) (.bool false) (.bool false) → wNd Q w C c B [49, 58, 67, 103, 108, 109] [(29, .slice xq c.queue.length pq), (34, .slice xh c.hands.length ph), (43, .slice xr c.results.length pr)] W := by
  intro xq xh xr pq ph pr W hw v
  exact T_two 49 103 (by kernel_rfl) (fun _ => O_go hw.call_g (by kernel_rfl) fun _ _ ⟨_, _, e, hw⟩ => ⟨_, e, (xU hw).cr, T_fr 110 112 [58, 67, 103, 108, 109] (wSt w C c B [(29, .slice xq c.queue.length pq), (34, .slice xh c.hands.length ph), (43, .slice xr c.results.length pr), (52, .slice _ c.ring.length _)]) (by kernel_rfl) (n4f (xU hw))⟩) fun _ => O_val (w' := W.alloc (.cells #[.int .i64 (c.shut.getD 0 0), .int .i64 (c.shut.getD 1 0), .int .i64 (c.shut.getD 2 0), .int .i64 (c.shut.getD 3 0)] 3)) (some 106) (.slice (some ⟨W.heap.size, 0, none⟩) 4 4) (by kernel_rfl) (by kernel_rfl) hw.sh.cr (T_fr 110 112 [49, 58, 67, 108, 109] (wSt w C c B [(29, .slice xq c.queue.length pq), (34, .slice xh c.hands.length ph), (43, .slice xr c.results.length pr), (106, .slice (some ⟨W.heap.size, 0, none⟩) 4 4)]) (by kernel_rfl) (n3t hw.sh))
 have n2f : ∀ {xq xh : Option Addr} {pq ph : Nat} {W : World}, WS w W C c B (.slice xq c.queue.length pq) (.slice xh c.hands.length ph) (.bool false) (.bool false) (.bool false) (.bool false) (.bool false) → wNd Q w C c B [40, 49, 58, 67, 103, 108, 109] [(29, .slice xq c.queue.length pq), (34, .slice xh c.hands.length ph)] W := by
  intro xq xh pq ph W hw v
  exact T_two 40 103 (by kernel_rfl) (fun _ => O_go hw.call_r (by kernel_rfl) fun _ _ ⟨_, _, e, hw⟩ => ⟨_, e, (xU hw).cr, T_fr 110 112 [49, 58, 67, 103, 108, 109] (wSt w C c B [(29, .slice xq c.queue.length pq), (34, .slice xh c.hands.length ph), (43, .slice _ c.results.length _)]) (by kernel_rfl) (n3f (xU hw))⟩) fun _ => O_val (w' := W.alloc (.cells #[.int .i64 (c.shut.getD 0 0), .int .i64 (c.shut.getD 1 0), .int .i64 (c.shut.getD 2 0), .int .i64 (c.shut.getD 3 0)] 3)) (some 106) (.slice (some ⟨W.heap.size, 0, none⟩) 4 4) (by kernel_rfl) (by kernel_rfl) hw.sh.cr (T_fr 110 112 [40, 49, 58, 67, 108, 109] (wSt w C c B [(29, .slice xq c.queue.length pq), (34, .slice xh c.hands.length ph), (106, .slice (some ⟨W.heap.size, 0, none⟩) 4 4)]) (by kernel_rfl) (n2t hw.sh))
 have n1f : ∀ {xq : Option Addr} {pq : Nat} {W : World}, WS w W C c B (.slice xq c.queue.length pq) (.bool false) (.bool false) (.bool false) (.bool false) (.bool false) (.bool false) → wNd Q w C c B [31, 40, 49, 58, 67, 103, 108, 109] [(29, .slice xq c.queue.length pq)] W := by
  intro xq pq W hw v
  exact T_two 31 103 (by kernel_rfl) (fun _ => O_go hw.call_h (by kernel_rfl) fun _ _ ⟨_, _, e, hw⟩ => ⟨_, e, (xU hw).cr, T_fr 110 112 [40, 49, 58, 67, 103, 108, 109] (wSt w C c B [(29, .slice xq c.queue.length pq), (34, .slice _ c.hands.length _)]) (by kernel_rfl) (n2f (xU hw))⟩) fun _ => O_val (w' := W.alloc (.cells #[.int .i64 (c.shut.getD 0 0), .int .i64 (c.shut.getD 1 0), .int .i64 (c.shut.getD 2 0), .int .i64 (c.shut.getD 3 0)] 3)) (some 106) (.slice (some ⟨W.heap.size, 0, none⟩) 4 4) (by kernel_rfl) (by kernel_rfl) hw.sh.cr (T_fr 110 112 [31, 40, 49, 58, 67, 108, 109] (wSt w C c B [(29, .slice xq c.queue.length pq), (106, .slice (some ⟨W.heap.size, 0, none⟩) 4 4)]) (by kernel_rfl) (n1t hw.sh))
 have n0f : ∀ {W : World}, WS w W C c B (.bool false) (.bool false) (.bool false) (.bool false) (.bool false) (.bool false) (.bool false) → wNd Q w C c B [26, 31, 40, 49, 58, 67, 103, 108, 109] [] W := by
  intro  W hw v
  exact T_two 26 103 (by kernel_rfl) (fun _ => O_go hw.call_q (by kernel_rfl) fun _ _ ⟨_, _, e, hw⟩ => ⟨_, e, (xU hw).cr, T_fr 110 112 [31, 40, 49, 58, 67, 103, 108, 109] (wSt w C c B [(29, .slice _ c.queue.length _)]) (by kernel_rfl) (n1f (xU hw))⟩) fun _ => O_val (w' := W.alloc (.cells #[.int .i64 (c.shut.getD 0 0), .int .i64 (c.shut.getD 1 0), .int .i64 (c.shut.getD 2 0), .int .i64 (c.shut.getD 3 0)] 3)) (some 106) (.slice (some ⟨W.heap.size, 0, none⟩) 4 4) (by kernel_rfl) (by kernel_rfl) hw.sh.cr (T_fr 110 112 [26, 31, 40, 49, 58, 67, 108, 109] (wSt w C c B [(106, .slice (some ⟨W.heap.size, 0, none⟩) 4 4)]) (by kernel_rfl) (n0t hw.sh))
 refine T_start (S := fun W => CrAt W C c B) (by kernel_rfl) h0.cr ?_
 refine T_a hq (List.range 108) (fun w h => .cons (ld3 w _ _ h.c0) (.cons (ld26 w _ _ h.c4) (.cons (ld25 w _ _ h.c8) (.cons (ld3 w _ _ h.c1) (.cons (ld3 w _ _ h.c2) (.cons (ld67 w _ _ h.c3) (.cons (ld26 w _ _ h.c4) (.cons (ld3 w _ _ h.c5) (.cons (ld67 w _ _ h.c6) (.cons (ld3 w _ _ h.c7) (.cons (ld25 w _ _ h.c8) (.cons (ld3 w _ _ h.c9) (.cons (ld67 w _ _ h.c10) (.cons (ld3 w _ _ h.c11) (.cons (ld25 w _ _ h.c12) (.cons (ld68 w _ _ h.c13) (.cons (ld3 w _ _ h.m2) (.cons (ld67 w _ _ h.c3) (.cons (ld3 w _ _ h.q3) (.cons (ld67 w _ _ h.c6) (.cons (ld3 w _ _ h.r3) (.cons (ld67 w _ _ h.c10) (.cons (ld3 w _ _ h.o3) (.cons (ld68 w _ _ h.c14) (.cons (ld3 w _ _ h.t3) (.cons (ld3 w _ _ h.c15) Lds.nil)))))))))))))))))))))))))) (by kernel_rfl) ?_
 exact T_fr 110 112 [26, 31, 40, 49, 58, 67, 103, 108, 109] (wSt w C c B []) (by kernel_rfl) (n0f h0)

theorem world_any (C : Nat) (c : Cw) (B : CrB) (w : World) (h : CrAt w C c B) : Calls Tryz.prog 44 #[.pointer (some ⟨C, 0, none⟩)] w fun e w' => CwVal w w' e c := by
 have HW0 := xH (show WS w (w.alloc (.cells #[.int .i64 0, .int .i64 0, .int .i64 0, .int .i64 0, .int .i64 0, .slice none 0 0, .slice none 0 0, .int .i64 0, .slice none 0 0, .int .i64 0, .slice none 0 0, .int .i64 0, .slice none 0 0, .int .i64 0, .slice none 0 0, .int .i64 0, .slice none 0 0, .int .i64 0] 26)).drew C c B (.bool false) (.bool false) (.bool false) (.bool false) (.bool false) (.bool false) (.bool false) from WS.below (W := w.alloc (.cells #[.int .i64 0, .int .i64 0, .int .i64 0, .int .i64 0, .int .i64 0, .slice none 0 0, .slice none 0 0, .int .i64 0, .slice none 0 0, .int .i64 0, .slice none 0 0, .int .i64 0, .slice none 0 0, .int .i64 0, .slice none 0 0, .int .i64 0, .slice none 0 0, .int .i64 0] 26)) ⟨[], [], [], [], [], [], [], h.below ((Below.refl _ _).alloc (Nat.le_refl _) _), box18 w noCw nil7 26, Or.inl ⟨rfl, rfl⟩, Or.inl ⟨rfl, rfl⟩, Or.inl ⟨rfl, rfl⟩, Or.inl ⟨rfl, rfl⟩, Or.inl ⟨rfl, rfl⟩, Or.inl ⟨rfl, rfl⟩, Or.inl ⟨rfl, rfl⟩, fun b => by simp, fun b m => (by cases m), fun b m => (by cases m), fun b m => (by cases m), fun b m => (by cases m), fun b m => (by cases m), fun b m => (by cases m), fun b m => (by cases m), (Below.refl _ _).alloc (Nat.le_refl _) _⟩ (Below.refl _ _).drew)
 have HCL := xH h.lt
 clear h
 go_enter Tryz.func44, Tryz.ntmps44
 go_wp2_with fail
 generalize w.alloc (.cells #[.int .i64 0, .int .i64 0, .int .i64 0, .int .i64 0, .int .i64 0, .slice none 0 0, .slice none 0 0, .int .i64 0, .slice none 0 0, .int .i64 0, .slice none 0 0, .int .i64 0, .slice none 0 0, .int .i64 0, .slice none 0 0, .int .i64 0, .slice none 0 0, .int .i64 0] 26) = W0 at HW0 ⊢
 refine wp_swap (c' := Code.region 1 wOps true) (by kernel_rfl) ?_
 refine wp_region_noPanic ?_
 refine world_region C c B w W0 _ (fun _ _ _ _ _ h => h) (xU HW0) (xU HCL) (by kernel_rfl) ?_
 rintro a' W' ha hd ⟨cs, hh, hsz, hv⟩
 refine NoPanic.normal ?_
 obtain ⟨d, hd1, hd2⟩ := rowWorld
 have hres := results_cell_row (P := Tryz.prog) (fn := Tryz.f44) (by rfl) a'.tmps W' w.heap.size 26 cs (0, 0) _ ha hh Tryz.underlying26 (by rfl) (by rw [hsz]; exact info18)
 have HR := xH hres; have HV := xH hv
 clear hres hv
 go_wp2_with fail
 exact bodyPost_ret (xU HR) hd (xU HV)
theorem flat_one {W : World} {v : Value} {n : Nat} {rs : List (List Value)} {F : List Nat} (h : FlatOwn W v n rs F) : v.oneCell' = true := by
 obtain ⟨a, cap, rfl, -⟩ := h
 rfl
theorem cw_one {W : World} {c : Cw} {v : C7} {Fq Fh Fr Fg Fo Ft Fs : List Nat} (h : CwOwn W c v Fq Fh Fr Fg Fo Ft Fs) : ∀ u, u ∈ [v.q, v.h, v.r, v.g, v.o, v.t, v.s] → u.oneCell' = true := by
 intro u hu
 simp only [List.mem_cons, List.not_mem_nil, or_false] at hu
 rcases hu with rfl | rfl | rfl | rfl | rfl | rfl | rfl
 · exact flat_one h.q
 · exact flat_one h.h
 · exact flat_one h.r
 · exact flat_one h.g
 · exact flat_one h.o
 · exact flat_one h.t
 · exact flat_one h.s

theorem use_any (C : Nat) (c : Cw) (B : CrB) (w : World) (h : CrAt w C c B) (h0 : 0 ≤ c.ops) (h1 : c.ops ≤ 10000) : Calls Tryz.prog 80 #[.pointer (some ⟨C, 0, none⟩)] w fun e w' => e = .returned (.tuple #[]) ∧ w' = w.setCell ⟨C, 15, none⟩ (.int .i64 (c.ops + 1)) := by
 have k3 := h.c15
 have f3 := h.row.frozen 15
 clear h
 generalize c.ops = z at *
 have hw : IntKind.i64.wrap (z + 1) = z + 1 := by rw [IntKind.wrap_i64]; omega
 go_enter Tryz.func80, Tryz.ntmps80
 go_wp2_with fail
 go_end0
 exact ⟨rfl, rfl⟩

theorem cw_nil {w : World} : CwOwn w noCw nil7 [] [] [] [] [] [] [] := ⟨FlatOwn.nil _ _, FlatOwn.nil _ _, FlatOwn.nil _ _, FlatOwn.nil _ _, FlatOwn.nil _ _, FlatOwn.nil _ _, FlatOwn.nil _ _⟩
theorem dj_nil : Dj7 [] [] [] [] [] [] [] := by constructor <;> (intro b hb; cases hb)


theorem rd_tab (z : Int) (k : Nat) (h : z = k) (hk : k < 4) : (#[.int .i64 2, .int .i64 12, .int .i64 1, .int .i64 0] : Array Value)[k]? = some (.int .i64 (rdL z)) := by
 subst h
 rcases (show k = 0 ∨ k = 1 ∨ k = 2 ∨ k = 3 by omega) with rfl | rfl | rfl | rfl <;> rfl
theorem wk_tab (z : Int) (k : Nat) (h : z = k) (hk : k < 4) : (#[.int .i64 1, .int .i64 9, .int .i64 8, .int .i64 0] : Array Value)[k]? = some (.int .i64 (wkL z)) := by
 subst h
 rcases (show k = 0 ∨ k = 1 ∨ k = 2 ∨ k = 3 by omega) with rfl | rfl | rfl | rfl <;> rfl
theorem kp_tab (z : Int) (k : Nat) (h : z = k) (hk : k < 6) : (#[.int .i64 2, .int .i64 3, .int .i64 2, .int .i64 4, .int .i64 1, .int .i64 0] : Array Value)[k]? = some (.int .i64 (kpL z)) := by
 subst h
 rcases (show k = 0 ∨ k = 1 ∨ k = 2 ∨ k = 3 ∨ k = 4 ∨ k = 5 by omega) with rfl | rfl | rfl | rfl | rfl | rfl <;> rfl
theorem l51Left_any (c : Cw) (A : A7) (P : Nat → Prop) (w : World) (h : CwAt P w c (A.v c)) (hP : ∀ b, P b → b < w.heap.size) (hF : Form c) : Calls Tryz.prog 46 #[.agg #[.int .i64 c.jobs, .int .i64 c.workers, .int .i64 c.window, .int .i64 c.next, .int .i64 c.reader, .slice A.q c.queue.length A.pq, .slice A.h c.hands.length A.ph, .int .i64 c.closer, .slice A.r c.results.length A.pr, .int .i64 c.keeper, .slice A.g c.ring.length A.pg, .int .i64 c.due, .slice A.o c.out.length A.po, .int .i64 c.user, .slice A.t c.got.length A.pt, .int .i64 c.room, .slice A.s c.shut.length A.ps, .int .i64 c.ops]] w fun e w' => e = .returned (.int .i64 (leftZ c)) ∧ Below w.heap.size w w' := by
 have HS := xH (Ag.start h hP)
 clear h hP
 obtain ⟨s1, s2, s3, s4, s5, s6, s7, s8⟩ := hF.small
 have n1 := hF.next.1; have n2 := hF.next.2; have hout := hF.out
 have r1 := hF.reader.1; have r2 := hF.reader.2; have l1 := hF.closer.1; have l2 := hF.closer.2; have p1 := hF.keeper.1; have p2 := hF.keeper.2; have u1 := hF.user.1; have u2 := hF.user.2
 have HHD := xH hF.handsOk
 have b1 := rdL_bound c.reader; have b2 := kpL_bound c.keeper
 have HBH := xH (sumH_bound c.hands); have HBG := xH (sumG_bound c.ring)
 obtain ⟨rd, hrd⟩ : ∃ k : Nat, c.reader = k := ⟨c.reader.toNat, by omega⟩
 obtain ⟨kp, hkp⟩ : ∃ k : Nat, c.keeper = k := ⟨c.keeper.toNat, by omega⟩
 have trd := rd_tab c.reader rd hrd (by omega); have tkp := kp_tab c.keeper kp hkp (by omega)
 have hs0 := xU HS
 rw [hrd, hkp] at hs0
 have HA := xH (fun o o2 => hs0.on ((((Below.refl _ _).alloc (Nat.le_refl _) o).alloc (by simp) o2).drew))
 have r3 : (rd : Int) ≤ 3 := by omega
 have p3 : (kp : Int) ≤ 5 := by omega
 clear hs0 HS
 obtain ⟨n0, hn0⟩ : ∃ n0, n0 = 11 * (c.jobs - c.next) + 9 * (c.queue.length : Int) + 6 * (c.results.length : Int) + (c.out.length : Int) := ⟨_, rfl⟩
 have e1 : IntKind.i64.wrap (c.jobs - c.next) = c.jobs - c.next := by rw [IntKind.wrap_i64]; omega
 have e2 : IntKind.i64.wrap (11 * (c.jobs - c.next)) = 11 * (c.jobs - c.next) := by rw [IntKind.wrap_i64]; omega
 have e3 : IntKind.i64.wrap (9 * (c.queue.length : Int)) = 9 * (c.queue.length : Int) := by rw [IntKind.wrap_i64]; omega
 have e4 : IntKind.i64.wrap (11 * (c.jobs - c.next) + 9 * (c.queue.length : Int)) = 11 * (c.jobs - c.next) + 9 * (c.queue.length : Int) := by rw [IntKind.wrap_i64]; omega
 have e5 : IntKind.i64.wrap (6 * (c.results.length : Int)) = 6 * (c.results.length : Int) := by rw [IntKind.wrap_i64]; omega
 have e6 : IntKind.i64.wrap (11 * (c.jobs - c.next) + 9 * (c.queue.length : Int) + 6 * (c.results.length : Int)) = 11 * (c.jobs - c.next) + 9 * (c.queue.length : Int) + 6 * (c.results.length : Int) := by rw [IntKind.wrap_i64]; omega
 have e7 : IntKind.i64.wrap (11 * (c.jobs - c.next) + 9 * (c.queue.length : Int) + 6 * (c.results.length : Int) + (c.out.length : Int)) = n0 := by rw [IntKind.wrap_i64]; omega
 have HN0 := xH (show 0 ≤ n0 ∧ n0 ≤ 1000 from by omega)
 have HV := xH (show leftZ c = n0 + rdL c.reader + 1 - c.closer + kpL c.keeper + 1 - c.user + sumH c.hands + sumG c.ring from by unfold leftZ; omega)
 clear hF hn0
 have hn1 := (xU HN0).1; have hn2 := (xU HN0).2
 generalize rdL c.reader = x1 at trd b1 HV
 generalize kpL c.keeper = x2 at tkp b2 HV
 go_enter Tryz.func46, Tryz.ntmps46
 go_wp2_with fail
 clear e1 e2 e3 e4 e5 e6 e7
 obtain ⟨m0, hm0⟩ : ∃ m0, m0 = n0 + x1 + 1 - c.closer + x2 + 1 - c.user := ⟨_, rfl⟩
 have HM := xH hm0
 have HMB := xH (show 0 ≤ m0 ∧ m0 ≤ 2000 from by omega)
 clear hm0
 go_cut [3] from 26 to 46 (fun v wx => v = .int .i64 (n0 + x1 + 1 - c.closer + x2 + 1 - c.user) ∧ Ag P w wx c A)
 case first =>
  go_region
  all_goals
   go_wp2_with fail
   go_meet
   case rel => exact ⟨rfl, xU HA _ _⟩
 case rest =>
  obtain ⟨rfl, hag⟩ := hcut
  rw [← xU HM]
  have HS := xH hag
  clear hag trd tkp HA
  have hm1 := (xU HMB).1; have hm2 := (xU HMB).2
  rw [show n0 + x1 + 1 - c.closer + x2 + 1 - c.user = m0 from (xU HM).symm] at HV
  clear HM hn1 hn2 b1 b2
  go_wp2_with fail
  go_loopw [3, 4] (fun n i wr => ∃ (k : Nat), k ≤ c.hands.length ∧ i = .int .i64 k ∧ n = .int .i64 (m0 + sumH (c.hands.take k)) ∧ Hid (Ag P w wr c A)) (fun _ i _ => c.hands.length - (intOf i).toNat)
  case atStart => exact ⟨0, Nat.zero_le _, rfl, by simp [sumH], HS⟩
  case round =>
   obtain ⟨k, hk, rfl, rfl, HS⟩ := hrel
   have k6 := HS.out.k6
   by_cases hlt : k < c.hands.length
   · obtain ⟨b, o, ha, e0, -⟩ := HS.out.at_h k hlt
     rw [ha] at k6
     have hok := (xU HHD _ (List.getElem_mem hlt)).1
     obtain ⟨st, hst⟩ : ∃ m : Nat, c.hands[k].state = m := ⟨c.hands[k].state.toNat, by omega⟩
     have twk := wk_tab c.hands[k].state st hst (by omega)
     have hsum := sumH_take c.hands k hlt
     have hb1 := sumH_bound (c.hands.take k)
     have hb2 := wkL_bound c.hands[k].state
     have hlen : (c.hands.take k).length = k := by rw [List.length_take]; omega
     rw [hlen] at hb1
     have hst4 : (st : Int) ≤ 3 := by omega
     rw [hst] at e0
     have HSU := xH hsum
     generalize wkL c.hands[k].state = y at twk hb2 HSU
     generalize sumH (c.hands.take k) = z at hb1 HSU
     have hb3 := hb1.1; have hb4 := hb1.2; have hb5 := hb2.1; have hb6 := hb2.2
     have hwr : IntKind.i64.wrap (m0 + z + y) = m0 + z + y := by rw [IntKind.wrap_i64]; omega
     have ea : ∀ ob, (wr.alloc ob).cell? ⟨b, o + k * 2, none⟩ = some (.int .i64 st) := fun ob => (World.cell?_of_block (a := ⟨b, o + k * 2, none⟩) (Below.heap_alloc wr ob _ (World.block_lt_of_cell? wr _ e0))).trans e0
     have k6a := fun ob => (HS.out.on ((Below.refl _ wr).alloc (Nat.le_refl _) ob)).k6
     rw [ha] at k6a
     have HA := xH (fun ob => HS.out.on ((Below.refl _ wr).alloc (Nat.le_refl _) ob))
     clear hsum hb1 hb2 hst hok hlen
     go_wp2_with fail
     go_roundw
     case rel => exact ⟨k + 1, by omega, by go_num, by rw [xU HSU, Int.add_assoc], xU HA _⟩
     case measure => simp [intOf]; omega
   · obtain rfl : k = c.hands.length := by omega
     rw [List.take_length]
     have hb1 := (xU HBH).1; have hb2 := (xU HBH).2
     obtain ⟨m1, hm1'⟩ : ∃ m1, m1 = m0 + sumH c.hands := ⟨_, rfl⟩
     rw [← hm1']
     have HV2 := xH (show leftZ c = m1 + sumG c.ring from by rw [xU HV, hm1'])
     have hm3 : 0 ≤ m1 := by omega
     have hm4 : m1 ≤ 3000 := by omega
     clear hm1' hb1 hb2 HV hm1 hm2
     go_wp2_with fail
     go_loopw [3, 5] (fun n i wr => ∃ (k : Nat), k ≤ c.ring.length ∧ i = .int .i64 k ∧ n = .int .i64 (m1 + sumG (c.ring.take k)) ∧ Hid (Ag P w wr c A)) (fun _ i _ => c.ring.length - (intOf i).toNat)
     case atStart => exact ⟨0, Nat.zero_le _, rfl, by simp [sumG], HS⟩
     case round =>
      obtain ⟨k, hk, rfl, rfl, HS⟩ := hrel
      have k10 := HS.out.k10
      by_cases hlt : k < c.ring.length
      · obtain ⟨b, o, ha, e0⟩ := HS.out.at_g k hlt
        rw [ha] at k10
        have hsum := sumG_take c.ring k hlt
        have hb1 := sumG_bound (c.ring.take k)
        have hlen : (c.ring.take k).length = k := by rw [List.length_take]; omega
        rw [hlen] at hb1
        have HSU := xH hsum
        generalize c.ring[k] = y at e0 HSU
        generalize sumG (c.ring.take k) = z at hb1 HSU
        have hb3 := hb1.1; have hb4 := hb1.2
        have hwr : IntKind.i64.wrap (m1 + z + 4) = m1 + z + 4 := by rw [IntKind.wrap_i64]; omega
        clear hsum hb1 hlen
        by_cases hy : 0 ≤ y
        · have HE := xH (show (if 0 ≤ y then (4 : Int) else 0) = 4 from if_pos hy)
          have hyd : decide (0 ≤ y) = true := decide_eq_true hy
          clear hy
          go_wp2_with fail
          go_roundw
          case rel => exact ⟨k + 1, by omega, by go_num, by rw [xU HSU, xU HE, Int.add_assoc], HS⟩
          case measure => simp [intOf]; omega
        · have HE := xH (show (if 0 ≤ y then (4 : Int) else 0) = 0 from if_neg hy)
          have hyd : decide (0 ≤ y) = false := decide_eq_false hy
          clear hy
          go_wp2_with fail
          go_roundw
          case rel => exact ⟨k + 1, by omega, by go_num, by rw [xU HSU, xU HE, Int.add_zero], HS⟩
          case measure => simp [intOf]; omega
      · obtain rfl : k = c.ring.length := by omega
        rw [List.take_length]
        go_wp2_with fail
        go_ret
        exact ⟨by rw [xU HV2]; rfl, HS.out.bel⟩
end Go.Proofs.YtibgjcejddpldaaGreat
