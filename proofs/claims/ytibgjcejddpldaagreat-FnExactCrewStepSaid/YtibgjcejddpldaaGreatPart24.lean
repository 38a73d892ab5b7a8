/- A part. -/
import Derived.Test.YtibgjcejddpldaaGreatPart23
namespace Go.Proofs.YtibgjcejddpldaaGreat
open Go Go.RowKit
set_option maxRecDepth 100000
set_option maxHeartbeats 12800000
structure Cp (P : Nat → Prop) (w W : World) (c : Cw) (A : A7) (xs : List Value) (L : List (Value × Nat × List (List Value) × List Nat)) : Prop where
 box : W.rowIs w.heap.size 26 18 (r18 xs)
 res : W.rowIs (w.heap.size + 1) 26 18 (r18 [.int .i64 0, .int .i64 0, .int .i64 0, .int .i64 0, .int .i64 0, .slice none 0 0, .slice none 0 0, .int .i64 0, .slice none 0 0, .int .i64 0, .slice none 0 0, .int .i64 0, .slice none 0 0, .int .i64 0, .slice none 0 0, .int .i64 0, .slice none 0 0, .int .i64 0])
 len : xs.length = 18
 at' : CwAt P W c (A.v c)
 lt : ∀ b, P b → b < w.heap.size
 bel : Below w.heap.size w W
 own : ∀ p, p ∈ L → FlatOwn W p.1 p.2.1 p.2.2.1 p.2.2.2 ∧ ∀ b, b ∈ p.2.2.2 → w.heap.size + 2 ≤ b ∧ b < W.heap.size
 dj : L.Pairwise (fun p q => ∀ b, b ∈ p.2.2.2 → b ∉ q.2.2.2)
theorem Cp.sz {P : Nat → Prop} {w W : World} {c : Cw} {A : A7} {xs : List Value} {L : List (Value × Nat × List (List Value) × List Nat)} (h : Cp P w W c A xs L) : w.heap.size + 2 ≤ W.heap.size := h.res.lt
theorem Cp.on {P : Nat → Prop} {w W W' : World} {c : Cw} {A : A7} {xs : List Value} {L : List (Value × Nat × List (List Value) × List Nat)} (h : Cp P w W c A xs L) (hb : Below W.heap.size W W') : Cp P w W' c A xs L :=
 ⟨h.box.of_block (hb.block _ h.box.lt), h.res.of_block (hb.block _ h.res.lt), h.len, h.at'.carry (fun b hp => hb.block b (Nat.lt_of_lt_of_le (h.lt b hp) h.bel.size)) (fun _ h => h), h.lt, h.bel.trans (hb.mono h.bel.size), fun p hp => ⟨FlatOwn.carry (h.own p hp).1 (fun b hm => hb.block _ ((h.own p hp).2 b hm).2), fun b hm => ⟨((h.own p hp).2 b hm).1, Nat.lt_of_lt_of_le ((h.own p hp).2 b hm).2 hb.size⟩⟩, h.dj⟩
theorem Cp.put {P : Nat → Prop} {w W : World} {c : Cw} {A : A7} {xs : List Value} {L : List (Value × Nat × List (List Value) × List Nat)} (h : Cp P w W c A xs L) (i : Nat) (hi : i < 18) (v : Value) : Cp P w (W.setCell ⟨w.heap.size, i, none⟩ v) c A (xs.set i v) L :=
 ⟨row_put h.box i (by rw [h.len]; exact hi) v, h.res.setOther (a := ⟨w.heap.size, i, none⟩) (by show w.heap.size + 1 ≠ w.heap.size; omega) v, by rw [List.length_set]; exact h.len, h.at'.carry (fun b hp => Below.heap_setCell _ _ _ _ (by have := h.lt b hp; show b ≠ w.heap.size; omega)) (fun _ h => h), h.lt, h.bel.setCell (Nat.le_refl _) v, fun p hp => ⟨FlatOwn.carry (h.own p hp).1 (fun b hm => Below.heap_setCell _ _ _ _ (by have := ((h.own p hp).2 b hm).1; show b ≠ w.heap.size; omega)), fun b hm => by rw [World.size_setCell]; exact (h.own p hp).2 b hm⟩, h.dj⟩
theorem Cp.add {P : Nat → Prop} {w W W' : World} {c : Cw} {A : A7} {xs : List Value} {L : List (Value × Nat × List (List Value) × List Nat)} (h : Cp P w W c A xs L) {o : Obj} {e : TypeId} {n g m cap : Nat} {rs : List (List Value)} (ho : W'.ownsRow W.heap.size e n (.slice (some ⟨g, 0, none⟩) m cap) m rs.flatten) (hm : m = rs.length) (hn : ∀ r, r ∈ rs → r.length = n) (hg : (W.alloc o).grownBy W' (some W.heap.size)) : ∃ F, Cp P w W' c A xs (L ++ [(.slice (some ⟨g, 0, none⟩) m cap, n, rs, F)]) := by
 have hb : Below W.heap.size W W' := ((Below.refl _ _).alloc (Nat.le_refl _) o).grown hg (by simp) (fun k e => by simp only [Option.some.injEq] at e; omega)
 have h' := h.on hb
 subst hm
 obtain ⟨F, h1, -, h3, -⟩ := FlatOwn.of_row ho hn
 refine ⟨F, h'.box, h'.res, h'.len, h'.at', h'.lt, h'.bel, fun p hp => ?_, ?_⟩
 · rcases List.mem_append.1 hp with hp | hp
   · exact h'.own p hp
   · simp only [List.mem_singleton] at hp
     subst hp
     exact ⟨h1, fun b hm => ⟨Nat.le_trans h.sz (h3 b hm).1, (h3 b hm).2⟩⟩
 · rw [List.pairwise_append]
   refine ⟨h.dj, by simp, fun p hp q hq b hm hm2 => ?_⟩
   simp only [List.mem_singleton] at hq
   subst hq
   have k1 := ((h.own p hp).2 b hm).2
   have k2 := (h3 b hm2).1
   omega
theorem Cp.start {c : Cw} {A : A7} {P : Nat → Prop} {w : World} (h : CwAt P w c (A.v c)) (hP : ∀ b, P b → b < w.heap.size) : Cp P w ((w.alloc (.cells #[.int .i64 c.jobs, .int .i64 c.workers, .int .i64 c.window, .int .i64 c.next, .int .i64 c.reader, .slice A.q c.queue.length A.pq, .slice A.h c.hands.length A.ph, .int .i64 c.closer, .slice A.r c.results.length A.pr, .int .i64 c.keeper, .slice A.g c.ring.length A.pg, .int .i64 c.due, .slice A.o c.out.length A.po, .int .i64 c.user, .slice A.t c.got.length A.pt, .int .i64 c.room, .slice A.s c.shut.length A.ps, .int .i64 c.ops] 26)).alloc (.cells #[.int .i64 0, .int .i64 0, .int .i64 0, .int .i64 0, .int .i64 0, .slice none 0 0, .slice none 0 0, .int .i64 0, .slice none 0 0, .int .i64 0, .slice none 0 0, .int .i64 0, .slice none 0 0, .int .i64 0, .slice none 0 0, .int .i64 0, .slice none 0 0, .int .i64 0] 26)) c A [.int .i64 c.jobs, .int .i64 c.workers, .int .i64 c.window, .int .i64 c.next, .int .i64 c.reader, .slice A.q c.queue.length A.pq, .slice A.h c.hands.length A.ph, .int .i64 c.closer, .slice A.r c.results.length A.pr, .int .i64 c.keeper, .slice A.g c.ring.length A.pg, .int .i64 c.due, .slice A.o c.out.length A.po, .int .i64 c.user, .slice A.t c.got.length A.pt, .int .i64 c.room, .slice A.s c.shut.length A.ps, .int .i64 c.ops] [] := by
 have hb : Below w.heap.size w ((w.alloc (.cells #[.int .i64 c.jobs, .int .i64 c.workers, .int .i64 c.window, .int .i64 c.next, .int .i64 c.reader, .slice A.q c.queue.length A.pq, .slice A.h c.hands.length A.ph, .int .i64 c.closer, .slice A.r c.results.length A.pr, .int .i64 c.keeper, .slice A.g c.ring.length A.pg, .int .i64 c.due, .slice A.o c.out.length A.po, .int .i64 c.user, .slice A.t c.got.length A.pt, .int .i64 c.room, .slice A.s c.shut.length A.ps, .int .i64 c.ops] 26)).alloc (.cells #[.int .i64 0, .int .i64 0, .int .i64 0, .int .i64 0, .int .i64 0, .slice none 0 0, .slice none 0 0, .int .i64 0, .slice none 0 0, .int .i64 0, .slice none 0 0, .int .i64 0, .slice none 0 0, .int .i64 0, .slice none 0 0, .int .i64 0, .slice none 0 0, .int .i64 0] 26)) := ((Below.refl _ _).alloc (Nat.le_refl _) _).alloc (by simp) _
 have hr := box18 (w.alloc (.cells #[.int .i64 c.jobs, .int .i64 c.workers, .int .i64 c.window, .int .i64 c.next, .int .i64 c.reader, .slice A.q c.queue.length A.pq, .slice A.h c.hands.length A.ph, .int .i64 c.closer, .slice A.r c.results.length A.pr, .int .i64 c.keeper, .slice A.g c.ring.length A.pg, .int .i64 c.due, .slice A.o c.out.length A.po, .int .i64 c.user, .slice A.t c.got.length A.pt, .int .i64 c.room, .slice A.s c.shut.length A.ps, .int .i64 c.ops] 26)) noCw nil7 26
 simp only [World.size_alloc] at hr
 exact ⟨(box18 w c (A.v c) 26).alloc _, hr, rfl, h.carry (fun b hp => hb.block b (hP b hp)) (fun _ h => h), hP, hb, fun p hp => (by cases hp), List.Pairwise.nil⟩
theorem zrow1 (zs : List Int) : ∀ r, r ∈ zs.map zcs → r.length = 1 := fun r hr => by obtain ⟨f, -, rfl⟩ := List.mem_map.1 hr; rfl
theorem hrow2 (zs : List Hd) : ∀ r, r ∈ zs.map Hd.cs → r.length = 2 := fun r hr => by obtain ⟨f, -, rfl⟩ := List.mem_map.1 hr; rfl
theorem emp_own (W : World) (t n : Nat) : (W.alloc (.cells #[] t)).ownsRow W.heap.size t n (.slice (some ⟨W.heap.size, 0, none⟩) 0 0) 0 [] := ⟨by simp, Or.inr ⟨W.heap.size, 0, #[], rfl, Nat.le_refl _, World.heap_alloc_newC _ _, Nat.le_refl _, by unfold maxLen; omega, by simp, by simp⟩⟩
theorem l52Copy_any (c : Cw) (A : A7) (P : Nat → Prop) (w : World) (h : CwAt P w c (A.v c)) (hP : ∀ b, P b → b < w.heap.size) (hwt : wC c ≤ 1048576) : Calls Tryz.prog 38 #[.agg #[.int .i64 c.jobs, .int .i64 c.workers, .int .i64 c.window, .int .i64 c.next, .int .i64 c.reader, .slice A.q c.queue.length A.pq, .slice A.h c.hands.length A.ph, .int .i64 c.closer, .slice A.r c.results.length A.pr, .int .i64 c.keeper, .slice A.g c.ring.length A.pg, .int .i64 c.due, .slice A.o c.out.length A.po, .int .i64 c.user, .slice A.t c.got.length A.pt, .int .i64 c.room, .slice A.s c.shut.length A.ps, .int .i64 c.ops]] w fun e w' => CwVal w w' e c := by
 have HT0 := xH (Cp.start h hP)
 obtain ⟨dd, hdu, hdr⟩ := rowWorld
 obtain ⟨j1, hI, hI0, hI1, hI2⟩ := info_parts infoIntM
 have HI := xH hI; have HI0 := xH hI0; have HI1 := xH hI1; have HI2 := xH hI2
 clear hI hI0 hI1 hI2
 obtain ⟨j3, hJ, hW0, hW1, hW2⟩ := info_parts infoHandM
 have HJ := xH hJ; have HJ0 := xH hW0; have HJ1 := xH hW1; have HJ2 := xH hW2
 clear hJ hW0 hW1 hW2
 unfold wC at hwt
 clear h hP
 go_enter Tryz.func38, Tryz.ntmps38
 go_upto_region 1 with fail
 generalize (w.alloc (.cells #[.int .i64 c.jobs, .int .i64 c.workers, .int .i64 c.window, .int .i64 c.next, .int .i64 c.reader, .slice A.q c.queue.length A.pq, .slice A.h c.hands.length A.ph, .int .i64 c.closer, .slice A.r c.results.length A.pr, .int .i64 c.keeper, .slice A.g c.ring.length A.pg, .int .i64 c.due, .slice A.o c.out.length A.po, .int .i64 c.user, .slice A.t c.got.length A.pt, .int .i64 c.room, .slice A.s c.shut.length A.ps, .int .i64 c.ops] 26)).alloc (.cells #[.int .i64 0, .int .i64 0, .int .i64 0, .int .i64 0, .int .i64 0, .slice none 0 0, .slice none 0 0, .int .i64 0, .slice none 0 0, .int .i64 0, .slice none 0 0, .int .i64 0, .slice none 0 0, .int .i64 0, .slice none 0 0, .int .i64 0, .slice none 0 0, .int .i64 0] 26) = W0 at HT0 ⊢
 have hta := (xU HT0).on ((Below.refl W0.heap.size W0).alloc (Nat.le_refl _) (.cells #[] 3))
 have ka : (W0.alloc (.cells #[] 3)).cell? ⟨w.heap.size, 5, none⟩ = some (.slice A.q c.queue.length A.pq) := hta.box.cell (i := 5) (by omega)
 have HSRC := xH (show ZAt P _ (.slice A.q c.queue.length A.pq) c.queue from hta.at'.q).src
 clear hta
 go_upto_region 2 with (at_builtin; refine append_copyD _ rfl _ _ 23 rfl W0.heap.size 3 j1 (.int .i64 0) 1 8 Tryz.underlying23 (xU HI) (xU HI0) (xU HI1) (xU HI2) rfl (by decide) W0.heap.size rfl (emp_own W0 3 1) A.q c.queue.length A.pq (c.queue.map zcs).flatten rfl (zflat_lenC _) (xU HSRC) (zflat_oneC _) (by unfold maxLen; omega) (by omega) (by simp) ?_; intro ga0 ca0 y0 HO HG; obtain ⟨F0, ht⟩ := (xU HT0).add (rs := c.queue.map zcs) (xU HO) (by rw [List.length_map]) (zrow1 _) (xU HG); have kb : y0.cell? ⟨w.heap.size, 5, none⟩ = some (.slice A.q c.queue.length A.pq) := ht.box.cell (i := 5) (by omega); have kf := ht.box.frozen 5; have HT1 := xH (show Cp P w (y0.setCell ⟨w.heap.size, 5, none⟩ (.slice (some ⟨ga0, 0, none⟩) c.queue.length ca0)) c A [.int .i64 c.jobs, .int .i64 c.workers, .int .i64 c.window, .int .i64 c.next, .int .i64 c.reader, .slice (some ⟨ga0, 0, none⟩) c.queue.length ca0, .slice A.h c.hands.length A.ph, .int .i64 c.closer, .slice A.r c.results.length A.pr, .int .i64 c.keeper, .slice A.g c.ring.length A.pg, .int .i64 c.due, .slice A.o c.out.length A.po, .int .i64 c.user, .slice A.t c.got.length A.pt, .int .i64 c.room, .slice A.s c.shut.length A.ps, .int .i64 c.ops] [(.slice (some ⟨ga0, 0, none⟩) c.queue.length ca0, 1, c.queue.map zcs, F0)] from ht.put 5 (by omega) (.slice (some ⟨ga0, 0, none⟩) c.queue.length ca0)); clear ht HO HG)
 generalize y0.setCell ⟨w.heap.size, 5, none⟩ (.slice (some ⟨ga0, 0, none⟩) c.queue.length ca0) = W1 at HT1 ⊢
 clear ka kb kf HSRC HT0
 have hta := (xU HT1).on ((Below.refl W1.heap.size W1).alloc (Nat.le_refl _) (.cells #[] 73))
 have ka : (W1.alloc (.cells #[] 73)).cell? ⟨w.heap.size, 6, none⟩ = some (.slice A.h c.hands.length A.ph) := hta.box.cell (i := 6) (by omega)
 have HSRC := xH (show HAt P _ (.slice A.h c.hands.length A.ph) c.hands from hta.at'.h).src
 clear hta
 go_upto_region 3 with (at_builtin; refine append_copyD _ rfl _ _ 24 rfl W1.heap.size 73 j3 (.agg #[.int .i64 0, .int .i64 0]) 2 16 Tryz.underlying24 (xU HJ) (xU HJ0) (xU HJ1) (xU HJ2) rfl (by decide) W1.heap.size rfl (emp_own W1 73 2) A.h c.hands.length A.ph (c.hands.map Hd.cs).flatten rfl (hflat_len _) (xU HSRC) (hflat_one _) (by unfold maxLen; omega) (by omega) (by simp) ?_; intro ga1 ca1 y1 HO HG; obtain ⟨F1, ht⟩ := (xU HT1).add (rs := c.hands.map Hd.cs) (xU HO) (by rw [List.length_map]) (hrow2 _) (xU HG); have kb : y1.cell? ⟨w.heap.size, 6, none⟩ = some (.slice A.h c.hands.length A.ph) := ht.box.cell (i := 6) (by omega); have kf := ht.box.frozen 6; have HT2 := xH (show Cp P w (y1.setCell ⟨w.heap.size, 6, none⟩ (.slice (some ⟨ga1, 0, none⟩) c.hands.length ca1)) c A [.int .i64 c.jobs, .int .i64 c.workers, .int .i64 c.window, .int .i64 c.next, .int .i64 c.reader, .slice (some ⟨ga0, 0, none⟩) c.queue.length ca0, .slice (some ⟨ga1, 0, none⟩) c.hands.length ca1, .int .i64 c.closer, .slice A.r c.results.length A.pr, .int .i64 c.keeper, .slice A.g c.ring.length A.pg, .int .i64 c.due, .slice A.o c.out.length A.po, .int .i64 c.user, .slice A.t c.got.length A.pt, .int .i64 c.room, .slice A.s c.shut.length A.ps, .int .i64 c.ops] [(.slice (some ⟨ga0, 0, none⟩) c.queue.length ca0, 1, c.queue.map zcs, F0), (.slice (some ⟨ga1, 0, none⟩) c.hands.length ca1, 2, c.hands.map Hd.cs, F1)] from ht.put 6 (by omega) (.slice (some ⟨ga1, 0, none⟩) c.hands.length ca1)); clear ht HO HG)
 generalize y1.setCell ⟨w.heap.size, 6, none⟩ (.slice (some ⟨ga1, 0, none⟩) c.hands.length ca1) = W2 at HT2 ⊢
 clear ka kb kf HSRC HT1
 have hta := (xU HT2).on ((Below.refl W2.heap.size W2).alloc (Nat.le_refl _) (.cells #[] 3))
 have ka : (W2.alloc (.cells #[] 3)).cell? ⟨w.heap.size, 8, none⟩ = some (.slice A.r c.results.length A.pr) := hta.box.cell (i := 8) (by omega)
 have HSRC := xH (show ZAt P _ (.slice A.r c.results.length A.pr) c.results from hta.at'.r).src
 clear hta
 go_upto_region 4 with (at_builtin; refine append_copyD _ rfl _ _ 23 rfl W2.heap.size 3 j1 (.int .i64 0) 1 8 Tryz.underlying23 (xU HI) (xU HI0) (xU HI1) (xU HI2) rfl (by decide) W2.heap.size rfl (emp_own W2 3 1) A.r c.results.length A.pr (c.results.map zcs).flatten rfl (zflat_lenC _) (xU HSRC) (zflat_oneC _) (by unfold maxLen; omega) (by omega) (by simp) ?_; intro ga2 ca2 y2 HO HG; obtain ⟨F2, ht⟩ := (xU HT2).add (rs := c.results.map zcs) (xU HO) (by rw [List.length_map]) (zrow1 _) (xU HG); have kb : y2.cell? ⟨w.heap.size, 8, none⟩ = some (.slice A.r c.results.length A.pr) := ht.box.cell (i := 8) (by omega); have kf := ht.box.frozen 8; have HT3 := xH (show Cp P w (y2.setCell ⟨w.heap.size, 8, none⟩ (.slice (some ⟨ga2, 0, none⟩) c.results.length ca2)) c A [.int .i64 c.jobs, .int .i64 c.workers, .int .i64 c.window, .int .i64 c.next, .int .i64 c.reader, .slice (some ⟨ga0, 0, none⟩) c.queue.length ca0, .slice (some ⟨ga1, 0, none⟩) c.hands.length ca1, .int .i64 c.closer, .slice (some ⟨ga2, 0, none⟩) c.results.length ca2, .int .i64 c.keeper, .slice A.g c.ring.length A.pg, .int .i64 c.due, .slice A.o c.out.length A.po, .int .i64 c.user, .slice A.t c.got.length A.pt, .int .i64 c.room, .slice A.s c.shut.length A.ps, .int .i64 c.ops] [(.slice (some ⟨ga0, 0, none⟩) c.queue.length ca0, 1, c.queue.map zcs, F0), (.slice (some ⟨ga1, 0, none⟩) c.hands.length ca1, 2, c.hands.map Hd.cs, F1), (.slice (some ⟨ga2, 0, none⟩) c.results.length ca2, 1, c.results.map zcs, F2)] from ht.put 8 (by omega) (.slice (some ⟨ga2, 0, none⟩) c.results.length ca2)); clear ht HO HG)
 generalize y2.setCell ⟨w.heap.size, 8, none⟩ (.slice (some ⟨ga2, 0, none⟩) c.results.length ca2) = W3 at HT3 ⊢
 clear ka kb kf HSRC HT2
 have hta := (xU HT3).on ((Below.refl W3.heap.size W3).alloc (Nat.le_refl _) (.cells #[] 3))
 have ka : (W3.alloc (.cells #[] 3)).cell? ⟨w.heap.size, 10, none⟩ = some (.slice A.g c.ring.length A.pg) := hta.box.cell (i := 10) (by omega)
 have HSRC := xH (show ZAt P _ (.slice A.g c.ring.length A.pg) c.ring from hta.at'.g).src
 clear hta
 go_upto_region 5 with (at_builtin; refine append_copyD _ rfl _ _ 23 rfl W3.heap.size 3 j1 (.int .i64 0) 1 8 Tryz.underlying23 (xU HI) (xU HI0) (xU HI1) (xU HI2) rfl (by decide) W3.heap.size rfl (emp_own W3 3 1) A.g c.ring.length A.pg (c.ring.map zcs).flatten rfl (zflat_lenC _) (xU HSRC) (zflat_oneC _) (by unfold maxLen; omega) (by omega) (by simp) ?_; intro ga3 ca3 y3 HO HG; obtain ⟨F3, ht⟩ := (xU HT3).add (rs := c.ring.map zcs) (xU HO) (by rw [List.length_map]) (zrow1 _) (xU HG); have kb : y3.cell? ⟨w.heap.size, 10, none⟩ = some (.slice A.g c.ring.length A.pg) := ht.box.cell (i := 10) (by omega); have kf := ht.box.frozen 10; have HT4 := xH (show Cp P w (y3.setCell ⟨w.heap.size, 10, none⟩ (.slice (some ⟨ga3, 0, none⟩) c.ring.length ca3)) c A [.int .i64 c.jobs, .int .i64 c.workers, .int .i64 c.window, .int .i64 c.next, .int .i64 c.reader, .slice (some ⟨ga0, 0, none⟩) c.queue.length ca0, .slice (some ⟨ga1, 0, none⟩) c.hands.length ca1, .int .i64 c.closer, .slice (some ⟨ga2, 0, none⟩) c.results.length ca2, .int .i64 c.keeper, .slice (some ⟨ga3, 0, none⟩) c.ring.length ca3, .int .i64 c.due, .slice A.o c.out.length A.po, .int .i64 c.user, .slice A.t c.got.length A.pt, .int .i64 c.room, .slice A.s c.shut.length A.ps, .int .i64 c.ops] [(.slice (some ⟨ga0, 0, none⟩) c.queue.length ca0, 1, c.queue.map zcs, F0), (.slice (some ⟨ga1, 0, none⟩) c.hands.length ca1, 2, c.hands.map Hd.cs, F1), (.slice (some ⟨ga2, 0, none⟩) c.results.length ca2, 1, c.results.map zcs, F2), (.slice (some ⟨ga3, 0, none⟩) c.ring.length ca3, 1, c.ring.map zcs, F3)] from ht.put 10 (by omega) (.slice (some ⟨ga3, 0, none⟩) c.ring.length ca3)); clear ht HO HG)
 generalize y3.setCell ⟨w.heap.size, 10, none⟩ (.slice (some ⟨ga3, 0, none⟩) c.ring.length ca3) = W4 at HT4 ⊢
 clear ka kb kf HSRC HT3
 have hta := (xU HT4).on ((Below.refl W4.heap.size W4).alloc (Nat.le_refl _) (.cells #[] 3))
 have ka : (W4.alloc (.cells #[] 3)).cell? ⟨w.heap.size, 12, none⟩ = some (.slice A.o c.out.length A.po) := hta.box.cell (i := 12) (by omega)
 have HSRC := xH (show ZAt P _ (.slice A.o c.out.length A.po) c.out from hta.at'.o).src
 clear hta
 go_upto_region 6 with (at_builtin; refine append_copyD _ rfl _ _ 23 rfl W4.heap.size 3 j1 (.int .i64 0) 1 8 Tryz.underlying23 (xU HI) (xU HI0) (xU HI1) (xU HI2) rfl (by decide) W4.heap.size rfl (emp_own W4 3 1) A.o c.out.length A.po (c.out.map zcs).flatten rfl (zflat_lenC _) (xU HSRC) (zflat_oneC _) (by unfold maxLen; omega) (by omega) (by simp) ?_; intro ga4 ca4 y4 HO HG; obtain ⟨F4, ht⟩ := (xU HT4).add (rs := c.out.map zcs) (xU HO) (by rw [List.length_map]) (zrow1 _) (xU HG); have kb : y4.cell? ⟨w.heap.size, 12, none⟩ = some (.slice A.o c.out.length A.po) := ht.box.cell (i := 12) (by omega); have kf := ht.box.frozen 12; have HT5 := xH (show Cp P w (y4.setCell ⟨w.heap.size, 12, none⟩ (.slice (some ⟨ga4, 0, none⟩) c.out.length ca4)) c A [.int .i64 c.jobs, .int .i64 c.workers, .int .i64 c.window, .int .i64 c.next, .int .i64 c.reader, .slice (some ⟨ga0, 0, none⟩) c.queue.length ca0, .slice (some ⟨ga1, 0, none⟩) c.hands.length ca1, .int .i64 c.closer, .slice (some ⟨ga2, 0, none⟩) c.results.length ca2, .int .i64 c.keeper, .slice (some ⟨ga3, 0, none⟩) c.ring.length ca3, .int .i64 c.due, .slice (some ⟨ga4, 0, none⟩) c.out.length ca4, .int .i64 c.user, .slice A.t c.got.length A.pt, .int .i64 c.room, .slice A.s c.shut.length A.ps, .int .i64 c.ops] [(.slice (some ⟨ga0, 0, none⟩) c.queue.length ca0, 1, c.queue.map zcs, F0), (.slice (some ⟨ga1, 0, none⟩) c.hands.length ca1, 2, c.hands.map Hd.cs, F1), (.slice (some ⟨ga2, 0, none⟩) c.results.length ca2, 1, c.results.map zcs, F2), (.slice (some ⟨ga3, 0, none⟩) c.ring.length ca3, 1, c.ring.map zcs, F3), (.slice (some ⟨ga4, 0, none⟩) c.out.length ca4, 1, c.out.map zcs, F4)] from ht.put 12 (by omega) (.slice (some ⟨ga4, 0, none⟩) c.out.length ca4)); clear ht HO HG)
 generalize y4.setCell ⟨w.heap.size, 12, none⟩ (.slice (some ⟨ga4, 0, none⟩) c.out.length ca4) = W5 at HT5 ⊢
 clear ka kb kf HSRC HT4
 have hta := (xU HT5).on ((Below.refl W5.heap.size W5).alloc (Nat.le_refl _) (.cells #[] 3))
 have ka : (W5.alloc (.cells #[] 3)).cell? ⟨w.heap.size, 14, none⟩ = some (.slice A.t c.got.length A.pt) := hta.box.cell (i := 14) (by omega)
 have HSRC := xH (show ZAt P _ (.slice A.t c.got.length A.pt) c.got from hta.at'.t).src
 clear hta
 go_upto_region 7 with (at_builtin; refine append_copyD _ rfl _ _ 23 rfl W5.heap.size 3 j1 (.int .i64 0) 1 8 Tryz.underlying23 (xU HI) (xU HI0) (xU HI1) (xU HI2) rfl (by decide) W5.heap.size rfl (emp_own W5 3 1) A.t c.got.length A.pt (c.got.map zcs).flatten rfl (zflat_lenC _) (xU HSRC) (zflat_oneC _) (by unfold maxLen; omega) (by omega) (by simp) ?_; intro ga5 ca5 y5 HO HG; obtain ⟨F5, ht⟩ := (xU HT5).add (rs := c.got.map zcs) (xU HO) (by rw [List.length_map]) (zrow1 _) (xU HG); have kb : y5.cell? ⟨w.heap.size, 14, none⟩ = some (.slice A.t c.got.length A.pt) := ht.box.cell (i := 14) (by omega); have kf := ht.box.frozen 14; have HT6 := xH (show Cp P w (y5.setCell ⟨w.heap.size, 14, none⟩ (.slice (some ⟨ga5, 0, none⟩) c.got.length ca5)) c A [.int .i64 c.jobs, .int .i64 c.workers, .int .i64 c.window, .int .i64 c.next, .int .i64 c.reader, .slice (some ⟨ga0, 0, none⟩) c.queue.length ca0, .slice (some ⟨ga1, 0, none⟩) c.hands.length ca1, .int .i64 c.closer, .slice (some ⟨ga2, 0, none⟩) c.results.length ca2, .int .i64 c.keeper, .slice (some ⟨ga3, 0, none⟩) c.ring.length ca3, .int .i64 c.due, .slice (some ⟨ga4, 0, none⟩) c.out.length ca4, .int .i64 c.user, .slice (some ⟨ga5, 0, none⟩) c.got.length ca5, .int .i64 c.room, .slice A.s c.shut.length A.ps, .int .i64 c.ops] [(.slice (some ⟨ga0, 0, none⟩) c.queue.length ca0, 1, c.queue.map zcs, F0), (.slice (some ⟨ga1, 0, none⟩) c.hands.length ca1, 2, c.hands.map Hd.cs, F1), (.slice (some ⟨ga2, 0, none⟩) c.results.length ca2, 1, c.results.map zcs, F2), (.slice (some ⟨ga3, 0, none⟩) c.ring.length ca3, 1, c.ring.map zcs, F3), (.slice (some ⟨ga4, 0, none⟩) c.out.length ca4, 1, c.out.map zcs, F4), (.slice (some ⟨ga5, 0, none⟩) c.got.length ca5, 1, c.got.map zcs, F5)] from ht.put 14 (by omega) (.slice (some ⟨ga5, 0, none⟩) c.got.length ca5)); clear ht HO HG)
 generalize y5.setCell ⟨w.heap.size, 14, none⟩ (.slice (some ⟨ga5, 0, none⟩) c.got.length ca5) = W6 at HT6 ⊢
 clear ka kb kf HSRC HT5
 have hta := (xU HT6).on ((Below.refl W6.heap.size W6).alloc (Nat.le_refl _) (.cells #[] 3))
 have ka : (W6.alloc (.cells #[] 3)).cell? ⟨w.heap.size, 16, none⟩ = some (.slice A.s c.shut.length A.ps) := hta.box.cell (i := 16) (by omega)
 have HSRC := xH (show ZAt P _ (.slice A.s c.shut.length A.ps) c.shut from hta.at'.s).src
 clear hta
 go_upto_region 8 with (at_builtin; refine append_copyD _ rfl _ _ 23 rfl W6.heap.size 3 j1 (.int .i64 0) 1 8 Tryz.underlying23 (xU HI) (xU HI0) (xU HI1) (xU HI2) rfl (by decide) W6.heap.size rfl (emp_own W6 3 1) A.s c.shut.length A.ps (c.shut.map zcs).flatten rfl (zflat_lenC _) (xU HSRC) (zflat_oneC _) (by unfold maxLen; omega) (by omega) (by simp) ?_; intro ga6 ca6 y6 HO HG; obtain ⟨F6, ht⟩ := (xU HT6).add (rs := c.shut.map zcs) (xU HO) (by rw [List.length_map]) (zrow1 _) (xU HG); have kb : y6.cell? ⟨w.heap.size, 16, none⟩ = some (.slice A.s c.shut.length A.ps) := ht.box.cell (i := 16) (by omega); have kf := ht.box.frozen 16; have HT7 := xH (show Cp P w (y6.setCell ⟨w.heap.size, 16, none⟩ (.slice (some ⟨ga6, 0, none⟩) c.shut.length ca6)) c A [.int .i64 c.jobs, .int .i64 c.workers, .int .i64 c.window, .int .i64 c.next, .int .i64 c.reader, .slice (some ⟨ga0, 0, none⟩) c.queue.length ca0, .slice (some ⟨ga1, 0, none⟩) c.hands.length ca1, .int .i64 c.closer, .slice (some ⟨ga2, 0, none⟩) c.results.length ca2, .int .i64 c.keeper, .slice (some ⟨ga3, 0, none⟩) c.ring.length ca3, .int .i64 c.due, .slice (some ⟨ga4, 0, none⟩) c.out.length ca4, .int .i64 c.user, .slice (some ⟨ga5, 0, none⟩) c.got.length ca5, .int .i64 c.room, .slice (some ⟨ga6, 0, none⟩) c.shut.length ca6, .int .i64 c.ops] [(.slice (some ⟨ga0, 0, none⟩) c.queue.length ca0, 1, c.queue.map zcs, F0), (.slice (some ⟨ga1, 0, none⟩) c.hands.length ca1, 2, c.hands.map Hd.cs, F1), (.slice (some ⟨ga2, 0, none⟩) c.results.length ca2, 1, c.results.map zcs, F2), (.slice (some ⟨ga3, 0, none⟩) c.ring.length ca3, 1, c.ring.map zcs, F3), (.slice (some ⟨ga4, 0, none⟩) c.out.length ca4, 1, c.out.map zcs, F4), (.slice (some ⟨ga5, 0, none⟩) c.got.length ca5, 1, c.got.map zcs, F5), (.slice (some ⟨ga6, 0, none⟩) c.shut.length ca6, 1, c.shut.map zcs, F6)] from ht.put 16 (by omega) (.slice (some ⟨ga6, 0, none⟩) c.shut.length ca6)); clear ht HO HG)
 generalize y6.setCell ⟨w.heap.size, 16, none⟩ (.slice (some ⟨ga6, 0, none⟩) c.shut.length ca6) = W7 at HT7 ⊢
 clear ka kb kf HSRC HT6
 refine wp_region_list ?_
 refine wpList_load_mid rfl _ _ rfl w.heap.size 0 rfl [.int .i64 c.jobs, .int .i64 c.workers, .int .i64 c.window, .int .i64 c.next, .int .i64 c.reader, .slice (some ⟨ga0, 0, none⟩) c.queue.length ca0, .slice (some ⟨ga1, 0, none⟩) c.hands.length ca1, .int .i64 c.closer, .slice (some ⟨ga2, 0, none⟩) c.results.length ca2, .int .i64 c.keeper, .slice (some ⟨ga3, 0, none⟩) c.ring.length ca3, .int .i64 c.due, .slice (some ⟨ga4, 0, none⟩) c.out.length ca4, .int .i64 c.user, .slice (some ⟨ga5, 0, none⟩) c.got.length ca5, .int .i64 c.room, .slice (some ⟨ga6, 0, none⟩) c.shut.length ca6, .int .i64 c.ops] dd (range_row [.int .i64 c.jobs, .int .i64 c.workers, .int .i64 c.window, .int .i64 c.next, .int .i64 c.reader, .slice (some ⟨ga0, 0, none⟩) c.queue.length ca0, .slice (some ⟨ga1, 0, none⟩) c.hands.length ca1, .int .i64 c.closer, .slice (some ⟨ga2, 0, none⟩) c.results.length ca2, .int .i64 c.keeper, .slice (some ⟨ga3, 0, none⟩) c.ring.length ca3, .int .i64 c.due, .slice (some ⟨ga4, 0, none⟩) c.out.length ca4, .int .i64 c.user, .slice (some ⟨ga5, 0, none⟩) c.got.length ca5, .int .i64 c.room, .slice (some ⟨ga6, 0, none⟩) c.shut.length ca6, .int .i64 c.ops] rfl (xU HT7).box) hdu hdr info18 ?_
 refine wpList_store_mid rfl _ _ _ rfl (w.heap.size + 1) 0 #[.int .i64 c.jobs, .int .i64 c.workers, .int .i64 c.window, .int .i64 c.next, .int .i64 c.reader, .slice (some ⟨ga0, 0, none⟩) c.queue.length ca0, .slice (some ⟨ga1, 0, none⟩) c.hands.length ca1, .int .i64 c.closer, .slice (some ⟨ga2, 0, none⟩) c.results.length ca2, .int .i64 c.keeper, .slice (some ⟨ga3, 0, none⟩) c.ring.length ca3, .int .i64 c.due, .slice (some ⟨ga4, 0, none⟩) c.out.length ca4, .int .i64 c.user, .slice (some ⟨ga5, 0, none⟩) c.got.length ca5, .int .i64 c.room, .slice (some ⟨ga6, 0, none⟩) c.shut.length ca6, .int .i64 c.ops] rfl rfl (there_row (xU HT7).res) info18 (one18 _ _ _ _ _ _ _ _ _ _ _ ⟨.slice (some ⟨ga0, 0, none⟩) c.queue.length ca0, .slice (some ⟨ga1, 0, none⟩) c.hands.length ca1, .slice (some ⟨ga2, 0, none⟩) c.results.length ca2, .slice (some ⟨ga3, 0, none⟩) c.ring.length ca3, .slice (some ⟨ga4, 0, none⟩) c.out.length ca4, .slice (some ⟨ga5, 0, none⟩) c.got.length ca5, .slice (some ⟨ga6, 0, none⟩) c.shut.length ca6⟩ (by simp [Value.oneCell'])) ?_
 have hr := row_all (n := 18) [.int .i64 c.jobs, .int .i64 c.workers, .int .i64 c.window, .int .i64 c.next, .int .i64 c.reader, .slice (some ⟨ga0, 0, none⟩) c.queue.length ca0, .slice (some ⟨ga1, 0, none⟩) c.hands.length ca1, .int .i64 c.closer, .slice (some ⟨ga2, 0, none⟩) c.results.length ca2, .int .i64 c.keeper, .slice (some ⟨ga3, 0, none⟩) c.ring.length ca3, .int .i64 c.due, .slice (some ⟨ga4, 0, none⟩) c.out.length ca4, .int .i64 c.user, .slice (some ⟨ga5, 0, none⟩) c.got.length ca5, .int .i64 c.room, .slice (some ⟨ga6, 0, none⟩) c.shut.length ca6, .int .i64 c.ops] rfl (xU HT7).res
 have hb := below_setCells (show w.heap.size ≤ w.heap.size + 1 by omega) [.int .i64 c.jobs, .int .i64 c.workers, .int .i64 c.window, .int .i64 c.next, .int .i64 c.reader, .slice (some ⟨ga0, 0, none⟩) c.queue.length ca0, .slice (some ⟨ga1, 0, none⟩) c.hands.length ca1, .int .i64 c.closer, .slice (some ⟨ga2, 0, none⟩) c.results.length ca2, .int .i64 c.keeper, .slice (some ⟨ga3, 0, none⟩) c.ring.length ca3, .int .i64 c.due, .slice (some ⟨ga4, 0, none⟩) c.out.length ca4, .int .i64 c.user, .slice (some ⟨ga5, 0, none⟩) c.got.length ca5, .int .i64 c.room, .slice (some ⟨ga6, 0, none⟩) c.shut.length ca6, .int .i64 c.ops] 0 W7 (xU HT7).bel
 have hn : ∀ b, w.heap.size + 2 ≤ b → (W7.setCells (w.heap.size + 1) 0 [.int .i64 c.jobs, .int .i64 c.workers, .int .i64 c.window, .int .i64 c.next, .int .i64 c.reader, .slice (some ⟨ga0, 0, none⟩) c.queue.length ca0, .slice (some ⟨ga1, 0, none⟩) c.hands.length ca1, .int .i64 c.closer, .slice (some ⟨ga2, 0, none⟩) c.results.length ca2, .int .i64 c.keeper, .slice (some ⟨ga3, 0, none⟩) c.ring.length ca3, .int .i64 c.due, .slice (some ⟨ga4, 0, none⟩) c.out.length ca4, .int .i64 c.user, .slice (some ⟨ga5, 0, none⟩) c.got.length ca5, .int .i64 c.room, .slice (some ⟨ga6, 0, none⟩) c.shut.length ca6, .int .i64 c.ops]).heap[b]? = W7.heap[b]? := fun b hb => heap_setCells _ _ _ _ (by omega)
 have hs : (W7.setCells (w.heap.size + 1) 0 [.int .i64 c.jobs, .int .i64 c.workers, .int .i64 c.window, .int .i64 c.next, .int .i64 c.reader, .slice (some ⟨ga0, 0, none⟩) c.queue.length ca0, .slice (some ⟨ga1, 0, none⟩) c.hands.length ca1, .int .i64 c.closer, .slice (some ⟨ga2, 0, none⟩) c.results.length ca2, .int .i64 c.keeper, .slice (some ⟨ga3, 0, none⟩) c.ring.length ca3, .int .i64 c.due, .slice (some ⟨ga4, 0, none⟩) c.out.length ca4, .int .i64 c.user, .slice (some ⟨ga5, 0, none⟩) c.got.length ca5, .int .i64 c.room, .slice (some ⟨ga6, 0, none⟩) c.shut.length ca6, .int .i64 c.ops]).heap.size = W7.heap.size := size_setCells _ _ _
 generalize W7.setCells (w.heap.size + 1) 0 _ = W at hr hb hn hs ⊢
 have o0 := (xU HT7).own (.slice (some ⟨ga0, 0, none⟩) c.queue.length ca0, 1, c.queue.map zcs, F0) (by simp)
 have o1 := (xU HT7).own (.slice (some ⟨ga1, 0, none⟩) c.hands.length ca1, 2, c.hands.map Hd.cs, F1) (by simp)
 have o2 := (xU HT7).own (.slice (some ⟨ga2, 0, none⟩) c.results.length ca2, 1, c.results.map zcs, F2) (by simp)
 have o3 := (xU HT7).own (.slice (some ⟨ga3, 0, none⟩) c.ring.length ca3, 1, c.ring.map zcs, F3) (by simp)
 have o4 := (xU HT7).own (.slice (some ⟨ga4, 0, none⟩) c.out.length ca4, 1, c.out.map zcs, F4) (by simp)
 have o5 := (xU HT7).own (.slice (some ⟨ga5, 0, none⟩) c.got.length ca5, 1, c.got.map zcs, F5) (by simp)
 have o6 := (xU HT7).own (.slice (some ⟨ga6, 0, none⟩) c.shut.length ca6, 1, c.shut.map zcs, F6) (by simp)
 have HAT := xH (show CwOwn W c ⟨.slice (some ⟨ga0, 0, none⟩) c.queue.length ca0, .slice (some ⟨ga1, 0, none⟩) c.hands.length ca1, .slice (some ⟨ga2, 0, none⟩) c.results.length ca2, .slice (some ⟨ga3, 0, none⟩) c.ring.length ca3, .slice (some ⟨ga4, 0, none⟩) c.out.length ca4, .slice (some ⟨ga5, 0, none⟩) c.got.length ca5, .slice (some ⟨ga6, 0, none⟩) c.shut.length ca6⟩ F0 F1 F2 F3 F4 F5 F6 from
  ⟨FlatOwn.carry o0.1 (fun b hm => hn b (o0.2 b hm).1), FlatOwn.carry o1.1 (fun b hm => hn b (o1.2 b hm).1), FlatOwn.carry o2.1 (fun b hm => hn b (o2.2 b hm).1), FlatOwn.carry o3.1 (fun b hm => hn b (o3.2 b hm).1), FlatOwn.carry o4.1 (fun b hm => hn b (o4.2 b hm).1), FlatOwn.carry o5.1 (fun b hm => hn b (o5.2 b hm).1), FlatOwn.carry o6.1 (fun b hm => hn b (o6.2 b hm).1)⟩)
 have HRG := xH (show ∀ b, b ∈ F7 F0 F1 F2 F3 F4 F5 F6 → w.heap.size ≤ b ∧ b < W.heap.size from fun b hb => by
  simp only [F7, List.mem_append] at hb
  rw [hs]
  rcases hb with hb | hb | hb | hb | hb | hb | hb
  · have := o0.2 b hb; exact ⟨by omega, this.2⟩
  · have := o1.2 b hb; exact ⟨by omega, this.2⟩
  · have := o2.2 b hb; exact ⟨by omega, this.2⟩
  · have := o3.2 b hb; exact ⟨by omega, this.2⟩
  · have := o4.2 b hb; exact ⟨by omega, this.2⟩
  · have := o5.2 b hb; exact ⟨by omega, this.2⟩
  · have := o6.2 b hb; exact ⟨by omega, this.2⟩)
 have hdj := (xU HT7).dj
 simp only [List.pairwise_cons, List.mem_cons, List.not_mem_nil, or_false, forall_eq_or_imp, forall_eq] at hdj
 have HDJ := xH (show Dj7 F0 F1 F2 F3 F4 F5 F6 from by
  obtain ⟨⟨a1, a2, a3, a4, a5, a6⟩, ⟨b1, b2, b3, b4, b5⟩, ⟨c1, c2, c3, c4⟩, ⟨d1, d2, d3⟩, ⟨e1, e2⟩, f1, -⟩ := hdj
  refine ⟨fun b hb hm => ?_, fun b hb hm => ?_, fun b hb hm => ?_, fun b hb hm => ?_, fun b hb hm => ?_, fun b hb hm => f1 b hb hm⟩ <;> simp only [List.mem_append] at hm
  · rcases hm with hm | hm | hm | hm | hm | hm
    · exact a1 b hb hm
    · exact a2 b hb hm
    · exact a3 b hb hm
    · exact a4 b hb hm
    · exact a5 b hb hm
    · exact a6 b hb hm
  · rcases hm with hm | hm | hm | hm | hm
    · exact b1 b hb hm
    · exact b2 b hb hm
    · exact b3 b hb hm
    · exact b4 b hb hm
    · exact b5 b hb hm
  · rcases hm with hm | hm | hm | hm
    · exact c1 b hb hm
    · exact c2 b hb hm
    · exact c3 b hb hm
    · exact c4 b hb hm
  · rcases hm with hm | hm | hm
    · exact d1 b hb hm
    · exact d2 b hb hm
    · exact d3 b hb hm
  · rcases hm with hm | hm
    · exact e1 b hb hm
    · exact e2 b hb hm)
 have HB := xH hb; have HRR := xH hr
 clear hb hn hs hr hdj o0 o1 o2 o3 o4 o5 o6 HT7
 go_wp2_with fail
 exact bodyPost_ret (v := .agg #[.int .i64 c.jobs, .int .i64 c.workers, .int .i64 c.window, .int .i64 c.next, .int .i64 c.reader, .slice (some ⟨ga0, 0, none⟩) c.queue.length ca0, .slice (some ⟨ga1, 0, none⟩) c.hands.length ca1, .int .i64 c.closer, .slice (some ⟨ga2, 0, none⟩) c.results.length ca2, .int .i64 c.keeper, .slice (some ⟨ga3, 0, none⟩) c.ring.length ca3, .int .i64 c.due, .slice (some ⟨ga4, 0, none⟩) c.out.length ca4, .int .i64 c.user, .slice (some ⟨ga5, 0, none⟩) c.got.length ca5, .int .i64 c.room, .slice (some ⟨ga6, 0, none⟩) c.shut.length ca6, .int .i64 c.ops]) (results_cell_row (P := Tryz.prog) (by rfl) _ W (w.heap.size + 1) 26 #[.int .i64 c.jobs, .int .i64 c.workers, .int .i64 c.window, .int .i64 c.next, .int .i64 c.reader, .slice (some ⟨ga0, 0, none⟩) c.queue.length ca0, .slice (some ⟨ga1, 0, none⟩) c.hands.length ca1, .int .i64 c.closer, .slice (some ⟨ga2, 0, none⟩) c.results.length ca2, .int .i64 c.keeper, .slice (some ⟨ga3, 0, none⟩) c.ring.length ca3, .int .i64 c.due, .slice (some ⟨ga4, 0, none⟩) c.out.length ca4, .int .i64 c.user, .slice (some ⟨ga5, 0, none⟩) c.got.length ca5, .int .i64 c.room, .slice (some ⟨ga6, 0, none⟩) c.shut.length ca6, .int .i64 c.ops] (0, 0) _ (by rfl) (row_cells (xU HRR) rfl) Tryz.underlying26 (by rfl) info18) rfl ⟨⟨.slice (some ⟨ga0, 0, none⟩) c.queue.length ca0, .slice (some ⟨ga1, 0, none⟩) c.hands.length ca1, .slice (some ⟨ga2, 0, none⟩) c.results.length ca2, .slice (some ⟨ga3, 0, none⟩) c.ring.length ca3, .slice (some ⟨ga4, 0, none⟩) c.out.length ca4, .slice (some ⟨ga5, 0, none⟩) c.got.length ca5, .slice (some ⟨ga6, 0, none⟩) c.shut.length ca6⟩, F0, F1, F2, F3, F4, F5, F6, rfl, xU HAT, xU HDJ, xU HRG, xU HB⟩


theorem Bx.markG {W : World} {c : Cw} {v : C7} {Fq Fh Fr Fg Fo Ft Fs : List Nat} {lo b : Nat} (h : Bx W c c v Fq Fh Fr Fg Fo Ft Fs lo b) (hk : mkC c ≤ 4194304) :
 Calls Tryz.prog 27 #[.agg #[.int .i64 c.jobs, .int .i64 c.workers, .int .i64 c.window, .int .i64 c.next, .int .i64 c.reader, v.q, v.h, .int .i64 c.closer, v.r, .int .i64 c.keeper, v.g, .int .i64 c.due, v.o, .int .i64 c.user, v.t, .int .i64 c.room, v.s, .int .i64 c.ops], .int .i64 1] W fun e w' => e = .returned (.int .i64 (1 + mkC c : Nat)) ∧ Exc (F7 Fq Fh Fr Fg Fo Ft Fs) W w' := by
 refine (markCrewWorld_own c v Fq Fh Fr Fg Fo Ft Fs 1 W h.own h.dj h.lt (by omega)).mono ?_
 rintro e w' ⟨rfl, ho, hx⟩
 exact ⟨rfl, hx⟩
theorem Bx.ld {W : World} {c c' : Cw} {v : C7} {Fq Fh Fr Fg Fo Ft Fs : List Nat} {lo b : Nat} (h : Bx W c c' v Fq Fh Fr Fg Fo Ft Fs lo b) : (Instr.loadAt 26 (.pointer (some ⟨b, 0, none⟩))).run Tryz.prog W = .ok (.agg #[.int .i64 c.jobs, .int .i64 c.workers, .int .i64 c.window, .int .i64 c.next, .int .i64 c.reader, v.q, v.h, .int .i64 c.closer, v.r, .int .i64 c.keeper, v.g, .int .i64 c.due, v.o, .int .i64 c.user, v.t, .int .i64 c.room, v.s, .int .i64 c.ops]) W := by
 obtain ⟨dd, hdu, hdr⟩ := rowWorld
 unfold Instr.loadAt
 simp only [Instr.sureAddr, Sem.run_bind, Sem.run_pure, Result.andThen_ok, run_loadVar_mid W b 0 26 [.int .i64 c.jobs, .int .i64 c.workers, .int .i64 c.window, .int .i64 c.next, .int .i64 c.reader, v.q, v.h, .int .i64 c.closer, v.r, .int .i64 c.keeper, v.g, .int .i64 c.due, v.o, .int .i64 c.user, v.t, .int .i64 c.room, v.s, .int .i64 c.ops] dd h.range hdu hdr info18]
theorem Bc.exc {T : TypeId} {P : Nat → Prop} {b : Nat} {c : Cw} {A : A7} {W W' : World} {G : List Nat} (h : Bc T P b c A W) (hx : Exc G W W') (hP : ∀ x, P x → x ∉ G) (hb : b ∉ G) : Bc T P b c A W' :=
 ⟨h.row.of_block (hx.block _ h.row.lt hb), h.at'.carry (fun x hp => hx.block x (h.lt x hp) (hP x hp)) (fun _ h => h), fun x hp => Nat.lt_of_lt_of_le (h.lt x hp) hx.size⟩
theorem toCrewWorld_val (c : Cw) (A : A7) (P : Nat → Prop) (w : World) (h : CwAt P w c (A.v c)) (hP : ∀ b, P b → b < w.heap.size) (hwt : wC c ≤ 1048576) : Calls Tryz.prog 23 #[.agg #[.int .i64 c.jobs, .int .i64 c.workers, .int .i64 c.window, .int .i64 c.next, .int .i64 c.reader, .slice A.q c.queue.length A.pq, .slice A.h c.hands.length A.ph, .int .i64 c.closer, .slice A.r c.results.length A.pr, .int .i64 c.keeper, .slice A.g c.ring.length A.pg, .int .i64 c.due, .slice A.o c.out.length A.po, .int .i64 c.user, .slice A.t c.got.length A.pt, .int .i64 c.room, .slice A.s c.shut.length A.ps, .int .i64 c.ops]] w fun e w' => CwVal w w' e c := by
 refine (toCrewWorld_own c A P w h hP hwt).mono ?_
 rintro e w' ⟨A', Fq, Fh, Fr, Fg, Fo, Ft, Fs, rfl, ho, hd, hr, hb⟩
 exact ⟨A'.v c, Fq, Fh, Fr, Fg, Fo, Ft, Fs, rfl, ho, hd, hr, hb⟩
end Go.Proofs.YtibgjcejddpldaaGreat
