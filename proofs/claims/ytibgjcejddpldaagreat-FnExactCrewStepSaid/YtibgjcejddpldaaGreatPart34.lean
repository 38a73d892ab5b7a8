/- A part. -/
import Derived.Test.YtibgjcejddpldaaGreatPart33
namespace Go.Proofs.YtibgjcejddpldaaGreat
open Go Go.RowKit
set_option maxRecDepth 100000
set_option maxHeartbeats 6400000
def stepOk (c : Cw) (mw mk : Int) : Prop := okS c ∧ ∃ who k : Nat, mw = who ∧ mk = k ∧ mvOk c who k
theorem eqNilF (w : World) : (binOp .eql 1 .nilFunc .nilFunc).run Tryz.prog w = .ok (.bool true) w := by kernel_rfl
theorem eqFunF (fn : Fn) (a b : Array Value) (w : World) : (binOp .eql 1 (.func fn a b) .nilFunc).run Tryz.prog w = .ok (.bool false) w := by kernel_rfl
theorem gNilF (x y : Operand) (w : World) : (eqGuard .eql 1 x y .nilFunc .nilFunc).run Tryz.prog w = .ok () w := by kernel_rfl
theorem gFunF (x y : Operand) (fn : Fn) (a b : Array Value) (w : World) : (eqGuard .eql 1 x y (.func fn a b) .nilFunc).run Tryz.prog w = .ok () w := by kernel_rfl
theorem ag3 {c : Cw} {A : A7} {P : Nat → Prop} {w : World} (h : CwAt P w c (A.v c)) (hP : ∀ b, P b → b < w.heap.size) (mw mk : Int) : Ag P w (((w.alloc (.cells #[.int .i64 c.jobs, .int .i64 c.workers, .int .i64 c.window, .int .i64 c.next, .int .i64 c.reader, .slice A.q c.queue.length A.pq, .slice A.h c.hands.length A.ph, .int .i64 c.closer, .slice A.r c.results.length A.pr, .int .i64 c.keeper, .slice A.g c.ring.length A.pg, .int .i64 c.due, .slice A.o c.out.length A.po, .int .i64 c.user, .slice A.t c.got.length A.pt, .int .i64 c.room, .slice A.s c.shut.length A.ps, .int .i64 c.ops] 26)).alloc (.cells #[.int .i64 mw, .int .i64 mk] 28)).alloc (.cells #[.int .i64 0, .int .i64 0, .int .i64 0, .int .i64 0, .int .i64 0, .slice none 0 0, .slice none 0 0, .int .i64 0, .slice none 0 0, .int .i64 0, .slice none 0 0, .int .i64 0, .slice none 0 0, .int .i64 0, .slice none 0 0, .int .i64 0, .slice none 0 0, .int .i64 0] 26)) c A ∧ (((w.alloc (.cells #[.int .i64 c.jobs, .int .i64 c.workers, .int .i64 c.window, .int .i64 c.next, .int .i64 c.reader, .slice A.q c.queue.length A.pq, .slice A.h c.hands.length A.ph, .int .i64 c.closer, .slice A.r c.results.length A.pr, .int .i64 c.keeper, .slice A.g c.ring.length A.pg, .int .i64 c.due, .slice A.o c.out.length A.po, .int .i64 c.user, .slice A.t c.got.length A.pt, .int .i64 c.room, .slice A.s c.shut.length A.ps, .int .i64 c.ops] 26)).alloc (.cells #[.int .i64 mw, .int .i64 mk] 28)).alloc (.cells #[.int .i64 0, .int .i64 0, .int .i64 0, .int .i64 0, .int .i64 0, .slice none 0 0, .slice none 0 0, .int .i64 0, .slice none 0 0, .int .i64 0, .slice none 0 0, .int .i64 0, .slice none 0 0, .int .i64 0, .slice none 0 0, .int .i64 0, .slice none 0 0, .int .i64 0] 26)).rowIs (w.heap.size + 2) 26 18 (r18 [.int .i64 0, .int .i64 0, .int .i64 0, .int .i64 0, .int .i64 0, .slice none 0 0, .slice none 0 0, .int .i64 0, .slice none 0 0, .int .i64 0, .slice none 0 0, .int .i64 0, .slice none 0 0, .int .i64 0, .slice none 0 0, .int .i64 0, .slice none 0 0, .int .i64 0]) ∧ (((w.alloc (.cells #[.int .i64 c.jobs, .int .i64 c.workers, .int .i64 c.window, .int .i64 c.next, .int .i64 c.reader, .slice A.q c.queue.length A.pq, .slice A.h c.hands.length A.ph, .int .i64 c.closer, .slice A.r c.results.length A.pr, .int .i64 c.keeper, .slice A.g c.ring.length A.pg, .int .i64 c.due, .slice A.o c.out.length A.po, .int .i64 c.user, .slice A.t c.got.length A.pt, .int .i64 c.room, .slice A.s c.shut.length A.ps, .int .i64 c.ops] 26)).alloc (.cells #[.int .i64 mw, .int .i64 mk] 28)).alloc (.cells #[.int .i64 0, .int .i64 0, .int .i64 0, .int .i64 0, .int .i64 0, .slice none 0 0, .slice none 0 0, .int .i64 0, .slice none 0 0, .int .i64 0, .slice none 0 0, .int .i64 0, .slice none 0 0, .int .i64 0, .slice none 0 0, .int .i64 0, .slice none 0 0, .int .i64 0] 26)).rowIs (w.heap.size + 1) 28 2 (r18 [.int .i64 mw, .int .i64 mk]) ∧ (((w.alloc (.cells #[.int .i64 c.jobs, .int .i64 c.workers, .int .i64 c.window, .int .i64 c.next, .int .i64 c.reader, .slice A.q c.queue.length A.pq, .slice A.h c.hands.length A.ph, .int .i64 c.closer, .slice A.r c.results.length A.pr, .int .i64 c.keeper, .slice A.g c.ring.length A.pg, .int .i64 c.due, .slice A.o c.out.length A.po, .int .i64 c.user, .slice A.t c.got.length A.pt, .int .i64 c.room, .slice A.s c.shut.length A.ps, .int .i64 c.ops] 26)).alloc (.cells #[.int .i64 mw, .int .i64 mk] 28)).alloc (.cells #[.int .i64 0, .int .i64 0, .int .i64 0, .int .i64 0, .int .i64 0, .slice none 0 0, .slice none 0 0, .int .i64 0, .slice none 0 0, .int .i64 0, .slice none 0 0, .int .i64 0, .slice none 0 0, .int .i64 0, .slice none 0 0, .int .i64 0, .slice none 0 0, .int .i64 0] 26)).heap.size = w.heap.size + 3 := by
 refine ⟨((Ag.start h hP).on ((Below.refl _ _).alloc (Nat.le_refl _) _)).on ((Below.refl _ _).alloc (Nat.le_refl _) _), ?_, ?_, by simp only [World.size_alloc]⟩
 · have hr := box18 ((w.alloc (.cells #[.int .i64 c.jobs, .int .i64 c.workers, .int .i64 c.window, .int .i64 c.next, .int .i64 c.reader, .slice A.q c.queue.length A.pq, .slice A.h c.hands.length A.ph, .int .i64 c.closer, .slice A.r c.results.length A.pr, .int .i64 c.keeper, .slice A.g c.ring.length A.pg, .int .i64 c.due, .slice A.o c.out.length A.po, .int .i64 c.user, .slice A.t c.got.length A.pt, .int .i64 c.room, .slice A.s c.shut.length A.ps, .int .i64 c.ops] 26)).alloc (.cells #[.int .i64 mw, .int .i64 mk] 28)) noCw nil7 26
   simp only [World.size_alloc] at hr
   exact hr
 · have hr := (World.rowIs_alloc (w.alloc (.cells #[.int .i64 c.jobs, .int .i64 c.workers, .int .i64 c.window, .int .i64 c.next, .int .i64 c.reader, .slice A.q c.queue.length A.pq, .slice A.h c.hands.length A.ph, .int .i64 c.closer, .slice A.r c.results.length A.pr, .int .i64 c.keeper, .slice A.g c.ring.length A.pg, .int .i64 c.due, .slice A.o c.out.length A.po, .int .i64 c.user, .slice A.t c.got.length A.pt, .int .i64 c.room, .slice A.s c.shut.length A.ps, .int .i64 c.ops] 26)) #[.int .i64 mw, .int .i64 mk] 28 (r18 [.int .i64 mw, .int .i64 mk]) (fun j hj => by
    rcases (show j = 0 ∨ j = 1 by simp at hj; omega) with rfl | rfl <;> rfl)).alloc (.cells #[.int .i64 0, .int .i64 0, .int .i64 0, .int .i64 0, .int .i64 0, .slice none 0 0, .slice none 0 0, .int .i64 0, .slice none 0 0, .int .i64 0, .slice none 0 0, .int .i64 0, .slice none 0 0, .int .i64 0, .slice none 0 0, .int .i64 0, .slice none 0 0, .int .i64 0] 26)
   simp only [World.size_alloc] at hr
   exact hr
theorem implCrewStep_no (c : Cw) (A : A7) (P : Nat → Prop) (mw mk : Int) (w : World) (h : CwAt P w c (A.v c)) (hP : ∀ b, P b → b < w.heap.size) (hok : ¬ stepOk c mw mk) : Calls Tryz.prog 9 #[.agg #[.int .i64 c.jobs, .int .i64 c.workers, .int .i64 c.window, .int .i64 c.next, .int .i64 c.reader, .slice A.q c.queue.length A.pq, .slice A.h c.hands.length A.ph, .int .i64 c.closer, .slice A.r c.results.length A.pr, .int .i64 c.keeper, .slice A.g c.ring.length A.pg, .int .i64 c.due, .slice A.o c.out.length A.po, .int .i64 c.user, .slice A.t c.got.length A.pt, .int .i64 c.room, .slice A.s c.shut.length A.ps, .int .i64 c.ops], .agg #[.int .i64 mw, .int .i64 mk]] w fun e w' => CwEnd w w' e noCw false := by
 have HS := xH (ag3 h hP mw mk).1; have HR0 := xH (ag3 h hP mw mk).2.1; have HM0 := xH (ag3 h hP mw mk).2.2.1; have HZ := xH (ag3 h hP mw mk).2.2.2
 have HCF := xH (fun W (hW : Ag P w W c A) => crewOf_any c A P W hW.at' hW.hand.2)
 obtain ⟨dd, hdu, hdr⟩ := rowWorld
 have HOK := xH hok
 clear h hP hok
 go_enter Tryz.func9, Tryz.ntmps9
 go_upto_region 1 with fail
 generalize ((w.alloc (.cells #[.int .i64 c.jobs, .int .i64 c.workers, .int .i64 c.window, .int .i64 c.next, .int .i64 c.reader, .slice A.q c.queue.length A.pq, .slice A.h c.hands.length A.ph, .int .i64 c.closer, .slice A.r c.results.length A.pr, .int .i64 c.keeper, .slice A.g c.ring.length A.pg, .int .i64 c.due, .slice A.o c.out.length A.po, .int .i64 c.user, .slice A.t c.got.length A.pt, .int .i64 c.room, .slice A.s c.shut.length A.ps, .int .i64 c.ops] 26)).alloc (.cells #[.int .i64 mw, .int .i64 mk] 28)).alloc (.cells #[.int .i64 0, .int .i64 0, .int .i64 0, .int .i64 0, .int .i64 0, .slice none 0 0, .slice none 0 0, .int .i64 0, .slice none 0 0, .int .i64 0, .slice none 0 0, .int .i64 0, .slice none 0 0, .int .i64 0, .slice none 0 0, .int .i64 0, .slice none 0 0, .int .i64 0] 26) = W0 at HS HR0 HM0 HZ ⊢
 refine wp_region_list ?_
 refine wpList_load_mid rfl _ _ rfl w.heap.size 0 rfl [.int .i64 c.jobs, .int .i64 c.workers, .int .i64 c.window, .int .i64 c.next, .int .i64 c.reader, .slice A.q c.queue.length A.pq, .slice A.h c.hands.length A.ph, .int .i64 c.closer, .slice A.r c.results.length A.pr, .int .i64 c.keeper, .slice A.g c.ring.length A.pg, .int .i64 c.due, .slice A.o c.out.length A.po, .int .i64 c.user, .slice A.t c.got.length A.pt, .int .i64 c.room, .slice A.s c.shut.length A.ps, .int .i64 c.ops] dd (xU HS).range hdu hdr info18 ?_
 refine wpList_plain rfl (fun K hK => ?_)
 go_simp
 refine (xU HCF _ (xU HS)).mono ?_
 rintro e w1 ⟨⟨v, r, rfl, hr, hcr⟩, hb⟩
 refine hK _ _ ?_
 clear hK K
 have HB1 := xH ((xU HS).on hb).bel
 have HR1 := xH ((xU HR0).of_block (hb.block _ (xU HR0).lt))
 have HM1 := xH ((xU HM0).of_block (hb.block _ (xU HM0).lt))
 have HR := xH hr
 have HCR := xH hcr
 have hz := xU HZ
 clear hb hr hcr HCF HS HR0 HM0 HZ
 clear hz
 cases r with
 | false =>
   have HRX := HR1; have HBX := HB1
   clear HR HCR HOK HM1 HR1 HB1
   go_upto_region 3 with fail
   refine wp_region_list ?_
   refine wpList_plain rfl (fun K hK => ?_)
   go_simp
   refine hK _ _ ?_
   clear hK K
   have hrw := xU HRX
   refine wpList_store_mid rfl _ _ _ rfl (w.heap.size + 2) 0 #[.int .i64 0, .int .i64 0, .int .i64 0, .int .i64 0, .int .i64 0, .slice none 0 0, .slice none 0 0, .int .i64 0, .slice none 0 0, .int .i64 0, .slice none 0 0, .int .i64 0, .slice none 0 0, .int .i64 0, .slice none 0 0, .int .i64 0, .slice none 0 0, .int .i64 0] rfl rfl (there_row hrw) info18 (one18 0 0 0 0 0 0 0 0 0 0 0 nil7 (by simp [nil7, Value.oneCell'])) ?_
   have hr2 := row_all (n := 18) [.int .i64 0, .int .i64 0, .int .i64 0, .int .i64 0, .int .i64 0, .slice none 0 0, .slice none 0 0, .int .i64 0, .slice none 0 0, .int .i64 0, .slice none 0 0, .int .i64 0, .slice none 0 0, .int .i64 0, .slice none 0 0, .int .i64 0, .slice none 0 0, .int .i64 0] rfl hrw
   have hb2 := below_setCells (show w.heap.size ≤ w.heap.size + 2 by omega) [.int .i64 0, .int .i64 0, .int .i64 0, .int .i64 0, .int .i64 0, .slice none 0 0, .slice none 0 0, .int .i64 0, .slice none 0 0, .int .i64 0, .slice none 0 0, .int .i64 0, .slice none 0 0, .int .i64 0, .slice none 0 0, .int .i64 0, .slice none 0 0, .int .i64 0] 0 w1 (xU HBX)
   generalize w1.setCells (w.heap.size + 2) 0 _ = W at hr2 hb2 ⊢
   clear hrw HRX HBX
   have HB := xH hb2
   clear hb2
   go_wp2_with fail
   exact bodyPost_ret (v := .tuple #[.agg #[.int .i64 0, .int .i64 0, .int .i64 0, .int .i64 0, .int .i64 0, .slice none 0 0, .slice none 0 0, .int .i64 0, .slice none 0 0, .int .i64 0, .slice none 0 0, .int .i64 0, .slice none 0 0, .int .i64 0, .slice none 0 0, .int .i64 0, .slice none 0 0, .int .i64 0], .bool false]) (results18 (by rfl) _ _ (w.heap.size + 2) [.int .i64 0, .int .i64 0, .int .i64 0, .int .i64 0, .int .i64 0, .slice none 0 0, .slice none 0 0, .int .i64 0, .slice none 0 0, .int .i64 0, .slice none 0 0, .int .i64 0, .slice none 0 0, .int .i64 0, .slice none 0 0, .int .i64 0, .slice none 0 0, .int .i64 0] _ rfl rfl hr2 rfl) rfl ⟨nil7, [], [], [], [], [], [], [], rfl, cw_nil, dj_nil, fun b hb => by simp [F7] at hb, xU HB⟩
 | true =>
   have HOKS := xH ((xU HR).1 rfl)
   obtain ⟨C, B, rfl, hcr, -⟩ := xU HCR rfl
   have HNO := xH (show ∀ x, x ∈ movesP C B.H c (c.hands.length + 4) → ¬ ((x.who : Int) = mw ∧ (x.case : Int) = mk) from fun x hx he => xU HOK ⟨xU HOKS, x.who, x.case, he.1.symm, he.2.symm, (ready_iff (xU HOKS) _ _).1 ⟨x, hx, rfl, rfl⟩⟩)
   have HDF : Hid (Calls Tryz.prog 43 #[.pointer (some ⟨C, 0, none⟩), .agg #[.int .i64 mw, .int .i64 mk]] w1 fun e w2 => e = .returned .nilFunc ∧ Kc w1 w2 C c B) := xH ((doingOf_any C c B mw mk w1 hcr ((formS_iff c).1 (xU HOKS).1).1).mono fun e w2 hf => ⟨by
    rcases hf.2 with ⟨x, hx, h1, h2, -⟩ | ⟨-, h⟩
    · exact absurd ⟨h1, h2⟩ (xU HNO x hx)
    · exact h, hf.1⟩)
   have m0 : w1.cell? ⟨w.heap.size + 1, 0, none⟩ = some (.int .i64 mw) := (xU HM1).cell (i := 0) (by omega)
   have m1 : w1.cell? ⟨w.heap.size + 1, 1, none⟩ = some (.int .i64 mk) := (xU HM1).cell (i := 1) (by omega)
   clear HR HCR HOK hcr HOKS HM1
   go_upto_region 5 with (go_at_call 43; refine (xU HDF).mono ?_; rintro e w2 ⟨rfl, hk2⟩)
   have HRX := xH ((xU HR1).of_block (hk2.bel.block _ (xU HR1).lt))
   have HBX := xH ((xU HB1).trans (hk2.bel.mono (xU HB1).size))
   clear hk2 HNO HDF m0 m1 HR1 HB1
   have q1 := eqNilF; have q2 := gNilF
   go_upto_region 6 with fail
   refine wp_region_list ?_
   refine wpList_plain rfl (fun K hK => ?_)
   go_simp
   refine hK _ _ ?_
   clear hK K
   have hrw := xU HRX
   refine wpList_store_mid rfl _ _ _ rfl (w.heap.size + 2) 0 #[.int .i64 0, .int .i64 0, .int .i64 0, .int .i64 0, .int .i64 0, .slice none 0 0, .slice none 0 0, .int .i64 0, .slice none 0 0, .int .i64 0, .slice none 0 0, .int .i64 0, .slice none 0 0, .int .i64 0, .slice none 0 0, .int .i64 0, .slice none 0 0, .int .i64 0] rfl rfl (there_row hrw) info18 (one18 0 0 0 0 0 0 0 0 0 0 0 nil7 (by simp [nil7, Value.oneCell'])) ?_
   have hr2 := row_all (n := 18) [.int .i64 0, .int .i64 0, .int .i64 0, .int .i64 0, .int .i64 0, .slice none 0 0, .slice none 0 0, .int .i64 0, .slice none 0 0, .int .i64 0, .slice none 0 0, .int .i64 0, .slice none 0 0, .int .i64 0, .slice none 0 0, .int .i64 0, .slice none 0 0, .int .i64 0] rfl hrw
   have hb2 := below_setCells (show w.heap.size ≤ w.heap.size + 2 by omega) [.int .i64 0, .int .i64 0, .int .i64 0, .int .i64 0, .int .i64 0, .slice none 0 0, .slice none 0 0, .int .i64 0, .slice none 0 0, .int .i64 0, .slice none 0 0, .int .i64 0, .slice none 0 0, .int .i64 0, .slice none 0 0, .int .i64 0, .slice none 0 0, .int .i64 0] 0 w2 (xU HBX)
   generalize w2.setCells (w.heap.size + 2) 0 _ = W at hr2 hb2 ⊢
   clear hrw HRX HBX
   have HB := xH hb2
   clear hb2
   go_wp2_with fail
   exact bodyPost_ret (v := .tuple #[.agg #[.int .i64 0, .int .i64 0, .int .i64 0, .int .i64 0, .int .i64 0, .slice none 0 0, .slice none 0 0, .int .i64 0, .slice none 0 0, .int .i64 0, .slice none 0 0, .int .i64 0, .slice none 0 0, .int .i64 0, .slice none 0 0, .int .i64 0, .slice none 0 0, .int .i64 0], .bool false]) (results18 (by rfl) _ _ (w.heap.size + 2) [.int .i64 0, .int .i64 0, .int .i64 0, .int .i64 0, .int .i64 0, .slice none 0 0, .slice none 0 0, .int .i64 0, .slice none 0 0, .int .i64 0, .slice none 0 0, .int .i64 0, .slice none 0 0, .int .i64 0, .slice none 0 0, .int .i64 0, .slice none 0 0, .int .i64 0] _ rfl rfl hr2 rfl) rfl ⟨nil7, [], [], [], [], [], [], [], rfl, cw_nil, dj_nil, fun b hb => by simp [F7] at hb, xU HB⟩
theorem implCrewStep_yes (c : Cw) (A : A7) (P : Nat → Prop) (mw mk : Int) (w : World) (h : CwAt P w c (A.v c)) (hP : ∀ b, P b → b < w.heap.size) (who k : Nat) (hw : mw = who) (hk : mk = k) (hok : okS c) (hmv : mvOk c who k) : Calls Tryz.prog 9 #[.agg #[.int .i64 c.jobs, .int .i64 c.workers, .int .i64 c.window, .int .i64 c.next, .int .i64 c.reader, .slice A.q c.queue.length A.pq, .slice A.h c.hands.length A.ph, .int .i64 c.closer, .slice A.r c.results.length A.pr, .int .i64 c.keeper, .slice A.g c.ring.length A.pg, .int .i64 c.due, .slice A.o c.out.length A.po, .int .i64 c.user, .slice A.t c.got.length A.pt, .int .i64 c.room, .slice A.s c.shut.length A.ps, .int .i64 c.ops], .agg #[.int .i64 mw, .int .i64 mk]] w fun e w' => CwEnd w w' e (stD c who k) true := by
 generalize hx : stD c who k = x
 have HXE := xH hx
 have HMV := xH hmv; have HWE := xH hw; have HKE := xH hk
 clear hx hmv hw hk
 have HS := xH (ag3 h hP mw mk).1; have HR0 := xH (ag3 h hP mw mk).2.1; have HM0 := xH (ag3 h hP mw mk).2.2.1; have HZ := xH (ag3 h hP mw mk).2.2.2
 have HCF := xH (fun W (hW : Ag P w W c A) => crewOf_any c A P W hW.at' hW.hand.2)
 obtain ⟨dd, hdu, hdr⟩ := rowWorld
 have HOK := xH hok
 clear h hP hok
 go_enter Tryz.func9, Tryz.ntmps9
 go_upto_region 1 with fail
 generalize ((w.alloc (.cells #[.int .i64 c.jobs, .int .i64 c.workers, .int .i64 c.window, .int .i64 c.next, .int .i64 c.reader, .slice A.q c.queue.length A.pq, .slice A.h c.hands.length A.ph, .int .i64 c.closer, .slice A.r c.results.length A.pr, .int .i64 c.keeper, .slice A.g c.ring.length A.pg, .int .i64 c.due, .slice A.o c.out.length A.po, .int .i64 c.user, .slice A.t c.got.length A.pt, .int .i64 c.room, .slice A.s c.shut.length A.ps, .int .i64 c.ops] 26)).alloc (.cells #[.int .i64 mw, .int .i64 mk] 28)).alloc (.cells #[.int .i64 0, .int .i64 0, .int .i64 0, .int .i64 0, .int .i64 0, .slice none 0 0, .slice none 0 0, .int .i64 0, .slice none 0 0, .int .i64 0, .slice none 0 0, .int .i64 0, .slice none 0 0, .int .i64 0, .slice none 0 0, .int .i64 0, .slice none 0 0, .int .i64 0] 26) = W0 at HS HR0 HM0 HZ ⊢
 refine wp_region_list ?_
 refine wpList_load_mid rfl _ _ rfl w.heap.size 0 rfl [.int .i64 c.jobs, .int .i64 c.workers, .int .i64 c.window, .int .i64 c.next, .int .i64 c.reader, .slice A.q c.queue.length A.pq, .slice A.h c.hands.length A.ph, .int .i64 c.closer, .slice A.r c.results.length A.pr, .int .i64 c.keeper, .slice A.g c.ring.length A.pg, .int .i64 c.due, .slice A.o c.out.length A.po, .int .i64 c.user, .slice A.t c.got.length A.pt, .int .i64 c.room, .slice A.s c.shut.length A.ps, .int .i64 c.ops] dd (xU HS).range hdu hdr info18 ?_
 refine wpList_plain rfl (fun K hK => ?_)
 go_simp
 refine (xU HCF _ (xU HS)).mono ?_
 rintro e w1 ⟨⟨v, r, rfl, hr, hcr⟩, hb⟩
 refine hK _ _ ?_
 clear hK K
 have HB1 := xH ((xU HS).on hb).bel
 have HR1 := xH ((xU HR0).of_block (hb.block _ (xU HR0).lt))
 have HM1 := xH ((xU HM0).of_block (hb.block _ (xU HM0).lt))
 have HR := xH hr
 have HCR := xH hcr
 have hz := xU HZ
 clear hb hr hcr HCF HS HR0 HM0 HZ
 obtain rfl : r = true := (xU HR).2 (xU HOK)
 obtain ⟨C, B, rfl, hcr, hge⟩ := xU HCR rfl
 have HGE := xH (show ∀ x, x ∈ CrB.blocks C B → w.heap.size + 3 ≤ x from fun x hx => by have := hge x hx; omega)
 have HEX := xH ((ready_iff (C := C) (B := B) (xU HOK) who k).2 (xU HMV))
 have HDF : Hid (Calls Tryz.prog 43 #[.pointer (some ⟨C, 0, none⟩), .agg #[.int .i64 mw, .int .i64 mk]] w1 fun e w2 => ∃ y : Mv, (y ∈ movesP C B.H c (c.hands.length + 4) ∧ y.who = who ∧ y.case = k) ∧ e = .returned (.func (.func y.f.1) #[y.f.2] #[]) ∧ Kc w1 w2 C c B) := xH ((doingOf_any C c B mw mk w1 hcr ((formS_iff c).1 (xU HOK).1).1).mono fun e w2 hf => by
  rcases hf.2 with ⟨x, hx, h1, h2, h3⟩ | ⟨h, -⟩
  · exact ⟨x, ⟨hx, by have := xU HWE; omega, by have := xU HKE; omega⟩, h3, hf.1⟩
  · obtain ⟨x, hx, h1, h2⟩ := xU HEX
    exact absurd ⟨by rw [h1]; exact (xU HWE).symm, by rw [h2]; exact (xU HKE).symm⟩ (h x hx))
 have m0 : w1.cell? ⟨w.heap.size + 1, 0, none⟩ = some (.int .i64 mw) := (xU HM1).cell (i := 0) (by omega)
 have m1 : w1.cell? ⟨w.heap.size + 1, 1, none⟩ = some (.int .i64 mk) := (xU HM1).cell (i := 1) (by omega)
 clear HR HCR hcr hge hz HM1
 go_upto_region 5 with (go_at_call 43; refine (xU HDF).mono ?_; rintro e w2 ⟨y, hy3, rfl, hk2⟩)
 obtain ⟨hy, hyw, hyk⟩ := hy3
 obtain ⟨hen, hdo⟩ := do_any (B := B) (xU HOK) y hy
 rw [hyw, hyk, xU HXE] at hdo
 have HDO := xH (hdo w2 hk2.cr)
 have HR2 := xH ((xU HR1).of_block (hk2.bel.block _ (xU HR1).lt))
 have HB2 := xH ((xU HB1).trans (hk2.bel.mono (xU HB1).size))
 clear hk2 hdo hy hyw hyk HEX HDF m0 m1 HR1 HB1 HXE HMV HWE HKE HOK
 generalize y.f.1 = fn at hen HDO ⊢
 generalize y.f.2 = fr at HDO ⊢
 have q1 := eqFunF; have q2 := gFunF
 go_upto_region 8 with (refine (xU HDO).mono ?_; rintro e w3 ⟨rfl, hc3, hx3⟩)
 obtain ⟨B3, hc3⟩ := hc3
 have R1 := xH ((xU HR2).of_block (hx3.block _ (xU HR2).lt (fun hm => by have := xU HGE _ hm; omega)))
 have B1 := xH ((xU HB2).trans (hx3.below (xU HB2).size (fun x hx => by have := xU HGE x hx; omega)))
 have HC3 := xH hc3
 clear hc3 hx3 HDO HR2 HB2 HGE hen
 refine wp_region_list ?_
 refine wpList_plain rfl (fun K hK => ?_)
 go_simp
 refine hK _ _ ?_
 clear hK K
 refine wpList_plain rfl (fun K hK => ?_)
 go_simp
 refine (world_any C x B3 w3 (xU HC3)).mono ?_
 rintro e w4 ⟨v, Fq, Fh, Fr, Fg, Fo, Ft, Fs, rfl, hown, hdj, hrng, hb2⟩
 refine hK _ _ ?_
 clear hK K
 have hrw := (xU R1).of_block (hb2.block _ (xU R1).lt)
 have hbw := (xU B1).trans (hb2.mono (xU B1).size)
 have hlt := (xU R1).lt
 refine wpList_store_mid rfl _ _ _ rfl (w.heap.size + 2) 0 #[.int .i64 x.jobs, .int .i64 x.workers, .int .i64 x.window, .int .i64 x.next, .int .i64 x.reader, v.q, v.h, .int .i64 x.closer, v.r, .int .i64 x.keeper, v.g, .int .i64 x.due, v.o, .int .i64 x.user, v.t, .int .i64 x.room, v.s, .int .i64 x.ops] rfl rfl (there_row hrw) info18 (one18 _ _ _ _ _ _ _ _ _ _ _ v (cw_one hown)) ?_
 have hr3 := row_all (n := 18) [.int .i64 x.jobs, .int .i64 x.workers, .int .i64 x.window, .int .i64 x.next, .int .i64 x.reader, v.q, v.h, .int .i64 x.closer, v.r, .int .i64 x.keeper, v.g, .int .i64 x.due, v.o, .int .i64 x.user, v.t, .int .i64 x.room, v.s, .int .i64 x.ops] rfl hrw
 have hb3 := below_setCells (show w.heap.size ≤ w.heap.size + 2 by omega) [.int .i64 x.jobs, .int .i64 x.workers, .int .i64 x.window, .int .i64 x.next, .int .i64 x.reader, v.q, v.h, .int .i64 x.closer, v.r, .int .i64 x.keeper, v.g, .int .i64 x.due, v.o, .int .i64 x.user, v.t, .int .i64 x.room, v.s, .int .i64 x.ops] 0 w4 hbw
 have ho3 := hown.carry (w' := w4.setCells (w.heap.size + 2) 0 [.int .i64 x.jobs, .int .i64 x.workers, .int .i64 x.window, .int .i64 x.next, .int .i64 x.reader, v.q, v.h, .int .i64 x.closer, v.r, .int .i64 x.keeper, v.g, .int .i64 x.due, v.o, .int .i64 x.user, v.t, .int .i64 x.room, v.s, .int .i64 x.ops]) (fun b hb => heap_setCells _ _ _ _ (by have := (hrng b hb).1; omega))
 have hs3 : ∀ b, b ∈ F7 Fq Fh Fr Fg Fo Ft Fs → w.heap.size ≤ b ∧ b < (w4.setCells (w.heap.size + 2) 0 [.int .i64 x.jobs, .int .i64 x.workers, .int .i64 x.window, .int .i64 x.next, .int .i64 x.reader, v.q, v.h, .int .i64 x.closer, v.r, .int .i64 x.keeper, v.g, .int .i64 x.due, v.o, .int .i64 x.user, v.t, .int .i64 x.room, v.s, .int .i64 x.ops]).heap.size := fun b hb => by
  rw [size_setCells]
  exact ⟨by have := (hrng b hb).1; omega, (hrng b hb).2⟩
 generalize w4.setCells (w.heap.size + 2) 0 _ = W at hr3 hb3 ho3 hs3 ⊢
 clear hrw hbw hown hrng hb2 R1 B1
 have HB := xH hb3; have HO := xH ho3; have HS := xH hs3; have HD := xH hdj
 clear hb3 ho3 hs3 hdj
 go_wp2_with fail
 exact bodyPost_ret (v := .tuple #[.agg #[.int .i64 x.jobs, .int .i64 x.workers, .int .i64 x.window, .int .i64 x.next, .int .i64 x.reader, v.q, v.h, .int .i64 x.closer, v.r, .int .i64 x.keeper, v.g, .int .i64 x.due, v.o, .int .i64 x.user, v.t, .int .i64 x.room, v.s, .int .i64 x.ops], .bool true]) (results18 (by rfl) _ _ (w.heap.size + 2) [.int .i64 x.jobs, .int .i64 x.workers, .int .i64 x.window, .int .i64 x.next, .int .i64 x.reader, v.q, v.h, .int .i64 x.closer, v.r, .int .i64 x.keeper, v.g, .int .i64 x.due, v.o, .int .i64 x.user, v.t, .int .i64 x.room, v.s, .int .i64 x.ops] _ rfl rfl hr3 rfl) rfl ⟨v, _, _, _, _, _, _, _, rfl, xU HO, xU HD, xU HS, xU HB⟩
end Go.Proofs.YtibgjcejddpldaaGreat
