/- A part. -/
import Derived.Test.YtibgjcejddpldaaGreatPart13
namespace Go.Proofs.YtibgjcejddpldaaGreat
open Go Go.RowKit
set_option maxRecDepth 100000
set_option maxHeartbeats 3200000
theorem szZ_any (a : Option Addr) (n cap : Nat) (left : Int) (w : World) (hlen : n ≤ 9223372036854775807) (h0 : 0 ≤ left) (h1 : left ≤ 1048576) :
 Calls Tryz.prog 50 #[.slice a n cap, .int .i64 left] w fun e w' => ∃ r : Int, e = .returned (.int .i64 r) ∧ (r = -1 ∨ (0 ≤ r ∧ r + n = left)) ∧ w' = w := by
 by_cases hneg : left - n < 0
 · go_enter Tryz.func50, Tryz.ntmps50
   go_wp2_with fail
   go_ret
   exact ⟨_, rfl, Or.inl rfl, rfl⟩
 · go_enter Tryz.func50, Tryz.ntmps50
   go_wp2_with fail
   go_ret
   exact ⟨_, rfl, Or.inr ⟨by omega, by omega⟩, rfl⟩
theorem szH_any (a : Option Addr) (n cap : Nat) (left : Int) (w : World) (hlen : n ≤ 9223372036854775807) (h0 : 0 ≤ left) (h1 : left ≤ 1048576) :
 Calls Tryz.prog 51 #[.slice a n cap, .int .i64 left] w fun e w' => ∃ r : Int, e = .returned (.int .i64 r) ∧ (r = -1 ∨ (0 ≤ r ∧ r + n = left)) ∧ w' = w := by
 by_cases hneg : left - n < 0
 · go_enter Tryz.func51, Tryz.ntmps51
   go_wp2_with fail
   go_ret
   exact ⟨_, rfl, Or.inl rfl, rfl⟩
 · go_enter Tryz.func51, Tryz.ntmps51
   go_wp2_with fail
   go_ret
   exact ⟨_, rfl, Or.inr ⟨by omega, by omega⟩, rfl⟩
def wC (c : Cw) : Nat := c.queue.length + c.hands.length + c.results.length + c.ring.length + c.out.length + c.got.length + c.shut.length
structure Ln (c : Cw) : Prop where
 q : c.queue.length ≤ 9223372036854775807
 h : c.hands.length ≤ 9223372036854775807
 r : c.results.length ≤ 9223372036854775807
 g : c.ring.length ≤ 9223372036854775807
 o : c.out.length ≤ 9223372036854775807
 t : c.got.length ≤ 9223372036854775807
 s : c.shut.length ≤ 9223372036854775807
theorem CwAt.ln {P : Nat → Prop} {w : World} {c : Cw} {v : C7} (h : CwAt P w c v) : Ln c := by
 obtain ⟨_, _, -, h1, -⟩ := h.q.open
 obtain ⟨_, _, -, h2, -⟩ := h.h.open
 obtain ⟨_, _, -, h3, -⟩ := h.r.open
 obtain ⟨_, _, -, h4, -⟩ := h.g.open
 obtain ⟨_, _, -, h5, -⟩ := h.o.open
 obtain ⟨_, _, -, h6, -⟩ := h.t.open
 obtain ⟨_, _, -, h7, -⟩ := h.s.open
 exact ⟨h1, h2, h3, h4, h5, h6, h7⟩
theorem szCrewWorld_any (c : Cw) (A : A7) (left : Int) (w : World) (hl : Ln c) (h0 : 0 ≤ left) (h1 : left ≤ 1048576) : Calls Tryz.prog 21 #[.agg #[.int .i64 c.jobs, .int .i64 c.workers, .int .i64 c.window, .int .i64 c.next, .int .i64 c.reader, .slice A.q c.queue.length A.pq, .slice A.h c.hands.length A.ph, .int .i64 c.closer, .slice A.r c.results.length A.pr, .int .i64 c.keeper, .slice A.g c.ring.length A.pg, .int .i64 c.due, .slice A.o c.out.length A.po, .int .i64 c.user, .slice A.t c.got.length A.pt, .int .i64 c.room, .slice A.s c.shut.length A.ps, .int .i64 c.ops], .int .i64 left] w fun e w' => ∃ r : Int, e = .returned (.int .i64 r) ∧ (r = -1 ∨ (0 ≤ r ∧ r + wC c = left)) ∧ Below w.heap.size w w' := by
 have HBX := xH (show (w.alloc (.cells #[.int .i64 c.jobs, .int .i64 c.workers, .int .i64 c.window, .int .i64 c.next, .int .i64 c.reader, .slice A.q c.queue.length A.pq, .slice A.h c.hands.length A.ph, .int .i64 c.closer, .slice A.r c.results.length A.pr, .int .i64 c.keeper, .slice A.g c.ring.length A.pg, .int .i64 c.due, .slice A.o c.out.length A.po, .int .i64 c.user, .slice A.t c.got.length A.pt, .int .i64 c.room, .slice A.s c.shut.length A.ps, .int .i64 c.ops] 45)).rowIs w.heap.size 45 18 (r18 [.int .i64 c.jobs, .int .i64 c.workers, .int .i64 c.window, .int .i64 c.next, .int .i64 c.reader, .slice A.q c.queue.length A.pq, .slice A.h c.hands.length A.ph, .int .i64 c.closer, .slice A.r c.results.length A.pr, .int .i64 c.keeper, .slice A.g c.ring.length A.pg, .int .i64 c.due, .slice A.o c.out.length A.po, .int .i64 c.user, .slice A.t c.got.length A.pt, .int .i64 c.room, .slice A.s c.shut.length A.ps, .int .i64 c.ops]) from box18 w c (A.v c) 45)
 have HB := xH (show Below w.heap.size w (w.alloc (.cells #[.int .i64 c.jobs, .int .i64 c.workers, .int .i64 c.window, .int .i64 c.next, .int .i64 c.reader, .slice A.q c.queue.length A.pq, .slice A.h c.hands.length A.ph, .int .i64 c.closer, .slice A.r c.results.length A.pr, .int .i64 c.keeper, .slice A.g c.ring.length A.pg, .int .i64 c.due, .slice A.o c.out.length A.po, .int .i64 c.user, .slice A.t c.got.length A.pt, .int .i64 c.room, .slice A.s c.shut.length A.ps, .int .i64 c.ops] 45)) from (Below.refl _ _).alloc (Nat.le_refl _) _)
 have HL := xH hl
 have HWC := xH (show wC c = c.queue.length + c.hands.length + c.results.length + c.ring.length + c.out.length + c.got.length + c.shut.length from rfl)
 generalize wC c = wt at *
 clear hl
 go_enter Tryz.func21, Tryz.ntmps21
 go_upto_region 1 with fail
 generalize w.alloc (.cells #[.int .i64 c.jobs, .int .i64 c.workers, .int .i64 c.window, .int .i64 c.next, .int .i64 c.reader, .slice A.q c.queue.length A.pq, .slice A.h c.hands.length A.ph, .int .i64 c.closer, .slice A.r c.results.length A.pr, .int .i64 c.keeper, .slice A.g c.ring.length A.pg, .int .i64 c.due, .slice A.o c.out.length A.po, .int .i64 c.user, .slice A.t c.got.length A.pt, .int .i64 c.room, .slice A.s c.shut.length A.ps, .int .i64 c.ops] 45) = W0 at HBX HB ⊢
 have k5 : W0.cell? ⟨w.heap.size, 5, none⟩ = some (.slice A.q c.queue.length A.pq) := (xU HBX).cell (i := 5) (by omega)
 have k6 : W0.cell? ⟨w.heap.size, 6, none⟩ = some (.slice A.h c.hands.length A.ph) := (xU HBX).cell (i := 6) (by omega)
 have k8 : W0.cell? ⟨w.heap.size, 8, none⟩ = some (.slice A.r c.results.length A.pr) := (xU HBX).cell (i := 8) (by omega)
 have k10 : W0.cell? ⟨w.heap.size, 10, none⟩ = some (.slice A.g c.ring.length A.pg) := (xU HBX).cell (i := 10) (by omega)
 have k12 : W0.cell? ⟨w.heap.size, 12, none⟩ = some (.slice A.o c.out.length A.po) := (xU HBX).cell (i := 12) (by omega)
 have k14 : W0.cell? ⟨w.heap.size, 14, none⟩ = some (.slice A.t c.got.length A.pt) := (xU HBX).cell (i := 14) (by omega)
 have k16 : W0.cell? ⟨w.heap.size, 16, none⟩ = some (.slice A.s c.shut.length A.ps) := (xU HBX).cell (i := 16) (by omega)
 go_wp2_with fail
 refine (szZ_any _ _ _ left _ (xU HL).q (by omega) (by omega)).mono ?_
 rintro e w1 ⟨r1, rfl, hr, hw⟩
 have hw' := hw.symm
 subst hw'
 clear hw
 rcases hr with rfl | ⟨p1, q1⟩
 · clear HWC
   go_wp2_with fail
   go_ret
   exact ⟨_, rfl, Or.inl rfl, xU HB⟩
 go_wp2_with fail
 refine (szH_any _ _ _ r1 _ (xU HL).h (by omega) (by omega)).mono ?_
 rintro e w1 ⟨r2, rfl, hr, hw⟩
 have hw' := hw.symm
 subst hw'
 clear hw
 rcases hr with rfl | ⟨p2, q2⟩
 · clear HWC
   go_wp2_with fail
   go_ret
   exact ⟨_, rfl, Or.inl rfl, xU HB⟩
 go_wp2_with fail
 refine (szZ_any _ _ _ r2 _ (xU HL).r (by omega) (by omega)).mono ?_
 rintro e w1 ⟨r3, rfl, hr, hw⟩
 have hw' := hw.symm
 subst hw'
 clear hw
 rcases hr with rfl | ⟨p3, q3⟩
 · clear HWC
   go_wp2_with fail
   go_ret
   exact ⟨_, rfl, Or.inl rfl, xU HB⟩
 go_wp2_with fail
 refine (szZ_any _ _ _ r3 _ (xU HL).g (by omega) (by omega)).mono ?_
 rintro e w1 ⟨r4, rfl, hr, hw⟩
 have hw' := hw.symm
 subst hw'
 clear hw
 rcases hr with rfl | ⟨p4, q4⟩
 · clear HWC
   go_wp2_with fail
   go_ret
   exact ⟨_, rfl, Or.inl rfl, xU HB⟩
 go_wp2_with fail
 refine (szZ_any _ _ _ r4 _ (xU HL).o (by omega) (by omega)).mono ?_
 rintro e w1 ⟨r5, rfl, hr, hw⟩
 have hw' := hw.symm
 subst hw'
 clear hw
 rcases hr with rfl | ⟨p5, q5⟩
 · clear HWC
   go_wp2_with fail
   go_ret
   exact ⟨_, rfl, Or.inl rfl, xU HB⟩
 go_wp2_with fail
 refine (szZ_any _ _ _ r5 _ (xU HL).t (by omega) (by omega)).mono ?_
 rintro e w1 ⟨r6, rfl, hr, hw⟩
 have hw' := hw.symm
 subst hw'
 clear hw
 rcases hr with rfl | ⟨p6, q6⟩
 · clear HWC
   go_wp2_with fail
   go_ret
   exact ⟨_, rfl, Or.inl rfl, xU HB⟩
 go_wp2_with fail
 refine (szZ_any _ _ _ r6 _ (xU HL).s (by omega) (by omega)).mono ?_
 rintro e w1 ⟨r7, rfl, hr, hw⟩
 have hw' := hw.symm
 subst hw'
 clear hw
 rcases hr with rfl | ⟨p7, q7⟩
 · clear HWC
   go_wp2_with fail
   go_ret
   exact ⟨_, rfl, Or.inl rfl, xU HB⟩
 have HE := xH (show r7 + (wt : Int) = left from by have := xU HWC; omega)
 clear q1 q2 q3 q4 q5 q6 q7 h0 h1
 go_wp2_with fail
 go_ret
 exact ⟨_, rfl, Or.inr ⟨p7, xU HE⟩, xU HB⟩
theorem toIntZ_any (a : Option Addr) (cap : Nat) (ss : List Int) (w : World) {P : Nat → Prop} (hP : ∀ b, P b → b < w.heap.size) (hv : ZAt P w (.slice a ss.length cap) ss) (h1 : ss.length ≤ 1048576) :
 Calls Tryz.prog 52 #[.slice a ss.length cap] w fun e w' => e = .returned (.slice (some ⟨w.heap.size, 0, none⟩) ss.length ss.length) ∧ ZOwn w' (.slice (some ⟨w.heap.size, 0, none⟩) ss.length ss.length) ss [w.heap.size] ∧ w.heap.size < w'.heap.size ∧ Below w.heap.size w w' := by
 obtain ⟨a', cap', e, hlen, hc⟩ := hv.open
 simp only [Value.slice.injEq] at e
 obtain ⟨rfl, -, rfl⟩ := e
 have HC := xH hc; have HP := xH hP; clear hc hP hv
 have hmk := run_make_row' (P := Tryz.prog) 23 3 (.int .i64 0) 8 Tryz.underlying23 infoIntM rfl .i64 .i64 ss.length (by omega) (by omega)
 go_enter Tryz.func52, Tryz.ntmps52
 go_wp2_with fail
 clear hmk
 go_loopw [4] (fun i wr => ∃ (k : Nat), k ≤ ss.length ∧ i = .int .i64 k ∧ Hid (wr.rowIs w.heap.size 3 ss.length (fun j => .int .i64 (if j < k then ss.getD j 0 else 0))) ∧ Below w.heap.size w wr) (fun i _ => ss.length - (intOf i).toNat)
 case atStart => exact ⟨0, Nat.zero_le _, rfl, xH (by simpa using World.rowIs_made w (.int .i64 0) ss.length _), (Below.refl _ _).alloc (Nat.le_refl _) _⟩
 case round =>
  obtain ⟨k, hk, rfl, HR, hb⟩ := hrel
  by_cases hlt : k < ss.length
  · obtain ⟨b, o, rfl, hpb, hcell⟩ := xU HC k hlt
    have hcell' : wr.cell? ⟨b, o + k, none⟩ = some (.int .i64 ss[k]) := by rw [hb.cell (xU HP b hpb)]; exact hcell
    have hf := HR.out.frozen k
    have hcc := HR.out.cell hlt
    simp only [Nat.lt_irrefl, if_false] at hcc
    have HGD := xH (show ss.getD k 0 = ss[k] by rw [List.getD_eq_getElem?_getD, List.getElem?_eq_getElem hlt]; rfl)
    clear hcell hpb
    generalize ss[k] = x at *
    go_wp2_with fail
    go_roundw
    case rel =>
     refine ⟨k + 1, by omega, by go_num, ?_, hb.setCell (Nat.le_refl _) _⟩
     refine (HR.out.set k _).congr fun i hi => ?_
     by_cases e : i = k
     · subst e; simp only [if_true]; rw [if_pos (by omega), xU HGD]
     · simp only [if_neg e]
       by_cases e2 : i < k
       · rw [if_pos e2, if_pos (by omega)]
       · rw [if_neg e2, if_neg (by omega)]
    case measure => simp [intOf]; omega
  · go_wp2_with fail
    go_ret
    obtain rfl : k = ss.length := by omega
    have hrow : wr.rowIs w.heap.size 3 ss.length (fun j => .int .i64 (ss.getD j 0)) := HR.out.congr (fun i hi => by rw [if_pos hi])
    refine ⟨rfl, ⟨_, _, by rw [List.length_map], by rw [List.length_map]; omega, Or.inr ⟨w.heap.size, rfl, rfl, fun o => hrow.frozen o, fun i hi j hj => ?_⟩⟩, hrow.lt, hb⟩
    obtain rfl : j = 0 := by omega
    rw [List.length_map] at hi
    rw [Nat.add_zero, Nat.mul_one, hrow.cell hi, List.getD_eq_getElem?_getD, List.getElem?_eq_getElem hi, List.getElem_map]
    rfl
theorem toHand_any (s j : Int) (w : World) : Calls Tryz.prog 86 #[.agg #[.int .i64 s, .int .i64 j]] w fun e w' => e = .returned (.agg #[.int .i64 s, .int .i64 j]) ∧ Below w.heap.size w w' := by
 have hb0 : ∀ o1 o2 o3, Below w.heap.size w (((w.alloc o1).alloc o2).alloc o3) := fun o1 o2 o3 => (((Below.refl _ _).alloc (Nat.le_refl _) o1).alloc (by simp) o2).alloc (by simp; omega) o3
 go_enter Tryz.func86, Tryz.ntmps86
 go_wp2_with fail
 refine bodyPost_ret (v := .agg #[.int .i64 s, .int .i64 j]) (by simp [results, Tryz.results86, go_sem]) rfl ⟨rfl, hb0 _ _ _⟩
theorem toHandS_any (a : Option Addr) (cap : Nat) (fs : List Hd) (w : World) {P : Nat → Prop} (hP : ∀ b, P b → b < w.heap.size) (hv : HAt P w (.slice a fs.length cap) fs) (h1 : fs.length ≤ 1048576) :
 Calls Tryz.prog 53 #[.slice a fs.length cap] w fun e w' => e = .returned (.slice (some ⟨w.heap.size, 0, none⟩) fs.length fs.length) ∧ HOwn w' (.slice (some ⟨w.heap.size, 0, none⟩) fs.length fs.length) fs [w.heap.size] ∧ w.heap.size < w'.heap.size ∧ Below w.heap.size w w' := by
 obtain ⟨a', cap', e, hlen, hc⟩ := hv.open
 simp only [Value.slice.injEq] at e
 obtain ⟨rfl, -, rfl⟩ := e
 have HC := xH hc; have HP := xH hP; clear hc hP hv
 have hmk := run_make_hands fs.length h1
 go_enter Tryz.func53, Tryz.ntmps53
 go_wp2_with fail
 clear hmk
 go_loopw [4] (fun i wr => ∃ (k : Nat), k ≤ fs.length ∧ i = .int .i64 k ∧ Hid (FLaid w wr 73 2 (fs.map Hd.cs) k) ∧ Below w.heap.size w wr) (fun i _ => fs.length - (intOf i).toNat)
 case atStart =>
  have h0 := FLaid.start w 73 2 #[.int .i64 0, .int .i64 0] (fs.map Hd.cs)
  rw [List.length_map] at h0
  exact ⟨0, Nat.zero_le _, rfl, xH h0, (Below.refl _ _).alloc (Nat.le_refl _) _⟩
 case round =>
  obtain ⟨k, hk, rfl, HL, hb⟩ := hrel
  by_cases hlt : k < fs.length
  · obtain ⟨b, o, rfl, hpb, hc0, hc1⟩ := xU HC k hlt
    have e0 : wr.cell? ⟨b, o + k * 2, none⟩ = some (.int .i64 fs[k].state) := by rw [hb.cell (p := ⟨b, o + k * 2, none⟩) (xU HP b hpb)]; exact hc0
    have e1 : wr.cell? ⟨b, o + k * 2 + 1, none⟩ = some (.int .i64 fs[k].job) := by rw [hb.cell (p := ⟨b, o + k * 2 + 1, none⟩) (xU HP b hpb)]; exact hc1
    have HS := xH (toHand_any fs[k].state fs[k].job wr)
    have HE := xH (show (fs.map Hd.cs)[k]'(by rw [List.length_map]; exact hlt) = [.int .i64 fs[k].state, .int .i64 fs[k].job] by rw [List.getElem_map]; rfl)
    clear hc0 hc1 hpb
    generalize fs[k].state = s at *
    generalize fs[k].job = j at *
    go_wp2_with fail
    refine (xU HS).mono ?_
    rintro e w' ⟨rfl, hb'⟩
    have hlk : k < (fs.map Hd.cs).length := by rw [List.length_map]; exact hlt
    have hrow := HL.out
    obtain ⟨ff, hrow, -⟩ := hrow
    have hrow' := hrow.of_block (hb'.block _ hrow.lt)
    rw [List.length_map] at hrow'
    have z0 := hrow'.frozen (k * 2); have z1 := hrow'.frozen (k * 2 + 1)
    have y0 := hrow'.cell (i := k * 2) (by omega); have y1 := hrow'.cell (i := k * 2 + 1) (by omega)
    have HB' := xH hb'
    clear hrow hrow' hb' HS e0 e1
    go_wp2_with fail
    go_roundw
    case rel =>
     have hb3 := hb.trans (HB'.out.mono hb.size)
     exact ⟨k + 1, by omega, by go_num, FLaid.step2 hlk HL.out HB'.out _ _ (xU HE), (hb3.setCell (Nat.le_refl _) _).setCell (Nat.le_refl _) _⟩
    case measure => simp [intOf]; omega
  · go_wp2_with fail
    go_ret
    obtain rfl : k = fs.length := by omega
    have hd := HL.out
    obtain ⟨f, hrow, hf⟩ := hd
    refine ⟨rfl, ⟨_, _, by rw [List.length_map], by rw [List.length_map]; omega, Or.inr ⟨w.heap.size, rfl, rfl, fun o => hrow.frozen o, fun i hi j hj => ?_⟩⟩, hrow.lt, hb⟩
    rw [hrow.cell (by omega), hf i (by rw [List.length_map] at hi; exact hi) hi j hj]
end Go.Proofs.YtibgjcejddpldaaGreat
