/- A part. -/
import Derived.Test.YtbkagahmiibclaaGreatDoorPart03
namespace Go.Proofs.YtbkagahmiibclaaGreatDoor
open Go Go.RowKit
set_option maxRecDepth 100000
set_option maxHeartbeats 3200000
theorem nds_one : ∀ (ks : List Kd) (h : ks.length = 1), nds ks = ndr (ks[0]'(by omega))
 | [], h => by simp at h
 | [k], _ => by simp [nds]
 | _ :: _ :: _, h => by simp at h
theorem Own.single {w' : World} {g : Nat} {s : Int} {tk : Tr} {c : C5} {F : List Nat} (hs : I64 s) (hrow : w'.rowIs g 26 5 (row5 c.c0 c.c1 c.c2 c.c3 c.c4)) (ho : Own w' tk c F) :
 Own w' (.mk s 0 ByteArray.empty [] [tk]) ⟨.int .i64 s, .int .i64 0, .string ByteArray.empty, .slice none 0 0, .slice (some ⟨g, 0, none⟩) 1 1⟩ (g :: F) :=
 Own.make (t := .mk s 0 ByteArray.empty [] [tk]) (F1 := []) (F2 := g :: F) rfl rfl rfl hs (show I64 0 from ⟨by decide, by decide⟩) (by simp [Tr.text]) ⟨none, 0, rfl, by simp [Tr.names], Or.inl ⟨rfl, rfl⟩⟩
  ⟨some ⟨g, 0, none⟩, 1, rfl, by simp [Tr.kids], Or.inr ⟨g, F, rfl, rfl, fun o => hrow.frozen o, by
   show OwnK w' g 0 [tk] F
   rw [OwnK]
   exact ⟨F, [], c, by simp, ⟨hrow.cell (i := 0) (by omega), hrow.cell (i := 1) (by omega), hrow.cell (i := 2) (by omega), hrow.cell (i := 3) (by omega), hrow.cell (i := 4) (by omega)⟩, ho, by rw [OwnK]⟩⟩⟩
theorem kid_push {R j q' g2 capK cap2 : Nat} {w W0 wc w6 w8 : World} {s : Int} {vN : Value} {aK : Option Addr} {ns : List ByteArray} {ts : List Tr} {xs : List Value} {G F : List Nat} {tk : Tr} {d : C5} {v : Value} {b : List UInt8} (hR : R < w.heap.size)
 (hS5 : SInv (w.heap.size + 3) (w.heap.size + 2) wc s vN (.slice aK j capK) ns ts xs G) (hS6 : SInv (w.heap.size + 3) (w.heap.size + 2) w6 s vN (.slice aK j capK) ns ts xs G) (hO : Own w6 tk d F) (hnd : F.Nodup) (hF : ∀ x, x ∈ F → wc.heap.size ≤ x ∧ x < w6.heap.size) (hD : DR R w6 v b q') (hB : BB R (w.heap.size + 2) W0 w6) (hl : ts.length = j)
 (hown : w8.ownsRow (w.heap.size + 3) 26 5 (.slice (some ⟨g2, 0, none⟩) (j + 1) cap2) (j + 1) (xs ++ c5l d)) (hg : (w6.alloc (.cells #[d.c0, d.c1, d.c2, d.c3, d.c4] 26)).grownBy w8 (Value.slice aK j capK).ownBlock) (hat : (Value.slice aK j capK).ownBlock = some g2 ∨ g2 = w6.heap.size + 1) :
 SInv (w.heap.size + 3) (w.heap.size + 2) (w8.setCell ⟨w.heap.size + 2, 4, none⟩ (.slice (some ⟨g2, 0, none⟩) (j + 1) cap2)) s vN (.slice (some ⟨g2, 0, none⟩) (j + 1) cap2) ns (ts ++ [tk]) (xs ++ c5l d) (G ++ F) ∧ DR R (w8.setCell ⟨w.heap.size + 2, 4, none⟩ (.slice (some ⟨g2, 0, none⟩) (j + 1) cap2)) v b q' ∧ BB R (w.heap.size + 2) W0 (w8.setCell ⟨w.heap.size + 2, 4, none⟩ (.slice (some ⟨g2, 0, none⟩) (j + 1) cap2)) := by
 have hz6 : ∀ o, (w6.alloc o).heap.size = w6.heap.size + 1 := fun o => World.size_alloc _ _
 have hal := World.grownBy_alloc w6 (.cells #[d.c0, d.c1, d.c2, d.c3, d.c4] 26) none
 have hsz := hS6.size
 have hrow : ∀ x, (Value.slice aK j capK).ownBlock = some x → w.heap.size + 3 ≤ x := fun x e => (hS6.got.row.lt x e).1
 refine ⟨SInv.kid (m := wc.heap.size) (hS6.kept hal) (Own.carry tk _ F (fun b hb => Below.heap_alloc _ _ _ (hF b hb).2) hO) hnd (fun b hb => ⟨(hF b hb).1, by rw [hz6]; have := (hF b hb).2; omega⟩) (fun b hb => (hS5.got.lt b hb).2.1) (fun b hb => (hS5.got.row.lt b hb).2) (fun b hb => (hS5.names.lt b hb).2) hS5.size (by rw [hl]; exact hown) hg (hat.elim (fun e => Or.inl (by rw [e]; rfl)) (fun e => Or.inr ⟨g2, rfl, by rw [hz6, e]; exact Nat.le_refl _⟩)), ?_, ?_⟩
 · exact ((hD.on ((Below.refl _ w6).alloc (Nat.le_refl _) _)).grown hg (fun x e => by have := hrow x e; omega)).set (by omega) _ _
 · exact ((hB.grown hal (by omega) (fun x e => by cases e)).grown hg (by rw [hz6]; omega) (fun x e => by have := hrow x e; omega)).set (by omega) _
theorem gathered_end {N R q p : Nat} {w W0 wr : World} {s : Int} {vN vK : Value} {ns : List ByteArray} {ts : List Tr} {xs : List Value} {G : List Nat} {v : Value} {b : List UInt8} (hs : I64 s) (hR : R < w.heap.size) (hbl : Below w.heap.size w W0) (hS : SInv (w.heap.size + 3) (w.heap.size + 2) wr s vN vK ns ts xs G) (hns : ∀ x, x ∈ ns → x.size ≤ 9223372036854775807) (hD : DR R wr v b q) (hB : BB R (w.heap.size + 2) W0 wr) (h1 : q ≤ p + N) (hz1 : 1 + lsz ts ≤ N) (hz2 : ns.length ≤ 1000000) (hz3 : nmK ts) (c0 c1 c2 c3 c4 : Value) :
 TsEnd N R w (((((wr.setCell ⟨w.heap.size + 1, 0, none⟩ c0).setCell ⟨w.heap.size + 1, 1, none⟩ c1).setCell ⟨w.heap.size + 1, 2, none⟩ c2).setCell ⟨w.heap.size + 1, 3, none⟩ c3).setCell ⟨w.heap.size + 1, 4, none⟩ c4) v b p (.returned (.agg #[.int .i64 s, .int .i64 0, .string ByteArray.empty, vN, vK])) := by
 obtain ⟨F, ho, hnd, hF⟩ := hS.done hs hns
 have hbb : But R w wr := ⟨hB.os.trans hbl.os, hB.tape.trans hbl.tape, hB.output.trans hbl.output, Nat.le_trans hbl.size hB.size, fun i hi hne => (hB.block i (by omega) (fun e => hne (by rw [e]))).trans (hbl.block i hi)⟩
 exact ts_end (c := ⟨_, _, _, _, _⟩) hR ho hnd (fun x hx => by have := hF x hx; omega) hD h1 hbb ⟨by rw [tsz]; exact hz1, by rw [nmT]; exact ⟨hz2, hz3⟩⟩ c0 c1 c2 c3 c4
theorem lt_4 (n : Nat) (IH : LtSaid n) (k : Kd) (hn : ksz k ≤ n) (hs4 : k.sort = 4) (hkl : k.kids.length = 1) (P : Nat → Prop) (c : C3) (w : World) (R : Nat) (v : Value) (b : List UInt8) (p : Nat) (hP : ∀ x, P x → x < w.heap.size ∧ x ≠ R) (hrep : KRep P w k c) (hok : okDs k.kids = true) (hd : DR R w v b p) (hp : p + ndr k ≤ 1000000) :
 Calls Tryz.prog 54 #[.pointer (some ⟨R, 0, none⟩), .agg #[c.c0, c.c1, c.c2]] w fun e w' => TsEnd (ndr k) R w w' v b p e := by
 have hR := hd.cells.lt
 obtain ⟨c0, c1, c2⟩ := c
 obtain ⟨e0, hi0, hns, a, cap, e2, -, hks⟩ := hrep.open
 simp only at e0 e2 hns
 obtain ⟨a3, cap3, e1, -, hnc⟩ := hns
 subst e0 e1 e2
 have h0 : 0 < k.kids.length := by omega
 obtain ⟨kb, ko, ⟨y0, y1, y2⟩, rfl, hpb, hcell, hrp⟩ := hks 0 h0
 rw [Nat.zero_mul, Nat.add_zero] at hcell
 have hndk : ndr k = 3 + 3 * ndr k.kids[0] := by
  rw [nd_eq, nds_one k.kids hkl]
 have hsm : ksz k.kids[0] < n := by have := ksz_kid (List.getElem_mem h0); omega
 have hcall0 := fun (W : World) (q : Nat) (hW : ∀ x, P x → W.heap[x]? = w.heap[x]?) (hsz : w.heap.size ≤ W.heap.size) (hD : DR R W v b q) (hq : q + ndr k.kids[0] ≤ 1000000) => IH k.kids[0] hsm P ⟨y0, y1, y2⟩ W R v b q (fun x hx => ⟨Nat.lt_of_lt_of_le (hP x hx).1 hsz, (hP x hx).2⟩) (KRep.carry hW (fun _ h => h) _ _ hrp) (okDs_get hok 0 h0) hD hq
 obtain ⟨p0, -, ⟨a5, cap5, p1, -⟩, a6, cap6, p2, -⟩ := hrp.open
 simp only at p0 p1 p2
 subst p0 p1 p2
 obtain ⟨i0, hi, hz0, hz1, hz2⟩ := info_parts infoTreeD
 have HII := hH hi; have HZ0 := hH hz0; have HZ1 := hH hz1; have HZ2 := hH hz2
 have HST := hH (LS.start w 4 (.slice a3 k.names.length cap3) (.slice (some ⟨kb, ko, none⟩) k.kids.length cap)); have HD := hH hd; have HC0 := hH hcall0; have HP := hH hP; have HCE := hH hcell
 rw [hs4, hndk]
 rw [hndk] at hp
 rw [hkl] at HST ⊢
 generalize k.kids[0] = kk at *
 generalize ndr kk = N at *
 clear hi hz0 hz1 hz2 hks hnc hrep hd hi0 hcall0 hP hcell hrp hsm hndk hok IH hn hs4 hkl h0
 go_enter Tryz.func54, Tryz.ntmps54
 go_wp2_with fail
 generalize hW0 : (((w.alloc (.cells #[.int .i64 4, .slice a3 k.names.length cap3, .slice (some ⟨kb, ko, none⟩) 1 cap] 83)).alloc (.cells #[.int .i64 0, .int .i64 0, .string ⟨#[]⟩, .slice none 0 0, .slice none 0 0] 26)).alloc (.cells #[.int .i64 4, .int .i64 0, .string ⟨#[]⟩, .slice none 0 0, .slice none 0 0] 26)) = W0 at *
 clear hW0
 refine (pick_any R W0 v b p 4 ((uh HD).on (uh HST).bl) (by omega) (by omega)).mono ?_
 rintro e w1 ⟨r, rfl, hr, HD1, HB1⟩
 have hL := uh HST
 have hsz0 := hL.size
 have HB0 := hH (HB1.out.bb (B := w.heap.size + 2) (by omega))
 have HS0 : Hid (SInv (w.heap.size + 3) (w.heap.size + 2) w1 4 (.slice none 0 0) (.slice none 0 0) [] [] [] []) := SInv.butD (R := R) (w := W0) ⟨by omega, hL.r2, World.ownsRow_nil _ _ _ _, GotO.start _ _, fun b hb => by simp [Value.ownBlock] at hb, by omega⟩ HB1.out (by omega)
 clear HD HB1 hL
 go_wp2_with fail
 go_loopw [6] (fun nn wr => ∃ (m j q : Nat) (aK : Option Addr) (capK : Nat) (ts : List Tr) (xs : List Value) (G : List Nat), m + j ≤ 3 ∧ nn = .int .i64 m ∧ ts.length = j ∧ q ≤ p + 1 + j * N ∧ Hid (lsz ts ≤ j * N ∧ nmK ts) ∧ Hid (SInv (w.heap.size + 3) (w.heap.size + 2) wr 4 (.slice none 0 0) (.slice aK j capK) [] ts xs G) ∧ Hid (DR R wr v b q) ∧ Hid (BB R (w.heap.size + 2) W0 wr)) (fun nn _ => (intOf nn).toNat)
 case atStart => exact ⟨r, 0, p + 1, none, 0, [], [], [], by omega, rfl, rfl, by omega, hH ⟨by simp [lsz], by rw [nmK]; trivial⟩, HS0, HD1, HB0⟩
 case round =>
  clear HS0 HD1 HB0
  obtain ⟨m, j, q, aK, capK, ts, xs, G, hmj, rfl, hlen, hq, HZ, HS, HD, HB⟩ := hrel
  have hsz := HS.out.size
  have hL := uh HST
  have q0 := hL.r0.of_block (HB.out.block w.heap.size (by omega) (by omega))
  have q1 := hL.r1.of_block (HB.out.block (w.heap.size + 1) (by omega) (by omega))
  have k2 := q0.cell (i := 2) (by omega)
  have t4 := HS.out.cells.cell (i := 4) (by omega)
  simp only [row3, row5] at k2 t4
  have hjN : j * N ≤ 3 * N := Nat.mul_le_mul_right _ (by omega)
  by_cases hm0 : m = 0
  · have hqm : decide ((0 : Int) < (m : Int)) = false := by simp; omega
    have hqn : decide (0 < m) = false := by simp; omega
    obtain ⟨y0, y1, y2, y3, y4⟩ := cs5 q1 (by omega); have yf := q1.frozen
    obtain ⟨t0, t1, t2, t3⟩ := cs4 HS.out.cells (by omega)
    simp only [row5] at y0 y1 y2 y3 y4 t0 t1 t2 t3
    have HEND := hH (fun c0 c1 c2 c3 c4 => gathered_end (N := 3 + 3 * N) (p := p) ⟨by decide, by decide⟩ hR hL.bl HS.out (fun x hx => by cases hx) HD.out HB.out (by omega) (by have := HZ.out.1; omega) (by simp) HZ.out.2 c0 c1 c2 c3 c4)
    clear HS HD HB q0 q1 hL HST hm0
    go_wp2_with fail
    refine bodyPost_ret (v := .agg #[.int .i64 4, .int .i64 0, .string ByteArray.empty, .slice none 0 0, .slice aK j capK]) (by simp [results, Tryz.results54, go_sem, y0, y1, y2, y3, y4]; rfl) rfl ?_
    exact uh HEND _ _ _ _ _
  · have hqm : decide ((0 : Int) < (m : Int)) = true := by simp; omega
    have hqn : decide (0 < m) = true := by simp; omega
    have hj2 : j * N ≤ 2 * N := Nat.mul_le_mul_right _ (by omega)
    have hold : ∀ x, P x → wr.heap[x]? = w.heap[x]? := fun x hx => by
     have h := uh HP x hx
     exact (HB.out.block x (by omega) h.2).trans (hL.bl.block x h.1)
    obtain ⟨f0, f1, f2⟩ := (uh HCE).carry (hold kb hpb)
    simp only at f0 f1 f2
    have hcall : Calls Tryz.prog 54 #[.pointer (some ⟨R, 0, none⟩), .agg #[.int .i64 kk.sort, .slice a5 kk.names.length cap5, .slice a6 kk.kids.length cap6]] wr.drew fun e w6 => ∃ e0 e1 e2 a7 n7 cap7 a8 n8 cap8 tk F q', e = .returned (.agg #[.int .i64 e0, .int .i64 e1, .string e2, .slice a7 n7 cap7, .slice a8 n8 cap8]) ∧ Hid (Own w6 tk ⟨.int .i64 e0, .int .i64 e1, .string e2, .slice a7 n7 cap7, .slice a8 n8 cap8⟩ F) ∧ F.Nodup ∧ Hid (∀ x, x ∈ F → wr.heap.size ≤ x ∧ x < w6.heap.size) ∧ Hid (BB R (w.heap.size + 2) W0 w6) ∧ wr.heap.size ≤ w6.heap.size ∧ Hid (SInv (w.heap.size + 3) (w.heap.size + 2) w6 4 (.slice none 0 0) (.slice aK j capK) [] ts xs G) ∧ Hid (DR R w6 v b q') ∧ Hid (tsz tk ≤ N ∧ nmT tk) ∧ q' ≤ q + N ∧ w6.cell? ⟨w.heap.size + 2, 4, none⟩ = some (.slice aK j capK) ∧ ∀ ob, (w6.alloc ob).cell? ⟨w.heap.size + 2, 4, none⟩ = some (.slice aK j capK) := by
     refine (uh HC0 wr.drew q hold (by show w.heap.size ≤ wr.heap.size; omega) (HD.out.on (Below.refl _ wr).drew) (by omega)).mono ?_
     rintro e w6 ⟨tk, ⟨y0, y1, y2, y3, y4⟩, F, q', rfl, ho, hn1, hl1, hd6, hq6, hb6, hz6⟩
     obtain ⟨z0, z1, z2, -, -, -, -, -, -, ⟨a7, cap7, z3, -⟩, a8, cap8, z4, -⟩ := ho.open
     simp only at z0 z1 z2 z3 z4
     subst z0 z1 z2 z3 z4
     have hbw : But R wr w6 := (But.of_below (Below.refl _ wr).drew).trans hb6
     have hs6 := HS.out.butD hbw (by omega)
     exact ⟨_, _, _, _, _, _, _, _, _, tk, F, q', rfl, ho, hn1, hl1, HB.out.trans (hbw.bb (by omega)), hbw.size, hs6, hd6, hz6, hq6, hs6.cells.cell (i := 4) (by omega), fun ob => (hs6.cells.alloc ob).cell (i := 4) (by omega)⟩
    have HCALL := hH hcall
    have hwm : IntKind.i64.wrap ((m : Int) - 1) = (m : Int) - 1 := by rw [IntKind.wrap_i64]; omega
    clear hcall hold q0 q1 hL
    go_wp2_with fail
    go_region_law (first
     | ((refine step_append_lies _ (by rfl) _ _ _ (by rfl) (w.heap.size + 3) 26 i0 _ 5 80 Tryz.underlying24 (uh HII) (uh HZ0) (uh HZ1) (uh HZ2) rfl (by decide) (.slice aK j capK) j xs (by rfl) (by have := (uh HS6).got.row; rw [hlen] at this; exact this.alloc _) ⟨w6.heap.size, 0, none⟩ 1 1 (c5l ⟨.int .i64 e0, .int .i64 e1, .string e2, .slice a7 n7 cap7, .slice a8 n8 cap8⟩) (by rfl) (by rfl) (cell_five w6 _ _) (uh HOW).one (by decide) (by unfold maxLen; omega) (by omega) (by simp; omega) (w6.heap.size + 1) (by simp) ?_; intro g2 cap2 w8 hown8 hgrow8 hat8 hlt8; have u4 := (SInv.atK (uh HS6) hgrow8).cell (i := 4) (by omega); have uz4 := (SInv.atK (uh HS6) hgrow8).frozen 4; simp only [row5] at u4))
     | (rw [if_pos (by first | rfl | simp [Region.wanted])]; go_simp; refine (uh HCALL).mono ?_; rintro e w6 ⟨e0, e1, e2, a7, n7, cap7, a8, n8, cap8, tk, F, q', rfl, HOW, hFn, HFL, HB6, hs6, HS6, HD6, HZ6, hq6, t4c, t4d⟩))
    all_goals
     obtain ⟨hinv8, hd8, hb8⟩ := kid_push hR HS.out (uh HS6) (uh HOW) hFn (uh HFL) (uh HD6) (uh HB6) hlen hown8 hgrow8 hat8
     have HI8 := hH hinv8; have HD8 := hH hd8; have HB8 := hH hb8
     clear hinv8 hd8 hb8 hown8 hgrow8 hat8 hlt8 u4 uz4 HS6 HOW HFL HB6 HD6 HS HB HD t4c t4d
     go_wp2_with fail
     go_roundw
     case rel => exact ⟨m - 1, j + 1, q', some ⟨g2, 0, none⟩, cap2, ts ++ [tk], _, _, by omega, by go_num, by simp [hlen], by rw [Nat.add_mul, Nat.one_mul]; omega, hH ⟨by rw [lsz_snoc, Nat.add_mul, Nat.one_mul]; have := HZ.out.1; have := HZ6.out.1; omega, nmK_snoc HZ.out.2 HZ6.out.2⟩, HI8, HD8, HB8⟩
     case measure => simp [intOf]; omega

theorem lt_single {N R : Nat} {w W0 W : World} {v : Value} {b : List UInt8} {p p' : Nat} {s : Int} {tk : Tr} {c : C5} {F : List Nat} (hs : I64 s) (hR : R < w.heap.size) (hbl : Below w.heap.size w W0) (ho : Own W tk c F) (hnd : F.Nodup) (hF : ∀ x, x ∈ F → w.heap.size + 2 < x ∧ x < W.heap.size) (hz : w.heap.size + 2 < W.heap.size) (hd : DR R W v b p') (h1 : p' ≤ p + N) (hb : But R W0 W) (hsz9 : 1 + tsz tk ≤ N ∧ nmT tk) (u c0 c1 c2 c3 c4 : Value) :
 TsEnd N R w (((((((W.setCell ⟨w.heap.size + 2, 4, none⟩ u).setCell ⟨w.heap.size + 1, 0, none⟩ c0).setCell ⟨w.heap.size + 1, 1, none⟩ c1).setCell ⟨w.heap.size + 1, 2, none⟩ c2).setCell ⟨w.heap.size + 1, 3, none⟩ c3).setCell ⟨w.heap.size + 1, 4, none⟩ c4).alloc (.cells #[c.c0, c.c1, c.c2, c.c3, c.c4] 26)) v b p (.returned (.agg #[.int .i64 s, .int .i64 0, .string ByteArray.empty, .slice none 0 0, .slice (some ⟨W.heap.size, 0, none⟩) 1 1])) := by
 generalize hV : ((((((W.setCell ⟨w.heap.size + 2, 4, none⟩ u).setCell ⟨w.heap.size + 1, 0, none⟩ c0).setCell ⟨w.heap.size + 1, 1, none⟩ c1).setCell ⟨w.heap.size + 1, 2, none⟩ c2).setCell ⟨w.heap.size + 1, 3, none⟩ c3).setCell ⟨w.heap.size + 1, 4, none⟩ c4) = V
 have hsz : V.heap.size = W.heap.size := by rw [← hV]; simp only [size_setCell]
 have hoth : ∀ x, x ≠ w.heap.size + 1 → x ≠ w.heap.size + 2 → V.heap[x]? = W.heap[x]? := fun x h1 h2 => by
  rw [← hV]
  repeat rw [Below.heap_setCell _ _ _ _ (by simp; omega)]
 have hdV : DR R V v b p' := by
  rw [← hV]
  repeat refine DR.set ?_ (by omega) _ _
  exact hd
 have hbV : But R w V := by
  rw [← hV]
  repeat refine but_setx ?_ (by omega) _ _
  exact (But.of_below hbl).trans hb
 have hoV : Own (V.alloc (.cells #[c.c0, c.c1, c.c2, c.c3, c.c4] 26)) tk c F := Own.carry _ _ F (fun x hx => by
  have := hF x hx
  rw [Below.heap_alloc _ _ _ (by rw [hsz]; omega)]; exact hoth x (by omega) (by omega)) ho
 have hrow := row5_alloc V c.c0 c.c1 c.c2 c.c3 c.c4 26
 rw [hsz] at hrow
 refine ⟨.mk s 0 ByteArray.empty [] [tk], ⟨_, _, _, _, _⟩, W.heap.size :: F, p', rfl, Own.single hs hrow hoV, List.nodup_cons.2 ⟨fun hm => by have := (hF _ hm).2; omega, hnd⟩, fun x hx => ?_, hdV.on ((Below.refl _ _).alloc (Nat.le_refl _) _), h1, hbV.trans (But.alloc R _ _), by simp only [tsz, lsz]; have := hsz9.1; omega, by simp only [nmT, nmK]; exact ⟨by simp, hsz9.2, trivial⟩⟩
 rw [World.size_alloc, hsz]
 rcases List.mem_cons.1 hx with rfl | hx
 · omega
 · have := hF x hx; omega
theorem lt_6 (n : Nat) (IH : LtSaid n) (k : Kd) (hn : ksz k ≤ n) (hs4 : k.sort = 6) (hkl : k.kids.length = 1) (P : Nat → Prop) (c : C3) (w : World) (R : Nat) (v : Value) (b : List UInt8) (p : Nat) (hP : ∀ x, P x → x < w.heap.size ∧ x ≠ R) (hrep : KRep P w k c) (hok : okDs k.kids = true) (hd : DR R w v b p) (hp : p + ndr k ≤ 1000000) :
 Calls Tryz.prog 54 #[.pointer (some ⟨R, 0, none⟩), .agg #[c.c0, c.c1, c.c2]] w fun e w' => TsEnd (ndr k) R w w' v b p e := by
 have hR := hd.cells.lt
 obtain ⟨c0, c1, c2⟩ := c
 obtain ⟨e0, hi0, hns, a, cap, e2, -, hks⟩ := hrep.open
 simp only at e0 e2 hns
 obtain ⟨a3, cap3, e1, -, hnc⟩ := hns
 subst e0 e1 e2
 have h0 : 0 < k.kids.length := by omega
 obtain ⟨kb, ko, ⟨y0, y1, y2⟩, rfl, hpb, hcell, hrp⟩ := hks 0 h0
 rw [Nat.zero_mul, Nat.add_zero] at hcell
 have hndk : ndr k = 3 + 3 * ndr k.kids[0] := by rw [nd_eq, nds_one k.kids hkl]
 have hsm : ksz k.kids[0] < n := by have := ksz_kid (List.getElem_mem h0); omega
 have hcall0 := fun (W : World) (q : Nat) (hW : ∀ x, P x → W.heap[x]? = w.heap[x]?) (hsz : w.heap.size ≤ W.heap.size) (hD : DR R W v b q) (hq : q + ndr k.kids[0] ≤ 1000000) => IH k.kids[0] hsm P ⟨y0, y1, y2⟩ W R v b q (fun x hx => ⟨Nat.lt_of_lt_of_le (hP x hx).1 hsz, (hP x hx).2⟩) (KRep.carry hW (fun _ h => h) _ _ hrp) (okDs_get hok 0 h0) hD hq
 obtain ⟨p0, -, ⟨a5, cap5, p1, -⟩, a6, cap6, p2, -⟩ := hrp.open
 simp only at p0 p1 p2
 subst p0 p1 p2
 have HST := hH (LS.start w 6 (.slice a3 k.names.length cap3) (.slice (some ⟨kb, ko, none⟩) k.kids.length cap)); have HD := hH hd; have HC0 := hH hcall0; have HP := hH hP; have HCE := hH hcell
 rw [hs4, hndk]
 rw [hndk] at hp
 rw [hkl] at HST ⊢
 generalize k.kids[0] = kk at *
 generalize ndr kk = N at *
 clear hks hnc hrep hd hi0 hcall0 hP hcell hrp hsm hndk hok IH hn hs4 hkl h0
 go_enter Tryz.func54, Tryz.ntmps54
 go_wp2_with fail
 generalize hW0 : (((w.alloc (.cells #[.int .i64 6, .slice a3 k.names.length cap3, .slice (some ⟨kb, ko, none⟩) 1 cap] 83)).alloc (.cells #[.int .i64 0, .int .i64 0, .string ⟨#[]⟩, .slice none 0 0, .slice none 0 0] 26)).alloc (.cells #[.int .i64 6, .int .i64 0, .string ⟨#[]⟩, .slice none 0 0, .slice none 0 0] 26)) = W0 at *
 clear hW0
 refine (pick_any R W0 v b p 3 ((uh HD).on (uh HST).bl) (by omega) (by omega)).mono ?_
 rintro e w1 ⟨r, rfl, hr, HD1, HB1⟩
 have hL := uh HST
 have hsz0 := hL.size
 have hsz1 := HB1.out.size
 by_cases hr0 : r = 0
 · subst hr0
   have r1 := hL.r1.of_block (HB1.out.at hL.r1.lt (by omega)); have r2 := hL.r2.of_block (HB1.out.at hL.r2.lt (by omega))
   obtain ⟨y0, y1, y2, y3, y4⟩ := cs5 r1 (by omega); have yf := r1.frozen
   obtain ⟨t0, t1, t2, t3, t4⟩ := cs5 r2 (by omega); have tf := r2.frozen
   simp only [row5] at y0 y1 y2 y3 y4 t0 t1 t2 t3 t4
   have HEND := hH (fun c0 c1 c2 c3 c4 => ts_end (N := 3 + 3 * N) (p := p) (t := .mk 6 0 ByteArray.empty [] []) (c := ⟨_, _, _, _, _⟩) (F := []) hR (Own.leafD w1 6 0 ByteArray.empty ⟨by decide, by decide⟩ ⟨by decide, by decide⟩ (by decide)) List.nodup_nil (fun x hx => by cases hx) HD1.out (by omega) ((But.of_below hL.bl).trans HB1.out) ⟨by simp only [tsz, lsz]; omega, by simp [nmT, nmK]⟩ c0 c1 c2 c3 c4)
   clear r1 r2 HD1 HB1 hL HST HD
   go_wp2_with fail
   refine bodyPost_ret (v := .agg #[.int .i64 6, .int .i64 0, .string ByteArray.empty, .slice none 0 0, .slice none 0 0]) (by simp [results, Tryz.results54, go_sem, y0, y1, y2, y3, y4]; rfl) rfl ?_
   exact uh HEND _ _ _ _ _
 · have hq0 : decide ((0 : Int) < (r : Int)) = true := by simp; omega
   have hqn : decide (0 < r) = true := by simp; omega
   have r0 := hL.r0.of_block (HB1.out.at hL.r0.lt (by omega))
   have k2 := r0.cell (i := 2) (by omega)
   simp only [row3] at k2
   have hold : ∀ x, P x → w1.heap[x]? = w.heap[x]? := fun x hx => by
    have h := uh HP x hx
    exact (HB1.out.at (by omega) h.2).trans (hL.bl.block x h.1)
   obtain ⟨f0, f1, f2⟩ := (uh HCE).carry (hold kb hpb)
   simp only at f0 f1 f2
   have HC1 := hH (uh HC0 w1 (p + 1) hold (by omega) HD1.out (by omega))
   clear hold r0 HC0 HCE
   go_wp2_with fail
   refine (uh HC1).mono ?_
   rintro e w2 ⟨tk, ⟨x0, x1, x2, x3, x4⟩, F, q', rfl, ho, hn1, hl1, hd6, hq6, hb6, hz6⟩
   obtain ⟨z0, z1, z2, -, -, -, -, -, -, ⟨a7, cap7, z3, -⟩, a8, cap8, z4, -⟩ := ho.open
   simp only at z0 z1 z2 z3 z4
   subst z0 z1 z2 z3 z4
   have hb2 : But R W0 w2 := HB1.out.trans hb6
   have hsz2 := hb6.size
   have r1 := hL.r1.of_block (hb2.at hL.r1.lt (by omega)); have r2 := hL.r2.of_block (hb2.at hL.r2.lt (by omega))
   obtain ⟨y0, y1, y2, y3, y4⟩ := cs5 r1 (by omega); have yf := r1.frozen
   obtain ⟨t0, t1, t2, t3, t4⟩ := cs5 r2 (by omega); have tf := r2.frozen
   simp only [row5] at y0 y1 y2 y3 y4 t0 t1 t2 t3 t4
   have HEND := hH (fun u c0 c1 c2 c3 c4 => lt_single (N := 3 + 3 * N) (p := p) (s := 6) ⟨by decide, by decide⟩ hR hL.bl ho hn1 (fun x hx => by have := hl1 x hx; omega) (by omega) hd6 (by omega) hb2 ⟨by have := hz6.1; omega, hz6.2⟩ u c0 c1 c2 c3 c4)
   have hlt1 : w.heap.size + 1 < w2.heap.size := by omega
   have hlt2 : w.heap.size + 2 < w2.heap.size := by omega
   clear r1 r2 HD1 HB1 hL HST HD ho hl1 hd6 hb6 hb2 HC1 f0 f1 f2 k2
   go_wp2_with fail
   refine bodyPost_ret (v := .agg #[.int .i64 6, .int .i64 0, .string ByteArray.empty, .slice none 0 0, .slice (some ⟨w2.heap.size, 0, none⟩) 1 1]) (by simp [results, Tryz.results54, go_sem, y0, y1, y2, y3, y4, hlt1]; rfl) rfl ?_
   exact uh HEND _ _ _ _ _ _

theorem name_push {R j q g1 capN cap1 : Nat} {w W0 wr w4 : World} {s : Int} {aN : Option Addr} {vK : Value} {ns : List ByteArray} {ts : List Tr} {xs : List Value} {G : List Nat} {nm : ByteArray} {v : Value} {b : List UInt8} (hR : R < w.heap.size)
 (hS : SInv (w.heap.size + 3) (w.heap.size + 2) wr s (.slice aN j capN) vK ns ts xs G) (hD : DR R wr v b q) (hB : BB R (w.heap.size + 2) W0 wr) (hl : ns.length = j)
 (hown : w4.ownsRow (w.heap.size + 3) 9 1 (.slice (some ⟨g1, 0, none⟩) (j + 1) cap1) (j + 1) (ns.map Value.string ++ [.string nm])) (hg : (wr.drew.alloc (.cells #[.string nm] 9)).grownBy w4 (Value.slice aN j capN).ownBlock) (hat : (Value.slice aN j capN).ownBlock = some g1 ∨ g1 = wr.heap.size + 1) :
 SInv (w.heap.size + 3) (w.heap.size + 2) (w4.setCell ⟨w.heap.size + 2, 3, none⟩ (.slice (some ⟨g1, 0, none⟩) (j + 1) cap1)) s (.slice (some ⟨g1, 0, none⟩) (j + 1) cap1) vK (ns ++ [nm]) ts xs G ∧ DR R (w4.setCell ⟨w.heap.size + 2, 3, none⟩ (.slice (some ⟨g1, 0, none⟩) (j + 1) cap1)) v b q ∧ BB R (w.heap.size + 2) W0 (w4.setCell ⟨w.heap.size + 2, 3, none⟩ (.slice (some ⟨g1, 0, none⟩) (j + 1) cap1)) := by
 have hz : ∀ o, (wr.drew.alloc o).heap.size = wr.heap.size + 1 := fun o => by rw [World.size_alloc]; rfl
 have hsz := hS.size
 have hSD : SInv (w.heap.size + 3) (w.heap.size + 2) wr.drew s (.slice aN j capN) vK ns ts xs G := hS.kept ⟨rfl, rfl, rfl, Nat.le_refl _, fun _ _ _ => rfl⟩
 have hal := World.grownBy_alloc wr.drew (.cells #[.string nm] 9) none
 have hrow : ∀ x, (Value.slice aN j capN).ownBlock = some x → w.heap.size + 3 ≤ x := fun x e => (hSD.names.lt x e).1
 have hwd : w.heap.size + 3 ≤ wr.drew.heap.size := hsz
 refine ⟨SInv.name (hSD.kept hal) (by rw [hl]; exact hown) hg (hat.elim (fun e => Or.inl (by rw [e]; rfl)) (fun e => Or.inr ⟨g1, rfl, by rw [hz, e]; exact Nat.le_refl _⟩)), ?_, ?_⟩
 · exact (((hD.on (Below.refl _ wr).drew).on ((Below.refl _ wr.drew).alloc (Nat.le_refl _) _)).grown hg (fun x e => by have := hrow x e; omega)).set (by omega) _ _
 · exact ((hB.drew.grown hal (by omega) (fun x e => by cases e)).grown hg (by rw [hz]; omega) (fun x e => by have := hrow x e; omega)).set (by omega) _
theorem lt_5 (n : Nat) (IH : LtSaid n) (k : Kd) (hn : ksz k ≤ n) (hs5 : k.sort = 5) (hkl : k.kids.length = k.names.length) (hri : riseB k.names = true) (hbig : k.names.length ≤ 1000000) (P : Nat → Prop) (c : C3) (w : World) (R : Nat) (v : Value) (b : List UInt8) (p : Nat) (hP : ∀ x, P x → x < w.heap.size ∧ x ≠ R) (hrep : KRep P w k c) (hok : okDs k.kids = true) (hd : DR R w v b p) (hp : p + ndr k ≤ 1000000) :
 Calls Tryz.prog 54 #[.pointer (some ⟨R, 0, none⟩), .agg #[c.c0, c.c1, c.c2]] w fun e w' => TsEnd (ndr k) R w w' v b p e := by
 have hR := hd.cells.lt
 have hndk := nd_eq k
 have hns8 : ∀ x, x ∈ k.names → x.size ≤ 9223372036854775807 := fun x hx => by
  obtain ⟨i, hi, rfl⟩ := List.getElem_of_mem hx
  have := rise_size hri i hi
  omega
 obtain ⟨c0, c1, c2⟩ := c
 obtain ⟨e0, hi0, hns, a, cap, e2, -, hks⟩ := hrep.open
 simp only at e0 e2 hns
 obtain ⟨a3, cap3, e1, -, hnc⟩ := hns
 subst e0 e1 e2
 obtain ⟨i0, hi, hz0, hz1, hz2⟩ := info_parts infoTreeD
 obtain ⟨j0, hj, hy0, hy1, hy2⟩ := info_parts infoStr1
 have HII := hH hi; have HZ0 := hH hz0; have HZ1 := hH hz1; have HZ2 := hH hz2
 have HJJ := hH hj; have HY0 := hH hy0; have HY1 := hH hy1; have HY2 := hH hy2
 have HST := hH (LS.start w 5 (.slice a3 k.names.length cap3) (.slice a k.kids.length cap)); have HD := hH hd; have HP := hH hP; have HI := hH IH; have HK := hH hks; have HNC := hH hnc; have HOK := hH hok; have HNS8 := hH hns8; have HN := hH hn; have HKL := hH hkl; have HNDK := hH hndk; have HPP := hH hp
 rw [hs5]
 clear hi hz0 hz1 hz2 hj hy0 hy1 hy2 hks hnc hrep hd hi0 hP hok IH hn hs5 hkl hri hns8 hndk hp
 go_enter Tryz.func54, Tryz.ntmps54
 go_wp2_with fail
 generalize hW0 : (((w.alloc (.cells #[.int .i64 5, .slice a3 k.names.length cap3, .slice a k.kids.length cap] 83)).alloc (.cells #[.int .i64 0, .int .i64 0, .string ⟨#[]⟩, .slice none 0 0, .slice none 0 0] 26)).alloc (.cells #[.int .i64 5, .int .i64 0, .string ⟨#[]⟩, .slice none 0 0, .slice none 0 0] 26)) = W0 at *
 clear hW0
 have hsz0 := (uh HST).size
 have HS0 : Hid (SInv (w.heap.size + 3) (w.heap.size + 2) W0 5 (.slice none 0 0) (.slice none 0 0) [] [] [] []) := ⟨by omega, (uh HST).r2, World.ownsRow_nil _ _ _ _, GotO.start _ _, fun b hb => by simp [Value.ownBlock] at hb, by omega⟩
 have HD0 := hH ((uh HD).on (uh HST).bl)
 clear HD
 go_loopw [7] (fun nn wr => ∃ (j q : Nat) (aN : Option Addr) (capN : Nat) (aK : Option Addr) (capK : Nat) (ts : List Tr) (xs : List Value) (G : List Nat), j ≤ k.names.length ∧ nn = .int .i64 j ∧ ts.length = j ∧ q ≤ p + nds (k.kids.take j) ∧ Hid (lsz ts ≤ nds (k.kids.take j) ∧ nmK ts) ∧ Hid (SInv (w.heap.size + 3) (w.heap.size + 2) wr 5 (.slice aN j capN) (.slice aK j capK) (k.names.take j) ts xs G) ∧ Hid (DR R wr v b q) ∧ Hid (BB R (w.heap.size + 2) W0 wr)) (fun nn _ => k.names.length - (intOf nn).toNat)
 case atStart => exact ⟨0, p, none, 0, none, 0, [], [], [], Nat.zero_le _, rfl, rfl, by omega, hH ⟨by simp [lsz], by rw [nmK]; trivial⟩, HS0, HD0, BB.refl _ _ _⟩
 case round =>
  clear HS0 HD0
  obtain ⟨j, q, aN, capN, aK, capK, ts, xs, G, hjl, rfl, hlen, hq, HZ, HS, HD, HB⟩ := hrel
  have hsz := HS.out.size
  have q0 := (uh HST).r0.of_block (HB.out.block w.heap.size (by omega) (by omega))
  have k1 := q0.cell (i := 1) (by omega); have k2 := q0.cell (i := 2) (by omega)
  have t3 := HS.out.cells.cell (i := 3) (by omega); have t4 := HS.out.cells.cell (i := 4) (by omega)
  simp only [row3, row5] at k1 k2 t3 t4
  have HQ := hH hq
  clear hq q0
  by_cases hlt : j < k.names.length
  · obtain ⟨nb, no, rfl, hpn, hcn, -⟩ := uh HNC j hlt
    have hold : ∀ x, P x → wr.heap[x]? = w.heap[x]? := fun x hx => by
     have h := uh HP x hx
     exact (HB.out.block x (by omega) h.2).trans ((uh HST).bl.block x h.1)
    have en : wr.cell? ⟨nb, no + j, none⟩ = some (.string k.names[j]) := by rw [World.cell?_of_block (w := w) (a := ⟨nb, no + j, none⟩) (hold nb hpn)]; exact hcn
    have htn : k.names.take (j + 1) = k.names.take j ++ [k.names[j]] := List.take_succ_eq_append_getElem hlt
    have hln : (k.names.take j).length = j := by simp; omega
    generalize k.names[j] = nm at *
    have HTN := hH htn; have HLN := hH hln
    have HSD : Hid (SInv (w.heap.size + 3) (w.heap.size + 2) wr.drew 5 (.slice aN j capN) (.slice aK j capK) (k.names.take j) ts xs G) := HS.out.kept ⟨rfl, rfl, rfl, Nat.le_refl _, fun _ _ _ => rfl⟩
    have t3a : ∀ ob, (wr.alloc ob).cell? ⟨w.heap.size + 2, 3, none⟩ = some (.slice aN j capN) := fun ob => ((HS.out.cells.alloc ob).cell (i := 3) (by omega))
    clear hpn hcn htn hln hold
    go_upto_region 21 with fail
    go_cut [] from 62 to 90 (fun wx => ∃ g1 cap1, Hid (SInv (w.heap.size + 3) (w.heap.size + 2) wx 5 (.slice (some ⟨g1, 0, none⟩) (j + 1) cap1) (.slice aK j capK) (k.names.take (j + 1)) ts xs G) ∧ Hid (DR R wx v b q) ∧ Hid (BB R (w.heap.size + 2) W0 wx))
    case first =>
     go_region_law ((refine step_append_lies _ (by rfl) _ _ _ (by rfl) (w.heap.size + 3) 9 j0 (.string ByteArray.empty) 1 16 Tryz.underlying23 (uh HJJ) (uh HY0) (uh HY1) (uh HY2) rfl (by decide) (.slice aN j capN) j ((k.names.take j).map Value.string) (by rfl) (by have := HSD.out.names; rw [uh HLN] at this; exact this.alloc _) ⟨wr.heap.size, 0, none⟩ 1 1 [.string nm] (by rfl) (by rfl) (cell_one wr.drew _ _) (fun u hu => by simp at hu; subst hu; rfl) (by decide) (by unfold maxLen; omega) (by omega) (by simp; omega) (wr.heap.size + 1) (by simp) ?_; intro g1 cap1 w4 hown4 hgrow4 hat4 hlt4; have u3 := (SInv.atN HSD.out hgrow4).cell (i := 3) (by omega); have uz := (SInv.atN HSD.out hgrow4).frozen 3; simp only [row5] at u3))
     all_goals
      obtain ⟨hinv5, hd5, hb5⟩ := name_push hR HS.out HD.out HB.out (uh HLN) hown4 hgrow4 hat4
      rw [← uh HTN] at hinv5
      have HI5 := hH hinv5; have HD5 := hH hd5; have HB5 := hH hb5
      clear hinv5 hd5 hb5 hown4 hgrow4 hat4 hlt4 uz u3
      go_wp2_with fail
      go_meet
      exact ⟨g1, cap1, HI5, HD5, HB5⟩
    case rest =>
     obtain ⟨g1, cap1, HS5, HD5, HB5⟩ := hcut
     clear HSD HS HB HD t3 t4 t3a k1 k2 en
     have hlk : j < k.kids.length := by have := uh HKL; omega
     have hsz5 := HS5.out.size
     have hold : ∀ x, P x → wc.heap[x]? = w.heap[x]? := fun x hx => by
      have h := uh HP x hx
      exact (HB5.out.block x (by omega) h.2).trans ((uh HST).bl.block x h.1)
     obtain ⟨kb, ko, ⟨d0, d1, d2⟩, rfl, hpb, hcell, hrp⟩ := uh HK j hlk
     have hcell' := hcell.carry (hold kb hpb)
     have hrw : KRep P wc.drew k.kids[j] ⟨d0, d1, d2⟩ := KRep.carry (w' := wc.drew) hold (fun _ h => h) _ _ hrp
     obtain ⟨p0, -, ⟨a5, cap5, p1, -⟩, a6, cap6, p2, -⟩ := hrp.open
     simp only at p0 p1 p2
     subst p0 p1 p2
     obtain ⟨f0, f1, f2⟩ := hcell'
     simp only at f0 f1 f2
     have hsm : ksz k.kids[j] < n := by have := ksz_kid (List.getElem_mem hlk); have := uh HN; omega
     have q0 := (uh HST).r0.of_block (HB5.out.block w.heap.size (by omega) (by omega))
     have k2 := q0.cell (i := 2) (by omega)
     have t4 := HS5.out.cells.cell (i := 4) (by omega)
     simp only [row3, row5] at k2 t4
     have hnt := nds_take k.kids j hlk
     have hnl := nds_le k.kids (j + 1)
     have hqb : q + ndr k.kids[j] ≤ 1000000 := by have := uh HQ; have := uh HNDK; have := uh HPP; omega
     have hcall : Calls Tryz.prog 54 #[.pointer (some ⟨R, 0, none⟩), .agg #[.int .i64 k.kids[j].sort, .slice a5 k.kids[j].names.length cap5, .slice a6 k.kids[j].kids.length cap6]] wc.drew fun e w6 => ∃ e0 e1 e2 a7 n7 cap7 a8 n8 cap8 tk F q', e = .returned (.agg #[.int .i64 e0, .int .i64 e1, .string e2, .slice a7 n7 cap7, .slice a8 n8 cap8]) ∧ Hid (Own w6 tk ⟨.int .i64 e0, .int .i64 e1, .string e2, .slice a7 n7 cap7, .slice a8 n8 cap8⟩ F) ∧ F.Nodup ∧ Hid (∀ x, x ∈ F → wc.heap.size ≤ x ∧ x < w6.heap.size) ∧ Hid (BB R (w.heap.size + 2) W0 w6) ∧ wc.heap.size ≤ w6.heap.size ∧ Hid (SInv (w.heap.size + 3) (w.heap.size + 2) w6 5 (.slice (some ⟨g1, 0, none⟩) (j + 1) cap1) (.slice aK j capK) (k.names.take (j + 1)) ts xs G) ∧ Hid (DR R w6 v b q') ∧ Hid (tsz tk ≤ ndr k.kids[j] ∧ nmT tk) ∧ Hid (q' ≤ q + ndr k.kids[j]) ∧ w6.cell? ⟨w.heap.size + 2, 4, none⟩ = some (.slice aK j capK) ∧ ∀ ob, (w6.alloc ob).cell? ⟨w.heap.size + 2, 4, none⟩ = some (.slice aK j capK) := by
      refine (uh HI k.kids[j] hsm P ⟨_, _, _⟩ wc.drew R v b q (fun x hx => ⟨by have := (uh HP x hx).1; show x < wc.heap.size; omega, (uh HP x hx).2⟩) hrw (okDs_get (uh HOK) j hlk) (HD5.out.on (Below.refl _ wc).drew) hqb).mono ?_
      rintro e w6 ⟨tk, ⟨y0, y1, y2, y3, y4⟩, F, q', rfl, ho, hn1, hl1, hd6, hq6, hb6, hz6⟩
      obtain ⟨z0, z1, z2, -, -, -, -, -, -, ⟨a7, cap7, z3, -⟩, a8, cap8, z4, -⟩ := ho.open
      simp only at z0 z1 z2 z3 z4
      subst z0 z1 z2 z3 z4
      have hbw : But R wc w6 := (But.of_below (Below.refl _ wc).drew).trans hb6
      have hs6 := HS5.out.butD hbw (by omega)
      exact ⟨_, _, _, _, _, _, _, _, _, tk, F, q', rfl, ho, hn1, hl1, HB5.out.trans (hbw.bb (by omega)), hbw.size, hs6, hd6, hz6, hq6, hs6.cells.cell (i := 4) (by omega), fun ob => (hs6.cells.alloc ob).cell (i := 4) (by omega)⟩
     have HNT := hH hnt
     generalize k.kids[j] = kk at *
     have HCALL := hH hcall
     clear hcall hcell hrp hrw hsm q0 hpb hold hnt hnl hqb
     go_wp2_with fail
     go_region_law (first
      | ((refine step_append_lies _ (by rfl) _ _ _ (by rfl) (w.heap.size + 3) 26 i0 _ 5 80 Tryz.underlying24 (uh HII) (uh HZ0) (uh HZ1) (uh HZ2) rfl (by decide) (.slice aK j capK) j xs (by rfl) (by have := (uh HS6).got.row; rw [hlen] at this; exact this.alloc _) ⟨w6.heap.size, 0, none⟩ 1 1 (c5l ⟨.int .i64 e0, .int .i64 e1, .string e2, .slice a7 n7 cap7, .slice a8 n8 cap8⟩) (by rfl) (by rfl) (cell_five w6 _ _) (uh HOW).one (by decide) (by unfold maxLen; omega) (by omega) (by simp; omega) (w6.heap.size + 1) (by simp) ?_; intro g2 cap2 w8 hown8 hgrow8 hat8 hlt8; have u4 := (SInv.atK (uh HS6) hgrow8).cell (i := 4) (by omega); have uz4 := (SInv.atK (uh HS6) hgrow8).frozen 4; simp only [row5] at u4))
      | (rw [if_pos (by first | rfl | simp [Region.wanted])]; go_simp; refine (uh HCALL).mono ?_; rintro e w6 ⟨e0, e1, e2, a7, n7, cap7, a8, n8, cap8, tk, F, q', rfl, HOW, hFn, HFL, HB6, hs6, HS6, HD6, HZ6, HQ6, t4c, t4d⟩))
     all_goals
      obtain ⟨hinv8, hd8, hb8⟩ := kid_push hR HS5.out (uh HS6) (uh HOW) hFn (uh HFL) (uh HD6) (uh HB6) hlen hown8 hgrow8 hat8
      have HI8 := hH hinv8; have HD8 := hH hd8; have HB8 := hH hb8
      clear hinv8 hd8 hb8 hown8 hgrow8 hat8 hlt8 u4 uz4 HS6 HOW HFL HB6 HD6 HS5 HB5 HD5 t4c t4d
      go_wp2_with fail
      go_roundw
      case rel => exact ⟨j + 1, q', some ⟨g1, 0, none⟩, cap1, some ⟨g2, 0, none⟩, cap2, ts ++ [tk], _, _, by omega, by go_num, by simp [hlen], by rw [uh HNT]; have := uh HQ; have := HQ6.out; omega, hH ⟨by rw [lsz_snoc, uh HNT]; have := HZ.out.1; have := HZ6.out.1; omega, nmK_snoc HZ.out.2 HZ6.out.2⟩, HI8, HD8, HB8⟩
      case measure => simp [intOf]; omega
  · obtain rfl : j = k.names.length := by omega
    have q1 := (uh HST).r1.of_block (HB.out.block (w.heap.size + 1) (by omega) (by omega))
    obtain ⟨y0, y1, y2, y3, y4⟩ := cs5 q1 (by omega); have yf := q1.frozen
    obtain ⟨t0, t1, t2⟩ := cs3 HS.out.cells (by omega)
    simp only [row5] at y0 y1 y2 y3 y4 t0 t1 t2
    have HEND := hH (fun c0 c1 c2 c3 c4 => gathered_end (N := ndr k) (p := p) ⟨by decide, by decide⟩ hR (uh HST).bl HS.out (fun x hx => uh HNS8 x (List.mem_of_mem_take hx)) HD.out HB.out (by have := uh HQ; have := nds_le k.kids k.names.length; have := uh HNDK; omega) (by have := HZ.out.1; have := nds_le k.kids k.names.length; have := uh HNDK; omega) (by simpa using hbig) HZ.out.2 c0 c1 c2 c3 c4)
    clear HS HD HB q1 HST
    go_wp2_with fail
    refine bodyPost_ret (v := .agg #[.int .i64 5, .int .i64 0, .string ByteArray.empty, .slice aN k.names.length capN, .slice aK k.names.length capK]) (by simp [results, Tryz.results54, go_sem, y0, y1, y2, y3, y4]; rfl) rfl ?_
    exact uh HEND _ _ _ _ _
theorem lt_step (n : Nat) (IH : LtSaid n) : LtSaid (n + 1) := by
 intro k hn P c w R v b p hP hrep ho hd hp
 rw [okD_eq, Bool.and_eq_true] at ho
 have hbig : k.names.length ≤ 1000000 ∨ k.sort ≠ 5 := by
  rcases shB_cases ho.1 with ⟨h, -, -⟩ | ⟨h, -, -⟩ | ⟨h, h2, -⟩
  · exact Or.inr (by omega)
  · exact Or.inr (by omega)
  · left
    rw [← h2]
    have : ∀ l : List Kd, l.length ≤ nds l := by
     intro l
     induction l with
     | nil => simp
     | cons a r ih => rw [nds, List.length_cons, nd_eq]; omega
    have := this k.kids
    rw [nd_eq] at hp
    omega
 rcases shB_cases ho.1 with ⟨h, -, -⟩ | ⟨h, h1, -⟩ | ⟨h, h2, h3⟩
 · exact lt_123 k h P c w R v b p hrep hd hp
 · rcases h with h | h
   · exact lt_4 n IH k (by omega) h h1 P c w R v b p hP hrep ho.2 hd hp
   · exact lt_6 n IH k (by omega) h h1 P c w R v b p hP hrep ho.2 hd hp
 · exact lt_5 n IH k (by omega) h h2 h3 (hbig.resolve_right (by omega)) P c w R v b p hP hrep ho.2 hd hp
theorem lt_all : ∀ n, LtSaid n
 | 0 => fun k h => by omega
 | n + 1 => lt_step n (lt_all n)

def TL5 (P : Nat → Prop) (w : World) (ts : List Tr) (xs : List Value) : Prop :=
 xs.length = ts.length * 5 ∧ ∀ i, (hi : i < ts.length) → ∃ c : C5, xs[i * 5]? = some c.c0 ∧ xs[i * 5 + 1]? = some c.c1 ∧ xs[i * 5 + 2]? = some c.c2 ∧ xs[i * 5 + 3]? = some c.c3 ∧ xs[i * 5 + 4]? = some c.c4 ∧ Rep P w ts[i] c
theorem TL5.nil (P : Nat → Prop) (w : World) : TL5 P w [] [] := ⟨rfl, fun i hi => by simp at hi⟩
theorem TL5.carry {P Q : Nat → Prop} {w w' : World} {ts : List Tr} {xs : List Value} (h : TL5 P w ts xs) (hP : ∀ b, P b → w'.heap[b]? = w.heap[b]?) (hQ : ∀ b, P b → Q b) : TL5 Q w' ts xs :=
 ⟨h.1, fun i hi => by obtain ⟨c, h0, h1, h2, h3, h4, h5⟩ := h.2 i hi; exact ⟨c, h0, h1, h2, h3, h4, Rep.carry hP hQ _ _ h5⟩⟩
theorem TL5.of {P : Nat → Prop} {w : World} {b : Nat} : ∀ (ts : List Tr) (o : Nat), RepK P w b o ts → ∃ xs, TL5 P w ts xs ∧ (∀ j u, xs[j]? = some u → w.cell? ⟨b, o + j, none⟩ = some u) ∧ ∀ u ∈ xs, u.oneCell' = true
 | [], o, _ => ⟨[], TL5.nil P w, fun j u h => by simp at h, fun u h => by cases h⟩
 | t :: r, o, h => by
   rw [RepK] at h
   obtain ⟨⟨c, ⟨a0, a1, a2, a3, a4⟩, hr⟩, h2⟩ := h
   obtain ⟨ys, ⟨hl, hy⟩, hc, h1c⟩ := TL5.of r (o + 5) h2
   obtain ⟨e0, e1, e2, -, -, -, ⟨b3, cap3, e3, -⟩, b4, cap4, e4, -⟩ := hr.open
   refine ⟨c.c0 :: c.c1 :: c.c2 :: c.c3 :: c.c4 :: ys, ⟨by simp [hl]; omega, fun i hi => ?_⟩, fun j u hj => ?_, fun u hu => ?_⟩
   · cases i with
     | zero => exact ⟨c, rfl, rfl, rfl, rfl, rfl, hr⟩
     | succ i =>
       obtain ⟨d, q0, q1, q2, q3, q4, q5⟩ := hy i (by simpa using hi)
       refine ⟨d, ?_, ?_, ?_, ?_, ?_, q5⟩
       · rw [show (i + 1) * 5 = i * 5 + 5 from by omega]; simpa using q0
       · rw [show (i + 1) * 5 + 1 = i * 5 + 1 + 5 from by omega]; simpa using q1
       · rw [show (i + 1) * 5 + 2 = i * 5 + 2 + 5 from by omega]; simpa using q2
       · rw [show (i + 1) * 5 + 3 = i * 5 + 3 + 5 from by omega]; simpa using q3
       · rw [show (i + 1) * 5 + 4 = i * 5 + 4 + 5 from by omega]; simpa using q4
   · match j with
     | 0 => simp at hj; subst hj; exact a0
     | 1 => simp at hj; subst hj; exact a1
     | 2 => simp at hj; subst hj; exact a2
     | 3 => simp at hj; subst hj; exact a3
     | 4 => simp at hj; subst hj; exact a4
     | j + 5 =>
       have := hc j u (by simpa using hj)
       rw [show o + (j + 5) = o + 5 + j from by omega]; exact this
   · rcases List.mem_cons.1 hu with rfl | hu
     · rw [e0]; rfl
     rcases List.mem_cons.1 hu with rfl | hu
     · rw [e1]; rfl
     rcases List.mem_cons.1 hu with rfl | hu
     · rw [e2]; rfl
     rcases List.mem_cons.1 hu with rfl | hu
     · rw [e3]; rfl
     rcases List.mem_cons.1 hu with rfl | hu
     · rw [e4]; rfl
     exact h1c u hu
theorem TL5.back {P : Nat → Prop} {w : World} {g : Nat} {ts : List Tr} {xs : List Value} (h : TL5 P w ts xs) (hc : ∀ j u, xs[j]? = some u → w.cell? ⟨g, j, none⟩ = some u) : RepK P w g 0 ts :=
 RepK.mk fun i hi => by
  obtain ⟨c, h0, h1, h2, h3, h4, h5⟩ := h.2 i hi
  exact ⟨c, ⟨by rw [Nat.zero_add]; exact hc _ _ h0, by rw [Nat.zero_add]; exact hc _ _ h1, by rw [Nat.zero_add]; exact hc _ _ h2, by rw [Nat.zero_add]; exact hc _ _ h3, by rw [Nat.zero_add]; exact hc _ _ h4⟩, h5⟩
theorem TL5.snoc {P : Nat → Prop} {w : World} {ts : List Tr} {xs : List Value} {t : Tr} {c : C5} (h : TL5 P w ts xs) (hk : Rep P w t c) : TL5 P w (ts ++ [t]) (xs ++ c5l c) := by
 obtain ⟨hl, h2⟩ := h
 refine ⟨by simp [hl, c5l]; omega, fun i hi => ?_⟩
 simp only [List.length_append, List.length_cons, List.length_nil] at hi
 by_cases e : i < ts.length
 · obtain ⟨d, q0, q1, q2, q3, q4, q5⟩ := h2 i e
   refine ⟨d, ?_, ?_, ?_, ?_, ?_, ?_⟩
   · rw [List.getElem?_append_left (by omega)]; exact q0
   · rw [List.getElem?_append_left (by omega)]; exact q1
   · rw [List.getElem?_append_left (by omega)]; exact q2
   · rw [List.getElem?_append_left (by omega)]; exact q3
   · rw [List.getElem?_append_left (by omega)]; exact q4
   · rw [List.getElem_append_left e]; exact q5
 · obtain rfl : i = ts.length := by omega
   refine ⟨c, ?_, ?_, ?_, ?_, ?_, ?_⟩
   · rw [List.getElem?_append_right (by omega), hl]; simp [c5l]
   · rw [List.getElem?_append_right (by omega), hl]; simp [c5l, show ts.length * 5 + 1 - ts.length * 5 = 1 from by omega]
   · rw [List.getElem?_append_right (by omega), hl]; simp [c5l, show ts.length * 5 + 2 - ts.length * 5 = 2 from by omega]
   · rw [List.getElem?_append_right (by omega), hl]; simp [c5l, show ts.length * 5 + 3 - ts.length * 5 = 3 from by omega]
   · rw [List.getElem?_append_right (by omega), hl]; simp [c5l, show ts.length * 5 + 4 - ts.length * 5 = 4 from by omega]
   · simpa using hk
theorem TL5.put {P : Nat → Prop} {w : World} {ts : List Tr} {xs : List Value} {t : Tr} {c : C5} {i : Nat} (h : TL5 P w ts xs) (hi : i < ts.length) (hk : Rep P w t c) : TL5 P w (ts.set i t) (((((xs.set (i * 5) c.c0).set (i * 5 + 1) c.c1).set (i * 5 + 2) c.c2).set (i * 5 + 3) c.c3).set (i * 5 + 4) c.c4) := by
 obtain ⟨hl, h2⟩ := h
 refine ⟨by simp [hl], fun j hj => ?_⟩
 rw [List.length_set] at hj
 by_cases e : i = j
 · subst e
   refine ⟨c, ?_, ?_, ?_, ?_, ?_, by simpa using hk⟩
   · rw [List.getElem?_set_ne (by omega), List.getElem?_set_ne (by omega), List.getElem?_set_ne (by omega), List.getElem?_set_ne (by omega), List.getElem?_set_self (by omega)]
   · rw [List.getElem?_set_ne (by omega), List.getElem?_set_ne (by omega), List.getElem?_set_ne (by omega), List.getElem?_set_self (by simp; omega)]
   · rw [List.getElem?_set_ne (by omega), List.getElem?_set_ne (by omega), List.getElem?_set_self (by simp; omega)]
   · rw [List.getElem?_set_ne (by omega), List.getElem?_set_self (by simp; omega)]
   · rw [List.getElem?_set_self (by simp; omega)]
 · obtain ⟨d, q0, q1, q2, q3, q4, q5⟩ := h2 j hj
   refine ⟨d, ?_, ?_, ?_, ?_, ?_, by rw [List.getElem_set_ne e]; exact q5⟩
   · repeat rw [List.getElem?_set_ne (by omega)]
     exact q0
   · repeat rw [List.getElem?_set_ne (by omega)]
     exact q1
   · repeat rw [List.getElem?_set_ne (by omega)]
     exact q2
   · repeat rw [List.getElem?_set_ne (by omega)]
     exact q3
   · repeat rw [List.getElem?_set_ne (by omega)]
     exact q4
theorem rep_leafD {P : Nat → Prop} {W : World} (s n : Int) (tx : ByteArray) (hs : I64 s) (hn : I64 n) (ht : tx.size ≤ 9223372036854775807) : Rep P W (.mk s n tx [] []) ⟨.int .i64 s, .int .i64 n, .string tx, .slice none 0 0, .slice none 0 0⟩ := by
 rw [Rep]
 exact ⟨rfl, rfl, rfl, hs, hn, ht, ⟨none, 0, rfl, by simp, fun i hi => by simp at hi⟩, none, 0, rfl, by simp, fun h => absurd rfl h⟩
theorem rep_single {lo G : Nat} {V W' : World} {tk : Tr} {c : C5} {s : Int} (hs : I64 s) (hb : Below V.heap.size V W') (hrow : W'.rowIs G 26 5 (row5 c.c0 c.c1 c.c2 c.c3 c.c4)) (hG : lo ≤ G) (hk : Rep (fun x => lo ≤ x ∧ x < V.heap.size) V tk c) : Rep (fun x => lo ≤ x ∧ x < W'.heap.size) W' (.mk s 0 ByteArray.empty [] [tk]) ⟨.int .i64 s, .int .i64 0, .string ByteArray.empty, .slice none 0 0, .slice (some ⟨G, 0, none⟩) 1 1⟩ := by
 rw [Rep]
 refine ⟨rfl, rfl, rfl, hs, ⟨by decide, by decide⟩, by decide, ⟨none, 0, rfl, by simp, fun i hi => by simp at hi⟩, _, _, rfl, by simp, fun _ => ⟨G, 0, rfl, ⟨hG, hrow.lt⟩, ?_⟩⟩
 rw [RepK]
 exact ⟨⟨c, ⟨hrow.cell (i := 0) (by omega), hrow.cell (i := 1) (by omega), hrow.cell (i := 2) (by omega), hrow.cell (i := 3) (by omega), hrow.cell (i := 4) (by omega)⟩, Rep.carry (fun x hx => hb.block x hx.2) (fun x hx => ⟨hx.1, Nat.lt_of_lt_of_le hx.2 hb.size⟩) _ _ hk⟩, by rw [RepK]; trivial⟩
theorem deep_round {w wr : World} {c : C5} {tk : Tr} (hX : wr.rowIs w.heap.size 26 5 (row5 (.int .i64 0) (.int .i64 0) (.string ⟨#[]⟩) (.slice none 0 0) (.slice none 0 0))) (hT : wr.rowIs (w.heap.size + 1) 26 5 (row5 c.c0 c.c1 c.c2 c.c3 c.c4)) (hk : Rep (fun x => w.heap.size + 2 ≤ x ∧ x < wr.heap.size) wr tk c) (hb : Below w.heap.size w wr) (W' : World)
 (hW : W' = (((((wr.setCell ⟨w.heap.size + 1, 0, none⟩ (.int .i64 4)).setCell ⟨w.heap.size + 1, 1, none⟩ (.int .i64 0)).setCell ⟨w.heap.size + 1, 2, none⟩ (.string ⟨#[]⟩)).setCell ⟨w.heap.size + 1, 3, none⟩ (.slice none 0 0)).setCell ⟨w.heap.size + 1, 4, none⟩ (.slice (some ⟨wr.heap.size, 0, none⟩) 1 1)).alloc (.cells #[c.c0, c.c1, c.c2, c.c3, c.c4] 26)) :
 W'.rowIs w.heap.size 26 5 (row5 (.int .i64 0) (.int .i64 0) (.string ⟨#[]⟩) (.slice none 0 0) (.slice none 0 0)) ∧ W'.rowIs (w.heap.size + 1) 26 5 (row5 (.int .i64 4) (.int .i64 0) (.string ⟨#[]⟩) (.slice none 0 0) (.slice (some ⟨wr.heap.size, 0, none⟩) 1 1)) ∧ Rep (fun x => w.heap.size + 2 ≤ x ∧ x < W'.heap.size) W' (.mk 4 0 ByteArray.empty [] [tk]) ⟨.int .i64 4, .int .i64 0, .string ⟨#[]⟩, .slice none 0 0, .slice (some ⟨wr.heap.size, 0, none⟩) 1 1⟩ ∧ Below w.heap.size w W' := by
 have hlt := hT.lt
 generalize hV : (((((wr.setCell ⟨w.heap.size + 1, 0, none⟩ (.int .i64 4)).setCell ⟨w.heap.size + 1, 1, none⟩ (.int .i64 0)).setCell ⟨w.heap.size + 1, 2, none⟩ (.string ⟨#[]⟩)).setCell ⟨w.heap.size + 1, 3, none⟩ (.slice none 0 0)).setCell ⟨w.heap.size + 1, 4, none⟩ (.slice (some ⟨wr.heap.size, 0, none⟩) 1 1)) = V at hW
 have hsz : V.heap.size = wr.heap.size := by rw [← hV]; simp only [size_setCell]
 have hoth : ∀ x, x ≠ w.heap.size + 1 → V.heap[x]? = wr.heap[x]? := fun x h1 => by
  rw [← hV]
  repeat rw [Below.heap_setCell _ _ _ _ (by simpa using h1)]
 have hTV : V.rowIs (w.heap.size + 1) 26 5 (row5 (.int .i64 4) (.int .i64 0) (.string ⟨#[]⟩) (.slice none 0 0) (.slice (some ⟨wr.heap.size, 0, none⟩) 1 1)) := by
  rw [← hV]
  refine ((((((hT.set 0 (.int .i64 4)).set 1 (.int .i64 0)).set 2 (.string ⟨#[]⟩)).set 3 (.slice none 0 0)).set 4 (.slice (some ⟨wr.heap.size, 0, none⟩) 1 1))).congr (fun i hi => ?_)
  rcases (show i = 0 ∨ i = 1 ∨ i = 2 ∨ i = 3 ∨ i = 4 by omega) with rfl | rfl | rfl | rfl | rfl <;> rfl
 have hbV : Below w.heap.size w V := by
  rw [← hV]
  exact ((((hb.setCell (by simp) _).setCell (by simp) _).setCell (by simp) _).setCell (by simp) _).setCell (by simp) _
 have hrow := row5_alloc V c.c0 c.c1 c.c2 c.c3 c.c4 26
 rw [hsz] at hrow
 subst hW
 refine ⟨(hX.of_block (hoth _ (by omega))).alloc _, hTV.alloc _, ?_, hbV.alloc hbV.size _⟩
 exact rep_single ⟨by decide, by decide⟩ ((Below.refl _ V).alloc (Nat.le_refl _) _) hrow (by omega) (Rep.carry (fun x hx => hoth x (by omega)) (fun x hx => ⟨hx.1, by rw [hsz]; exact hx.2⟩) _ _ hk)
theorem l5Deep_any (w : World) (n : Nat) (hn : n ≤ 100) :
 Calls Tryz.prog 85 #[.int .i64 (n : Int)] w fun e w' => ∃ (t : Tr) (c : C5), e = .returned (.agg #[c.c0, c.c1, c.c2, c.c3, c.c4]) ∧ Rep (fun x => w.heap.size ≤ x ∧ x < w'.heap.size) w' t c ∧ Below w.heap.size w w' := by
 have hX0 := (row5_alloc w (.int .i64 0) (.int .i64 0) (.string ⟨#[]⟩) (.slice none 0 0) (.slice none 0 0) 26).alloc (.cells #[.int .i64 3, .int .i64 1, .string ⟨#[]⟩, .slice none 0 0, .slice none 0 0] 26)
 have hT0 := row5_alloc (w.alloc (.cells #[.int .i64 0, .int .i64 0, .string ⟨#[]⟩, .slice none 0 0, .slice none 0 0] 26)) (.int .i64 3) (.int .i64 1) (.string ⟨#[]⟩) (.slice none 0 0) (.slice none 0 0) 26
 rw [World.size_alloc] at hT0
 have hb0 : Below w.heap.size w ((w.alloc (.cells #[.int .i64 0, .int .i64 0, .string ⟨#[]⟩, .slice none 0 0, .slice none 0 0] 26)).alloc (.cells #[.int .i64 3, .int .i64 1, .string ⟨#[]⟩, .slice none 0 0, .slice none 0 0] 26)) := ((Below.refl _ _).alloc (Nat.le_refl _) _).alloc (by simp) _
 have HX0 := hH hX0; have HT0 := hH hT0; have HB0 := hH hb0
 clear hX0 hT0 hb0
 go_enter Tryz.func85, Tryz.ntmps85
 go_wp2_with fail
 go_loopw [4] (fun nn wr => ∃ (m : Nat) (tt : Tr) (s0 n0 : Int) (x0 : ByteArray) (a3 : Option Addr) (n3 cap3 : Nat) (a4 : Option Addr) (n4 cap4 : Nat), 1 ≤ m ∧ m ≤ n + 1 ∧ nn = .int .i64 m ∧ Hid (wr.rowIs w.heap.size 26 5 (row5 (.int .i64 0) (.int .i64 0) (.string ⟨#[]⟩) (.slice none 0 0) (.slice none 0 0))) ∧ Hid (wr.rowIs (w.heap.size + 1) 26 5 (row5 (.int .i64 s0) (.int .i64 n0) (.string x0) (.slice a3 n3 cap3) (.slice a4 n4 cap4))) ∧ Hid (Rep (fun x => w.heap.size + 2 ≤ x ∧ x < wr.heap.size) wr tt ⟨.int .i64 s0, .int .i64 n0, .string x0, .slice a3 n3 cap3, .slice a4 n4 cap4⟩) ∧ Hid (Below w.heap.size w wr)) (fun nn _ => n + 1 - (intOf nn).toNat)
 case atStart => exact ⟨1, .mk 3 1 ⟨#[]⟩ [] [], 3, 1, ⟨#[]⟩, none, 0, 0, none, 0, 0, by omega, by omega, rfl, HX0, HT0, rep_leafD 3 1 ⟨#[]⟩ ⟨by decide, by decide⟩ ⟨by decide, by decide⟩ (by decide), HB0⟩
 case round =>
  clear HX0 HT0 HB0
  obtain ⟨m, tt, s0, n0, x0, a3, n3, cap3, a4, n4, cap4, hm1, hm2, rfl, HX, HT, HR, HB⟩ := hrel
  obtain ⟨t0, t1, t2, t3, t4⟩ := cs5 HT.out (by omega); have tf := HT.out.frozen
  obtain ⟨y0, y1, y2, y3, y4⟩ := cs5 HX.out (by omega); have yf := HX.out.frozen
  simp only [row5] at t0 t1 t2 t3 t4 y0 y1 y2 y3 y4
  have hlt := HT.out.lt
  by_cases hlt2 : m < n
  · have hq : decide ((m : Int) < (n : Int)) = true := by simp; omega
    have hqn : decide (m < n) = true := by simp; omega
    have HNX := hH (deep_round (c := ⟨.int .i64 s0, .int .i64 n0, .string x0, .slice a3 n3 cap3, .slice a4 n4 cap4⟩) HX.out HT.out HR.out HB.out _ rfl)
    clear HX HT HR HB
    go_wp2_with fail
    go_roundw
    case rel => exact ⟨m + 1, _, 4, 0, ⟨#[]⟩, none, 0, 0, some ⟨wr.heap.size, 0, none⟩, 1, 1, by omega, by omega, by go_num, (uh HNX).1, (uh HNX).2.1, (uh HNX).2.2.1, (uh HNX).2.2.2⟩
    case measure => simp [intOf]; omega
  · have hq : decide ((m : Int) < (n : Int)) = false := by simp; omega
    have hqn : decide (m < n) = false := by simp; omega
    clear hlt2
    go_wp2_with fail
    refine bodyPost_ret (v := .agg #[.int .i64 s0, .int .i64 n0, .string x0, .slice a3 n3 cap3, .slice a4 n4 cap4]) (by simp [results, Tryz.results85, go_sem, y0, y1, y2, y3, y4]) rfl ?_
    refine ⟨tt, ⟨_, _, _, _, _⟩, rfl, Rep.carry (fun x hx => ?_) (fun x hx => ⟨by omega, by simp only [size_setCell]; exact hx.2⟩) _ _ HR.out, ((((HB.out.setCell (by simp) _).setCell (by simp) _).setCell (by simp) _).setCell (by simp) _).setCell (by simp) _⟩
    repeat rw [Below.heap_setCell _ _ _ _ (by simp; omega)]
end Go.Proofs.YtbkagahmiibclaaGreatDoor
