/- The walk of the specification's l5Tree, further: forms, the whole. Draws at most 10^6. -/
import Derived.Test.YtbkagahmiibclaaGreatDoorPart07
import Derived.Deep.CutRange
namespace Go.Proofs.YtbkagahmiibclaaGreatDoor
open Go Go.RowKit

/-- A name more was appended, and put into the tree's cell. -/
theorem name_push {R j q g1 capN cap1 : Nat} {w W0 wr w4 : World} {s : Int} {aN : Option Addr} {vK : Value} {ns : List ByteArray} {ts : List Tr} {xs : List Value} {G : List Nat} {nm : ByteArray} {v : Value} {b : List UInt8} (hR : R < w.heap.size)
    (hS : SInv (w.heap.size + 3) (w.heap.size + 2) wr s (.slice aN j capN) vK ns ts xs G) (hD : DR R wr v b q) (hB : BB R (w.heap.size + 2) W0 wr) (hl : ns.length = j)
    (hown : w4.ownsRow (w.heap.size + 3) 9 1 (.slice (some ⟨g1, 0, none⟩) (j + 1) cap1) (j + 1) (ns.map Value.string ++ [.string nm])) (hg : (wr.drew.alloc (.cells #[.string nm] 9)).grownBy w4 (Value.slice aN j capN).ownBlock) (hat : (Value.slice aN j capN).ownBlock = some g1 ∨ g1 = wr.heap.size + 1) :
    SInv (w.heap.size + 3) (w.heap.size + 2) (w4.setCell ⟨w.heap.size + 2, 3, none⟩ (.slice (some ⟨g1, 0, none⟩) (j + 1) cap1)) s (.slice (some ⟨g1, 0, none⟩) (j + 1) cap1) vK (ns ++ [nm]) ts xs G ∧ DR R (w4.setCell ⟨w.heap.size + 2, 3, none⟩ (.slice (some ⟨g1, 0, none⟩) (j + 1) cap1)) v b q ∧ BB R (w.heap.size + 2) W0 (w4.setCell ⟨w.heap.size + 2, 3, none⟩ (.slice (some ⟨g1, 0, none⟩) (j + 1) cap1)) := by
  have hz : ∀ o, (wr.drew.alloc o).heap.size = wr.heap.size + 1 := fun o => by rw [World.size_alloc]; rfl
  have hsz := hS.size
  have hSD : SInv (w.heap.size + 3) (w.heap.size + 2) wr.drew s (.slice aN j capN) vK ns ts xs G := hS.kept ⟨rfl, rfl, rfl, Nat.le_refl _, fun _ _ _ => rfl⟩
  have hal := World.grownBy_alloc wr.drew (.cells #[.string nm] 9) none
  have hrow : ∀ x, (Value.slice aN j capN).ownBlock = some x → w.heap.size + 3 ≤ x := fun x e => (hSD.names.lt x e).1
  have hwd : w.heap.size + 3 ≤ wr.drew.heap.size := hsz
  refine ⟨SInv.name (hSD.kept hal) (by rw [hl]; exact hown) hg (hat.elim (fun e => Or.inl (by rw [e]; rfl)) (fun e => Or.inr ⟨g1, rfl, by rw [hz, e]; exact Nat.le_refl _⟩)), ?_, ?_⟩
  · exact (((hD.on (Below.refl _ wr).drew).on ((Below.refl _ wr.drew).alloc (Nat.le_refl _) _)).grown hg (fun x e => by have := hrow x e; omega)).set (by omega) _ _
  · exact ((hB.drew.grown hal (by omega) (fun x e => by cases e)).grown hg (by rw [hz]; omega) (fun x e => by have := hrow x e; omega)).set (by omega) _

set_option maxRecDepth 100000 in
set_option maxHeartbeats 3200000 in
theorem lt_5 (n : Nat) (IH : LtSaid n) (k : Kd) (hn : ksz k ≤ n) (hs5 : k.sort = 5) (hkl : k.kids.length = k.names.length) (hri : riseB k.names = true) (hbig : k.names.length ≤ 1000000) (P : Nat → Prop) (c : C3) (w : World) (R : Nat) (v : Value) (b : List UInt8) (p : Nat) (hP : ∀ x, P x → x < w.heap.size ∧ x ≠ R) (hrep : KRep P w k c) (hok : okDs k.kids = true) (hd : DR R w v b p) (hp : p + ndr k ≤ 1000000) :
    Calls Tryz.prog 54 #[.pointer (some ⟨R, 0, none⟩), .agg #[c.c0, c.c1, c.c2]] w fun e w' => TsEnd (ndr k) R w w' v b p e := by
  have hR := hd.cells.lt
  have hndk := nd_eq k
  have hns8 : ∀ x, x ∈ k.names → x.size ≤ 9223372036854775807 := fun x hx => by
    obtain ⟨i, hi, rfl⟩ := List.getElem_of_mem hx
    have := rise_size hri i hi
    omega
  obtain ⟨c0, c1, c2⟩ := c
  obtain ⟨e0, hi0, hns, a, cap, e2, -, hks⟩ := hrep.open
  simp only at e0 e2 hns
  obtain ⟨a3, cap3, e1, -, hnc⟩ := hns
  subst e0 e1 e2
  obtain ⟨i0, hi, hz0, hz1, hz2⟩ := info_parts infoTreeD
  obtain ⟨j0, hj, hy0, hy1, hy2⟩ := info_parts infoStr1
  have HII := hide hi; have HZ0 := hide hz0; have HZ1 := hide hz1; have HZ2 := hide hz2
  have HJJ := hide hj; have HY0 := hide hy0; have HY1 := hide hy1; have HY2 := hide hy2
  have HST := hide (LS.start w 5 (.slice a3 k.names.length cap3) (.slice a k.kids.length cap)); have HD := hide hd; have HP := hide hP; have HI := hide IH; have HK := hide hks; have HNC := hide hnc; have HOK := hide hok; have HNS8 := hide hns8; have HN := hide hn; have HKL := hide hkl; have HNDK := hide hndk; have HPP := hide hp
  rw [hs5]
  clear hi hz0 hz1 hz2 hj hy0 hy1 hy2 hks hnc hrep hd hi0 hP hok IH hn hs5 hkl hri hns8 hndk hp
  go_enter Tryz.func54, Tryz.ntmps54
  go_wp2_with fail
  generalize hW0 : (((w.alloc (.cells #[.int .i64 5, .slice a3 k.names.length cap3, .slice a k.kids.length cap] 83)).alloc (.cells #[.int .i64 0, .int .i64 0, .string ⟨#[]⟩, .slice none 0 0, .slice none 0 0] 26)).alloc (.cells #[.int .i64 5, .int .i64 0, .string ⟨#[]⟩, .slice none 0 0, .slice none 0 0] 26)) = W0 at *
  clear hW0
  have hsz0 := (unhide HST).size
  have HS0 : Hid (SInv (w.heap.size + 3) (w.heap.size + 2) W0 5 (.slice none 0 0) (.slice none 0 0) [] [] [] []) := ⟨by omega, (unhide HST).r2, World.ownsRow_nil _ _ _ _, GotO.start _ _, fun b hb => by simp [Value.ownBlock] at hb, by omega⟩
  have HD0 := hide ((unhide HD).on (unhide HST).bl)
  clear HD
  go_loopw [7] (fun nn wr => ∃ (j q : Nat) (aN : Option Addr) (capN : Nat) (aK : Option Addr) (capK : Nat) (ts : List Tr) (xs : List Value) (G : List Nat), j ≤ k.names.length ∧ nn = .int .i64 j ∧ ts.length = j ∧ q ≤ p + nds (k.kids.take j) ∧ Hid (lsz ts ≤ nds (k.kids.take j) ∧ nmK ts) ∧ Hid (SInv (w.heap.size + 3) (w.heap.size + 2) wr 5 (.slice aN j capN) (.slice aK j capK) (k.names.take j) ts xs G) ∧ Hid (DR R wr v b q) ∧ Hid (BB R (w.heap.size + 2) W0 wr)) (fun nn _ => k.names.length - (intOf nn).toNat)
  case atStart => exact ⟨0, p, none, 0, none, 0, [], [], [], Nat.zero_le _, rfl, rfl, by omega, hide ⟨by simp [lsz], by rw [nmK]; trivial⟩, HS0, HD0, BB.refl _ _ _⟩
  case round =>
    clear HS0 HD0
    obtain ⟨j, q, aN, capN, aK, capK, ts, xs, G, hjl, rfl, hlen, hq, HZ, HS, HD, HB⟩ := hrel
    have hsz := HS.out.size
    have q0 := (unhide HST).r0.of_block (HB.out.block w.heap.size (by omega) (by omega))
    have k1 := q0.cell (i := 1) (by omega); have k2 := q0.cell (i := 2) (by omega)
    have t3 := HS.out.cells.cell (i := 3) (by omega); have t4 := HS.out.cells.cell (i := 4) (by omega)
    simp only [row3, row5] at k1 k2 t3 t4
    have HQ := hide hq
    clear hq q0
    by_cases hlt : j < k.names.length
    · obtain ⟨nb, no, rfl, hpn, hcn, -⟩ := unhide HNC j hlt
      have hold : ∀ x, P x → wr.heap[x]? = w.heap[x]? := fun x hx => by
        have h := unhide HP x hx
        exact (HB.out.block x (by omega) h.2).trans ((unhide HST).bl.block x h.1)
      have en : wr.cell? ⟨nb, no + j, none⟩ = some (.string k.names[j]) := by rw [World.cell?_of_block (w := w) (a := ⟨nb, no + j, none⟩) (hold nb hpn)]; exact hcn
      have htn : k.names.take (j + 1) = k.names.take j ++ [k.names[j]] := List.take_succ_eq_append_getElem hlt
      have hln : (k.names.take j).length = j := by simp; omega
      generalize k.names[j] = nm at *
      have HTN := hide htn; have HLN := hide hln
      have HSD : Hid (SInv (w.heap.size + 3) (w.heap.size + 2) wr.drew 5 (.slice aN j capN) (.slice aK j capK) (k.names.take j) ts xs G) := HS.out.kept ⟨rfl, rfl, rfl, Nat.le_refl _, fun _ _ _ => rfl⟩
      have t3a : ∀ ob, (wr.alloc ob).cell? ⟨w.heap.size + 2, 3, none⟩ = some (.slice aN j capN) := fun ob => ((HS.out.cells.alloc ob).cell (i := 3) (by omega))
      clear hpn hcn htn hln hold
      go_upto_region 21 with fail
      go_cut [] from 62 to 90 (fun wx => ∃ g1 cap1, Hid (SInv (w.heap.size + 3) (w.heap.size + 2) wx 5 (.slice (some ⟨g1, 0, none⟩) (j + 1) cap1) (.slice aK j capK) (k.names.take (j + 1)) ts xs G) ∧ Hid (DR R wx v b q) ∧ Hid (BB R (w.heap.size + 2) W0 wx))
      case first =>
        go_region_law ((refine step_append_lies _ (by rfl) _ _ _ (by rfl) (w.heap.size + 3) 9 j0 (.string ByteArray.empty) 1 16 Tryz.underlying23 (unhide HJJ) (unhide HY0) (unhide HY1) (unhide HY2) rfl (by decide) (.slice aN j capN) j ((k.names.take j).map Value.string) (by rfl) (by have := HSD.out.names; rw [unhide HLN] at this; exact this.alloc _) ⟨wr.heap.size, 0, none⟩ 1 1 [.string nm] (by rfl) (by rfl) (cell_one wr.drew _ _) (fun u hu => by simp at hu; subst hu; rfl) (by decide) (by unfold maxLen; omega) (by omega) (by simp; omega) (wr.heap.size + 1) (by simp) ?_; intro g1 cap1 w4 hown4 hgrow4 hat4 hlt4; have u3 := (SInv.atN HSD.out hgrow4).cell (i := 3) (by omega); have uz := (SInv.atN HSD.out hgrow4).frozen 3; simp only [row5] at u3))
        all_goals
          obtain ⟨hinv5, hd5, hb5⟩ := name_push hR HS.out HD.out HB.out (unhide HLN) hown4 hgrow4 hat4
          rw [← unhide HTN] at hinv5
          have HI5 := hide hinv5; have HD5 := hide hd5; have HB5 := hide hb5
          clear hinv5 hd5 hb5 hown4 hgrow4 hat4 hlt4 uz u3
          go_wp2_with fail
          go_meet
          exact ⟨g1, cap1, HI5, HD5, HB5⟩
      case rest =>
        obtain ⟨g1, cap1, HS5, HD5, HB5⟩ := hcut
        clear HSD HS HB HD t3 t4 t3a k1 k2 en
        have hlk : j < k.kids.length := by have := unhide HKL; omega
        have hsz5 := HS5.out.size
        have hold : ∀ x, P x → wc.heap[x]? = w.heap[x]? := fun x hx => by
          have h := unhide HP x hx
          exact (HB5.out.block x (by omega) h.2).trans ((unhide HST).bl.block x h.1)
        obtain ⟨kb, ko, ⟨d0, d1, d2⟩, rfl, hpb, hcell, hrp⟩ := unhide HK j hlk
        have hcell' := hcell.carry (hold kb hpb)
        have hrw : KRep P wc.drew k.kids[j] ⟨d0, d1, d2⟩ := KRep.carry (w' := wc.drew) hold (fun _ h => h) _ _ hrp
        obtain ⟨p0, -, ⟨a5, cap5, p1, -⟩, a6, cap6, p2, -⟩ := hrp.open
        simp only at p0 p1 p2
        subst p0 p1 p2
        obtain ⟨f0, f1, f2⟩ := hcell'
        simp only at f0 f1 f2
        have hsm : ksz k.kids[j] < n := by have := ksz_kid (List.getElem_mem hlk); have := unhide HN; omega
        have q0 := (unhide HST).r0.of_block (HB5.out.block w.heap.size (by omega) (by omega))
        have k2 := q0.cell (i := 2) (by omega)
        have t4 := HS5.out.cells.cell (i := 4) (by omega)
        simp only [row3, row5] at k2 t4
        have hnt := nds_take k.kids j hlk
        have hnl := nds_le k.kids (j + 1)
        have hqb : q + ndr k.kids[j] ≤ 1000000 := by have := unhide HQ; have := unhide HNDK; have := unhide HPP; omega
        have hcall : Calls Tryz.prog 54 #[.pointer (some ⟨R, 0, none⟩), .agg #[.int .i64 k.kids[j].sort, .slice a5 k.kids[j].names.length cap5, .slice a6 k.kids[j].kids.length cap6]] wc.drew fun e w6 => ∃ e0 e1 e2 a7 n7 cap7 a8 n8 cap8 tk F q', e = .returned (.agg #[.int .i64 e0, .int .i64 e1, .string e2, .slice a7 n7 cap7, .slice a8 n8 cap8]) ∧ Hid (Own w6 tk ⟨.int .i64 e0, .int .i64 e1, .string e2, .slice a7 n7 cap7, .slice a8 n8 cap8⟩ F) ∧ F.Nodup ∧ Hid (∀ x, x ∈ F → wc.heap.size ≤ x ∧ x < w6.heap.size) ∧ Hid (BB R (w.heap.size + 2) W0 w6) ∧ wc.heap.size ≤ w6.heap.size ∧ Hid (SInv (w.heap.size + 3) (w.heap.size + 2) w6 5 (.slice (some ⟨g1, 0, none⟩) (j + 1) cap1) (.slice aK j capK) (k.names.take (j + 1)) ts xs G) ∧ Hid (DR R w6 v b q') ∧ Hid (tsz tk ≤ ndr k.kids[j] ∧ nmT tk) ∧ Hid (q' ≤ q + ndr k.kids[j]) ∧ w6.cell? ⟨w.heap.size + 2, 4, none⟩ = some (.slice aK j capK) ∧ ∀ ob, (w6.alloc ob).cell? ⟨w.heap.size + 2, 4, none⟩ = some (.slice aK j capK) := by
          refine (unhide HI k.kids[j] hsm P ⟨_, _, _⟩ wc.drew R v b q (fun x hx => ⟨by have := (unhide HP x hx).1; show x < wc.heap.size; omega, (unhide HP x hx).2⟩) hrw (okDs_get (unhide HOK) j hlk) (HD5.out.on (Below.refl _ wc).drew) hqb).mono ?_
          rintro e w6 ⟨tk, ⟨y0, y1, y2, y3, y4⟩, F, q', rfl, ho, hn1, hl1, hd6, hq6, hb6, hz6⟩
          obtain ⟨z0, z1, z2, -, -, -, -, -, -, ⟨a7, cap7, z3, -⟩, a8, cap8, z4, -⟩ := ho.open
          simp only at z0 z1 z2 z3 z4
          subst z0 z1 z2 z3 z4
          have hbw : But R wc w6 := (But.of_below (Below.refl _ wc).drew).trans hb6
          have hs6 := HS5.out.butD hbw (by omega)
          exact ⟨_, _, _, _, _, _, _, _, _, tk, F, q', rfl, ho, hn1, hl1, HB5.out.trans (hbw.bb (by omega)), hbw.size, hs6, hd6, hz6, hq6, hs6.cells.cell (i := 4) (by omega), fun ob => (hs6.cells.alloc ob).cell (i := 4) (by omega)⟩
        have HNT := hide hnt
        generalize k.kids[j] = kk at *
        have HCALL := hide hcall
        clear hcall hcell hrp hrw hsm q0 hpb hold hnt hnl hqb
        go_wp2_with fail
        go_region_law (first
          | ((refine step_append_lies _ (by rfl) _ _ _ (by rfl) (w.heap.size + 3) 26 i0 _ 5 80 Tryz.underlying24 (unhide HII) (unhide HZ0) (unhide HZ1) (unhide HZ2) rfl (by decide) (.slice aK j capK) j xs (by rfl) (by have := (unhide HS6).got.row; rw [hlen] at this; exact this.alloc _) ⟨w6.heap.size, 0, none⟩ 1 1 (c5l ⟨.int .i64 e0, .int .i64 e1, .string e2, .slice a7 n7 cap7, .slice a8 n8 cap8⟩) (by rfl) (by rfl) (cell_five w6 _ _) (unhide HOW).one (by decide) (by unfold maxLen; omega) (by omega) (by simp; omega) (w6.heap.size + 1) (by simp) ?_; intro g2 cap2 w8 hown8 hgrow8 hat8 hlt8; have u4 := (SInv.atK (unhide HS6) hgrow8).cell (i := 4) (by omega); have uz4 := (SInv.atK (unhide HS6) hgrow8).frozen 4; simp only [row5] at u4))
          | (rw [if_pos (by first | rfl | simp [Region.wanted])]; go_simp; refine (unhide HCALL).mono ?_; rintro e w6 ⟨e0, e1, e2, a7, n7, cap7, a8, n8, cap8, tk, F, q', rfl, HOW, hFn, HFL, HB6, hs6, HS6, HD6, HZ6, HQ6, t4c, t4d⟩))
        all_goals
          obtain ⟨hinv8, hd8, hb8⟩ := kid_push hR HS5.out (unhide HS6) (unhide HOW) hFn (unhide HFL) (unhide HD6) (unhide HB6) hlen hown8 hgrow8 hat8
          have HI8 := hide hinv8; have HD8 := hide hd8; have HB8 := hide hb8
          clear hinv8 hd8 hb8 hown8 hgrow8 hat8 hlt8 u4 uz4 HS6 HOW HFL HB6 HD6 HS5 HB5 HD5 t4c t4d
          go_wp2_with fail
          go_roundw
          case rel => exact ⟨j + 1, q', some ⟨g1, 0, none⟩, cap1, some ⟨g2, 0, none⟩, cap2, ts ++ [tk], _, _, by omega, by go_num, by simp [hlen], by rw [unhide HNT]; have := unhide HQ; have := HQ6.out; omega, hide ⟨by rw [lsz_snoc, unhide HNT]; have := HZ.out.1; have := HZ6.out.1; omega, nmK_snoc HZ.out.2 HZ6.out.2⟩, HI8, HD8, HB8⟩
          case measure => simp [intOf]; omega
    · obtain rfl : j = k.names.length := by omega
      have q1 := (unhide HST).r1.of_block (HB.out.block (w.heap.size + 1) (by omega) (by omega))
      have y0 := q1.cell (i := 0) (by omega); have y1 := q1.cell (i := 1) (by omega); have y2 := q1.cell (i := 2) (by omega); have y3 := q1.cell (i := 3) (by omega); have y4 := q1.cell (i := 4) (by omega); have yf := q1.frozen
      have t0 := HS.out.cells.cell (i := 0) (by omega); have t1 := HS.out.cells.cell (i := 1) (by omega); have t2 := HS.out.cells.cell (i := 2) (by omega)
      simp only [row5] at y0 y1 y2 y3 y4 t0 t1 t2
      have HEND := hide (fun c0 c1 c2 c3 c4 => gathered_end (N := ndr k) (p := p) ⟨by decide, by decide⟩ hR (unhide HST).bl HS.out (fun x hx => unhide HNS8 x (List.mem_of_mem_take hx)) HD.out HB.out (by have := unhide HQ; have := nds_le k.kids k.names.length; have := unhide HNDK; omega) (by have := HZ.out.1; have := nds_le k.kids k.names.length; have := unhide HNDK; omega) (by simpa using hbig) HZ.out.2 c0 c1 c2 c3 c4)
      clear HS HD HB q1 HST
      go_wp2_with fail
      refine bodyPost_ret (v := .agg #[.int .i64 5, .int .i64 0, .string ByteArray.empty, .slice aN k.names.length capN, .slice aK k.names.length capK]) (by simp [results, Tryz.results54, go_sem, y0, y1, y2, y3, y4]; rfl) rfl ?_
      exact unhide HEND _ _ _ _ _

theorem lt_step (n : Nat) (IH : LtSaid n) : LtSaid (n + 1) := by
  intro k hn P c w R v b p hP hrep ho hd hp
  rw [okD_eq, Bool.and_eq_true] at ho
  have hbig : k.names.length ≤ 1000000 ∨ k.sort ≠ 5 := by
    rcases shB_cases ho.1 with ⟨h, -, -⟩ | ⟨h, -, -⟩ | ⟨h, h2, -⟩
    · exact Or.inr (by omega)
    · exact Or.inr (by omega)
    · left
      rw [← h2]
      have : ∀ l : List Kd, l.length ≤ nds l := by
        intro l
        induction l with
        | nil => simp
        | cons a r ih => rw [nds, List.length_cons, nd_eq]; omega
      have := this k.kids
      rw [nd_eq] at hp
      omega
  rcases shB_cases ho.1 with ⟨h, -, -⟩ | ⟨h, h1, -⟩ | ⟨h, h2, h3⟩
  · exact lt_123 k h P c w R v b p hrep hd hp
  · rcases h with h | h
    · exact lt_4 n IH k (by omega) h h1 P c w R v b p hP hrep ho.2 hd hp
    · exact lt_6 n IH k (by omega) h h1 P c w R v b p hP hrep ho.2 hd hp
  · exact lt_5 n IH k (by omega) h h2 h3 (hbig.resolve_right (by omega)) P c w R v b p hP hrep ho.2 hd hp

theorem lt_all : ∀ n, LtSaid n
  | 0 => fun k h => by omega
  | n + 1 => lt_step n (lt_all n)
end Go.Proofs.YtbkagahmiibclaaGreatDoor

/- Rows of trees that share their memory; the walk of the specification's l5Deep: some tree, in new memory. No conditions. -/

namespace Go.Proofs.YtbkagahmiibclaaGreatDoor
open Go Go.RowKit

/-- The cells of a row are those of trees. -/
def TL5 (P : Nat → Prop) (w : World) (ts : List Tr) (xs : List Value) : Prop :=
  xs.length = ts.length * 5 ∧ ∀ i, (hi : i < ts.length) → ∃ c : C5, xs[i * 5]? = some c.c0 ∧ xs[i * 5 + 1]? = some c.c1 ∧ xs[i * 5 + 2]? = some c.c2 ∧ xs[i * 5 + 3]? = some c.c3 ∧ xs[i * 5 + 4]? = some c.c4 ∧ Rep P w ts[i] c
theorem TL5.nil (P : Nat → Prop) (w : World) : TL5 P w [] [] := ⟨rfl, fun i hi => by simp at hi⟩
theorem TL5.carry {P Q : Nat → Prop} {w w' : World} {ts : List Tr} {xs : List Value} (h : TL5 P w ts xs) (hP : ∀ b, P b → w'.heap[b]? = w.heap[b]?) (hQ : ∀ b, P b → Q b) : TL5 Q w' ts xs :=
  ⟨h.1, fun i hi => by obtain ⟨c, h0, h1, h2, h3, h4, h5⟩ := h.2 i hi; exact ⟨c, h0, h1, h2, h3, h4, Rep.carry hP hQ _ _ h5⟩⟩
theorem TL5.of {P : Nat → Prop} {w : World} {b : Nat} : ∀ (ts : List Tr) (o : Nat), RepK P w b o ts → ∃ xs, TL5 P w ts xs ∧ (∀ j u, xs[j]? = some u → w.cell? ⟨b, o + j, none⟩ = some u) ∧ ∀ u ∈ xs, u.oneCell' = true
  | [], o, _ => ⟨[], TL5.nil P w, fun j u h => by simp at h, fun u h => by cases h⟩
  | t :: r, o, h => by
    rw [RepK] at h
    obtain ⟨⟨c, ⟨a0, a1, a2, a3, a4⟩, hr⟩, h2⟩ := h
    obtain ⟨ys, ⟨hl, hy⟩, hc, h1c⟩ := TL5.of r (o + 5) h2
    obtain ⟨e0, e1, e2, -, -, -, ⟨b3, cap3, e3, -⟩, b4, cap4, e4, -⟩ := hr.open
    refine ⟨c.c0 :: c.c1 :: c.c2 :: c.c3 :: c.c4 :: ys, ⟨by simp [hl]; omega, fun i hi => ?_⟩, fun j u hj => ?_, fun u hu => ?_⟩
    · cases i with
      | zero => exact ⟨c, rfl, rfl, rfl, rfl, rfl, hr⟩
      | succ i =>
        obtain ⟨d, q0, q1, q2, q3, q4, q5⟩ := hy i (by simpa using hi)
        refine ⟨d, ?_, ?_, ?_, ?_, ?_, q5⟩
        · rw [show (i + 1) * 5 = i * 5 + 5 from by omega]; simpa using q0
        · rw [show (i + 1) * 5 + 1 = i * 5 + 1 + 5 from by omega]; simpa using q1
        · rw [show (i + 1) * 5 + 2 = i * 5 + 2 + 5 from by omega]; simpa using q2
        · rw [show (i + 1) * 5 + 3 = i * 5 + 3 + 5 from by omega]; simpa using q3
        · rw [show (i + 1) * 5 + 4 = i * 5 + 4 + 5 from by omega]; simpa using q4
    · match j with
      | 0 => simp at hj; subst hj; exact a0
      | 1 => simp at hj; subst hj; exact a1
      | 2 => simp at hj; subst hj; exact a2
      | 3 => simp at hj; subst hj; exact a3
      | 4 => simp at hj; subst hj; exact a4
      | j + 5 =>
        have := hc j u (by simpa using hj)
        rw [show o + (j + 5) = o + 5 + j from by omega]; exact this
    · rcases List.mem_cons.1 hu with rfl | hu
      · rw [e0]; rfl
      rcases List.mem_cons.1 hu with rfl | hu
      · rw [e1]; rfl
      rcases List.mem_cons.1 hu with rfl | hu
      · rw [e2]; rfl
      rcases List.mem_cons.1 hu with rfl | hu
      · rw [e3]; rfl
      rcases List.mem_cons.1 hu with rfl | hu
      · rw [e4]; rfl
      exact h1c u hu
theorem TL5.back {P : Nat → Prop} {w : World} {g : Nat} {ts : List Tr} {xs : List Value} (h : TL5 P w ts xs) (hc : ∀ j u, xs[j]? = some u → w.cell? ⟨g, j, none⟩ = some u) : RepK P w g 0 ts :=
  RepK.mk fun i hi => by
    obtain ⟨c, h0, h1, h2, h3, h4, h5⟩ := h.2 i hi
    exact ⟨c, ⟨by rw [Nat.zero_add]; exact hc _ _ h0, by rw [Nat.zero_add]; exact hc _ _ h1, by rw [Nat.zero_add]; exact hc _ _ h2, by rw [Nat.zero_add]; exact hc _ _ h3, by rw [Nat.zero_add]; exact hc _ _ h4⟩, h5⟩
theorem TL5.snoc {P : Nat → Prop} {w : World} {ts : List Tr} {xs : List Value} {t : Tr} {c : C5} (h : TL5 P w ts xs) (hk : Rep P w t c) : TL5 P w (ts ++ [t]) (xs ++ c5l c) := by
  obtain ⟨hl, h2⟩ := h
  refine ⟨by simp [hl, c5l]; omega, fun i hi => ?_⟩
  simp only [List.length_append, List.length_cons, List.length_nil] at hi
  by_cases e : i < ts.length
  · obtain ⟨d, q0, q1, q2, q3, q4, q5⟩ := h2 i e
    refine ⟨d, ?_, ?_, ?_, ?_, ?_, ?_⟩
    · rw [List.getElem?_append_left (by omega)]; exact q0
    · rw [List.getElem?_append_left (by omega)]; exact q1
    · rw [List.getElem?_append_left (by omega)]; exact q2
    · rw [List.getElem?_append_left (by omega)]; exact q3
    · rw [List.getElem?_append_left (by omega)]; exact q4
    · rw [List.getElem_append_left e]; exact q5
  · obtain rfl : i = ts.length := by omega
    refine ⟨c, ?_, ?_, ?_, ?_, ?_, ?_⟩
    · rw [List.getElem?_append_right (by omega), hl]; simp [c5l]
    · rw [List.getElem?_append_right (by omega), hl]; simp [c5l, show ts.length * 5 + 1 - ts.length * 5 = 1 from by omega]
    · rw [List.getElem?_append_right (by omega), hl]; simp [c5l, show ts.length * 5 + 2 - ts.length * 5 = 2 from by omega]
    · rw [List.getElem?_append_right (by omega), hl]; simp [c5l, show ts.length * 5 + 3 - ts.length * 5 = 3 from by omega]
    · rw [List.getElem?_append_right (by omega), hl]; simp [c5l, show ts.length * 5 + 4 - ts.length * 5 = 4 from by omega]
    · simpa using hk
theorem TL5.put {P : Nat → Prop} {w : World} {ts : List Tr} {xs : List Value} {t : Tr} {c : C5} {i : Nat} (h : TL5 P w ts xs) (hi : i < ts.length) (hk : Rep P w t c) : TL5 P w (ts.set i t) (((((xs.set (i * 5) c.c0).set (i * 5 + 1) c.c1).set (i * 5 + 2) c.c2).set (i * 5 + 3) c.c3).set (i * 5 + 4) c.c4) := by
  obtain ⟨hl, h2⟩ := h
  refine ⟨by simp [hl], fun j hj => ?_⟩
  rw [List.length_set] at hj
  by_cases e : i = j
  · subst e
    refine ⟨c, ?_, ?_, ?_, ?_, ?_, by simpa using hk⟩
    · rw [List.getElem?_set_ne (by omega), List.getElem?_set_ne (by omega), List.getElem?_set_ne (by omega), List.getElem?_set_ne (by omega), List.getElem?_set_self (by omega)]
    · rw [List.getElem?_set_ne (by omega), List.getElem?_set_ne (by omega), List.getElem?_set_ne (by omega), List.getElem?_set_self (by simp; omega)]
    · rw [List.getElem?_set_ne (by omega), List.getElem?_set_ne (by omega), List.getElem?_set_self (by simp; omega)]
    · rw [List.getElem?_set_ne (by omega), List.getElem?_set_self (by simp; omega)]
    · rw [List.getElem?_set_self (by simp; omega)]
  · obtain ⟨d, q0, q1, q2, q3, q4, q5⟩ := h2 j hj
    refine ⟨d, ?_, ?_, ?_, ?_, ?_, by rw [List.getElem_set_ne e]; exact q5⟩
    · repeat rw [List.getElem?_set_ne (by omega)]
      exact q0
    · repeat rw [List.getElem?_set_ne (by omega)]
      exact q1
    · repeat rw [List.getElem?_set_ne (by omega)]
      exact q2
    · repeat rw [List.getElem?_set_ne (by omega)]
      exact q3
    · repeat rw [List.getElem?_set_ne (by omega)]
      exact q4

theorem rep_leafD {P : Nat → Prop} {W : World} (s n : Int) (tx : ByteArray) (hs : I64 s) (hn : I64 n) (ht : tx.size ≤ 9223372036854775807) : Rep P W (.mk s n tx [] []) ⟨.int .i64 s, .int .i64 n, .string tx, .slice none 0 0, .slice none 0 0⟩ := by
  rw [Rep]
  exact ⟨rfl, rfl, rfl, hs, hn, ht, ⟨none, 0, rfl, by simp, fun i hi => by simp at hi⟩, none, 0, rfl, by simp, fun h => absurd rfl h⟩

/-- A tree with one kid, the kid's cells being laid in a new row. -/
theorem rep_single {lo G : Nat} {V W' : World} {tk : Tr} {c : C5} {s : Int} (hs : I64 s) (hb : Below V.heap.size V W') (hrow : W'.rowIs G 26 5 (row5 c.c0 c.c1 c.c2 c.c3 c.c4)) (hG : lo ≤ G) (hk : Rep (fun x => lo ≤ x ∧ x < V.heap.size) V tk c) : Rep (fun x => lo ≤ x ∧ x < W'.heap.size) W' (.mk s 0 ByteArray.empty [] [tk]) ⟨.int .i64 s, .int .i64 0, .string ByteArray.empty, .slice none 0 0, .slice (some ⟨G, 0, none⟩) 1 1⟩ := by
  rw [Rep]
  refine ⟨rfl, rfl, rfl, hs, ⟨by decide, by decide⟩, by decide, ⟨none, 0, rfl, by simp, fun i hi => by simp at hi⟩, _, _, rfl, by simp, fun _ => ⟨G, 0, rfl, ⟨hG, hrow.lt⟩, ?_⟩⟩
  rw [RepK]
  exact ⟨⟨c, ⟨hrow.cell (i := 0) (by omega), hrow.cell (i := 1) (by omega), hrow.cell (i := 2) (by omega), hrow.cell (i := 3) (by omega), hrow.cell (i := 4) (by omega)⟩, Rep.carry (fun x hx => hb.block x hx.2) (fun x hx => ⟨hx.1, Nat.lt_of_lt_of_le hx.2 hb.size⟩) _ _ hk⟩, by rw [RepK]; trivial⟩

/-- What a round of l5Deep comes to. -/
theorem deep_round {w wr : World} {c : C5} {tk : Tr} (hX : wr.rowIs w.heap.size 26 5 (row5 (.int .i64 0) (.int .i64 0) (.string ⟨#[]⟩) (.slice none 0 0) (.slice none 0 0))) (hT : wr.rowIs (w.heap.size + 1) 26 5 (row5 c.c0 c.c1 c.c2 c.c3 c.c4)) (hk : Rep (fun x => w.heap.size + 2 ≤ x ∧ x < wr.heap.size) wr tk c) (hb : Below w.heap.size w wr) (W' : World)
    (hW : W' = (((((wr.setCell ⟨w.heap.size + 1, 0, none⟩ (.int .i64 4)).setCell ⟨w.heap.size + 1, 1, none⟩ (.int .i64 0)).setCell ⟨w.heap.size + 1, 2, none⟩ (.string ⟨#[]⟩)).setCell ⟨w.heap.size + 1, 3, none⟩ (.slice none 0 0)).setCell ⟨w.heap.size + 1, 4, none⟩ (.slice (some ⟨wr.heap.size, 0, none⟩) 1 1)).alloc (.cells #[c.c0, c.c1, c.c2, c.c3, c.c4] 26)) :
    W'.rowIs w.heap.size 26 5 (row5 (.int .i64 0) (.int .i64 0) (.string ⟨#[]⟩) (.slice none 0 0) (.slice none 0 0)) ∧ W'.rowIs (w.heap.size + 1) 26 5 (row5 (.int .i64 4) (.int .i64 0) (.string ⟨#[]⟩) (.slice none 0 0) (.slice (some ⟨wr.heap.size, 0, none⟩) 1 1)) ∧ Rep (fun x => w.heap.size + 2 ≤ x ∧ x < W'.heap.size) W' (.mk 4 0 ByteArray.empty [] [tk]) ⟨.int .i64 4, .int .i64 0, .string ⟨#[]⟩, .slice none 0 0, .slice (some ⟨wr.heap.size, 0, none⟩) 1 1⟩ ∧ Below w.heap.size w W' := by
  have hlt := hT.lt
  generalize hV : (((((wr.setCell ⟨w.heap.size + 1, 0, none⟩ (.int .i64 4)).setCell ⟨w.heap.size + 1, 1, none⟩ (.int .i64 0)).setCell ⟨w.heap.size + 1, 2, none⟩ (.string ⟨#[]⟩)).setCell ⟨w.heap.size + 1, 3, none⟩ (.slice none 0 0)).setCell ⟨w.heap.size + 1, 4, none⟩ (.slice (some ⟨wr.heap.size, 0, none⟩) 1 1)) = V at hW
  have hsz : V.heap.size = wr.heap.size := by rw [← hV]; simp only [size_setCell]
  have hoth : ∀ x, x ≠ w.heap.size + 1 → V.heap[x]? = wr.heap[x]? := fun x h1 => by
    rw [← hV]
    repeat rw [Below.heap_setCell _ _ _ _ (by simpa using h1)]
  have hTV : V.rowIs (w.heap.size + 1) 26 5 (row5 (.int .i64 4) (.int .i64 0) (.string ⟨#[]⟩) (.slice none 0 0) (.slice (some ⟨wr.heap.size, 0, none⟩) 1 1)) := by
    rw [← hV]
    refine ((((((hT.set 0 (.int .i64 4)).set 1 (.int .i64 0)).set 2 (.string ⟨#[]⟩)).set 3 (.slice none 0 0)).set 4 (.slice (some ⟨wr.heap.size, 0, none⟩) 1 1))).congr (fun i hi => ?_)
    rcases (show i = 0 ∨ i = 1 ∨ i = 2 ∨ i = 3 ∨ i = 4 by omega) with rfl | rfl | rfl | rfl | rfl <;> rfl
  have hbV : Below w.heap.size w V := by
    rw [← hV]
    exact ((((hb.setCell (by simp) _).setCell (by simp) _).setCell (by simp) _).setCell (by simp) _).setCell (by simp) _
  have hrow := row5_alloc V c.c0 c.c1 c.c2 c.c3 c.c4 26
  rw [hsz] at hrow
  subst hW
  refine ⟨(hX.of_block (hoth _ (by omega))).alloc _, hTV.alloc _, ?_, hbV.alloc hbV.size _⟩
  exact rep_single ⟨by decide, by decide⟩ ((Below.refl _ V).alloc (Nat.le_refl _) _) hrow (by omega) (Rep.carry (fun x hx => hoth x (by omega)) (fun x hx => ⟨hx.1, by rw [hsz]; exact hx.2⟩) _ _ hk)

set_option maxRecDepth 100000 in
set_option maxHeartbeats 1600000 in
theorem l5Deep_any (w : World) (n : Nat) (hn : n ≤ 100) :
    Calls Tryz.prog 85 #[.int .i64 (n : Int)] w fun e w' => ∃ (t : Tr) (c : C5), e = .returned (.agg #[c.c0, c.c1, c.c2, c.c3, c.c4]) ∧ Rep (fun x => w.heap.size ≤ x ∧ x < w'.heap.size) w' t c ∧ Below w.heap.size w w' := by
  have hX0 := (row5_alloc w (.int .i64 0) (.int .i64 0) (.string ⟨#[]⟩) (.slice none 0 0) (.slice none 0 0) 26).alloc (.cells #[.int .i64 3, .int .i64 1, .string ⟨#[]⟩, .slice none 0 0, .slice none 0 0] 26)
  have hT0 := row5_alloc (w.alloc (.cells #[.int .i64 0, .int .i64 0, .string ⟨#[]⟩, .slice none 0 0, .slice none 0 0] 26)) (.int .i64 3) (.int .i64 1) (.string ⟨#[]⟩) (.slice none 0 0) (.slice none 0 0) 26
  rw [World.size_alloc] at hT0
  have hb0 : Below w.heap.size w ((w.alloc (.cells #[.int .i64 0, .int .i64 0, .string ⟨#[]⟩, .slice none 0 0, .slice none 0 0] 26)).alloc (.cells #[.int .i64 3, .int .i64 1, .string ⟨#[]⟩, .slice none 0 0, .slice none 0 0] 26)) := ((Below.refl _ _).alloc (Nat.le_refl _) _).alloc (by simp) _
  have HX0 := hide hX0; have HT0 := hide hT0; have HB0 := hide hb0
  clear hX0 hT0 hb0
  go_enter Tryz.func85, Tryz.ntmps85
  go_wp2_with fail
  go_loopw [4] (fun nn wr => ∃ (m : Nat) (tt : Tr) (s0 n0 : Int) (x0 : ByteArray) (a3 : Option Addr) (n3 cap3 : Nat) (a4 : Option Addr) (n4 cap4 : Nat), 1 ≤ m ∧ m ≤ n + 1 ∧ nn = .int .i64 m ∧ Hid (wr.rowIs w.heap.size 26 5 (row5 (.int .i64 0) (.int .i64 0) (.string ⟨#[]⟩) (.slice none 0 0) (.slice none 0 0))) ∧ Hid (wr.rowIs (w.heap.size + 1) 26 5 (row5 (.int .i64 s0) (.int .i64 n0) (.string x0) (.slice a3 n3 cap3) (.slice a4 n4 cap4))) ∧ Hid (Rep (fun x => w.heap.size + 2 ≤ x ∧ x < wr.heap.size) wr tt ⟨.int .i64 s0, .int .i64 n0, .string x0, .slice a3 n3 cap3, .slice a4 n4 cap4⟩) ∧ Hid (Below w.heap.size w wr)) (fun nn _ => n + 1 - (intOf nn).toNat)
  case atStart => exact ⟨1, .mk 3 1 ⟨#[]⟩ [] [], 3, 1, ⟨#[]⟩, none, 0, 0, none, 0, 0, by omega, by omega, rfl, HX0, HT0, rep_leafD 3 1 ⟨#[]⟩ ⟨by decide, by decide⟩ ⟨by decide, by decide⟩ (by decide), HB0⟩
  case round =>
    clear HX0 HT0 HB0
    obtain ⟨m, tt, s0, n0, x0, a3, n3, cap3, a4, n4, cap4, hm1, hm2, rfl, HX, HT, HR, HB⟩ := hrel
    have t0 := HT.out.cell (i := 0) (by omega); have t1 := HT.out.cell (i := 1) (by omega); have t2 := HT.out.cell (i := 2) (by omega); have t3 := HT.out.cell (i := 3) (by omega); have t4 := HT.out.cell (i := 4) (by omega); have tf := HT.out.frozen
    have y0 := HX.out.cell (i := 0) (by omega); have y1 := HX.out.cell (i := 1) (by omega); have y2 := HX.out.cell (i := 2) (by omega); have y3 := HX.out.cell (i := 3) (by omega); have y4 := HX.out.cell (i := 4) (by omega); have yf := HX.out.frozen
    simp only [row5] at t0 t1 t2 t3 t4 y0 y1 y2 y3 y4
    have hlt := HT.out.lt
    by_cases hlt2 : m < n
    · have hq : decide ((m : Int) < (n : Int)) = true := by simp; omega
      have hqn : decide (m < n) = true := by simp; omega
      have HNX := hide (deep_round (c := ⟨.int .i64 s0, .int .i64 n0, .string x0, .slice a3 n3 cap3, .slice a4 n4 cap4⟩) HX.out HT.out HR.out HB.out _ rfl)
      clear HX HT HR HB
      go_wp2_with fail
      go_roundw
      case rel => exact ⟨m + 1, _, 4, 0, ⟨#[]⟩, none, 0, 0, some ⟨wr.heap.size, 0, none⟩, 1, 1, by omega, by omega, by go_num, (unhide HNX).1, (unhide HNX).2.1, (unhide HNX).2.2.1, (unhide HNX).2.2.2⟩
      case measure => simp [intOf]; omega
    · have hq : decide ((m : Int) < (n : Int)) = false := by simp; omega
      have hqn : decide (m < n) = false := by simp; omega
      clear hlt2
      go_wp2_with fail
      refine bodyPost_ret (v := .agg #[.int .i64 s0, .int .i64 n0, .string x0, .slice a3 n3 cap3, .slice a4 n4 cap4]) (by simp [results, Tryz.results85, go_sem, y0, y1, y2, y3, y4]) rfl ?_
      refine ⟨tt, ⟨_, _, _, _, _⟩, rfl, Rep.carry (fun x hx => ?_) (fun x hx => ⟨by omega, by simp only [size_setCell]; exact hx.2⟩) _ _ HR.out, ((((HB.out.setCell (by simp) _).setCell (by simp) _).setCell (by simp) _).setCell (by simp) _).setCell (by simp) _⟩
      repeat rw [Below.heap_setCell _ _ _ _ (by simp; omega)]
end Go.Proofs.YtbkagahmiibclaaGreatDoor
