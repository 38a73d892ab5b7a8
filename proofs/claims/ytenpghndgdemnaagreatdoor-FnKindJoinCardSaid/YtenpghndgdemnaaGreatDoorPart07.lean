/- The walk of the specification's l5Wider: some schema in new memory. Draws at most 4 * 10^7. -/
import Derived.Test.YtenpghndgdemnaaGreatDoorPart06
import Derived.BigQuiet
namespace Go.Proofs.YtenpghndgdemnaaGreatDoor
open Go Go.RowKit

theorem klsz_take : ∀ (ks : List Kd) (i : Nat), (hi : i < ks.length) → klsz (ks.take (i + 1)) = klsz (ks.take i) + ksz ks[i]
  | [], i, hi => by simp at hi
  | k :: r, 0, _ => by simp [klsz]
  | k :: r, i + 1, hi => by
    simp only [List.take_succ_cons, klsz, List.getElem_cons_succ]
    rw [klsz_take r i (by simpa using hi)]; omega
theorem klsz_le : ∀ (ks : List Kd) (i : Nat), klsz (ks.take i) ≤ klsz ks
  | [], i => by simp
  | k :: r, 0 => by simp [klsz]
  | k :: r, i + 1 => by
    simp only [List.take_succ_cons, klsz]
    have := klsz_le r i; omega
theorem klsz_lenW : ∀ (ks : List Kd), ks.length ≤ klsz ks
  | [] => by simp
  | k :: r => by have := klsz_lenW r; have := ksz_posW k; simp only [klsz, List.length_cons]; omega

/-- What widening a schema comes to. -/
def WkEnd (N R : Nat) (w w' : World) (v : Value) (b : List UInt8) (p : Nat) (e : Ending) : Prop :=
  ∃ (k : Kd) (c : C3) (p' : Nat), e = .returned (.agg #[c.c0, c.c1, c.c2]) ∧ KRep (fun x => w.heap.size ≤ x ∧ x < w'.heap.size) w' k c ∧ DR R w' v b p' ∧ p' ≤ p + N ∧ wKd k + 1 ≤ N ∧ But R w w'
/-- What widening says, for schemas that are small enough. -/
def WdSaid (n : Nat) : Prop := ∀ (k : Kd), ksz k < n → ∀ (P : Nat → Prop) (R : Nat) (w : World) (v : Value) (b : List UInt8) (p : Nat) (c : C3), DR R w v b p → (∀ x, P x → x ≠ R ∧ x < w.heap.size) → KRep P w k c → okD k = true → p + 2000 * ksz k ≤ 40000000 →
  Calls Tryz.prog 20 #[.pointer (some ⟨R, 0, none⟩), .agg #[c.c0, c.c1, c.c2]] w fun e w' => WkEnd (2000 * ksz k) R w w' v b p e

/-- The answer is put into its box. -/
theorem wk_end {N R : Nat} {w W : World} {v : Value} {b : List UInt8} {p p' : Nat} {k : Kd} {c : C3} (hR : R < w.heap.size) (ho : KRep (fun x => w.heap.size + 3 ≤ x ∧ x < W.heap.size) W k c) (hd : DR R W v b p') (h1 : p' ≤ p + N) (h2 : wKd k + 1 ≤ N) (hb : But R w W) (c0 c1 c2 : Value) :
    WkEnd N R w (((W.setCell ⟨w.heap.size + 1, 0, none⟩ c0).setCell ⟨w.heap.size + 1, 1, none⟩ c1).setCell ⟨w.heap.size + 1, 2, none⟩ c2) v b p (.returned (.agg #[c.c0, c.c1, c.c2])) := by
  refine ⟨k, c, p', rfl, KRep.carry (fun x hx => by repeat rw [Below.heap_setCell _ _ _ _ (by simp; omega)]) (fun x hx => ⟨by omega, by simp only [size_setCell]; exact hx.2⟩) _ _ ho, ?_, h1, h2, ?_⟩
  · repeat refine DR.set ?_ (by omega) _ _
    exact hd
  · repeat refine but_setx ?_ (by omega) _ _
    exact hb
/-- A maybe of it is put into its box. -/
theorem wk_single {N R : Nat} {w W : World} {v : Value} {b : List UInt8} {p p' : Nat} {k : Kd} {c : C3} {s : Int} (hs : I64 s) (hR : R < w.heap.size) (hW : w.heap.size ≤ W.heap.size) (ho : KRep (fun x => w.heap.size + 3 ≤ x ∧ x < W.heap.size) W k c) (hd : DR R W v b p') (h1 : p' ≤ p + N) (h2 : wKd k + 2 ≤ N) (hb : But R w W) (c0 c1 c2 : Value) :
    WkEnd N R w ((((W.setCell ⟨w.heap.size + 1, 0, none⟩ c0).setCell ⟨w.heap.size + 1, 1, none⟩ c1).setCell ⟨w.heap.size + 1, 2, none⟩ c2).alloc (.cells #[c.c0, c.c1, c.c2] 26)) v b p (.returned (.agg #[.int .i64 s, .slice none 0 0, .slice (some ⟨W.heap.size, 0, none⟩) 1 1])) := by
  generalize hV : ((W.setCell ⟨w.heap.size + 1, 0, none⟩ c0).setCell ⟨w.heap.size + 1, 1, none⟩ c1).setCell ⟨w.heap.size + 1, 2, none⟩ c2 = V
  have hz : V.heap.size = W.heap.size := by rw [← hV]; simp only [size_setCell]
  have hoV : KRep (fun x => w.heap.size ≤ x ∧ x < V.heap.size) V k c := by
    rw [← hV]
    exact KRep.carry (fun x hx => by repeat rw [Below.heap_setCell _ _ _ _ (by simp; omega)]) (fun x hx => ⟨by omega, by simp only [size_setCell]; exact hx.2⟩) _ _ ho
  have hdV : DR R V v b p' := by
    rw [← hV]
    repeat refine DR.set ?_ (by omega) _ _
    exact hd
  have hbV : But R w V := by
    rw [← hV]
    repeat refine but_setx ?_ (by omega) _ _
    exact hb
  have hbl : Below V.heap.size V (V.alloc (.cells #[c.c0, c.c1, c.c2] 26)) := (Below.refl _ _).alloc (Nat.le_refl _) _
  have hrow := row3_alloc V c.c0 c.c1 c.c2 26
  rw [hz] at hrow
  exact ⟨.mk s [] [k], ⟨_, _, _⟩, p', rfl, krep_single hs hbl hrow hW hoV, hdV.on hbl, h1, by simp only [wKd, wS, wKs]; omega, hbV.trans (But.alloc R _ _)⟩

theorem WI.newkid {R : Nat} {w W W' : World} {c : C3} {v : Value} {b : List UInt8} {q lo : Nat} {s : Int} {vN vK : Value} {ns : List ByteArray} {ks : List Kd} {xs : List Value} {kk : Kd} {d : C3} (h : WI R w c v b q W lo s vN vK ns ks xs) (hk : KRep (fun x => W.heap.size ≤ x ∧ x < W'.heap.size) W' kk d) : KRep (fun x => w.heap.size + 3 ≤ x ∧ x < W'.heap.size ∧ vN.ownBlock ≠ some x ∧ vK.ownBlock ≠ some x) W' kk d :=
  KRep.carry (fun _ _ => rfl) (fun x hx => ⟨by have := h.hlo; have := h.size; omega, hx.2, fun e => by have := (h.nrow.lt x e).2; omega, fun e => by have := (h.krow.lt x e).2; omega⟩) _ _ hk
theorem WI.start {R : Nat} {w : World} {c0 c1 c2 : Value} {v : Value} {b : List UInt8} {p : Nat} (s : Int) (h : DR R w v b p) : WI R w ⟨c0, c1, c2⟩ v b p (((w.alloc (.cells #[c0, c1, c2] 26)).alloc (.cells #[.int .i64 0, .slice none 0 0, .slice none 0 0] 26)).alloc (.cells #[.int .i64 s, .slice none 0 0, .slice none 0 0] 26)) (w.heap.size + 3) s (.slice none 0 0) (.slice none 0 0) [] [] [] := by
  have hsp := (SP.start (c0 := c0) (c1 := c1) (c2 := c2) h).on ((Below.refl _ _).alloc (Nat.le_refl _) (.cells #[.int .i64 s, .slice none 0 0, .slice none 0 0] 26))
  have hx := row3_alloc ((w.alloc (.cells #[c0, c1, c2] 26)).alloc (.cells #[.int .i64 0, .slice none 0 0, .slice none 0 0] 26)) (.int .i64 s) (.slice none 0 0) (.slice none 0 0) 26
  rw [World.size_alloc, World.size_alloc] at hx
  exact ⟨hsp, hx, World.ownsRow_nil _ _ _ _, World.ownsRow_nil _ _ _ _, ⟨rfl, fun i hi => by simp at hi⟩, fun x e => by simp [Value.ownBlock] at e, Nat.le_refl _, by simp⟩

theorem wKs_takeW : ∀ (ks : List Kd) (j : Nat), wKs (ks.take j) ≤ wKs ks
  | [], j => by simp
  | k :: r, 0 => by simp [wKs]
  | k :: r, j + 1 => by
    simp only [List.take_succ_cons, wKs]
    have := wKs_takeW r j; omega
/-- A maybe of a new kid, in a new row. -/
theorem maybe_kid {R : Nat} {w W W0 : World} {c : C3} {v : Value} {b : List UInt8} {q B : Nat} {s : Int} {vN vK : Value} {ns : List ByteArray} {ks : List Kd} {xs : List Value} {kk : Kd} {x0 x1 x2 : Value} (h : WJ R w c v b q W B W0 s vN vK ns ks xs) (hk : KRep (fun x => w.heap.size + 3 ≤ x ∧ x < W.heap.size ∧ vN.ownBlock ≠ some x ∧ vK.ownBlock ≠ some x) W kk ⟨x0, x1, x2⟩) (o : Obj) :
    KRep (fun x => w.heap.size + 3 ≤ x ∧ x < ((W.alloc (.cells #[x0, x1, x2] 26)).alloc o).heap.size ∧ vN.ownBlock ≠ some x ∧ vK.ownBlock ≠ some x) ((W.alloc (.cells #[x0, x1, x2] 26)).alloc o) (.mk 6 [] [kk]) ⟨.int .i64 6, .slice none 0 0, .slice (some ⟨W.heap.size, 0, none⟩) 1 1⟩ := by
  have hs := h.wi.size
  have hB := h.hB
  have hb : Below W.heap.size W ((W.alloc (.cells #[x0, x1, x2] 26)).alloc o) := ((Below.refl _ _).alloc (Nat.le_refl _) _).alloc (by simp) _
  have hrow := (row3_alloc W x0 x1 x2 26).alloc o
  rw [KRep]
  refine ⟨rfl, ⟨by decide, by decide⟩, ⟨none, 0, rfl, by simp, fun i hi => by simp at hi⟩, _, _, rfl, by simp, fun _ => ⟨W.heap.size, 0, rfl, ⟨by omega, hrow.lt, fun e => by have := (h.wi.nrow.lt _ e).2; omega, fun e => by have := (h.wi.krow.lt _ e).2; omega⟩, ?_⟩⟩
  rw [KRepK]
  exact ⟨⟨⟨x0, x1, x2⟩, ⟨hrow.cell (i := 0) (by omega), hrow.cell (i := 1) (by omega), hrow.cell (i := 2) (by omega)⟩, KRep.carry (fun x hx => hb.block x hx.2.1) (fun x hx => ⟨hx.1, Nat.lt_of_lt_of_le hx.2.1 hb.size, hx.2.2⟩) _ _ hk⟩, by rw [KRepK]; trivial⟩

set_option maxRecDepth 100000 in
set_option maxHeartbeats 12800000 in
theorem l5Wider_step (n : Nat) (IH : WdSaid n) : WdSaid (n + 1) := by
  intro k hk P R w v b p c h hP hrep hok hp
  obtain ⟨c0, c1, c2⟩ := c
  obtain ⟨e0, hi0, hns, aK, capK, e2, hkl, hks⟩ := hrep.open
  simp only at e0 e2 hns
  obtain ⟨aN, capN, e1, hnl, hnc⟩ := hns
  subst e0 e1 e2
  have hke : ksz k = 1 + klsz k.kids := by obtain ⟨s, ns, ks⟩ := k; rw [ksz]; rfl
  have hkn := klsz_lenW k.kids
  have hokd := hok
  rw [okD_eq] at hokd
  simp only [Bool.and_eq_true] at hokd
  have hwi := WI.start (c0 := .int .i64 k.sort) (c1 := .slice aN k.names.length capN) (c2 := .slice aK k.kids.length capK) k.sort h
  have hR := h.cells.lt
  obtain ⟨nK, hnK⟩ : ∃ nK, nK = k.kids.length := ⟨_, rfl⟩
  obtain ⟨nN, hnN⟩ : ∃ nN, nN = k.names.length := ⟨_, rfl⟩
  rw [← hnK] at hkn hkl hwi ⊢
  rw [← hnN] at hnl hwi ⊢
  have hnk : nK ≤ 20000 := by omega
  obtain ⟨i0, hi, hz0, hz1, hz2⟩ := info_parts infoKind3
  have HII := hide hi; have HZ0 := hide hz0; have HZ1 := hide hz1; have HZ2 := hide hz2
  have HWI0 := hide hwi; have HNK := hide hnK; have HNN := hide hnN; have HP := hide hP; have HI := hide IH; have HKS := hide hks; have HNC := hide hnc; have HOKS := hide hokd.2; have HSH := hide hokd.1; have HKE := hide hke; have HPP := hide hp; have HKK := hide hk; have HI0 := hide hi0
  have HNM := hide l5Names_any
  clear hi hz0 hz1 hz2 hwi h hrep hok hokd hnK hnN hP IH hks hnc hke hkn hkl hnl hk hp hi0
  go_enter Tryz.func20, Tryz.ntmps20
  go_wp2_with fail
  generalize hW0 : (((w.alloc (.cells #[.int .i64 k.sort, .slice aN nN capN, .slice aK nK capK] 26)).alloc (.cells #[.int .i64 0, .slice none 0 0, .slice none 0 0] 26)).alloc (.cells #[.int .i64 k.sort, .slice none 0 0, .slice none 0 0] 26)) = W0 at *
  clear hW0
  go_loopw [6] (fun i wr => ∃ (m q : Nat) (aG : Option Addr) (capG : Nat) (ks : List Kd) (xs : List Value), m ≤ nK ∧ i = .int .i64 m ∧ ks.length = m ∧ Hid (q ≤ p + 2000 * klsz (k.kids.take m) ∧ wKs ks ≤ 2000 * klsz (k.kids.take m)) ∧ Hid (WI R w ⟨.int .i64 k.sort, .slice aN nN capN, .slice aK nK capK⟩ v b q wr (w.heap.size + 3) k.sort (.slice none 0 0) (.slice aG m capG) [] ks xs)) (fun i _ => nK - (intOf i).toNat)
  case atStart => exact ⟨0, p, none, 0, [], [], Nat.zero_le _, rfl, rfl, hide ⟨by omega, by simp [wKs]⟩, HWI0⟩
  case round =>
    clear HWI0
    obtain ⟨m, q, aG, capG, ks, xs, hm, rfl, hlen, HQ, HW⟩ := hrel
    have hsz := HW.out.size
    have k2 := HW.out.sp.bK.cell (i := 2) (by omega)
    have t2 := HW.out.out.cell (i := 2) (by omega)
    simp only [row3] at k2 t2
    by_cases hlt : m < nK
    · have hlk : m < k.kids.length := by rw [← unhide HNK]; exact hlt
      obtain ⟨kb, ko, ⟨d0, d1, d2⟩, rfl, hpb, hcell, hrp⟩ := unhide HKS m hlk
      have hold : ∀ x, P x → wr.heap[x]? = w.heap[x]? := fun x hx => HW.out.sp.but.at (unhide HP x hx).2 (by have := (unhide HP x hx).1; omega)
      have hcell' := hcell.carry (hold kb hpb)
      have hrw : KRep P wr.drew k.kids[m] ⟨d0, d1, d2⟩ := KRep.carry (w' := wr.drew) hold (fun _ h => h) _ _ hrp
      obtain ⟨p0, -, ⟨a5, cap5, p1, -⟩, a6, cap6, p2, -⟩ := hrp.open
      simp only at p0 p1 p2
      subst p0 p1 p2
      obtain ⟨f0, f1, f2⟩ := hcell'
      simp only at f0 f1 f2
      have hsm : ksz k.kids[m] < n := by have := ksz_kid (List.getElem_mem hlk); have := unhide HKK; omega
      have hnt := klsz_take k.kids m hlk
      have hnl := klsz_le k.kids (m + 1)
      have hqb : q + 2000 * ksz k.kids[m] ≤ 40000000 := by have := HQ.out.1; have := unhide HKE; have := unhide HPP; omega
      have hix : (m : Int) < (nK : Int) := by omega
      have hcall : Calls Tryz.prog 20 #[.pointer (some ⟨R, 0, none⟩), .agg #[.int .i64 k.kids[m].sort, .slice a5 k.kids[m].names.length cap5, .slice a6 k.kids[m].kids.length cap6]] wr.drew fun e w6 => ∃ (kk : Kd) (x0 : Int) (ap : Option Addr) (np cp : Nat) (aq : Option Addr) (nq cq : Nat) (q' : Nat), e = .returned (.agg #[.int .i64 x0, .slice ap np cp, .slice aq nq cq]) ∧ Hid (KRep (fun x => w.heap.size + 3 ≤ x ∧ x < w6.heap.size ∧ (Value.slice none 0 0).ownBlock ≠ some x ∧ (Value.slice aG m capG).ownBlock ≠ some x) w6 kk ⟨.int .i64 x0, .slice ap np cp, .slice aq nq cq⟩) ∧ Hid (WI R w ⟨.int .i64 k.sort, .slice aN nN capN, .slice (some ⟨kb, ko, none⟩) nK capK⟩ v b q' w6 (w.heap.size + 3) k.sort (.slice none 0 0) (.slice aG m capG) [] ks xs) ∧ Hid (q' ≤ q + 2000 * ksz k.kids[m] ∧ wKd kk + 1 ≤ 2000 * ksz k.kids[m]) ∧ wr.heap.size ≤ w6.heap.size ∧ w6.cell? ⟨w.heap.size + 2, 2, none⟩ = some (.slice aG m capG) ∧ ∀ ob, (w6.alloc ob).cell? ⟨w.heap.size + 2, 2, none⟩ = some (.slice aG m capG) := by
        refine (unhide HI k.kids[m] hsm P R wr.drew v b q ⟨_, _, _⟩ HW.out.drew.sp.dr (fun x hx => ⟨(unhide HP x hx).1, by have := (unhide HP x hx).2; show x < wr.heap.size; have := HW.out.hlo; omega⟩) hrw (okDs_get (unhide HOKS) m hlk) hqb).mono ?_
        rintro e w6 ⟨kk, ⟨y0, y1, y2⟩, q', rfl, hkr, hd6, hq6, hw6, hb6⟩
        have hw := HW.out.drew.next hd6 hb6
        have hkr2 := HW.out.drew.newkid hkr
        obtain ⟨z0, -, ⟨a7, cap7, z1, -⟩, a8, cap8, z2, -⟩ := hkr.open
        simp only at z0 z1 z2
        subst z0 z1 z2
        exact ⟨kk, _, _, _, _, _, _, _, q', rfl, hkr2, hw, ⟨hq6, hw6⟩, hb6.size, hw.out.cell (i := 2) (by omega), fun ob => (hw.out.alloc ob).cell (i := 2) (by omega)⟩
      have HNT := hide hnt
      generalize k.kids[m] = k1 at *
      have HCALL := hide hcall
      clear hcall hcell hrp hrw hsm hpb hold hnt hnl hqb
      go_wp2_with fail
      go_region_law (first
        | ((refine step_append_lies _ (by rfl) _ _ _ (by rfl) (w.heap.size + 3) 26 i0 _ 3 56 Tryz.underlying24 (unhide HII) (unhide HZ0) (unhide HZ1) (unhide HZ2) rfl (by decide) (.slice aG m capG) m xs (by rfl) (by have := (unhide HW6).krow; rw [hlen] at this; exact this.alloc _) ⟨w6.heap.size, 0, none⟩ 1 1 (c3l ⟨.int .i64 x0, .slice ap np cp, .slice aq nq cq⟩) (by rfl) (by rfl) (cell_three w6 _ _) (fun u hu => by simp [c3l] at hu; rcases hu with rfl | rfl | rfl <;> rfl) (by decide) (by unfold maxLen; omega) (by omega) (by simp; omega) (w6.heap.size + 1) (by simp) ?_; intro g2 cap2 w8 hown8 hgrow8 hat8 hlt8; have u2 := (WI.atK ((unhide HW6).alloc _) hgrow8).cell (i := 2) (by omega); have uz2 := (WI.atK ((unhide HW6).alloc _) hgrow8).frozen 2; simp only [row3] at u2))
        | (rw [if_pos (by first | rfl | simp [Region.wanted])]; go_simp; refine (unhide HCALL).mono ?_; rintro e w6 ⟨kk, x0, ap, np, cp, aq, nq, cq, q', rfl, HKR, HW6, HQ6, hs6, t2c, t2d⟩))
      all_goals
        have hz6 : ∀ o, (w6.alloc o).heap.size = w6.heap.size + 1 := fun o => World.size_alloc _ _
        have hwi8 := WI.kid ((unhide HW6).alloc (.cells #[.int .i64 x0, .slice ap np cp, .slice aq nq cq] 26)) (KRep.carry (fun x hx => Below.heap_alloc _ _ _ hx.2.1) (fun x hx => ⟨hx.1, by rw [hz6]; have := hx.2.1; omega, hx.2.2⟩) _ _ (unhide HKR)) (by rw [hlen]; exact hown8) hgrow8 (hat8.elim (fun e => Or.inl (by rw [e]; rfl)) (fun e => Or.inr ⟨g2, rfl, by rw [hz6, e]; exact Nat.le_refl _⟩))
        have HW8 := hide hwi8
        clear hwi8 hown8 hgrow8 hat8 hlt8 u2 uz2 HKR HW6 HW t2c t2d
        go_wp2_with fail
        go_roundw
        case rel => exact ⟨m + 1, q', some ⟨g2, 0, none⟩, cap2, ks ++ [kk], _, by omega, by go_num, by simp [hlen], hide ⟨by rw [unhide HNT]; have := HQ.out.1; have := HQ6.out.1; omega, by rw [wKs_snoc1, unhide HNT]; have := HQ.out.2; have := HQ6.out.2; omega⟩, HW8⟩
        case measure => simp [intOf]; omega
    · obtain rfl : m = nK := by omega
      have HWn := hide (HW.out.alloc (.cells (nm8.map Value.string).toArray 9))
      have hfull : k.kids.take m = k.kids := List.take_of_length_le (by rw [← unhide HNK]; exact Nat.le_refl _)
      rw [hfull] at HQ
      have k0 := HWn.out.sp.bK.cell (i := 0) (by omega)
      simp only [row3] at k0
      clear hfull t2
      go_wp2_with fail
      refine (unhide HNM _).mono ?_
      rintro e w2 ⟨rfl, rfl⟩
      go_upto_if 36 with fail
      go_cut [] from 7 (fun wx => ∃ (q2 lo2 : Nat) (aN2 : Option Addr) (n2 capN2 : Nat) (aK2 : Option Addr) (m2 capK2 : Nat) (ns2 : List ByteArray) (ks2 : List Kd) (xs2 : List Value), Hid (q2 ≤ p + 2000 * klsz k.kids + 1500 ∧ wS ns2 + wKs ks2 ≤ 2000 * klsz k.kids + 1600 ∧ (∀ x, x ∈ ns2 → x.size ≤ 4) ∧ ks2.length ≤ 1000000) ∧ Hid (WI R w ⟨.int .i64 k.sort, .slice aN nN capN, .slice aK m capK⟩ v b q2 wx lo2 k.sort (.slice aN2 n2 capN2) (.slice aK2 m2 capK2) ns2 ks2 xs2))
      case first =>
        by_cases h5 : k.sort = 5
        · have hq5 : (k.sort == 5) = true := beq_iff_eq.2 h5
          have hq6 : decide (k.sort = 5) = true := by simpa using h5
          have hnm : nN = m := by
            rcases shB_cases (unhide HSH) with h | h | h
            · omega
            · omega
            · have := unhide HNK; have := unhide HNN; omega
          clear h5
          have t2 := HW.out.out.cell (i := 2) (by omega)
          have tf := HW.out.out.frozen
          simp only [row3] at t2
          have hl2 := HW.out.out.lt
          have hl3 : w.heap.size + 2 < wr.heap.size + 1 := by omega
          have hl4 : w.heap.size + 2 ≠ wr.heap.size := by omega
          have hl5 : w.heap.size + 2 ≠ wr.heap.size + 1 := by omega
          have HJ0 := hide (WJ.start HW.out)
          obtain ⟨j0, hj, hy0, hy1, hy2⟩ := info_parts infoStr1
          have HJJ := hide hj; have HY0 := hide hy0; have HY1 := hide hy1; have HY2 := hide hy2
          have hkd : ∀ (W : World) (q9 : Nat), DR R W v b q9 → q9 + cd 1 ≤ 100000000 → Calls Tryz.prog 40 #[.pointer (some ⟨R, 0, none⟩), .int .i64 2, .bool false] W fun e w' => LkEnd 1 R W w' v b q9 e := fun W q9 h1 h2 => lk_all 1 (by omega) R W v b q9 false h1 h2
          have HKD := hide hkd
          have HNMM := hide hnm
          clear hj hy0 hy1 hy2 hkd
          go_wp2_with fail
          generalize hW3 : (((wr.setCell ⟨w.heap.size + 1 + 1, 2, none⟩ (.slice (some ⟨wr.heap.size + 1, 0, none⟩) 0 0)).alloc (.cells (nm8.map Value.string).toArray 9)).alloc (.cells #[] 26)) = W3 at *
          simp only [hq5]
          clear hW3 hnm hq5 hq6 t2 tf hl3 hl4 hl5 HWn k0 k2
          obtain ⟨WA, hWA⟩ : ∃ WA, WA = wr := ⟨_, rfl⟩
          subst hWA
          go_loopw [9, 10] (fun jj ii wv => ∃ (i j q2 nn : Nat) (aN2 : Option Addr) (capN2 : Nat) (aK2 : Option Addr) (capK2 : Nat) (ns2 : List ByteArray) (ks2 : List Kd) (xs2 : List Value), i ≤ 8 ∧ j ≤ m ∧ nn ≤ i ∧ jj = .int .i64 j ∧ ii = .int .i64 i ∧ ns2.length = nn ∧ ks2.length = nn ∧ Hid (q2 ≤ q + 181 * i ∧ wS ns2 ≤ 5 * i ∧ wKs ks2 ≤ wKs (ks.take j) + 183 * i ∧ ∀ x, x ∈ ns2 → x.size ≤ 4) ∧ Hid (WJ R w ⟨.int .i64 k.sort, .slice aN nN capN, .slice aK m capK⟩ v b q2 wv WA.heap.size WA k.sort (.slice aN2 nn capN2) (.slice aK2 nn capK2) ns2 ks2 xs2)) (fun _ ii _ => 8 - (intOf ii).toNat)
          case atStart => exact ⟨0, 0, q, 0, none, 0, _, 0, [], [], [], by omega, by omega, by omega, rfl, rfl, rfl, rfl, hide ⟨by omega, by simp [wS], by simp [wKs], (fun x hx => by cases hx)⟩, HJ0⟩
          case round =>
            clear HJ0
            obtain ⟨i, j, q2, nn, aN2, capN2, aK2, capK2, ns2, ks2, xs2, hi8, hjm, hnn, rfl, rfl, hln, hlk2, HBD, HJ⟩ := hrel
            by_cases hi : i < 8
            · have hqi : decide ((i : Int) < 8) = true := by simp; omega
              have hix : (i : Int) < 8 := by omega
              have k1 := HJ.out.wi.sp.bK.cell (i := 1) (by omega)
              simp only [row3] at k1
              have en := HJ.out.nms.cell (i := i) hi
              have hnsz := nm8_size i
              obtain ⟨nm, hnmi⟩ : ∃ nm, nm8.getD i ByteArray.empty = nm := ⟨_, rfl⟩
              have HNMI : Hid (Value.string (nm8.getD i ByteArray.empty) = Value.string nm) := by show _ = _; rw [hnmi]
              rw [hnmi] at en hnsz
              clear hnmi
              go_upto_region 14 with fail
              go_cut [63] from 41 to 104 (fun s wx => ∃ bv : Bool, s = .bool bv ∧ (bv = true → j < m) ∧ Hid (WJ R w ⟨.int .i64 k.sort, .slice aN nN capN, .slice aK m capK⟩ v b q2 wx WA.heap.size WA k.sort (.slice aN2 nn capN2) (.slice aK2 nn capK2) ns2 ks2 xs2))
              case first =>
                have HJD := hide HJ.out.drew
                by_cases hj : j < nN
                · obtain ⟨nb, no, rfl, hpn, hcn, -⟩ := unhide HNC j (by rw [← unhide HNN]; exact hj)
                  have en2 : wr.cell? ⟨nb, no + j, none⟩ = some (.string (k.names[j]'(by rw [← unhide HNN]; exact hj))) := by
                    rw [World.cell?_of_block (w := w) (a := ⟨nb, no + j, none⟩) (HJ.out.wi.sp.but.at (unhide HP nb hpn).2 (show nb ≠ R by have := (unhide HP nb hpn).1; omega))]; exact hcn
                  have hqj : decide ((j : Int) < (nN : Int)) = true := by simp; omega
                  have hjx : (j : Int) < (nN : Int) := by omega
                  generalize k.names[j]'(by rw [← unhide HNN]; exact hj) = kn at *
                  clear hcn
                  by_cases heq : kn = nm
                  · have hb1 : (kn.toList == nm.toList) = true := by rw [lst_beq]; exact decide_eq_true heq
                    clear heq
                    go_region
                    go_wp2_with fail
                    go_meet
                    case rel => exact ⟨true, rfl, fun _ => by have := unhide HNMM; omega, HJD⟩
                  · have hb1 : (kn.toList == nm.toList) = false := by rw [lst_beq]; exact decide_eq_false heq
                    clear heq
                    go_region
                    go_wp2_with fail
                    go_meet
                    case rel => exact ⟨false, rfl, (fun h => by cases h), HJD⟩
                · have hqj : decide ((j : Int) < (nN : Int)) = false := by simp; omega
                  go_region
                  go_wp2_with fail
                  go_meet
                  case rel => exact ⟨false, rfl, (fun h => by cases h), HJD⟩
              case rest =>
                obtain ⟨bv, rfl, hbv, HJ4⟩ := hcut
                clear HJ k1 en
                cases bv with
                | true =>
                  have hjm2 := hbv rfl
                  clear hbv
                  have e1 := HJ4.out.wi.out.cell (i := 1) (by omega)
                  simp only [row3] at e1
                  have e1a : ∀ ob, (wc.alloc ob).cell? ⟨w.heap.size + 2, 1, none⟩ = some (.slice aN2 nn capN2) := fun ob => (HJ4.out.wi.out.alloc ob).cell (i := 1) (by omega)
                  have en := HJ4.out.nms.cell (i := i) hi
                  rw [unhide HNMI] at en
                  have HJD := hide HJ4.out.drew
                  have hsz4 := HJ4.out.wi.size
                  go_wp2_with fail
                  go_cut [] from 41 to 104 (fun wx => ∃ g1 cap1, Hid (WJ R w ⟨.int .i64 k.sort, .slice aN nN capN, .slice aK m capK⟩ v b q2 wx WA.heap.size WA k.sort (.slice (some ⟨g1, 0, none⟩) (nn + 1) cap1) (.slice aK2 nn capK2) (ns2 ++ [nm]) ks2 xs2))
                  case first =>
                    go_region_law ((refine step_append_lies _ (by rfl) _ _ _ (by rfl) (WA.heap.size + 1) 9 j0 (.string ByteArray.empty) 1 16 Tryz.underlying23 (unhide HJJ) (unhide HY0) (unhide HY1) (unhide HY2) rfl (by decide) (.slice aN2 nn capN2) nn (ns2.map Value.string) (by rfl) (by have := (unhide HJD).wi.nrow; rw [hln] at this; exact this.alloc _) ⟨wc.heap.size, 0, none⟩ 1 1 [.string nm] (by rfl) (by rfl) (cell_one wc.drew _ _) (fun u hu => by simp at hu; subst hu; rfl) (by decide) (by unfold maxLen; omega) (by omega) (by simp; omega) (wc.heap.size + 1) (by simp) ?_; intro g1 cap1 w4 hown4 hgrow4 hat4 hlt4; have u1 := (WI.atN ((unhide HJD).wi.alloc _) hgrow4).cell (i := 1) (by omega); have uz := (WI.atN ((unhide HJD).wi.alloc _) hgrow4).frozen 1; simp only [row3] at u1))
                    all_goals
                      have hz4 : ∀ o, (wc.drew.alloc o).heap.size = wc.heap.size + 1 := fun o => by rw [World.size_alloc]; rfl
                      have hj5 := WJ.name ((unhide HJD).alloc (.cells #[.string nm] 9)) (by rw [hln]; exact hown4) hgrow4 (hat4.elim (fun e => Or.inl (by rw [e]; rfl)) (fun e => Or.inr ⟨g1, rfl, by rw [hz4, e]; exact Nat.le_refl _⟩))
                      have HJ5 := hide hj5
                      clear hj5 hown4 hgrow4 hat4 hlt4 uz u1
                      go_wp2_with fail
                      go_meet
                      exact ⟨g1, cap1, HJ5⟩
                  case rest =>
                    obtain ⟨g1, cap1, HJ5⟩ := hcut
                    clear HJD HJ4 e1 e1a en hsz4
                    obtain ⟨g0, cap0, eG, hg1, hg2⟩ := HW.out.krow.form (by omega)
                    simp only [Value.slice.injEq] at eG
                    obtain ⟨rfl, -, rfl⟩ := eG
                    have hjl : j < ks.length := by omega
                    obtain ⟨⟨y0, y1, y2⟩, x0, x1, x2, hkr⟩ := HW.out.kl.2 j hjl
                    have hg3 := (HW.out.krow.lt g0 rfl)
                    have hgb : wc.heap[g0]? = WA.heap[g0]? := HJ5.out.kp g0 hg3.2 (by omega) (by omega)
                    have f0 := HW.out.krow.cells (g := g0) rfl _ _ x0
                    have f1 := HW.out.krow.cells (g := g0) rfl _ _ x1
                    have f2 := HW.out.krow.cells (g := g0) rfl _ _ x2
                    simp only [Addr.add_lit, Nat.zero_add] at f0 f1 f2
                    rw [← World.cell?_of_block (w := WA) (a := ⟨g0, _, none⟩) hgb] at f0 f1 f2
                    obtain ⟨z0, -, ⟨a7, cap7, z1, -⟩, a8, cap8, z2, -⟩ := hkr.open
                    simp only at z0 z1 z2
                    subst z0 z1 z2
                    have hko := HJ5.out.drew.oldkid (KRep.carry (fun _ _ => rfl) (fun x hx => ⟨hx.1, hx.2.1⟩) _ _ hkr)
                    have htk : ks.take (j + 1) = ks.take j ++ [ks[j]] := List.take_succ_eq_append_getElem hjl
                    have HTK := hide htk
                    have HKO := hide hko
                    have e2 := HJ5.out.wi.out.cell (i := 2) (by omega)
                    simp only [row3] at e2
                    have e2a : ∀ ob, (wc.alloc ob).cell? ⟨w.heap.size + 2, 2, none⟩ = some (.slice aK2 nn capK2) := fun ob => (HJ5.out.wi.out.alloc ob).cell (i := 2) (by omega)
                    have HJD := hide HJ5.out.drew
                    have hsz5 := HJ5.out.wi.size
                    have hjx : (j : Int) < (m : Int) := by omega
                    generalize ks[j] = k1 at *
                    clear hkr hko htk x0 x1 x2 hgb hg3
                    go_wp2_with fail
                    go_cut [] from 41 to 104 (fun wx => ∃ g2 cap2, Hid (WJ R w ⟨.int .i64 k.sort, .slice aN nN capN, .slice aK m capK⟩ v b q2 wx WA.heap.size WA k.sort (.slice (some ⟨g1, 0, none⟩) (nn + 1) cap1) (.slice (some ⟨g2, 0, none⟩) (nn + 1) cap2) (ns2 ++ [nm]) (ks2 ++ [k1]) (xs2 ++ c3l ⟨.int .i64 k1.sort, .slice a7 k1.names.length cap7, .slice a8 k1.kids.length cap8⟩)))
                    case first =>
                      go_region_law ((refine step_append_lies _ (by rfl) _ _ _ (by rfl) (WA.heap.size + 1) 26 i0 _ 3 56 Tryz.underlying24 (unhide HII) (unhide HZ0) (unhide HZ1) (unhide HZ2) rfl (by decide) (.slice aK2 nn capK2) nn xs2 (by rfl) (by have := (unhide HJD).wi.krow; rw [hlk2] at this; exact this.alloc _) ⟨wc.heap.size, 0, none⟩ 1 1 (c3l ⟨.int .i64 k1.sort, .slice a7 k1.names.length cap7, .slice a8 k1.kids.length cap8⟩) (by rfl) (by rfl) (cell_three wc.drew _ _) (fun u hu => by simp [c3l] at hu; rcases hu with rfl | rfl | rfl <;> rfl) (by decide) (by unfold maxLen; omega) (by omega) (by simp; omega) (wc.heap.size + 1) (by simp) ?_; intro g2 cap2 w8 hown8 hgrow8 hat8 hlt8; have u2 := (WI.atK ((unhide HJD).wi.alloc _) hgrow8).cell (i := 2) (by omega); have uz2 := (WI.atK ((unhide HJD).wi.alloc _) hgrow8).frozen 2; simp only [row3] at u2))
                      all_goals
                        have hz4 : ∀ o, (wc.drew.alloc o).heap.size = wc.heap.size + 1 := fun o => by rw [World.size_alloc]; rfl
                        have hj8 := WJ.kid ((unhide HJD).alloc (.cells #[.int .i64 k1.sort, .slice a7 k1.names.length cap7, .slice a8 k1.kids.length cap8] 26)) (KRep.carry (fun x hx => Below.heap_alloc _ _ _ hx.2.1) (fun x hx => ⟨hx.1, by rw [World.size_alloc]; have := hx.2.1; omega, hx.2.2⟩) _ _ (unhide HKO)) (by rw [hlk2]; exact hown8) hgrow8 (hat8.elim (fun e => Or.inl (by rw [e]; rfl)) (fun e => Or.inr ⟨g2, rfl, by rw [hz4, e]; exact Nat.le_refl _⟩))
                        have HJ8 := hide hj8
                        clear hj8 hown8 hgrow8 hat8 hlt8 uz2 u2
                        go_wp2_with fail
                        go_meet
                        exact ⟨g2, cap2, HJ8⟩
                    case rest =>
                      obtain ⟨g2, cap2, HJ8⟩ := hcut
                      clear HJD HJ5 e2 e2a f0 f1 f2 HKO hsz5
                      go_wp2_with fail
                      go_roundw
                      case rel => exact ⟨i + 1, j + 1, q2, nn + 1, some ⟨g1, 0, none⟩, cap1, some ⟨g2, 0, none⟩, cap2, ns2 ++ [nm], ks2 ++ [k1], _, by omega, by omega, by omega, by go_num, by go_num, by simp [hln], by simp [hlk2], hide ⟨by have := HBD.out.1; omega, by rw [wS_snoc1]; have := HBD.out.2.1; omega, by rw [wKs_snoc1, unhide HTK, wKs_snoc1]; have := HBD.out.2.2.1; omega, fun x hx => by
                        rcases List.mem_append.1 hx with hx | hx
                        · exact HBD.out.2.2.2 x hx
                        · simp at hx; rw [hx]; exact hnsz⟩, HJ8⟩
                      case measure => simp [intOf]; omega
                | false =>
                  clear hbv
                  have hqq : q2 ≤ 100000000 - 1000 := by have := HBD.out.1; have := HQ.out.1; have := unhide HPP; have := unhide HKE; omega
                  have HPK := hide (pick_any R wc v b q2 9 HJ4.out.wi.sp.dr (by omega) (by omega))
                  go_wp2_with fail
                  refine (unhide HPK).mono ?_
                  rintro e w5 ⟨r5, rfl, hr5, HD5, HB5⟩
                  have HJ6 := hide (HJ4.out.next HD5.out HB5.out)
                  clear HD5 HB5 HPK HJ4
                  by_cases h0 : r5 = 0
                  · subst h0
                    obtain ⟨wc, hwc⟩ : ∃ wc, wc = w5 := ⟨_, rfl⟩
                    rw [← hwc] at HJ6 ⊢
                    clear hwc
                    have HJ4 := HJ6
                    clear HJ6
                    have e1 := HJ4.out.wi.out.cell (i := 1) (by omega)
                    simp only [row3] at e1
                    have e1a : ∀ ob, (wc.alloc ob).cell? ⟨w.heap.size + 2, 1, none⟩ = some (.slice aN2 nn capN2) := fun ob => (HJ4.out.wi.out.alloc ob).cell (i := 1) (by omega)
                    have en := HJ4.out.nms.cell (i := i) hi
                    rw [unhide HNMI] at en
                    have HJD := hide HJ4.out.drew
                    have hsz4 := HJ4.out.wi.size
                    go_wp2_with fail
                    go_cut [] from 41 to 104 (fun wx => ∃ g1 cap1, Hid (WJ R w ⟨.int .i64 k.sort, .slice aN nN capN, .slice aK m capK⟩ v b (q2 + 1) wx WA.heap.size WA k.sort (.slice (some ⟨g1, 0, none⟩) (nn + 1) cap1) (.slice aK2 nn capK2) (ns2 ++ [nm]) ks2 xs2))
                    case first =>
                      go_region_law ((refine step_append_lies _ (by rfl) _ _ _ (by rfl) (WA.heap.size + 1) 9 j0 (.string ByteArray.empty) 1 16 Tryz.underlying23 (unhide HJJ) (unhide HY0) (unhide HY1) (unhide HY2) rfl (by decide) (.slice aN2 nn capN2) nn (ns2.map Value.string) (by rfl) (by have := (unhide HJD).wi.nrow; rw [hln] at this; exact this.alloc _) ⟨wc.heap.size, 0, none⟩ 1 1 [.string nm] (by rfl) (by rfl) (cell_one wc.drew _ _) (fun u hu => by simp at hu; subst hu; rfl) (by decide) (by unfold maxLen; omega) (by omega) (by simp; omega) (wc.heap.size + 1) (by simp) ?_; intro g1 cap1 w4 hown4 hgrow4 hat4 hlt4; have u1 := (WI.atN ((unhide HJD).wi.alloc _) hgrow4).cell (i := 1) (by omega); have uz := (WI.atN ((unhide HJD).wi.alloc _) hgrow4).frozen 1; simp only [row3] at u1))
                      all_goals
                        have hz4 : ∀ o, (wc.drew.alloc o).heap.size = wc.heap.size + 1 := fun o => by rw [World.size_alloc]; rfl
                        have hj5 := WJ.name ((unhide HJD).alloc (.cells #[.string nm] 9)) (by rw [hln]; exact hown4) hgrow4 (hat4.elim (fun e => Or.inl (by rw [e]; rfl)) (fun e => Or.inr ⟨g1, rfl, by rw [hz4, e]; exact Nat.le_refl _⟩))
                        have HJ5 := hide hj5
                        clear hj5 hown4 hgrow4 hat4 hlt4 uz u1
                        go_wp2_with fail
                        go_meet
                        exact ⟨g1, cap1, HJ5⟩
                    case rest =>
                      obtain ⟨g1, cap1, HJ5⟩ := hcut
                      clear HJD HJ4 e1 e1a en hsz4
                      have hcall : Calls Tryz.prog 40 #[.pointer (some ⟨R, 0, none⟩), .int .i64 2, .bool false] wc.drew fun e w6 => ∃ (kk : Kd) (x0 : Int) (ap : Option Addr) (np cp : Nat) (aq : Option Addr) (nq cq : Nat) (q' : Nat), e = .returned (.agg #[.int .i64 x0, .slice ap np cp, .slice aq nq cq]) ∧ Hid (KRep (fun x => w.heap.size + 3 ≤ x ∧ x < w6.heap.size ∧ (Value.slice (some ⟨g1, 0, none⟩) (nn + 1) cap1).ownBlock ≠ some x ∧ (Value.slice aK2 nn capK2).ownBlock ≠ some x) w6 kk ⟨.int .i64 x0, .slice ap np cp, .slice aq nq cq⟩) ∧ Hid (WJ R w ⟨.int .i64 k.sort, .slice aN nN capN, .slice aK m capK⟩ v b q' w6 WA.heap.size WA k.sort (.slice (some ⟨g1, 0, none⟩) (nn + 1) cap1) (.slice aK2 nn capK2) (ns2 ++ [nm]) ks2 xs2) ∧ Hid (q' ≤ q2 + 1 + 180 ∧ wKd kk ≤ 180) ∧ wc.heap.size ≤ w6.heap.size ∧ w6.cell? ⟨w.heap.size + 2, 2, none⟩ = some (.slice aK2 nn capK2) ∧ (∀ ob, (w6.alloc ob).cell? ⟨w.heap.size + 2, 2, none⟩ = some (.slice aK2 nn capK2)) ∧ ∀ ob ob2, ((w6.alloc ob).alloc ob2).cell? ⟨w.heap.size + 2, 2, none⟩ = some (.slice aK2 nn capK2) := by
                        have hcd : cd 1 = 180 := rfl
                        refine (unhide HKD wc.drew (q2 + 1) HJ5.out.drew.wi.sp.dr (by rw [hcd]; omega)).mono ?_
                        rintro e w6 ⟨kk, ⟨y0, y1, y2⟩, F, q', rfl, ho, -, hF, hd6, hq6, hw6, hb6⟩
                        rw [hcd] at hq6 hw6
                        have hw := HJ5.out.drew.next hd6 hb6
                        have hkr := HJ5.out.drew.wi.newkid (OwnD.rep _ _ F hF ho)
                        obtain ⟨z0, -, ⟨a7, cap7, z1, -⟩, a8, cap8, z2, -⟩ := hkr.open
                        simp only at z0 z1 z2
                        subst z0 z1 z2
                        exact ⟨kk, _, _, _, _, _, _, _, q', rfl, hkr, hw, ⟨hq6, hw6⟩, hb6.size, hw.wi.out.cell (i := 2) (by omega), fun ob => (hw.wi.out.alloc ob).cell (i := 2) (by omega), fun ob ob2 => ((hw.wi.out.alloc ob).alloc ob2).cell (i := 2) (by omega)⟩
                      have HCALL := hide hcall
                      have e2 := HJ5.out.wi.out.cell (i := 2) (by omega)
                      simp only [row3] at e2
                      have hsz5 := HJ5.out.wi.size
                      clear hcall HKD
                      go_wp2_with fail
                      go_region_law (first
                        | ((refine step_append_lies _ (by rfl) _ _ _ (by rfl) (WA.heap.size + 1) 26 i0 _ 3 56 Tryz.underlying24 (unhide HII) (unhide HZ0) (unhide HZ1) (unhide HZ2) rfl (by decide) (.slice aK2 nn capK2) nn xs2 (by rfl) (by have := (unhide HJ7).wi.krow; rw [hlk2] at this; exact (this.alloc _).alloc _) ⟨w6.heap.size + 1, 0, none⟩ 1 1 (c3l ⟨.int .i64 6, .slice none 0 0, .slice (some ⟨w6.heap.size, 0, none⟩) 1 1⟩) (by rfl) (by rfl) (by have := cell_three (w6.alloc (.cells #[.int .i64 x0, .slice ap np cp, .slice aq nq cq] 26)) ⟨.int .i64 6, .slice none 0 0, .slice (some ⟨w6.heap.size, 0, none⟩) 1 1⟩ 26; rw [World.size_alloc] at this; exact this) (fun u hu => by simp [c3l] at hu; rcases hu with rfl | rfl | rfl <;> rfl) (by decide) (by unfold maxLen; omega) (by omega) (by simp; omega) (w6.heap.size + 2) (by simp) ?_; intro g2 cap2 w8 hown8 hgrow8 hat8 hlt8; have u2 := (WI.atK (((unhide HJ7).wi.alloc _).alloc _) hgrow8).cell (i := 2) (by omega); have uz2 := (WI.atK (((unhide HJ7).wi.alloc _).alloc _) hgrow8).frozen 2; simp only [row3] at u2))
                        | (rw [if_pos (by first | rfl | simp [Region.wanted])]; go_simp; refine (unhide HCALL).mono ?_; rintro e w6 ⟨kk, x0, ap, np, cp, aq, nq, cq, q', rfl, HKR, HJ7, HQ7, hs7, t2c, t2d, t2e⟩))
                      all_goals
                        have hj8 := WJ.kid (kk := .mk 6 [] [kk]) (((unhide HJ7).alloc (.cells #[.int .i64 x0, .slice ap np cp, .slice aq nq cq] 26)).alloc (.cells #[.int .i64 6, .slice none 0 0, .slice (some ⟨w6.heap.size, 0, none⟩) 1 1] 26)) (maybe_kid (unhide HJ7) (unhide HKR) _) (by rw [hlk2]; exact hown8) hgrow8 (hat8.elim (fun e => Or.inl (by rw [e]; rfl)) (fun e => Or.inr ⟨g2, rfl, by simp [e]⟩))
                        have HJ8 := hide hj8
                        have HQ8 : Hid (q' ≤ q2 + 1 + 180 ∧ wKd (.mk 6 [] [kk]) ≤ 181) := ⟨HQ7.out.1, by have := HQ7.out.2; simp only [wKd, wS, wKs]; omega⟩
                        clear hj8 hown8 hgrow8 hat8 hlt8 uz2 u2 HJ5 e2 HCALL hsz5 HJ7 HKR t2c t2d t2e
                        go_wp2_with fail
                        go_roundw
                        case rel => exact ⟨i + 1, j, q', nn + 1, some ⟨g1, 0, none⟩, cap1, some ⟨g2, 0, none⟩, cap2, ns2 ++ [nm], ks2 ++ [.mk 6 [] [kk]], _, by omega, by omega, by omega, by go_num, by go_num, by simp [hln], by simp [hlk2], hide ⟨by have := HBD.out.1; have := HQ8.out.1; omega, by rw [wS_snoc1]; have := HBD.out.2.1; omega, by rw [wKs_snoc1]; have := HBD.out.2.2.1; have := HQ8.out.2; omega, fun x hx => by
                          rcases List.mem_append.1 hx with hx | hx
                          · exact HBD.out.2.2.2 x hx
                          · simp at hx; rw [hx]; exact hnsz⟩, HJ8⟩
                        case measure => simp [intOf]; omega
                  · have hz : ((r5 : Int) == 0) = false := beq_eq_false_iff_ne.2 (by omega)
                    go_wp2_with fail
                    go_roundw
                    case rel => exact ⟨i + 1, j, q2 + 1, nn, aN2, capN2, aK2, capK2, ns2, ks2, xs2, by omega, by omega, by omega, by go_num, by go_num, hln, hlk2, hide ⟨by have := HBD.out.1; omega, by have := HBD.out.2.1; omega, by have := HBD.out.2.2.1; omega, HBD.out.2.2.2⟩, HJ6⟩
                    case measure => simp [intOf]; omega
            · obtain rfl : i = 8 := by omega
              have hwk := wKs_takeW ks j
              go_wp2_with fail
              go_meet
              exact ⟨q2, _, aN2, nn, capN2, aK2, nn, capK2, ns2, ks2, xs2, hide ⟨by have := HBD.out.1; have := HQ.out.1; omega, by have := HBD.out.2.1; have := HBD.out.2.2.1; have := HQ.out.2; omega, HBD.out.2.2.2, by omega⟩, hide HJ.out.wi⟩
        · have hq5 : (k.sort == 5) = false := beq_eq_false_iff_ne.2 h5
          have hq6 : decide (k.sort = 5) = false := by simpa using h5
          clear h5
          go_wp2_with fail
          go_meet
          exact ⟨q, _, none, 0, 0, aG, m, capG, [], ks, xs, hide ⟨by have := HQ.out.1; omega, by have := HQ.out.2; simp only [wS]; omega, (fun x hx => by cases hx), by omega⟩, HWn⟩
      case rest =>
        obtain ⟨q2, lo2, aN2, n2, capN2, aK2, m2, capK2, ns2, ks2, xs2, HB2, HW2⟩ := hcut
        clear HW HWn HQ k0 k2 HKS HNC HOKS HSH HI HP HNM
        have hqb : q2 ≤ 1000000000 := by have := HB2.out.1; have := unhide HPP; have := unhide HKE; omega
        have HPK := hide (pick_any R wc v b q2 6 HW2.out.sp.dr (by omega) hqb)
        go_wp2_with fail
        refine (unhide HPK).mono ?_
        rintro e w3 ⟨r, rfl, hr, HD3, HB3⟩
        have hw3 := HW2.out.next HD3.out HB3.out
        have hkr := hw3.done (unhide HI0) (fun x hx => by have := HB2.out.2.2.1 x hx; omega) HB2.out.2.2.2
        have o0 := hw3.out.cell (i := 0) (by omega); have o1 := hw3.out.cell (i := 1) (by omega); have o2 := hw3.out.cell (i := 2) (by omega)
        have y0 := hw3.sp.bX.cell (i := 0) (by omega); have y1 := hw3.sp.bX.cell (i := 1) (by omega); have y2 := hw3.sp.bX.cell (i := 2) (by omega); have yf := hw3.sp.bX.frozen
        simp only [row3] at o0 o1 o2 y0 y1 y2
        have hs3 : w.heap.size + 3 ≤ w3.heap.size := by have := hw3.hlo; have := hw3.size; omega
        have hlt1 : w.heap.size + 1 < w3.heap.size := by omega
        have hne1 : w.heap.size + 1 ≠ w3.heap.size := by omega
        have HE1 := hide (fun c0 c1 c2 => wk_end (N := 2000 * ksz k) (p := p) (p' := q2 + 1) hR hkr hw3.sp.dr (by have := HB2.out.1; have := unhide HKE; omega) (by have := HB2.out.2.1; have := unhide HKE; rw [wKd]; omega) hw3.sp.but c0 c1 c2)
        have HE2 := hide (fun c0 c1 c2 => wk_single (N := 2000 * ksz k) (p := p) (p' := q2 + 1) (s := 6) ⟨by decide, by decide⟩ hR (by omega) hkr hw3.sp.dr (by have := HB2.out.1; have := unhide HKE; omega) (by have := HB2.out.2.1; have := unhide HKE; rw [wKd]; omega) hw3.sp.but c0 c1 c2)
        clear hw3 hkr HD3 HB3 HW2 HPK
        by_cases h0 : r = 0
        · subst h0
          go_wp2_with fail
          refine bodyPost_ret (v := .agg #[.int .i64 6, .slice none 0 0, .slice (some ⟨w3.heap.size, 0, none⟩) 1 1]) (by simp [results, Tryz.results20, go_sem, y0, y1, y2, hlt1]) rfl ?_
          exact unhide HE2 _ _ _
        · have hz : ((r : Int) == 0) = false := beq_eq_false_iff_ne.2 (by omega)
          go_wp2_with fail
          refine bodyPost_ret (v := .agg #[.int .i64 k.sort, .slice aN2 n2 capN2, .slice aK2 m2 capK2]) (by simp [results, Tryz.results20, go_sem, y0, y1, y2]) rfl ?_
          exact unhide HE1 _ _ _
theorem wd_all : ∀ n, WdSaid n
  | 0 => fun _ h => absurd h (Nat.not_lt_zero _)
  | n + 1 => l5Wider_step n (wd_all n)
end Go.Proofs.YtenpghndgdemnaaGreatDoor
