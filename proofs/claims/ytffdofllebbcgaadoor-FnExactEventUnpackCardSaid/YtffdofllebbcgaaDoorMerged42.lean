/- The walks of heldTreeS, heldTree: of what was marked they tell the next mark, and turn nothing that was there. For marks up to 2^40. -/
import Derived.Test.YtffdofllebbcgaaDoorMerged41
import Derived.Test.YtffdofllebbcgaaDoorWUnV
import Derived.Test.YtffdofllebbcgaaDoorMerged37
namespace Go.Proofs.YtffdofllebbcgaaDoor
open Go Go.RowKit

def HeldSaid (n : Nat) : Prop := ∀ (ks : List Tr), lsz ks < n → ∀ (P : Nat → Prop) (a : Option Addr) (cap k : Nat) (w : World), (∀ b, P b → b < w.heap.size) → ks.length ≤ 9223372036854775807 →
    (∀ i, (hi : i < ks.length) → ∃ b o c, a = some ⟨b, o, none⟩ ∧ P b ∧ C5.at w b (o + i * 5) c ∧ Rep P w (mT (k + cK (ks.take i)) ks[i]) c) → 0 < k → k + cK ks ≤ 1099511627776 →
    Calls Tryd.prog 65 #[.slice a ks.length cap, .int .i64 k] w fun e w' => e = .returned (.int .i64 (k + cK ks : Nat)) ∧ Below w.heap.size w w'

theorem heldTree_kids {P : Nat → Prop} {w : World} {k : Nat} {ks : List Tr} {a : Option Addr}
    (h : ∀ i, (hi : i < (mK k ks).length) → ∃ b o c, a = some ⟨b, o, none⟩ ∧ P b ∧ C5.at w b (o + i * 5) c ∧ Rep P w (mK k ks)[i] c) :
    ∀ i, (hi : i < ks.length) → ∃ b o c, a = some ⟨b, o, none⟩ ∧ P b ∧ C5.at w b (o + i * 5) c ∧ Rep P w (mT (k + cK (ks.take i)) ks[i]) c := fun i hi => by
  obtain ⟨b, o, c, h1, h2, h3, h4⟩ := h i (by rw [mK_len]; exact hi)
  rw [mK_get] at h4
  exact ⟨b, o, c, h1, h2, h3, h4⟩

set_option maxHeartbeats 800000 in
theorem heldTreeS_step (n : Nat) (IH : HeldSaid n) : HeldSaid (n + 1) := by
  intro ks hn P a cap k w hP hlen hc hk0 hk
  have HC := hide hc; have HP := hide hP; have HI := hide IH
  clear hc hP IH
  go_enter Tryd.func65, Tryd.ntmps65
  go_wp2_with fail
  go_loopw [1, 5] (fun kk i wr => ∃ (j : Nat), j ≤ ks.length ∧ kk = .int .i64 (k + cK (ks.take j) : Nat) ∧ i = .int .i64 j ∧ Below w.heap.size w wr) (fun _ i _ => ks.length - (intOf i).toNat)
  case atStart => exact ⟨0, Nat.zero_le _, by simp [cK], rfl, Below.refl _ _⟩
  case round =>
    obtain ⟨j, hj, rfl, rfl, hb⟩ := hrel
    by_cases hlt : j < ks.length
    · have hle := cK_take_le ks (j + 1)
      have hsuc := cK_take_succ ks j hlt
      rw [cT_eq] at hsuc
      obtain ⟨b, o, c, rfl, hpb, hat, hrep⟩ := unhide HC j hlt
      have hat' := hat.carry (hb.block b (unhide HP b hpb))
      have hsm : lsz ks[j].kids < n := by have := lsz_kid (List.getElem_mem hlt); omega
      have hle2 : cK (ks.take j) + (3 + ks[j].names.length + cK ks[j].kids) ≤ cK ks := by omega
      have HS := hide hsuc
      generalize hq : k + cK (ks.take j) = q at *
      have HQ := hide hq
      have hq1 : 0 < q := by omega
      have hq2 : q + 3 + ks[j].names.length + cK ks[j].kids ≤ 1099511627776 := by omega
      rw [mT_eq] at hrep
      generalize ks[j].names = nms at *
      generalize ks[j].kids = kds at *
      obtain ⟨e0, e1, e2, -, -, -, hns, a4, cap4, e4, hl4, hks⟩ := hrep.open
      simp only [Tr.sort, Tr.num, Tr.text, Tr.names, Tr.kids] at e0 e1 e2 hns e4 hl4 hks
      obtain ⟨c0, c1, c2, c3, c4⟩ := c
      simp only at e0 e1 e2 e4 hns
      subst e0 e1 e2 e4
      have hks' := heldTree_kids hks
      rw [mK_len] at hl4
      have HNS := hide hns; have HKS := hide hks'
      obtain ⟨y0, y1, y2, y3, y4⟩ := hat'
      simp only [mK_len] at y0 y1 y2 y3 y4
      have hblt : b < wr.heap.size := Nat.lt_of_lt_of_le (unhide HP b hpb) hb.size
      have hcall := (markText_any (q + 2) wr.drew (by omega) (by omega)).mono (fun e w' (h : e = .returned (.string (mtx (q + 2))) ∧ Below wr.drew.heap.size wr.drew w') => (⟨h.1, h.2, (h.2.cell (p := ⟨b, o + j * 5 + 2, none⟩) hblt).trans y2, (h.2.cell (p := ⟨b, o + j * 5 + 3, none⟩) hblt).trans y3, (h.2.cell (p := ⟨b, o + j * 5 + 4, none⟩) hblt).trans y4⟩ :
        e = .returned (.string (mtx (q + 2))) ∧ Below wr.drew.heap.size wr.drew w' ∧ w'.cell? ⟨b, o + j * 5 + 2, none⟩ = some (.string (mtx (q + 2))) ∧ w'.cell? ⟨b, o + j * 5 + 3, none⟩ = some c3 ∧ w'.cell? ⟨b, o + j * 5 + 4, none⟩ = some (.slice a4 kds.length cap4)))
      have HCALL := hide hcall
      have hqi : (q : Int) ≤ 1099511627776 := by omega
      clear hle hle2 hsuc hrep hat hks hns hks' hcall hpb
      go_wp2_with fail
      go_region_with (go_at_call 72; refine (unhide HCALL).mono ?_; rintro e w' ⟨rfl, hb', x2, x3, x4⟩)
      all_goals
        have hb2 := hb.drew.trans (hb'.mono hb.drew.size)
        have HB2 := hide hb2
        clear hb' hb2 y0 y1 y2 y3 y4
        go_wp2_with fail
        refine (heldStringS_any c3 nms (q + 3) w' (P := P) (HNS.out.carry (fun b hb => HB2.out.block b (HP.out b hb)) (fun _ h => h)) (fun b hb => Nat.lt_of_lt_of_le (HP.out b hb) HB2.out.size) (by omega) (by omega)).mono ?_
        rintro e w3 ⟨rfl, hb3⟩
        have z4 : w3.cell? ⟨b, o + j * 5 + 4, none⟩ = some (.slice a4 kds.length cap4) := (hb3.cell (p := ⟨b, o + j * 5 + 4, none⟩) (World.block_lt_of_cell? w' _ x4)).trans x4
        have hb4 := HB2.out.trans (hb3.mono HB2.out.size)
        have HB4 := hide hb4
        clear hb3 hb4 x2 x3 x4
        go_wp2_with fail
        refine (HI.out kds hsm P a4 cap4 (q + 3 + nms.length) w3 (fun b hb => Nat.lt_of_lt_of_le (HP.out b hb) HB4.out.size) hl4 (fun i hi => ?_) (by omega) (by omega)).mono ?_
        · obtain ⟨b, o, c, h1, h2, h3, h4⟩ := HKS.out i hi
          exact ⟨b, o, c, h1, h2, h3.carry (HB4.out.block b (HP.out b h2)), Rep.carry (fun b hb => HB4.out.block b (HP.out b hb)) (fun _ h => h) _ _ h4⟩
        rintro e w5 ⟨rfl, hb5⟩
        have hb6 := HB4.out.trans (hb5.mono HB4.out.size)
        clear hb5
        go_wp2_with fail
        go_roundw
        case rel =>
          refine ⟨j + 1, by omega, ?_, by go_num, hb6⟩
          rw [HS.out]; congr 2; have := HQ.out; omega
        case measure => simp [intOf]; omega
    · go_wp2_with fail
      go_ret
      obtain rfl : j = ks.length := by omega
      rw [List.take_length]
      exact ⟨rfl, hb⟩

theorem heldTreeS_all : ∀ n, HeldSaid n
  | 0 => fun t h => by omega
  | n + 1 => heldTreeS_step n (heldTreeS_all n)

set_option maxHeartbeats 400000 in
theorem heldTree_any (t : Tr) (s n : Int) (tx : ByteArray) (P : Nat → Prop) (c : C5) (k : Nat) (w : World) (hP : ∀ b, P b → b < w.heap.size) (h : Rep P w (.mk s n tx (mS k t.names) (mK (k + t.names.length) t.kids)) c) (hk0 : 0 < k) (hk : k + t.names.length + cK t.kids ≤ 1099511627776) :
    Calls Tryd.prog 43 #[.agg #[c.c0, c.c1, c.c2, c.c3, c.c4], .int .i64 k] w fun e w' => e = .returned (.int .i64 (k + t.names.length + cK t.kids : Nat)) ∧ Below w.heap.size w w' := by
  generalize t.names = nms at *
  generalize t.kids = kds at *
  obtain ⟨-, -, -, -, -, -, hns, a4, cap4, e4, hl4, hks⟩ := h.open
  simp only [Tr.names, Tr.kids] at hns e4 hl4 hks
  obtain ⟨c0, c1, c2, c3, c4⟩ := c
  simp only at hns e4
  rw [mK_len] at hl4 e4
  subst e4
  have HN := hide hns; have HK := hide (heldTree_kids hks); have HP := hide hP
  clear hns hks hP h
  go_enter Tryd.func43, Tryd.ntmps43
  go_wp2_with fail
  have hbx : Below w.heap.size w (w.alloc (.cells #[c0, c1, c2, c3, .slice a4 kds.length cap4] 32)) := (Below.refl _ _).alloc (Nat.le_refl _) _
  refine (heldStringS_any c3 nms k _ (P := P) (HN.out.carry (fun b hb => hbx.block b (HP.out b hb)) (fun _ h => h)) (fun b hb => Nat.lt_of_lt_of_le (HP.out b hb) hbx.size) (by omega) (by omega)).mono ?_
  rintro e w1 ⟨rfl, hb1⟩
  obtain ⟨q0, hsz, hb01⟩ := box1 hb1
  have k4 := q0.cell (i := 4) (by omega)
  simp only [row5] at k4
  have HB1 := hide hb01
  clear hb1 q0 hb01 hbx
  go_wp2_with fail
  refine (heldTreeS_all (lsz kds + 1) kds (by omega) P a4 cap4 (k + nms.length) w1 (fun b hb => Nat.lt_of_lt_of_le (HP.out b hb) HB1.out.size) hl4 (fun i hi => ?_) (by omega) (by omega)).mono ?_
  · obtain ⟨b, o, c, h1, h2, h3, h4⟩ := HK.out i hi
    exact ⟨b, o, c, h1, h2, h3.carry (HB1.out.block b (HP.out b h2)), Rep.carry (fun b hb => HB1.out.block b (HP.out b hb)) (fun _ h => h) _ _ h4⟩
  rintro e w2 ⟨rfl, hb2⟩
  have hb3 := HB1.out.trans (hb2.mono HB1.out.size)
  go_wp2_with fail
  go_ret
  exact ⟨rfl, hb3⟩
end Go.Proofs.YtffdofllebbcgaaDoor

/- What both EventUnpack answer, as one; what the law's world holds. No conditions. -/

namespace Go.Proofs.YtffdofllebbcgaaDoor
open Go Go.RowKit

mutual
theorem cT_pT : ∀ (t : Tr) (d : Int), 0 < pT t d → (cT t : Int) + 1 ≤ 4 * pT t d
  | .mk s n tx ns ks, d => by
    intro h
    have hs := ok_names h
    have hb := (ok_bare h).2.2.1
    have he := (ok_alone h).2.2
    have h' := h
    rw [he] at h' ⊢
    simp only [Tr.sort, Tr.names, Tr.kids] at *
    have hk := cK_pK ks d 1 h'
    have hn : ns.length ≤ ks.length := by
      by_cases h5 : s = 5
      · rw [(hs h5).1]; exact Nat.le_refl _
      · rw [hb h5]; simp
    rw [cT]
    omega
theorem cK_pK : ∀ (ks : List Tr) (d n : Int), 0 < pK ks d n → (cK ks : Int) + ks.length + 4 * n ≤ 4 * pK ks d n
  | [], d, n, h => by rw [cK, pK]; simp
  | t :: r, d, n, h => by
    rw [pK] at h ⊢
    split at h
    · omega
    · rename_i hh
      rw [if_neg hh]
      have hh' := not_or.1 hh
      have hp : 0 < pT t (d + 1) := by have := pT_bd t (d + 1); omega
      have i1 := cT_pT t (d + 1) hp
      have i2 := cK_pK r d _ h
      rw [cK]
      simp only [List.length_cons]
      omega
end
theorem tr_marks2 {t : Tr} {d : Int} (h : 0 < pT t d) : 1 + t.names.length + cK t.kids ≤ 1099511627776 := by
  have h1 := cT_pT t d h
  have h2 := pT_bd t d
  rw [cT_eq] at h1
  omega

theorem UpE.same {b : List UInt8} {ty ty' : ByteArray} {ver ver' : Int} {t t' : Tr} (h : UpE b ty ver t) (h' : UpE b ty' ver' t') : ty' = ty ∧ ver' = ver ∧ t' = t := by
  have f := evOk_facts h.1
  have f' := evOk_facts h'.1
  have p1 := starts_ptx (l := b) (rest := []) h.1 (by rw [List.append_nil, h.2])
  have p2 := starts_ptx (l := b) (rest := []) h'.1 (by rw [List.append_nil, h'.2])
  rw [p1] at p2
  simp only [Option.some.injEq, Prod.mk.injEq, List.cons.injEq] at p2
  obtain ⟨e1, e2, e3⟩ := p2
  have hl : (treeB t).length = (treeB t').length := by
    have := congrArg List.length e3
    simpa using this
  have q1 := ptree_done t 1 f.2.2.2.2.2.2 (treeB t).length [] (Nat.le_refl _)
  have q2 := ptree_done t' 1 f'.2.2.2.2.2.2 (treeB t).length [] (by omega)
  rw [e3, q2] at q1
  simp only [Option.some.injEq, Prod.mk.injEq, and_true] at q1
  have hv := congrArg UInt8.toNat e2
  rw [show (UInt8.ofNat ver.toNat).toNat = ver.toNat from by simp; omega, show (UInt8.ofNat ver'.toNat).toNat = ver'.toNat from by simp; omega] at hv
  exact ⟨e1.symm, by omega, q1⟩

/-- One answer for all ways. -/
theorem up_ans (b : List UInt8) : ∃ (ty : ByteArray) (ver : Int) (t : Tr) (ok : Bool), 1 + t.names.length + cK t.kids ≤ 1099511627776 ∧ ∀ (w w' : World) (e : Ending), UpEnd w w' b e →
    ∃ (y0 y1 : Int) (y2 : ByteArray) (ap : Option Addr) (np cp : Nat) (aq : Option Addr) (nq cq : Nat) (F : List Nat), e = .returned (.tuple #[.agg #[.string ty, .int .i64 ver, .int .i64 y0, .int .i64 y1, .string y2, .slice ap np cp, .slice aq nq cq], .bool ok]) ∧ Own w' t ⟨.int .i64 y0, .int .i64 y1, .string y2, .slice ap np cp, .slice aq nq cq⟩ F ∧ F.Nodup ∧ (∀ x, x ∈ F → w.heap.size ≤ x ∧ x < w'.heap.size) ∧ Below w.heap.size w w' := by
  by_cases hex : ∃ ty ver t, UpE b ty ver t
  · obtain ⟨ty, ver, t, hu⟩ := hex
    refine ⟨ty, ver, t, true, tr_marks2 (evOk_facts hu.1).2.2.2.2.2.2, ?_⟩
    rintro w w' e ⟨hb, h | ⟨-, hno⟩⟩
    · obtain ⟨ty', ver', t', ⟨c0, c1, c2, c3, c4⟩, F, rfl, ho, hnd, hF, hu'⟩ := h
      obtain ⟨rfl, rfl, rfl⟩ := hu.same hu'
      obtain ⟨g0, g1, g2, -, -, -, F1, F2, -, ⟨ap, cp, g3, -⟩, aq, cq, g4, -⟩ := ho.open
      simp only at g0 g1 g2 g3 g4
      subst g0 g1 g2 g3 g4
      exact ⟨_, _, _, _, _, _, _, _, _, F, rfl, ho, hnd, hF, hb⟩
    · exact absurd hu (hno ty ver t)
  · refine ⟨⟨#[]⟩, 0, .mk 0 0 ByteArray.empty [] [], false, by simp [Tr.names, Tr.kids, cK], ?_⟩
    rintro w w' e ⟨hb, ⟨ty, ver, t, -, -, -, -, -, -, hu⟩ | ⟨rfl, -⟩⟩
    · exact absurd ⟨ty, ver, t, hu⟩ hex
    · exact ⟨0, 0, ⟨#[]⟩, none, 0, 0, none, 0, 0, [], rfl, own_leaf w' 0 0 ByteArray.empty ⟨by decide, by decide⟩ ⟨by decide, by decide⟩ (by decide), List.nodup_nil, (fun x hx => by cases hx), hb⟩

/-- What the law's world holds: the boxes of the two answers, both in blocks of their own, and the row that was handed in between. -/
structure UnSt (w wr : World) (ty : ByteArray) (ver : Int) (T T' : Tr) (BW BG X : Nat) (dW dG : C5) (FW FG : List Nat) (lX : List UInt8) : Prop where
  below : Below w.heap.size w wr
  lt : w.heap.size ≤ BW ∧ BW < X ∧ X < BG ∧ BG < wr.heap.size
  bW : wr.rowIs BW 34 7 (row7 (.string ty) (.int .i64 ver) dW.c0 dW.c1 dW.c2 dW.c3 dW.c4)
  bG : wr.rowIs BG 34 7 (row7 (.string ty) (.int .i64 ver) dG.c0 dG.c1 dG.c2 dG.c3 dG.c4)
  oW : Own wr T dW FW
  oG : Own wr T' dG FG
  lW : ∀ b, b ∈ FW → w.heap.size ≤ b ∧ b < BW
  lG : ∀ b, b ∈ FG → X < b ∧ b < BG
  rX : ByRow X wr (.slice (some ⟨X, 0, none⟩) lX.length lX.length) lX
  nd : FG.Nodup

theorem UnSt.on {w wr w' : World} {ty : ByteArray} {ver : Int} {T T' : Tr} {BW BG X : Nat} {dW dG : C5} {FW FG : List Nat} {lX : List UInt8} (h : UnSt w wr ty ver T T' BW BG X dW dG FW FG lX) (hb : Below wr.heap.size wr w') : UnSt w w' ty ver T T' BW BG X dW dG FW FG lX := by
  have hl := h.lt
  have hs := hb.size
  exact ⟨h.below.trans (hb.mono h.below.size), by omega, h.bW.of_block (hb.block _ (by omega)), h.bG.of_block (hb.block _ (by omega)),
    Own.carry T _ _ (fun b hm => hb.block b (by have := h.lW b hm; omega)) h.oW, Own.carry T' _ _ (fun b hm => hb.block b (by have := h.lG b hm; omega)) h.oG, h.lW, h.lG, h.rX.of_block (fun g e => hb.block g (h.rX.own g e).2), h.nd⟩

theorem UnSt.exc {w wr w' : World} {ty : ByteArray} {ver : Int} {T T' T2 : Tr} {BW BG X : Nat} {dW dG : C5} {FW FG : List Nat} {lX : List UInt8} (h : UnSt w wr ty ver T T' BW BG X dW dG FW FG lX) (hb : Exc FG wr w') (hG : Own w' T2 dG FG) : UnSt w w' ty ver T T2 BW BG X dW dG FW FG lX := by
  have hl := h.lt
  have hs := hb.size
  have hz := h.below.size
  have hn : ∀ b, (b ≤ X ∨ BG ≤ b) → b ∉ FG := fun b hb hm => by have := h.lG b hm; omega
  refine ⟨h.below.trans (hb.below hz (fun b hm => by have := h.lG b hm; omega)), by omega, h.bW.of_block (hb.block _ (by omega) (hn _ (by omega))), h.bG.of_block (hb.block _ (by omega) (hn _ (by omega))),
    Own.carry T _ _ (fun b hm => hb.block b (by have := h.lW b hm; omega) (hn _ (by have := h.lW b hm; omega))) h.oW, hG, h.lW, h.lG, h.rX.of_block (fun g e => hb.block g (h.rX.own g e).2 (hn _ (by simp [Value.ownBlock] at e; omega))), h.nd⟩

theorem UnSt.mark {w wr w' : World} {ty : ByteArray} {ver : Int} {T T' : Tr} {BW BG X : Nat} {dW dG : C5} {FW FG : List Nat} {lX lX' : List UInt8} {v : Value} (h : UnSt w wr ty ver T T' BW BG X dW dG FW FG lX) (hv : v = .slice (some ⟨X, 0, none⟩) lX.length lX.length) (hb : wr.grownBy w' v.ownBlock) (hr : ByRow X w' v lX') (hl' : lX'.length = lX.length) : UnSt w w' ty ver T T' BW BG X dW dG FW FG lX' := by
  have hl := h.lt
  have hs := hb.size
  have hz := h.below.size
  subst hv
  have hne : ∀ b, b ≠ X → some b ≠ (Value.slice (some ⟨X, 0, none⟩) lX.length lX.length).ownBlock := fun b hb e => by simp [Value.ownBlock] at e; omega
  refine ⟨h.below.trans ⟨hb.os, hb.tape, hb.output, hb.size, fun b hbb => hb.block b (by omega) (hne b (by omega))⟩, by omega, h.bW.of_block (hb.block _ (by omega) (hne _ (by omega))), h.bG.of_block (hb.block _ (by omega) (hne _ (by omega))),
    Own.carry T _ _ (fun b hm => hb.block b (by have := h.lW b hm; omega) (hne _ (by have := h.lW b hm; omega))) h.oW, Own.carry T' _ _ (fun b hm => hb.block b (by have := h.lG b hm; omega) (hne _ (by have := h.lG b hm; omega))) h.oG, h.lW, h.lG, by rw [hl']; exact hr, h.nd⟩

theorem UnSt.cells {w wr : World} {ty : ByteArray} {ver : Int} {T T' : Tr} {BW BG X : Nat} {dW dG : C5} {FW FG : List Nat} {lX : List UInt8} (h : UnSt w wr ty ver T T' BW BG X dW dG FW FG lX) :
    (wr.cell? ⟨BW, 0, none⟩ = some (.string ty) ∧ wr.cell? ⟨BW, 1, none⟩ = some (.int .i64 ver) ∧ wr.cell? ⟨BW, 2, none⟩ = some dW.c0 ∧ wr.cell? ⟨BW, 3, none⟩ = some dW.c1 ∧ wr.cell? ⟨BW, 4, none⟩ = some dW.c2 ∧ wr.cell? ⟨BW, 5, none⟩ = some dW.c3 ∧ wr.cell? ⟨BW, 6, none⟩ = some dW.c4) ∧ wr.cell? ⟨BG, 0, none⟩ = some (.string ty) ∧ wr.cell? ⟨BG, 1, none⟩ = some (.int .i64 ver) ∧ wr.cell? ⟨BG, 2, none⟩ = some dG.c0 ∧ wr.cell? ⟨BG, 3, none⟩ = some dG.c1 ∧ wr.cell? ⟨BG, 4, none⟩ = some dG.c2 ∧ wr.cell? ⟨BG, 5, none⟩ = some dG.c3 ∧ wr.cell? ⟨BG, 6, none⟩ = some dG.c4 :=
  ⟨⟨h.bW.cell (i := 0) (by omega), h.bW.cell (i := 1) (by omega), h.bW.cell (i := 2) (by omega), h.bW.cell (i := 3) (by omega), h.bW.cell (i := 4) (by omega), h.bW.cell (i := 5) (by omega), h.bW.cell (i := 6) (by omega)⟩, h.bG.cell (i := 0) (by omega), h.bG.cell (i := 1) (by omega), h.bG.cell (i := 2) (by omega), h.bG.cell (i := 3) (by omega), h.bG.cell (i := 4) (by omega), h.bG.cell (i := 5) (by omega), h.bG.cell (i := 6) (by omega)⟩
end Go.Proofs.YtffdofllebbcgaaDoor
