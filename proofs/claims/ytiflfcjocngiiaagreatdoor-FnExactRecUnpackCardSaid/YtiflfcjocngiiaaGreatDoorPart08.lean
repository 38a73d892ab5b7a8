/- The walk of the program's byteCursor.kids, where the kids have no names. No conditions. -/
import Derived.Test.YtiflfcjocngiiaaGreatDoorPart07
import Derived.Deep.CutRange
namespace Go.Proofs.YtiflfcjocngiiaaGreatDoor
open Go Go.RowKit

set_option maxRecDepth 100000 in
set_option maxHeartbeats 12800000 in
theorem kidsP_list (f : Nat) (IH : UnT f) (R Y : Nat) (w : World) (v : Value) (b : List UInt8) (a : Nat) (s : Int) (h : Cu R w v b a) (hinv : SInv (Y + 1) Y w s (.slice none 0 0) (.slice none 0 0) [] [] [] []) (hRY : R < Y) (hYw : w.heap.size = Y + 1) (hlen : (b.drop a).length < f) (hs5 : decide (s = 5) = false) :
    Calls Tryz.prog 75 #[.pointer (some ⟨R, 0, none⟩), .pointer (some ⟨Y, 0, none⟩)] w fun e w' => KdEnd R Y w w' v b a s (match b.drop a with | [] => none | c :: r => pkids (ptree f) (decide (s = 5)) c.toNat r) e := by
  by_cases hlt : a < b.length
  · have hx := b[a].toNat_lt
    have hres : (match b.drop a with | [] => none | c :: r => pkids (ptree f) (decide (s = 5)) c.toNat r) = pkids (ptree f) (decide (s = 5)) b[a].toNat (b.drop (a + 1)) := by rw [List.drop_eq_getElem_cons hlt]
    rw [hres]
    have HNX := hide (nextP_yes R w v b a h hlt)
    have hrel := KRel.start (ptree f) (decide (s = 5)) b[a].toNat (b.drop (a + 1))
    obtain ⟨res, hr⟩ : ∃ res, res = pkids (ptree f) (decide (s = 5)) b[a].toNat (b.drop (a + 1)) := ⟨_, rfl⟩
    rw [← hr]
    have HK0 := hide (fun (w1 : World) (hb : But R w w1) (hc : Cu R w1 v b (a + 1)) => (⟨hc, hinv.but hb (by omega) (by omega), But2.ofR hb, hYw, hRY, fun x hx => by cases hx⟩ : KAt R Y w w1 v b s (a + 1) (.slice none 0 0) (.slice none 0 0) [] [] [] []))
    have hf5 : (s == 5) = decide (s = 5) := rfl
    rw [hs5] at hf5 hrel hr
    clear hs5
    generalize b[a].toNat = n at *
    have HR := hide hr; have HREL := hide hrel; have HI := hide IH; have HLEN := hide hlen
    have hbl := h.small
    have hale := h.le
    obtain ⟨j0, hj, hy0, hy1, hy2⟩ := info_parts infoStr16
    obtain ⟨i0, hi, hz0, hz1, hz2⟩ := info_parts infoTree80
    have HJJ := hide hj; have HY0 := hide hy0; have HY1 := hide hy1; have HY2 := hide hy2
    have HII := hide hi; have HZ0 := hide hz0; have HZ1 := hide hz1; have HZ2 := hide hz2
    clear h hinv hres hr hrel IH hlen hj hy0 hy1 hy2 hi hz0 hz1 hz2
    go_enter Tryz.func75, Tryz.ntmps75
    go_wp2_with fail
    refine (unhide HNX).mono ?_
    rintro e w1 ⟨rfl, hcu1, hb1⟩
    have HK1 := hide (unhide HK0 w1 hb1 hcu1)
    clear hcu1 hb1 HNX HK0
    go_wp2_with fail
    go_loopw [6] (fun i wr => ∃ (k : Nat) (a' : Nat) (aN : Option Addr) (nN capN : Nat) (aK : Option Addr) (capK : Nat) (ns : List ByteArray) (ks : List Tr) (xs : List Value) (G : List Nat), i = .int .i64 k ∧ k ≤ n ∧ Hid (nN = ns.length ∧ k = ks.length ∧ nN ≤ k) ∧ Hid (a < a') ∧ Hid (KAt R Y w wr v b s a' (.slice aN nN capN) (.slice aK k capK) ns ks xs G) ∧ Hid (KRel (ptree f) false n k (b.drop (a + 1)) (b.drop a') ns ks)) (fun i _ => n - (intOf i).toNat)
    case atStart => exact ⟨0, a + 1, none, 0, 0, none, 0, [], [], [], [], rfl, Nat.zero_le _, ⟨rfl, rfl, Nat.le_refl _⟩, Nat.lt_succ_self _, HK1, HREL⟩
    case round =>
      clear HK1 HREL
      obtain ⟨k, a', aN, nN, capN, aK, capK, ns, ks, xs, G, rfl, hk, HLN, HAA, HK, HREL⟩ := hrel
      by_cases hkn : k < n
      · have y0 := HK.out.inv.cells.cell (i := 0) (by omega)
        simp only [row5] at y0
        have hal : (b.drop a').length < f := by have := unhide HLEN; have := HAA.out; simp at *; omega
        cases ht : ptree f (b.drop a') with
        | none =>
          have HXN := hide (show res = none by rw [unhide HR]; exact HREL.out.tree_no' hkn ht)
          have hcall : ∀ (W : World), KAt R Y w W v b s a' (.slice aN nN capN) (.slice aK k capK) ns ks xs G → Calls Tryz.prog 65 #[.pointer (some ⟨R, 0, none⟩)] W fun e w7 => e = fltE ∧ Hid (But2 R Y w w7) := fun W hW => by
            have hc := unhide HI R W v b a' hW.cu (hal)
            rw [ht] at hc
            refine hc.mono ?_
            rintro e w7 ⟨hb7, rfl⟩
            exact ⟨rfl, hW.but.trans (But2.ofR hb7)⟩
          have HCALL := hide hcall
          have e4 := (HK.out).inv.cells.cell (i := 4) (by omega)
          simp only [row5] at e4
          have e4a : ∀ ob, (wr.alloc ob).cell? ⟨Y, 4, none⟩ = some (.slice aK k capK) := fun ob => ((HK.out).inv.cells.alloc ob).cell (i := 4) (by omega)
          clear hcall
          go_wp2_with fail
          refine wp_region_any (by kernel_rfl) ?_
          change wpAny _ _ _ _ _ _ _ (World.drew _)
          refine wpAny_take (i := 0) (v := .pointer (some ⟨Y, 0, none⟩)) rfl (by kernel_rfl) (by kernel_rfl) (by kernel_rfl) (fun _ _ _ h => h) (Or.inl ⟨by rfl, fun w => by go_simp⟩) ?_
          refine wpAny_take (i := 4) (v := .pointer (some ⟨R, 0, none⟩)) rfl (by kernel_rfl) (by kernel_rfl) (by kernel_rfl) (fun _ _ _ h => h) (Or.inl ⟨by rfl, fun w => by go_simp⟩) ?_
          refine wpAny_take (i := 1) (v := .pointer (some ⟨Y, 0, none⟩)) rfl (by kernel_rfl) (by kernel_rfl) (by kernel_rfl) (fun _ _ _ h => h) (Or.inl ⟨by rfl, fun w => by go_simp⟩) ?_
          refine wpAny_take (i := 2) (v := .pointer (some ⟨Y, 4, none⟩)) rfl (by kernel_rfl) (by kernel_rfl) (by kernel_rfl) (fun _ _ _ h => h) (Or.inl ⟨by rfl, fun w => by go_simp⟩) ?_
          refine wpAny_ready (rs := [3, 5, 7]) (by kernel_rfl) (by simp) ?_
          refine AllReady.cons rfl (fun K hK => ?_) (AllReady.cons rfl (fun K hK => ?_) (AllReady.cons rfl (fun K hK => ?_) AllReady.nil))
          · go_simp
            refine hK _ _ ?_; clear hK K
            refine wpAny_take (i := 6) (v := .int .i64 k) rfl (by kernel_rfl) (by kernel_rfl) (by kernel_rfl) (fun _ _ _ h => h) (Or.inl ⟨by rfl, fun w => by go_simp⟩) ?_
            refine wpAny_ready (rs := [5, 7]) (by kernel_rfl) (by simp) ?_
            refine AllReady.cons rfl (fun K hK => ?_) (AllReady.cons rfl (fun K hK => ?_) AllReady.nil)
            · go_simp
              refine Calls.mono (by first | exact unhide HCALL _ (HK.out).drew | exact unhide HCALL _ ((HK.out).alloc _).drew | exact unhide HCALL _ ((HK.out).drew.alloc _)) ?_
              rintro e w7 ⟨rfl, HB7⟩
              exact And.intro rfl (KdEnd.no (unhide HXN) (unhide HB7))
            · go_simp
              refine hK _ _ ?_; clear hK K
              refine wpAny_ready (rs := [5]) (by kernel_rfl) (by simp) ?_
              refine AllReady.cons rfl (fun K hK => ?_) AllReady.nil
              go_simp
              refine Calls.mono (by first | exact unhide HCALL _ (HK.out).drew | exact unhide HCALL _ ((HK.out).alloc _).drew | exact unhide HCALL _ ((HK.out).drew.alloc _)) ?_
              rintro e w7 ⟨rfl, HB7⟩
              exact And.intro rfl (KdEnd.no (unhide HXN) (unhide HB7))
          · go_simp
            refine Calls.mono (by first | exact unhide HCALL _ (HK.out).drew | exact unhide HCALL _ ((HK.out).alloc _).drew | exact unhide HCALL _ ((HK.out).drew.alloc _)) ?_
            rintro e w7 ⟨rfl, HB7⟩
            exact And.intro rfl (KdEnd.no (unhide HXN) (unhide HB7))
          · go_simp
            refine hK _ _ ?_; clear hK K
            refine wpAny_ready (rs := [3, 5]) (by kernel_rfl) (by simp) ?_
            refine AllReady.cons rfl (fun K hK => ?_) (AllReady.cons rfl (fun K hK => ?_) AllReady.nil)
            · go_simp
              refine hK _ _ ?_; clear hK K
              refine wpAny_take (i := 6) (v := .int .i64 k) rfl (by kernel_rfl) (by kernel_rfl) (by kernel_rfl) (fun _ _ _ h => h) (Or.inl ⟨by rfl, fun w => by go_simp⟩) ?_
              refine wpAny_ready (rs := [5]) (by kernel_rfl) (by simp) ?_
              refine AllReady.cons rfl (fun K hK => ?_) AllReady.nil
              go_simp
              refine Calls.mono (by first | exact unhide HCALL _ (HK.out).drew | exact unhide HCALL _ ((HK.out).alloc _).drew | exact unhide HCALL _ ((HK.out).drew.alloc _)) ?_
              rintro e w7 ⟨rfl, HB7⟩
              exact And.intro rfl (KdEnd.no (unhide HXN) (unhide HB7))
            · go_simp
              refine Calls.mono (by first | exact unhide HCALL _ (HK.out).drew | exact unhide HCALL _ ((HK.out).alloc _).drew | exact unhide HCALL _ ((HK.out).drew.alloc _)) ?_
              rintro e w7 ⟨rfl, HB7⟩
              exact And.intro rfl (KdEnd.no (unhide HXN) (unhide HB7))
        | some y =>
          obtain ⟨t, l2⟩ := y

          -- the tree is there
          have hcall : ∀ (W : World), KAt R Y w W v b s a' (.slice aN nN capN) (.slice aK k capK) ns ks xs G → Calls Tryz.prog 65 #[.pointer (some ⟨R, 0, none⟩)] W fun e w7 => ∃ (x0 x1 : Int) (x2 : ByteArray) (ap : Option Addr) (np cp : Nat) (aq : Option Addr) (nq cq : Nat) (F : List Nat) (a4 : Nat), e = .returned (.agg #[.int .i64 x0, .int .i64 x1, .string x2, .slice ap np cp, .slice aq nq cq]) ∧ Hid (Own w7 t ⟨.int .i64 x0, .int .i64 x1, .string x2, .slice ap np cp, .slice aq nq cq⟩ F) ∧ F.Nodup ∧ Hid (∀ b, b ∈ F → W.heap.size ≤ b ∧ b < w7.heap.size) ∧ Hid (KAt R Y w w7 v b s a4 (.slice aN nN capN) (.slice aK k capK) ns ks xs G) ∧ Hid (a' < a4 ∧ l2 = b.drop a4) ∧ w7.cell? ⟨Y, 4, none⟩ = some (.slice aK k capK) ∧ (∀ ob, (w7.alloc ob).cell? ⟨Y, 4, none⟩ = some (.slice aK k capK)) ∧ Hid (But R W w7) := fun W hW => by
            have hc := unhide HI R W v b a' hW.cu (hal)
            rw [ht] at hc
            refine hc.mono ?_
            rintro e w7 ⟨hb7, ⟨y0, y1, y2, y3, y4⟩, F, rfl, ho, hnd, hF, a4, h4, hcu7, hl2⟩
            obtain ⟨p0, p1, p2, -, -, -, F1, F2, -, ⟨ap, cp, p3, -⟩, aq, cq, p4, -⟩ := ho.open
            simp only at p0 p1 p2 p3 p4
            subst p0 p1 p2 p3 p4
            have hk7 := hW.read hb7 hcu7
            exact ⟨_, _, _, _, _, _, _, _, _, F, a4, rfl, ho, hnd, hF, hk7, ⟨h4, hl2⟩, hk7.inv.cells.cell (i := 4) (by omega), fun ob => (hk7.inv.cells.alloc ob).cell (i := 4) (by omega), hb7⟩
          have HCALL := hide hcall
          have e4 := (HK.out).inv.cells.cell (i := 4) (by omega)
          simp only [row5] at e4
          have e4a : ∀ ob, (wr.alloc ob).cell? ⟨Y, 4, none⟩ = some (.slice aK k capK) := fun ob => ((HK.out).inv.cells.alloc ob).cell (i := 4) (by omega)
          have hix : (k : Int) < (k : Int) + 1 := by omega
          clear hcall
          go_wp2_with fail
          go_region_law (first
            | (rw [if_pos (by first | rfl | simp [Region.wanted])]; go_simp; refine (unhide HCALL _ (HK.out).drew).mono ?_; rintro e w7 ⟨x0, x1, x2, ap, np, cp, aq, nq, cq, F, a4, rfl, HOW, hFn, HFL, HK7, HA4, t4c, t4d, HB7⟩)
            | (rw [if_pos (by first | rfl | simp [Region.wanted])]; go_simp; refine (unhide HCALL _ ((HK.out).alloc _).drew).mono ?_; rintro e w7 ⟨x0, x1, x2, ap, np, cp, aq, nq, cq, F, a4, rfl, HOW, hFn, HFL, HK7, HA4, t4c, t4d, HB7⟩; have HPRE := hide (Nat.le_refl 0))
            | (refine step_append_lies _ (by rfl) _ _ _ (by rfl) (Y + 1) 39 i0 _ 5 80 Tryz.underlying37 (unhide HII) (unhide HZ0) (unhide HZ1) (unhide HZ2) rfl (by decide) (.slice aK k capK) k xs (by rfl) (by have := (unhide HK7).inv.got.row; rw [← HLN.out.2.1] at this; exact this.alloc _) ⟨w7.heap.size, 0, none⟩ 1 1 (c5l zc) (by rfl) (by rfl) (cell_five w7 zc _) zc_one (by decide) (by unfold maxLen; omega) (by omega) (by have := (unhide HK7).inv.size; simp; omega) (w7.heap.size + 1) (by simp) ?_
               intro g2 cap2 w8 hown8 hgrow8 hat8 hlt8
               obtain ⟨⟨u0, u1, u2, u3, u4⟩, uf, uY, uYf, ug1, ug2⟩ := ((unhide HK7).alloc (.cells #[.int .i64 0, .int .i64 0, .string ⟨#[]⟩, .slice none 0 0, .slice none 0 0] 39)).ready hown8 hgrow8
               simp only at u0 u1 u2 u3 u4
               have uf0 := uf (k * 5)
               have uf1 := uf (k * 5 + 1)
               have uf2 := uf (k * 5 + 2)
               have uf3 := uf (k * 5 + 3)
               have uf4 := uf (k * 5 + 4)
               have HNX8 := hide (KAt.push (m := wr.heap.size) ((unhide HK7).alloc (.cells #[.int .i64 0, .int .i64 0, .string ⟨#[]⟩, .slice none 0 0, .slice none 0 0] 39)) HLN.out.2.1 (Own.carry t _ F (fun x hx => Below.heap_alloc _ _ _ (unhide HFL x hx).2) (unhide HOW)) hFn (fun x hx => ⟨(unhide HFL x hx).1, by rw [World.size_alloc]; have := (unhide HFL x hx).2; omega⟩) (fun x hx => (HK.out.inv.got.lt x hx).2.1) (fun x e => (HK.out.inv.got.row.lt x e).2) (fun x e => (HK.out.inv.names.lt x e).2) HK.out.inv.size hown8 hgrow8 (by rw [World.size_alloc]; exact hat8))
               have HNA := HNX8
               dsimp only [lay5] at HNA
               rw [lay5_comm _ _ _ ug1] at HNX8
               have HNB := HNX8
               dsimp only [lay5] at HNB
               clear HNX8
               clear hown8 hgrow8 hat8 uf)
            | (refine step_append_lies _ (by rfl) _ _ _ (by rfl) (Y + 1) 39 i0 _ 5 80 Tryz.underlying37 (unhide HII) (unhide HZ0) (unhide HZ1) (unhide HZ2) rfl (by decide) (.slice aK k capK) k xs (by rfl) (by have := (unhide HK7).inv.got.row; rw [← HLN.out.2.1] at this; exact this) ⟨wr.heap.size, 0, none⟩ 1 1 (c5l zc) (by rfl) (by rfl) (fun jj uu hjj => by
                 have hq := cell_five wr zc 39 jj uu hjj
                 rw [Addr.add_lit] at hq ⊢
                 rw [World.cell?_of_block (w := wr.alloc (.cells #[.int .i64 0, .int .i64 0, .string ⟨#[]⟩, .slice none 0 0, .slice none 0 0] 39)) ((unhide HB7).at (b := wr.heap.size) (by show _ < (wr.alloc _).heap.size; simp) (by have := HK.out.RY; have := HK.out.inv.size; omega))]
                 exact hq) zc_one (by decide) (by unfold maxLen; omega) (by omega) (by have := (unhide HK7).inv.size; omega) w7.heap.size rfl ?_
               intro g2 cap2 w8 hown8 hgrow8 hat8 hlt8
               obtain ⟨⟨u0, u1, u2, u3, u4⟩, uf, uY, uYf, ug1, ug2⟩ := (unhide HK7).ready hown8 hgrow8
               simp only at u0 u1 u2 u3 u4
               have uf0 := uf (k * 5)
               have uf1 := uf (k * 5 + 1)
               have uf2 := uf (k * 5 + 2)
               have uf3 := uf (k * 5 + 3)
               have uf4 := uf (k * 5 + 4)
               have HNX8 := hide (KAt.push (m := wr.heap.size) (unhide HK7) HLN.out.2.1 (unhide HOW) hFn (fun x hx => ⟨Nat.le_trans (by show _ ≤ (wr.alloc _).heap.size; simp) (unhide HFL x hx).1, (unhide HFL x hx).2⟩) (fun x hx => (HK.out.inv.got.lt x hx).2.1) (fun x e => (HK.out.inv.got.row.lt x e).2) (fun x e => (HK.out.inv.names.lt x e).2) HK.out.inv.size hown8 hgrow8 hat8)
               have HNA := HNX8
               dsimp only [lay5] at HNA
               rw [lay5_comm _ _ _ ug1] at HNX8
               have HNB := HNX8
               dsimp only [lay5] at HNB
               clear HNX8
               clear hown8 hgrow8 hat8 uf)
            | (trace_state; fail))
          all_goals
            go_wp2_with fail
            go_roundw
            case rel => exact ⟨k + 1, a4, aN, nN, capN, some ⟨g2, 0, none⟩, cap2, ns, ks ++ [t], _, _, by go_num, by omega, ⟨HLN.out.1, by simp [HLN.out.2.1], by have := HLN.out.2.2; omega⟩, Nat.lt_trans HAA.out ((unhide HA4).1), by first | with_reducible exact HNA | with_reducible exact HNB, by have := (unhide HA4).2; rw [← this]; exact HREL.out.step' hkn ht⟩
            case measure => simp [intOf]; omega
      · go_wp2_with fail
        go_end0
        obtain rfl : k = n := by omega
        have hd := HREL.out.done
        refine ⟨HK.out.but, ?_⟩
        rw [unhide HR, hd]
        exact ⟨rfl, _, _, xs, G, a', HK.out.inv, HK.out.short, HAA.out, HK.out.cu, rfl⟩
  · have HNX := hide (nextP_no R w v b a h (by omega))
    have hres : (match b.drop a with | [] => none | c :: r => pkids (ptree f) (decide (s = 5)) c.toNat r) = none := by rw [List.drop_eq_nil_of_le (by omega)]
    rw [hres]
    clear h hinv hres IH
    go_enter Tryz.func75, Tryz.ntmps75
    go_wp2_with fail
    refine (unhide HNX).mono ?_
    rintro e w1 ⟨rfl, hb1⟩
    exact ⟨rfl, But2.ofR hb1, rfl⟩
end Go.Proofs.YtiflfcjocngiiaaGreatDoor
