/- The walk of the closure of planLines. The table of powers is as strconv's text lays it. -/
import Derived.Test.YtmaojhacdelleaaDoorWPwI
namespace Go.Proofs.YtmaojhacdelleaaDoor
open Go Go.RowKit Go.Shelf

attribute [local go_sem] Oper.semAt_some

/-- What the closure stands on. -/
structure LnAt (L : Pl) (a : Option Addr) (cap n0 b3 Bp : Nat) (w0 : World) : Prop where
  ok : plOk L
  pts : ∀ i, (h : i < L.parts.length) → ∃ b o, a = some ⟨b, o, none⟩ ∧ b < n0 ∧ P4At w0 b (o + i * 4) L.parts[i]
  tab : Lib.TabIs Tryd.prog w0 "internal/strconv.uint64pow10" .u64 Lib.pow10Tab
  glob : 0 < n0
  n0b : n0 ≤ b3
  b3B : b3 < Bp
  lt : Bp < w0.heap.size
  row : w0.rowIs Bp 29 3 (row3 (.slice a L.parts.length cap) (.int .i64 L.op) (.int .i64 L.fi))

theorem nn_of {l : Pl} (h : plOk l) {i : Nat} (hi : i < l.parts.length) : ∀ z, z ∈ [l.parts[i].num, l.parts[i].first, l.parts[i].next, l.parts[i].size] → 0 ≤ z ∧ z ≤ 999999999 := by
  have h0 := nx_bd h i (by omega)
  obtain ⟨h1, h2, h3, h4, h5⟩ := h.2.2.1 i hi
  have h6 := h.2.1.1 l.parts[i].num (by simp only [List.mem_cons, List.mem_map]; exact Or.inr ⟨_, List.getElem_mem hi, rfl⟩)
  intro z hz
  simp only [List.mem_cons, List.not_mem_nil, or_false] at hz
  rcases hz with rfl | rfl | rfl | rfl <;> omega
theorem nn_op {l : Pl} (h : plOk l) : ∀ z, z ∈ [l.op, l.fi] → 0 ≤ z ∧ z ≤ 999999999 := by
  have h0 := nx_bd h l.parts.length (Nat.le_refl _)
  have h1 := h.2.2.2
  have h6 := h.2.1.1 l.op (by simp)
  intro z hz
  simp only [List.mem_cons, List.not_mem_nil, or_false] at hz
  rcases hz with rfl | rfl <;> omega
theorem laid4 (W : World) (a b c d : Value) (t : TypeId) : (W.alloc (.cells #[a, b, c, d] t)).cell? ⟨W.heap.size, 0, none⟩ = some a ∧ (W.alloc (.cells #[a, b, c, d] t)).cell? ⟨W.heap.size, 1, none⟩ = some b ∧ (W.alloc (.cells #[a, b, c, d] t)).cell? ⟨W.heap.size, 2, none⟩ = some c ∧ (W.alloc (.cells #[a, b, c, d] t)).cell? ⟨W.heap.size, 3, none⟩ = some d := by
  refine ⟨?_, ?_, ?_, ?_⟩ <;> (rw [World.cell?_alloc_mark]; rfl)
theorem laid2 (W : World) (a b : Value) (t : TypeId) : (W.alloc (.cells #[a, b] t)).cell? ⟨W.heap.size, 0, none⟩ = some a ∧ (W.alloc (.cells #[a, b] t)).cell? ⟨W.heap.size, 1, none⟩ = some b := by
  refine ⟨?_, ?_⟩ <;> (rw [World.cell?_alloc_mark]; rfl)

set_option maxRecDepth 100000 in
set_option maxHeartbeats 3200000 in
theorem planLines1_in (n l : Nat) (L : Pl) (a : Option Addr) (cap n0 b3 Bp : Nat) (w0 : World) (hA : LnAt L a cap n0 b3 Bp w0) (J Jx : List LX → World → Prop) (hJ : ∀ s A B, J s A → A.grownBy B none → J s B)
    (hY : ∀ pre x W, J pre W → pre.length < L.parts.length + 2 → YieldAt Fence.wide (n - 1) Tryd.prog l (lEnc x) W fun e W' => (e = .returned (.bool true) ∧ J (pre ++ [x]) W' ∧ KpL (Bp + 1) b3 W W') ∨ (e = .returned (.bool false) ∧ Jx (pre ++ [x]) W'))
    (W : World) (hW : KpL (Bp + 1) b3 w0 W) (h0 : J [] W) :
    CallsIn Fence.wide n Tryd.prog 20 #[.func (.yield l) #[] #[], .pointer (some ⟨Bp, 0, none⟩)] W fun e W' => (∃ v, e = .returned v) ∧ ((∃ ys : List LX, ys.map lKey = lines L ∧ J ys W') ∨ (∃ pre : List LX, True ∧ Jx pre W')) := by
  have hdd : ∀ k : Nat, (Fence.wide.depth.isSome = true → 1 ≤ k) := fun k h => by cases h
  have hlen : L.parts.length ≤ 40 := hA.ok.1
  have hkr : ∀ {V : World}, KpL (Bp + 1) b3 w0 V → V.rowIs Bp 29 3 (row3 (.slice a L.parts.length cap) (.int .i64 L.op) (.int .i64 L.fi)) := fun {V} hV => hA.row.of_block (hV.block Bp (by omega) (by have := hA.b3B; omega))
  have q0 := hkr hW
  have k0 := q0.cell (i := 0) (by omega)
  simp only [row3] at k0
  have HA := hide hA; have HJ := hide hJ; have HY := hide hY; have HKR := hide (fun (V : World) (hV : KpL (Bp + 1) b3 w0 V) => hkr hV); have HW := hide hW; have H0 := hide h0
  have HTAB := hide (fun (V V2 : World) (hV : KpL (Bp + 1) b3 w0 V) (hb : Below V.heap.size V V2) => tab_keep hA.tab ((hb.block _ (by have := hA.glob; have := hA.n0b; have := hA.b3B; have := hA.lt; have := hV.size; omega)).trans (hV.block _ (by have := hA.glob; have := hA.n0b; have := hA.b3B; omega) (by have := hA.glob; have := hA.n0b; omega))))
  have hBl : ∀ {V : World}, KpL (Bp + 1) b3 w0 V → Bp + 1 ≤ V.heap.size := fun {V} hV => by have := hV.size; have := hA.lt; omega
  have HBL := hide (fun (V : World) (hV : KpL (Bp + 1) b3 w0 V) => hBl hV)
  clear q0 hkr hA hJ hY hW h0 hBl
  refine callsIn_of_wp Tryd.func20 rfl trivial ?_ rfl
  simp only [Tryd.ntmps20, List.size_toArray, List.length_cons, List.length_nil, Nat.reduceAdd, Nat.reduceSub, Array.replicate_succ, Array.replicate_zero, List.push_toArray, List.append_toArray, List.nil_append, List.cons_append]
  gi_wp2
  clear k0
  gi_loopw [8] (fun i wr => ∃ (k : Nat) (pre : List LX), k ≤ L.parts.length ∧ i = .int .i64 k ∧ Hid (pre.map lKey = (L.parts.take k).map sealL) ∧ Hid (J pre wr) ∧ Hid (KpL (Bp + 1) b3 w0 wr)) (fun i _ => L.parts.length - (intOf i).toNat)
  case atStart => exact ⟨0, [], Nat.zero_le _, rfl, by show _ = _; simp, H0, HW⟩
  case round =>
    clear HW H0
    obtain ⟨k, pre, hk, rfl, HP, HJP, HK⟩ := hrel
    have hpl : pre.length = k := by have := congrArg List.length HP.out; simpa [Nat.min_eq_left hk] using this
    by_cases hlt : k < L.parts.length
    · obtain ⟨b, o, rfl, hbn, hcell⟩ := (unhide HA).pts k hlt
      obtain ⟨e0, e1, e2, e3⟩ := hcell.carry (HK.out.block b (by have := (unhide HA).n0b; have := (unhide HA).b3B; omega) (by have := (unhide HA).n0b; omega))
      have HNN := hide (nn_of (unhide HA).ok hlt)
      have hsl := sealL_len (pt_sm (unhide HA).ok hlt)
      have HSUC := hide (show (L.parts.take (k + 1)).map sealL = (L.parts.take k).map sealL ++ [sealL L.parts[k]] by rw [List.take_succ_eq_append_getElem hlt, List.map_append]; rfl)
      clear hcell
      generalize L.parts[k] = x at *
      have hsl2 : (sealL x).length ≤ 200 := by omega
      obtain ⟨V1, hV1⟩ : ∃ V1, wr.alloc (.cells #[.int .i64 x.num, .int .i64 x.first, .int .i64 x.next, .int .i64 x.size] 36) = V1 := ⟨_, rfl⟩
      have hb1 : Below wr.heap.size wr V1 := by rw [← hV1]; exact (Below.refl _ _).alloc (Nat.le_refl _) _
      have hs1 : V1.heap.size = wr.heap.size + 1 := by rw [← hV1]; simp
      obtain ⟨V2, hV2⟩ : ∃ V2, V1.alloc (.cells #[.int .i64 x.num, .int .i64 x.first, .int .i64 x.next, .int .i64 x.size] 3) = V2 := ⟨_, rfl⟩
      have hb2 : Below wr.heap.size wr V2 := by rw [← hV2]; exact hb1.alloc (by omega) _
      have hs2 : V2.heap.size = wr.heap.size + 2 := by rw [← hV2]; simp; omega
      have hc2 := laid4 V1 (.int .i64 x.num) (.int .i64 x.first) (.int .i64 x.next) (.int .i64 x.size) 3
      rw [hV2] at hc2
      have hpl2 := line_laid ⟨#[115, 101, 97, 108]⟩ (by decide) [x.num, x.first, x.next, x.size] V1.heap.size V2 (by simp) (unhide HNN) (fun i h => by
        match i, h with
        | 0, _ => exact hc2.1
        | 1, _ => exact hc2.2.1
        | 2, _ => exact hc2.2.2.1
        | 3, _ => exact hc2.2.2.2) (by omega) (unhide HTAB wr V2 HK.out hb2)
      rw [show lnX ⟨#[115, 101, 97, 108]⟩ [x.num, x.first, x.next, x.size] [x.num, x.first, x.next, x.size].length ++ [10] = sealL x from seal_ln x] at hpl2
      have HPL : Hid (Calls Tryd.prog 21 #[.string ⟨#[115, 101, 97, 108]⟩, .slice (some ⟨V1.heap.size, 0, none⟩) 4 4] V2 fun e w' => e = .returned (.string (mkL (sealL x) hsl2).1) ∧ Hid (J pre w') ∧ Hid (KpL (Bp + 1) b3 w0 w')) := hide (hpl2.mono fun e w' ⟨h1, h2⟩ => ⟨h1, hide (unhide HJ _ _ _ HJP.out (grown_of_below (hb2.trans (h2.mono (by omega))))), hide (HK.out.trans (KpL.of_below (hb2.trans (h2.mono (by omega))) (unhide HBL wr HK.out)))⟩)
      rw [← hV2, ← hV1] at HPL
      have hsz1 : (wr.alloc (.cells #[.int .i64 x.num, .int .i64 x.first, .int .i64 x.next, .int .i64 x.size] 36)).heap.size = wr.heap.size + 1 := by rw [hV1]; exact hs1
      rw [hsz1] at HPL
      clear hb1 hs1 hb2 hs2 hc2 hpl2 hV2 hV1 hsz1
      have HYK := hide (show lKey (mkL (sealL x) hsl2) = sealL x from rfl)
      generalize mkL (sealL x) hsl2 = y at HPL HYK
      clear hsl hsl2
      gi_wp2_with (first
        | ((try refine ⟨trivial, ?_⟩); (try refine ⟨hdd _, ?_⟩); gi_at_call 21; refine (callsIn_wide.2 (unhide HPL)).mono ?_; clear HPL; rintro e w3 ⟨rfl, HJ3, HK3⟩
           obtain ⟨fn, tmps, assign, body, hy, hR⟩ := unhide HY pre y w3 HJ3.out (by omega)
           simp only [lEnc] at hy)
        | ((try refine ⟨hdd _, ?_⟩); refine hR.mono ?_; clear hR hy; rintro e W4 (⟨rfl, HJ4, HK4⟩ | ⟨rfl, HX4⟩)))
      · go_roundw
        case rel => exact ⟨k + 1, pre ++ [y], by omega, by go_num, (by show _ = _; rw [unhide HSUC, List.map_append, HP.out]; simp [unhide HYK]), hide HJ4, hide (HK3.out.trans HK4)⟩
        case measure => simp [intOf]; omega
      · refine bodyPost_ret (results_none rfl _ _ _) rfl ?_
        exact ⟨⟨_, rfl⟩, .inr ⟨_, trivial, HX4⟩⟩
    · obtain rfl : k = L.parts.length := by omega
      have q := unhide HKR wr HK.out
      have k1 := q.cell (i := 1) (by omega); have k2 := q.cell (i := 2) (by omega)
      simp only [row3] at k1 k2
      have hsl2 : (openL L).length ≤ 200 := by have := openL_len (op_sm (unhide HA).ok); omega
      have hse2 : endL.length ≤ 200 := by decide
      obtain ⟨V2, hV2⟩ : ∃ V2, wr.alloc (.cells #[.int .i64 L.op, .int .i64 L.fi] 3) = V2 := ⟨_, rfl⟩
      have hb2 : Below wr.heap.size wr V2 := by rw [← hV2]; exact (Below.refl _ _).alloc (Nat.le_refl _) _
      have hs2 : V2.heap.size = wr.heap.size + 1 := by rw [← hV2]; simp
      have hc2 := laid2 wr (.int .i64 L.op) (.int .i64 L.fi) 3
      rw [hV2] at hc2
      have hpl2 := line_laid ⟨#[111, 112, 101, 110]⟩ (by decide) [L.op, L.fi] wr.heap.size V2 (by simp) (nn_op (unhide HA).ok) (fun i h => by
        match i, h with
        | 0, _ => exact hc2.1
        | 1, _ => exact hc2.2) (by omega) (unhide HTAB wr V2 HK.out hb2)
      rw [show lnX ⟨#[111, 112, 101, 110]⟩ [L.op, L.fi] [L.op, L.fi].length ++ [10] = openL L from open_ln L] at hpl2
      have HPL : Hid (Calls Tryd.prog 21 #[.string ⟨#[111, 112, 101, 110]⟩, .slice (some ⟨wr.heap.size, 0, none⟩) 2 2] V2 fun e w' => e = .returned (.string (mkL (openL L) hsl2).1) ∧ Hid (J pre w') ∧ Hid (KpL (Bp + 1) b3 w0 w')) := hide (hpl2.mono fun e w' ⟨h1, h2⟩ => ⟨h1, hide (unhide HJ _ _ _ HJP.out (grown_of_below (hb2.trans (h2.mono (by omega))))), hide (HK.out.trans (KpL.of_below (hb2.trans (h2.mono (by omega))) (unhide HBL wr HK.out)))⟩)
      rw [← hV2] at HPL
      have HPE : Hid (∀ (s : List LX) (V : World), KpL (Bp + 1) b3 w0 V → J s V → Calls Tryd.prog 21 #[.string ⟨#[101, 110, 100]⟩, .slice none 0 0] V fun e w' => e = .returned (.string (mkL endL hse2).1) ∧ Hid (J s w') ∧ Hid (KpL (Bp + 1) b3 w0 w')) := fun s V hV hs => by
        have h := planLine_any ⟨#[101, 110, 100]⟩ (by decide) [] none 0 V (by simp) (fun i h => by simp at h) (fun i h => by simp at h) (unhide HTAB V V hV (Below.refl _ _))
        rw [show lnX ⟨#[101, 110, 100]⟩ [] ([] : List Int).length ++ [10] = endL from end_ln] at h
        exact h.mono fun e w' ⟨h1, h2⟩ => ⟨h1, hide (unhide HJ _ _ _ hs (grown_of_below h2)), hide (hV.trans (KpL.of_below h2 (unhide HBL V hV)))⟩
      have HYK := hide (show lKey (mkL (openL L) hsl2) = openL L from rfl)
      have HYE := hide (show lKey (mkL endL hse2) = endL from rfl)
      generalize mkL (openL L) hsl2 = y at HPL HYK
      generalize mkL endL hse2 = z at HPE HYE
      clear hb2 hs2 hc2 hpl2 hV2 hsl2 hse2 q
      gi_wp2_with (first
        | ((try refine ⟨trivial, ?_⟩); (try refine ⟨hdd _, ?_⟩); gi_at_call 21; refine (callsIn_wide.2 (unhide HPL)).mono ?_; clear HPL; rintro e w3 ⟨rfl, HJ3, HK3⟩
           obtain ⟨fn, tmps, assign, body, hy, hR⟩ := unhide HY pre y w3 HJ3.out (by omega)
           simp only [lEnc] at hy)
        | ((try refine ⟨hdd _, ?_⟩); refine hR.mono ?_; clear hR hy; rintro e W4 (⟨rfl, HJ4, HK4⟩ | ⟨rfl, HX4⟩))
        | ((try refine ⟨trivial, ?_⟩); (try refine ⟨hdd _, ?_⟩); gi_at_call 21; refine (callsIn_wide.2 (unhide HPE (pre ++ [y]) W4 (HK3.out.trans HK4) HJ4)).mono ?_; clear HPE; rintro e w5 ⟨rfl, HJ5, HK5⟩
           obtain ⟨fn, tmps, assign, body, hy, hR⟩ := unhide HY (pre ++ [y]) z w5 HJ5.out (by rw [List.length_append]; simp; omega)
           simp only [lEnc] at hy))
      all_goals
        go_end0
        first
          | exact ⟨⟨_, rfl⟩, .inr ⟨_, trivial, HX4⟩⟩
          | exact ⟨⟨_, rfl⟩, .inl ⟨pre ++ [y] ++ [z], (by rw [List.map_append, List.map_append, HP.out, List.take_length]; simp [lines, unhide HYK, unhide HYE]), HJ4⟩⟩
end Go.Proofs.YtmaojhacdelleaaDoor
