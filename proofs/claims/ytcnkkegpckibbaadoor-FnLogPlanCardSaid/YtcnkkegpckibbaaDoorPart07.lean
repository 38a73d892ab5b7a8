/- The walk of the closure of planLines. The table of powers is as strconv's text lays it. -/
import Derived.Test.YtcnkkegpckibbaaDoorPart06
import Derived.Test.YtcnkkegpckibbaaDoorPart00
import Derived.Test.YtcnkkegpckibbaaDoorPart04
import Derived.Sort.Grow
import Derived.Handy
import Derived.Test.YtcnkkegpckibbaaDoorRows
import Derived.Deep.OwnRows
import Derived.Deep.RegionWith
import Derived.BigQuiet
import Derived.Deep.AppendLies
namespace Go.Proofs.YtcnkkegpckibbaaDoor
open Go Go.RowKit Go.Shelf

attribute [local go_sem] Oper.semAt_some

/-- What the closure stands on. -/
structure LnAt (L : Pl) (a : Option Addr) (cap n0 b3 Bp : Nat) (w0 : World) : Prop where
  ok : plOk L
  pts : ∀ i, (h : i < L.parts.length) → ∃ b o, a = some ⟨b, o, none⟩ ∧ b < n0 ∧ P4At w0 b (o + i * 4) L.parts[i]
  tab : Lib.TabIs Tryd.prog w0 "internal/strconv.uint64pow10" .u64 Lib.pow10Tab
  glob : 3 < n0
  n0b : n0 ≤ b3
  b3B : b3 < Bp
  lt : Bp < w0.heap.size
  row : w0.rowIs Bp 25 3 (row3 (.slice a L.parts.length cap) (.int .i64 L.op) (.int .i64 L.fi))

theorem nn_of {l : Pl} (h : plOk l) {i : Nat} (hi : i < l.parts.length) : ∀ z, z ∈ [l.parts[i].num, l.parts[i].first, l.parts[i].next, l.parts[i].size] → 0 ≤ z ∧ z ≤ 999999999 := by
  have h0 := nx_bd h i (by omega)
  obtain ⟨h1, h2, h3, h4, h5⟩ := h.2.2.1 i hi
  have h6 := h.2.1.1 l.parts[i].num (by simp only [List.mem_cons, List.mem_map]; exact Or.inr ⟨_, List.getElem_mem hi, rfl⟩)
  intro z hz
  simp only [List.mem_cons, List.not_mem_nil, or_false] at hz
  rcases hz with rfl | rfl | rfl | rfl <;> omega
theorem nn_op {l : Pl} (h : plOk l) : ∀ z, z ∈ [l.op, l.fi] → 0 ≤ z ∧ z ≤ 999999999 := by
  have h0 := nx_bd h l.parts.length (Nat.le_refl _)
  have h1 := h.2.2.2
  have h6 := h.2.1.1 l.op (by simp)
  intro z hz
  simp only [List.mem_cons, List.not_mem_nil, or_false] at hz
  rcases hz with rfl | rfl <;> omega
theorem laid4 (W : World) (a b c d : Value) (t : TypeId) : (W.alloc (.cells #[a, b, c, d] t)).cell? ⟨W.heap.size, 0, none⟩ = some a ∧ (W.alloc (.cells #[a, b, c, d] t)).cell? ⟨W.heap.size, 1, none⟩ = some b ∧ (W.alloc (.cells #[a, b, c, d] t)).cell? ⟨W.heap.size, 2, none⟩ = some c ∧ (W.alloc (.cells #[a, b, c, d] t)).cell? ⟨W.heap.size, 3, none⟩ = some d := by
  refine ⟨?_, ?_, ?_, ?_⟩ <;> (rw [World.cell?_alloc_mark]; rfl)
theorem laid2 (W : World) (a b : Value) (t : TypeId) : (W.alloc (.cells #[a, b] t)).cell? ⟨W.heap.size, 0, none⟩ = some a ∧ (W.alloc (.cells #[a, b] t)).cell? ⟨W.heap.size, 1, none⟩ = some b := by
  refine ⟨?_, ?_⟩ <;> (rw [World.cell?_alloc_mark]; rfl)

set_option maxRecDepth 100000 in
set_option maxHeartbeats 3200000 in
theorem planLines1_in (n l : Nat) (L : Pl) (a : Option Addr) (cap n0 b3 Bp : Nat) (w0 : World) (hA : LnAt L a cap n0 b3 Bp w0) (J Jx : List LX → World → Prop) (hJ : ∀ s A B, J s A → A.grownBy B none → J s B)
    (hY : ∀ pre x W, J pre W → pre.length < L.parts.length + 2 → YieldAt Fence.wide (n - 1) Tryd.prog l (lEnc x) W fun e W' => (e = .returned (.bool true) ∧ J (pre ++ [x]) W' ∧ KpL (Bp + 1) b3 W W') ∨ (e = .returned (.bool false) ∧ Jx (pre ++ [x]) W'))
    (W : World) (hW : KpL (Bp + 1) b3 w0 W) (h0 : J [] W) :
    CallsIn Fence.wide n Tryd.prog 28 #[.func (.yield l) #[] #[], .pointer (some ⟨Bp, 0, none⟩)] W fun e W' => (∃ v, e = .returned v) ∧ ((∃ ys : List LX, ys.map lKey = lines L ∧ J ys W') ∨ (∃ pre : List LX, True ∧ Jx pre W')) := by
  have hdd : ∀ k : Nat, (Fence.wide.depth.isSome = true → 1 ≤ k) := fun k h => by cases h
  have hlen : L.parts.length ≤ 40 := hA.ok.1
  have hkr : ∀ {V : World}, KpL (Bp + 1) b3 w0 V → V.rowIs Bp 25 3 (row3 (.slice a L.parts.length cap) (.int .i64 L.op) (.int .i64 L.fi)) := fun {V} hV => hA.row.of_block (hV.block Bp (by omega) (by have := hA.b3B; omega))
  have q0 := hkr hW
  have k0 := q0.cell (i := 0) (by omega)
  simp only [row3] at k0
  have HA := hide hA; have HJ := hide hJ; have HY := hide hY; have HKR := hide (fun (V : World) (hV : KpL (Bp + 1) b3 w0 V) => hkr hV); have HW := hide hW; have H0 := hide h0
  have HTAB := hide (fun (V V2 : World) (hV : KpL (Bp + 1) b3 w0 V) (hb : Below V.heap.size V V2) => tab_keep hA.tab ((hb.block _ (by have := hA.glob; have := hA.n0b; have := hA.b3B; have := hA.lt; have := hV.size; omega)).trans (hV.block _ (by have := hA.glob; have := hA.n0b; have := hA.b3B; omega) (by have := hA.glob; have := hA.n0b; omega))))
  have hBl : ∀ {V : World}, KpL (Bp + 1) b3 w0 V → Bp + 1 ≤ V.heap.size := fun {V} hV => by have := hV.size; have := hA.lt; omega
  have HBL := hide (fun (V : World) (hV : KpL (Bp + 1) b3 w0 V) => hBl hV)
  clear q0 hkr hA hJ hY hW h0 hBl
  refine callsIn_of_wp Tryd.func28 rfl trivial ?_ rfl
  simp only [Tryd.ntmps28, List.size_toArray, List.length_cons, List.length_nil, Nat.reduceAdd, Nat.reduceSub, Array.replicate_succ, Array.replicate_zero, List.push_toArray, List.append_toArray, List.nil_append, List.cons_append]
  gi_wp2
  clear k0
  gi_loopw [8] (fun i wr => ∃ (k : Nat) (pre : List LX), k ≤ L.parts.length ∧ i = .int .i64 k ∧ Hid (pre.map lKey = (L.parts.take k).map sealL) ∧ Hid (J pre wr) ∧ Hid (KpL (Bp + 1) b3 w0 wr)) (fun i _ => L.parts.length - (intOf i).toNat)
  case atStart => exact ⟨0, [], Nat.zero_le _, rfl, by show _ = _; simp, H0, HW⟩
  case round =>
    clear HW H0
    obtain ⟨k, pre, hk, rfl, HP, HJP, HK⟩ := hrel
    have hpl : pre.length = k := by have := congrArg List.length HP.out; simpa [Nat.min_eq_left hk] using this
    by_cases hlt : k < L.parts.length
    · obtain ⟨b, o, rfl, hbn, hcell⟩ := (unhide HA).pts k hlt
      obtain ⟨e0, e1, e2, e3⟩ := hcell.carry (HK.out.block b (by have := (unhide HA).n0b; have := (unhide HA).b3B; omega) (by have := (unhide HA).n0b; omega))
      have HNN := hide (nn_of (unhide HA).ok hlt)
      have hsl := sealL_len (pt_sm (unhide HA).ok hlt)
      have HSUC := hide (show (L.parts.take (k + 1)).map sealL = (L.parts.take k).map sealL ++ [sealL L.parts[k]] by rw [List.take_succ_eq_append_getElem hlt, List.map_append]; rfl)
      clear hcell
      generalize L.parts[k] = x at *
      have hsl2 : (sealL x).length ≤ 200 := by omega
      obtain ⟨V1, hV1⟩ : ∃ V1, wr.alloc (.cells #[.int .i64 x.num, .int .i64 x.first, .int .i64 x.next, .int .i64 x.size] 32) = V1 := ⟨_, rfl⟩
      have hb1 : Below wr.heap.size wr V1 := by rw [← hV1]; exact (Below.refl _ _).alloc (Nat.le_refl _) _
      have hs1 : V1.heap.size = wr.heap.size + 1 := by rw [← hV1]; simp
      obtain ⟨V2, hV2⟩ : ∃ V2, V1.alloc (.cells #[.int .i64 x.num, .int .i64 x.first, .int .i64 x.next, .int .i64 x.size] 3) = V2 := ⟨_, rfl⟩
      have hb2 : Below wr.heap.size wr V2 := by rw [← hV2]; exact hb1.alloc (by omega) _
      have hs2 : V2.heap.size = wr.heap.size + 2 := by rw [← hV2]; simp; omega
      have hc2 := laid4 V1 (.int .i64 x.num) (.int .i64 x.first) (.int .i64 x.next) (.int .i64 x.size) 3
      rw [hV2] at hc2
      have hpl2 := line_laid ⟨#[115, 101, 97, 108]⟩ (by decide) [x.num, x.first, x.next, x.size] V1.heap.size V2 (by simp) (unhide HNN) (fun i h => by
        match i, h with
        | 0, _ => exact hc2.1
        | 1, _ => exact hc2.2.1
        | 2, _ => exact hc2.2.2.1
        | 3, _ => exact hc2.2.2.2) (by omega) (unhide HTAB wr V2 HK.out hb2)
      rw [show lnX ⟨#[115, 101, 97, 108]⟩ [x.num, x.first, x.next, x.size] [x.num, x.first, x.next, x.size].length ++ [10] = sealL x from seal_ln x] at hpl2
      have HPL : Hid (Calls Tryd.prog 29 #[.string ⟨#[115, 101, 97, 108]⟩, .slice (some ⟨V1.heap.size, 0, none⟩) 4 4] V2 fun e w' => e = .returned (.string (mkL (sealL x) hsl2).1) ∧ Hid (J pre w') ∧ Hid (KpL (Bp + 1) b3 w0 w')) := hide (hpl2.mono fun e w' ⟨h1, h2⟩ => ⟨h1, hide (unhide HJ _ _ _ HJP.out (grown_of_below (hb2.trans (h2.mono (by omega))))), hide (HK.out.trans (KpL.of_below (hb2.trans (h2.mono (by omega))) (unhide HBL wr HK.out)))⟩)
      rw [← hV2, ← hV1] at HPL
      have hsz1 : (wr.alloc (.cells #[.int .i64 x.num, .int .i64 x.first, .int .i64 x.next, .int .i64 x.size] 32)).heap.size = wr.heap.size + 1 := by rw [hV1]; exact hs1
      rw [hsz1] at HPL
      clear hb1 hs1 hb2 hs2 hc2 hpl2 hV2 hV1 hsz1
      have HYK := hide (show lKey (mkL (sealL x) hsl2) = sealL x from rfl)
      generalize mkL (sealL x) hsl2 = y at HPL HYK
      clear hsl hsl2
      gi_wp2_with (first
        | ((try refine ⟨trivial, ?_⟩); (try refine ⟨hdd _, ?_⟩); gi_at_call 29; refine (callsIn_wide.2 (unhide HPL)).mono ?_; clear HPL; rintro e w3 ⟨rfl, HJ3, HK3⟩
           obtain ⟨fn, tmps, assign, body, hy, hR⟩ := unhide HY pre y w3 HJ3.out (by omega)
           simp only [lEnc] at hy)
        | ((try refine ⟨hdd _, ?_⟩); refine hR.mono ?_; clear hR hy; rintro e W4 (⟨rfl, HJ4, HK4⟩ | ⟨rfl, HX4⟩)))
      · go_roundw
        case rel => exact ⟨k + 1, pre ++ [y], by omega, by go_num, (by show _ = _; rw [unhide HSUC, List.map_append, HP.out]; simp [unhide HYK]), hide HJ4, hide (HK3.out.trans HK4)⟩
        case measure => simp [intOf]; omega
      · refine bodyPost_ret (results_none rfl _ _ _) rfl ?_
        exact ⟨⟨_, rfl⟩, .inr ⟨_, trivial, HX4⟩⟩
    · obtain rfl : k = L.parts.length := by omega
      have q := unhide HKR wr HK.out
      have k1 := q.cell (i := 1) (by omega); have k2 := q.cell (i := 2) (by omega)
      simp only [row3] at k1 k2
      have hsl2 : (opnL L).length ≤ 200 := by have := opnL_len (op_sm (unhide HA).ok); omega
      have hse2 : endL.length ≤ 200 := by decide
      obtain ⟨V2, hV2⟩ : ∃ V2, wr.alloc (.cells #[.int .i64 L.op, .int .i64 L.fi] 3) = V2 := ⟨_, rfl⟩
      have hb2 : Below wr.heap.size wr V2 := by rw [← hV2]; exact (Below.refl _ _).alloc (Nat.le_refl _) _
      have hs2 : V2.heap.size = wr.heap.size + 1 := by rw [← hV2]; simp
      have hc2 := laid2 wr (.int .i64 L.op) (.int .i64 L.fi) 3
      rw [hV2] at hc2
      have hpl2 := line_laid ⟨#[111, 112, 101, 110]⟩ (by decide) [L.op, L.fi] wr.heap.size V2 (by simp) (nn_op (unhide HA).ok) (fun i h => by
        match i, h with
        | 0, _ => exact hc2.1
        | 1, _ => exact hc2.2) (by omega) (unhide HTAB wr V2 HK.out hb2)
      rw [show lnX ⟨#[111, 112, 101, 110]⟩ [L.op, L.fi] [L.op, L.fi].length ++ [10] = opnL L from open_ln L] at hpl2
      have HPL : Hid (Calls Tryd.prog 29 #[.string ⟨#[111, 112, 101, 110]⟩, .slice (some ⟨wr.heap.size, 0, none⟩) 2 2] V2 fun e w' => e = .returned (.string (mkL (opnL L) hsl2).1) ∧ Hid (J pre w') ∧ Hid (KpL (Bp + 1) b3 w0 w')) := hide (hpl2.mono fun e w' ⟨h1, h2⟩ => ⟨h1, hide (unhide HJ _ _ _ HJP.out (grown_of_below (hb2.trans (h2.mono (by omega))))), hide (HK.out.trans (KpL.of_below (hb2.trans (h2.mono (by omega))) (unhide HBL wr HK.out)))⟩)
      rw [← hV2] at HPL
      have HPE : Hid (∀ (s : List LX) (V : World), KpL (Bp + 1) b3 w0 V → J s V → Calls Tryd.prog 29 #[.string ⟨#[101, 110, 100]⟩, .slice none 0 0] V fun e w' => e = .returned (.string (mkL endL hse2).1) ∧ Hid (J s w') ∧ Hid (KpL (Bp + 1) b3 w0 w')) := fun s V hV hs => by
        have h := planLine_any ⟨#[101, 110, 100]⟩ (by decide) [] none 0 V (by simp) (fun i h => by simp at h) (fun i h => by simp at h) (unhide HTAB V V hV (Below.refl _ _))
        rw [show lnX ⟨#[101, 110, 100]⟩ [] ([] : List Int).length ++ [10] = endL from end_ln] at h
        exact h.mono fun e w' ⟨h1, h2⟩ => ⟨h1, hide (unhide HJ _ _ _ hs (grown_of_below h2)), hide (hV.trans (KpL.of_below h2 (unhide HBL V hV)))⟩
      have HYK := hide (show lKey (mkL (opnL L) hsl2) = opnL L from rfl)
      have HYE := hide (show lKey (mkL endL hse2) = endL from rfl)
      generalize mkL (opnL L) hsl2 = y at HPL HYK
      generalize mkL endL hse2 = z at HPE HYE
      clear hb2 hs2 hc2 hpl2 hV2 hsl2 hse2 q
      gi_wp2_with (first
        | ((try refine ⟨trivial, ?_⟩); (try refine ⟨hdd _, ?_⟩); gi_at_call 29; refine (callsIn_wide.2 (unhide HPL)).mono ?_; clear HPL; rintro e w3 ⟨rfl, HJ3, HK3⟩
           obtain ⟨fn, tmps, assign, body, hy, hR⟩ := unhide HY pre y w3 HJ3.out (by omega)
           simp only [lEnc] at hy)
        | ((try refine ⟨hdd _, ?_⟩); refine hR.mono ?_; clear hR hy; rintro e W4 (⟨rfl, HJ4, HK4⟩ | ⟨rfl, HX4⟩))
        | ((try refine ⟨trivial, ?_⟩); (try refine ⟨hdd _, ?_⟩); gi_at_call 29; refine (callsIn_wide.2 (unhide HPE (pre ++ [y]) W4 (HK3.out.trans HK4) HJ4)).mono ?_; clear HPE; rintro e w5 ⟨rfl, HJ5, HK5⟩
           obtain ⟨fn, tmps, assign, body, hy, hR⟩ := unhide HY (pre ++ [y]) z w5 HJ5.out (by rw [List.length_append]; simp; omega)
           simp only [lEnc] at hy))
      all_goals
        go_end0
        first
          | exact ⟨⟨_, rfl⟩, .inr ⟨_, trivial, HX4⟩⟩
          | exact ⟨⟨_, rfl⟩, .inl ⟨pre ++ [y] ++ [z], (by rw [List.map_append, List.map_append, HP.out, List.take_length]; simp [lines, unhide HYK, unhide HYE]), HJ4⟩⟩
end Go.Proofs.YtcnkkegpckibbaaDoor

/- The numbers of a plan, sorted; the walk of the program's numbersOk. No conditions but that there are at most 40 parts. -/

namespace Go.Proofs.YtcnkkegpckibbaaDoor
open Go Go.RowKit

/-- The numbers in order. -/
def srt (zs : List Int) : List Int := zs.mergeSort fun x y => decide (x ≤ y)
theorem srt_len (zs : List Int) : (srt zs).length = zs.length := (List.mergeSort_perm zs _).length_eq
theorem nums_of {zs S : List Int} (hp : S.Perm zs) (hs : S.Pairwise fun (x y : Int) => decide (x ≤ y) = true) : numsOk zs ↔ ∀ i, (h : i < S.length) → (1 ≤ S[i] ∧ S[i] ≤ 999999) ∧ ∀ j, (hj : j + 1 = i) → S[j] ≠ S[i] := by
  have hs' := List.pairwise_iff_getElem.1 hs
  unfold numsOk
  constructor
  · rintro ⟨h1, h2⟩ i h
    have hnd := List.pairwise_iff_getElem.1 (hp.nodup_iff.2 h2)
    exact ⟨h1 _ (hp.mem_iff.1 (List.getElem_mem h)), fun j hj => hnd j i (by omega) h (by omega)⟩
  · intro h
    refine ⟨fun x hx => ?_, hp.nodup_iff.1 (List.pairwise_iff_getElem.2 fun i j hi hj hij => ?_)⟩
    · obtain ⟨i, hi, rfl⟩ := List.getElem_of_mem (hp.mem_iff.2 hx)
      exact (h i hi).1
    · have h1 := (h j hj).2 (j - 1) (by omega)
      have h2 := hs' (j - 1) j (by omega) hj (by omega)
      simp only [decide_eq_true_eq] at h2
      by_cases e : i = j - 1
      · subst e; exact h1
      · have h3 := hs' i (j - 1) (by omega) (by omega) (by omega)
        simp only [decide_eq_true_eq] at h3
        omega

theorem nums_sorted (zs : List Int) : numsOk zs ↔ ∀ i, (h : i < (srt zs).length) → (1 ≤ (srt zs)[i] ∧ (srt zs)[i] ≤ 999999) ∧ ∀ j, (hj : j + 1 = i) → (srt zs)[j] ≠ (srt zs)[i] :=
  nums_of (List.mergeSort_perm zs _) (List.pairwise_mergeSort (le := fun (x y : Int) => decide (x ≤ y)) (fun a b c h1 h2 => by simp at *; omega) (fun a b => by simp; omega) zs)

theorem infoIntW : (Tryd.prog.info? 3).map (fun i => (i.zero, i.size, i.bytes)) = some (some (.int .i64 0), 1, 8) := by kernel_rfl
theorem infoIntD : ∃ i, Tryd.prog.info? 3 = some i ∧ i.zero = some (.int .i64 0) ∧ i.size = 1 ∧ i.bytes = 8 := by
  have := infoIntW
  cases h : Tryd.prog.info? 3 with
  | none => rw [h] at this; simp at this
  | some i => rw [h] at this; exact ⟨i, rfl, by simpa using this⟩

/-- What has turned behind a sort: its row alone. -/
structure Sorted1 (g : Nat) (zs : List Int) (w w' : World) : Prop where
  os : w'.os = w.os
  tape : w'.tape = w.tape
  output : w'.output = w.output
  size : w.heap.size ≤ w'.heap.size
  block : ∀ b, b < w.heap.size → b ≠ g → w'.heap[b]? = w.heap[b]?
  cell : ∀ i, (h : i < zs.length) → w'.cell? ⟨g, i, none⟩ = some (.int .i64 zs[i])
theorem sort_any {base g n cap : Nat} {zs : List Int} {W : World} (h : W.ownsRow base 3 1 (.slice (some ⟨g, 0, none⟩) n cap) n (zs.map (Value.int .i64))) (hn : n = zs.length) (hl : zs.length ≤ 1000) :
    Calls Tryd.prog 30 #[.slice (some ⟨g, 0, none⟩) n cap] W fun e w' => e = .returned (.tuple #[]) ∧ Sorted1 g (srt zs) W w' := by
  subst hn
  have hg : g < W.heap.size := (h.lt g rfl).2
  have hH : Sort.Holds (Value.int .i64) W g 0 zs.toArray := fun j hj => by
    have hj' : j < zs.length := by simpa using hj
    have hc := h.cells (g := g) rfl j (.int .i64 zs[j]) (by simp [hj'])
    rw [Addr.add_lit] at hc
    refine ⟨by rw [hc]; simp [hj'], ?_⟩
    rcases h.2 with ⟨hv, _⟩ | ⟨g', c', u', hv, _, hh, _⟩
    · cases hv
    · simp only [Value.slice.injEq, Option.some.injEq, Addr.mk.injEq] at hv
      obtain ⟨⟨rfl, -, -⟩, -, -⟩ := hv
      unfold World.frozen?
      rw [hh]
      simp
  refine (Tryd.slices_Sort_int g 0 cap zs W hH hg (by omega)).mono ?_
  rintro e w' ⟨rfl, m, os, rfl⟩
  refine ⟨rfl, rfl, rfl, rfl, by simp [Sort.ahead], fun b hb hne => ?_, fun i hi => ?_⟩
  · rw [Sort.heap_grow_old _ _ (by simpa [Sort.ahead] using hb)]
    unfold Sort.putRow Sort.mapBlock
    simp only [Sort.ahead]
    rw [Array.getElem?_modify]
    simp [Ne.symm hne]
  · have hsz : (srt zs).toArray.size = zs.toArray.size := by simp [srt_len]
    have hlt : i < (srt zs).toArray.size := by simpa using hi
    rw [Sort.cell?_grow _ _ _ (by simpa [Sort.ahead] using hg)]
    have := Sort.cell?_putRow (Value.int .i64) (Sort.ahead W m) g 0 zs.toArray (srt zs).toArray (fun j hj => hH j hj) hsz i hlt
    rw [Nat.zero_add] at this
    show (Sort.putRow (Value.int .i64) (Sort.ahead W m) g 0 (srt zs).toArray).cell? ⟨g, i, none⟩ = _
    rw [this]
    simp [List.getElem?_eq_getElem hi]
end Go.Proofs.YtcnkkegpckibbaaDoor

/- Small laws of lists of strings, of a cell that is set. No program walked but one fact of its types; no conditions. -/

namespace Go.Proofs.YtcnkkegpckibbaaDoor
open Go Go.RowKit

end Go.Proofs.YtcnkkegpckibbaaDoor

/- The walk of the law's own eqStringS: two slices of the same strings are the same. No conditions. -/

namespace Go.Proofs.YtcnkkegpckibbaaDoor
open Go Go.RowKit

end Go.Proofs.YtcnkkegpckibbaaDoor

/- The walks of szStringS, toStringS, eqStringS: what they answer, and that they turn nothing that was there. No conditions but toStringS's on the number of strings. -/

namespace Go.Proofs.YtcnkkegpckibbaaDoor
open Go Go.RowKit

end Go.Proofs.YtcnkkegpckibbaaDoor

/- The walks of the specification's l6Has, l41Find: what they answer; they turn nothing. No conditions. -/

namespace Go.Proofs.YtcnkkegpckibbaaDoor
open Go Go.RowKit

end Go.Proofs.YtcnkkegpckibbaaDoor

/- Trees that own their memory: what blocks they lie in, each named once; what marking them makes of them. Definitions and small laws, no program. No conditions. -/

namespace Go.Proofs.YtcnkkegpckibbaaDoor
open Go Go.RowKit

/-- No cell of a block is frozen. -/
def FreeB (w : World) (b : Nat) : Prop := ∀ o, w.frozen? ⟨b, o, none⟩ = false
theorem FreeB.of_block {w w' : World} {b : Nat} (h : FreeB w b) (e : w'.heap[b]? = w.heap[b]?) : FreeB w' b := fun o => by
  rw [World.frozen?_of_block (w := w) (a := ⟨b, o, none⟩) e]; exact h o



end Go.Proofs.YtcnkkegpckibbaaDoor

/- The first tree of a schema, as plain data; trees gathered in a row of the call's own. Definitions and small laws; no program walked, no conditions. -/

namespace Go.Proofs.YtcnkkegpckibbaaDoor
open Go Go.RowKit

theorem freeOfHeap {w : World} {g : Nat} {cur : Array Value} {e : TypeId} (h : w.heap[g]? = some (.cells cur e (0, 0))) : FreeB w g := fun o => by simp [World.frozen?, h]

end Go.Proofs.YtcnkkegpckibbaaDoor

/- Schemas that own their memory: what blocks they lie in, each named once; schemas gathered in a row of the call's own. Definitions and small laws; no program walked, no conditions. -/

namespace Go.Proofs.YtcnkkegpckibbaaDoor
open Go Go.RowKit




end Go.Proofs.YtcnkkegpckibbaaDoor

/- Rows of schemas that share their memory: what is read of kids, laid in a new row, one kid put in another's place. No program walked; no conditions. -/

namespace Go.Proofs.YtcnkkegpckibbaaDoor
open Go Go.RowKit

end Go.Proofs.YtcnkkegpckibbaaDoor

/- The walks of the specification's l41Without, l41Made, l41After: names in new memory. Conditions: at most 3000 names. -/

namespace Go.Proofs.YtcnkkegpckibbaaDoor
open Go Go.RowKit

theorem below_grown {n : Nat} {w a b : World} {row : Option Nat} (hn : n ≤ a.heap.size) (h : Below n w a) (hg : a.grownBy b row) (hr : ∀ x, row = some x → n ≤ x) : Below n w b :=
  h.trans ⟨hg.os, hg.tape, hg.output, hg.size, fun k hk => hg.block k (Nat.lt_of_lt_of_le hk hn) (fun e => by have := hr k e.symm; omega)⟩
end Go.Proofs.YtcnkkegpckibbaaDoor

/- The walk of the program's numbersOk. No conditions but that there are at most 40 parts. -/

namespace Go.Proofs.YtcnkkegpckibbaaDoor
open Go Go.RowKit

/-- The numbers of a plan. -/
def numsL (l : Pl) (k : Nat) : List Int := l.op :: (l.parts.take k).map Pt.num
theorem numsL_succ {l : Pl} {k : Nat} (h : k < l.parts.length) : numsL l (k + 1) = numsL l k ++ [l.parts[k].num] := by
  unfold numsL
  rw [List.take_succ_eq_append_getElem h, List.map_append]; rfl
theorem numsL_len {l : Pl} {k : Nat} (h : k ≤ l.parts.length) : (numsL l k).length = k + 1 := by
  unfold numsL; simp; omega

theorem srt_ex (zs : List Int) : ∃ S, S = srt zs ∧ S.length = zs.length ∧ (numsOk zs ↔ ∀ i, (h : i < S.length) → (1 ≤ S[i] ∧ S[i] ≤ 999999) ∧ ∀ j, (hj : j + 1 = i) → S[j] ≠ S[i]) := ⟨srt zs, rfl, srt_len zs, nums_sorted zs⟩

set_option maxRecDepth 100000 in
set_option maxHeartbeats 3200000 in
theorem numbersOk_any (l : Pl) (P : Nat → Prop) (v : Value) (w : World) (hP : ∀ b, P b → b < w.heap.size) (hv : PtsAt P w v l.parts) (h40 : l.parts.length ≤ 40) :
    Calls Tryd.prog 20 #[.agg #[v, .int .i64 l.op, .int .i64 l.fi]] w fun e w' => RetOk e (numsOk (l.op :: l.parts.map Pt.num)) ∧ Below w.heap.size w w' := by
  obtain ⟨a, cap, rfl, hlen, hc⟩ := hv.open
  obtain ⟨j0, hj, hy0, hy1, hy2⟩ := infoIntD
  have HJJ := hide hj; have HY0 := hide hy0; have HY1 := hide hy1; have HY2 := hide hy2
  have HC := hide hc; have HP := hide hP
  have hrow := row3_alloc w (.slice a l.parts.length cap) (.int .i64 l.op) (.int .i64 l.fi) 25
  obtain ⟨W0, hW0⟩ : ∃ W0, w.alloc (.cells #[.slice a l.parts.length cap, .int .i64 l.op, .int .i64 l.fi] 25) = W0 := ⟨_, rfl⟩
  have hb0 : Below w.heap.size w W0 := by rw [← hW0]; exact (Below.refl _ _).alloc (Nat.le_refl _) _
  have hs0 : W0.heap.size = w.heap.size + 1 := by rw [← hW0]; simp
  rw [hW0] at hrow
  have hone : (W0.alloc (.cells #[.int .i64 l.op] 3)).ownsRow (w.heap.size + 1) 3 1 (.slice (some ⟨w.heap.size + 1, 0, none⟩) 1 1) 1 ((numsL l 0).map (Value.int .i64)) := by
    refine ⟨by simp [numsL], Or.inr ⟨w.heap.size + 1, 1, #[.int .i64 l.op], rfl, Nat.le_refl _, ?_, Nat.le_refl _, by unfold maxLen; omega, rfl, by simp [numsL]⟩⟩
    rw [← hs0]
    exact heap_alloc_new _ _
  have hb1 : Below (w.heap.size + 1) W0 (W0.alloc (.cells #[.int .i64 l.op] 3)) := (Below.refl _ _).alloc (by omega) _
  have HROW := hide hrow; have HONE := hide hone; have HB0 := hide hb0; have HB1 := hide hb1
  have k1 := hrow.cell (i := 1) (by omega); have k0 := fun o => (hrow.alloc (o := o)).cell (i := 0) (by omega)
  simp only [row3] at k0 k1
  clear hv hc hP hrow hone hb0 hb1 hj hy0 hy1 hy2
  have HFIN := hide (show numsL l l.parts.length = l.op :: l.parts.map Pt.num by unfold numsL; rw [List.take_length])
  subst hW0
  go_enter Tryd.func20, Tryd.ntmps20
  go_wp2_with fail
  clear k0 k1
  go_loopw [3, 14] (fun vo i wr => ∃ (k : Nat) (g co : Nat), k ≤ l.parts.length ∧ i = .int .i64 k ∧ vo = .slice (some ⟨g, 0, none⟩) (k + 1) co ∧ Hid (wr.ownsRow (w.heap.size + 1) 3 1 (.slice (some ⟨g, 0, none⟩) (k + 1) co) (k + 1) ((numsL l k).map (Value.int .i64))) ∧ Hid (Below (w.heap.size + 1) (w.alloc (.cells #[.slice a l.parts.length cap, .int .i64 l.op, .int .i64 l.fi] 25)) wr)) (fun _ i _ => l.parts.length - (intOf i).toNat)
  case atStart => exact ⟨0, w.heap.size + 1, 1, Nat.zero_le _, rfl, rfl, HONE, HB1⟩
  case round =>
    clear HONE HB1
    obtain ⟨k, g, co, hk, rfl, rfl, HO, HB⟩ := hrel
    have hbs : w.heap.size + 1 ≤ wr.heap.size := by have := HB.out.size; rw [hs0] at this; exact this
    by_cases hlt : k < l.parts.length
    · obtain ⟨b, o, rfl, hpb, hcell⟩ := unhide HC k hlt
      obtain ⟨e0, e1, e2, e3⟩ := hcell.carry ((HB.out.block b (by have := unhide HP b hpb; omega)).trans ((unhide HB0).block b (unhide HP b hpb)))
      have HT := hide (numsL_succ hlt)
      clear hcell hpb
      generalize l.parts[k] = x at *
      have HO1 := hide (World.ownsRow.alloc HO.out (.cells #[.int .i64 x.num, .int .i64 x.first, .int .i64 x.next, .int .i64 x.size] 32))
      have HBa := hide (HB.out.alloc hbs (.cells #[.int .i64 x.num, .int .i64 x.first, .int .i64 x.next, .int .i64 x.size] 32))
      go_wp2_with (at_builtin; (refine append_row _ rfl _ _ 45 rfl (w.heap.size + 1) 3 j0 (.int .i64 0) 1 8 Tryd.underlying45 (unhide HJJ) (unhide HY0) (unhide HY1) (unhide HY2) rfl (by decide) (.slice (some ⟨g, 0, none⟩) (k + 1) co) (k + 1) ((numsL l k).map (Value.int .i64)) rfl (World.ownsRow.alloc (unhide HO1) _) ⟨wr.heap.size + 1, 0, none⟩ 1 1 [.int .i64 x.num] rfl rfl (by have := cell_one (wr.alloc (.cells #[.int .i64 x.num, .int .i64 x.first, .int .i64 x.next, .int .i64 x.size] 32)) (.int .i64 x.num) 3; rw [World.size_alloc] at this; exact this) (fun u hu => by simp at hu; subst hu; rfl) (by decide) (by unfold maxLen; omega) (by omega) (by simp; omega) ?_; intro v' w5 hown5 hgrow5 hat5; obtain ⟨g5, cap5, rfl, -, -⟩ := hown5.form (by omega); have HO5 := hide hown5; have HB5 := hide (below_grown (by simp; omega) ((unhide HBa).alloc (by simp; omega) (.cells #[.int .i64 x.num] 3)) hgrow5 (fun b e => ((unhide HO1).lt b e).1)); clear hown5 hgrow5 hat5))
      go_roundw
      case rel => exact ⟨k + 1, g5, cap5, by omega, by go_num, rfl, hide (by
        rw [unhide HT]
        have := unhide HO5
        simpa using this), HB5⟩
      case measure => simp [intOf]; omega
    · obtain rfl : k = l.parts.length := by omega
      have hl := numsL_len (l := l) (k := l.parts.length) (Nat.le_refl _)
      obtain ⟨S, hS, hsl, hns⟩ := srt_ex (numsL l l.parts.length)
      have hso := sort_any HO.out hl.symm (by omega)
      rw [← hS] at hso
      have HSO := hide hso
      rw [hl] at hsl
      have HNS := hide (Iff.trans (show numsOk (l.op :: l.parts.map Pt.num) ↔ numsOk (numsL l l.parts.length) by rw [unhide HFIN]) hns)
      have hgb := HO.out.lt g rfl
      clear hl HFIN hS hns hso
      go_wp2_with fail
      refine (unhide HSO).mono ?_
      rintro e w6 ⟨rfl, hs6⟩
      have HBF := hide (show Below w.heap.size w w6 from (unhide HB0).trans ⟨hs6.os.trans HB.out.os, hs6.tape.trans HB.out.tape, hs6.output.trans HB.out.output, by have := HB.out.size; have := hs6.size; omega, fun b hb => (hs6.block b (by omega) (by omega)).trans (HB.out.block b (by omega))⟩)
      have HCE := hide hs6.cell
      clear hs6 HSO HB HO HROW HC HP
      go_wp2_with fail
      go_loopw [28] (fun i ws => ∃ (k : Nat), k ≤ l.parts.length + 1 ∧ i = .int .i64 k ∧ Hid (∀ i, (h : i < S.length) → i < k → (1 ≤ S[i] ∧ S[i] ≤ 999999) ∧ ∀ j, (hj : j + 1 = i) → S[j] ≠ S[i]) ∧ Hid (Below w6.heap.size w6 ws)) (fun i _ => l.parts.length + 1 - (intOf i).toNat)
      case atStart => exact ⟨0, Nat.zero_le _, rfl, fun i _ h => by omega, Below.refl _ _⟩
      case round =>
        obtain ⟨k, hk, rfl, HK, HBK⟩ := hrel
        have HBT := hide ((unhide HBF).trans (HBK.out.mono (unhide HBF).size))
        by_cases hlt : k < l.parts.length + 1
        · have hkS : k < S.length := by omega
          have c0 := (HBK.out.cell (p := ⟨g, k, none⟩) (World.block_lt_of_cell? w6 _ (unhide HCE k hkS))).trans (unhide HCE k hkS)
          have HIN := hide (frInP S[k] 1 999999 wr)
          have HF := hide (fun (h : ¬ ((1 ≤ S[k] ∧ S[k] ≤ 999999) ∧ ∀ j, (hj : j + 1 = k) → S[j] ≠ S[k])) => (show ¬ numsOk (l.op :: l.parts.map Pt.num) from fun hp => h ((unhide HNS).1 hp k hkS)))
          have HG := hide (fun (h : (1 ≤ S[k] ∧ S[k] ≤ 999999) ∧ ∀ j, (hj : j + 1 = k) → S[j] ≠ S[k]) => (show ∀ i, (h : i < S.length) → i < k + 1 → (1 ≤ S[i] ∧ S[i] ≤ 999999) ∧ ∀ j, (hj : j + 1 = i) → S[j] ≠ S[i] from fun i hi hik => by
            by_cases e : i = k
            · subst e; exact h
            · exact HK.out i hi (by omega)))
          have HPR := hide (fun q (hq : q + 1 = k) => (show wr.cell? ⟨g, q, none⟩ = some (.int .i64 (S[q]'(by omega))) from (HBK.out.cell (p := ⟨g, q, none⟩) (World.block_lt_of_cell? w6 _ (unhide HCE q (by omega)))).trans (unhide HCE q (by omega))))
          generalize hz : S[k] = z at *
          have HZ := hide hz
          clear hz
          go_wp2_with fail
          refine (unhide HIN).mono ?_
          rintro e w7 ⟨rfl, hb7⟩
          have hbk7 := HBK.out.trans (hb7.mono HBK.out.size)
          have HB7 := hide hbk7
          have HBT7 := hide ((unhide HBT).trans (hb7.mono (unhide HBT).size))
          have HPR7 := hide (fun q (hq : q + 1 = k) => (hb7.cell (p := ⟨g, q, none⟩) (World.block_lt_of_cell? wr _ (unhide HPR q hq))).trans (unhide HPR q hq))
          clear hb7 hbk7 HIN c0 HPR
          by_cases h1 : 1 ≤ z ∧ z ≤ 999999
          case neg =>
            have HF2 := hide (unhide HF (fun h => h1 h.1))
            rw [decide_eq_false h1]
            clear h1
            go_wp2_with fail
            go_ret
            exact ⟨RetOk.no (unhide HF2), unhide HBT7⟩
          rw [decide_eq_true h1]
          have H1 := hide h1
          clear h1
          rcases Nat.eq_zero_or_pos k with rfl | hpos
          · go_wp2_with fail
            go_roundw
            case rel => exact ⟨1, by omega, by go_num, unhide HG ⟨unhide H1, fun j hj => by omega⟩, HB7⟩
            case measure => simp [intOf]
          · obtain ⟨q, rfl⟩ : ∃ q, k = q + 1 := ⟨k - 1, by omega⟩
            have cq := unhide HPR7 q rfl
            have hqS : q < S.length := by omega
            have HGQ := hide (fun (h : S[q] ≠ z) => unhide HG ⟨unhide H1, fun j hj => by have e : j = q := (by omega); subst e; exact h⟩)
            have HFQ := hide (fun (h : S[q] = z) => unhide HF (fun h' => h'.2 q rfl h))
            generalize S[q] = y at *
            have hcast : ((q + 1 : Nat) : Int) - 1 = (q : Int) := by omega
            by_cases hyz : y = z
            · go_wp2_with fail
              go_ret
              exact ⟨RetOk.no (unhide HFQ hyz), unhide HBT7⟩
            · go_wp2_with fail
              go_roundw
              case rel => exact ⟨q + 1 + 1, by omega, by go_num, unhide HGQ hyz, HB7⟩
              case measure => simp [intOf]; omega
        · go_wp2_with fail
          go_ret
          exact ⟨⟨true, rfl, by simp only [true_iff]; exact (unhide HNS).2 (fun i hi => HK.out i hi (by omega))⟩, unhide HBT⟩
end Go.Proofs.YtcnkkegpckibbaaDoor

/- The walk of the program's LogPlanOk. No conditions. -/

namespace Go.Proofs.YtcnkkegpckibbaaDoor
open Go Go.RowKit

set_option maxRecDepth 100000 in
set_option maxHeartbeats 6400000 in
theorem implLogPlanOk_any (l : Pl) (P : Nat → Prop) (v : Value) (w : World) (hP : ∀ b, P b → b < w.heap.size) (hv : PtsAt P w v l.parts) :
    Calls Tryd.prog 9 #[.agg #[v, .int .i64 l.op, .int .i64 l.fi]] w fun e w' => RetOk e (plOk l) ∧ Below w.heap.size w w' := by
  have hbx : ∀ o, Below w.heap.size w (w.alloc o) := fun o => (Below.refl _ _).alloc (Nat.le_refl _) o
  have HNU := hide (fun (h40 : l.parts.length ≤ 40) o => numbersOk_any l P v (w.alloc o) (fun b hb => Nat.lt_of_lt_of_le (hP b hb) (hbx o).size) (hv.carry (fun b hb => (hbx o).block b (hP b hb)) (fun _ h => h)) h40)
  obtain ⟨a, cap, rfl, hlen, hc⟩ := hv.open
  have HC := hide hc; have HP := hide hP
  have HIN := hide (fun z lo hi W => frInP z lo hi W)
  have hrow := row3_alloc w (.slice a l.parts.length cap) (.int .i64 l.op) (.int .i64 l.fi) 25
  have HROW := hide hrow; have HBX := hide hbx
  clear hv hc hP hrow hbx
  go_enter Tryd.func9, Tryd.ntmps9
  by_cases h40 : l.parts.length ≤ 40
  case neg =>
    have HF := hide (show ¬ plOk l from fun h => h40 h.1)
    go_wp2_with fail
    go_ret
    exact ⟨RetOk.no (unhide HF), unhide HBX _⟩
  have HNU2 := hide (unhide HNU h40)
  clear HNU
  go_wp2_with fail
  refine (unhide HNU2 _).mono ?_
  rintro e w1 ⟨⟨r, rfl, hr⟩, hb1⟩
  have q1 := (unhide HROW).of_block (hb1.block w.heap.size (by simp))
  have HB1 := hide ((unhide HBX _).trans (hb1.mono (unhide HBX _).size)); have Q1 := hide q1
  have k0 := q1.cell (i := 0) (by omega)
  simp only [row3] at k0
  clear hb1 q1 HNU2
  cases r with
  | false =>
    have HF := hide (show ¬ plOk l from fun h => by have := hr.2 h.2.1; cases this)
    clear hr
    go_wp2_with fail
    go_ret
    exact ⟨RetOk.no (unhide HF), unhide HB1⟩
  | true =>
  have HNO := hide (hr.1 rfl)
  clear hr
  go_wp2_with fail
  clear k0
  go_loopw [3, 18] (fun nn i wr => ∃ (k : Nat) (N : Int), k ≤ l.parts.length ∧ i = .int .i64 k ∧ nn = .int .i64 N ∧ Hid (N = nx l.parts k) ∧ Hid (∀ i, (h : i < l.parts.length) → i < k → ptOk l.parts[i] (nx l.parts i)) ∧ Hid (wr.rowIs w.heap.size 25 3 (row3 (.slice a l.parts.length cap) (.int .i64 l.op) (.int .i64 l.fi))) ∧ Hid (Below w.heap.size w wr)) (fun _ i _ => l.parts.length - (intOf i).toNat)
  case atStart => exact ⟨0, 1, Nat.zero_le _, rfl, rfl, rfl, fun i _ h => by omega, Q1, HB1⟩
  case round =>
    clear Q1 HB1
    obtain ⟨k, N, hk, rfl, rfl, HNX, HS, HR, HB⟩ := hrel
    have q := HR.out
    have k2 := q.cell (i := 2) (by omega)
    simp only [row3] at k2
    by_cases hlt : k < l.parts.length
    · obtain ⟨b, o, rfl, hpb, hcell⟩ := unhide HC k hlt
      obtain ⟨e0, e1, e2, e3⟩ := hcell.carry (HB.out.block b (unhide HP b hpb))
      have HX := hide (show ptOk l.parts[k] (nx l.parts k) ↔ ptOk l.parts[k] N by rw [HNX.out])
      have HNS := hide (show l.parts[k].next = nx l.parts (k + 1) from (nx_succ hlt).symm)
      have HF := hide (show ¬ ptOk l.parts[k] (nx l.parts k) → ¬ plOk l from fun h hp => h (hp.2.2.1 k hlt))
      have HSK := hide (fun (h : ptOk l.parts[k] (nx l.parts k)) => (show ∀ i, (h : i < l.parts.length) → i < k + 1 → ptOk l.parts[i] (nx l.parts i) from fun i hi hik => by
        by_cases e : i = k
        · subst e; exact h
        · exact HS.out i hi (by omega)))
      clear hcell
      generalize l.parts[k] = x at *
      have HBR := hide (fun o => (show Below wr.heap.size wr (wr.alloc o) from (Below.refl _ _).alloc (Nat.le_refl _) o))
      have HP4 := hide (p4_alloc wr x 32)
      clear q k2
      by_cases h3 : x.first = N
      case neg =>
        have HF2 := hide (unhide HF (fun h => h3 ((unhide HX).1 h).1))
        go_wp2_with fail
        go_ret
        exact ⟨RetOk.no (unhide HF2), HB.out.trans ((unhide HBR _).mono HB.out.size)⟩
      subst h3
      go_wp2_with fail
      refine (unhide HIN _ _ _ _).mono ?_
      rintro e w2 ⟨rfl, hb2⟩
      have hb02 := HB.out.trans (((unhide HBR _).trans (hb2.mono (unhide HBR _).size)).mono HB.out.size)
      have q2 := ((HR.out).alloc _).of_block (hb2.block w.heap.size (by rw [World.size_alloc]; have := HR.out.lt; omega))
      obtain ⟨f0, f1, f2, f3⟩ := (unhide HP4).carry (hb2.block wr.heap.size (by simp))
      simp only [Nat.zero_add] at f0 f1 f2 f3
      have hlt2 : w.heap.size < w2.heap.size := q2.lt
      have HB2 := hide hb02; have Q2 := hide q2
      clear hb2 hb02 q2 e0 e1 e2 e3
      by_cases h4 : x.first ≤ x.next ∧ x.next ≤ 1000000
      case neg =>
        have HF2 := hide (unhide HF (fun h => h4 ⟨((unhide HX).1 h).2.1, ((unhide HX).1 h).2.2.1⟩))
        rw [decide_eq_false h4]
        clear h4
        go_wp2_with fail
        go_ret
        exact ⟨RetOk.no (unhide HF2), unhide HB2⟩
      rw [decide_eq_true h4]
      have H4 := hide h4
      clear h4
      go_wp2_with fail
      refine (unhide HIN _ _ _ _).mono ?_
      rintro e w3 ⟨rfl, hb3⟩
      have hb03 := (unhide HB2).trans (hb3.mono (unhide HB2).size)
      have q3 := (unhide Q2).of_block (hb3.block w.heap.size hlt2)
      have hltb : wr.heap.size < w2.heap.size := World.block_lt_of_cell? w2 _ f0
      have g2 := (hb3.cell (p := ⟨wr.heap.size, 2, none⟩) hltb).trans f2
      have HB3 := hide hb03; have Q3 := hide q3
      clear hb3 hb03 q3 HB2 Q2 f0 f1 f2 f3 hltb hlt2
      by_cases h6 : 0 ≤ x.size ∧ x.size ≤ 20000
      case neg =>
        have HF2 := hide (unhide HF (fun h => h6 ⟨((unhide HX).1 h).2.2.2.1, ((unhide HX).1 h).2.2.2.2⟩))
        rw [decide_eq_false h6]
        clear h6
        go_wp2_with fail
        go_ret
        exact ⟨RetOk.no (unhide HF2), unhide HB3⟩
      rw [decide_eq_true h6]
      have HSS := hide (unhide HSK ((unhide HX).2 ⟨rfl, (unhide H4).1, (unhide H4).2, h6.1, h6.2⟩))
      clear h6
      go_wp2_with fail
      go_roundw
      case rel => exact ⟨k + 1, x.next, by omega, by go_num, rfl, unhide HNS, unhide HSS, Q3, HB3⟩
      case measure => simp [intOf]; omega
    · have HFI := hide (show plOk l ↔ l.fi = N from by
        have hkk : k = l.parts.length := by omega
        subst hkk
        rw [HNX.out]
        exact ⟨fun h => h.2.2.2, fun h => ⟨h40, unhide HNO, fun i hi => HS.out i hi hi, h⟩⟩)
      go_wp2_with fail
      go_ret
      exact ⟨RetOk.of (unhide HFI), HB.out⟩
end Go.Proofs.YtcnkkegpckibbaaDoor
