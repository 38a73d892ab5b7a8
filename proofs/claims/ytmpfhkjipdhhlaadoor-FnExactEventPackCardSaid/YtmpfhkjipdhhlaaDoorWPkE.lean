/- The walk of the specification's EventPack: whatever event comes in, its bytes in new memory, or none. No conditions. -/
import Derived.Test.YtmpfhkjipdhhlaaDoorWPkT
import Derived.Test.YtmpfhkjipdhhlaaDoorWEvOk
import Derived.Deep.RegionLaw
import Derived.Deep.CutRange
namespace Go.Proofs.YtmpfhkjipdhhlaaDoor
open Go Go.RowKit

theorem l4Tree_all : ∀ n, TrSaid n
  | 0 => fun t h => by omega
  | n + 1 => l4Tree_step n (l4Tree_all n)

/-- What EventPack gives. -/
def packB (ty : ByteArray) (ver : Int) (t : Tr) : List UInt8 := if evOkB ty ver t then eventB ty ver t else []

theorem evOk_parts {ty : ByteArray} {ver : Int} {t : Tr} (h : evOkB ty ver t = true) : 1 ≤ ty.size ∧ ty.size ≤ 8 ∧ 1 ≤ ver ∧ ver ≤ 12 ∧ t.sort = 5 ∧ 0 < pT t 1 := by
  unfold evOkB nameOkB at h
  simp at h
  omega

theorem ByRow.empty {w : World} {g base : Nat} {f : Nat → Value} (h : w.rowIs g 5 0 f) (hb : base ≤ g) : ByRow base w (.slice (some ⟨g, 0, none⟩) 0 0) [] := by
  obtain ⟨c, h1, h2, -⟩ := h
  exact ⟨rfl, Or.inr ⟨g, 0, c, rfl, hb, h1, Nat.le_refl _, by decide, h2, by simp [bc]⟩⟩

set_option maxRecDepth 100000 in
set_option maxHeartbeats 3200000 in
theorem specEventPack_any (ty : ByteArray) (ver : Int) (t : Tr) (P : Nat → Prop) (c : C5) (w : World) (hP : ∀ b, P b → b < w.heap.size) (hrep : Rep P w t c) (hty : ty.size ≤ 9223372036854775807) (hver : I64 ver) :
    Calls Tryd.prog 12 #[.agg #[.string ty, .int .i64 ver, c.c0, c.c1, c.c2, c.c3, c.c4]] w fun e w' => ByNew w w' e (packB ty ver t) := by
  obtain ⟨c0, c1, c2, c3, c4⟩ := c
  have hbx : ∀ (W : World) o, Below W.heap.size W (W.alloc o) := fun W o => (Below.refl _ _).alloc (Nat.le_refl _) o
  have hok := fun (W : World) (hW : Below w.heap.size w W) => specEventOk_any ty ver t P ⟨c0, c1, c2, c3, c4⟩ W (fun b hb => Nat.lt_of_lt_of_le (hP b hb) hW.size) (Rep.carry (fun b hb => hW.block b (hP b hb)) (fun _ h => h) _ _ hrep) hty hver
  have HOK := hide hok; have HBX := hide hbx
  clear hok hbx
  by_cases h : evOkB ty ver t = true
  · obtain ⟨-, h8, hv1, hv12, -, hpt⟩ := evOk_parts h
    have HE : Hid (packB ty ver t = (shortB ty ++ [UInt8.ofNat ver.toNat]) ++ treeB t) := by show packB ty ver t = _; rw [packB, if_pos h]; rfl
    have hlen : ((shortB ty ++ [UInt8.ofNat ver.toNat]) ++ treeB t).length ≤ 9000 := eventB_len h8 hpt
    have HLEN := hide hlen
    have HSH := hide (fun W => l4Short_any ty W (by omega))
    have HTR := hide (fun (W : World) (hW : Below w.heap.size w W) => l4Tree_all (tsz t + 1) t (by omega) P ⟨c0, c1, c2, c3, c4⟩ 1 W (fun b hb => Nat.lt_of_lt_of_le (hP b hb) hW.size) (Rep.carry (fun b hb => hW.block b (hP b hb)) (fun _ h => h) _ _ hrep) hpt)
    rw [h] at HOK
    have HK := hide (bcI ver (by omega) (by omega))
    have hwrap : IntKind.u8.wrap ver = ver := wraps_u8 ver (by omega) (by omega)
    have hsl := shortB_len ty
    have HSL := hide hsl
    clear h hpt hlen hsl hP hrep hver
    go_enter Tryd.func12, Tryd.ntmps12
    go_wp2_with fail
    refine (unhide HOK _ (unhide HBX _ _)).mono ?_
    rintro e w1 ⟨rfl, hb1⟩
    obtain ⟨q1, hs1, hb01⟩ := ebox1 hb1
    have hbo : Below (w.heap.size + 1) (w.alloc (.cells #[.string ty, .int .i64 ver, c0, c1, c2, c3, c4] 34)) w1 := by have := hb1; rw [World.size_alloc] at this; exact this
    have k0 := q1.cell (i := 0) (by omega); have k1 := q1.cell (i := 1) (by omega)
    simp only [row7] at k0 k1
    have k0a : ∀ ob, (w1.alloc ob).cell? ⟨w.heap.size, 0, none⟩ = some (.string ty) := fun ob => (q1.alloc ob).cell (i := 0) (by omega)
    have Q1 := hide q1; have HB1 := hide hb01; have HBO := hide hbo
    clear q1 hb1 hb01 hbo
    go_upto_region 3 with fail
    go_cut [3] from 8 (fun s3 wx => ∃ a3 n3 cap3, s3 = .slice a3 n3 cap3 ∧ Hid (TAt w (.cells #[.string ty, .int .i64 ver, c0, c1, c2, c3, c4] 34) wx (.slice a3 n3 cap3) n3 (shortB ty ++ [UInt8.ofNat ver.toNat])))
    case first =>
      go_region_law (first
        | (rw [if_pos (by first | rfl | simp [Region.wanted])]; go_simp; refine (unhide HSH w1.drew).mono ?_
           rintro e w2 ⟨a2, n2, cap2, rfl, hn2, hr2, hb2⟩
           have hb12 : Below w1.heap.size w1 w2 := (Below.refl _ w1).drew.trans hb2
           have k1' := ((unhide Q1).of_block (hb12.block w.heap.size (by omega))).cell (i := 1) (by omega)
           simp only [row7] at k1'
           have HR2 := hide ((ByRow.base (base' := w.heap.size + 1) hr2 hs1))
           have HN2 := hide hn2
           have HB12 := hide hb12
           clear hr2 hn2 hb12 hb2)
        | (rw [if_pos (by first | rfl | simp [Region.wanted])]; go_simp; refine (unhide HSH (w1.alloc (.cells #[.int .u8 ver] 5)).drew).mono ?_
           rintro e w2 ⟨a2, n2, cap2, rfl, hn2, hr2, hb2⟩
           have hz : (w1.alloc (.cells #[.int .u8 ver] 5)).drew.heap.size = w1.heap.size + 1 := World.size_alloc _ _
           have hb12 : Below w1.heap.size w1 w2 := ((Below.refl _ w1).alloc (Nat.le_refl _) (.cells #[.int .u8 ver] 5)).drew.trans (hb2.mono (by omega))
           have HCB : Hid (∀ j u, (bc [UInt8.ofNat ver.toNat])[j]? = some u → w2.cell? ((⟨w1.heap.size, 0, none⟩ : Addr).add j) = some u) := fun j u hj => by
             rw [unhide HK] at hj
             have h1 := cell_one w1 _ 5 j u hj
             rw [Addr.add_lit] at h1 ⊢
             rw [World.cell?_of_block (w := w1.alloc (.cells #[.int .u8 ver] 5)) (hb2.block w1.heap.size (by omega))]
             exact h1
           have HR2B := hide ((ByRow.base (base' := w.heap.size + 1) hr2 (by omega)))
           have HN2 := hide hn2
           have HB12 := hide hb12
           clear hr2 hn2 hb12 hb2 hz)
        | (refine step_append_bytes _ (by rfl) _ _ (by rfl) (w.heap.size + 1) (.slice a2 n2 cap2) (shortB ty) [UInt8.ofNat ver.toNat] (by rfl) (World.ownsRow.alloc (unhide HR2) _) ⟨w2.heap.size, 0, none⟩ 1 1 (by rfl) (by rfl) (by decide) (by rw [unhide HK]; exact cell_one _ _ _) (by rw [unhide HSL]; simp; omega) (by have := (unhide HB12).size; simp; omega) ?_
           intro a3 n3 cap3 w3 HN3 HR3 HG3
           have HT3 : Hid (TAt w (.cells #[.string ty, .int .i64 ver, c0, c1, c2, c3, c4] 34) w3 (.slice a3 n3 cap3) n3 (shortB ty ++ [UInt8.ofNat ver.toNat])) := ⟨HR3.out, (unhide HBO).trans (((unhide HB12).mono hs1).trans (((Below.refl _ w2).alloc (by have := (unhide HB12).size; omega) _).trans (ByRow.below (World.ownsRow.alloc (unhide HR2) _) HG3.out (by have := (unhide HB12).size; simp; omega)))), HN3.out⟩
           clear HR3 HN3 HG3)
        | (refine step_append_bytes _ (by rfl) _ _ (by rfl) (w.heap.size + 1) (.slice a2 n2 cap2) (shortB ty) [UInt8.ofNat ver.toNat] (by rfl) (unhide HR2B) ⟨w1.heap.size, 0, none⟩ 1 1 (by rfl) (by rfl) (by decide) (unhide HCB) (by rw [unhide HSL]; simp; omega) (by have := (unhide HB12).size; omega) ?_
           intro a3 n3 cap3 w3 HN3 HR3 HG3
           have HT3 : Hid (TAt w (.cells #[.string ty, .int .i64 ver, c0, c1, c2, c3, c4] 34) w3 (.slice a3 n3 cap3) n3 (shortB ty ++ [UInt8.ofNat ver.toNat])) := ⟨HR3.out, (unhide HBO).trans (((unhide HB12).mono hs1).trans (ByRow.below (unhide HR2B) HG3.out (by have := (unhide HB12).size; omega))), HN3.out⟩
           clear HR3 HN3 HG3))
      all_goals
        go_wp2_with fail
        go_meet
        exact ⟨a3, n3, cap3, rfl, HT3⟩
    case rest =>
      obtain ⟨a3, n3, cap3, rfl, HT3⟩ := hcut
      have qc := (row7_alloc w (.string ty) (.int .i64 ver) c0 c1 c2 c3 c4 34).of_block (HT3.out.below.block _ (by omega))
      clear k0 k1 k0a
      have k2 := qc.cell (i := 2) (by omega); have k3 := qc.cell (i := 3) (by omega); have k4 := qc.cell (i := 4) (by omega); have k5 := qc.cell (i := 5) (by omega); have k6 := qc.cell (i := 6) (by omega)
      simp only [row7] at k2 k3 k4 k5 k6
      clear qc
      go_wp2_with fail
      refine (unhide HTR _ HT3.out.old).mono ?_
      intro e w6 hnew6
      obtain ⟨g6, n6, cap6, rfl, hn6, hc6, hb6⟩ := hnew6.form (by rw [treeB_eq]; simp)
      have HC6 := hide hc6; have HB6 := hide hb6; have HN6 := hide hn6; have HBS := hide (Nat.le_trans HT3.out.size hb6.size)
      clear hnew6 hc6 hb6 hn6 k2 k3 k4 k5 k6
      go_wp2_with (at_builtin; refine append_bytes _ rfl _ _ rfl (w.heap.size + 1) (.slice a3 n3 cap3) (shortB ty ++ [UInt8.ofNat ver.toNat]) (treeB t) rfl (HT3.out.row.stay (unhide HB6)) ⟨g6, 0, none⟩ n6 cap6 rfl (unhide HN6) (unhide HC6) (by have := unhide HLEN; rw [List.length_append] at this; omega) (unhide HBS) ?_; intro a7 n7 cap7 w7 HN7 HR7 HG7)
      have hst7 := HT3.out.app (unhide HB6) HN7.out HR7.out HG7.out
      rw [← HE.out] at hst7
      have HST7 := hide hst7
      clear hst7 HN7 HR7 HG7 HB6 HN6 HC6 HBS
      go_ret
      exact (unhide HST7).end
  · have HE : Hid (packB ty ver t = []) := by show packB ty ver t = _; rw [packB, if_neg h]
    have hf : evOkB ty ver t = false := by simpa using h
    rw [hf] at HOK
    clear h hf hP hrep hver
    go_enter Tryd.func12, Tryd.ntmps12
    go_wp2_with fail
    refine (unhide HOK _ (unhide HBX _ _)).mono ?_
    rintro e w1 ⟨rfl, hb1⟩
    obtain ⟨-, -, hb01⟩ := ebox1 hb1
    have HB1 := hide hb01
    clear hb1 hb01
    go_wp2_with fail
    go_ret
    refine ⟨_, _, _, rfl, by rw [HE.out]; rfl, by rw [HE.out]; exact ByRow.empty (f := fun _ => .int .u8 0) (World.rowIs_alloc w1 #[] 5 _ (fun i hi => by have hi' : i < 0 := hi; omega)) (unhide HB1).size, (unhide HB1).alloc (unhide HB1).size _⟩
end Go.Proofs.YtmpfhkjipdhhlaaDoor
