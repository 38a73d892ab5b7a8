/- The walk of the program's EventUnpack, its closure by its contract. Conditions: the table treeFields is as the program lays it. -/
import Derived.Test.YtffdofllebbcgaaDoorMerged37
import Derived.Test.YtffdofllebbcgaaDoorWPkT
import Derived.Test.YtffdofllebbcgaaDoorWEvOk
import Derived.Deep.RegionLaw
import Derived.Deep.CutRange
namespace Go.Proofs.YtffdofllebbcgaaDoor
open Go Go.RowKit

/-- What EventUnpack comes to, the program's and the specification's. -/
def UpEnd (w w' : World) (b : List UInt8) (e : Ending) : Prop :=
  Below w.heap.size w w' ∧ ((∃ (ty : ByteArray) (ver : Int) (t : Tr) (c : C5) (F : List Nat), e = .returned (.tuple #[.agg #[.string ty, .int .i64 ver, c.c0, c.c1, c.c2, c.c3, c.c4], .bool true]) ∧ Own w' t c F ∧ F.Nodup ∧ (∀ x, x ∈ F → w.heap.size ≤ x ∧ x < w'.heap.size) ∧ UpE b ty ver t)
    ∨ (e = .returned (.tuple #[.agg #[.string ⟨#[]⟩, .int .i64 0, .int .i64 0, .int .i64 0, .string ⟨#[]⟩, .slice none 0 0, .slice none 0 0], .bool false]) ∧ ∀ ty ver t, ¬ UpE b ty ver t))

theorem ub_start (w : World) (v : Value) (b : List UInt8) (hr : ByRow 0 w v b) (hs : b.length ≤ 1048576) : UbAt w.heap.size (((w.alloc (.cells #[v] 38)).alloc ev0).alloc ev0) v b := by
  have h1 : (w.alloc (.cells #[v] 38)).rowIs w.heap.size 38 1 (fun _ => v) := World.rowIs_alloc w #[v] _ _ (fun i hi => by
    have hi' : i < 1 := hi
    match i, hi' with
    | 0, _ => rfl)
  refine ⟨(h1.alloc _).alloc _, ?_, World.ownsRow.alloc (World.ownsRow.alloc (World.ownsRow.alloc hr _) _) _, fun g e => (hr.own g e).2, hs⟩
  have := row7_alloc ((w.alloc (.cells #[v] 38)).alloc ev0) (.string ⟨#[]⟩) (.int .i64 0) (.int .i64 0) (.int .i64 0) (.string ⟨#[]⟩) (.slice none 0 0) (.slice none 0 0) 34
  rw [World.size_alloc, World.size_alloc] at this
  exact this
theorem UbAt.on {X : Nat} {w w' : World} {v : Value} {b : List UInt8} (h : UbAt X w v b) (hb : Below w.heap.size w w') : UbAt X w' v b :=
  ⟨h.box.of_block (hb.block _ h.box.lt), h.rd.of_block (hb.block _ h.rd.lt), h.row.stay hb, h.own, h.small⟩

set_option maxRecDepth 100000 in
set_option maxHeartbeats 1600000 in
theorem implEventUnpack_any (w : World) (v : Value) (b : List UInt8) (hr : ByRow 0 w v b) (hs : b.length ≤ 1048576) (hT : Tab w) :
    Calls Tryd.prog 19 #[v] w fun e w' => UpEnd w w' b e := by
  have hmf : ∀ (fn : Fn) (first cap : Array Value) (w : World), (Instr.makeFunc fn first cap).run Tryd.prog w = .ok (.func fn first cap) w := fun _ _ _ _ => rfl
  have hub := ub_start w v b hr hs
  have hb3 : Below w.heap.size w (((w.alloc (.cells #[v] 38)).alloc ev0).alloc ev0) := (((Below.refl _ _).alloc (Nat.le_refl _) _).alloc (by simp) _).alloc (by simp; omega) _
  have hX1 : (((w.alloc (.cells #[v] 38)).alloc ev0).alloc ev0).rowIs (w.heap.size + 1) 34 7 (row7 (.string ⟨#[]⟩) (.int .i64 0) (.int .i64 0) (.int .i64 0) (.string ⟨#[]⟩) (.slice none 0 0) (.slice none 0 0)) := by
    have := (row7_alloc (w.alloc (.cells #[v] 38)) (.string ⟨#[]⟩) (.int .i64 0) (.int .i64 0) (.int .i64 0) (.string ⟨#[]⟩) (.slice none 0 0) (.slice none 0 0) 34).alloc ev0
    rw [World.size_alloc] at this
    exact this
  have hsz3 : (((w.alloc (.cells #[v] 38)).alloc ev0).alloc ev0).heap.size = w.heap.size + 3 := by simp
  have hTW := hT.of_block (hb3.block 0 hT.lt)
  have hwork := fun (o : Obj) => upWork w.heap.size ((((w.alloc (.cells #[v] 38)).alloc ev0).alloc ev0).alloc o) v b (hub.on ((Below.refl _ _).alloc (Nat.le_refl _) o)) (hTW.of_block (Below.heap_alloc _ _ _ hTW.lt))
  obtain ⟨a, cap, hv⟩ := hr.slice
  subst hv
  by_cases hex : ∃ ty ver t, UpE b ty ver t
  · have htry := treeTry_yes2 40 #[.pointer (some ⟨w.heap.size, 0, none⟩), .pointer (some ⟨w.heap.size + 2, 0, none⟩)] (((w.alloc (.cells #[.slice a b.length cap] 38)).alloc ev0).alloc ev0)
      (fun w1 => ∃ (ty : ByteArray) (ver : Int) (t : Tr) (c : C5) (F : List Nat), w1.rowIs (w.heap.size + 2) 34 7 (row7 (.string ty) (.int .i64 ver) c.c0 c.c1 c.c2 c.c3 c.c4) ∧ Own w1 t c F ∧ F.Nodup ∧ (∀ x, x ∈ F → w.heap.size + 4 ≤ x ∧ x < w1.heap.size) ∧ UpE b ty ver t ∧ But (w.heap.size + 2) ((((w.alloc (.cells #[.slice a b.length cap] 38)).alloc ev0).alloc ev0).alloc (.cells #[.bool false] 4)) w1)
      (enterUnpack _) (by
        refine (hwork (.cells #[.bool false] 4)).mono ?_
        rintro e w1 ⟨hc, hb1⟩
        rcases hc with ⟨ty, ver, t, c, F, rfl, h1, h2, h3, h4, h5⟩ | ⟨-, hno, -⟩
        · refine ⟨rfl, ⟨ty, ver, t, c, F, h1, h2, h3, fun x hx => ⟨by have := (h4 x hx).1; rw [World.size_alloc, hsz3] at this; omega, (h4 x hx).2⟩, h5, hb1⟩, ?_⟩
          exact hb1.at (by simp) (by rw [hsz3]; omega)
        · obtain ⟨ty, ver, t, hu⟩ := hex
          exact absurd hu (hno ty ver t))
    have HTRY := hide htry; have HB3 := hide hb3; have HX1 := hide hX1; have HS3 := hide hsz3
    clear htry hwork hub hb3 hX1 hTW hT hr hsz3 hex
    go_enter Tryd.func19, Tryd.ntmps19
    go_wp2_with fail
    refine (unhide HTRY).mono ?_
    rintro e w4 ⟨rfl, w1, ⟨ty, ver, t, ⟨c0, c1, c2, c3, c4⟩, F, hrd, ho, hnd, hF, hu, hb1⟩, hb4⟩
    have hsz := unhide HS3
    have hs1 := hb1.size
    rw [World.size_alloc, hsz] at hs1
    have hs4 := hb4.size
    rw [hsz] at hb4
    obtain ⟨g0, g1, g2, -, -, -, F1, F2, -, ⟨ap, cp, g3, -⟩, aq, cq, g4, -⟩ := ho.open
    simp only at g0 g1 g2 g3 g4
    subst g0 g1 g2 g3 g4
    have hrd4 := hrd.of_block (hb4.at hrd.lt (by omega))
    have hX4 := (((unhide HX1).alloc (.cells #[.bool false] 4)).of_block (hb1.at ((unhide HX1).alloc _).lt (by omega))).of_block (hb4.at (by omega) (by omega))
    have ho4 := Own.carry t _ F (fun x hx => hb4.at (hF x hx).2 (by have := (hF x hx).1; omega)) ho
    have hbw4 : Below w.heap.size w w4 := by
      refine (unhide HB3).trans ⟨hb4.os.trans hb1.os, hb4.tape.trans hb1.tape, hb4.output.trans hb1.output, by rw [hsz]; omega, fun i hi => ?_⟩
      exact (hb4.at (by omega) (by omega)).trans ((hb1.at (by rw [World.size_alloc, hsz]; omega) (by omega)).trans (Below.heap_alloc _ _ _ (by rw [hsz]; omega)))
    have p0 := hX4.cell (i := 0) (by omega); have p1 := hX4.cell (i := 1) (by omega); have p2 := hX4.cell (i := 2) (by omega); have p3 := hX4.cell (i := 3) (by omega); have p4 := hX4.cell (i := 4) (by omega); have p5 := hX4.cell (i := 5) (by omega); have p6 := hX4.cell (i := 6) (by omega); have pf := hX4.frozen
    have q0 := hrd4.cell (i := 0) (by omega); have q1 := hrd4.cell (i := 1) (by omega); have q2 := hrd4.cell (i := 2) (by omega); have q3 := hrd4.cell (i := 3) (by omega); have q4 := hrd4.cell (i := 4) (by omega); have q5 := hrd4.cell (i := 5) (by omega); have q6 := hrd4.cell (i := 6) (by omega)
    simp only [row7] at p0 p1 p2 p3 p4 p5 p6 q0 q1 q2 q3 q4 q5 q6
    have HO := hide ho4; have HBW := hide hbw4; have HF := hide hF; have HU := hide hu; have HLT := hide (show w1.heap.size ≤ w4.heap.size from hs4)
    clear hrd4 hX4 ho4 hbw4 hF hb1 hb4 hrd ho HTRY HB3 HX1 hs1 hs4 hsz hu
    go_wp2_with fail
    refine bodyPost_ret (v := .tuple #[.agg #[.string ty, .int .i64 ver, .int .i64 t.sort, .int .i64 t.num, .string t.text, .slice ap t.names.length cp, .slice aq t.kids.length cq], .bool true]) (by simp [results, Tryd.results19, go_sem, p0, p1, p2, p3, p4, p5, p6]) rfl ?_
    refine ⟨?_, Or.inl ⟨ty, ver, t, ⟨_, _, _, _, _⟩, F, rfl, Own.carry _ _ F (fun y hy => by have := (unhide HF y hy).1; repeat rw [Below.heap_setCell _ _ _ _ (by simp <;> omega)]) (unhide HO), hnd, fun y hy => ⟨by have := (unhide HF y hy).1; omega, by simp only [size_setCell]; have := (unhide HF y hy).2; have := unhide HLT; omega⟩, unhide HU⟩⟩
    repeat refine Below.setCell ?_ (by simp <;> omega) _
    exact unhide HBW
  · have hno : ∀ ty ver t, ¬ UpE b ty ver t := fun ty ver t hu => hex ⟨ty, ver, t, hu⟩
    have htry := treeTry_no2 40 #[.pointer (some ⟨w.heap.size, 0, none⟩), .pointer (some ⟨w.heap.size + 2, 0, none⟩)] (((w.alloc (.cells #[.slice a b.length cap] 38)).alloc ev0).alloc ev0)
      (fun w1 => w1.heap[w.heap.size + 2]? = ((((w.alloc (.cells #[.slice a b.length cap] 38)).alloc ev0).alloc ev0).alloc (.cells #[.bool false] 4)).heap[w.heap.size + 2]? ∧ But (w.heap.size + 2) ((((w.alloc (.cells #[.slice a b.length cap] 38)).alloc ev0).alloc ev0).alloc (.cells #[.bool false] 4)) w1)
      (enterUnpack _) (by
        refine (hwork (.cells #[.bool false] 4)).mono ?_
        rintro e w1 ⟨hc, hb1⟩
        rcases hc with ⟨ty, ver, t, c, F, rfl, h1, h2, h3, h4, h5⟩ | ⟨rfl, -, h2⟩
        · exact absurd h5 (hno ty ver t)
        · exact ⟨rfl, ⟨h2, hb1⟩, hb1.at (by simp) (by rw [hsz3]; omega)⟩)
    have HTRY := hide htry; have HB3 := hide hb3; have HX1 := hide hX1; have HS3 := hide hsz3; have HRD := hide hub.rd; have HNO := hide hno
    clear htry hwork hub hb3 hX1 hTW hT hr hsz3 hex hno
    go_enter Tryd.func19, Tryd.ntmps19
    go_wp2_with fail
    refine (unhide HTRY).mono ?_
    rintro e w4 ⟨rfl, w1, ⟨hrdb, hb1⟩, hb4⟩
    have hsz := unhide HS3
    have hs1 := hb1.size
    rw [World.size_alloc, hsz] at hs1
    have hs4 := hb4.size
    rw [hsz] at hb4
    have hrd4 := (((unhide HRD).alloc (.cells #[.bool false] 4)).of_block hrdb).of_block (hb4.at (by omega) (by omega))
    have hX4 := (((unhide HX1).alloc (.cells #[.bool false] 4)).of_block (hb1.at ((unhide HX1).alloc _).lt (by omega))).of_block (hb4.at (by omega) (by omega))
    have hbw4 : Below w.heap.size w w4 := by
      refine (unhide HB3).trans ⟨hb4.os.trans hb1.os, hb4.tape.trans hb1.tape, hb4.output.trans hb1.output, by rw [hsz]; omega, fun i hi => ?_⟩
      exact (hb4.at (by omega) (by omega)).trans ((hb1.at (by rw [World.size_alloc, hsz]; omega) (by omega)).trans (Below.heap_alloc _ _ _ (by rw [hsz]; omega)))
    have p0 := hX4.cell (i := 0) (by omega); have p1 := hX4.cell (i := 1) (by omega); have p2 := hX4.cell (i := 2) (by omega); have p3 := hX4.cell (i := 3) (by omega); have p4 := hX4.cell (i := 4) (by omega); have p5 := hX4.cell (i := 5) (by omega); have p6 := hX4.cell (i := 6) (by omega); have pf := hX4.frozen
    have q0 := hrd4.cell (i := 0) (by omega); have q1 := hrd4.cell (i := 1) (by omega); have q2 := hrd4.cell (i := 2) (by omega); have q3 := hrd4.cell (i := 3) (by omega); have q4 := hrd4.cell (i := 4) (by omega); have q5 := hrd4.cell (i := 5) (by omega); have q6 := hrd4.cell (i := 6) (by omega)
    simp only [row7] at p0 p1 p2 p3 p4 p5 p6 q0 q1 q2 q3 q4 q5 q6
    have HBW := hide hbw4
    clear hrd4 hX4 hbw4 hb1 hb4 HTRY HB3 HX1 hs1 hs4 hsz HRD hrdb
    go_wp2_with fail
    refine bodyPost_ret (v := .tuple #[.agg #[.string ⟨#[]⟩, .int .i64 0, .int .i64 0, .int .i64 0, .string ⟨#[]⟩, .slice none 0 0, .slice none 0 0], .bool false]) (by simp [results, Tryd.results19, go_sem, p0, p1, p2, p3, p4, p5, p6]) rfl ?_
    refine ⟨?_, Or.inr ⟨rfl, unhide HNO⟩⟩
    repeat refine Below.setCell ?_ (by simp <;> omega) _
    exact unhide HBW
end Go.Proofs.YtffdofllebbcgaaDoor

/- The walk of the specification's EventPack: whatever event comes in, its bytes in new memory, or none. No conditions. -/

namespace Go.Proofs.YtffdofllebbcgaaDoor
open Go Go.RowKit

theorem l4Tree_all : ∀ n, TrSaid n
  | 0 => fun t h => by omega
  | n + 1 => l4Tree_step n (l4Tree_all n)

/-- What EventPack gives. -/
def packB (ty : ByteArray) (ver : Int) (t : Tr) : List UInt8 := if evOkB ty ver t then eventB ty ver t else []

theorem evOk_parts {ty : ByteArray} {ver : Int} {t : Tr} (h : evOkB ty ver t = true) : 1 ≤ ty.size ∧ ty.size ≤ 8 ∧ 1 ≤ ver ∧ ver ≤ 12 ∧ t.sort = 5 ∧ 0 < pT t 1 := by
  unfold evOkB nameOkB at h
  simp at h
  omega

theorem ByRow.empty {w : World} {g base : Nat} {f : Nat → Value} (h : w.rowIs g 5 0 f) (hb : base ≤ g) : ByRow base w (.slice (some ⟨g, 0, none⟩) 0 0) [] := by
  obtain ⟨c, h1, h2, -⟩ := h
  exact ⟨rfl, Or.inr ⟨g, 0, c, rfl, hb, h1, Nat.le_refl _, by decide, h2, by simp [bc]⟩⟩

set_option maxRecDepth 100000 in
set_option maxHeartbeats 3200000 in
theorem specEventPack_any (ty : ByteArray) (ver : Int) (t : Tr) (P : Nat → Prop) (c : C5) (w : World) (hP : ∀ b, P b → b < w.heap.size) (hrep : Rep P w t c) (hty : ty.size ≤ 9223372036854775807) (hver : I64 ver) :
    Calls Tryd.prog 11 #[.agg #[.string ty, .int .i64 ver, c.c0, c.c1, c.c2, c.c3, c.c4]] w fun e w' => ByNew w w' e (packB ty ver t) := by
  obtain ⟨c0, c1, c2, c3, c4⟩ := c
  have hbx : ∀ (W : World) o, Below W.heap.size W (W.alloc o) := fun W o => (Below.refl _ _).alloc (Nat.le_refl _) o
  have hok := fun (W : World) (hW : Below w.heap.size w W) => specEventOk_any ty ver t P ⟨c0, c1, c2, c3, c4⟩ W (fun b hb => Nat.lt_of_lt_of_le (hP b hb) hW.size) (Rep.carry (fun b hb => hW.block b (hP b hb)) (fun _ h => h) _ _ hrep) hty hver
  have HOK := hide hok; have HBX := hide hbx
  clear hok hbx
  by_cases h : evOkB ty ver t = true
  · obtain ⟨-, h8, hv1, hv12, -, hpt⟩ := evOk_parts h
    have HE : Hid (packB ty ver t = (shortB ty ++ [UInt8.ofNat ver.toNat]) ++ treeB t) := by show packB ty ver t = _; rw [packB, if_pos h]; rfl
    have hlen : ((shortB ty ++ [UInt8.ofNat ver.toNat]) ++ treeB t).length ≤ 9000 := eventB_len h8 hpt
    have HLEN := hide hlen
    have HSH := hide (fun W => l4Short_any ty W (by omega))
    have HTR := hide (fun (W : World) (hW : Below w.heap.size w W) => l4Tree_all (tsz t + 1) t (by omega) P ⟨c0, c1, c2, c3, c4⟩ 1 W (fun b hb => Nat.lt_of_lt_of_le (hP b hb) hW.size) (Rep.carry (fun b hb => hW.block b (hP b hb)) (fun _ h => h) _ _ hrep) hpt)
    rw [h] at HOK
    have HK := hide (bcI ver (by omega) (by omega))
    have hwrap : IntKind.u8.wrap ver = ver := wraps_u8 ver (by omega) (by omega)
    have hsl := shortB_len ty
    have HSL := hide hsl
    clear h hpt hlen hsl hP hrep hver
    go_enter Tryd.func11, Tryd.ntmps11
    go_wp2_with fail
    refine (unhide HOK _ (unhide HBX _ _)).mono ?_
    rintro e w1 ⟨rfl, hb1⟩
    obtain ⟨q1, hs1, hb01⟩ := ebox1 hb1
    have hbo : Below (w.heap.size + 1) (w.alloc (.cells #[.string ty, .int .i64 ver, c0, c1, c2, c3, c4] 34)) w1 := by have := hb1; rw [World.size_alloc] at this; exact this
    have k0 := q1.cell (i := 0) (by omega); have k1 := q1.cell (i := 1) (by omega)
    simp only [row7] at k0 k1
    have k0a : ∀ ob, (w1.alloc ob).cell? ⟨w.heap.size, 0, none⟩ = some (.string ty) := fun ob => (q1.alloc ob).cell (i := 0) (by omega)
    have Q1 := hide q1; have HB1 := hide hb01; have HBO := hide hbo
    clear q1 hb1 hb01 hbo
    go_upto_region 3 with fail
    go_cut [3] from 8 (fun s3 wx => ∃ a3 n3 cap3, s3 = .slice a3 n3 cap3 ∧ Hid (TAt w (.cells #[.string ty, .int .i64 ver, c0, c1, c2, c3, c4] 34) wx (.slice a3 n3 cap3) n3 (shortB ty ++ [UInt8.ofNat ver.toNat])))
    case first =>
      go_region_law (first
        | (rw [if_pos (by first | rfl | simp [Region.wanted])]; go_simp; refine (unhide HSH w1.drew).mono ?_
           rintro e w2 ⟨a2, n2, cap2, rfl, hn2, hr2, hb2⟩
           have hb12 : Below w1.heap.size w1 w2 := (Below.refl _ w1).drew.trans hb2
           have k1' := ((unhide Q1).of_block (hb12.block w.heap.size (by omega))).cell (i := 1) (by omega)
           simp only [row7] at k1'
           have HR2 := hide ((ByRow.base (base' := w.heap.size + 1) hr2 hs1))
           have HN2 := hide hn2
           have HB12 := hide hb12
           clear hr2 hn2 hb12 hb2)
        | (rw [if_pos (by first | rfl | simp [Region.wanted])]; go_simp; refine (unhide HSH (w1.alloc (.cells #[.int .u8 ver] 5)).drew).mono ?_
           rintro e w2 ⟨a2, n2, cap2, rfl, hn2, hr2, hb2⟩
           have hz : (w1.alloc (.cells #[.int .u8 ver] 5)).drew.heap.size = w1.heap.size + 1 := World.size_alloc _ _
           have hb12 : Below w1.heap.size w1 w2 := ((Below.refl _ w1).alloc (Nat.le_refl _) (.cells #[.int .u8 ver] 5)).drew.trans (hb2.mono (by omega))
           have HCB : Hid (∀ j u, (bc [UInt8.ofNat ver.toNat])[j]? = some u → w2.cell? ((⟨w1.heap.size, 0, none⟩ : Addr).add j) = some u) := fun j u hj => by
             rw [unhide HK] at hj
             have h1 := cell_one w1 _ 5 j u hj
             rw [Addr.add_lit] at h1 ⊢
             rw [World.cell?_of_block (w := w1.alloc (.cells #[.int .u8 ver] 5)) (hb2.block w1.heap.size (by omega))]
             exact h1
           have HR2B := hide ((ByRow.base (base' := w.heap.size + 1) hr2 (by omega)))
           have HN2 := hide hn2
           have HB12 := hide hb12
           clear hr2 hn2 hb12 hb2 hz)
        | (refine step_append_bytes _ (by rfl) _ _ (by rfl) (w.heap.size + 1) (.slice a2 n2 cap2) (shortB ty) [UInt8.ofNat ver.toNat] (by rfl) (World.ownsRow.alloc (unhide HR2) _) ⟨w2.heap.size, 0, none⟩ 1 1 (by rfl) (by rfl) (by decide) (by rw [unhide HK]; exact cell_one _ _ _) (by rw [unhide HSL]; simp; omega) (by have := (unhide HB12).size; simp; omega) ?_
           intro a3 n3 cap3 w3 HN3 HR3 HG3
           have HT3 : Hid (TAt w (.cells #[.string ty, .int .i64 ver, c0, c1, c2, c3, c4] 34) w3 (.slice a3 n3 cap3) n3 (shortB ty ++ [UInt8.ofNat ver.toNat])) := ⟨HR3.out, (unhide HBO).trans (((unhide HB12).mono hs1).trans (((Below.refl _ w2).alloc (by have := (unhide HB12).size; omega) _).trans (ByRow.below (World.ownsRow.alloc (unhide HR2) _) HG3.out (by have := (unhide HB12).size; simp; omega)))), HN3.out⟩
           clear HR3 HN3 HG3)
        | (refine step_append_bytes _ (by rfl) _ _ (by rfl) (w.heap.size + 1) (.slice a2 n2 cap2) (shortB ty) [UInt8.ofNat ver.toNat] (by rfl) (unhide HR2B) ⟨w1.heap.size, 0, none⟩ 1 1 (by rfl) (by rfl) (by decide) (unhide HCB) (by rw [unhide HSL]; simp; omega) (by have := (unhide HB12).size; omega) ?_
           intro a3 n3 cap3 w3 HN3 HR3 HG3
           have HT3 : Hid (TAt w (.cells #[.string ty, .int .i64 ver, c0, c1, c2, c3, c4] 34) w3 (.slice a3 n3 cap3) n3 (shortB ty ++ [UInt8.ofNat ver.toNat])) := ⟨HR3.out, (unhide HBO).trans (((unhide HB12).mono hs1).trans (ByRow.below (unhide HR2B) HG3.out (by have := (unhide HB12).size; omega))), HN3.out⟩
           clear HR3 HN3 HG3))
      all_goals
        go_wp2_with fail
        go_meet
        exact ⟨a3, n3, cap3, rfl, HT3⟩
    case rest =>
      obtain ⟨a3, n3, cap3, rfl, HT3⟩ := hcut
      have qc := (row7_alloc w (.string ty) (.int .i64 ver) c0 c1 c2 c3 c4 34).of_block (HT3.out.below.block _ (by omega))
      clear k0 k1 k0a
      have k2 := qc.cell (i := 2) (by omega); have k3 := qc.cell (i := 3) (by omega); have k4 := qc.cell (i := 4) (by omega); have k5 := qc.cell (i := 5) (by omega); have k6 := qc.cell (i := 6) (by omega)
      simp only [row7] at k2 k3 k4 k5 k6
      clear qc
      go_wp2_with fail
      refine (unhide HTR _ HT3.out.old).mono ?_
      intro e w6 hnew6
      obtain ⟨g6, n6, cap6, rfl, hn6, hc6, hb6⟩ := hnew6.form (by rw [treeB_eq]; simp)
      have HC6 := hide hc6; have HB6 := hide hb6; have HN6 := hide hn6; have HBS := hide (Nat.le_trans HT3.out.size hb6.size)
      clear hnew6 hc6 hb6 hn6 k2 k3 k4 k5 k6
      go_wp2_with (at_builtin; refine append_bytes _ rfl _ _ rfl (w.heap.size + 1) (.slice a3 n3 cap3) (shortB ty ++ [UInt8.ofNat ver.toNat]) (treeB t) rfl (HT3.out.row.stay (unhide HB6)) ⟨g6, 0, none⟩ n6 cap6 rfl (unhide HN6) (unhide HC6) (by have := unhide HLEN; rw [List.length_append] at this; omega) (unhide HBS) ?_; intro a7 n7 cap7 w7 HN7 HR7 HG7)
      have hst7 := HT3.out.app (unhide HB6) HN7.out HR7.out HG7.out
      rw [← HE.out] at hst7
      have HST7 := hide hst7
      clear hst7 HN7 HR7 HG7 HB6 HN6 HC6 HBS
      go_ret
      exact (unhide HST7).end
  · have HE : Hid (packB ty ver t = []) := by show packB ty ver t = _; rw [packB, if_neg h]
    have hf : evOkB ty ver t = false := by simpa using h
    rw [hf] at HOK
    clear h hf hP hrep hver
    go_enter Tryd.func11, Tryd.ntmps11
    go_wp2_with fail
    refine (unhide HOK _ (unhide HBX _ _)).mono ?_
    rintro e w1 ⟨rfl, hb1⟩
    obtain ⟨-, -, hb01⟩ := ebox1 hb1
    have HB1 := hide hb01
    clear hb1 hb01
    go_wp2_with fail
    go_ret
    refine ⟨_, _, _, rfl, by rw [HE.out]; rfl, by rw [HE.out]; exact ByRow.empty (f := fun _ => .int .u8 0) (World.rowIs_alloc w1 #[] 5 _ (fun i hi => by have hi' : i < 0 := hi; omega)) (unhide HB1).size, (unhide HB1).alloc (unhide HB1).size _⟩
end Go.Proofs.YtffdofllebbcgaaDoor
