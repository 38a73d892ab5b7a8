/- The specification's l3Widen into a maybe: one kid, widened. Conditions: what it asks for is taken by its contract (a hypothesis). -/
import Derived.Test.YtcpfelaffclalaaGreatDoorPart33
import Derived.Deep.CutRange
namespace Go.Proofs.YtcpfelaffclalaaGreatDoor
open Go Go.RowKit

set_option maxRecDepth 100000 in
set_option maxHeartbeats 6400000 in
theorem spInto (n : Nat) (IH : WSaid n) (a b : Kd) (t : Tr) (ha6 : a.sort ≠ 6) (hb6 : b.sort = 6) (hn : ksz b ≤ n + 1) (hn40 : n + 1 ≤ 40) (hf : fitF (n + 1) a b = true) (hT : hT t a = true) (hO : okH t = true) (a1 a2 b1 b2 t1 t2 : Option Addr) (p1 p2 q1 q2 r1 r2 : Nat) (w : World)
    (ha : KW w a ⟨.int .i64 a.sort, .slice a1 a.names.length p1, .slice a2 a.kids.length p2⟩) (hb : KW w b ⟨.int .i64 b.sort, .slice b1 b.names.length q1, .slice b2 b.kids.length q2⟩) (ht : Rep (fun x => x < w.heap.size) w t ⟨.int .i64 t.sort, .int .i64 t.num, .string t.text, .slice t1 t.names.length r1, .slice t2 t.kids.length r2⟩) :
    Calls Tryz.prog 34 #[.agg #[.int .i64 a.sort, .slice a1 a.names.length p1, .slice a2 a.kids.length p2], .agg #[.int .i64 b.sort, .slice b1 b.names.length q1, .slice b2 b.kids.length q2], .agg #[.int .i64 t.sort, .int .i64 t.num, .string t.text, .slice t1 t.names.length r1, .slice t2 t.kids.length r2]] w (TE (widF (n + 1) a b t) w) := by
  have hkb : b.kids.length = 1 := by rcases hb.sh with h | h | h <;> omega
  have hkb0 : 0 < b.kids.length := by omega
  rw [widF_into (okD_ne ha.ok) hb6 ha6 hkb0]
  have hf' : fitF n a b.kids[0] = true := by rwa [fit_xm hb6 ha6 hkb0] at hf
  have hzb := ksz_kid (List.getElem_mem hkb0)
  obtain ⟨yb, yo, yc, y1, y2, s1, s2, ey, hyl, y0, y3, y4, hy⟩ := hb.kid (i := 0) hkb0
  simp only [Value.slice.injEq, true_and] at ey
  obtain ⟨rfl, rfl⟩ := ey
  have hcall : ∀ W', Below w.heap.size w W' → Calls Tryz.prog 34 #[.agg #[.int .i64 a.sort, .slice a1 a.names.length p1, .slice a2 a.kids.length p2], .agg #[.int .i64 b.kids[0].sort, .slice y1 b.kids[0].names.length s1, .slice y2 b.kids[0].kids.length s2], .agg #[.int .i64 t.sort, .int .i64 t.num, .string t.text, .slice t1 t.names.length r1, .slice t2 t.kids.length r2]] W' (TE (widF n a b.kids[0] t) W') := fun W' hW =>
    IH _ _ _ (by omega) (by omega) hf' hT hO ⟨_, _, _⟩ ⟨_, _, _⟩ ⟨_, _, _, _, _⟩ W' (ha.on hW) (hy.on hW) (Rep.carry (fun b hb => hW.block b hb) (fun b hb => Nat.lt_of_lt_of_le hb hW.size) _ _ ht)
  have hne : (a.sort != 6) = true := by simpa using ha6
  generalize widF n a b.kids[0] t = gx at *
  generalize b.kids[0] = kb at *
  rw [hb6]
  obtain ⟨hbx, hrO, hs0⟩ := l3w_start w (.int .i64 a.sort) (.slice a1 a.names.length p1) (.slice a2 a.kids.length p2) (.int .i64 6) (.slice b1 b.names.length q1) (.slice (some ⟨yb, yo, none⟩) b.kids.length q2) (.int .i64 t.sort) (.int .i64 t.num) (.string t.text) (.slice t1 t.names.length r1) (.slice t2 t.kids.length r2)
  have HC := hide hcall; have HBX := hide hbx; have HS0 := hide hs0; have HKB := hide hkb0
  have HY := hide (show yb < w.heap.size ∧ w.cell? ⟨yb, yo, none⟩ = some (.int .i64 kb.sort) ∧ w.cell? ⟨yb, yo + 1, none⟩ = some (.slice y1 kb.names.length s1) ∧ w.cell? ⟨yb, yo + 2, none⟩ = some (.slice y2 kb.kids.length s2) from ⟨hyl, y0, y3, y4⟩)
  clear hcall hbx hrO hs0 hyl y0 y3 y4 hy ht ha hb hT hO hf hf' hkb hkb0 ha6 hb6 hzb hn hn40 IH
  go_enter Tryz.func34, Tryz.ntmps34
  go_upto_region 5 with fail
  generalize ((((w.alloc (.cells #[.int .i64 a.sort, .slice a1 a.names.length p1, .slice a2 a.kids.length p2] 30)).alloc (.cells #[.int .i64 6, .slice b1 b.names.length q1, .slice (some ⟨yb, yo, none⟩) b.kids.length q2] 30)).alloc (.cells #[.int .i64 t.sort, .int .i64 t.num, .string t.text, .slice t1 t.names.length r1, .slice t2 t.kids.length r2] 39)).alloc (.cells #[.int .i64 0, .int .i64 0, .string ⟨#[]⟩, .slice none 0 0, .slice none 0 0] 39)).alloc (.cells #[.int .i64 6, .int .i64 t.num, .string t.text, .slice none 0 0, .slice none 0 0] 39) = W0 at HBX HS0 ⊢
  have hdr := (unhide HBX).below.drew
  have hs0 : W0.heap.size = w.heap.size + 5 := unhide HS0
  obtain ⟨hyl, y0, y3, y4⟩ := unhide HY
  have bA := (unhide HBX).bA; have bB := (unhide HBX).bB; have bT := (unhide HBX).bT; have bR := (unhide HBX).bR
  have hbelow := (unhide HBX).below
  refine wp_swap (c' := Code.region 5 ws5Ops true) (by kernel_rfl) ?_
  refine wp_region_noPanic ?_
  refine ws5 (w.heap.size + 3) w.heap.size (w.heap.size + 1) (w.heap.size + 2) (w.heap.size + 3) yb yo b.kids.length q2 ⟨.int .i64 a.sort, .slice a1 a.names.length p1, .slice a2 a.kids.length p2⟩ ⟨.int .i64 kb.sort, .slice y1 kb.names.length s1, .slice y2 kb.kids.length s2⟩ ⟨.int .i64 t.sort, .int .i64 t.num, .string t.text, .slice t1 t.names.length r1, .slice t2 t.kids.length r2⟩ _ gx W0 _ (fun _ _ _ _ _ h => h) ⟨by omega, bB.cell (i := 2) (by omega)⟩ (unhide HKB)
    ⟨by omega, bA.cell (i := 0) (by omega), bA.cell (i := 1) (by omega), bA.cell (i := 2) (by omega)⟩ ⟨by omega, (hdr.cell hyl).trans y0, (hdr.cell hyl).trans y3, (hdr.cell hyl).trans y4⟩
    ⟨by omega, bT.cell (i := 0) (by omega), bT.cell (i := 1) (by omega), bT.cell (i := 2) (by omega), bT.cell (i := 3) (by omega), bT.cell (i := 4) (by omega)⟩ (Nat.le_refl _) (bR.of_block rfl) (unhide HC _ hdr) (by kernel_rfl) ?_
  intro u g F W9 ho hnd hF hrow hbb
  refine NoPanic.normal ?_
  simp only [frL_eq, frG, List.lookup, Nat.reduceBEq, Nat.reduceAdd, Option.getD_some, Option.getD_none]
  have r0 := hrow.cell (i := 0) (by omega); have r1 := hrow.cell (i := 1) (by omega); have r2 := hrow.cell (i := 2) (by omega); have r3 := hrow.cell (i := 3) (by omega); have r4 := hrow.cell (i := 4) (by omega)
  simp only [row5] at r0 r1 r2 r3 r4
  have hsd : W0.drew.heap.size = W0.heap.size := rfl
  have HEND : Hid (TE (.mk 6 0 ByteArray.empty [] [gx]) w (.returned (.agg #[.int .i64 6, .int .i64 0, .string ByteArray.empty, .slice none 0 0, .slice (some ⟨g, 0, none⟩) 1 1])) W9) :=
    ⟨⟨_, _, _, _, _⟩, F, rfl, ho, hnd, fun b hb => ⟨by have := (hF b hb).1; omega, (hF b hb).2⟩, hdr.trans (below_but hbb ⟨by omega, by omega⟩)⟩
  clear ho hnd hF hrow hbb hdr bA bB bT bR hyl y0 y3 y4 hbelow HC HY
  go_wp2_with fail
  exact bodyPost_ret (v := .agg #[.int .i64 6, .int .i64 0, .string ByteArray.empty, .slice none 0 0, .slice (some ⟨g, 0, none⟩) 1 1]) (by simp [results, Tryz.results34, go_sem, r0, r1, r2, r3, r4]) rfl (unhide HEND)
end Go.Proofs.YtcpfelaffclalaaGreatDoor

/- The specification's l3Widen at a leaf. No conditions. -/

namespace Go.Proofs.YtcpfelaffclalaaGreatDoor
open Go Go.RowKit

set_option maxRecDepth 100000 in
set_option maxHeartbeats 6400000 in
theorem spLeaf1 (n : Nat) (a b : Kd) (t : Tr) (hs : b.sort = 1) (hab : a.sort = b.sort) (hT : hT t a = true) (a1 a2 b1 b2 t1 t2 : Option Addr) (p1 p2 q1 q2 r1 r2 : Nat) (w : World)
    (ht : Rep (fun x => x < w.heap.size) w t ⟨.int .i64 t.sort, .int .i64 t.num, .string t.text, .slice t1 t.names.length r1, .slice t2 t.kids.length r2⟩) :
    Calls Tryz.prog 34 #[.agg #[.int .i64 a.sort, .slice a1 a.names.length p1, .slice a2 a.kids.length p2], .agg #[.int .i64 b.sort, .slice b1 b.names.length q1, .slice b2 b.kids.length q2], .agg #[.int .i64 t.sort, .int .i64 t.num, .string t.text, .slice t1 t.names.length r1, .slice t2 t.kids.length r2]] w (TE (widF (n + 1) a b t) w) := by
  have hts : t.sort = 1 := by have := (hT_open hT).1; omega
  rw [widF_leaf hab (by omega), hts]
  have hI1 : I64 t.num := ht.open.2.2.2.2.1
  have hI2 : t.text.size ≤ 9223372036854775807 := ht.open.2.2.2.2.2.1
  rw [hs]
  obtain ⟨hbx, hrO, hs0⟩ := l3w_start w (.int .i64 a.sort) (.slice a1 a.names.length p1) (.slice a2 a.kids.length p2) (.int .i64 1) (.slice b1 b.names.length q1) (.slice b2 b.kids.length q2) (.int .i64 1) (.int .i64 t.num) (.string t.text) (.slice t1 t.names.length r1) (.slice t2 t.kids.length r2)
  have HEND : Hid (∀ W9, Below w.heap.size w W9 → TE (.mk 1 t.num t.text [] []) w (.returned (.agg #[.int .i64 1, .int .i64 t.num, .string t.text, .slice none 0 0, .slice none 0 0])) W9) := fun W9 hb9 =>
    ⟨⟨_, _, _, _, _⟩, [], rfl, own_leaf (show I64 1 from ⟨by decide, by decide⟩) hI1 hI2, List.nodup_nil, fun b hb => by simp at hb, hb9⟩
  have HBX := hide hbx; have HRO := hide hrO; have HS0 := hide hs0
  clear hbx hrO hs0 ht hT hs hab hts hI1 hI2
  go_enter Tryz.func34, Tryz.ntmps34
  go_upto_region 27 with fail
  generalize ((((w.alloc (.cells #[.int .i64 a.sort, .slice a1 a.names.length p1, .slice a2 a.kids.length p2] 30)).alloc (.cells #[.int .i64 1, .slice b1 b.names.length q1, .slice b2 b.kids.length q2] 30)).alloc (.cells #[.int .i64 1, .int .i64 t.num, .string t.text, .slice t1 t.names.length r1, .slice t2 t.kids.length r2] 39)).alloc (.cells #[.int .i64 0, .int .i64 0, .string ⟨#[]⟩, .slice none 0 0, .slice none 0 0] 39)).alloc (.cells #[.int .i64 1, .int .i64 t.num, .string t.text, .slice none 0 0, .slice none 0 0] 39) = W0 at HBX HRO HS0 ⊢
  have hs0 : W0.heap.size = w.heap.size + 5 := unhide HS0
  have o0 := (unhide HRO).cell (i := 0) (by omega); have o1 := (unhide HRO).cell (i := 1) (by omega); have o2 := (unhide HRO).cell (i := 2) (by omega); have o3 := (unhide HRO).cell (i := 3) (by omega); have o4 := (unhide HRO).cell (i := 4) (by omega)
  have m0 := (unhide HBX).bR.cell (i := 0) (by omega); have m1 := (unhide HBX).bR.cell (i := 1) (by omega); have m2 := (unhide HBX).bR.cell (i := 2) (by omega); have m3 := (unhide HBX).bR.cell (i := 3) (by omega); have m4 := (unhide HBX).bR.cell (i := 4) (by omega); have mf := (unhide HBX).bR.frozen
  simp only [row5] at o0 o1 o2 o3 o4 m0 m1 m2 m3 m4
  go_wp2_with fail
  exact bodyPost_ret (v := .agg #[.int .i64 1, .int .i64 t.num, .string t.text, .slice none 0 0, .slice none 0 0]) (by simp [results, Tryz.results34, go_sem, m0, m1, m2, m3, m4]) rfl (unhide HEND _ (below_set5s (unhide HBX).below _ _ _ _ _ _ (by omega)))
set_option maxRecDepth 100000 in
set_option maxHeartbeats 6400000 in
theorem spLeaf2 (n : Nat) (a b : Kd) (t : Tr) (hs : b.sort = 2) (hab : a.sort = b.sort) (hT : hT t a = true) (a1 a2 b1 b2 t1 t2 : Option Addr) (p1 p2 q1 q2 r1 r2 : Nat) (w : World)
    (ht : Rep (fun x => x < w.heap.size) w t ⟨.int .i64 t.sort, .int .i64 t.num, .string t.text, .slice t1 t.names.length r1, .slice t2 t.kids.length r2⟩) :
    Calls Tryz.prog 34 #[.agg #[.int .i64 a.sort, .slice a1 a.names.length p1, .slice a2 a.kids.length p2], .agg #[.int .i64 b.sort, .slice b1 b.names.length q1, .slice b2 b.kids.length q2], .agg #[.int .i64 t.sort, .int .i64 t.num, .string t.text, .slice t1 t.names.length r1, .slice t2 t.kids.length r2]] w (TE (widF (n + 1) a b t) w) := by
  have hts : t.sort = 2 := by have := (hT_open hT).1; omega
  rw [widF_leaf hab (by omega), hts]
  have hI1 : I64 t.num := ht.open.2.2.2.2.1
  have hI2 : t.text.size ≤ 9223372036854775807 := ht.open.2.2.2.2.2.1
  rw [hs]
  obtain ⟨hbx, hrO, hs0⟩ := l3w_start w (.int .i64 a.sort) (.slice a1 a.names.length p1) (.slice a2 a.kids.length p2) (.int .i64 2) (.slice b1 b.names.length q1) (.slice b2 b.kids.length q2) (.int .i64 2) (.int .i64 t.num) (.string t.text) (.slice t1 t.names.length r1) (.slice t2 t.kids.length r2)
  have HEND : Hid (∀ W9, Below w.heap.size w W9 → TE (.mk 2 t.num t.text [] []) w (.returned (.agg #[.int .i64 2, .int .i64 t.num, .string t.text, .slice none 0 0, .slice none 0 0])) W9) := fun W9 hb9 =>
    ⟨⟨_, _, _, _, _⟩, [], rfl, own_leaf (show I64 2 from ⟨by decide, by decide⟩) hI1 hI2, List.nodup_nil, fun b hb => by simp at hb, hb9⟩
  have HBX := hide hbx; have HRO := hide hrO; have HS0 := hide hs0
  clear hbx hrO hs0 ht hT hs hab hts hI1 hI2
  go_enter Tryz.func34, Tryz.ntmps34
  go_upto_region 27 with fail
  generalize ((((w.alloc (.cells #[.int .i64 a.sort, .slice a1 a.names.length p1, .slice a2 a.kids.length p2] 30)).alloc (.cells #[.int .i64 2, .slice b1 b.names.length q1, .slice b2 b.kids.length q2] 30)).alloc (.cells #[.int .i64 2, .int .i64 t.num, .string t.text, .slice t1 t.names.length r1, .slice t2 t.kids.length r2] 39)).alloc (.cells #[.int .i64 0, .int .i64 0, .string ⟨#[]⟩, .slice none 0 0, .slice none 0 0] 39)).alloc (.cells #[.int .i64 2, .int .i64 t.num, .string t.text, .slice none 0 0, .slice none 0 0] 39) = W0 at HBX HRO HS0 ⊢
  have hs0 : W0.heap.size = w.heap.size + 5 := unhide HS0
  have o0 := (unhide HRO).cell (i := 0) (by omega); have o1 := (unhide HRO).cell (i := 1) (by omega); have o2 := (unhide HRO).cell (i := 2) (by omega); have o3 := (unhide HRO).cell (i := 3) (by omega); have o4 := (unhide HRO).cell (i := 4) (by omega)
  have m0 := (unhide HBX).bR.cell (i := 0) (by omega); have m1 := (unhide HBX).bR.cell (i := 1) (by omega); have m2 := (unhide HBX).bR.cell (i := 2) (by omega); have m3 := (unhide HBX).bR.cell (i := 3) (by omega); have m4 := (unhide HBX).bR.cell (i := 4) (by omega); have mf := (unhide HBX).bR.frozen
  simp only [row5] at o0 o1 o2 o3 o4 m0 m1 m2 m3 m4
  go_wp2_with fail
  exact bodyPost_ret (v := .agg #[.int .i64 2, .int .i64 t.num, .string t.text, .slice none 0 0, .slice none 0 0]) (by simp [results, Tryz.results34, go_sem, m0, m1, m2, m3, m4]) rfl (unhide HEND _ (below_set5s (unhide HBX).below _ _ _ _ _ _ (by omega)))
set_option maxRecDepth 100000 in
set_option maxHeartbeats 6400000 in
theorem spLeaf3 (n : Nat) (a b : Kd) (t : Tr) (hs : b.sort = 3) (hab : a.sort = b.sort) (hT : hT t a = true) (a1 a2 b1 b2 t1 t2 : Option Addr) (p1 p2 q1 q2 r1 r2 : Nat) (w : World)
    (ht : Rep (fun x => x < w.heap.size) w t ⟨.int .i64 t.sort, .int .i64 t.num, .string t.text, .slice t1 t.names.length r1, .slice t2 t.kids.length r2⟩) :
    Calls Tryz.prog 34 #[.agg #[.int .i64 a.sort, .slice a1 a.names.length p1, .slice a2 a.kids.length p2], .agg #[.int .i64 b.sort, .slice b1 b.names.length q1, .slice b2 b.kids.length q2], .agg #[.int .i64 t.sort, .int .i64 t.num, .string t.text, .slice t1 t.names.length r1, .slice t2 t.kids.length r2]] w (TE (widF (n + 1) a b t) w) := by
  have hts : t.sort = 3 := by have := (hT_open hT).1; omega
  rw [widF_leaf hab (by omega), hts]
  have hI1 : I64 t.num := ht.open.2.2.2.2.1
  have hI2 : t.text.size ≤ 9223372036854775807 := ht.open.2.2.2.2.2.1
  rw [hs]
  obtain ⟨hbx, hrO, hs0⟩ := l3w_start w (.int .i64 a.sort) (.slice a1 a.names.length p1) (.slice a2 a.kids.length p2) (.int .i64 3) (.slice b1 b.names.length q1) (.slice b2 b.kids.length q2) (.int .i64 3) (.int .i64 t.num) (.string t.text) (.slice t1 t.names.length r1) (.slice t2 t.kids.length r2)
  have HEND : Hid (∀ W9, Below w.heap.size w W9 → TE (.mk 3 t.num t.text [] []) w (.returned (.agg #[.int .i64 3, .int .i64 t.num, .string t.text, .slice none 0 0, .slice none 0 0])) W9) := fun W9 hb9 =>
    ⟨⟨_, _, _, _, _⟩, [], rfl, own_leaf (show I64 3 from ⟨by decide, by decide⟩) hI1 hI2, List.nodup_nil, fun b hb => by simp at hb, hb9⟩
  have HBX := hide hbx; have HRO := hide hrO; have HS0 := hide hs0
  clear hbx hrO hs0 ht hT hs hab hts hI1 hI2
  go_enter Tryz.func34, Tryz.ntmps34
  go_upto_region 27 with fail
  generalize ((((w.alloc (.cells #[.int .i64 a.sort, .slice a1 a.names.length p1, .slice a2 a.kids.length p2] 30)).alloc (.cells #[.int .i64 3, .slice b1 b.names.length q1, .slice b2 b.kids.length q2] 30)).alloc (.cells #[.int .i64 3, .int .i64 t.num, .string t.text, .slice t1 t.names.length r1, .slice t2 t.kids.length r2] 39)).alloc (.cells #[.int .i64 0, .int .i64 0, .string ⟨#[]⟩, .slice none 0 0, .slice none 0 0] 39)).alloc (.cells #[.int .i64 3, .int .i64 t.num, .string t.text, .slice none 0 0, .slice none 0 0] 39) = W0 at HBX HRO HS0 ⊢
  have hs0 : W0.heap.size = w.heap.size + 5 := unhide HS0
  have o0 := (unhide HRO).cell (i := 0) (by omega); have o1 := (unhide HRO).cell (i := 1) (by omega); have o2 := (unhide HRO).cell (i := 2) (by omega); have o3 := (unhide HRO).cell (i := 3) (by omega); have o4 := (unhide HRO).cell (i := 4) (by omega)
  have m0 := (unhide HBX).bR.cell (i := 0) (by omega); have m1 := (unhide HBX).bR.cell (i := 1) (by omega); have m2 := (unhide HBX).bR.cell (i := 2) (by omega); have m3 := (unhide HBX).bR.cell (i := 3) (by omega); have m4 := (unhide HBX).bR.cell (i := 4) (by omega); have mf := (unhide HBX).bR.frozen
  simp only [row5] at o0 o1 o2 o3 o4 m0 m1 m2 m3 m4
  go_wp2_with fail
  exact bodyPost_ret (v := .agg #[.int .i64 3, .int .i64 t.num, .string t.text, .slice none 0 0, .slice none 0 0]) (by simp [results, Tryz.results34, go_sem, m0, m1, m2, m3, m4]) rfl (unhide HEND _ (below_set5s (unhide HBX).below _ _ _ _ _ _ (by omega)))
end Go.Proofs.YtcpfelaffclalaaGreatDoor
