/- The walk of the program's fieldNamed: the kid of a name in a form's tree, or nothing. Conditions: the tree has at most 1000 names, and they rise. -/
import Derived.Test.YtcpfelaffclalaaGreatDoorPart18
import Derived.Test.YtcpfelaffclalaaGreatDoorPart03
namespace Go.Proofs.YtcpfelaffclalaaGreatDoor
open Go Go.RowKit

theorem rep_tr0 (P : Nat → Prop) (w : World) : Rep P w tr0 ⟨.int .i64 0, .int .i64 0, .string ⟨#[]⟩, .slice none 0 0, .slice none 0 0⟩ := by
  unfold tr0
  rw [Rep]
  exact ⟨rfl, rfl, rfl, ⟨by decide, by decide⟩, ⟨by decide, by decide⟩, by decide, ⟨none, 0, rfl, by simp, fun i hi => by simp at hi⟩, none, 0, rfl, by simp, fun h => absurd rfl h⟩
theorem fldZ_no {t : Tr} {x : ByteArray} {i : Nat} (hr : t.names.Pairwise nlt) (h1 : ∀ j, j < i → Op.bytesLess (t.names.getD j x).toList x.toList = true) (h2 : ∀ j, i ≤ j → Op.bytesLess (t.names.getD j x).toList x.toList = false) (hn : ¬ (i < t.names.length ∧ t.names.getD i x = x)) : fldZ t x = tr0 :=
  fldZ_not (kidZ_not (k := .mk 5 t.names []) hr h1 h2 hn).2
set_option maxRecDepth 100000 in
set_option maxHeartbeats 1600000 in
theorem fieldNamed_any (t : Tr) (c : C5) (w : World) (hr : Rep (fun x => x < w.heap.size) w t c) (hrise : t.names.Pairwise nlt) (hlk : t.kids.length = t.names.length) (hl : t.names.length ≤ 1000) (nm : ByteArray) :
    Calls Tryz.prog 91 #[.agg #[c.c0, c.c1, c.c2, c.c3, c.c4], .string nm] w fun e w' => Below w.heap.size w w' ∧ ∃ (y : C5), e = .returned (.agg #[y.c0, y.c1, y.c2, y.c3, y.c4]) ∧ Rep (fun x => x < w'.heap.size) w' (fldZ t nm) y := by
  obtain ⟨a5, cap5, a6, cap6, rfl⟩ := hr.form
  obtain ⟨-, -, -, -, -, -, ⟨a5', cap5', e3, -, hnc⟩, a6', cap6', e4, -, hks⟩ := hr.open
  simp only [Value.slice.injEq, true_and] at e3 e4
  obtain ⟨rfl, rfl⟩ := e3
  obtain ⟨rfl, rfl⟩ := e4
  obtain ⟨hr1, hr2, hbw, hsz⟩ := wd_boxes w t.sort t.num t.text a5 a6 t.names.length cap5 t.kids.length cap6
  have HNC := hide hnc; have HKS := hide hks; have HR := hide hrise; have HL := hide hl; have HLK := hide hlk
  clear hnc hks hrise hl hlk hr hsz
  have k3 := hr1.cell (i := 3) (by omega)
  simp only [row5] at k3
  go_enter Tryz.func91, Tryz.ntmps91
  go_wp2_with fail
  generalize ((w.alloc (.cells #[.int .i64 t.sort, .int .i64 t.num, .string t.text, .slice a5 t.names.length cap5, .slice a6 t.kids.length cap6] 39)).alloc (.cells #[.int .i64 0, .int .i64 0, .string ⟨#[]⟩, .slice none 0 0, .slice none 0 0] 39)) = W0 at hr1 hr2 hbw k3 ⊢
  refine (bs_any t.names (unhide HR) (unhide HL) a5 cap5 nm W0 (fun i hi => ?_)).mono ?_
  · obtain ⟨b, o, e, hpb, hc, -⟩ := unhide HNC i hi
    exact ⟨b, o, e, by rw [hbw.cell hpb]; exact hc⟩
  rintro e W1 ⟨hb1, p, hp, rfl, h1, h2⟩
  have hr11 := hr1.of_block (hb1.block _ hr1.lt)
  have hr21 := hr2.of_block (hb1.block _ hr2.lt)
  have hb01 : Below w.heap.size w W1 := hbw.trans (hb1.mono hbw.size)
  clear hr1 hr2 hbw hb1 k3
  have m0 := hr21.cell (i := 0) (by omega); have m1 := hr21.cell (i := 1) (by omega); have m2 := hr21.cell (i := 2) (by omega); have m3 := hr21.cell (i := 3) (by omega); have m4 := hr21.cell (i := 4) (by omega); have mf := hr21.frozen
  have k4 := hr11.cell (i := 4) (by omega)
  simp only [row5] at m0 m1 m2 m3 m4 k4
  have HB := hide hb01
  clear hr11 hr21 hb01
  by_cases hf : p < t.names.length ∧ t.names.getD p nm = nm
  · have hpk : p < t.kids.length := by rw [unhide HLK]; exact hf.1
    obtain ⟨b, o, ck, rfl, hbl, hcell, hkid⟩ := unhide HKS p hpk
    obtain ⟨x1, r1, x2, r2, rfl⟩ := hkid.form
    obtain ⟨y0, y1, y2, y3, y4⟩ := hcell.carry ((unhide HB).block b hbl)
    simp only at y0 y1 y2 y3 y4
    have hz : fldZ t nm = t.kids[p] := fldZ_at (unhide HR) (unhide HLK) hf.1 (by have := hf.2; rwa [List.getD_eq_getElem?_getD, List.getElem?_eq_getElem hf.1, Option.getD_some] at this)
    rw [decide_eq_true hf]
    have HZ := hide hz
    have HKID := hide hkid
    have hne1 : b ≠ w.heap.size + 1 := by have : b < w.heap.size := hbl; omega
    have hne2 : w.heap.size + 1 ≠ b := by have : b < w.heap.size := hbl; omega
    clear hkid hf h1 h2 hp hz hbl hcell
    generalize t.kids[p] = x at *
    go_wp2_with fail
    refine bodyPost_ret (v := .agg #[.int .i64 x.sort, .int .i64 x.num, .string x.text, .slice x1 x.names.length r1, .slice x2 x.kids.length r2]) (by simp [results, Tryz.results91, go_sem, m0, m1, m2, m3, m4]) rfl ?_
    have hbe := below_set5s (unhide HB) (w.heap.size + 1) (.int .i64 x.sort) (.int .i64 x.num) (.string x.text) (.slice x1 x.names.length r1) (.slice x2 x.kids.length r2) (Nat.le_succ _)
    refine ⟨hbe, ⟨.int .i64 x.sort, .int .i64 x.num, .string x.text, .slice x1 x.names.length r1, .slice x2 x.kids.length r2⟩, rfl, ?_⟩
    rw [unhide HZ]
    exact Rep.carry (fun z hz => hbe.block z hz) (fun z hz => Nat.lt_of_lt_of_le hz hbe.size) _ _ (unhide HKID)
  · rw [decide_eq_false hf]
    have HZ := hide (fldZ_no (unhide HR) h1 h2 hf)
    clear hf h1 h2 hp
    go_wp2_with fail
    refine bodyPost_ret (v := .agg #[.int .i64 0, .int .i64 0, .string ⟨#[]⟩, .slice none 0 0, .slice none 0 0]) (by simp [results, Tryz.results91, go_sem, m0, m1, m2, m3, m4]) rfl ?_
    refine ⟨below_set5s (unhide HB) (w.heap.size + 1) _ _ _ _ _ (Nat.le_succ _), ⟨.int .i64 0, .int .i64 0, .string ⟨#[]⟩, .slice none 0 0, .slice none 0 0⟩, rfl, ?_⟩
    rw [unhide HZ]
    exact rep_tr0 _ _
end Go.Proofs.YtcpfelaffclalaaGreatDoor

/- The closure of ofForm: each field, widened. Conditions: the widenings that it asks for are taken by their contracts (a hypothesis). -/

namespace Go.Proofs.YtcpfelaffclalaaGreatDoor
open Go Go.RowKit

/-- The kids of a form so far; the cells of the tree that they are put into lie in block B. -/
structure KInv (B : Nat) (wr : World) (vN vK : Value) (ks : List Tr) (xs : List Value) (G : List Nat) : Prop where
  cells : wr.rowIs B 39 5 (row5 (.int .i64 5) (.int .i64 0) (.string ⟨#[]⟩) vN vK)
  got : GotO (B + 1) wr vK ks xs G
  size : B + 1 ≤ wr.heap.size
theorem KInv.kept {B : Nat} {w w' : World} {vN vK : Value} {ks : List Tr} {xs : List Value} {G : List Nat} (h : KInv B w vN vK ks xs G) (hg : w.grownBy w' none) : KInv B w' vN vK ks xs G :=
  ⟨h.cells.of_block (hg.block B h.cells.lt (by simp)), h.got.kept hg, Nat.le_trans h.size hg.size⟩
theorem KInv.kid {B m : Nat} {w w' : World} {vN vK v' : Value} {ks : List Tr} {xs : List Value} {G F : List Nat} {t : Tr} {c : C5} (h : KInv B w vN vK ks xs G)
    (ht : Own w t c F) (hnd : F.Nodup) (hF : ∀ b, b ∈ F → m ≤ b ∧ b < w.heap.size) (hGm : ∀ b, b ∈ G → b < m) (hvm : ∀ b, vK.ownBlock = some b → b < m) (hbm : B + 1 ≤ m)
    (hown : w'.ownsRow (B + 1) 39 5 v' (ks.length + 1) (xs ++ c5l c)) (hg : w.grownBy w' vK.ownBlock) (hv : v'.ownBlock = vK.ownBlock ∨ ∃ g, v'.ownBlock = some g ∧ w.heap.size ≤ g) :
    KInv B (w'.setCell ⟨B, 4, none⟩ v') vN v' (ks ++ [t]) (xs ++ c5l c) (G ++ F) := by
  have hBk : vK.ownBlock ≠ some B := fun e => by have := (h.got.row.lt B e).1; omega
  have hset : w'.grownBy (w'.setCell ⟨B, 4, none⟩ v') (some B) := ⟨rfl, rfl, rfl, by simp [World.setCell], fun k _ hk => Below.heap_setCell _ _ _ _ (fun e => hk (by rw [e]))⟩
  have hBv : v'.ownBlock ≠ some B := fun e => by have := (hown.lt B e).1; omega
  have hpush := GotO.push h.got ht hnd hF hGm hvm hbm hown hg hv
  exact ⟨row5_set4 (h.cells.of_block (hg.block B h.cells.lt (fun e => hBk e.symm))) v', hpush.other hset (fun b e => by cases e; exact ⟨hBv, fun hm => by have := (hpush.lt _ hm).1; omega⟩), by have := hg.size; have := h.size; simp [World.setCell]; omega⟩
theorem KInv.atK {B : Nat} {w w' : World} {vN vK : Value} {ks : List Tr} {xs : List Value} {G : List Nat} (h : KInv B w vN vK ks xs G) {o : Obj} (hg : (w.alloc o).grownBy w' vK.ownBlock) : w'.rowIs B 39 5 (row5 (.int .i64 5) (.int .i64 0) (.string ⟨#[]⟩) vN vK) :=
  (h.cells.alloc o).of_block (hg.block B (h.cells.alloc o).lt (fun e => by have := (h.got.row.lt B e.symm).1; omega))
set_option maxRecDepth 100000 in
set_option maxHeartbeats 6400000 in
theorem form1_any (t : Tr) (U : List ByteArray) (g : ByteArray → Tr) (c : C5) (w : World) (g1 g2 : Nat) (na fa : Option Addr) (nc fc : Nat) (hr : Rep (fun x => x < w.heap.size) w t c) (hrise : t.names.Pairwise nlt) (hlk : t.kids.length = t.names.length) (hl : t.names.length ≤ 1000) (hUl : U.length ≤ 2000) (hUz : ∀ nm, nm ∈ U → nm.size ≤ 1000)
    (h1 : w.cell? ⟨g1, 0, none⟩ = some (.slice na U.length nc)) (h2 : w.cell? ⟨g2, 0, none⟩ = some (.slice fa U.length fc)) (hst : StrsAt (fun x => x < w.heap.size) w (.slice na U.length nc) U)
    (hfld : ∀ i, (hi : i < U.length) → ∃ (fb f : Nat) (caps : Array Value), fa = some ⟨fb, 0, none⟩ ∧ w.cell? ⟨fb, i, none⟩ = some (.func (.func f) #[] caps) ∧ (∀ args w, (callFunc f args).run Tryz.prog w = .ok (.enter f args) w) ∧ ∀ W' (d : C5), Below w.heap.size w W' → Rep (fun x => x < W'.heap.size) W' (fldZ t U[i]) d → Calls Tryz.prog f (#[.agg #[d.c0, d.c1, d.c2, d.c3, d.c4]] ++ caps) W' (TE (g U[i]) W')) :
    Calls Tryz.prog 89 #[.agg #[c.c0, c.c1, c.c2, c.c3, c.c4], .pointer (some ⟨g1, 0, none⟩), .pointer (some ⟨g2, 0, none⟩)] w (TE (.mk 5 0 ByteArray.empty U (U.map g)) w) := by
  have HFN : Hid (∀ W' nm, Below w.heap.size w W' → Calls Tryz.prog 91 #[.agg #[c.c0, c.c1, c.c2, c.c3, c.c4], .string nm] W' fun e w' => Below W'.heap.size W' w' ∧ ∃ (y : C5), e = .returned (.agg #[y.c0, y.c1, y.c2, y.c3, y.c4]) ∧ Rep (fun x => x < w'.heap.size) w' (fldZ t nm) y) := fun W' nm hW =>
    fieldNamed_any t c W' (Rep.carry (fun x hx => hW.block x hx) (fun x hx => Nat.lt_of_lt_of_le hx hW.size) _ _ hr) hrise hlk hl nm
  have HCN : Hid (∀ W', Below w.heap.size w W' → Calls Tryz.prog 90 #[.slice na U.length nc] W' fun e w' => ∃ v' F, e = .returned v' ∧ StrsOwn w' v' U F ∧ F.Nodup ∧ (∀ b, b ∈ F → W'.heap.size ≤ b ∧ b < w'.heap.size) ∧ Below W'.heap.size W' w') := fun W' hW =>
    copyNames_any _ U W' (P := fun x => x < w.heap.size) (fun b hb => Nat.lt_of_lt_of_le hb hW.size) (hst.carry (fun b hb => hW.block b hb) (fun _ h => h)) (by omega) (fun x hx => by have := hUz x hx; omega)
  obtain ⟨a5, cap5, a6, cap6, rfl⟩ := hr.form
  obtain ⟨i0, hi, hz0, hz1, hz2⟩ := info_parts infoTreeS
  obtain ⟨hr1, hr2, hbw, hsz⟩ := wd_boxes w t.sort t.num t.text a5 a6 t.names.length cap5 t.kids.length cap6
  have hl1 := World.block_lt_of_cell? w _ h1
  have hl2 := World.block_lt_of_cell? w _ h2
  have HII := hide hi; have HZ0 := hide hz0; have HZ1 := hide hz1; have HZ2 := hide hz2
  have HF := hide hfld; have HST := hide hst; have HUL := hide hUl; have HR1 := hide hr1; have HR2 := hide hr2; have HBW := hide hbw; have HSZ := hide hsz; have H1 := hide h1; have H2 := hide h2; have HL1 := hide hl1; have HL2 := hide hl2; have HUZ := hide hUz
  rw [← hbw.cell hl1] at h1
  clear hi hz0 hz1 hz2 hfld hst hUl hr1 hr2 hbw hsz hr hrise hlk hl h2 hl1 hl2 hUz
  go_enter Tryz.func89, Tryz.ntmps89
  go_wp2_with fail
  generalize ((w.alloc (.cells #[.int .i64 t.sort, .int .i64 t.num, .string t.text, .slice a5 t.names.length cap5, .slice a6 t.kids.length cap6] 39)).alloc (.cells #[.int .i64 0, .int .i64 0, .string ⟨#[]⟩, .slice none 0 0, .slice none 0 0] 39)) = W0 at h1 HR1 HR2 HBW HSZ ⊢
  refine (unhide HCN W0 (unhide HBW)).mono ?_
  rintro e V ⟨vN, FN, rfl, hsN, hndN, hFN, hbV⟩
  obtain ⟨nA, nC, rfl, -⟩ := id hsN
  have hbwV : Below w.heap.size w V := (unhide HBW).trans (hbV.mono (unhide HBW).size)
  have HSN := hide hsN; have HNDN := hide hndN; have HFNL := hide hFN; have HBV := hide hbV; have HBWV := hide hbwV
  clear hsN hndN hFN hbV hbwV h1
  have hbA : Below V.heap.size V (V.alloc (.cells #[.int .i64 5, .int .i64 0, .string ⟨#[]⟩, .slice nA U.length nC, .slice none 0 0] 39)) := (Below.refl _ _).alloc (Nat.le_refl _) _
  have HKI : Hid (KInv V.heap.size (V.alloc (.cells #[.int .i64 5, .int .i64 0, .string ⟨#[]⟩, .slice nA U.length nC, .slice none 0 0] 39)) (.slice nA U.length nC) (.slice none 0 0) [] [] []) := ⟨row5_alloc V _ _ _ _ _ _, GotO.start _ _, by simp⟩
  have HBA := hide hbA
  clear hbA
  have h1' : (V.alloc (.cells #[.int .i64 5, .int .i64 0, .string ⟨#[]⟩, .slice nA U.length nC, .slice none 0 0] 39)).cell? ⟨g1, 0, none⟩ = some (.slice na U.length nc) := by rw [(unhide HBA).cell (Nat.lt_of_lt_of_le (unhide HL1) (unhide HBWV).size), (unhide HBWV).cell (unhide HL1)]; exact unhide H1
  go_wp2_with fail
  generalize (V.alloc (.cells #[.int .i64 5, .int .i64 0, .string ⟨#[]⟩, .slice nA U.length nC, .slice none 0 0] 39)) = V1 at h1' HKI HBA ⊢
  clear h1'
  go_loopw [13] (fun i wr => ∃ (k : Nat) (aK : Option Addr) (capK : Nat) (xs : List Value) (G : List Nat), k ≤ U.length ∧ i = .int .i64 k ∧ Hid (KInv V.heap.size wr (.slice nA U.length nC) (.slice aK k capK) ((U.take k).map g) xs G) ∧ Hid (Below V.heap.size V wr)) (fun i _ => U.length - (intOf i).toNat)
  case atStart => exact ⟨0, none, 0, [], [], Nat.zero_le _, rfl, unhide HKI, unhide HBA⟩
  case round =>
    obtain ⟨k, aK, capK, xs, G, hk, rfl, HS, HB⟩ := hrel
    have hsw := HB.out.size
    have hbw : Below w.heap.size w wr := (unhide HBWV).trans (HB.out.mono (unhide HBWV).size)
    by_cases hlt : k < U.length
    · obtain ⟨na', nc', e9, -, hcs⟩ := unhide HST
      simp only [Value.slice.injEq, true_and] at e9
      obtain ⟨rfl, rfl⟩ := e9
      obtain ⟨nb, no, rfl, hnbl, hcn, -⟩ := hcs k hlt
      obtain ⟨fb, f, caps, rfl, hfc, hent, hcl⟩ := unhide HF k hlt
      have hfbl := World.block_lt_of_cell? w _ hfc
      have htk : (U.take (k + 1)).map g = (U.take k).map g ++ [g U[k]] := by
        rw [List.take_succ_eq_append_getElem hlt, List.map_append]; rfl
      have hlkl : ((U.take k).map g).length = k := by simp; omega
      have en : wr.cell? ⟨nb, no + k, none⟩ = some (.string U[k]) := by rw [hbw.cell hnbl]; exact hcn
      have ef : wr.cell? ⟨fb, k, none⟩ = some (.func (.func f) #[] caps) := by rw [hbw.cell hfbl]; exact hfc
      have ef2 : wr.cell? ⟨g2, 0, none⟩ = some (.slice (some ⟨fb, 0, none⟩) U.length fc) := by rw [hbw.cell (unhide HL2)]; exact unhide H2
      have hrow := ((unhide HR1).of_block ((unhide HBV).block w.heap.size (unhide HR1).lt)).of_block (HB.out.block w.heap.size (Nat.lt_of_lt_of_le (unhide HR1).lt (unhide HBV).size))
      have k0 := hrow.cell (i := 0) (by omega); have k1 := hrow.cell (i := 1) (by omega); have k2 := hrow.cell (i := 2) (by omega); have k3 := hrow.cell (i := 3) (by omega); have k4 := hrow.cell (i := 4) (by omega)
      have t4 := HS.out.cells.cell (i := 4) (by omega)
      simp only [row5] at k0 k1 k2 k3 k4 t4
      have hsW : V.heap.size + 1 ≤ wr.heap.size := HS.out.size
      have hlow : w.heap.size < wr.heap.size := hrow.lt
      have hcf := unhide HFN wr.drew U[k] hbw.drew
      have HCF : Hid (Calls Tryz.prog 91 #[.agg #[.int .i64 t.sort, .int .i64 t.num, .string t.text, .slice a5 t.names.length cap5, .slice a6 t.kids.length cap6], .string U[k]] wr.drew fun e w5 => ∃ y0 y1 y2 y3 y4, e = .returned (.agg #[y0, y1, y2, y3, y4]) ∧ Hid (Below wr.heap.size wr w5) ∧ Hid (Rep (fun x => x < w5.heap.size) w5 (fldZ t U[k]) ⟨y0, y1, y2, y3, y4⟩) ∧ Hid (KInv V.heap.size w5 (.slice nA U.length nC) (.slice aK k capK) ((U.take k).map g) xs G) ∧ w5.cell? ⟨V.heap.size, 4, none⟩ = some (.slice aK k capK) ∧ w5.cell? ⟨fb, k, none⟩ = some (.func (.func f) #[] caps) ∧ w5.cell? ⟨g2, 0, none⟩ = some (.slice (some ⟨fb, 0, none⟩) U.length fc)) := by
        refine hcf.mono ?_
        rintro e w5 ⟨hb5, ⟨y0, y1, y2, y3, y4⟩, rfl, hy⟩
        have hb5' : Below wr.heap.size wr w5 := (Below.refl _ wr).drew.trans hb5
        have hs5 := HS.out.kept (w' := w5) ⟨hb5'.os, hb5'.tape, hb5'.output, hb5'.size, fun i hi _ => hb5'.block i hi⟩
        exact ⟨y0, y1, y2, y3, y4, rfl, hb5', hy, hs5, hs5.cells.cell (i := 4) (by omega), cell_onQ hb5' ef, cell_onQ hb5' ef2⟩
      have HCG : Hid (∀ w5 y0 y1 y2 y3 y4, Below wr.heap.size wr w5 → Rep (fun x => x < w5.heap.size) w5 (fldZ t U[k]) ⟨y0, y1, y2, y3, y4⟩ → KInv V.heap.size w5 (.slice nA U.length nC) (.slice aK k capK) ((U.take k).map g) xs G → Calls Tryz.prog f (#[.agg #[y0, y1, y2, y3, y4]] ++ caps) w5 fun e w6 => ∃ e0 e1 e2 a7 n7 cap7 a8 n8 cap8 F, e = .returned (.agg #[.int .i64 e0, .int .i64 e1, .string e2, .slice a7 n7 cap7, .slice a8 n8 cap8]) ∧ Hid (Own w6 (g U[k]) ⟨.int .i64 e0, .int .i64 e1, .string e2, .slice a7 n7 cap7, .slice a8 n8 cap8⟩ F) ∧ F.Nodup ∧ Hid (∀ b, b ∈ F → wr.heap.size ≤ b ∧ b < w6.heap.size) ∧ Hid (Below wr.heap.size wr w6) ∧ wr.heap.size ≤ w6.heap.size ∧ Hid (KInv V.heap.size w6 (.slice nA U.length nC) (.slice aK k capK) ((U.take k).map g) xs G) ∧ w6.cell? ⟨V.heap.size, 4, none⟩ = some (.slice aK k capK) ∧ ∀ ob, (w6.alloc ob).cell? ⟨V.heap.size, 4, none⟩ = some (.slice aK k capK)) := by
        intro w5 y0 y1 y2 y3 y4 hb5 hy hs5
        refine (hcl w5 ⟨y0, y1, y2, y3, y4⟩ (hbw.trans (hb5.mono hbw.size)) hy).mono ?_
        rintro e w6 ⟨d, F, rfl, ho, hn1, hl1, hb6⟩
        have hb6' : Below wr.heap.size wr w6 := hb5.trans (hb6.mono hb5.size)
        obtain ⟨a7, cap7, a8, cap8, rfl⟩ := ho.forms
        have hs6 := hs5.kept (w' := w6) ⟨hb6.os, hb6.tape, hb6.output, hb6.size, fun i hi _ => hb6.block i hi⟩
        exact ⟨_, _, _, _, _, _, _, _, _, F, rfl, ho, hn1, fun b hb => ⟨Nat.le_trans hb5.size (hl1 b hb).1, (hl1 b hb).2⟩, hb6', hb6'.size, hs6, hs6.cells.cell (i := 4) (by omega), fun ob => (hs6.cells.alloc ob).cell (i := 4) (by omega)⟩
      have HTK := hide htk; have HLK := hide hlkl; have HBWR := hide hbw
      clear hcf hcl hcs hnbl hcn hfc hfbl htk hlkl hrow hbw
      generalize g U[k] = gx at *
      generalize U[k] = nm at *
      go_upto_region 5 with fail
      go_region_law (first
        | ((refine step_append_lies _ (by rfl) _ _ _ (by rfl) (V.heap.size + 1) 39 i0 _ 5 80 Tryz.underlying37 (unhide HII) (unhide HZ0) (unhide HZ1) (unhide HZ2) rfl (by decide) (.slice aK k capK) k xs (by rfl) (by have := (unhide HS6).got.row; rw [unhide HLK] at this; exact this.alloc _) ⟨w6.heap.size, 0, none⟩ 1 1 (c5l ⟨.int .i64 e0, .int .i64 e1, .string e2, .slice a7 n7 cap7, .slice a8 n8 cap8⟩) (by rfl) (by rfl) (cell_five w6 _ _) (unhide HOW).one (by decide) (by have := unhide HUL; unfold maxLen; omega) (by have := unhide HUL; omega) (by simp; omega) (w6.heap.size + 1) (by simp) ?_; intro g9 cap2 w8 hown8 hgrow8 hat8 hlt8; have u4 := (KInv.atK (unhide HS6) hgrow8).cell (i := 4) (by omega); have uz4 := (KInv.atK (unhide HS6) hgrow8).frozen 4; simp only [row5] at u4))
        | (rw [if_pos (by first | rfl | simp [Region.wanted])]; go_simp; refine (unhide HCG w5 y0 y1 y2 y3 y4 (unhide HB5) (unhide HY5) (unhide HS5)).mono ?_; rintro e w6 ⟨e0, e1, e2, a7, n7, cap7, a8, n8, cap8, F, rfl, HOW, hFn, HFL, HB6, hs6, HS6, t4c, t4d⟩)
        | (rw [if_pos (by first | rfl | simp [Region.wanted])]; go_simp; refine (unhide HCF).mono ?_; rintro e w5 ⟨y0, y1, y2, y3, y4, rfl, HB5, HY5, HS5, t4e, ef5, ef6⟩))
      all_goals
        have hz6 : ∀ o, (w6.alloc o).heap.size = w6.heap.size + 1 := fun o => World.size_alloc _ _
        have hinv8 := KInv.kid (m := wr.heap.size) ((unhide HS6).kept (World.grownBy_alloc w6 (.cells #[.int .i64 e0, .int .i64 e1, .string e2, .slice a7 n7 cap7, .slice a8 n8 cap8] 39) none)) (Own.carry gx _ F (fun b hb => Below.heap_alloc _ _ _ (unhide HFL b hb).2) (unhide HOW)) hFn (fun b hb => ⟨(unhide HFL b hb).1, by rw [hz6]; have := (unhide HFL b hb).2; omega⟩)
          (fun b hb => (HS.out.got.lt b hb).2.1) (fun b hb => (HS.out.got.row.lt b hb).2) HS.out.size (by rw [unhide HLK]; exact hown8) hgrow8 (hat8.elim (fun e => Or.inl (by rw [e]; rfl)) (fun e => Or.inr ⟨g9, rfl, by rw [hz6, e]; exact Nat.le_refl _⟩))
        rw [← unhide HTK] at hinv8
        have hb8 : Below V.heap.size V (w8.setCell ⟨V.heap.size, 4, none⟩ (.slice (some ⟨g9, 0, none⟩) (k + 1) cap2)) :=
          (((HB.out.trans ((unhide HB6).mono hsw)).alloc (by omega) (.cells #[.int .i64 e0, .int .i64 e1, .string e2, .slice a7 n7 cap7, .slice a8 n8 cap8] 39)).grown hgrow8 (by rw [hz6]; omega) (fun b e => by have := ((unhide HS6).got.row.lt b e).1; omega)).setCell (by simp) _
        have HI8 := hide hinv8; have HB8 := hide hb8
        have ke := wrkU (Nat.le_trans hk (unhide HUL))
        clear hinv8 hb8 hown8 hgrow8 hat8 hlt8 u4 uz4 HS6 HOW HFL HB6 t4c t4d k0 k1 k2 k3 k4 t4 HS5 HB5 HY5 t4e ef5 ef6 en ef ef2
        go_wp2_with fail
        go_roundw
        case rel => exact ⟨k + 1, some ⟨g9, 0, none⟩, cap2, _, _, hlt, (by first | exact numU k | (rw [ke]; exact numU k)), unhide HI8, unhide HB8⟩
        case measure => first | exact measU hlt | (rw [ke]; exact measU hlt)
    · obtain rfl : k = U.length := by omega
      have hmk : (U.take U.length).map g = U.map g := by rw [List.take_length]
      obtain ⟨F, hkids, hnd, hFl, -⟩ := HS.out.got.done
      rw [hmk] at hkids
      have t0 := HS.out.cells.cell (i := 0) (by omega); have t1 := HS.out.cells.cell (i := 1) (by omega); have t2 := HS.out.cells.cell (i := 2) (by omega); have t3 := HS.out.cells.cell (i := 3) (by omega); have t4 := HS.out.cells.cell (i := 4) (by omega)
      have hl9 := (unhide HR2).lt
      have q2 := ((unhide HR2).of_block ((unhide HBV).block (w.heap.size + 1) hl9)).of_block (HB.out.block (w.heap.size + 1) (Nat.lt_of_lt_of_le hl9 (unhide HBV).size))
      have z := q2.frozen
      have y0 := q2.cell (i := 0) (by omega); have y1 := q2.cell (i := 1) (by omega); have y2 := q2.cell (i := 2) (by omega); have y3 := q2.cell (i := 3) (by omega); have y4 := q2.cell (i := 4) (by omega)
      simp only [row5] at t0 t1 t2 t3 t4 y0 y1 y2 y3 y4
      have HKD := hide hkids; have HFL := hide hFl; have HBX := hide hbw; have HND := hide hnd
      have hszv : w.heap.size + 2 ≤ V.heap.size := by have := (unhide HBV).size; rw [unhide HSZ] at this; exact this
      have HSV := hide hszv
      clear hkids hFl q2 hmk hbw hnd hszv hl9
      go_wp2_with fail
      refine bodyPost_ret (v := .agg #[.int .i64 5, .int .i64 0, .string ⟨#[]⟩, .slice nA U.length nC, .slice aK U.length capK]) (by simp [results, Tryz.results89, go_sem, y0, y1, y2, y3, y4]) rfl ⟨⟨_, _, _, _, _⟩, FN ++ F, rfl, ?_, ?_, ?_, ?_⟩
      · have hN := (unhide HSN).carry (w' := wr) (fun b hb => HB.out.block b (unhide HFNL b hb).2)
        exact Own.make (t := .mk 5 0 ByteArray.empty U (U.map g)) rfl rfl rfl (show I64 5 from ⟨by decide, by decide⟩) (show I64 0 from ⟨by decide, by decide⟩) (by simp [Tr.text])
          (hN.carry (fun b hb => heap_set5s _ _ _ _ _ _ _ _ (by have := (unhide HFNL b hb).1; have := unhide HSZ; omega)))
          ((unhide HKD).carry (fun b hb => heap_set5s _ _ _ _ _ _ _ _ (by have := (unhide HFL b hb).1; have := unhide HSV; omega)))
      · exact List.nodup_append.2 ⟨unhide HNDN, unhide HND, fun a ha b hb e => by have := (unhide HFNL a ha).2; have := (unhide HFL b hb).1; omega⟩
      · intro b hb
        rw [size_set5s]
        rcases List.mem_append.1 hb with hb | hb
        · have h5 := unhide HFNL b hb; have := unhide HSZ; exact ⟨by omega, Nat.lt_of_lt_of_le h5.2 hsw⟩
        · have h5 := unhide HFL b hb; have := unhide HSV; exact ⟨by omega, h5.2⟩
      · exact below_set5s (unhide HBX) _ _ _ _ _ _ (Nat.le_succ _)
end Go.Proofs.YtcpfelaffclalaaGreatDoor

/- What the program's widenings do, as laws: each of the six works gives a widening that does what widF says. Conditions: trees of the schema that is widened. -/

namespace Go.Proofs.YtcpfelaffclalaaGreatDoor
open Go Go.RowKit

theorem StrsAt.bound {P : Nat → Prop} {w : World} {v : Value} {ss : List ByteArray} (h : StrsAt P w v ss) : StrsAt (fun x => P x ∧ x < w.heap.size) w v ss := by
  obtain ⟨a, cap, h1, h2, h3⟩ := h
  refine ⟨a, cap, h1, h2, fun i hi => ?_⟩
  obtain ⟨b, o, h4, h5, h6, h7⟩ := h3 i hi
  exact ⟨b, o, h4, ⟨h5, World.block_lt_of_cell? w _ h6⟩, h6, h7⟩
theorem uni_n {L : Nat} {Q : Nat → Nat → Prop} (hmono : ∀ i n m, Q i n → n ≤ m → Q i m) (h : ∀ i, i < L → ∃ n, Q i n) : ∃ n, ∀ i, i < L → Q i n := by
  induction L with
  | zero => exact ⟨0, fun i hi => by omega⟩
  | succ L ih =>
    obtain ⟨n, hn⟩ := ih (fun i hi => h i (by omega))
    obtain ⟨m, hm⟩ := h L (by omega)
    refine ⟨max n m, fun i hi => ?_⟩
    by_cases e : i = L
    · subst e; exact hmono _ _ _ hm (Nat.le_max_right _ _)
    · exact hmono _ _ _ (hn i (by omega)) (Nat.le_max_left _ _)
theorem cell_same {W W' : World} {P : Nat → Prop} (hW : ∀ x, P x → x < W.heap.size → W'.heap[x]? = W.heap[x]?) {a : Addr} {v : Value} (hP : P a.block) (h : W.cell? a = some v) : W'.cell? a = some v := by
  rw [World.cell?_of_block (w := W) (hW a.block hP (World.block_lt_of_cell? W _ h))]
  exact h
theorem same_on {W W' W'' : World} {P : Nat → Prop} (hW : ∀ x, P x → x < W.heap.size → W'.heap[x]? = W.heap[x]?) (hb : Below W'.heap.size W' W'') : ∀ x, P x → x < W.heap.size → W''.heap[x]? = W.heap[x]? := fun x hx hl =>
  (hb.block x (lt_same (hW x hx hl) hl)).trans (hW x hx hl)
theorem app_nil (x : Value) : (#[x] ++ #[] : Array Value) = #[x] := rfl
theorem app_one (x y : Value) : (#[x] ++ #[y] : Array Value) = #[x, y] := rfl
theorem app_two (x y z : Value) : (#[x] ++ #[y, z] : Array Value) = #[x, y, z] := rfl
theorem gWd : GLaws GWd where
  on := fun a b P Q W W' fv ⟨n, h⟩ h1 h2 => ⟨n, h.on h1 h2⟩
  zero := fun a b P W ha hb => ⟨1, wOk_zero ha (by omega), _, _, rfl, enW _ Tryz.func83 (by kernel_rfl) rfl, fun W' hW t c hr ht => by
    rw [app_nil]
    exact none1_any t c 0 a b ha W' hr⟩
  leaf := fun a b P W hab h1 => ⟨1, ⟨by omega, fun _ => ⟨fun h => by omega, fun h => by omega, fun h => by omega⟩⟩, _, _, rfl, enW _ Tryz.func84 (by kernel_rfl) rfl, fun W' hW t c hr ht => by
    rw [app_nil]
    rcases ht with h0 | ⟨-, h2⟩
    · omega
    · exact leaf1_any t c 0 a b hab h1 W' hr (by have := (alone_open (okH_open h2).1).1; omega)⟩
  each := fun a b P W B fv hab ha hb hoa hob hPB hc hf ⟨n, h⟩ => by
    obtain ⟨k1, f, caps, rfl, k3, k4⟩ := h
    refine ⟨n + 1, ⟨by omega, fun _ => ⟨fun h => by omega, fun h => ?_, fun h => by omega⟩⟩, _, _, rfl, enW _ Tryz.func113 (by kernel_rfl) rfl, fun W' hW t c hr ht => ?_⟩
    · rw [getD_kid ha, getD_kid hb]; exact k1
    · rw [app_one, widF_each hab ha hb]
      rcases ht with h0 | ⟨h1, h2⟩
      · omega
      · obtain ⟨g1, g2, g3⟩ := hT_open h1
        obtain ⟨g4, g5⟩ := okH_open h2
        have g6 := (alone_open g4).2.1 (by omega)
        refine each1_any t (widF n a.kids[0] b.kids[0]) c W' B f caps hr (cell_same hW hPB hc) k3 (by omega) (fun i hi W'' d hb' hr' => k4 W'' (same_on hW hb') _ d hr' (Or.inr ⟨?_, g5 i hi⟩))
        have := g3 i hi
        rwa [kidOf_else (by omega) i ha] at this
  into := fun a b P W B fv hb6 ha6 ha0 hb hoa hob hPB hc hf ⟨n, h⟩ => by
    obtain ⟨k1, f, caps, rfl, k3, k4⟩ := h
    refine ⟨n + 1, ⟨by omega, fun _ => ⟨fun h => ?_, fun h => by omega, fun h => by omega⟩⟩, _, _, rfl, enW _ Tryz.func86 (by kernel_rfl) rfl, fun W' hW t c hr ht => ?_⟩
    · rw [getD_kid hb]; exact k1
    · rw [app_one, widF_into ha0 hb6 ha6 hb]
      exact into1_any t _ c W' B f caps hr (cell_same hW hPB hc) k3 (fun W'' hb' => k4 W'' (same_on hW hb') t c (Rep.carry (fun x hx => hb'.block x hx) (fun x hx => Nat.lt_of_lt_of_le hx hb'.size) _ _ hr) ht)
  form := fun a b P W g1 g2 ha5 hb5 hla hlb hoa hob hfm => by
    obtain ⟨na, nc, fa, fc, fvs, hp1, hp2, hc1, hc2, hst, hfl, hfs⟩ := hfm
    obtain ⟨n, hn⟩ := uni_n (L := (uniN a.names b.names).length) (Q := fun i n => ∀ (hi : i < (uniN a.names b.names).length) (hf : i < fvs.length), WidC n (kidZ a (uniN a.names b.names)[i]) (kidZ b (uniN a.names b.names)[i]) P W fvs[i])
      (fun i n m h hm hi hf => (h hi hf).le hm) (fun i hi => by
        obtain ⟨fb, -, -, -, ⟨n, hn⟩, -⟩ := hfs i hi (by omega)
        exact ⟨n, fun _ _ => hn⟩)
    refine ⟨n + 1, ⟨by omega, fun _ => ⟨fun h => by omega, fun h => by omega, fun _ nm hm => ?_⟩⟩, _, _, rfl, enW _ Tryz.func89 (by kernel_rfl) rfl, fun W' hW t c hr ht => ?_⟩
    · obtain ⟨i, hi, rfl⟩ := List.mem_iff_getElem.1 hm
      exact (hn i hi hi (by omega)).1
    · rw [app_two, widF_form ha5 hb5]
      rcases ht with h0 | ⟨h1, h2⟩
      · omega
      · obtain ⟨g1', g2', g3'⟩ := hT_open h1
        obtain ⟨g4, g5⟩ := okH_open h2
        obtain ⟨g6, g7⟩ := (alone_open g4).2.2 (by omega)
        have hka : a.kids.length = a.names.length := by
          rw [okD_eq, Bool.and_eq_true] at hoa
          have := hoa.1
          unfold shB at this
          rw [if_neg (by omega), if_neg (by omega), if_pos ha5, Bool.and_eq_true, decide_eq_true_eq] at this
          omega
        have hrb : riseB b.names = true := by
          rw [okD_eq, Bool.and_eq_true] at hob
          have := hob.1
          unfold shB at this
          rw [if_neg (by omega), if_neg (by omega), if_pos hb5, Bool.and_eq_true] at this
          exact this.2
        have hra : riseB a.names = true := by rw [g2']; exact g7
        refine form1_any t (uniN a.names b.names) (fun nm => widF n (kidZ a nm) (kidZ b nm) (fldZ t nm)) c W' g1 g2 na fa nc fc hr (rise_pairs g7) g6 (by rw [← g2']; exact hla) ?_ ?_ (cell_same hW hp1 hc1) (cell_same hW hp2 hc2) ?_ (fun i hi => ?_)
        · rw [uniN_len]
          have := uniL_len a.names b.names
          omega
        · intro nm hm
          have : nm.size ≤ 8 := by
            rcases (uniN_mem nm).1 hm with h | h
            · exact rise_szU hra h
            · exact rise_szU hrb h
          omega
        · exact hst.bound.carry (fun x hx => hW x hx.1 hx.2) (fun x hx => lt_same (hW x hx.1 hx.2) hx.2)
        · obtain ⟨fb, e1, e2, e3, -, -⟩ := hfs i hi (by omega)
          obtain ⟨k1, f, caps, k2, k3, k4⟩ := hn i hi hi (by omega)
          refine ⟨fb, f, caps, e1, ?_, k3, fun W'' d hb' hr' => k4 W'' (same_on hW hb') _ d hr' (fld_has ha5 h1 h2 hka _)⟩
          rw [← k2]
          exact cell_same hW e2 e3
end Go.Proofs.YtcpfelaffclalaaGreatDoor
