/- The walks of the program's firstTree and of gather with it: the first tree of a schema, in blocks of its own. Of what was there nothing has turned. -/
import Derived.Test.YthkjhmcbmakkdaaDoorPart14
import Derived.Test.YthkjhmcbmakkdaaDoorPart02
import Derived.Test.YthkjhmcbmakkdaaDoorPart12
namespace Go.Proofs.YthkjhmcbmakkdaaDoor
open Go Go.RowKit

theorem rise_small {ss : List ByteArray} (h : riseB ss = true) : ∀ x, x ∈ ss → x.size ≤ 1099511627776 := fun x hx => by
  obtain ⟨i, hi, rfl⟩ := List.getElem_of_mem hx
  have := rise_size h i hi
  omega

theorem heap_set5f (w : World) (b : Nat) (c0 c1 c2 c3 c4 : Value) (k : Nat) (h : k ≠ b) :
    (((((w.setCell ⟨b, 0, none⟩ c0).setCell ⟨b, 1, none⟩ c1).setCell ⟨b, 2, none⟩ c2).setCell ⟨b, 3, none⟩ c3).setCell ⟨b, 4, none⟩ c4).heap[k]? = w.heap[k]? := by
  rw [Below.heap_setCell _ _ _ _ h, Below.heap_setCell _ _ _ _ h, Below.heap_setCell _ _ _ _ h, Below.heap_setCell _ _ _ _ h, Below.heap_setCell _ _ _ _ h]
theorem size_set5f (w : World) (b : Nat) (c0 c1 c2 c3 c4 : Value) :
    (((((w.setCell ⟨b, 0, none⟩ c0).setCell ⟨b, 1, none⟩ c1).setCell ⟨b, 2, none⟩ c2).setCell ⟨b, 3, none⟩ c3).setCell ⟨b, 4, none⟩ c4).heap.size = w.heap.size := by simp [World.setCell]
theorem below_set5f {B : Nat} {a w : World} (h : Below B a w) (b : Nat) (c0 c1 c2 c3 c4 : Value) (hb : B ≤ b) :
    Below B a (((((w.setCell ⟨b, 0, none⟩ c0).setCell ⟨b, 1, none⟩ c1).setCell ⟨b, 2, none⟩ c2).setCell ⟨b, 3, none⟩ c3).setCell ⟨b, 4, none⟩ c4) :=
  ((((h.setCell hb _).setCell hb _).setCell hb _).setCell hb _).setCell hb _

set_option maxRecDepth 100000 in
set_option maxHeartbeats 800000 in
theorem firstTree_any (base : Nat) (t : Kd) (P : Nat → Prop) (c : C3) (vK : Value) (G : List Nat) (w : World) (hP : ∀ b, P b → b < w.heap.size) (hrep : KRep P w t c) (hK : KidsOwn w vK (fTs t.kids) G) (hnd : G.Nodup) (hG : ∀ b, b ∈ G → base ≤ b ∧ b < w.heap.size) (hbase : base ≤ w.heap.size) (hsh : shB t = true) (hnl : t.names.length ≤ 1048576) :
    Calls Tryd.prog 39 #[.agg #[c.c0, c.c1, c.c2], vK] w fun e w' => ∃ d F, e = .returned (.agg #[d.c0, d.c1, d.c2, d.c3, d.c4]) ∧ Own w' (fT t) d F ∧ F.Nodup ∧ (∀ b, b ∈ F → base ≤ b ∧ b < w'.heap.size) ∧ Below w.heap.size w w' := by
  obtain ⟨c0, c1, c2⟩ := c
  obtain ⟨e0, hi0, hns, a, cap, e2, -, -⟩ := hrep.open
  simp only at e0 e2 hns
  have HNS := hide hns
  obtain ⟨a3, cap3, e1, -, -⟩ := hns
  have HK := hide hK
  obtain ⟨aK, capK, eK, hkl, -⟩ := hK
  subst e0 e1 e2 eK
  clear hrep
  have hbx2 : ∀ o o2, Below w.heap.size w ((w.alloc o).alloc o2) := fun o o2 => ((Below.refl _ _).alloc (Nat.le_refl _) o).alloc (by simp) o2
  by_cases h5 : t.sort = 5
  · have hri : riseB t.names = true := by
      rcases shB_cases hsh with ⟨h, -⟩ | ⟨h, -⟩ | ⟨-, -, h⟩
      · omega
      · omega
      · exact h
    have hft := fT_form h5
    have hcp : ∀ o o2, Calls Tryd.prog 61 #[.slice a3 t.names.length cap3] ((w.alloc o).alloc o2) fun e w' => ∃ a' n' cap' F, e = .returned (.slice a' n' cap') ∧ StrsOwn w' (.slice a' n' cap') t.names F ∧ F.Nodup ∧ (∀ b, b ∈ F → w.heap.size + 2 ≤ b ∧ b < w'.heap.size) ∧ Below (w.heap.size + 2) ((w.alloc o).alloc o2) w' := fun o o2 =>
      (copyNames_any _ t.names ((w.alloc o).alloc o2) (P := P) (fun b hb => Nat.lt_of_lt_of_le (hP b hb) (hbx2 o o2).size) ((unhide HNS).carry (fun b hb => (hbx2 o o2).block b (hP b hb)) (fun _ h => h)) hnl (rise_small hri)).mono
        fun e w' ⟨v', F, h1, h2, h3, h4, h5⟩ => by
          obtain ⟨a', cap', hv', -⟩ := id h2
          subst hv'
          exact ⟨a', _, cap', F, h1, h2, h3, fun b hb => ⟨by have := (h4 b hb).1; simpa using this, (h4 b hb).2⟩, h5.mono (by simp)⟩
    have hd : (t.sort != 5) = false := by simp [h5]
    have HCP := hide hcp; have HFT := hide hft; have HBX := hide hbx2; have HG := hide hG
    generalize fTs t.kids = kts at *
    rw [h5]
    clear hcp hft hbx2 hG hP hsh hri hd hi0
    go_enter Tryd.func39, Tryd.ntmps39
    go_wp2_with fail
    refine (unhide HCP _ _).mono ?_
    rintro e w1 ⟨a', n', cap', F, rfl, hso, hFn, hFl, hb1⟩
    have hs1 : w.heap.size + 2 ≤ w1.heap.size := by have := hb1.size; simpa using this
    have q := (row5_alloc (w.alloc (.cells #[.int .i64 5, .slice a3 t.names.length cap3, .slice a t.kids.length cap] 26)) (.int .i64 0) (.int .i64 0) (.string ByteArray.empty) (.slice none 0 0) (.slice none 0 0) 37)
    rw [World.size_alloc] at q
    have q1 := q.of_block (hb1.block (w.heap.size + 1) (by omega))
    have z := q1.frozen
    have y0 := q1.cell (i := 0) (by omega); have y1 := q1.cell (i := 1) (by omega); have y2 := q1.cell (i := 2) (by omega); have y3 := q1.cell (i := 3) (by omega); have y4 := q1.cell (i := 4) (by omega)
    simp only [row5] at y0 y1 y2 y3 y4
    have HSO := hide hso; have HFL := hide hFl; have HB1 := hide hb1
    clear hso hFl hb1 q q1 HCP
    go_wp2_with fail
    have hb0 : Below w.heap.size w w1 := (unhide HBX _ _).trans ((unhide HB1).mono (by omega))
    refine bodyPost_ret (v := .agg #[.int .i64 5, .int .i64 0, .string ByteArray.empty, .slice a' n' cap', .slice aK kts.length capK]) (by simp [results, Tryd.results39, go_sem, y0, y1, y2, y3, y4]; rfl) rfl ⟨⟨_, _, _, _, _⟩, F ++ G, rfl, ?_, ?_, ?_, ?_⟩
    · rw [unhide HFT]
      refine Own.make (t := .mk 5 0 ByteArray.empty t.names kts) rfl rfl rfl (show I64 5 from ⟨by decide, by decide⟩) (show I64 0 from ⟨by decide, by decide⟩) (by simp [Tr.text]) ((unhide HSO).carry (fun b hb => heap_set5f _ _ _ _ _ _ _ _ (by have := (unhide HFL b hb).1; omega))) ((unhide HK).carry (fun b hb => ?_))
      have hbl := (unhide HG b hb).2
      rw [heap_set5f _ _ _ _ _ _ _ _ (by omega)]
      exact hb0.block b hbl
    · exact List.nodup_append.2 ⟨hFn, hnd, fun x hx y hy e => by have := (unhide HFL x hx).1; have := (unhide HG y hy).2; omega⟩
    · intro b hb
      rw [size_set5f]
      rcases List.mem_append.1 hb with hb | hb
      · have := unhide HFL b hb; omega
      · have := unhide HG b hb; omega
    · exact below_set5f hb0 _ _ _ _ _ _ (by omega)
  · have hft := fT_else h5
    have hd : (t.sort != 5) = true := by simp [h5]
    have HFT := hide hft; have HBX := hide hbx2
    have hbxx : ∀ o o2, ((w.alloc o).alloc o2).heap.size = w.heap.size + 2 := fun o o2 => by simp
    clear hft hbx2 hP hsh hG HK
    go_enter Tryd.func39, Tryd.ntmps39
    go_wp2_with fail
    refine bodyPost_ret (v := .agg #[.int .i64 t.sort, .int .i64 0, .string ByteArray.empty, .slice none 0 0, .slice none 0 0]) (by simp [results, Tryd.results39, go_sem]; rfl) rfl ⟨⟨_, _, _, _, _⟩, [], rfl, ?_, List.nodup_nil, fun b hb => by simp at hb, ?_⟩
    · rw [unhide HFT]
      exact Own.make (F1 := []) (F2 := []) (t := .mk t.sort 0 ByteArray.empty [] []) rfl rfl rfl hi0 (show I64 0 from ⟨by decide, by decide⟩) (by simp [Tr.text]) ⟨none, 0, rfl, by simp [Tr.names], Or.inl ⟨rfl, rfl⟩⟩ ⟨none, 0, rfl, by simp [Tr.kids], Or.inl ⟨rfl, rfl⟩⟩
    · first | exact unhide HBX _ _ | exact below_set5f (unhide HBX _ _) _ _ _ _ _ _ (by omega)

end Go.Proofs.YthkjhmcbmakkdaaDoor

/- The walk of the program's gather with firstTree: the first tree of a schema all of whose parts are ok, in blocks of its own. Of what was there nothing has turned. -/

namespace Go.Proofs.YthkjhmcbmakkdaaDoor
open Go Go.RowKit

theorem infoTreeG : (Tryd.prog.info? 37).map (fun i => (i.zero, i.size, i.bytes)) = some (some (.agg #[.int .i64 0, .int .i64 0, .string ByteArray.empty, .slice none 0 0, .slice none 0 0]), 5, 80) := by kernel_rfl

theorem kidsP_any (c0 c1 : Value) (a : Option Addr) (len cap : Nat) (w : World) :
    Calls Tryd.prog 111 #[.agg #[c0, c1, .slice a len cap]] w fun e w' => e = .returned (.slice a len cap) ∧ w' = w.alloc (.cells #[c0, c1, .slice a len cap] 26) :=
  (callsIn_wide (n := 1)).1 (kids_in Fence.wide _ trivial rfl c0 c1 a len cap w)

def FSaid (n : Nat) : Prop := ∀ (t : Kd), ksz t < n → ∀ (P : Nat → Prop) (c : C3) (w : World), (∀ b, P b → b < w.heap.size) → KRep P w t c → okD t = true → ksz t ≤ 1000000 → wKd t ≤ 1048576 →
    Calls Tryd.prog 38 #[.agg #[c.c0, c.c1, c.c2], .func (.func 39) #[] #[]] w fun e w' => ∃ d F, e = .returned (.agg #[d.c0, d.c1, d.c2, d.c3, d.c4]) ∧ Own w' (fT t) d F ∧ F.Nodup ∧ (∀ b, b ∈ F → w.heap.size ≤ b ∧ b < w'.heap.size) ∧ Below w.heap.size w w'

theorem klszLen (l : List Kd) : l.length ≤ klsz l := by
  induction l with
  | nil => simp
  | cons a r ih =>
    rw [klsz, List.length_cons]
    have : 1 ≤ ksz a := by obtain ⟨s, ns, ks⟩ := a; rw [ksz]; omega
    omega

set_option maxRecDepth 100000 in
set_option maxHeartbeats 1600000 in
theorem gatherF_step (n : Nat) (IH : FSaid n) : FSaid (n + 1) := by
  intro t hn P c w hP hrep ho hsz hwt
  rw [okD_eq, Bool.and_eq_true] at ho
  have hks1 : t.kids.length ≤ 1000000 := by
    have := klszLen t.kids
    have e : ksz t = 1 + klsz t.kids := by obtain ⟨s, ns, ks⟩ := t; rw [ksz]; rfl
    omega
  have hwe : wKd t = wS t.names + wKs t.kids := by obtain ⟨s, ns, ks⟩ := t; rfl
  have hnl : t.names.length ≤ 1048576 := by have := wS_len t.names; omega
  obtain ⟨c0, c1, c2⟩ := c
  obtain ⟨e0, -, hns, a, cap, e2, -, hks⟩ := hrep.open
  simp only at e0 e2 hns
  obtain ⟨a3, cap3, e1, -, -⟩ := hns
  subst e0 e1 e2
  obtain ⟨i0, hi, hz0, hz1, hz2⟩ := info_parts infoTreeG
  have hm : ∀ w, (method 267 26 (.agg #[.int .i64 t.sort, .slice a3 t.names.length cap3, .slice a t.kids.length cap]) "loop.example/teagle/impl.kids").run Tryd.prog w = .ok (111, .agg #[.int .i64 t.sort, .slice a3 t.names.length cap3, .slice a t.kids.length cap]) w := fun _ => by kernel_rfl
  have hft := fun (vK : Value) (W : World) (G : List Nat) (hW : Below w.heap.size w W) (hK : KidsOwn W vK (fTs t.kids) G) (hnd : G.Nodup) (hG : ∀ b, b ∈ G → w.heap.size + 2 ≤ b ∧ b < W.heap.size) (hsw : w.heap.size + 2 ≤ W.heap.size) =>
    firstTree_any (w.heap.size + 2) t P ⟨.int .i64 t.sort, .slice a3 t.names.length cap3, .slice a t.kids.length cap⟩ vK G W (fun b hb => Nat.lt_of_lt_of_le (hP b hb) hW.size) (KRep.carry (fun b hb => hW.block b (hP b hb)) (fun _ h => h) _ _ hrep) hK hnd hG hsw ho.1 hnl
  have HFT := hide hft; have HP := hide hP; have HI := hide IH; have HK := hide hks; have HOK := hide ho.2
  have HII := hide hi; have HZ0 := hide hz0; have HZ1 := hide hz1; have HZ2 := hide hz2
  have hkw : ∀ i (hi : i < t.kids.length), wKd t.kids[i] ≤ 1048576 := fun i hi => by have := wKs_mem (List.getElem_mem hi); omega
  have HKW := hide hkw
  clear hft hP IH hks ho hi hz0 hz1 hz2 hrep hwt hwe hkw
  go_enter Tryd.func38, Tryd.ntmps38
  go_wp2_with (go_at_call 111; refine (kidsP_any _ _ _ _ _ _).mono ?_; rintro e w' ⟨rfl, rfl⟩)
  clear hm
  obtain ⟨W0, hW0⟩ : ∃ W0, (((w.alloc (.cells #[.int .i64 t.sort, .slice a3 t.names.length cap3, .slice a t.kids.length cap] 26)).alloc (.cells #[.int .i64 0, .int .i64 0, .string ⟨#[]⟩, .slice none 0 0, .slice none 0 0] 37)).alloc (.cells #[.int .i64 t.sort, .slice a3 t.names.length cap3, .slice a t.kids.length cap] 26)) = W0 := ⟨_, rfl⟩
  have hs0 : W0.heap.size = w.heap.size + 3 := by rw [← hW0]; simp
  have hbl : Below w.heap.size w W0 := by rw [← hW0]; exact (((Below.refl _ _).alloc (Nat.le_refl _) _).alloc (by simp) _).alloc (by simp; omega) _
  have hr0 : W0.rowIs w.heap.size 26 3 (row3 (.int .i64 t.sort) (.slice a3 t.names.length cap3) (.slice a t.kids.length cap)) := by rw [← hW0]; exact ((row3_alloc w _ _ _ _).alloc _).alloc _
  have hr1 : W0.rowIs (w.heap.size + 1) 37 5 (row5 (.int .i64 0) (.int .i64 0) (.string ⟨#[]⟩) (.slice none 0 0) (.slice none 0 0)) := by
    rw [← hW0]
    have q := row5_alloc (w.alloc (.cells #[.int .i64 t.sort, .slice a3 t.names.length cap3, .slice a t.kids.length cap] 26)) (.int .i64 0) (.int .i64 0) (.string ⟨#[]⟩) (.slice none 0 0) (.slice none 0 0) 37
    rw [World.size_alloc] at q
    exact q.alloc _
  rw [hW0]
  have HBL := hide hbl; have HR0 := hide hr0; have HR1 := hide hr1
  clear hW0 hbl hr0 hr1
  generalize hkk : t.kids = ks at *
  have HKS := hide hkk; clear hkk
  go_loopw [5, 12] (fun s i wr => ∃ (k : Nat) (a' : Option Addr) (cap' : Nat) (xs : List Value) (G : List Nat), k ≤ ks.length ∧ i = .int .i64 k ∧ s = .slice a' k cap' ∧ Hid (GotO (w.heap.size + 2) wr (.slice a' k cap') ((ks.take k).map fT) xs G) ∧ Hid (Below (w.heap.size + 2) W0 wr)) (fun _ i _ => ks.length - (intOf i).toNat)
  case atStart => exact ⟨0, none, 0, [], [], Nat.zero_le _, rfl, rfl, GotO.start _ _, Below.refl _ _⟩
  case round =>
    obtain ⟨k, a', cap', xs, G, hk, rfl, rfl, HG, HB⟩ := hrel
    have hsw := HB.out.size
    have hkl : ((ks.take k).map fT).length = k := by simp; omega
    have HKL := hide hkl; clear hkl
    have hbw : Below w.heap.size w wr := (unhide HBL).trans (HB.out.mono (by omega))
    have HBW := hide hbw; clear hbw
    by_cases hlt : k < ks.length
    · obtain ⟨b, o, c, rfl, hpb, hcell, hrp⟩ := unhide HK k hlt
      have hcell' := hcell.carry ((unhide HBW).block b (unhide HP b hpb))
      obtain ⟨d0, d1, d2⟩ := c
      have hrw : KRep P wr ks[k] ⟨d0, d1, d2⟩ := KRep.carry (fun b hb => (unhide HBW).block b (unhide HP b hb)) (fun _ h => h) _ _ hrp
      obtain ⟨g0, -, ⟨a5, cap5, g1, -⟩, a6, cap6, g2, -⟩ := hrp.open
      simp only at g0 g1 g2
      subst g0 g1 g2
      obtain ⟨f0, f1, f2⟩ := hcell'
      simp only at f0 f1 f2
      have hmem : ks[k] ∈ t.kids := by rw [unhide HKS]; exact List.getElem_mem hlt
      have hsm : ksz ks[k] < n := by have := ksz_kid hmem; omega
      have hsm' : ksz ks[k] < ksz t := ksz_kid hmem
      have hba : ∀ ob, Below wr.heap.size wr (wr.alloc ob) := fun ob => (Below.refl _ _).alloc (Nat.le_refl _) ob
      have hcall : ∀ ob, Calls Tryd.prog 38 #[.agg #[.int .i64 ks[k].sort, .slice a5 ks[k].names.length cap5, .slice a6 ks[k].kids.length cap6], .func (.func 39) #[] #[]] (wr.alloc ob) fun e w' => ∃ d F, e = .returned (.agg #[d.c0, d.c1, d.c2, d.c3, d.c4]) ∧ Own w' (fT ks[k]) d F ∧ F.Nodup ∧ (∀ b, b ∈ F → wr.heap.size ≤ b ∧ b < w'.heap.size) ∧ Below wr.heap.size wr w' := fun ob =>
        (unhide HI ks[k] hsm P ⟨_, _, _⟩ (wr.alloc ob) (fun b hb => by have := unhide HP b hb; simp; omega) (KRep.carry (fun b hb => (hba ob).block b (by have := unhide HP b hb; omega)) (fun _ h => h) _ _ hrw) (okDs_get (unhide HOK) k hlt) (by omega) (unhide HKW k hlt)).mono
          fun e w' ⟨d, F, h1, h2, h3, h4, h5⟩ => ⟨d, F, h1, h2, h3, fun b hb => ⟨by have := (h4 b hb).1; simp at this; omega, (h4 b hb).2⟩, (hba ob).trans (h5.mono (hba ob).size)⟩
      have htk : (ks.take (k + 1)).map fT = (ks.take k).map fT ++ [fT ks[k]] := by
        rw [List.take_succ_eq_append_getElem hlt, List.map_append]; rfl
      generalize fT ks[k] = tk at *
      have HCALL := hide hcall; have HTK := hide htk
      clear hcall htk hcell hrp hrw hmem hsm hsm' hba hpb
      go_wp2_with fail
      refine (unhide HCALL _).mono ?_
      rintro e w2 ⟨⟨d0, d1, d2, d3, d4⟩, F, rfl, hown, hFn, hFl, hb2⟩
      have hs2 := hb2.size
      have hg2 : wr.grownBy w2 none := ⟨hb2.os, hb2.tape, hb2.output, hb2.size, fun i hi _ => hb2.block i hi⟩
      have hgot2 := HG.out.kept hg2
      have hGm : ∀ b, b ∈ G → b < wr.heap.size := fun b hb => (HG.out.lt b hb).2.1
      have hvm : ∀ b, (Value.slice a' k cap').ownBlock = some b → b < wr.heap.size := fun b hb => (HG.out.row.lt b hb).2
      obtain ⟨y0, y1, y2, -, -, -, F1, F2, -, ⟨a7, cap7, y3, -⟩, a8, cap8, y4, -⟩ := hown.open
      have hone := hown.one
      simp only at y0 y1 y2 y3 y4
      subst y0 y1 y2 y3 y4
      have HOWN := hide hown; have HFL := hide hFl; have HGOT := hide hgot2; have HGM := hide hGm; have HVM := hide hvm; have HONE := hide hone; have HB2 := hide (HB.out.trans (hb2.mono (by omega)))
      clear hown hFl hb2 hg2 hgot2 hGm hvm hone f0 f1 f2 HCALL
      go_wp2_with (at_builtin; refine append_row _ rfl _ _ 35 rfl (w.heap.size + 2) 37 i0 _ 5 80 Tryd.underlying35 (unhide HII) (unhide HZ0) (unhide HZ1) (unhide HZ2) rfl (by decide) (.slice a' k cap') k xs rfl (by have := (unhide HGOT).row; rw [unhide HKL] at this; exact this.alloc _) ⟨w2.heap.size, 0, none⟩ 1 1 (c5l ⟨_, _, _, _, _⟩) rfl rfl (cell_five _ _ _) (unhide HONE) (by decide) (by unfold maxLen; omega) (by omega) (by simp; omega) ?_; intro v' w4 hown4 hgrow4 hv4)
      obtain ⟨g', cap'', hv''⟩ : ∃ g' cap'', v' = .slice (some ⟨g', 0, none⟩) (k + 1) cap'' := by
        rcases hown4.2 with ⟨_, h⟩ | ⟨g', cap'', _, h, _⟩
        · omega
        · exact ⟨g', cap'', h⟩
      have hal := World.grownBy_alloc w2 (.cells #[.int .i64 tk.sort, .int .i64 tk.num, .string tk.text, .slice a7 tk.names.length cap7, .slice a8 tk.kids.length cap8] 37) none
      have hlt4 := (unhide HGOT).row.lt
      have hpush := GotO.push (m := wr.heap.size) ((unhide HGOT).kept hal) (Own.carry tk _ F (fun b hb => hal.block b (unhide HFL b hb).2 (by simp)) (unhide HOWN)) hFn (fun b hb => ⟨(unhide HFL b hb).1, by have := (unhide HFL b hb).2; simp; omega⟩) (unhide HGM) (unhide HVM) (by omega) (by rw [unhide HKL]; exact hown4) hgrow4 hv4
      rw [← unhide HTK] at hpush
      have hb4 : Below (w.heap.size + 2) w2 w4 := ((Below.refl _ w2).alloc (by omega) _).trans ((Below.refl _ _).grown hgrow4 (by simp; omega) (fun k e => (hlt4 k e).1))
      subst hv''
      have HPU := hide hpush; have HB4 := hide ((unhide HB2).trans hb4)
      clear hown4 hgrow4 hv4 hpush hb4 hlt4 hal
      go_roundw
      case rel => exact ⟨k + 1, some ⟨g', 0, none⟩, cap'', _, _, by omega, by go_num, rfl, unhide HPU, unhide HB4⟩
      case measure => simp [intOf]; omega
    · obtain rfl : k = ks.length := by omega
      have hg := HG.out
      rw [List.take_length, ← fTs_map] at hg
      obtain ⟨F, hKO, hnd, hFl, -⟩ := hg.done
      have hcall := unhide HFT (.slice a' ks.length cap') wr F (unhide HBW) hKO hnd hFl (by omega)
      have q0 := (unhide HR0).of_block (HB.out.block w.heap.size (by omega))
      have q1 := (unhide HR1).of_block (HB.out.block (w.heap.size + 1) (by omega))
      have k0 := q0.cell (i := 0) (by omega); have k1 := q0.cell (i := 1) (by omega); have k2 := q0.cell (i := 2) (by omega)
      simp only [row3] at k0 k1 k2
      have HCALL := hide hcall; have Q1 := hide q1
      clear hcall hKO hFl hg q0 q1
      go_wp2_with fail
      refine (unhide HCALL).mono ?_
      rintro e w2 ⟨⟨d0, d1, d2, d3, d4⟩, F', rfl, hown, hFn, hFl, hb2⟩
      have hs2 := hb2.size
      have q2 := (unhide Q1).of_block (hb2.block (w.heap.size + 1) (by omega))
      have z := q2.frozen
      have y0 := q2.cell (i := 0) (by omega); have y1 := q2.cell (i := 1) (by omega); have y2 := q2.cell (i := 2) (by omega); have y3 := q2.cell (i := 3) (by omega); have y4 := q2.cell (i := 4) (by omega)
      simp only [row5] at y0 y1 y2 y3 y4
      obtain ⟨x0, x1, x2, -, -, -, F1, F2, -, ⟨a7, cap7, x3, -⟩, a8, cap8, x4, -⟩ := hown.open
      simp only at x0 x1 x2 x3 x4
      subst x0 x1 x2 x3 x4
      have HOWN := hide hown; have HFL := hide hFl; have HB2 := hide ((unhide HBW).trans (hb2.mono (by omega)))
      clear hown hFl hb2 q2 HCALL
      go_wp2_with fail
      refine bodyPost_ret (v := .agg #[.int .i64 (fT t).sort, .int .i64 (fT t).num, .string (fT t).text, .slice a7 (fT t).names.length cap7, .slice a8 (fT t).kids.length cap8]) (by simp [results, Tryd.results38, go_sem, y0, y1, y2, y3, y4]) rfl ⟨⟨_, _, _, _, _⟩, F', rfl, ?_, hFn, ?_, ?_⟩
      · exact Own.carry (fT t) _ F' (fun b hb => heap_set5f _ _ _ _ _ _ _ _ (by have := (unhide HFL b hb).1; omega)) (unhide HOWN)
      · intro b hb
        rw [size_set5f]
        have := unhide HFL b hb; omega
      · exact below_set5f (unhide HB2) _ _ _ _ _ _ (by omega)

theorem gatherF_all : ∀ n, FSaid n
  | 0 => fun t h => by omega
  | n + 1 => gatherF_step n (gatherF_all n)

end Go.Proofs.YthkjhmcbmakkdaaDoor
