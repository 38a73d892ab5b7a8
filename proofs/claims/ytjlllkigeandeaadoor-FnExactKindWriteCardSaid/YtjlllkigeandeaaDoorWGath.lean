/- The walks of the program's kindText and of gather with it: the text of a schema all of whose parts are ok. The table kindWords is as the program lays it. The text has at most 2^40 bytes. -/
import Derived.Test.YtjlllkigeandeaaDoorWFld
import Derived.Test.YtjlllkigeandeaaDoorWWalk
namespace Go.Proofs.YtjlllkigeandeaaDoor
open Go Go.RowKit

/-- The table holds its words. -/
def KTab (w : World) : Prop := w.cell? ⟨0, 1, none⟩ = some (.string ⟨#[110, 117, 109]⟩) ∧ w.cell? ⟨0, 2, none⟩ = some (.string ⟨#[116, 101, 120, 116]⟩) ∧ w.cell? ⟨0, 3, none⟩ = some (.string ⟨#[102, 108, 97, 103]⟩)
theorem KTab.lt {w : World} (h : KTab w) : 0 < w.heap.size := World.block_lt_of_cell? w _ h.1
theorem KTab.of_block {w w' : World} (h : KTab w) (e : w'.heap[0]? = w.heap[0]?) : KTab w' := by
  have c : ∀ i, w'.cell? ⟨0, i, none⟩ = w.cell? ⟨0, i, none⟩ := fun i => World.cell?_of_block (w := w) e
  exact ⟨by rw [c]; exact h.1, by rw [c]; exact h.2.1, by rw [c]; exact h.2.2⟩
theorem KTab.below {w w' : World} (h : KTab w) (hb : Below w.heap.size w w') : KTab w' := h.of_block (hb.block _ h.lt)

/-- The text of a schema as a string. -/
def kTx (t : Kd) : ByteArray := ⟨(kxT t).toArray⟩

theorem fx_kids (ns : List ByteArray) (ks : List Kd) (k : Nat) (hk : k ≤ ks.length) : fx ns (ks.map kTx) k = kxTo ns ks k := by
  induction k with
  | zero => simp [fx, kxTo, kxK]
  | succ k ih =>
    rw [fx, kxTo_succ ns ks k (by omega), ih (by omega)]
    congr 2
    simp [List.getD, show k < ks.length by omega, kTx]

/-- A row of strings of the call's own is a slice of strings. -/
theorem strs_of_row {base : Nat} {w : World} {v : Value} {ss : List ByteArray} (h : w.ownsRow base 9 1 v ss.length (ss.map Value.string)) (hs : ∀ x, x ∈ ss → x.size ≤ 9223372036854775807) : StrsAt (fun b => base ≤ b ∧ b < w.heap.size) w v ss := by
  rcases h.2 with ⟨hv, hn0⟩ | ⟨g, cap, cur, hv, hgb, hh, hle, hm2, hsz, htk⟩
  · exact ⟨none, 0, by rw [hv, hn0], by omega, fun i hi => by omega⟩
  · refine ⟨some ⟨g, 0, none⟩, cap, hv, by unfold maxLen at hm2; omega, fun i hi => ⟨g, 0, rfl, ⟨hgb, (Array.getElem?_eq_some_iff.1 hh).1⟩, ?_, hs _ (List.getElem_mem hi)⟩⟩
    have h1 : (ss.map Value.string)[i]? = some (.string ss[i]) := by simp [hi]
    rw [← htk, List.getElem?_take_of_lt (by omega)] at h1
    simp only [Nat.zero_add, World.cell?, hh]
    simpa using h1

theorem ret_str3 {a b : ByteArray} (h : a = b) : Ending.returned (.string a) = .returned (.string b) := by rw [h]

set_option maxRecDepth 100000 in
set_option maxHeartbeats 800000 in
theorem kindText_any (t : Kd) (P : Nat → Prop) (c : C3) (vK : Value) (w : World) (hP : ∀ b, P b → b < w.heap.size) (hrep : KRep P w t c) (hK : StrsAt P w vK (t.kids.map kTx)) (hT : KTab w) (hsh : shB t = true) (hlen : (kxT t).length ≤ 1099511627776) :
    Calls Tryd.prog 37 #[.agg #[c.c0, c.c1, c.c2], vK] w fun e w' => e = .returned (.string (kTx t)) ∧ Below w.heap.size w w' := by
  obtain ⟨c0, c1, c2⟩ := c
  obtain ⟨e0, -, hns, a, cap, e2, -, -⟩ := hrep.open
  simp only at e0 e2 hns
  have HNS := hide hns; have HKK := hide hK
  obtain ⟨a3, cap3, e1, -, -⟩ := hns
  obtain ⟨aK, capK, eK, hkl, hkc⟩ := hK
  subst e0 e1 e2 eK
  have hbx : ∀ o, Below w.heap.size w (w.alloc o) := fun o => (Below.refl _ _).alloc (Nat.le_refl _) o
  have hx := kxT_eq t
  have HBX := hide hbx
  have hT' : ∀ o, KTab (w.alloc o) := fun o => hT.below (hbx o)
  rcases shB_cases hsh with ⟨hs, -, -⟩ | ⟨hs, hk1, -⟩ | ⟨hs, hk1, -⟩
  · have b4 : (t.sort == 4) = false := by simp; omega
    have b6 : (t.sort == 6) = false := by simp; omega
    have b5 : (t.sort == 5) = false := by simp; omega
    rcases hs with hs | hs | hs
    · have t1 : ∀ o, (w.alloc o).cell? ⟨0, 1, none⟩ = some (.string ⟨#[110, 117, 109]⟩) := fun o => (hT' o).1
      rw [if_pos hs] at hx
      have HX := hide hx
      rw [hs] at b4 b6 b5 ⊢
      clear hrep hkc hbx hx hT hT' hsh hlen HNS HKK hs hP b4 b5 b6
      go_enter Tryd.func37, Tryd.ntmps37
      go_wp2_with fail
      go_ret
      exact ⟨ret_str3 (by rw [kTx, unhide HX]), unhide HBX _⟩
    · have t2 : ∀ o, (w.alloc o).cell? ⟨0, 2, none⟩ = some (.string ⟨#[116, 101, 120, 116]⟩) := fun o => (hT' o).2.1
      rw [if_neg (by omega), if_pos hs] at hx
      have HX := hide hx
      rw [hs] at b4 b6 b5 ⊢
      clear hrep hkc hbx hx hT hT' hsh hlen HNS HKK hs hP b4 b5 b6
      go_enter Tryd.func37, Tryd.ntmps37
      go_wp2_with fail
      go_ret
      exact ⟨ret_str3 (by rw [kTx, unhide HX]), unhide HBX _⟩
    · have t3 : ∀ o, (w.alloc o).cell? ⟨0, 3, none⟩ = some (.string ⟨#[102, 108, 97, 103]⟩) := fun o => (hT' o).2.2
      rw [if_neg (by omega), if_neg (by omega), if_pos hs] at hx
      have HX := hide hx
      rw [hs] at b4 b6 b5 ⊢
      clear hrep hkc hbx hx hT hT' hsh hlen HNS HKK hs hP b4 b5 b6
      go_enter Tryd.func37, Tryd.ntmps37
      go_wp2_with fail
      go_ret
      exact ⟨ret_str3 (by rw [kTx, unhide HX]), unhide HBX _⟩
  · have hp : 0 < t.kids.length := by omega
    obtain ⟨b, o, rfl, hpb, hc0, hsz⟩ := hkc 0 (by simpa using hp)
    have hget : (t.kids.map kTx)[0]'(by simpa using hp) = kTx t.kids[0] := by simp
    rw [hget, Nat.add_zero] at hc0
    have f0 : ∀ ob, (w.alloc ob).cell? ⟨b, o, none⟩ = some (.string (kTx t.kids[0])) := fun ob => by rw [(hbx ob).cell (hP b hpb)]; exact hc0
    have hm : (t.kids.map kTx).length = 1 := by simp [hk1]
    rw [if_neg (by omega), if_neg (by omega), if_neg (by omega), kxM_get hp] at hx
    have hsm : (kTx t.kids[0]).size + 2 ≤ 1099511627778 := by
      have e : (kTx t.kids[0]).size = (kxT t.kids[0]).length := by simp [kTx, ByteArray.size]
      rw [hx] at hlen
      split at hlen
      · simp at hlen; omega
      · split at hlen
        · simp at hlen; omega
        · omega
    have hkx : kxT t.kids[0] = (kTx t.kids[0]).data.toList := by simp [kTx]
    rw [hkx] at hx
    generalize kTx t.kids[0] = tk at *
    rw [hm]
    have HX := hide hx
    clear hrep hkc hbx hx hT hT' hsh hlen HNS HKK hP hc0 hget hm hkl hkx hk1 hp hsz
    rcases hs with hs | hs
    · have HS := hide hs
      rw [hs]
      clear hs
      go_enter Tryd.func37, Tryd.ntmps37
      go_wp2_with fail
      go_ret
      refine ⟨ret_str3 ?_, unhide HBX _⟩
      rw [kTx, unhide HX, if_pos (unhide HS)]; apply ByteArray.ext; simp
    · have HS := hide hs
      rw [hs]
      clear hs
      go_enter Tryd.func37, Tryd.ntmps37
      go_wp2_with fail
      go_ret
      refine ⟨ret_str3 ?_, unhide HBX _⟩
      rw [kTx, unhide HX, if_neg (by have := unhide HS; omega), if_pos (unhide HS)]; apply ByteArray.ext; simp
  · rw [if_neg (by omega), if_neg (by omega), if_neg (by omega), if_neg (by omega), if_neg (by omega)] at hx
    have hml : (t.kids.map kTx).length = t.kids.length := List.length_map _
    have hfx : fx t.names (t.kids.map kTx) (t.kids.map kTx).length = kxK t.names 0 t.kids := by
      rw [hml, fx_kids _ _ _ (Nat.le_refl _), kxTo_all]
    have hfl : (kxK t.names 0 t.kids).length + 2 ≤ 1099511627776 := by rw [hx] at hlen; simp at hlen; omega
    have hcall : ∀ ob, Calls Tryd.prog 54 #[.slice a3 t.names.length cap3, .slice aK t.kids.length capK] (w.alloc ob) fun e w' => e = .returned (.string ⟨(kxK t.names 0 t.kids).toArray⟩) ∧ Below (w.alloc ob).heap.size (w.alloc ob) w' := fun ob => by
      have := fieldTexts_any t.names (t.kids.map kTx) P _ _ (w.alloc ob) (fun b hb => Nat.lt_of_lt_of_le (hP b hb) (hbx ob).size) ((unhide HNS).carry (fun b hb => (hbx ob).block b (hP b hb)) (fun _ h => h)) ((unhide HKK).carry (fun b hb => (hbx ob).block b (hP b hb)) (fun _ h => h)) (by omega) (by rw [hfx]; omega)
      rw [hfx, hml] at this
      exact this
    rw [hml]
    generalize kxK t.names 0 t.kids = tx at *
    have HCALL := hide hcall; have HX := hide hx
    have htz : (⟨tx.toArray⟩ : ByteArray).size = tx.length := by simp [ByteArray.size]
    rw [hs]
    clear hrep hkc hbx hx hT hT' hsh hlen HNS HKK hP hfx hcall hml hs hk1
    go_enter Tryd.func37, Tryd.ntmps37
    go_wp2_with (go_at_call 54; refine (unhide HCALL _).mono ?_; rintro e w1 ⟨rfl, hb1⟩)
    go_ret
    refine ⟨ret_str3 ?_, (unhide HBX _).trans (hb1.mono (unhide HBX _).size)⟩
    rw [kTx, unhide HX]; apply ByteArray.ext; simp

end Go.Proofs.YtjlllkigeandeaaDoor
