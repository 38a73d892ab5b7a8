/- The walk of the specification's l2Text: it gives the text of a schema all of whose parts are ok. The text has at most 2^40 bytes. -/
import Derived.Test.YthkjhmcbmakkdaaDoorPart11
import Derived.Test.YthkjhmcbmakkdaaDoorRows
import Derived.Deep.RegionWith
import Derived.Deep.RegionHeld3
import Derived.Test.YthkjhmcbmakkdaaDoorPart08
namespace Go.Proofs.YthkjhmcbmakkdaaDoor
open Go Go.RowKit

theorem ret_str2 {a b : ByteArray} (h : a = b) : Ending.returned (.string a) = .returned (.string b) := by rw [h]
theorem str_eq2 {a b : ByteArray} (h : a = b) : Value.string a = .string b := by rw [h]

def KTextSaid (n : Nat) : Prop := ∀ (t : Kd), ksz t < n → ∀ (P : Nat → Prop) (c : C3) (w : World), (∀ b, P b → b < w.heap.size) → KRep P w t c → okD t = true → (kxT t).length ≤ 1099511627776 →
    Calls Tryd.prog 22 #[.agg #[c.c0, c.c1, c.c2]] w fun e w' => e = .returned (.string ⟨(kxT t).toArray⟩) ∧ Below w.heap.size w w'

set_option maxRecDepth 100000 in
set_option maxHeartbeats 800000 in
theorem ktext_123 (t : Kd) (P : Nat → Prop) (c : C3) (w : World) (hrep : KRep P w t c) (hs : t.sort = 1 ∨ t.sort = 2 ∨ t.sort = 3) :
    Calls Tryd.prog 22 #[.agg #[c.c0, c.c1, c.c2]] w fun e w' => e = .returned (.string ⟨(kxT t).toArray⟩) ∧ Below w.heap.size w w' := by
  have hx := kxT_eq t
  obtain ⟨c0, c1, c2⟩ := c
  obtain ⟨e0, -, ⟨a3, cap3, e1, -, -⟩, a, cap, e2, -, -⟩ := hrep.open
  simp only at e0 e1 e2
  subst e0 e1 e2
  have hbx : ∀ o, Below w.heap.size w (w.alloc o) := fun o => (Below.refl _ _).alloc (Nat.le_refl _) o
  have HBX := hide hbx
  clear hrep hbx
  rcases hs with hs | hs | hs
  · rw [if_pos hs] at hx
    rw [hx, hs]
    clear hx hs
    go_enter Tryd.func22, Tryd.ntmps22
    go_wp2_with fail
    go_ret
    exact ⟨rfl, unhide HBX _⟩
  · rw [if_neg (by omega), if_pos hs] at hx
    rw [hx, hs]
    clear hx hs
    go_enter Tryd.func22, Tryd.ntmps22
    go_wp2_with fail
    go_ret
    exact ⟨rfl, unhide HBX _⟩
  · rw [if_neg (by omega), if_neg (by omega), if_pos hs] at hx
    rw [hx, hs]
    clear hx hs
    go_enter Tryd.func22, Tryd.ntmps22
    go_wp2_with fail
    go_ret
    exact ⟨rfl, unhide HBX _⟩

set_option maxRecDepth 100000 in
set_option maxHeartbeats 800000 in
theorem ktext_46 (n : Nat) (IH : KTextSaid n) (t : Kd) (hn : ksz t ≤ n) (P : Nat → Prop) (c : C3) (w : World) (hP : ∀ b, P b → b < w.heap.size) (hrep : KRep P w t c) (ho : okD t = true) (hlen : (kxT t).length ≤ 1099511627776) (hs : t.sort = 4 ∨ t.sort = 6) (hk1 : t.kids.length = 1) :
    Calls Tryd.prog 22 #[.agg #[c.c0, c.c1, c.c2]] w fun e w' => e = .returned (.string ⟨(kxT t).toArray⟩) ∧ Below w.heap.size w w' := by
  have hp : 0 < t.kids.length := by omega
  rw [okD_eq, Bool.and_eq_true] at ho
  have hx := kxT_eq t
  rw [if_neg (by omega), if_neg (by omega), if_neg (by omega), kxM_get hp] at hx
  obtain ⟨c0, c1, c2⟩ := c
  obtain ⟨e0, -, ⟨a3, cap3, e1, -, -⟩, a, cap, e2, -, hks⟩ := hrep.open
  simp only at e0 e1 e2
  subst e0 e1 e2
  obtain ⟨b, o, c, rfl, hpb, hcell, hrp⟩ := hks 0 hp
  rw [Nat.zero_mul, Nat.add_zero] at hcell
  have hbx : ∀ o, Below w.heap.size w (w.alloc o) := fun o => (Below.refl _ _).alloc (Nat.le_refl _) o
  have HBX := hide hbx
  obtain ⟨d0, d1, d2⟩ := c
  have hcc : ∀ ob, C3.at (w.alloc ob) b o ⟨d0, d1, d2⟩ := fun ob => hcell.carry ((hbx ob).block b (hP b hpb))
  have e0 : ∀ ob, (w.alloc ob).cell? ⟨b, o, none⟩ = some d0 := fun ob => (hcc ob).1
  have e1 : ∀ ob, (w.alloc ob).cell? ⟨b, o + 1, none⟩ = some d1 := fun ob => (hcc ob).2.1
  have e2 : ∀ ob, (w.alloc ob).cell? ⟨b, o + 2, none⟩ = some d2 := fun ob => (hcc ob).2.2
  have hsm : ksz t.kids[0] < n := by have := ksz_kid (List.getElem_mem hp); omega
  have hl0 : (kxT t.kids[0]).length ≤ 1099511627774 ∨ t.sort = 6 := by
    by_cases h4 : t.sort = 4
    · rw [hx, if_pos h4] at hlen; simp at hlen; exact Or.inl (by omega)
    · exact Or.inr (by omega)
  have hl1 : (kxT t.kids[0]).length ≤ 1099511627775 := by
    rcases hl0 with h | h
    · omega
    · rw [hx, if_neg (by omega), if_pos h] at hlen; simp at hlen; omega
  have hcall := fun W (hW : Below w.heap.size w W) => IH t.kids[0] hsm P ⟨d0, d1, d2⟩ W (fun b hb' => Nat.lt_of_lt_of_le (hP b hb') hW.size) (KRep.carry (fun b hb' => hW.block b (hP b hb')) (fun _ h => h) _ _ hrp) (okDs_get ho.2 0 hp) (by omega)
  generalize kxT t.kids[0] = tk at *
  have HCALL := hide hcall; have HX := hide hx
  clear hcall hx IH hks hcell hrp hbx hcc ho hlen hsm hP
  rw [hk1]
  clear hk1 hp
  rcases hs with hs | hs
  · have hl2 : tk.length ≤ 1099511627774 := by omega
    have HS := hide hs
    rw [hs]
    clear hs hl0
    go_enter Tryd.func22, Tryd.ntmps22
    go_wp2_with (go_at_call 22; refine (unhide HCALL _ (unhide HBX _)).mono ?_; rintro e w1 ⟨rfl, hb1⟩)
    go_ret
    refine ⟨ret_str2 ?_, (unhide HBX _).trans (hb1.mono (unhide HBX _).size)⟩
    rw [unhide HX, if_pos (unhide HS)]; apply ByteArray.ext; simp
  · have HS := hide hs
    rw [hs]
    clear hs hl0
    go_enter Tryd.func22, Tryd.ntmps22
    go_wp2_with (go_at_call 22; refine (unhide HCALL _ (unhide HBX _)).mono ?_; rintro e w1 ⟨rfl, hb1⟩)
    go_ret
    refine ⟨ret_str2 ?_, (unhide HBX _).trans (hb1.mono (unhide HBX _).size)⟩
    rw [unhide HX, if_neg (by have := unhide HS; omega), if_pos (unhide HS)]; apply ByteArray.ext; simp

end Go.Proofs.YthkjhmcbmakkdaaDoor

/- The walk of the specification's l2Text, forms and all sorts, and of its KindWrite. The text has at most 2^40 bytes. -/

namespace Go.Proofs.YthkjhmcbmakkdaaDoor
open Go Go.RowKit

theorem addS (t : TypeId) (a b : ByteArray) (h : a.size + b.size ≤ 9223372036854775807) : binOp .add t (.string a) (.string b) = pure (.string (a ++ b)) := by
  have h2 : ¬ (((a.size + b.size : Nat) : Int) > IntKind.i64.max) := by
    rw [show IntKind.i64.max = 9223372036854775807 from rfl]; omega
  simp only [binOp, Op.stringOp]
  rw [if_neg h2]

theorem getD_lt2 (ns : List ByteArray) (i : Nat) (h : i < ns.length) : ns.getD i ByteArray.empty = ns[i] := by simp [List.getD, h]

set_option maxRecDepth 100000 in
set_option maxHeartbeats 1600000 in
theorem ktext_5 (n : Nat) (IH : KTextSaid n) (t : Kd) (hn : ksz t ≤ n) (P : Nat → Prop) (c : C3) (w : World) (hP : ∀ b, P b → b < w.heap.size) (hrep : KRep P w t c) (ho : okD t = true) (hlen : (kxT t).length ≤ 1099511627776) (hs : t.sort = 5) (hnk : t.kids.length = t.names.length) :
    Calls Tryd.prog 22 #[.agg #[c.c0, c.c1, c.c2]] w fun e w' => e = .returned (.string ⟨(kxT t).toArray⟩) ∧ Below w.heap.size w w' := by
  rw [okD_eq, Bool.and_eq_true] at ho
  obtain ⟨-, hok⟩ := ho
  have hx : kxT t = [123] ++ kxK t.names 0 t.kids ++ [125] := by rw [kxT_eq, if_neg (by omega), if_neg (by omega), if_neg (by omega), if_neg (by omega), if_neg (by omega)]
  have hln : (kxK t.names 0 t.kids).length ≤ 1099511627774 := by rw [hx] at hlen; simp at hlen; omega
  obtain ⟨c0, c1, c2⟩ := c
  obtain ⟨e0, -, hns, a, cap, e2, hkl, hks⟩ := hrep.open
  simp only at e0 hns e2
  obtain ⟨a3, cap3, e1, hnl, hnc⟩ := hns
  subst e0 e1 e2
  have hnc' : ∀ i, i < t.kids.length → ∃ b o, a3 = some ⟨b, o, none⟩ ∧ P b ∧ w.cell? ⟨b, o + i, none⟩ = some (.string (t.names.getD i ByteArray.empty)) := fun i hi => by
    obtain ⟨b, o, h1, h2, h3, _⟩ := hnc i (by omega)
    rw [getD_lt2 _ _ (by omega)]
    exact ⟨b, o, h1, h2, h3⟩
  rw [← hnk]
  clear hnk hnc hnl
  have HX := hide hx; have HLN := hide hln; have HP := hide hP; have HI := hide IH; have HK := hide hks; have HOK := hide hok; have HNC := hide hnc'
  clear hrep hx hln hlen hP IH hks hok hnc'
  generalize hkk : t.kids = ks at *
  have HKS := hide hkk; clear hkk
  rw [hs]
  go_enter Tryd.func22, Tryd.ntmps22
  go_wp2_with fail
  go_loopw [3, 4] (fun o i wr => ∃ (k : Nat) (ts : List UInt8), k ≤ ks.length ∧ i = .int .i64 k ∧ o = .string ⟨ts.toArray⟩ ∧ ts.length ≤ 1099511627774 ∧ Hid (ts = kxTo t.names ks k) ∧ wr.cell? ⟨w.heap.size, 1, none⟩ = some (.slice a3 ks.length cap3) ∧ wr.cell? ⟨w.heap.size, 2, none⟩ = some (.slice a ks.length cap) ∧ w.heap.size < wr.heap.size ∧ Below w.heap.size w wr) (fun _ i _ => ks.length - (intOf i).toNat)
  case atStart => exact ⟨0, [], Nat.zero_le _, rfl, rfl, by simp, by show [] = _; simp [kxTo, kxK], by simp [go_sem], by simp [go_sem], by simp, (Below.refl _ _).alloc (Nat.le_refl _) _⟩
  case round =>
    obtain ⟨k, ts, hk, rfl, rfl, hts, HTS, b1, b2, hbs, hb⟩ := hrel
    by_cases hlt : k < ks.length
    · obtain ⟨b, o, c, rfl, hpb, hcell, hrp⟩ := unhide HK k hlt
      have hcell' := hcell.carry (hb.block b (unhide HP b hpb))
      obtain ⟨c0, c1, c2⟩ := c
      obtain ⟨e0, e1, e2⟩ := hcell'
      simp only at e0 e1 e2
      have hmem : ks[k] ∈ t.kids := by rw [unhide HKS]; exact List.getElem_mem hlt
      have hsm : ksz ks[k] < n := by have := ksz_kid hmem; omega
      have hsucc := kxTo_succ t.names ks k hlt
      have hle := kxTo_le t.names ks (k + 1) (by omega)
      have hlen2 := Nat.le_trans hle (unhide HLN)
      have htk : (kxT ks[k]).length ≤ 1099511627776 := by rw [hsucc] at hlen2; simp at hlen2; omega
      obtain ⟨nb, no, rfl, hpn, hcn⟩ := unhide HNC k hlt
      have hcn' : wr.cell? ⟨nb, no + k, none⟩ = some (.string (t.names.getD k ByteArray.empty)) := by rw [hb.cell (unhide HP nb hpn)]; exact hcn
      have hah0 : kAhead t.names k = (if 0 < k then [44] else []) ++ ((t.names.getD k ByteArray.empty).data.toList ++ [58]) := rfl
      have hcall := unhide HI ks[k] hsm P ⟨c0, c1, c2⟩ wr.drew (fun b hb' => Nat.lt_of_lt_of_le (unhide HP b hb') hb.size) (KRep.carry (w' := wr.drew) (fun b hb' => hb.drew.block b (unhide HP b hb')) (fun _ h => h) _ _ hrp) (okDs_get (unhide HOK) k hlt) htk
      have hbw : b < wr.heap.size := Nat.lt_of_lt_of_le (unhide HP b hpb) hb.size
      have hnbw : nb < wr.heap.size := Nat.lt_of_lt_of_le (unhide HP nb hpn) hb.size
      rw [hsucc, ← HTS.out] at hlen2
      rw [← HTS.out] at hsucc
      generalize kxT ks[k] = tk at hcall hsucc htk hlen2
      generalize t.names.getD k ByteArray.empty = nm at *
      have hnm8 : ts.length + nm.size + tk.length + 2 ≤ 1099511627776 := by
        rw [hah0] at hlen2
        simp only [List.length_append, List.length_cons, List.length_nil] at hlen2
        have e : nm.data.toList.length = nm.size := rfl
        split at hlen2 <;> simp at hlen2 <;> omega
      have hcall2 : Calls Tryd.prog 22 #[.agg #[c0, c1, c2]] wr.drew fun e w1 => e = .returned (.string ⟨tk.toArray⟩) ∧ Hid (Below wr.heap.size wr w1) ∧ w1.cell? ⟨nb, no + k, none⟩ = some (.string nm) ∧ w1.cell? ⟨w.heap.size, 1, none⟩ = some (.slice (some ⟨nb, no, none⟩) ks.length cap3) ∧ w1.cell? ⟨w.heap.size, 2, none⟩ = some (.slice (some ⟨b, o, none⟩) ks.length cap) ∧ w1.cell? ⟨b, o + k * 3, none⟩ = some c0 ∧ w1.cell? ⟨b, o + k * 3 + 1, none⟩ = some c1 ∧ w1.cell? ⟨b, o + k * 3 + 2, none⟩ = some c2 :=
        hcall.mono fun e w1 ⟨h1, h2'⟩ => by
          have h2 : Below wr.heap.size wr w1 := (Below.refl _ wr).drew.trans h2'
          exact ⟨h1, h2, by rw [h2.cell hnbw]; exact hcn', by rw [h2.cell hbs]; exact b1, by rw [h2.cell hbs]; exact b2, by rw [h2.cell hbw]; exact e0, by rw [h2.cell hbw]; exact e1, by rw [h2.cell hbw]; exact e2⟩
      have HCALL := hide hcall2; have HSUCC := hide hsucc; have HLEN2 := hide hlen2; have HAH0 := hide hah0
      clear hcell hpb hrp hmem hcall hcall2 hsucc hle hlen2 hcn hpn hah0
      by_cases h0 : k = 0
      · have hah : kAhead t.names k = nm.data.toList ++ [58] := by rw [unhide HAH0, if_neg (by omega)]; rfl
        have hd : decide (0 < k) = false := by simp; omega
        have HK0 := hide h0
        have HAH := hide hah
        clear h0 hah
        have z1 : (⟨ts.toArray⟩ : ByteArray).size = ts.length := by simp [ByteArray.size]
        have z2 : (⟨tk.toArray⟩ : ByteArray).size = tk.length := by simp [ByteArray.size]
        have z3 : (⟨#[44]⟩ : ByteArray).size = 1 := rfl
        have z4 : (⟨#[58]⟩ : ByteArray).size = 1 := rfl
        have hA1 : ∀ T, binOp .add T (.string ⟨ts.toArray⟩) (.string nm) = pure (.string (⟨ts.toArray⟩ ++ nm)) := fun T => addS T _ _ (by (repeat rw [ByteArray.size_append]); omega)
        have hA2 : ∀ T, binOp .add T (.string (⟨ts.toArray⟩ ++ nm)) (.string ⟨#[58]⟩) = pure (.string (⟨ts.toArray⟩ ++ nm ++ ⟨#[58]⟩)) := fun T => addS T _ _ (by (repeat rw [ByteArray.size_append]); omega)
        have hA3 : ∀ T, binOp .add T (.string (⟨ts.toArray⟩ ++ nm ++ ⟨#[58]⟩)) (.string ⟨tk.toArray⟩) = pure (.string (⟨ts.toArray⟩ ++ nm ++ ⟨#[58]⟩ ++ ⟨tk.toArray⟩)) := fun T => addS T _ _ (by (repeat rw [ByteArray.size_append]); omega)
        clear z1 z2 z3 z4
        go_wp2_with fail
        go_region_held3 (fun W => W.cell? ⟨nb, no + k, none⟩ = some (.string nm) ∧ W.cell? ⟨w.heap.size, 1, none⟩ = some (.slice (some ⟨nb, no, none⟩) ks.length cap3) ∧ W.cell? ⟨w.heap.size, 2, none⟩ = some (.slice (some ⟨b, o, none⟩) ks.length cap) ∧ W.cell? ⟨b, o + k * 3, none⟩ = some c0 ∧ W.cell? ⟨b, o + k * 3 + 1, none⟩ = some c1 ∧ W.cell? ⟨b, o + k * 3 + 2, none⟩ = some c2) (first | exact ⟨f1, f2, f3, f4, f5, f6⟩ | go_keep)
          (first | (go_at_call 22; refine (unhide HCALL).mono ?_; rintro e w1 ⟨rfl, HB1, f1, f2, f3, f4, f5, f6⟩))
        all_goals
          go_wp2_with fail
          go_roundw
          case rel =>
            refine ⟨k + 1, ts ++ (kAhead t.names k ++ tk), by omega, by go_num, str_eq2 ?_, unhide HLEN2, (unhide HSUCC).symm, ?_, ?_, ?_, ?_⟩
            · rw [unhide HAH]; apply ByteArray.ext; simp
            · assumption
            · assumption
            · exact Nat.lt_of_lt_of_le hbs (unhide HB1).size
            · exact hb.trans ((unhide HB1).mono hb.size)
          case measure => simp [intOf]; omega
      · have hah : kAhead t.names k = [44] ++ (nm.data.toList ++ [58]) := by rw [unhide HAH0, if_pos (by omega)]
        have hd : decide (0 < k) = true := by simp; omega
        have HAH := hide hah
        clear h0 hah
        have z1 : (⟨ts.toArray⟩ : ByteArray).size = ts.length := by simp [ByteArray.size]
        have z2 : (⟨tk.toArray⟩ : ByteArray).size = tk.length := by simp [ByteArray.size]
        have z3 : (⟨#[44]⟩ : ByteArray).size = 1 := rfl
        have z4 : (⟨#[58]⟩ : ByteArray).size = 1 := rfl
        have hA1 : ∀ T, binOp .add T (.string (⟨ts.toArray⟩ ++ ⟨#[44]⟩)) (.string nm) = pure (.string ((⟨ts.toArray⟩ ++ ⟨#[44]⟩) ++ nm)) := fun T => addS T _ _ (by (repeat rw [ByteArray.size_append]); omega)
        have hA2 : ∀ T, binOp .add T (.string ((⟨ts.toArray⟩ ++ ⟨#[44]⟩) ++ nm)) (.string ⟨#[58]⟩) = pure (.string ((⟨ts.toArray⟩ ++ ⟨#[44]⟩) ++ nm ++ ⟨#[58]⟩)) := fun T => addS T _ _ (by (repeat rw [ByteArray.size_append]); omega)
        have hA3 : ∀ T, binOp .add T (.string ((⟨ts.toArray⟩ ++ ⟨#[44]⟩) ++ nm ++ ⟨#[58]⟩)) (.string ⟨tk.toArray⟩) = pure (.string ((⟨ts.toArray⟩ ++ ⟨#[44]⟩) ++ nm ++ ⟨#[58]⟩ ++ ⟨tk.toArray⟩)) := fun T => addS T _ _ (by (repeat rw [ByteArray.size_append]); omega)
        clear z1 z2 z3 z4
        go_wp2_with fail
        go_region_held3 (fun W => W.cell? ⟨nb, no + k, none⟩ = some (.string nm) ∧ W.cell? ⟨w.heap.size, 1, none⟩ = some (.slice (some ⟨nb, no, none⟩) ks.length cap3) ∧ W.cell? ⟨w.heap.size, 2, none⟩ = some (.slice (some ⟨b, o, none⟩) ks.length cap) ∧ W.cell? ⟨b, o + k * 3, none⟩ = some c0 ∧ W.cell? ⟨b, o + k * 3 + 1, none⟩ = some c1 ∧ W.cell? ⟨b, o + k * 3 + 2, none⟩ = some c2) (first | exact ⟨f1, f2, f3, f4, f5, f6⟩ | go_keep)
          (first | (go_at_call 22; refine (unhide HCALL).mono ?_; rintro e w1 ⟨rfl, HB1, f1, f2, f3, f4, f5, f6⟩))
        all_goals
          go_wp2_with fail
          go_roundw
          case rel =>
            refine ⟨k + 1, ts ++ (kAhead t.names k ++ tk), by omega, by go_num, str_eq2 ?_, unhide HLEN2, (unhide HSUCC).symm, ?_, ?_, ?_, ?_⟩
            · rw [unhide HAH]; apply ByteArray.ext; simp
            · assumption
            · assumption
            · exact Nat.lt_of_lt_of_le hbs (unhide HB1).size
            · exact hb.trans ((unhide HB1).mono hb.size)
          case measure => simp [intOf]; omega
    · go_wp2_with fail
      go_ret
      refine ⟨ret_str2 ?_, hb⟩
      obtain rfl : k = ks.length := by omega
      rw [unhide HX, ← kxTo_all, ← HTS.out]
      apply ByteArray.ext; simp

theorem ktext_all : ∀ n, KTextSaid n
  | 0 => fun t h => by omega
  | n + 1 => fun t hn P c w hP hrep ho hlen => by
    have hsh : shB t = true := by rw [okD_eq, Bool.and_eq_true] at ho; exact ho.1
    rcases shB_cases hsh with ⟨h, -, -⟩ | ⟨h, hk, -⟩ | ⟨h, hk, -⟩
    · exact ktext_123 t P c w hrep h
    · exact ktext_46 n (ktext_all n) t (by omega) P c w hP hrep ho hlen h hk
    · exact ktext_5 n (ktext_all n) t (by omega) P c w hP hrep ho hlen h hk

theorem l2Text_any (t : Kd) (P : Nat → Prop) (c : C3) (w : World) (hP : ∀ b, P b → b < w.heap.size) (hrep : KRep P w t c) (ho : okD t = true) (hlen : (kxT t).length ≤ 1099511627776) :
    Calls Tryd.prog 22 #[.agg #[c.c0, c.c1, c.c2]] w fun e w' => e = .returned (.string ⟨(kxT t).toArray⟩) ∧ Below w.heap.size w w' :=
  ktext_all (ksz t + 1) t (by omega) P c w hP hrep ho hlen
end Go.Proofs.YthkjhmcbmakkdaaDoor

/- The walk of the specification's KindWrite: it gives the text of a schema that is ok, and else none. No conditions. -/

namespace Go.Proofs.YthkjhmcbmakkdaaDoor
open Go Go.RowKit

/-- What KindWrite answers. -/
def kWr (t : Kd) : ByteArray := if 0 < qT t 1 then ⟨(kxT t).toArray⟩ else ByteArray.empty

set_option maxHeartbeats 400000 in
theorem specKindWrite_any (t : Kd) (P : Nat → Prop) (c : C3) (w : World) (hP : ∀ b, P b → b < w.heap.size) (hrep : KRep P w t c) :
    Calls Tryd.prog 6 #[.agg #[c.c0, c.c1, c.c2]] w fun e w' => e = .returned (.string (kWr t)) ∧ Below w.heap.size w w' := by
  obtain ⟨c0, c1, c2⟩ := c
  have hbx : ∀ o, Below w.heap.size w (w.alloc o) := fun o => (Below.refl _ _).alloc (Nat.le_refl _) o
  have hok : ∀ o, Calls Tryd.prog 15 #[.agg #[c0, c1, c2]] (w.alloc o) fun e w' => e = .returned (.bool (decide (0 < qT t 1))) ∧ Below (w.alloc o).heap.size (w.alloc o) w' := fun o =>
    specKindOk_any t P ⟨c0, c1, c2⟩ (w.alloc o) (fun b hb => Nat.lt_of_lt_of_le (hP b hb) (hbx o).size) (KRep.carry (fun b hb => (hbx o).block b (hP b hb)) (fun _ h => h) _ _ hrep)
  have hr := fun W (hW : Below w.heap.size w W) => KRep.carry (Q := P) (w' := W) (fun b hb => hW.block b (hP b hb)) (fun _ h => h) _ _ hrep
  obtain ⟨e0, -, ⟨a3, cap3, e1, -, -⟩, a, cap, e2, -, -⟩ := hrep.open
  simp only at e0 e1 e2
  subst e0 e1 e2
  by_cases hq : 0 < qT t 1
  · have hd : decide (0 < qT t 1) = true := decide_eq_true hq
    rw [hd] at hok
    have htx := fun W (hW : Below w.heap.size w W) => l2Text_any t P ⟨.int .i64 t.sort, .slice a3 t.names.length cap3, .slice a t.kids.length cap⟩ W (fun b hb => Nat.lt_of_lt_of_le (hP b hb) hW.size) (hr W hW) (ok_of_qT hq).1 (by have := kxT_short hq; omega)
    have hk : kWr t = ⟨(kxT t).toArray⟩ := if_pos hq
    rw [hk]
    generalize kxT t = tx at *
    have HOK := hide hok; have HTX := hide htx
    clear hok htx hbx hr hrep hP hd hq hk
    go_enter Tryd.func6, Tryd.ntmps6
    go_wp2_with fail
    refine (unhide HOK _).mono ?_
    rintro e w1 ⟨rfl, hb1⟩
    obtain ⟨q1, hs1, hb01⟩ := kbox1 hb1
    have k0 := q1.cell (i := 0) (by omega); have k1 := q1.cell (i := 1) (by omega); have k2 := q1.cell (i := 2) (by omega)
    simp only [row3] at k0 k1 k2
    have HB := hide hb01
    clear hb1 q1 hb01
    go_wp2_with fail
    refine (unhide HTX _ (unhide HB)).mono ?_
    rintro e w2 ⟨rfl, hb2⟩
    go_wp2_with fail
    go_ret
    exact ⟨rfl, (unhide HB).trans (hb2.mono (unhide HB).size)⟩
  · have hd : decide (0 < qT t 1) = false := decide_eq_false hq
    rw [hd] at hok
    have hk : kWr t = ByteArray.empty := if_neg hq
    rw [hk]
    have HOK := hide hok
    clear hok hbx hr hrep hP hd hq hk
    go_enter Tryd.func6, Tryd.ntmps6
    go_wp2_with fail
    refine (unhide HOK _).mono ?_
    rintro e w1 ⟨rfl, hb1⟩
    have HB := hide (kbox1 hb1).2.2
    clear hb1
    go_wp2_with fail
    go_ret
    exact ⟨rfl, unhide HB⟩
end Go.Proofs.YthkjhmcbmakkdaaDoor
