/- The walk of the specification's l1Text: it gives the text of a tree all of whose parts are ok. The text has at most 2^40 bytes. -/
import Derived.Test.YtgamonfmgngilaaGreatDoorPart27
import Derived.Test.YtgamonfmgngilaaGreatDoorPart05
namespace Go.Proofs.YtgamonfmgngilaaGreatDoor
open Go Go.RowKit

def TextSaid (n : Nat) : Prop := ∀ (t : Tr), tsz t < n → ∀ (P : Nat → Prop) (c : C5) (w : World), (∀ b, P b → b < w.heap.size) → Rep P w t c → okT t = true → (txT t).length ≤ 1099511627776 →
    Calls Tryz.prog 23 #[.agg #[c.c0, c.c1, c.c2, c.c3, c.c4]] w fun e w' => e = .returned (.string ⟨(txT t).toArray⟩) ∧ Below w.heap.size w w'

theorem str_eq {a b : ByteArray} (h : a = b) : Value.string a = .string b := by rw [h]

set_option maxRecDepth 100000 in
set_option maxHeartbeats 800000 in
theorem text_123 (t : Tr) (P : Nat → Prop) (c : C5) (w : World) (hrep : Rep P w t c) (ho : okT t = true) (hlen : (txT t).length ≤ 1099511627776) (hs : t.sort = 1 ∨ t.sort = 2 ∨ t.sort = 3) :
    Calls Tryz.prog 23 #[.agg #[c.c0, c.c1, c.c2, c.c3, c.c4]] w fun e w' => e = .returned (.string ⟨(txT t).toArray⟩) ∧ Below w.heap.size w w' := by
  have ha : aloneB t = true := by rw [okT_eq, Bool.and_eq_true] at ho; exact ho.1
  have hx := txT_eq t
  obtain ⟨c0, c1, c2, c3, c4⟩ := c
  obtain ⟨e0, e1, e2, -, -, htx, ⟨a3, cap3, e3, -, -⟩, a, cap, e4, -, -⟩ := hrep.open
  simp only at e0 e1 e2 e3 e4
  subst e0 e1 e2 e3 e4
  have hbx : ∀ o, Below w.heap.size w (w.alloc o) := fun o => (Below.refl _ _).alloc (Nat.le_refl _) o
  have HBX := hide hbx
  clear hrep hbx ho
  rcases hs with hs | hs | hs
  · have hn : -999999999 ≤ t.num ∧ t.num ≤ 999999999 := by unfold aloneB at ha; rw [if_pos hs] at ha; simp at ha; omega
    rw [if_pos hs] at hx
    have HX := hide hx
    have HDEC := hide (fun W => l6Dec_any t.num W hn.1 hn.2)
    rw [hx] at hlen ⊢
    generalize Lib.itoa t.num = ds at *
    clear hx ha hn hlen HX
    go_enter Tryz.func23, Tryz.ntmps23
    go_wp2_with (go_at_call 51; refine (unhide HDEC _).mono ?_; rintro e w1 ⟨rfl, hb⟩)
    go_ret
    exact ⟨rfl, (unhide HBX _).trans (hb.mono (unhide HBX _).size)⟩
  · rw [if_neg (by omega), if_pos hs] at hx
    have HX := hide hx
    have htx2 : t.text.size ≤ 1099511627776 := by rw [hx] at hlen; simp at hlen; omega
    clear hx ha hlen htx
    go_enter Tryz.func23, Tryz.ntmps23
    go_wp2_with fail
    go_ret
    exact ⟨ret_str (by rw [unhide HX]; apply ByteArray.ext; simp), unhide HBX _⟩
  · rw [if_neg (by omega), if_neg (by omega), if_pos hs] at hx
    by_cases h1 : t.num = 1
    · rw [if_pos h1] at hx
      have HX := hide hx
      clear hx ha hlen
      go_enter Tryz.func23, Tryz.ntmps23
      go_wp2_with fail
      go_ret
      exact ⟨ret_str (by rw [unhide HX]), unhide HBX _⟩
    · rw [if_neg h1] at hx
      have HX := hide hx
      have h1' : (t.num == 1) = false := by simpa using h1
      clear hx ha hlen
      go_enter Tryz.func23, Tryz.ntmps23
      go_wp2_with fail
      go_ret
      exact ⟨ret_str (by rw [unhide HX]), unhide HBX _⟩

set_option maxRecDepth 100000 in
set_option maxHeartbeats 1600000 in
theorem text_4 (n : Nat) (IH : TextSaid n) (t : Tr) (hn : tsz t ≤ n) (P : Nat → Prop) (c : C5) (w : World) (hP : ∀ b, P b → b < w.heap.size) (hrep : Rep P w t c) (ho : okT t = true) (hlen : (txT t).length ≤ 1099511627776) (hs : t.sort = 4) :
    Calls Tryz.prog 23 #[.agg #[c.c0, c.c1, c.c2, c.c3, c.c4]] w fun e w' => e = .returned (.string ⟨(txT t).toArray⟩) ∧ Below w.heap.size w w' := by
  rw [okT_eq, Bool.and_eq_true] at ho
  obtain ⟨ha, hok⟩ := ho
  have hx : txT t = [91] ++ txK false t.names 0 t.kids ++ [93] := by rw [txT_eq, if_neg (by omega), if_neg (by omega), if_neg (by omega), if_neg (by omega), if_neg (by omega)]
  have hln : (txK false t.names 0 t.kids).length ≤ 1099511627776 := by rw [hx] at hlen; simp at hlen; omega
  obtain ⟨c0, c1, c2, c3, c4⟩ := c
  obtain ⟨e0, e1, e2, -, -, htx, hns, a, cap, e4, hkl, hks⟩ := hrep.open
  simp only at e0 e1 e2 hns e4
  obtain ⟨a3, cap3, e3, hnl, hnc⟩ := hns
  subst e0 e1 e2 e3 e4
  have HX := hide hx; have HLN := hide hln; have HP := hide hP; have HI := hide IH; have HK := hide hks; have HOK := hide hok; have HNC := hide hnc
  clear hrep hx hln hlen hP IH hks hok ha hnc
  generalize hkk : t.kids = ks at *
  have HKS := hide hkk; clear hkk
  rw [hs]
  go_enter Tryz.func23, Tryz.ntmps23
  go_wp2_with fail
  go_loopw [3, 4] (fun o i wr => ∃ (k : Nat) (ts : List UInt8), k ≤ ks.length ∧ i = .int .i64 k ∧ o = .string ⟨ts.toArray⟩ ∧ ts.length ≤ 1099511627776 ∧ Hid (ts = txTo false t.names ks k) ∧ wr.cell? ⟨w.heap.size, 0, none⟩ = some (.int .i64 4) ∧ wr.cell? ⟨w.heap.size, 3, none⟩ = some (.slice a3 t.names.length cap3) ∧ wr.cell? ⟨w.heap.size, 4, none⟩ = some (.slice a ks.length cap) ∧ w.heap.size < wr.heap.size ∧ Below w.heap.size w wr) (fun _ i _ => ks.length - (intOf i).toNat)
  case atStart => exact ⟨0, [], Nat.zero_le _, rfl, rfl, by simp, by show [] = _; simp [txTo, txK], by simp [go_sem], by simp [go_sem], by simp [go_sem], by simp, (Below.refl _ _).alloc (Nat.le_refl _) _⟩
  case round =>
    obtain ⟨k, ts, hk, rfl, rfl, hts, HTS, b0, b3, b4, hbs, hb⟩ := hrel
    by_cases hlt : k < ks.length
    · obtain ⟨b, o, c, rfl, hpb, hcell, hrp⟩ := unhide HK k hlt
      have hcell' := hcell.carry (hb.block b (unhide HP b hpb))
      obtain ⟨c0, c1, c2, c3, c4⟩ := c
      obtain ⟨e0, e1, e2, e3, e4⟩ := hcell'
      simp only at e0 e1 e2 e3 e4
      have hmem : ks[k] ∈ t.kids := by rw [unhide HKS]; exact List.getElem_mem hlt
      have hsm : tsz ks[k] < n := by have := tsz_kid hmem; omega
      have hsucc := txTo_succ false t.names ks k hlt
      have hle := txTo_le false t.names ks (k + 1) (by omega)
      have hlen2 := Nat.le_trans hle (unhide HLN)
      have htk : (txT ks[k]).length ≤ 1099511627776 := by rw [hsucc] at hlen2; simp at hlen2; omega
      have hcall := unhide HI ks[k] hsm P ⟨c0, c1, c2, c3, c4⟩ wr (fun b hb' => Nat.lt_of_lt_of_le (unhide HP b hb') hb.size) (Rep.carry (fun b hb' => hb.block b (unhide HP b hb')) (fun _ h => h) _ _ hrp) (okK_get (unhide HOK) k hlt) htk
      rw [hsucc, ← HTS.out] at hlen2
      rw [← HTS.out] at hsucc
      generalize txT ks[k] = tk at hcall hsucc htk hlen2
      have HCALL := hide hcall; have HSUCC := hide hsucc; have HLEN2 := hide hlen2
      clear hcell hpb hrp hmem hcall hsucc hle hlen2
      by_cases h0 : k = 0
      · have hah : ahead false t.names k = [] := by subst h0; simp [ahead]
        have hd : decide (0 < k) = false := by simp; omega
        have HK0 := hide h0
        have HAH := hide hah
        clear h0 hah
        go_wp2_with (go_at_call 23; refine (unhide HCALL).mono ?_; rintro e w1 ⟨rfl, hb1⟩)
        go_roundw
        case rel =>
          refine ⟨k + 1, ts ++ (ahead false t.names k ++ tk), by omega, by go_num, str_eq ?_, unhide HLEN2, (unhide HSUCC).symm, ?_, ?_, ?_, ?_, ?_⟩
          · rw [unhide HAH]; apply ByteArray.ext; simp
          · rw [hb1.cell hbs]; exact b0
          · rw [hb1.cell hbs]; exact b3
          · rw [hb1.cell hbs]; exact b4
          · exact Nat.lt_of_lt_of_le hbs hb1.size
          · exact hb.trans (hb1.mono hb.size)
        case measure => simp [intOf]; omega
      · have hah : ahead false t.names k = [44] := by simp [ahead]; omega
        have hd : decide (0 < k) = true := by simp; omega
        have HAH := hide hah
        clear h0 hah
        go_wp2_with (go_at_call 23; refine (unhide HCALL).mono ?_; rintro e w1 ⟨rfl, hb1⟩)
        go_roundw
        case rel =>
          refine ⟨k + 1, ts ++ (ahead false t.names k ++ tk), by omega, by go_num, str_eq ?_, unhide HLEN2, (unhide HSUCC).symm, ?_, ?_, ?_, ?_, ?_⟩
          · rw [unhide HAH]; apply ByteArray.ext; simp
          · rw [hb1.cell hbs]; exact b0
          · rw [hb1.cell hbs]; exact b3
          · rw [hb1.cell hbs]; exact b4
          · exact Nat.lt_of_lt_of_le hbs hb1.size
          · exact hb.trans (hb1.mono hb.size)
        case measure => simp [intOf]; omega
    · go_wp2_with fail
      go_ret
      refine ⟨ret_str ?_, hb⟩
      obtain rfl : k = ks.length := by omega
      rw [unhide HX, ← txTo_all, ← HTS.out]
      apply ByteArray.ext; simp

set_option maxRecDepth 100000 in
set_option maxHeartbeats 1600000 in
theorem text_5 (n : Nat) (IH : TextSaid n) (t : Tr) (hn : tsz t ≤ n) (P : Nat → Prop) (c : C5) (w : World) (hP : ∀ b, P b → b < w.heap.size) (hrep : Rep P w t c) (ho : okT t = true) (hlen : (txT t).length ≤ 1099511627776) (hs : t.sort = 5) :
    Calls Tryz.prog 23 #[.agg #[c.c0, c.c1, c.c2, c.c3, c.c4]] w fun e w' => e = .returned (.string ⟨(txT t).toArray⟩) ∧ Below w.heap.size w w' := by
  rw [okT_eq, Bool.and_eq_true] at ho
  obtain ⟨ha, hok⟩ := ho
  have hx : txT t = [123] ++ txK true t.names 0 t.kids ++ [125] := by rw [txT_eq, if_neg (by omega), if_neg (by omega), if_neg (by omega), if_neg (by omega), if_pos hs]
  have hln : (txK true t.names 0 t.kids).length ≤ 1099511627776 := by rw [hx] at hlen; simp at hlen; omega
  have hnk : t.names.length = t.kids.length := by unfold aloneB at ha; rw [if_neg (by omega), if_neg (by omega), if_neg (by omega), if_neg (by omega), if_pos hs] at ha; simp at ha; omega
  obtain ⟨c0, c1, c2, c3, c4⟩ := c
  obtain ⟨e0, e1, e2, -, -, htx, hns, a, cap, e4, hkl, hks⟩ := hrep.open
  simp only at e0 e1 e2 hns e4
  obtain ⟨a3, cap3, e3, hnl, hnc⟩ := hns
  subst e0 e1 e2 e3 e4
  have hnc' : ∀ i, i < t.kids.length → ∃ b o, a3 = some ⟨b, o, none⟩ ∧ P b ∧ w.cell? ⟨b, o + i, none⟩ = some (.string (t.names.getD i ByteArray.empty)) := fun i hi => by
    obtain ⟨b, o, h1, h2, h3, _⟩ := hnc i (by omega)
    rw [getD_lt _ _ (by omega)]
    exact ⟨b, o, h1, h2, h3⟩
  rw [hnk]
  clear hnk hnc hnl
  have HX := hide hx; have HLN := hide hln; have HP := hide hP; have HI := hide IH; have HK := hide hks; have HOK := hide hok; have HNC := hide hnc'
  clear hrep hx hln hlen hP IH hks hok ha hnc'
  generalize hkk : t.kids = ks at *
  have HKS := hide hkk; clear hkk
  rw [hs]
  go_enter Tryz.func23, Tryz.ntmps23
  go_wp2_with fail
  go_loopw [3, 4] (fun o i wr => ∃ (k : Nat) (ts : List UInt8), k ≤ ks.length ∧ i = .int .i64 k ∧ o = .string ⟨ts.toArray⟩ ∧ ts.length ≤ 1099511627776 ∧ Hid (ts = txTo true t.names ks k) ∧ wr.cell? ⟨w.heap.size, 0, none⟩ = some (.int .i64 5) ∧ wr.cell? ⟨w.heap.size, 3, none⟩ = some (.slice a3 ks.length cap3) ∧ wr.cell? ⟨w.heap.size, 4, none⟩ = some (.slice a ks.length cap) ∧ w.heap.size < wr.heap.size ∧ Below w.heap.size w wr) (fun _ i _ => ks.length - (intOf i).toNat)
  case atStart => exact ⟨0, [], Nat.zero_le _, rfl, rfl, by simp, by show [] = _; simp [txTo, txK], by simp [go_sem], by simp [go_sem], by simp [go_sem], by simp, (Below.refl _ _).alloc (Nat.le_refl _) _⟩
  case round =>
    obtain ⟨k, ts, hk, rfl, rfl, hts, HTS, b0, b3, b4, hbs, hb⟩ := hrel
    by_cases hlt : k < ks.length
    · obtain ⟨b, o, c, rfl, hpb, hcell, hrp⟩ := unhide HK k hlt
      have hcell' := hcell.carry (hb.block b (unhide HP b hpb))
      obtain ⟨c0, c1, c2, c3, c4⟩ := c
      obtain ⟨e0, e1, e2, e3, e4⟩ := hcell'
      simp only at e0 e1 e2 e3 e4
      have hmem : ks[k] ∈ t.kids := by rw [unhide HKS]; exact List.getElem_mem hlt
      have hsm : tsz ks[k] < n := by have := tsz_kid hmem; omega
      have hsucc := txTo_succ true t.names ks k hlt
      have hle := txTo_le true t.names ks (k + 1) (by omega)
      have hlen2 := Nat.le_trans hle (unhide HLN)
      have htk : (txT ks[k]).length ≤ 1099511627776 := by rw [hsucc] at hlen2; simp at hlen2; omega
      have hcall := unhide HI ks[k] hsm P ⟨c0, c1, c2, c3, c4⟩ wr (fun b hb' => Nat.lt_of_lt_of_le (unhide HP b hb') hb.size) (Rep.carry (fun b hb' => hb.block b (unhide HP b hb')) (fun _ h => h) _ _ hrp) (okK_get (unhide HOK) k hlt) htk
      rw [hsucc, ← HTS.out] at hlen2
      rw [← HTS.out] at hsucc
      generalize txT ks[k] = tk at hcall hsucc htk hlen2
      have HCALL := hide hcall; have HSUCC := hide hsucc; have HLEN2 := hide hlen2
      clear hcell hpb hrp hmem hcall hsucc hle hlen2
      obtain ⟨nb, no, rfl, hpn, hcn⟩ := unhide HNC k hlt
      have hcn' : wr.cell? ⟨nb, no + k, none⟩ = some (.string (t.names.getD k ByteArray.empty)) := by rw [hb.cell (unhide HP nb hpn)]; exact hcn
      have hah0 : ahead true t.names k = (if 0 < k then [44] else []) ++ ((t.names.getD k ByteArray.empty).data.toList ++ [58]) := by unfold ahead; rw [if_pos rfl]
      have hl2 := unhide HLEN2
      generalize t.names.getD k ByteArray.empty = nm at *
      have hnm8 : ts.length + nm.size + tk.length ≤ 1099511627776 := by
        rw [hah0] at hl2
        simp only [List.length_append] at hl2
        have e : nm.data.toList.length = nm.size := rfl
        omega
      have HAH0 := hide hah0
      clear hcn hpn hah0 hl2
      by_cases h0 : k = 0
      · have hah : ahead true t.names k = nm.data.toList ++ [58] := by rw [unhide HAH0, if_neg (by omega)]; rfl
        have hd : decide (0 < k) = false := by simp; omega
        have HK0 := hide h0
        have HAH := hide hah
        clear h0 hah
        go_wp2_with (go_at_call 23; refine (unhide HCALL).mono ?_; rintro e w1 ⟨rfl, hb1⟩)
        go_roundw
        case rel =>
          refine ⟨k + 1, ts ++ (ahead true t.names k ++ tk), by omega, by go_num, str_eq ?_, unhide HLEN2, (unhide HSUCC).symm, ?_, ?_, ?_, ?_, ?_⟩
          · rw [unhide HAH]; apply ByteArray.ext; simp
          · rw [hb1.cell hbs]; exact b0
          · rw [hb1.cell hbs]; exact b3
          · rw [hb1.cell hbs]; exact b4
          · exact Nat.lt_of_lt_of_le hbs hb1.size
          · exact hb.trans (hb1.mono hb.size)
        case measure => simp [intOf]; omega
      · have hah : ahead true t.names k = [44] ++ (nm.data.toList ++ [58]) := by rw [unhide HAH0, if_pos (by omega)]
        have hd : decide (0 < k) = true := by simp; omega
        have HAH := hide hah
        clear h0 hah
        go_wp2_with (go_at_call 23; refine (unhide HCALL).mono ?_; rintro e w1 ⟨rfl, hb1⟩)
        go_roundw
        case rel =>
          refine ⟨k + 1, ts ++ (ahead true t.names k ++ tk), by omega, by go_num, str_eq ?_, unhide HLEN2, (unhide HSUCC).symm, ?_, ?_, ?_, ?_, ?_⟩
          · rw [unhide HAH]; apply ByteArray.ext; simp
          · rw [hb1.cell hbs]; exact b0
          · rw [hb1.cell hbs]; exact b3
          · rw [hb1.cell hbs]; exact b4
          · exact Nat.lt_of_lt_of_le hbs hb1.size
          · exact hb.trans (hb1.mono hb.size)
        case measure => simp [intOf]; omega
    · go_wp2_with fail
      go_ret
      refine ⟨ret_str ?_, hb⟩
      obtain rfl : k = ks.length := by omega
      rw [unhide HX, ← txTo_all, ← HTS.out]
      apply ByteArray.ext; simp
end Go.Proofs.YtgamonfmgngilaaGreatDoor

/- The walk of the specification's l1Text, all sorts: it gives the text of a tree all of whose parts are ok. The text has at most 2^40 bytes. -/

namespace Go.Proofs.YtgamonfmgngilaaGreatDoor
open Go Go.RowKit

set_option maxRecDepth 100000 in
set_option maxHeartbeats 800000 in
theorem text_6 (n : Nat) (IH : TextSaid n) (t : Tr) (hn : tsz t ≤ n) (P : Nat → Prop) (c : C5) (w : World) (hP : ∀ b, P b → b < w.heap.size) (hrep : Rep P w t c) (ho : okT t = true) (hlen : (txT t).length ≤ 1099511627776) (hs : t.sort = 6) :
    Calls Tryz.prog 23 #[.agg #[c.c0, c.c1, c.c2, c.c3, c.c4]] w fun e w' => e = .returned (.string ⟨(txT t).toArray⟩) ∧ Below w.heap.size w w' := by
  rw [okT_eq, Bool.and_eq_true] at ho
  obtain ⟨ha, hok⟩ := ho
  have hx : txT t = if t.kids.length = 0 then [126] else [63] ++ txM t.kids := by rw [txT_eq, if_neg (by omega), if_neg (by omega), if_neg (by omega), if_pos hs]
  obtain ⟨c0, c1, c2, c3, c4⟩ := c
  obtain ⟨e0, e1, e2, -, -, htx, hns, a, cap, e4, hkl, hks⟩ := hrep.open
  simp only at e0 e1 e2 hns e4
  obtain ⟨a3, cap3, e3, hnl, hnc⟩ := hns
  subst e0 e1 e2 e3 e4
  clear hnc hnl ha hrep
  have hbx : ∀ o, Below w.heap.size w (w.alloc o) := fun o => (Below.refl _ _).alloc (Nat.le_refl _) o
  have HBX := hide hbx
  clear hbx
  rw [hs]
  by_cases h0 : t.kids.length = 0
  · rw [if_pos h0] at hx
    have HX := hide hx
    rw [h0]
    clear hx hlen IH hks hok
    go_enter Tryz.func23, Tryz.ntmps23
    go_wp2_with fail
    go_ret
    exact ⟨ret_str (by rw [unhide HX]), unhide HBX _⟩
  · have hp : 0 < t.kids.length := by omega
    rw [if_neg h0, txM_get hp] at hx
    obtain ⟨b, o, c, rfl, hpb, hcell, hrp⟩ := hks 0 hp
    rw [Nat.zero_mul, Nat.add_zero] at hcell
    have hcell' := hcell.carry (w' := w.alloc (.cells #[.int .i64 6, .int .i64 t.num, .string t.text, .slice a3 t.names.length cap3, .slice (some ⟨b, o, none⟩) t.kids.length cap] 26)) ((unhide HBX _).block b (hP b hpb))
    obtain ⟨c0, c1, c2, c3, c4⟩ := c
    obtain ⟨e0, e1, e2, e3, e4⟩ := hcell'
    simp only at e0 e1 e2 e3 e4
    have hmem : t.kids[0] ∈ t.kids := List.getElem_mem hp
    have hsm : tsz t.kids[0] < n := by have := tsz_kid hmem; omega
    have hlen' : (txT t.kids[0]).length ≤ 1099511627775 := by rw [hx] at hlen; simp at hlen; omega
    have hcall := fun W (hW : Below w.heap.size w W) => IH t.kids[0] hsm P ⟨c0, c1, c2, c3, c4⟩ W (fun b hb' => Nat.lt_of_lt_of_le (hP b hb') hW.size) (Rep.carry (fun b hb' => hW.block b (hP b hb')) (fun _ h => h) _ _ hrp) (okK_get hok 0 hp) (by omega)
    generalize txT t.kids[0] = tk at *
    have HCALL := hide hcall
    have HX := hide hx
    have hd : decide (t.kids.length = 0) = false := by simpa using h0
    clear hcall hx IH hks hok hmem hcell hrp hlen hsm
    generalize t.kids.length = kl at *
    go_enter Tryz.func23, Tryz.ntmps23
    go_wp2_with (go_at_call 23; refine (unhide HCALL _ (unhide HBX _)).mono ?_; rintro e w1 ⟨rfl, hb1⟩)
    go_ret
    refine ⟨ret_str ?_, (unhide HBX _).trans (hb1.mono (unhide HBX _).size)⟩
    rw [unhide HX]; apply ByteArray.ext; simp

theorem sort_of_ok {t : Tr} (h : okT t = true) : t.sort = 1 ∨ t.sort = 2 ∨ t.sort = 3 ∨ t.sort = 4 ∨ t.sort = 5 ∨ t.sort = 6 := by
  rw [okT_eq, Bool.and_eq_true] at h
  have ha := h.1
  unfold aloneB at ha
  by_cases h1 : t.sort = 1; exact Or.inl h1
  by_cases h2 : t.sort = 2; exact Or.inr (Or.inl h2)
  by_cases h3 : t.sort = 3; exact Or.inr (Or.inr (Or.inl h3))
  by_cases h4 : t.sort = 4; exact Or.inr (Or.inr (Or.inr (Or.inl h4)))
  by_cases h5 : t.sort = 5; exact Or.inr (Or.inr (Or.inr (Or.inr (Or.inl h5))))
  by_cases h6 : t.sort = 6; exact Or.inr (Or.inr (Or.inr (Or.inr (Or.inr h6))))
  simp [h1, h2, h3, h4, h5, h6] at ha

theorem text_all : ∀ n, TextSaid n
  | 0 => fun t h => by omega
  | n + 1 => fun t hn P c w hP hrep ho hlen => by
    rcases sort_of_ok ho with h | h | h | h | h | h
    · exact text_123 t P c w hrep ho hlen (Or.inl h)
    · exact text_123 t P c w hrep ho hlen (Or.inr (Or.inl h))
    · exact text_123 t P c w hrep ho hlen (Or.inr (Or.inr h))
    · exact text_4 n (text_all n) t (by omega) P c w hP hrep ho hlen h
    · exact text_5 n (text_all n) t (by omega) P c w hP hrep ho hlen h
    · exact text_6 n (text_all n) t (by omega) P c w hP hrep ho hlen h

theorem l1Text_any (t : Tr) (P : Nat → Prop) (c : C5) (w : World) (hP : ∀ b, P b → b < w.heap.size) (hrep : Rep P w t c) (ho : okT t = true) (hlen : (txT t).length ≤ 1099511627776) :
    Calls Tryz.prog 23 #[.agg #[c.c0, c.c1, c.c2, c.c3, c.c4]] w fun e w' => e = .returned (.string ⟨(txT t).toArray⟩) ∧ Below w.heap.size w w' :=
  text_all (tsz t + 1) t (by omega) P c w hP hrep ho hlen
end Go.Proofs.YtgamonfmgngilaaGreatDoor
