/- A part. -/
import Derived.Test.YtbkagahmiibclaaGreatDoorPart13
import Derived.Deep.RegionHeld3
namespace Go.Proofs.YtbkagahmiibclaaGreatDoor
open Go Go.RowKit
set_option maxRecDepth 100000
set_option maxHeartbeats 6400000
def TextSaid (n : Nat) : Prop := ∀ (t : Tr), tsz t < n → ∀ (P : Nat → Prop) (c : C5) (w : World), (∀ b, P b → b < w.heap.size) → Rep P w t c → okT t = true → (txT t).length ≤ 1099511627776 →
    Calls Tryz.prog 35 #[.agg #[c.c0, c.c1, c.c2, c.c3, c.c4]] w fun e w' => e = .returned (.string ⟨(txT t).toArray⟩) ∧ Below w.heap.size w w'
theorem str_eq {a b : ByteArray} (h : a = b) : Value.string a = .string b := by rw [h]
theorem text_123 (t : Tr) (P : Nat → Prop) (c : C5) (w : World) (hrep : Rep P w t c) (ho : okT t = true) (hlen : (txT t).length ≤ 1099511627776) (hs : t.sort = 1 ∨ t.sort = 2 ∨ t.sort = 3) :
 Calls Tryz.prog 35 #[.agg #[c.c0, c.c1, c.c2, c.c3, c.c4]] w fun e w' => e = .returned (.string ⟨(txT t).toArray⟩) ∧ Below w.heap.size w w' := by
 have ha : aloneB t = true := by rw [okT_eq, Bool.and_eq_true] at ho; exact ho.1
 have hx := txT_eq t
 obtain ⟨c0, c1, c2, c3, c4⟩ := c
 obtain ⟨e0, e1, e2, -, -, htx, ⟨a3, cap3, e3, -, -⟩, a, cap, e4, -, -⟩ := hrep.open
 simp only at e0 e1 e2 e3 e4
 subst e0 e1 e2 e3 e4
 have hbx : ∀ o, Below w.heap.size w (w.alloc o) := fun o => (Below.refl _ _).alloc (Nat.le_refl _) o
 have HBX := hH hbx
 clear hrep hbx ho
 rcases hs with hs | hs | hs
 · have hn : -999999999 ≤ t.num ∧ t.num ≤ 999999999 := by unfold aloneB at ha; rw [if_pos hs] at ha; simp at ha; omega
   rw [if_pos hs] at hx
   have HX := hH hx
   have HDEC := hH (fun W => l6Dec_any t.num W hn.1 hn.2)
   rw [hx] at hlen ⊢
   generalize Lib.itoa t.num = ds at *
   clear hx ha hn hlen HX
   go_enter Tryz.func35, Tryz.ntmps35
   go_wp2_with (go_at_call 34; refine (uh HDEC _).mono ?_; rintro e w1 ⟨rfl, hb⟩)
   go_ret
   exact ⟨rfl, (uh HBX _).trans (hb.mono (uh HBX _).size)⟩
 · rw [if_neg (by omega), if_pos hs] at hx
   have HX := hH hx
   have htx2 : t.text.size ≤ 1099511627776 := by rw [hx] at hlen; simp at hlen; omega
   clear hx ha hlen htx
   go_enter Tryz.func35, Tryz.ntmps35
   go_wp2_with fail
   go_ret
   exact ⟨ret_str (by rw [uh HX]; apply ByteArray.ext; simp), uh HBX _⟩
 · rw [if_neg (by omega), if_neg (by omega), if_pos hs] at hx
   by_cases h1 : t.num = 1
   · rw [if_pos h1] at hx
     have HX := hH hx
     clear hx ha hlen
     go_enter Tryz.func35, Tryz.ntmps35
     go_wp2_with fail
     go_ret
     exact ⟨ret_str (by rw [uh HX]), uh HBX _⟩
   · rw [if_neg h1] at hx
     have HX := hH hx
     have h1' : (t.num == 1) = false := by simpa using h1
     clear hx ha hlen
     go_enter Tryz.func35, Tryz.ntmps35
     go_wp2_with fail
     go_ret
     exact ⟨ret_str (by rw [uh HX]), uh HBX _⟩
theorem text_4 (n : Nat) (IH : TextSaid n) (t : Tr) (hn : tsz t ≤ n) (P : Nat → Prop) (c : C5) (w : World) (hP : ∀ b, P b → b < w.heap.size) (hrep : Rep P w t c) (ho : okT t = true) (hlen : (txT t).length ≤ 1099511627776) (hs : t.sort = 4) :
 Calls Tryz.prog 35 #[.agg #[c.c0, c.c1, c.c2, c.c3, c.c4]] w fun e w' => e = .returned (.string ⟨(txT t).toArray⟩) ∧ Below w.heap.size w w' := by
 rw [okT_eq, Bool.and_eq_true] at ho
 obtain ⟨ha, hok⟩ := ho
 have hx : txT t = [91] ++ txK false t.names 0 t.kids ++ [93] := by rw [txT_eq, if_neg (by omega), if_neg (by omega), if_neg (by omega), if_neg (by omega), if_neg (by omega)]
 have hln : (txK false t.names 0 t.kids).length ≤ 1099511627776 := by rw [hx] at hlen; simp at hlen; omega
 obtain ⟨c0, c1, c2, c3, c4⟩ := c
 obtain ⟨e0, e1, e2, -, -, htx, hns, a, cap, e4, hkl, hks⟩ := hrep.open
 simp only at e0 e1 e2 hns e4
 obtain ⟨a3, cap3, e3, hnl, hnc⟩ := hns
 subst e0 e1 e2 e3 e4
 have HX := hH hx; have HLN := hH hln; have HP := hH hP; have HI := hH IH; have HK := hH hks; have HOK := hH hok; have HNC := hH hnc
 clear hrep hx hln hlen hP IH hks hok ha hnc
 generalize hkk : t.kids = ks at *
 have HKS := hH hkk; clear hkk
 rw [hs]
 go_enter Tryz.func35, Tryz.ntmps35
 go_wp2_with fail
 go_loopw [3, 4] (fun o i wr => ∃ (k : Nat) (ts : List UInt8), k ≤ ks.length ∧ i = .int .i64 k ∧ o = .string ⟨ts.toArray⟩ ∧ ts.length ≤ 1099511627776 ∧ Hid (ts = txTo false t.names ks k) ∧ wr.cell? ⟨w.heap.size, 0, none⟩ = some (.int .i64 4) ∧ wr.cell? ⟨w.heap.size, 3, none⟩ = some (.slice a3 t.names.length cap3) ∧ wr.cell? ⟨w.heap.size, 4, none⟩ = some (.slice a ks.length cap) ∧ w.heap.size < wr.heap.size ∧ Below w.heap.size w wr) (fun _ i _ => ks.length - (intOf i).toNat)
 case atStart => exact ⟨0, [], Nat.zero_le _, rfl, rfl, by simp, by show [] = _; simp [txTo, txK], by simp [go_sem], by simp [go_sem], by simp [go_sem], by simp, (Below.refl _ _).alloc (Nat.le_refl _) _⟩
 case round =>
  obtain ⟨k, ts, hk, rfl, rfl, hts, HTS, b0, b3, b4, hbs, hb⟩ := hrel
  by_cases hlt : k < ks.length
  · obtain ⟨b, o, c, rfl, hpb, hcell, hrp⟩ := uh HK k hlt
    have hcell' := hcell.carry (hb.block b (uh HP b hpb))
    obtain ⟨c0, c1, c2, c3, c4⟩ := c
    obtain ⟨e0, e1, e2, e3, e4⟩ := hcell'
    simp only at e0 e1 e2 e3 e4
    have hmem : ks[k] ∈ t.kids := by rw [uh HKS]; exact List.getElem_mem hlt
    have hsm : tsz ks[k] < n := by have := tsz_kid hmem; omega
    have hsucc := txTo_succ false t.names ks k hlt
    have hle := txTo_le false t.names ks (k + 1) (by omega)
    have hlen2 := Nat.le_trans hle (uh HLN)
    have htk : (txT ks[k]).length ≤ 1099511627776 := by rw [hsucc] at hlen2; simp at hlen2; omega
    have hcall := uh HI ks[k] hsm P ⟨c0, c1, c2, c3, c4⟩ wr (fun b hb' => Nat.lt_of_lt_of_le (uh HP b hb') hb.size) (Rep.carry (fun b hb' => hb.block b (uh HP b hb')) (fun _ h => h) _ _ hrp) (okK_get (uh HOK) k hlt) htk
    rw [hsucc, ← HTS.out] at hlen2
    rw [← HTS.out] at hsucc
    generalize txT ks[k] = tk at hcall hsucc htk hlen2
    have HCALL := hH hcall; have HSUCC := hH hsucc; have HLEN2 := hH hlen2
    clear hcell hpb hrp hmem hcall hsucc hle hlen2
    by_cases h0 : k = 0
    · have hah : ahead false t.names k = [] := by subst h0; simp [ahead]
      have hd : decide (0 < k) = false := by simp; omega
      have HK0 := hH h0
      have HAH := hH hah
      clear h0 hah
      go_wp2_with (go_at_call 35; refine (uh HCALL).mono ?_; rintro e w1 ⟨rfl, hb1⟩)
      go_roundw
      case rel =>
       refine ⟨k + 1, ts ++ (ahead false t.names k ++ tk), by omega, by go_num, str_eq ?_, uh HLEN2, (uh HSUCC).symm, ?_, ?_, ?_, ?_, ?_⟩
       · rw [uh HAH]; apply ByteArray.ext; simp
       · rw [hb1.cell hbs]; exact b0
       · rw [hb1.cell hbs]; exact b3
       · rw [hb1.cell hbs]; exact b4
       · exact Nat.lt_of_lt_of_le hbs hb1.size
       · exact hb.trans (hb1.mono hb.size)
      case measure => simp [intOf]; omega
    · have hah : ahead false t.names k = [44] := by simp [ahead]; omega
      have hd : decide (0 < k) = true := by simp; omega
      have HAH := hH hah
      clear h0 hah
      go_wp2_with (go_at_call 35; refine (uh HCALL).mono ?_; rintro e w1 ⟨rfl, hb1⟩)
      go_roundw
      case rel =>
       refine ⟨k + 1, ts ++ (ahead false t.names k ++ tk), by omega, by go_num, str_eq ?_, uh HLEN2, (uh HSUCC).symm, ?_, ?_, ?_, ?_, ?_⟩
       · rw [uh HAH]; apply ByteArray.ext; simp
       · rw [hb1.cell hbs]; exact b0
       · rw [hb1.cell hbs]; exact b3
       · rw [hb1.cell hbs]; exact b4
       · exact Nat.lt_of_lt_of_le hbs hb1.size
       · exact hb.trans (hb1.mono hb.size)
      case measure => simp [intOf]; omega
  · go_wp2_with fail
    go_ret
    refine ⟨ret_str ?_, hb⟩
    obtain rfl : k = ks.length := by omega
    rw [uh HX, ← txTo_all, ← HTS.out]
    apply ByteArray.ext; simp
theorem text_5 (n : Nat) (IH : TextSaid n) (t : Tr) (hn : tsz t ≤ n) (P : Nat → Prop) (c : C5) (w : World) (hP : ∀ b, P b → b < w.heap.size) (hrep : Rep P w t c) (ho : okT t = true) (hlen : (txT t).length ≤ 1099511627776) (hs : t.sort = 5) :
 Calls Tryz.prog 35 #[.agg #[c.c0, c.c1, c.c2, c.c3, c.c4]] w fun e w' => e = .returned (.string ⟨(txT t).toArray⟩) ∧ Below w.heap.size w w' := by
 rw [okT_eq, Bool.and_eq_true] at ho
 obtain ⟨ha, hok⟩ := ho
 have hx : txT t = [123] ++ txK true t.names 0 t.kids ++ [125] := by rw [txT_eq, if_neg (by omega), if_neg (by omega), if_neg (by omega), if_neg (by omega), if_pos hs]
 have hln : (txK true t.names 0 t.kids).length ≤ 1099511627776 := by rw [hx] at hlen; simp at hlen; omega
 have hnk : t.names.length = t.kids.length := by unfold aloneB at ha; rw [if_neg (by omega), if_neg (by omega), if_neg (by omega), if_neg (by omega), if_pos hs] at ha; simp at ha; omega
 obtain ⟨c0, c1, c2, c3, c4⟩ := c
 obtain ⟨e0, e1, e2, -, -, htx, hns, a, cap, e4, hkl, hks⟩ := hrep.open
 simp only at e0 e1 e2 hns e4
 obtain ⟨a3, cap3, e3, hnl, hnc⟩ := hns
 subst e0 e1 e2 e3 e4
 have hnc' : ∀ i, i < t.kids.length → ∃ b o, a3 = some ⟨b, o, none⟩ ∧ P b ∧ w.cell? ⟨b, o + i, none⟩ = some (.string (t.names.getD i ByteArray.empty)) := fun i hi => by
  obtain ⟨b, o, h1, h2, h3, _⟩ := hnc i (by omega)
  rw [getD_lt _ _ (by omega)]
  exact ⟨b, o, h1, h2, h3⟩
 rw [hnk]
 clear hnk hnc hnl
 have HX := hH hx; have HLN := hH hln; have HP := hH hP; have HI := hH IH; have HK := hH hks; have HOK := hH hok; have HNC := hH hnc'
 clear hrep hx hln hlen hP IH hks hok ha hnc'
 generalize hkk : t.kids = ks at *
 have HKS := hH hkk; clear hkk
 rw [hs]
 go_enter Tryz.func35, Tryz.ntmps35
 go_wp2_with fail
 go_loopw [3, 4] (fun o i wr => ∃ (k : Nat) (ts : List UInt8), k ≤ ks.length ∧ i = .int .i64 k ∧ o = .string ⟨ts.toArray⟩ ∧ ts.length ≤ 1099511627776 ∧ Hid (ts = txTo true t.names ks k) ∧ wr.cell? ⟨w.heap.size, 0, none⟩ = some (.int .i64 5) ∧ wr.cell? ⟨w.heap.size, 3, none⟩ = some (.slice a3 ks.length cap3) ∧ wr.cell? ⟨w.heap.size, 4, none⟩ = some (.slice a ks.length cap) ∧ w.heap.size < wr.heap.size ∧ Below w.heap.size w wr) (fun _ i _ => ks.length - (intOf i).toNat)
 case atStart => exact ⟨0, [], Nat.zero_le _, rfl, rfl, by simp, by show [] = _; simp [txTo, txK], by simp [go_sem], by simp [go_sem], by simp [go_sem], by simp, (Below.refl _ _).alloc (Nat.le_refl _) _⟩
 case round =>
  obtain ⟨k, ts, hk, rfl, rfl, hts, HTS, b0, b3, b4, hbs, hb⟩ := hrel
  by_cases hlt : k < ks.length
  · obtain ⟨b, o, c, rfl, hpb, hcell, hrp⟩ := uh HK k hlt
    have hcell' := hcell.carry (hb.block b (uh HP b hpb))
    obtain ⟨c0, c1, c2, c3, c4⟩ := c
    obtain ⟨e0, e1, e2, e3, e4⟩ := hcell'
    simp only at e0 e1 e2 e3 e4
    have hmem : ks[k] ∈ t.kids := by rw [uh HKS]; exact List.getElem_mem hlt
    have hsm : tsz ks[k] < n := by have := tsz_kid hmem; omega
    have hsucc := txTo_succ true t.names ks k hlt
    have hle := txTo_le true t.names ks (k + 1) (by omega)
    have hlen2 := Nat.le_trans hle (uh HLN)
    have htk : (txT ks[k]).length ≤ 1099511627776 := by rw [hsucc] at hlen2; simp at hlen2; omega
    have hcall := uh HI ks[k] hsm P ⟨c0, c1, c2, c3, c4⟩ wr (fun b hb' => Nat.lt_of_lt_of_le (uh HP b hb') hb.size) (Rep.carry (fun b hb' => hb.block b (uh HP b hb')) (fun _ h => h) _ _ hrp) (okK_get (uh HOK) k hlt) htk
    rw [hsucc, ← HTS.out] at hlen2
    rw [← HTS.out] at hsucc
    generalize txT ks[k] = tk at hcall hsucc htk hlen2
    have HCALL := hH hcall; have HSUCC := hH hsucc; have HLEN2 := hH hlen2
    clear hcell hpb hrp hmem hcall hsucc hle hlen2
    obtain ⟨nb, no, rfl, hpn, hcn⟩ := uh HNC k hlt
    have hcn' : wr.cell? ⟨nb, no + k, none⟩ = some (.string (t.names.getD k ByteArray.empty)) := by rw [hb.cell (uh HP nb hpn)]; exact hcn
    have hah0 : ahead true t.names k = (if 0 < k then [44] else []) ++ ((t.names.getD k ByteArray.empty).data.toList ++ [58]) := by unfold ahead; rw [if_pos rfl]
    have hl2 := uh HLEN2
    generalize t.names.getD k ByteArray.empty = nm at *
    have hnm8 : ts.length + nm.size + tk.length ≤ 1099511627776 := by
     rw [hah0] at hl2
     simp only [List.length_append] at hl2
     have e : nm.data.toList.length = nm.size := rfl
     omega
    have HAH0 := hH hah0
    clear hcn hpn hah0 hl2
    by_cases h0 : k = 0
    · have hah : ahead true t.names k = nm.data.toList ++ [58] := by rw [uh HAH0, if_neg (by omega)]; rfl
      have hd : decide (0 < k) = false := by simp; omega
      have HK0 := hH h0
      have HAH := hH hah
      clear h0 hah
      go_wp2_with (go_at_call 35; refine (uh HCALL).mono ?_; rintro e w1 ⟨rfl, hb1⟩)
      go_roundw
      case rel =>
       refine ⟨k + 1, ts ++ (ahead true t.names k ++ tk), by omega, by go_num, str_eq ?_, uh HLEN2, (uh HSUCC).symm, ?_, ?_, ?_, ?_, ?_⟩
       · rw [uh HAH]; apply ByteArray.ext; simp
       · rw [hb1.cell hbs]; exact b0
       · rw [hb1.cell hbs]; exact b3
       · rw [hb1.cell hbs]; exact b4
       · exact Nat.lt_of_lt_of_le hbs hb1.size
       · exact hb.trans (hb1.mono hb.size)
      case measure => simp [intOf]; omega
    · have hah : ahead true t.names k = [44] ++ (nm.data.toList ++ [58]) := by rw [uh HAH0, if_pos (by omega)]
      have hd : decide (0 < k) = true := by simp; omega
      have HAH := hH hah
      clear h0 hah
      go_wp2_with (go_at_call 35; refine (uh HCALL).mono ?_; rintro e w1 ⟨rfl, hb1⟩)
      go_roundw
      case rel =>
       refine ⟨k + 1, ts ++ (ahead true t.names k ++ tk), by omega, by go_num, str_eq ?_, uh HLEN2, (uh HSUCC).symm, ?_, ?_, ?_, ?_, ?_⟩
       · rw [uh HAH]; apply ByteArray.ext; simp
       · rw [hb1.cell hbs]; exact b0
       · rw [hb1.cell hbs]; exact b3
       · rw [hb1.cell hbs]; exact b4
       · exact Nat.lt_of_lt_of_le hbs hb1.size
       · exact hb.trans (hb1.mono hb.size)
      case measure => simp [intOf]; omega
  · go_wp2_with fail
    go_ret
    refine ⟨ret_str ?_, hb⟩
    obtain rfl : k = ks.length := by omega
    rw [uh HX, ← txTo_all, ← HTS.out]
    apply ByteArray.ext; simp

theorem text_6 (n : Nat) (IH : TextSaid n) (t : Tr) (hn : tsz t ≤ n) (P : Nat → Prop) (c : C5) (w : World) (hP : ∀ b, P b → b < w.heap.size) (hrep : Rep P w t c) (ho : okT t = true) (hlen : (txT t).length ≤ 1099511627776) (hs : t.sort = 6) :
 Calls Tryz.prog 35 #[.agg #[c.c0, c.c1, c.c2, c.c3, c.c4]] w fun e w' => e = .returned (.string ⟨(txT t).toArray⟩) ∧ Below w.heap.size w w' := by
 rw [okT_eq, Bool.and_eq_true] at ho
 obtain ⟨ha, hok⟩ := ho
 have hx : txT t = if t.kids.length = 0 then [126] else [63] ++ txM t.kids := by rw [txT_eq, if_neg (by omega), if_neg (by omega), if_neg (by omega), if_pos hs]
 obtain ⟨c0, c1, c2, c3, c4⟩ := c
 obtain ⟨e0, e1, e2, -, -, htx, hns, a, cap, e4, hkl, hks⟩ := hrep.open
 simp only at e0 e1 e2 hns e4
 obtain ⟨a3, cap3, e3, hnl, hnc⟩ := hns
 subst e0 e1 e2 e3 e4
 clear hnc hnl ha hrep
 have hbx : ∀ o, Below w.heap.size w (w.alloc o) := fun o => (Below.refl _ _).alloc (Nat.le_refl _) o
 have HBX := hH hbx
 clear hbx
 rw [hs]
 by_cases h0 : t.kids.length = 0
 · rw [if_pos h0] at hx
   have HX := hH hx
   rw [h0]
   clear hx hlen IH hks hok
   go_enter Tryz.func35, Tryz.ntmps35
   go_wp2_with fail
   go_ret
   exact ⟨ret_str (by rw [uh HX]), uh HBX _⟩
 · have hp : 0 < t.kids.length := by omega
   rw [if_neg h0, txM_get hp] at hx
   obtain ⟨b, o, c, rfl, hpb, hcell, hrp⟩ := hks 0 hp
   rw [Nat.zero_mul, Nat.add_zero] at hcell
   have hcell' := hcell.carry (w' := w.alloc (.cells #[.int .i64 6, .int .i64 t.num, .string t.text, .slice a3 t.names.length cap3, .slice (some ⟨b, o, none⟩) t.kids.length cap] 26)) ((uh HBX _).block b (hP b hpb))
   obtain ⟨c0, c1, c2, c3, c4⟩ := c
   obtain ⟨e0, e1, e2, e3, e4⟩ := hcell'
   simp only at e0 e1 e2 e3 e4
   have hmem : t.kids[0] ∈ t.kids := List.getElem_mem hp
   have hsm : tsz t.kids[0] < n := by have := tsz_kid hmem; omega
   have hlen' : (txT t.kids[0]).length ≤ 1099511627775 := by rw [hx] at hlen; simp at hlen; omega
   have hcall := fun W (hW : Below w.heap.size w W) => IH t.kids[0] hsm P ⟨c0, c1, c2, c3, c4⟩ W (fun b hb' => Nat.lt_of_lt_of_le (hP b hb') hW.size) (Rep.carry (fun b hb' => hW.block b (hP b hb')) (fun _ h => h) _ _ hrp) (okK_get hok 0 hp) (by omega)
   generalize txT t.kids[0] = tk at *
   have HCALL := hH hcall
   have HX := hH hx
   have hd : decide (t.kids.length = 0) = false := by simpa using h0
   clear hcall hx IH hks hok hmem hcell hrp hlen hsm
   generalize t.kids.length = kl at *
   go_enter Tryz.func35, Tryz.ntmps35
   go_wp2_with (go_at_call 35; refine (uh HCALL _ (uh HBX _)).mono ?_; rintro e w1 ⟨rfl, hb1⟩)
   go_ret
   refine ⟨ret_str ?_, (uh HBX _).trans (hb1.mono (uh HBX _).size)⟩
   rw [uh HX]; apply ByteArray.ext; simp
theorem sort_of_ok {t : Tr} (h : okT t = true) : t.sort = 1 ∨ t.sort = 2 ∨ t.sort = 3 ∨ t.sort = 4 ∨ t.sort = 5 ∨ t.sort = 6 := by
 rw [okT_eq, Bool.and_eq_true] at h
 have ha := h.1
 unfold aloneB at ha
 by_cases h1 : t.sort = 1; exact Or.inl h1
 by_cases h2 : t.sort = 2; exact Or.inr (Or.inl h2)
 by_cases h3 : t.sort = 3; exact Or.inr (Or.inr (Or.inl h3))
 by_cases h4 : t.sort = 4; exact Or.inr (Or.inr (Or.inr (Or.inl h4)))
 by_cases h5 : t.sort = 5; exact Or.inr (Or.inr (Or.inr (Or.inr (Or.inl h5))))
 by_cases h6 : t.sort = 6; exact Or.inr (Or.inr (Or.inr (Or.inr (Or.inr h6))))
 simp [h1, h2, h3, h4, h5, h6] at ha
theorem text_all : ∀ n, TextSaid n
 | 0 => fun t h => by omega
 | n + 1 => fun t hn P c w hP hrep ho hlen => by
   rcases sort_of_ok ho with h | h | h | h | h | h
   · exact text_123 t P c w hrep ho hlen (Or.inl h)
   · exact text_123 t P c w hrep ho hlen (Or.inr (Or.inl h))
   · exact text_123 t P c w hrep ho hlen (Or.inr (Or.inr h))
   · exact text_4 n (text_all n) t (by omega) P c w hP hrep ho hlen h
   · exact text_5 n (text_all n) t (by omega) P c w hP hrep ho hlen h
   · exact text_6 n (text_all n) t (by omega) P c w hP hrep ho hlen h
theorem l1Text_any (t : Tr) (P : Nat → Prop) (c : C5) (w : World) (hP : ∀ b, P b → b < w.heap.size) (hrep : Rep P w t c) (ho : okT t = true) (hlen : (txT t).length ≤ 1099511627776) :
 Calls Tryz.prog 35 #[.agg #[c.c0, c.c1, c.c2, c.c3, c.c4]] w fun e w' => e = .returned (.string ⟨(txT t).toArray⟩) ∧ Below w.heap.size w w' :=
 text_all (tsz t + 1) t (by omega) P c w hP hrep ho hlen

theorem evT_bytes (ty : ByteArray) (v : Int) (t : Tr) : ((ty ++ (⟨#[64]⟩ : ByteArray)) ++ (⟨(Lib.itoa v).toArray⟩ : ByteArray)) ++ (⟨(txT t).toArray⟩ : ByteArray) = ⟨(evT ty v t).toArray⟩ := by
 apply ByteArray.ext
 unfold evT
 simp
def evW (ty : ByteArray) (v : Int) (t : Tr) : ByteArray := if evOkB ty v t = true then ⟨(evT ty v t).toArray⟩ else ⟨#[]⟩
structure EwAt (w : World) (f : Nat → Value) (W : World) : Prop where
 below : Below w.heap.size w W
 box : W.rowIs w.heap.size 28 7 f
theorem EwAt.on {w W W' : World} {f : Nat → Value} (h : EwAt w f W) (hb : Below W.heap.size W W') : EwAt w f W' := ⟨h.below.trans (hb.mono h.below.size), h.box.of_block (hb.block _ h.box.lt)⟩
theorem EwAt.drew {w W : World} {f : Nat → Value} (h : EwAt w f W) : EwAt w f W.drew := h.on (Below.refl _ _).drew
theorem EwAt.cells {w W : World} {a b c0 c1 c2 c3 c4 : Value} (h : EwAt w (row7 a b c0 c1 c2 c3 c4) W) : W.cell? ⟨w.heap.size, 0, none⟩ = some a ∧ W.cell? ⟨w.heap.size, 1, none⟩ = some b ∧ W.cell? ⟨w.heap.size, 2, none⟩ = some c0 ∧ W.cell? ⟨w.heap.size, 3, none⟩ = some c1 ∧ W.cell? ⟨w.heap.size, 4, none⟩ = some c2 ∧ W.cell? ⟨w.heap.size, 5, none⟩ = some c3 ∧ W.cell? ⟨w.heap.size, 6, none⟩ = some c4 :=
 ⟨h.box.cell (i := 0) (by omega), h.box.cell (i := 1) (by omega), h.box.cell (i := 2) (by omega), h.box.cell (i := 3) (by omega), h.box.cell (i := 4) (by omega), h.box.cell (i := 5) (by omega), h.box.cell (i := 6) (by omega)⟩
theorem addW (t : TypeId) (a b : ByteArray) (h : a.size + b.size ≤ 9223372036854775807) : binOp .add t (.string a) (.string b) = pure (.string (a ++ b)) := by
 have h2 : ¬ (((a.size + b.size : Nat) : Int) > IntKind.i64.max) := by
  rw [show IntKind.i64.max = 9223372036854775807 from rfl]; omega
 simp only [binOp, Op.stringOp]
 rw [if_neg h2]
theorem specEventWrite_any (ty : ByteArray) (ver : Int) (t : Tr) (P : Nat → Prop) (c : C5) (w : World) (hP : ∀ b, P b → b < w.heap.size) (hrep : Rep P w t c) (hty : ty.size ≤ 9223372036854775807) (hver : I64 ver) :
 Calls Tryz.prog 11 #[.agg #[.string ty, .int .i64 ver, c.c0, c.c1, c.c2, c.c3, c.c4]] w fun e w' => e = .returned (.string (evW ty ver t)) ∧ Below w.heap.size w w' := by
 obtain ⟨c0, c1, c2, c3, c4⟩ := c
 obtain ⟨W0, hW0⟩ : ∃ W0, w.alloc (.cells #[.string ty, .int .i64 ver, c0, c1, c2, c3, c4] 28) = W0 := ⟨_, rfl⟩
 have hst : EwAt w (row7 (.string ty) (.int .i64 ver) c0 c1 c2 c3 c4) W0 := by
  rw [← hW0]
  exact ⟨(Below.refl _ _).alloc (Nat.le_refl _) _, row7_alloc w _ _ _ _ _ _ _ _⟩
 have hok := specEventOk_any ty ver t P ⟨c0, c1, c2, c3, c4⟩ W0 (fun b hb => Nat.lt_of_lt_of_le (hP b hb) hst.below.size) (Rep.carry (fun b hb => hst.below.block b (hP b hb)) (fun _ h => h) _ _ hrep) hty hver
 obtain ⟨x0, x1, x2, x3, x4, x5, x6⟩ := cs7 hst.box (by omega)
 simp only [row7] at x0 x1 x2 x3 x4 x5 x6
 have hW : evW ty ver t = if evOkB ty ver t = true then ⟨(evT ty ver t).toArray⟩ else ⟨#[]⟩ := rfl
 cases hb : evOkB ty ver t with
 | false =>
   rw [hb] at hok hW
   rw [if_neg (by decide)] at hW
   have HOK := hH hok; have HST := hH hst; have HW := hH hW
   clear hok hst hrep hP hb hW
   go_enter Tryz.func11, Tryz.ntmps11
   go_wp2_with (go_at_call 6; refine (uh HOK).mono ?_; rintro e w1 ⟨rfl, hb1⟩)
   go_ret
   exact ⟨by rw [uh HW]; rfl, ((uh HST).on hb1).below⟩
 | true =>
   rw [hb] at hok hW
   rw [if_pos rfl] at hW
   obtain ⟨k1, k2, k3, k4, k5⟩ := evOk_open hb
   have hs1 := (nmty_size k1).1
   have hs2 := itoa_short (n := ver) ⟨by omega, by omega⟩
   have hs3 := txT_small k5
   have hokt := okT_of_wlk _ _ _ _ k5
   have hdec : ∀ W, EwAt w (row7 (.string ty) (.int .i64 ver) c0 c1 c2 c3 c4) W → Calls Tryz.prog 34 #[.int .i64 ver] W fun e w' => e = .returned (.string ⟨(Lib.itoa ver).toArray⟩) ∧ Hid (EwAt w (row7 (.string ty) (.int .i64 ver) c0 c1 c2 c3 c4) w') ∧ w'.cell? ⟨w.heap.size, 0, none⟩ = some (.string ty) ∧ w'.cell? ⟨w.heap.size, 1, none⟩ = some (.int .i64 ver) ∧ w'.cell? ⟨w.heap.size, 2, none⟩ = some c0 ∧ w'.cell? ⟨w.heap.size, 3, none⟩ = some c1 ∧ w'.cell? ⟨w.heap.size, 4, none⟩ = some c2 ∧ w'.cell? ⟨w.heap.size, 5, none⟩ = some c3 ∧ w'.cell? ⟨w.heap.size, 6, none⟩ = some c4 := fun W hW => (l6Dec_any ver W (by omega) (by omega)).mono fun e w' ⟨h1, h2⟩ => ⟨h1, hH (hW.on h2), (hW.on h2).cells⟩
   have htx : ∀ W, EwAt w (row7 (.string ty) (.int .i64 ver) c0 c1 c2 c3 c4) W → Calls Tryz.prog 35 #[.agg #[c0, c1, c2, c3, c4]] W fun e w' => e = .returned (.string ⟨(txT t).toArray⟩) ∧ Hid (EwAt w (row7 (.string ty) (.int .i64 ver) c0 c1 c2 c3 c4) w') ∧ w'.cell? ⟨w.heap.size, 0, none⟩ = some (.string ty) ∧ w'.cell? ⟨w.heap.size, 1, none⟩ = some (.int .i64 ver) ∧ w'.cell? ⟨w.heap.size, 2, none⟩ = some c0 ∧ w'.cell? ⟨w.heap.size, 3, none⟩ = some c1 ∧ w'.cell? ⟨w.heap.size, 4, none⟩ = some c2 ∧ w'.cell? ⟨w.heap.size, 5, none⟩ = some c3 ∧ w'.cell? ⟨w.heap.size, 6, none⟩ = some c4 := fun W hW => (l1Text_any t P ⟨c0, c1, c2, c3, c4⟩ W (fun b hb => Nat.lt_of_lt_of_le (hP b hb) hW.below.size) (Rep.carry (fun b hb => hW.below.block b (hP b hb)) (fun _ h => h) _ _ hrep) hokt (by omega)).mono fun e w' ⟨h1, h2⟩ => ⟨h1, hH (hW.on h2), (hW.on h2).cells⟩
   have hbytes := evT_bytes ty ver t
   have HOK := hH hok; have HST := hH hst; have HW := hH hW; have HDEC := hH hdec; have HTX := hH htx; have HBY := hH hbytes
   clear hok hst hrep hP hb hW hdec htx hokt k1 k4 k5 hbytes
   generalize evT ty ver t = X at *
   generalize Lib.itoa ver = dd at *
   generalize txT t = tt at *
   have z1 : (⟨dd.toArray⟩ : ByteArray).size = dd.length := by simp [ByteArray.size]
   have z2 : (⟨tt.toArray⟩ : ByteArray).size = tt.length := by simp [ByteArray.size]
   have z3 : (⟨#[64]⟩ : ByteArray).size = 1 := rfl
   have hA1 : ∀ T, binOp .add T (.string ty) (.string ⟨#[64]⟩) = pure (.string (ty ++ ⟨#[64]⟩)) := fun T => addW T _ _ (by (repeat rw [ByteArray.size_append]); omega)
   have hA2 : ∀ T, binOp .add T (.string (ty ++ ⟨#[64]⟩)) (.string ⟨dd.toArray⟩) = pure (.string ((ty ++ ⟨#[64]⟩) ++ ⟨dd.toArray⟩)) := fun T => addW T _ _ (by (repeat rw [ByteArray.size_append]); omega)
   have hA3 : ∀ T, binOp .add T (.string ((ty ++ ⟨#[64]⟩) ++ ⟨dd.toArray⟩)) (.string ⟨tt.toArray⟩) = pure (.string (((ty ++ ⟨#[64]⟩) ++ ⟨dd.toArray⟩) ++ ⟨tt.toArray⟩)) := fun T => addW T _ _ (by (repeat rw [ByteArray.size_append]); omega)
   clear z1 z2 z3
   go_enter Tryz.func11, Tryz.ntmps11
   go_wp2_with (go_at_call 6; refine (uh HOK).mono ?_; rintro e w1 ⟨rfl, hb1⟩; have hst1 := (uh HST).on hb1; have HST1 := hH hst1; have HST1D := hH hst1.drew; obtain ⟨y0, y1, y2, y3, y4, y5, y6⟩ := cs7 hst1.box (by omega); simp only [row7] at y0 y1 y2 y3 y4 y5 y6; clear hst1 hb1 HST HOK)
   go_region_held3 (fun W => W.cell? ⟨w.heap.size, 0, none⟩ = some (.string ty) ∧ W.cell? ⟨w.heap.size, 1, none⟩ = some (.int .i64 ver) ∧ W.cell? ⟨w.heap.size, 2, none⟩ = some c0 ∧ W.cell? ⟨w.heap.size, 3, none⟩ = some c1 ∧ W.cell? ⟨w.heap.size, 4, none⟩ = some c2 ∧ W.cell? ⟨w.heap.size, 5, none⟩ = some c3 ∧ W.cell? ⟨w.heap.size, 6, none⟩ = some c4) (first | exact ⟨v0, v1, v2, v3, v4, v5, v6⟩ | exact ⟨z0, z1, z2, z3, z4, z5, z6⟩ | go_keep)
    (first
      | (go_at_call 34; refine (uh HDEC _ (by first | exact uh HST1D | exact uh HST1 | exact uh HSTB | exact (uh HSTB).drew)).mono ?_; rintro e w2 ⟨rfl, HSTA, z0, z1, z2, z3, z4, z5, z6⟩)
      | (go_at_call 35; refine (uh HTX _ (by first | exact uh HST1D | exact uh HST1 | exact uh HSTA | exact (uh HSTA).drew)).mono ?_; rintro e w3 ⟨rfl, HSTB, v0, v1, v2, v3, v4, v5, v6⟩))
   all_goals
    go_wp2_with fail
    go_ret
    refine ⟨ret_str ?_, ?_⟩
    · rw [uh HW]; exact uh HBY
    · first | exact (uh HSTB).below | exact (uh HSTA).below

theorem evW_size {ty : ByteArray} {ver : Int} {t : Tr} (h : evOkB ty ver t = true) : (evW ty ver t).size ≤ 10000 ∧ (evW ty ver t).data.toList = evT ty ver t := by
 obtain ⟨k1, k2, k3, k4, k5⟩ := evOk_open h
 have hs1 := (nmty_size k1).1
 have hs2 := itoa_short (n := ver) ⟨by omega, by omega⟩
 have hs3 := txT_small k5
 have e : evW ty ver t = ⟨(evT ty ver t).toArray⟩ := by unfold evW; rw [if_pos h]
 refine ⟨?_, by rw [e]⟩
 rw [e]
 show (evT ty ver t).toArray.size ≤ 10000
 unfold evT
 simp
 omega
theorem evW_le (ty : ByteArray) (ver : Int) (t : Tr) : (evW ty ver t).size ≤ 10000 := by
 cases h : evOkB ty ver t with
 | true => exact (evW_size h).1
 | false =>
   unfold evW
   rw [if_neg (by rw [h]; decide)]
   exact Nat.zero_le _
structure EvBx (w wr : World) (ty : ByteArray) (ver : Int) (t : Tr) (c : C5) (B : Nat) : Prop where
 below : Below w.heap.size w wr
 box : wr.rowIs B 28 7 (row7 (.string ty) (.int .i64 ver) c.c0 c.c1 c.c2 c.c3 c.c4)
 rep : Rep (fun x => x < B) wr t c
section
variable {w wr w' : World} {ty : ByteArray} {ver : Int} {t : Tr} {c : C5} {B : Nat}
theorem EvBx.on (h : EvBx w wr ty ver t c B) (hb : Below wr.heap.size wr w') : EvBx w w' ty ver t c B :=
 ⟨h.below.trans (hb.mono h.below.size), h.box.of_block (hb.block _ h.box.lt), Rep.carry (fun x hx => hb.block x (Nat.lt_trans hx h.box.lt)) (fun _ h => h) _ _ h.rep⟩
theorem EvBx.start {c0 c1 c2 c3 c4 : Value} (hb : Below w.heap.size w wr) (h : Rep (fun x => x < wr.heap.size) wr t ⟨c0, c1, c2, c3, c4⟩) : EvBx w (wr.alloc (.cells #[.string ty, .int .i64 ver, c0, c1, c2, c3, c4] 28)) ty ver t ⟨c0, c1, c2, c3, c4⟩ wr.heap.size :=
 ⟨hb.alloc hb.size _, row7_alloc wr _ _ c0 c1 c2 c3 c4 _, Rep.carry (fun _ hx => Below.heap_alloc _ _ _ hx) (fun _ h => h) _ _ h⟩
theorem EvBx.cells (h : EvBx w wr ty ver t c B) : wr.cell? ⟨B, 0, none⟩ = some (.string ty) ∧ wr.cell? ⟨B, 1, none⟩ = some (.int .i64 ver) ∧ wr.cell? ⟨B, 2, none⟩ = some c.c0 ∧ wr.cell? ⟨B, 3, none⟩ = some c.c1 ∧ wr.cell? ⟨B, 4, none⟩ = some c.c2 ∧ wr.cell? ⟨B, 5, none⟩ = some c.c3 ∧ wr.cell? ⟨B, 6, none⟩ = some c.c4 :=
 ⟨h.box.cell (i := 0) (by omega), h.box.cell (i := 1) (by omega), h.box.cell (i := 2) (by omega), h.box.cell (i := 3) (by omega), h.box.cell (i := 4) (by omega), h.box.cell (i := 5) (by omega), h.box.cell (i := 6) (by omega)⟩
end

def er10 : List ByteArray := [⟨#[]⟩, ⟨#[111, 114, 100, 101, 114, 64, 49]⟩, ⟨#[111, 114, 100, 101, 114, 64, 48, 49, 123, 125]⟩, ⟨#[111, 114, 100, 101, 114, 64, 48, 123, 125]⟩, ⟨#[111, 114, 100, 101, 114, 64, 49, 51, 123, 125]⟩, ⟨#[64, 49, 123, 125]⟩, ⟨#[111, 114, 100, 101, 114, 64, 45, 49, 123, 125]⟩, ⟨#[111, 114, 100, 101, 114, 64, 49, 91, 93]⟩, ⟨#[111, 114, 100, 101, 114, 64, 49, 50, 123, 125]⟩, ⟨#[111, 114, 100, 101, 114, 32, 64, 49, 123, 125]⟩]
theorem drawEventRead_any (w : World) (a : Option Addr) (cap : Nat) (l : List UInt8) (hv : BytesAt w (.slice a l.length cap) l) (hcap : l.length ≤ cap) :
 Calls Tryz.prog 17 #[.slice a l.length cap] w fun e w' => ∃ s : ByteArray, e = .returned (.string s) ∧ s.size ≤ 1000000 ∧ Below w.heap.size w w' := by
 have HOP := hH (l6Open_any w a cap l hv hcap)
 clear hv
 go_enter Tryz.func17, Tryz.ntmps17
 go_wp2_with fail
 refine (uh HOP).mono ?_
 rintro e w1 ⟨v', b', rfl, hdr, hb1⟩
 have HPK := hH (pick_any w.heap.size w1 v' b' 0 20 hdr (by omega) (by omega))
 have HB1 := hH hb1
 have hs1 := hb1.size
 have hR1 := hdr.cells.lt
 clear HOP hdr hb1
 have hbel : ∀ W, But w.heap.size w1 W → Below w.heap.size w W := fun W hW => (uh HB1).trans ⟨hW.os, hW.tape, hW.output, hW.size, fun i hi => hW.at (by omega) (by omega)⟩
 have HBEL := hH hbel
 clear hbel
 go_wp2_with fail
 refine (uh HPK).mono ?_
 rintro e w2 ⟨r, rfl, hr, HD2, HB2⟩
 clear HPK
 by_cases h0 : r = 0
 · subst h0
   have HOF := hH (of_row w.heap.size w2 v' b' (0 + 1) HD2.out (by omega) er10 (by decide) (by decide) (fun i hi => by
    have hi' : i < 10 := hi
    rcases (show i = 0 ∨ i = 1 ∨ i = 2 ∨ i = 3 ∨ i = 4 ∨ i = 5 ∨ i = 6 ∨ i = 7 ∨ i = 8 ∨ i = 9 by omega) with rfl | rfl | rfl | rfl | rfl | rfl | rfl | rfl | rfl | rfl <;> decide))
   go_wp2_with fail
   refine (uh HOF).mono ?_
   rintro e w3 ⟨x, rfl, hx, HD3, HB3⟩
   go_wp2_with fail
   go_ret
   exact ⟨x, rfl, by omega, uh HBEL _ (HB2.out.trans HB3.out)⟩
 · have z0 : ((r : Int) == 0) = false := beq_eq_false_iff_ne.2 (by omega)
   have HC := hH (l5Event_any w.heap.size w2 v' b' (0 + 1) HD2.out (by omega))
   go_wp2_with fail
   refine (uh HC).mono ?_
   rintro e w3 ⟨ty, ver, tt, ⟨c0, c1, c2, c3, c4⟩, p3, rfl, hty, hver, hr3, hd3, hp3, hb3⟩
   have HCW := hH (specEventWrite_any ty ver tt _ ⟨c0, c1, c2, c3, c4⟩ w3 (fun x hx => hx.2) hr3 (by omega) hver)
   have HD3 := hH hd3; have HB3 := hH hb3
   have hsz := evW_le ty ver tt
   clear hr3 hd3 hb3 HC
   go_wp2_with fail
   refine (uh HCW).mono ?_
   rintro e w4 ⟨rfl, hb4⟩
   have HP4 := hH (pick_any w.heap.size w4 v' b' p3 3 ((uh HD3).on hb4) (by omega) (by omega))
   have HB4 := hH (HB2.out.trans ((uh HB3).trans (But.of_below hb4)))
   generalize evW ty ver tt = S at *
   clear HCW hb4 HB2 HB3 HD3
   go_wp2_with fail
   refine (uh HP4).mono ?_
   rintro e w5 ⟨r5, rfl, hr5, HD5, HB5⟩
   clear HP4
   by_cases h5 : r5 = 0
   · subst h5
     have HBD := hH (l5Bend_any w.heap.size w5 v' b' (p3 + 1) S HD5.out (by omega) (by omega))
     go_wp2_with fail
     refine (uh HBD).mono ?_
     rintro e w6 ⟨out, p6, rfl, ho, hp6, HD6, HB6⟩
     go_wp2_with fail
     go_ret
     exact ⟨out, rfl, by omega, uh HBEL _ ((uh HB4).trans (HB5.out.trans HB6.out))⟩
   · have z5 : ((r5 : Int) == 0) = false := beq_eq_false_iff_ne.2 (by omega)
     go_wp2_with fail
     go_ret
     exact ⟨S, rfl, by omega, uh HBEL _ ((uh HB4).trans HB5.out)⟩

def RdEndU {α : Type} (R : Nat) (w w' : World) (v : Value) (b : List UInt8) (a : Nat) (res : Option (α × List UInt8)) (val : α → Value) (e : Ending) : Prop :=
 But R w w' ∧ match res with
  | some (x, rest) => e = .returned (val x) ∧ ∃ a', a < a' ∧ Cu R w' v b a' ∧ rest = b.drop a'
  | none => e = fltE
theorem psz_cons {r p a : Nat} {x : UInt8} {l : List UInt8} : psz (r + 1) p a (x :: l) = if x.toNat < 128 then (if a + x.toNat % 128 * p ≤ 999999999 ∧ (0 < x.toNat ∨ p = 1) then some (a + x.toNat % 128 * p, l) else none) else psz r (p * 128) (a + x.toNat % 128 * p) l := by rw [psz]
theorem pow_bound {r : Nat} (h : r < 5) : 128 ^ r ≤ 268435456 ∧ 0 < 128 ^ r := by
 rcases (show r = 0 ∨ r = 1 ∨ r = 2 ∨ r = 3 ∨ r = 4 by omega) with rfl | rfl | rfl | rfl | rfl <;> decide
theorem sizeP_any (R : Nat) (w : World) (v : Value) (b : List UInt8) (a : Nat) (h : Cu R w v b a) :
 Calls Tryz.prog 146 #[.pointer (some ⟨R, 0, none⟩)] w fun e w' => RdEndU R w w' v b a (psz 5 1 0 (b.drop a)) (fun s => .int .i64 (s : Int)) e := by
 have HC := hH h
 clear h
 go_enter Tryz.func146, Tryz.ntmps146
 go_wp2_with fail
 go_loopw [3, 4] (fun sz pl wr => ∃ (k p acc a' : Nat), k ≤ 5 ∧ sz = .int .i64 (acc : Int) ∧ pl = .int .i64 (p : Int) ∧ Hid (p = 128 ^ k) ∧ acc < p ∧ p ≤ 34359738368 ∧ Hid (Cu R wr v b a') ∧ Hid (But R w wr) ∧ Hid (psz (5 - k) p acc (b.drop a') = psz 5 1 0 (b.drop a)) ∧ a ≤ a') (fun _ pl _ => 34359738369 - (intOf pl).toNat)
 case atStart => exact ⟨0, 1, 0, a, by omega, rfl, rfl, rfl, by omega, by omega, HC, But.refl _ _, rfl, Nat.le_refl _⟩
 case round =>
  obtain ⟨k, p, acc, a', hk, rfl, rfl, HP, hac, hp9, HCU, HB, HZ, haa⟩ := hrel
  by_cases hk5 : k = 5
  · have hpp : p = 34359738368 := by rw [HP.out, hk5]
    have hno : psz 5 1 0 (b.drop a) = none := by rw [← HZ.out, hk5]; rfl
    have HNO := hH hno
    clear hno HP
    go_wp2_with fail
    refine ⟨rfl, HB.out, ?_⟩
    rw [uh HNO]
  · have hpb := pow_bound (r := k) (by omega)
    rw [← HP.out] at hpb
    obtain ⟨hpb1, hpb0⟩ := hpb
    obtain ⟨r, hr⟩ : ∃ r, 5 - k = r + 1 := ⟨4 - k, by omega⟩
    have hz := HZ.out
    rw [hr] at hz
    by_cases hlt : a' < b.length
    · have HNX := hH (nextP_yes R wr v b a' HCU.out hlt)
      have hx := b[a'].toNat_lt
      rw [List.drop_eq_getElem_cons hlt, psz_cons] at hz
      generalize b[a'].toNat = x at *
      obtain ⟨q, hq⟩ : ∃ q, q = x % 128 * p := ⟨_, rfl⟩
      have hqi : ((x : Int) % 128) * (p : Int) = (q : Int) := by rw [hq]; simp
      have hqb : q ≤ 127 * 268435456 := by rw [hq]; exact Nat.mul_le_mul (by omega) hpb1
      rw [← hq] at hz
      have hql : q ≤ 127 * p := by rw [hq]; exact Nat.mul_le_mul_right p (by omega)
      have HQ := hH hq
      clear hq HZ
      by_cases h128 : x < 128
      · rw [if_pos h128] at hz
        by_cases c1 : acc + q ≤ 999999999
        · have c1i : (acc : Int) + q ≤ 999999999 := by omega
          by_cases c2 : 0 < x
          · rw [if_pos ⟨c1, Or.inl c2⟩] at hz
            have HZ := hH hz
            clear hz HP
            go_wp2_with fail
            refine (uh HNX).mono ?_
            rintro e w1 ⟨rfl, hcu1, hb1⟩
            have HCU1 := hH hcu1; have HB1 := hH (HB.out.trans hb1)
            clear hcu1 hb1 HNX
            go_wp2_with (go_at_call 68; refine (treeWant_yes _).mono ?_; rintro e w2 ⟨rfl, rfl⟩)
            go_ret
            refine ⟨uh HB1, ?_⟩
            rw [← HZ.out]
            exact ⟨rfl, a' + 1, by omega, uh HCU1, rfl⟩
          · have hx0 : x = 0 := by omega
            subst hx0
            by_cases c3 : p = 1
            · rw [if_pos ⟨c1, Or.inr c3⟩] at hz
              subst c3
              have hacc0 : acc = 0 := by omega
              have hq0 : q = 0 := by have := uh HQ; simpa using this
              subst hacc0 hq0
              have HZ := hH hz
              clear hz HP c2
              go_wp2_with fail
              refine (uh HNX).mono ?_
              rintro e w1 ⟨rfl, hcu1, hb1⟩
              have HCU1 := hH hcu1; have HB1 := hH (HB.out.trans hb1)
              clear hcu1 hb1 HNX
              go_wp2_with (go_at_call 68; refine (treeWant_yes _).mono ?_; rintro e w2 ⟨rfl, rfl⟩)
              go_ret
              refine ⟨uh HB1, ?_⟩
              rw [← HZ.out]
              exact ⟨rfl, a' + 1, by omega, uh HCU1, rfl⟩
            · rw [if_neg (fun hh => by rcases hh.2 with h1 | h1 <;> omega)] at hz
              have c3b : ((p : Int) == 1) = false := by simp; omega
              have HZ := hH hz
              clear hz HP c2 c3
              go_wp2_with fail
              refine (uh HNX).mono ?_
              rintro e w1 ⟨rfl, hcu1, hb1⟩
              have HB1 := hH (HB.out.trans hb1)
              clear hcu1 hb1 HNX
              go_wp2_with fail
              refine (treeWant_no _).mono ?_
              rintro e w2 ⟨rfl, rfl⟩
              refine ⟨rfl, uh HB1, ?_⟩
              rw [← HZ.out]
        · have c1i : ¬ ((acc : Int) + q ≤ 999999999) := by omega
          rw [if_neg (fun hh => c1 hh.1)] at hz
          have HZ := hH hz
          clear hz HP
          go_wp2_with fail
          refine (uh HNX).mono ?_
          rintro e w1 ⟨rfl, hcu1, hb1⟩
          have HB1 := hH (HB.out.trans hb1)
          clear hcu1 hb1 HNX
          go_wp2_with fail
          refine (treeWant_no _).mono ?_
          rintro e w2 ⟨rfl, rfl⟩
          refine ⟨rfl, uh HB1, ?_⟩
          rw [← HZ.out]
      · rw [if_neg h128] at hz
        have hr2 : 5 - (k + 1) = r := by omega
        rw [← hr2] at hz
        have hp2 : p * 128 = 128 ^ (k + 1) := by rw [HP.out, Nat.pow_succ]
        have HZ := hH hz; have HP2 := hH hp2
        clear hz HP hp2 hr2
        go_wp2_with fail
        refine (uh HNX).mono ?_
        rintro e w1 ⟨rfl, hcu1, hb1⟩
        have HCU1 := hH hcu1; have HB1 := hH (HB.out.trans hb1)
        clear hcu1 hb1 HNX
        go_wp2_with fail
        go_roundw
        case rel => exact ⟨k + 1, p * 128, acc + q, a' + 1, by omega, rfl, by go_num, HP2, by omega, by omega, HCU1, HB1, HZ, by omega⟩
        case measure => simp [intOf]; omega
    · have HNX := hH (nextP_no R wr v b a' HCU.out (by omega))
      have hno : psz 5 1 0 (b.drop a) = none := by rw [← hz, List.drop_eq_nil_of_le (by omega), psz]
      have HNO := hH hno
      clear hno hz HP HZ
      go_wp2_with fail
      refine (uh HNX).mono ?_
      rintro e w1 ⟨rfl, hb1⟩
      refine ⟨rfl, HB.out.trans hb1, ?_⟩
      rw [uh HNO]
theorem numP_any (R : Nat) (w : World) (v : Value) (b : List UInt8) (a : Nat) (h : Cu R w v b a) :
 Calls Tryz.prog 126 #[.pointer (some ⟨R, 0, none⟩)] w fun e w' => RdEndU R w w' v b a (pnum (b.drop a)) (fun s => .int .i64 s) e := by
 by_cases hlt : a < b.length
 · have HNX := hH (nextP_yes R w v b a h hlt)
   have HSZ := hH (fun (W : World) (hW : Cu R W v b (a + 1)) => sizeP_any R W v b (a + 1) hW)
   have hx := b[a].toNat_lt
   have hz : pnum (b.drop a) = (match psz 5 1 0 (b.drop (a + 1)) with | none => none | some (s, r) => if b[a].toNat = 0 ∨ (b[a].toNat = 1 ∧ 0 < s) then some (if b[a].toNat = 1 then -(s : Int) else s, r) else none) := by rw [List.drop_eq_getElem_cons hlt, pnum]; rfl
   have hsb : ∀ s rest, psz 5 1 0 (b.drop (a + 1)) = some (s, rest) → s ≤ 999999999 := fun s rest hs => by obtain ⟨_, _, _, _, h4⟩ := psz_sound _ _ _ _ _ _ (by decide) hs; exact h4
   clear h
   generalize b[a].toNat = x at *
   generalize pnum (b.drop a) = res at *
   cases hs : psz 5 1 0 (b.drop (a + 1)) with
   | none =>
     rw [hs] at hz HSZ
     simp only at hz
     subst hz
     clear hs hsb
     go_enter Tryz.func126, Tryz.ntmps126
     go_wp2_with fail
     refine (uh HNX).mono ?_
     rintro e w1 ⟨rfl, hcu1, hb1⟩
     have HS := hH (uh HSZ w1 hcu1); have HB1 := hH hb1
     clear hcu1 hb1 HNX HSZ
     go_wp2_with fail
     refine (uh HS).mono ?_
     rintro e w2 ⟨hb2, rfl⟩
     exact ⟨rfl, (uh HB1).trans hb2, rfl⟩
   | some y =>
     obtain ⟨s, rest⟩ := y
     have hs9 := hsb s rest hs
     rw [hs] at hz HSZ
     simp only at hz
     clear hs hsb
     rcases (show x = 0 ∨ (x = 1 ∧ 0 < s) ∨ (x = 1 ∧ s = 0) ∨ (x ≠ 0 ∧ x ≠ 1) by omega) with hc | ⟨hc, hc2⟩ | ⟨hc, hc2⟩ | ⟨hc, hc2⟩
     · subst hc
       simp at hz
       subst hz
       go_enter Tryz.func126, Tryz.ntmps126
       go_wp2_with fail
       refine (uh HNX).mono ?_
       rintro e w1 ⟨rfl, hcu1, hb1⟩
       have HS := hH (uh HSZ w1 hcu1); have HB1 := hH hb1
       clear hcu1 hb1 HNX HSZ
       go_wp2_with fail
       refine (uh HS).mono ?_
       rintro e w2 ⟨hb2, rfl, a', ha', hcu2, hr2⟩
       have HCU := hH hcu2; have HB2 := hH ((uh HB1).trans hb2); have HR := hH hr2
       clear hb2 hcu2 HS HB1 hr2
       go_wp2_with (go_at_call 68; refine (treeWant_yes _).mono ?_; rintro e w2 ⟨rfl, rfl⟩)
       go_ret
       exact ⟨uh HB2, rfl, a', by omega, uh HCU, uh HR⟩
     · subst hc
       simp [hc2] at hz
       subst hz
       have hneg : ¬ ((s : Int) = 0) := by omega
       go_enter Tryz.func126, Tryz.ntmps126
       go_wp2_with fail
       refine (uh HNX).mono ?_
       rintro e w1 ⟨rfl, hcu1, hb1⟩
       have HS := hH (uh HSZ w1 hcu1); have HB1 := hH hb1
       clear hcu1 hb1 HNX HSZ
       go_wp2_with fail
       refine (uh HS).mono ?_
       rintro e w2 ⟨hb2, rfl, a', ha', hcu2, hr2⟩
       have HCU := hH hcu2; have HB2 := hH ((uh HB1).trans hb2); have HR := hH hr2
       clear hb2 hcu2 HS HB1 hr2
       go_wp2_with (go_at_call 68; refine (treeWant_yes _).mono ?_; rintro e w2 ⟨rfl, rfl⟩)
       go_ret
       exact ⟨uh HB2, rfl, a', by omega, uh HCU, uh HR⟩
     · subst hc hc2
       simp at hz
       subst hz
       go_enter Tryz.func126, Tryz.ntmps126
       go_wp2_with fail
       refine (uh HNX).mono ?_
       rintro e w1 ⟨rfl, hcu1, hb1⟩
       have HS := hH (uh HSZ w1 hcu1); have HB1 := hH hb1
       clear hcu1 hb1 HNX HSZ
       go_wp2_with fail
       refine (uh HS).mono ?_
       rintro e w2 ⟨hb2, rfl, a', ha', hcu2, hr2⟩
       have HB2 := hH ((uh HB1).trans hb2)
       clear hb2 hcu2 HS HB1 hr2
       go_wp2_with fail
       refine (treeWant_no _).mono ?_
       rintro e w3 ⟨rfl, rfl⟩
       exact ⟨rfl, uh HB2, rfl⟩
     · rw [if_neg (by omega)] at hz
       subst hz
       have q0 : ((x : Int) == 0) = false := by simp; omega
       have q1 : ((x : Int) == 1) = false := by simp; omega
       clear hc hc2
       go_enter Tryz.func126, Tryz.ntmps126
       go_wp2_with fail
       refine (uh HNX).mono ?_
       rintro e w1 ⟨rfl, hcu1, hb1⟩
       have HS := hH (uh HSZ w1 hcu1); have HB1 := hH hb1
       clear hcu1 hb1 HNX HSZ
       go_wp2_with fail
       refine (uh HS).mono ?_
       rintro e w2 ⟨hb2, rfl, a', ha', hcu2, hr2⟩
       have HB2 := hH ((uh HB1).trans hb2)
       clear hb2 hcu2 HS HB1 hr2
       go_wp2_with fail
       refine (treeWant_no _).mono ?_
       rintro e w3 ⟨rfl, rfl⟩
       exact ⟨rfl, uh HB2, rfl⟩
 · have HNX := hH (nextP_no R w v b a h (by omega))
   rw [List.drop_eq_nil_of_le (by omega), pnum]
   clear h
   go_enter Tryz.func126, Tryz.ntmps126
   go_wp2_with fail
   refine (uh HNX).mono ?_
   rintro e w1 ⟨rfl, hb1⟩
   exact ⟨rfl, hb1, rfl⟩

def KRel (P : List UInt8 → Option (Tr × List UInt8)) (form : Bool) (n k : Nat) (l0 l : List UInt8) (ns : List ByteArray) (ks : List Tr) : Prop :=
 pkids P form n l0 = (pkids P form (n - k) l).map (fun y => (ns ++ y.1, ks ++ y.2.1, y.2.2))
theorem KRel.start (P : List UInt8 → Option (Tr × List UInt8)) (form : Bool) (n : Nat) (l : List UInt8) : KRel P form n 0 l l [] [] := by
 unfold KRel
 cases pkids P form n l <;> simp
theorem KRel.done {P : List UInt8 → Option (Tr × List UInt8)} {form : Bool} {n : Nat} {l0 l : List UInt8} {ns : List ByteArray} {ks : List Tr} (h : KRel P form n n l0 l ns ks) : pkids P form n l0 = some (ns, ks, l) := by
 unfold KRel at h
 rw [Nat.sub_self, pkids] at h
 simpa using h
theorem KRel.name_no {P : List UInt8 → Option (Tr × List UInt8)} {n k : Nat} {l0 l : List UInt8} {ns : List ByteArray} {ks : List Tr} (h : KRel P true n k l0 l ns ks) (hk : k < n) (hp : ptx l = none) : pkids P true n l0 = none := by
 unfold KRel at h
 rw [h, show n - k = (n - k - 1) + 1 from by omega, pkids]
 simp [hp]
theorem KRel.tree_no {P : List UInt8 → Option (Tr × List UInt8)} {n k : Nat} {l0 l l1 : List UInt8} {ns : List ByteArray} {ks : List Tr} {nm : ByteArray} (h : KRel P true n k l0 l ns ks) (hk : k < n) (hp : ptx l = some (nm, l1)) (ht : P l1 = none) : pkids P true n l0 = none := by
 unfold KRel at h
 rw [h, show n - k = (n - k - 1) + 1 from by omega, pkids]
 simp [hp, ht]
theorem KRel.tree_no' {P : List UInt8 → Option (Tr × List UInt8)} {n k : Nat} {l0 l : List UInt8} {ns : List ByteArray} {ks : List Tr} (h : KRel P false n k l0 l ns ks) (hk : k < n) (ht : P l = none) : pkids P false n l0 = none := by
 unfold KRel at h
 rw [h, show n - k = (n - k - 1) + 1 from by omega, pkids]
 simp [ht]
theorem KRel.step {P : List UInt8 → Option (Tr × List UInt8)} {n k : Nat} {l0 l l1 l2 : List UInt8} {ns : List ByteArray} {ks : List Tr} {nm : ByteArray} {t : Tr} (h : KRel P true n k l0 l ns ks) (hk : k < n) (hp : ptx l = some (nm, l1)) (ht : P l1 = some (t, l2)) : KRel P true n (k + 1) l0 l2 (ns ++ [nm]) (ks ++ [t]) := by
 unfold KRel at h ⊢
 rw [h, show n - k = (n - (k + 1)) + 1 from by omega, pkids]
 simp only [if_true, hp, ht]
 cases h3 : pkids P true (n - (k + 1)) l2 <;> simp
theorem KRel.step' {P : List UInt8 → Option (Tr × List UInt8)} {n k : Nat} {l0 l l2 : List UInt8} {ns : List ByteArray} {ks : List Tr} {t : Tr} (h : KRel P false n k l0 l ns ks) (hk : k < n) (ht : P l = some (t, l2)) : KRel P false n (k + 1) l0 l2 ns (ks ++ [t]) := by
 unfold KRel at h ⊢
 rw [h, show n - k = (n - (k + 1)) + 1 from by omega, pkids]
 simp only [Bool.false_eq_true, if_false, ht]
 cases h3 : pkids P false (n - (k + 1)) l2 <;> simp
structure But2 (R Y : Nat) (w w' : World) : Prop where
 os : w'.os = w.os
 tape : w'.tape = w.tape
 output : w'.output = w.output
 size : w.heap.size ≤ w'.heap.size
 block : ∀ b, b < w.heap.size → b ≠ R → b ≠ Y → w'.heap[b]? = w.heap[b]?
theorem But2.trans {R Y : Nat} {a b c : World} (h : But2 R Y a b) (k : But2 R Y b c) : But2 R Y a c :=
 ⟨k.os.trans h.os, k.tape.trans h.tape, k.output.trans h.output, Nat.le_trans h.size k.size, fun i hi h1 h2 => (k.block i (Nat.lt_of_lt_of_le hi h.size) h1 h2).trans (h.block i hi h1 h2)⟩
theorem But2.ofR {R Y : Nat} {w w' : World} (h : But R w w') : But2 R Y w w' := ⟨h.os, h.tape, h.output, h.size, fun _ hi h1 _ => h.at hi h1⟩
theorem SInv.but {base B R : Nat} {w w' : World} {s : Int} {vN vK : Value} {ns : List ByteArray} {ks : List Tr} {xs : List Value} {G : List Nat} (h : SInv base B w s vN vK ns ks xs G) (hg : But R w w') (hR : R < base) (hRB : R ≠ B) : SInv base B w' s vN vK ns ks xs G :=
 ⟨h.hB, h.cells.of_block (hg.at h.cells.lt (fun e => hRB e.symm)), h.names.kept hg (by
  rcases e : vN.ownBlock with _ | g
  · exact Or.inl rfl
  · exact Or.inr (fun e2 => by have := (h.names.lt g e).1; simp at e2; omega)), h.got.other hg (fun b e => by
  cases e
  exact ⟨fun e2 => by have := (h.got.row.lt R e2).1; omega, fun hm => by have := (h.got.lt R hm).1; omega⟩), h.apart, Nat.le_trans h.size hg.size⟩
theorem setCell_comm (w : World) {a b : Addr} (u v : Value) (h : a.block ≠ b.block) : (w.setCell a u).setCell b v = (w.setCell b v).setCell a u := by
 unfold World.setCell
 simp only [World.mk.injEq, and_true]
 apply Array.ext
 · simp
 · intro i h1 h2
   simp only [Array.getElem_modify]
   by_cases e1 : a.block = i
   · by_cases e2 : b.block = i
     · omega
     · simp [e1, e2]
   · simp [e1]
theorem ownsRow_set {w : World} {base : Nat} {e : TypeId} {size g n cap : Nat} {xs : List Value} (h : w.ownsRow base e size (.slice (some ⟨g, 0, none⟩) n cap) n xs) (j : Nat) (u : Value) : (w.setCell ⟨g, j, none⟩ u).ownsRow base e size (.slice (some ⟨g, 0, none⟩) n cap) n (xs.set j u) := by
 rcases h.2 with ⟨hv, _⟩ | ⟨g', cap', cur, hv, hb, hg, hnc, hcm, hcs, htk⟩
 · simp at hv
 · simp only [Value.slice.injEq, Option.some.injEq, Addr.mk.injEq, and_true, true_and] at hv
   obtain ⟨rfl, rfl⟩ := hv
   refine ⟨by rw [List.length_set]; exact h.1, Or.inr ⟨g, cap, cur.setIfInBounds j u, rfl, hb, ?_, hnc, hcm, by rw [Array.size_setIfInBounds]; exact hcs, ?_⟩⟩
   · simp [World.setCell, Array.getElem?_modify, hg]
   · rw [Array.toList_setIfInBounds, List.take_set, htk]
def lay5 (w : World) (g o : Nat) (c : C5) : World := ((((w.setCell ⟨g, o, none⟩ c.c0).setCell ⟨g, o + 1, none⟩ c.c1).setCell ⟨g, o + 2, none⟩ c.c2).setCell ⟨g, o + 3, none⟩ c.c3).setCell ⟨g, o + 4, none⟩ c.c4
theorem own_last {w : World} {base : Nat} {e : TypeId} {g n cap : Nat} {xs : List Value} {z0 z1 z2 z3 z4 : Value} (h : w.ownsRow base e 5 (.slice (some ⟨g, 0, none⟩) (n + 1) cap) (n + 1) (xs ++ [z0, z1, z2, z3, z4])) (c : C5) :
 (lay5 w g (n * 5) c).ownsRow base e 5 (.slice (some ⟨g, 0, none⟩) (n + 1) cap) (n + 1) (xs ++ c5l c) := by
 have hl : xs.length = n * 5 := by have := h.1; simp at this; omega
 have := ownsRow_set (ownsRow_set (ownsRow_set (ownsRow_set (ownsRow_set h (n * 5) c.c0) (n * 5 + 1) c.c1) (n * 5 + 2) c.c2) (n * 5 + 3) c.c3) (n * 5 + 4) c.c4
 have e5 : (((((xs ++ [z0, z1, z2, z3, z4]).set (n * 5) c.c0).set (n * 5 + 1) c.c1).set (n * 5 + 2) c.c2).set (n * 5 + 3) c.c3).set (n * 5 + 4) c.c4 = xs ++ c5l c := by
  rw [← hl]
  simp [c5l]
 rw [e5] at this
 exact this
theorem grown_lay5 {w w' : World} {row : Option Nat} {g o : Nat} {c : C5} (h : w.grownBy w' row) (hr : row = some g ∨ w.heap.size ≤ g) : w.grownBy (lay5 w' g o c) row := by
 have hs : ∀ (W : World) (j : Nat) (u : Value), w.grownBy W row → w.grownBy (W.setCell ⟨g, j, none⟩ u) row := fun W j u hW =>
  ⟨hW.os, hW.tape, hW.output, by simp [World.setCell]; exact hW.size, fun i hi hne => by
   rw [Below.heap_setCell _ _ _ _ (fun e => by
    rcases hr with hr | hr
    · exact hne (by rw [hr, e])
    · simp at e; omega)]
   exact hW.block i hi hne⟩
 exact hs _ _ _ (hs _ _ _ (hs _ _ _ (hs _ _ _ (hs _ _ _ h))))
end Go.Proofs.YtbkagahmiibclaaGreatDoor
