/- The program's reader of trees: what its worlds hold; what it has gathered of a list or form; the leaves. The tables of strconv are as the program's text lays them; for texts of at most 2^20 bytes. -/
import Derived.Test.YtgamonfmgngilaaGreatDoorPart09
import Derived.Test.YtgamonfmgngilaaGreatDoorPart11
import Derived.Test.YtgamonfmgngilaaGreatDoorPart02
import Derived.Test.YtgamonfmgngilaaGreatDoorPart01
import Derived.Laws.RangeAny
import Derived.WalkMore
namespace Go.Proofs.YtgamonfmgngilaaGreatDoor
open Go Go.RowKit

/-- The method for a first byte. -/
def srt (R i : Nat) : Value :=
  if (48 ≤ i ∧ i ≤ 57) ∨ i = 45 then .func (.func 59) #[.pointer (some ⟨R, 0, none⟩)] #[]
  else if i = 34 then .func (.func 60) #[.pointer (some ⟨R, 0, none⟩)] #[]
  else if i = 121 ∨ i = 110 then .func (.func 61) #[.pointer (some ⟨R, 0, none⟩)] #[]
  else if i = 91 then .func (.func 62) #[.pointer (some ⟨R, 0, none⟩)] #[]
  else if i = 123 then .func (.func 63) #[.pointer (some ⟨R, 0, none⟩)] #[]
  else if i = 126 ∨ i = 63 then .func (.func 64) #[.pointer (some ⟨R, 0, none⟩)] #[]
  else .nilFunc

/-- A reader of trees lies in block R: parts, level, text, place, and the methods by their first bytes. -/
structure TR (w : World) (R : Nat) (s : ByteArray) (a : Nat) (p l : Int) : Prop where
  bnd : Bnd w R p l
  tx : Tx w R 2 s a
  tab : ∀ i, i < 256 → w.cell? ⟨R, 4 + i, none⟩ = some (srt R i)
section
variable {w w' : World} {R : Nat} {s : ByteArray} {a a' : Nat} {p l : Int}
theorem TR.lt (h : TR w R s a p l) : R < w.heap.size := h.tx.lt
theorem TR.of_block (h : TR w R s a p l) (e : w'.heap[R]? = w.heap[R]?) : TR w' R s a p l :=
  ⟨h.bnd.of_block e, h.tx.of_block e, fun i hi => by rw [World.cell?_of_block (w := w) e]; exact h.tab i hi⟩
theorem TR.drewN (h : TR w R s a p l) (n : Nat) : TR (w.drewN n) R s a p l := h.of_block rfl
theorem TR.alloc (h : TR w R s a p l) (o : Obj) : TR (w.alloc o) R s a p l := h.of_block (Below.heap_alloc _ _ _ h.lt)
theorem TR.mg (h : TR w R s a p l) (hm : Mg R 3 w w') (ht : Tx w' R 2 s a') : TR w' R s a' p l := by
  obtain ⟨c0, c1, f0, f1⟩ := h.bnd
  exact ⟨⟨by rw [hm.cell 0 (by decide)]; exact c0, by rw [hm.cell 1 (by decide)]; exact c1, by rw [hm.frz]; exact f0, by rw [hm.frz]; exact f1⟩, ht, fun i hi => by rw [hm.cell (4 + i) (by omega)]; exact h.tab i hi⟩
theorem TR.mv (h : TR w R s a p l) (hm : Mv R 3 w w') (ht : Tx w' R 2 s a') : TR w' R s a' p l := h.mg hm.mg ht
theorem TR.set1 (h : TR w R s a p l) (l' : Int) : TR (w.setCell ⟨R, 1, none⟩ (.int .i64 l')) R s a p l' := by
  refine ⟨h.bnd.set1 l', ⟨?_, ?_, ?_⟩, fun i hi => ?_⟩
  · rw [World.cell?_setCell_other _ _ _ _ (fun e => by have := congrArg Addr.off e; simp at this)]; exact h.tx.c0
  · rw [World.cell?_setCell_other _ _ _ _ (fun e => by have := congrArg Addr.off e; simp at this)]; exact h.tx.c1
  · rw [World.frozen?_setCell]; exact h.tx.f1
  · rw [World.cell?_setCell_other _ _ _ _ (fun e => by have := congrArg Addr.off e; simp at this; omega)]; exact h.tab i hi
theorem TR.set2 (h : TR w R s a p l) (p' l' : Int) : TR ((w.setCell ⟨R, 0, none⟩ (.int .i64 p')).setCell ⟨R, 1, none⟩ (.int .i64 l')) R s a p' l' := by
  refine ⟨h.bnd.set2 p' l', ⟨?_, ?_, ?_⟩, fun i hi => ?_⟩
  · rw [World.cell?_setCell_other _ _ _ _ (fun e => by have := congrArg Addr.off e; simp at this), World.cell?_setCell_other _ _ _ _ (fun e => by have := congrArg Addr.off e; simp at this)]; exact h.tx.c0
  · rw [World.cell?_setCell_other _ _ _ _ (fun e => by have := congrArg Addr.off e; simp at this), World.cell?_setCell_other _ _ _ _ (fun e => by have := congrArg Addr.off e; simp at this)]; exact h.tx.c1
  · rw [World.frozen?_setCell, World.frozen?_setCell]; exact h.tx.f1
  · rw [World.cell?_setCell_other _ _ _ _ (fun e => by have := congrArg Addr.off e; simp at this; omega), World.cell?_setCell_other _ _ _ _ (fun e => by have := congrArg Addr.off e; simp at this; omega)]; exact h.tab i hi
end

/-- How a reading ends: with a tree in new blocks, or with a fault. -/
def MEnd (o : Option (Tr × List UInt8 × Int)) (w : World) (R : Nat) (s : ByteArray) (l : Int) (e : Ending) (w' : World) : Prop :=
  But R w w' ∧ ((∃ t a2 q v, o = some (t, lf s a2, q) ∧ a2 ≤ s.size ∧ e = .returned v ∧ SRep (fun b => w.heap.size ≤ b ∧ b < w'.heap.size) w' t v ∧ TR w' R s a2 q l ∧ 0 ≤ q ∧ q ≤ 120) ∨ (o = none ∧ e = fltE))
theorem MEnd.no {o : Option (Tr × List UInt8 × Int)} {w w' : World} {R : Nat} {s : ByteArray} {l : Int} (h : o = none) (hb : But R w w') : MEnd o w R s l fltE w' := ⟨hb, Or.inr ⟨h, rfl⟩⟩
theorem MEnd.yes {o : Option (Tr × List UInt8 × Int)} {w w' : World} {R : Nat} {s : ByteArray} {l : Int} {t : Tr} {a2 : Nat} {q : Int} {v : Value} (h : o = some (t, lf s a2, q)) (ha : a2 ≤ s.size) (hb : But R w w') (hr : SRep (fun b => w.heap.size ≤ b ∧ b < w'.heap.size) w' t v) (ht : TR w' R s a2 q l) (hq0 : 0 ≤ q) (hq1 : q ≤ 120) : MEnd o w R s l (.returned v) w' :=
  ⟨hb, Or.inl ⟨t, a2, q, v, h, ha, rfl, hr, ht, hq0, hq1⟩⟩

/-- What a number comes to. -/
noncomputable def numO (inp : List UInt8) (p : Int) : Option (Tr × List UInt8 × Int) := match numOf (numRun inp).1 with
  | none => none
  | some n => some (.mk 1 n ByteArray.empty [] [], (numRun inp).2, p)
/-- What a quoted text comes to. -/
def quoO (inp : List UInt8) (p : Int) : Option (Tr × List UInt8 × Int) :=
  if (inp.tail.dropWhile nqB).head? = some 34 ∧ textOkB ⟨(inp.tail.takeWhile nqB).toArray⟩ = true then
    some (.mk 2 0 ⟨(inp.tail.takeWhile nqB).toArray⟩ [] [], (inp.tail.dropWhile nqB).tail, p) else none
/-- What a flag comes to. -/
def flgO (inp : List UInt8) (p : Int) : Option (Tr × List UInt8 × Int) :=
  if [121, 101, 115].isPrefixOf inp = true then some (.mk 3 1 ByteArray.empty [] [], inp.drop 3, p)
  else if [110, 111].isPrefixOf inp = true then some (.mk 3 0 ByteArray.empty [] [], inp.drop 2, p) else none

theorem rep_iface {Q : Nat → Prop} {w : World} {t : Tr} {v : Value} (h : SRep Q w t v) : SRep Q w t v := h

set_option maxHeartbeats 800000 in
theorem num_walk (w : World) (R : Nat) (s : ByteArray) (a : Nat) (p l : Int) (hs : s.size ≤ 1048576) (h : TR w R s a p l) (ha : a ≤ s.size) (hE : Env w) (hR : gTop ≤ R) (hp0 : 0 ≤ p) (hp1 : p ≤ 120) :
    Calls Tryz.prog 59 #[.pointer (some ⟨R, 0, none⟩)] w fun e w' => MEnd (numO (lf s a) p) w R s l e w' := by
  have hn := number_any w R 2 s a hs h.tx ha hE hR
  obtain ⟨h1, h2, -, h4⟩ := num_at (s := s) (a := a) ha
  have hle := rn_le isDg s (nAt s a) h2
  have HN := hide hn; have H := hide h; have H4 := hide h4; have HLE := hide hle
  clear hn h hE h4 hle h1 h2
  go_enter Tryz.func59, Tryz.ntmps59
  go_wp2_with fail
  refine (unhide HN).mono ?_
  rintro e w2 ⟨hm, ht, ⟨n, hat, hit, rfl⟩ | ⟨hno, rfl⟩⟩
  · have htr := (unhide H).mg hm ht
    have HTR := hide htr; have HM := hide hm; have HAT := hide hat; have HIT := hide hit
    clear htr hm ht hat hit HN
    by_cases hb : -999999999 ≤ n ∧ n ≤ 999999999
    · have HB := hide hb
      clear hb
      go_wp2_with (go_at_call 94; refine (newNum_yes _ _ (unhide HB)).mono ?_; rintro e w3 ⟨rfl, rfl⟩)
      go_ret
      refine MEnd.yes (t := .mk 1 n ByteArray.empty [] []) ?_ (unhide HLE) (unhide HM).but (srep1 rfl) (unhide HTR) hp0 hp1
      unfold numO
      rw [numOf_yes (unhide HB).1 (unhide HB).2 (unhide HIT), unhide H4]
    · have HB := hide hb
      clear hb
      go_wp2_with (go_at_call 94; refine (newNum_no _ _ (unhide HB)).mono ?_; rintro e w3 ⟨rfl, rfl⟩)
      refine ⟨rfl, MEnd.no ?_ (unhide HM).but⟩
      unfold numO
      rw [numOf_no]
      intro m h0 h1 hm
      have := atoi_itoa m h0 h1
      rw [hm, unhide HAT] at this
      cases this
      exact unhide HB ⟨h0, h1⟩
  · have HM := hide hm; have HNO := hide hno
    clear hm ht hno HN
    go_wp2_with fail
    refine ⟨rfl, MEnd.no ?_ (unhide HM).but⟩
    unfold numO
    rw [numOf_no]
    intro m h0 h1 hm
    refine unhide HNO m ?_ hm
    rw [← hm]
    exact atoi_itoa m h0 h1

theorem lf_room {s : ByteArray} {a : Nat} {c : UInt8} (h : (lf s a).head? = some c) : a + 1 ≤ s.size := by
  have := lf_len s a
  cases hl : lf s a with
  | nil => rw [hl] at h; simp at h
  | cons c r => rw [hl] at this; simp at this; omega

set_option maxHeartbeats 800000 in
theorem quoted_walk (w : World) (R : Nat) (s : ByteArray) (a : Nat) (p l : Int) (hs : s.size ≤ 1048576) (h : TR w R s a p l) (hh : (lf s a).head? = some 34) (hp0 : 0 ≤ p) (hp1 : p ≤ 120) :
    Calls Tryz.prog 60 #[.pointer (some ⟨R, 0, none⟩)] w fun e w' => MEnd (quoO (lf s a) p) w R s l e w' := by
  have hroom := lf_room hh
  have htk := xtake_yes w R 2 s (w1 34) a hs h.tx (by omega) (by decide) (by decide) (by rw [pre_one]; exact decide_eq_true hh)
  have hrn := fun W (hW : Tx W R 2 s (a + 1)) => xrun_quote W R 2 s (a + 1) hs hW hroom
  have hle := rn_le nqB s (a + 1) hroom
  have hdr := rn_drop nqB s (a + 1)
  have hq : quoO (lf s a) p = if (lf s (a + 1 + rn nqB s (a + 1))).head? = some 34 ∧ textOkB ⟨((lf s (a + 1)).takeWhile nqB).toArray⟩ = true then some (.mk 2 0 ⟨((lf s (a + 1)).takeWhile nqB).toArray⟩ [] [], lf s (a + 1 + rn nqB s (a + 1) + 1), p) else none := by
    unfold quoO
    rw [← lf_next, ← hdr, ← lf_next]
  rw [hq]
  have hXs : (⟨((lf s (a + 1)).takeWhile nqB).toArray⟩ : ByteArray).size ≤ 9223372036854775807 := by
    have h1 := (List.takeWhile_prefix (p := nqB) (l := lf s (a + 1))).length_le
    have h2 := lf_len s (a + 1)
    show ((lf s (a + 1)).takeWhile nqB).toArray.size ≤ _
    simp only [List.size_toArray]
    omega
  generalize (⟨((lf s (a + 1)).takeWhile nqB).toArray⟩ : ByteArray) = X at *
  generalize a + 1 + rn nqB s (a + 1) = a2 at *
  generalize hO : (if (lf s a2).head? = some 34 ∧ textOkB X = true then some (Tr.mk 2 0 X [] [], lf s (a2 + 1), p) else none) = O at *
  have HO := hide hO
  clear hO
  have HTK := hide htk; have HRN := hide hrn; have H := hide h
  clear htk hrn h hq hdr
  by_cases h34 : (lf s a2).head? = some 34
  · have hr2 := lf_room h34
    have HT2 := hide (fun W (hW : Tx W R 2 s a2) => xtake_yes W R 2 s (w1 34) a2 hs hW hle (by decide) (by decide) (by rw [pre_one]; exact decide_eq_true h34))
    have H34 := hide h34
    clear h34
    go_enter Tryz.func60, Tryz.ntmps60
    go_wp2_with (first
      | (go_at_call 73; refine (unhide HTK).mono ?_; rintro e w2 ⟨rfl, hr2, hm2⟩; have HR2 := hide hr2; have HM2 := hide hm2; clear hr2 hm2 HTK)
      | (go_at_call 95; refine (unhide HRN _ (unhide HR2)).mono ?_; rintro e w3 ⟨rfl, hr3, hm3⟩; have HR3 := hide hr3; have HM3 := hide ((unhide HM2).trans hm3); clear hr3 hm3)
      | (go_at_call 73; refine (unhide HT2 _ (unhide HR3)).mono ?_; rintro e w4 ⟨rfl, hr4, hm4⟩; have HR4 := hide hr4; have HM4 := hide ((unhide HM3).trans hm4); clear hr4 hm4))
    refine (newText_any X _ hXs).mono ?_
    rintro e w5 ⟨⟨hok, rfl⟩ | ⟨hok, rfl⟩, rfl⟩
    · have HOK := hide hok
      clear hok
      go_wp2_with fail
      go_ret
      refine MEnd.yes (t := .mk 2 0 X [] []) (a2 := a2 + 1) ?_ hr2 (unhide HM4).but (srep2 rfl) ((unhide H).mv (unhide HM4) (unhide HR4)) hp0 hp1
      rw [← unhide HO, if_pos ⟨unhide H34, unhide HOK⟩]
    · have HOK := hide hok
      clear hok
      go_wp2_with fail
      refine ⟨rfl, MEnd.no ?_ (unhide HM4).but⟩
      rw [← unhide HO, if_neg (fun h => by have := h.2; rw [unhide HOK] at this; cases this)]
  · have HT2 := hide (fun W (hW : Tx W R 2 s a2) => xtake_no W R 2 s (w1 34) a2 hW hle (by rw [pre_one]; exact decide_eq_false h34))
    have H34 := hide h34
    clear h34
    go_enter Tryz.func60, Tryz.ntmps60
    go_wp2_with (first
      | (go_at_call 73; refine (unhide HTK).mono ?_; rintro e w2 ⟨rfl, hr2, hm2⟩; have HR2 := hide hr2; have HM2 := hide hm2; clear hr2 hm2 HTK)
      | (go_at_call 95; refine (unhide HRN _ (unhide HR2)).mono ?_; rintro e w3 ⟨rfl, hr3, hm3⟩; have HR3 := hide hr3; have HM3 := hide ((unhide HM2).trans hm3); clear hr3 hm3)
      | (go_at_call 73; refine (unhide HT2 _ (unhide HR3)).mono ?_; rintro e w4 ⟨rfl, m, rfl⟩))
    refine ⟨rfl, MEnd.no ?_ ((unhide HM3).drewN m).but⟩
    rw [← unhide HO, if_neg (fun h => unhide H34 h.1)]

def wYes : ByteArray := ⟨#[121, 101, 115]⟩
def wNo : ByteArray := ⟨#[110, 111]⟩

set_option maxHeartbeats 800000 in
theorem flag_walk (w : World) (R : Nat) (s : ByteArray) (a : Nat) (p l : Int) (hs : s.size ≤ 1048576) (h : TR w R s a p l) (ha : a ≤ s.size) (hp0 : 0 ≤ p) (hp1 : p ≤ 120) :
    Calls Tryz.prog 61 #[.pointer (some ⟨R, 0, none⟩)] w fun e w' => MEnd (flgO (lf s a) p) w R s l e w' := by
  have hf : flgO (lf s a) p = if pre wYes s a = true then some (.mk 3 1 ByteArray.empty [] [], lf s (a + 3), p) else if pre wNo s a = true then some (.mk 3 0 ByteArray.empty [] [], lf s (a + 2), p) else none := by
    have e3 : lf s (a + 3) = (lf s a).drop 3 := lf_after (wd := wYes)
    have e2 : lf s (a + 2) = (lf s a).drop 2 := lf_after (wd := wNo)
    unfold flgO
    rw [e3, e2]
    rfl
  rw [hf]
  have H := hide h
  cases hy : pre wYes s a
  · have HS := hide (xskip_no w R 2 s wYes a h.tx ha hy)
    cases hn : pre wNo s a
    · have HT := hide (fun m => xtake_no (w.drewN m) R 2 s wNo a (h.tx.drewN m) ha hn)
      clear h hy hn hf
      go_enter Tryz.func61, Tryz.ntmps61
      go_wp2_with (first
        | (go_at_call 98; refine (unhide HS).mono ?_; rintro e w2 ⟨rfl, m, rfl⟩)
        | (go_at_call 73; refine (unhide HT _).mono ?_; rintro e w3 ⟨rfl, m2, rfl⟩))
      exact ⟨rfl, MEnd.no (by simp) ((Mv.refl R 3 w).drewN _).but⟩
    · have hroom := pre_room (by decide) hn
      have HT := hide (fun m => xtake_yes (w.drewN m) R 2 s wNo a hs (h.tx.drewN m) ha (by decide) (by decide) hn)
      clear h hy hn hf
      go_enter Tryz.func61, Tryz.ntmps61
      go_wp2_with (first
        | (go_at_call 98; refine (unhide HS).mono ?_; rintro e w2 ⟨rfl, m, rfl⟩)
        | (go_at_call 73; refine (unhide HT _).mono ?_; rintro e w3 ⟨rfl, hr3, hm3⟩; have HR3 := hide hr3; have HM3 := hide (((Mv.refl R 3 w).drewN m).trans hm3); clear hr3 hm3))
      go_ret
      exact MEnd.yes (t := .mk 3 0 ByteArray.empty [] []) (a2 := a + 2) (by simp) hroom (unhide HM3).but (srep3 (t := .mk 3 0 ByteArray.empty [] []) rfl) ((unhide H).mv (unhide HM3) (unhide HR3)) hp0 hp1
  · have hroom := pre_room (by decide) hy
    have HS := hide (xskip_yes w R 2 s wYes a hs h.tx ha (by decide) (by decide) hy)
    clear h hy hf
    go_enter Tryz.func61, Tryz.ntmps61
    go_wp2_with (go_at_call 98; refine (unhide HS).mono ?_; rintro e w3 ⟨rfl, hr3, hm3⟩; have HR3 := hide hr3; have HM3 := hide hm3; clear hr3 hm3)
    go_ret
    exact MEnd.yes (t := .mk 3 1 ByteArray.empty [] []) (a2 := a + 3) (by simp) hroom (unhide HM3).but (srep3 (t := .mk 3 1 ByteArray.empty [] []) rfl) ((unhide H).mv (unhide HM3) (unhide HR3)) hp0 hp1
end Go.Proofs.YtgamonfmgngilaaGreatDoor

/- The walk of the program's typeEnd: it ends, and of a name it answers the length. No conditions but the text's length, at most 2^20. -/

namespace Go.Proofs.YtgamonfmgngilaaGreatDoor
open Go Go.RowKit

theorem nameByte_high {c : UInt8} (h : 128 ≤ c.toNat) : nameByte c = false := nameByte_no (Or.inr (Or.inr (by omega)))

/-- Where a type ends. -/
def tE (s : ByteArray) : Nat := ((s.data.toList.take 8).takeWhile nameByte).length

theorem tE_at {s : ByteArray} {k : Nat} (ha : allTo nameByte s k) (hk : k ≤ s.size) (h8 : k ≤ 8) (h : k = s.size ∨ k = 8 ∨ ∃ h : k < s.size, nameByte s[k] = false) : tE s = k := by
  have hsz : s.data.toList.length = s.size := by simp
  have hl : ((s.data.toList.take 8).take k).length = k := by simp; omega
  have hall : ∀ x ∈ (s.data.toList.take 8).take k, nameByte x = true := fun x hx => by
    obtain ⟨i, hi, rfl⟩ := List.getElem_of_mem hx
    rw [hl] at hi
    simp only [List.getElem_take]
    exact ha i hi (by omega)
  have hsplit := List.take_append_drop k (s.data.toList.take 8)
  unfold tE
  rw [← hsplit, List.takeWhile_append_of_pos hall, List.length_append, hl]
  have : ((s.data.toList.take 8).drop k).takeWhile nameByte = [] := by
    rcases h with h | h | ⟨hlt, h⟩
    · rw [List.drop_eq_nil_of_le (by simp; omega)]; rfl
    · rw [List.drop_eq_nil_of_le (by simp; omega)]; rfl
    · by_cases e8 : k = 8
      · rw [List.drop_eq_nil_of_le (by simp; omega)]; rfl
      · rw [List.drop_eq_getElem_cons (by simp; omega)]
        have e : (s.data.toList.take 8)[k]'(by simp; omega) = s[k] := by simp only [List.getElem_take]; rfl
        rw [e, List.takeWhile_cons, h]; rfl
  rw [this]; rfl

theorem tE_name {s : ByteArray} (h : nameOkB s = true) : tE s = s.size := by
  unfold nameOkB at h
  simp only [Bool.and_eq_true, decide_eq_true_eq] at h
  refine tE_at (fun j hj hjs => ?_) (Nat.le_refl _) h.1.1.2 (Or.inl rfl)
  exact List.all_eq_true.1 h.2 _ (by simp [ByteArray.getElem_eq_getElem_data])

theorem iter_below (w : World) (s : ByteArray) (k : Nat) : Below w.heap.size w (w.iter s k) := (Below.refl _ _).alloc (Nat.le_refl _) _

set_option maxRecDepth 100000 in
set_option maxHeartbeats 1600000 in
theorem typeEnd_any (s : ByteArray) (w : World) (_hs : s.size ≤ 1048576) :
    Calls Tryz.prog 106 #[.string s] w fun e w' => e = .returned (.int .i64 (tE s : Int)) ∧ Below w.heap.size w w' := by
  go_enter Tryz.func106, Tryz.ntmps106
  go_wp2_with fail
  go_step3
  go_wp2_with fail
  go_step3
  go_wp2_with fail
  go_loopw [3] (fun en wr => ∃ (k : Nat), k ≤ s.size ∧ k ≤ 8 ∧ en = .int .i64 k ∧ wr = w.iter s k ∧ Hid (allTo nameByte s k)) (fun en _ => s.size - (intOf en).toNat)
  case atStart => exact ⟨0, Nat.zero_le _, by omega, rfl, rfl, fun j hj => by omega⟩
  case round =>
    obtain ⟨k, hk, hk8, rfl, rfl, HA⟩ := hrel
    by_cases hlt : k < s.size
    · by_cases hc : s[k].toNat < 128
      · have hnx := fun ty => run_next_ascii (P := Tryz.prog) w s k ty hlt hc
        by_cases h8 : k = 8
        · have HN := hide (tE_at HA.out hk hk8 (Or.inr (Or.inl h8)))
          subst h8
          go_wp2_with fail
          try rw [Exit.noGoto_ret]
          go_ret
          exact ⟨by rw [unhide HN]; first | done | rfl, iter_below _ _ _⟩
        · have h8b : ((k : Int) == 8) = false := by simp; omega
          have HNB := hide (fun W => isNameByte_any s[k] W)
          have HNOT := hide (fun (h : nameByte s[k] = false) => tE_at HA.out hk hk8 (Or.inr (Or.inr ⟨hlt, h⟩)))
          have HYES := hide (fun (h : nameByte s[k] = true) => allTo_succ HA.out hlt h)
          generalize s[k] = c at *
          have hcw : IntKind.u8.wrap (c.toNat : Int) = c.toNat := wraps_u8 _ (by omega) (by omega)
          cases hnb : nameByte c with
          | true =>
            rw [hnb] at HNB
            have HN := hide (unhide HYES hnb)
            clear HNOT hnb HYES
            go_wp2_with (go_at_call 101; refine (unhide HNB _).mono ?_; rintro e w' ⟨rfl, rfl⟩)
            go_roundw
            case rel => exact ⟨k + 1, by omega, by omega, by go_num, rfl, unhide HN⟩
            case measure => simp [intOf]; omega
          | false =>
            rw [hnb] at HNB
            have HN := hide (unhide HNOT hnb)
            clear HNOT hnb HYES
            go_wp2_with (go_at_call 101; refine (unhide HNB _).mono ?_; rintro e w' ⟨rfl, rfl⟩)
            try rw [Exit.noGoto_ret]
            go_ret
            exact ⟨by rw [unhide HN]; first | done | rfl, iter_below _ _ _⟩
      · have hnx := fun ty => run_next_any (P := Tryz.prog) w s k ty hlt
        have hd := decode_high s k hlt (by omega)
        have hdl := decode_le s k
        have HN := hide (tE_at HA.out hk hk8 (Or.inr (Or.inr ⟨hlt, nameByte_high (by omega)⟩)))
        generalize (Utf8.decode s k).1 = r at *
        generalize (Utf8.decode s k).2 = wd at *
        obtain ⟨hd1, -⟩ := hd
        clear hc
        by_cases h8 : k = 8
        · subst h8
          go_wp2_with fail
          try rw [Exit.noGoto_ret]
          go_ret
          exact ⟨by rw [unhide HN]; first | done | rfl, iter_below _ _ _⟩
        · have h8b : ((k : Int) == 8) = false := by simp; omega
          go_wp2_with fail
          try rw [Exit.noGoto_ret]
          go_ret
          exact ⟨by rw [unhide HN]; first | done | rfl, iter_below _ _ _⟩
    · have hnx := fun ty => run_next_end (P := Tryz.prog) w s k ty hlt
      have HN := hide (tE_at HA.out hk hk8 (Or.inl (by omega)))
      go_wp2_with fail
      try rw [Exit.noGoto_ret]
      go_ret
      exact ⟨by rw [unhide HN]; first | done | rfl, iter_below _ _ _⟩
end Go.Proofs.YtgamonfmgngilaaGreatDoor
