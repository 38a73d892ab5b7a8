/- The program's reader of trees: what its worlds hold; what it has gathered of a list or form; the leaves. The tables of strconv are as the program's text lays them; for texts of at most 2^20 bytes. -/
import Derived.Test.YtgamonfmgngilaaGreatDoorPart18
import Derived.Test.YtgamonfmgngilaaGreatDoorPart14
namespace Go.Proofs.YtgamonfmgngilaaGreatDoor
open Go Go.RowKit

/-- The method for a first byte. -/
def srt (R i : Nat) : Value :=
  if (48 ≤ i ∧ i ≤ 57) ∨ i = 45 then .func (.func 59) #[.pointer (some ⟨R, 0, none⟩)] #[]
  else if i = 34 then .func (.func 60) #[.pointer (some ⟨R, 0, none⟩)] #[]
  else if i = 121 ∨ i = 110 then .func (.func 61) #[.pointer (some ⟨R, 0, none⟩)] #[]
  else if i = 91 then .func (.func 62) #[.pointer (some ⟨R, 0, none⟩)] #[]
  else if i = 123 then .func (.func 63) #[.pointer (some ⟨R, 0, none⟩)] #[]
  else if i = 126 ∨ i = 63 then .func (.func 64) #[.pointer (some ⟨R, 0, none⟩)] #[]
  else .nilFunc

/-- A reader of trees lies in block R: parts, level, text, place, and the methods by their first bytes. -/
structure TR (w : World) (R : Nat) (s : ByteArray) (a : Nat) (p l : Int) : Prop where
  bnd : Bnd w R p l
  tx : Tx w R 2 s a
  tab : ∀ i, i < 256 → w.cell? ⟨R, 4 + i, none⟩ = some (srt R i)
section
variable {w w' : World} {R : Nat} {s : ByteArray} {a a' : Nat} {p l : Int}
theorem TR.lt (h : TR w R s a p l) : R < w.heap.size := h.tx.lt
theorem TR.of_block (h : TR w R s a p l) (e : w'.heap[R]? = w.heap[R]?) : TR w' R s a p l :=
  ⟨h.bnd.of_block e, h.tx.of_block e, fun i hi => by rw [World.cell?_of_block (w := w) e]; exact h.tab i hi⟩
theorem TR.drewN (h : TR w R s a p l) (n : Nat) : TR (w.drewN n) R s a p l := h.of_block rfl
theorem TR.alloc (h : TR w R s a p l) (o : Obj) : TR (w.alloc o) R s a p l := h.of_block (Below.heap_alloc _ _ _ h.lt)
theorem TR.mg (h : TR w R s a p l) (hm : Mg R 3 w w') (ht : Tx w' R 2 s a') : TR w' R s a' p l := by
  obtain ⟨c0, c1, f0, f1⟩ := h.bnd
  exact ⟨⟨by rw [hm.cell 0 (by decide)]; exact c0, by rw [hm.cell 1 (by decide)]; exact c1, by rw [hm.frz]; exact f0, by rw [hm.frz]; exact f1⟩, ht, fun i hi => by rw [hm.cell (4 + i) (by omega)]; exact h.tab i hi⟩
theorem TR.mv (h : TR w R s a p l) (hm : Mv R 3 w w') (ht : Tx w' R 2 s a') : TR w' R s a' p l := h.mg hm.mg ht
theorem TR.set1 (h : TR w R s a p l) (l' : Int) : TR (w.setCell ⟨R, 1, none⟩ (.int .i64 l')) R s a p l' := by
  refine ⟨h.bnd.set1 l', ⟨?_, ?_, ?_⟩, fun i hi => ?_⟩
  · rw [World.cell?_setCell_other _ _ _ _ (fun e => by have := congrArg Addr.off e; simp at this)]; exact h.tx.c0
  · rw [World.cell?_setCell_other _ _ _ _ (fun e => by have := congrArg Addr.off e; simp at this)]; exact h.tx.c1
  · rw [World.frozen?_setCell]; exact h.tx.f1
  · rw [World.cell?_setCell_other _ _ _ _ (fun e => by have := congrArg Addr.off e; simp at this; omega)]; exact h.tab i hi
theorem TR.set2 (h : TR w R s a p l) (p' l' : Int) : TR ((w.setCell ⟨R, 0, none⟩ (.int .i64 p')).setCell ⟨R, 1, none⟩ (.int .i64 l')) R s a p' l' := by
  refine ⟨h.bnd.set2 p' l', ⟨?_, ?_, ?_⟩, fun i hi => ?_⟩
  · rw [World.cell?_setCell_other _ _ _ _ (fun e => by have := congrArg Addr.off e; simp at this), World.cell?_setCell_other _ _ _ _ (fun e => by have := congrArg Addr.off e; simp at this)]; exact h.tx.c0
  · rw [World.cell?_setCell_other _ _ _ _ (fun e => by have := congrArg Addr.off e; simp at this), World.cell?_setCell_other _ _ _ _ (fun e => by have := congrArg Addr.off e; simp at this)]; exact h.tx.c1
  · rw [World.frozen?_setCell, World.frozen?_setCell]; exact h.tx.f1
  · rw [World.cell?_setCell_other _ _ _ _ (fun e => by have := congrArg Addr.off e; simp at this; omega), World.cell?_setCell_other _ _ _ _ (fun e => by have := congrArg Addr.off e; simp at this; omega)]; exact h.tab i hi
end

/-- How a reading ends: with a tree in new blocks, or with a fault. -/
def MEnd (o : Option (Tr × List UInt8 × Int)) (w : World) (R : Nat) (s : ByteArray) (l : Int) (e : Ending) (w' : World) : Prop :=
  But R w w' ∧ ((∃ t a2 q v, o = some (t, lf s a2, q) ∧ a2 ≤ s.size ∧ e = .returned v ∧ SRep (fun b => w.heap.size ≤ b ∧ b < w'.heap.size) w' t v ∧ TR w' R s a2 q l ∧ 0 ≤ q ∧ q ≤ 120) ∨ (o = none ∧ e = fltE))
theorem MEnd.no {o : Option (Tr × List UInt8 × Int)} {w w' : World} {R : Nat} {s : ByteArray} {l : Int} (h : o = none) (hb : But R w w') : MEnd o w R s l fltE w' := ⟨hb, Or.inr ⟨h, rfl⟩⟩
theorem MEnd.yes {o : Option (Tr × List UInt8 × Int)} {w w' : World} {R : Nat} {s : ByteArray} {l : Int} {t : Tr} {a2 : Nat} {q : Int} {v : Value} (h : o = some (t, lf s a2, q)) (ha : a2 ≤ s.size) (hb : But R w w') (hr : SRep (fun b => w.heap.size ≤ b ∧ b < w'.heap.size) w' t v) (ht : TR w' R s a2 q l) (hq0 : 0 ≤ q) (hq1 : q ≤ 120) : MEnd o w R s l (.returned v) w' :=
  ⟨hb, Or.inl ⟨t, a2, q, v, h, ha, rfl, hr, ht, hq0, hq1⟩⟩

/-- What a number comes to. -/
noncomputable def numO (inp : List UInt8) (p : Int) : Option (Tr × List UInt8 × Int) := match numOf (numRun inp).1 with
  | none => none
  | some n => some (.mk 1 n ByteArray.empty [] [], (numRun inp).2, p)
/-- What a quoted text comes to. -/
def quoO (inp : List UInt8) (p : Int) : Option (Tr × List UInt8 × Int) :=
  if (inp.tail.dropWhile nqB).head? = some 34 ∧ textOkB ⟨(inp.tail.takeWhile nqB).toArray⟩ = true then
    some (.mk 2 0 ⟨(inp.tail.takeWhile nqB).toArray⟩ [] [], (inp.tail.dropWhile nqB).tail, p) else none
/-- What a flag comes to. -/
def flgO (inp : List UInt8) (p : Int) : Option (Tr × List UInt8 × Int) :=
  if [121, 101, 115].isPrefixOf inp = true then some (.mk 3 1 ByteArray.empty [] [], inp.drop 3, p)
  else if [110, 111].isPrefixOf inp = true then some (.mk 3 0 ByteArray.empty [] [], inp.drop 2, p) else none

theorem rep_iface {Q : Nat → Prop} {w : World} {t : Tr} {v : Value} (h : SRep Q w t v) : SRep Q w t v := h

set_option maxHeartbeats 800000 in
theorem num_walk (w : World) (R : Nat) (s : ByteArray) (a : Nat) (p l : Int) (hs : s.size ≤ 1048576) (h : TR w R s a p l) (ha : a ≤ s.size) (hE : Env w) (hR : gTop ≤ R) (hp0 : 0 ≤ p) (hp1 : p ≤ 120) :
    Calls Tryz.prog 59 #[.pointer (some ⟨R, 0, none⟩)] w fun e w' => MEnd (numO (lf s a) p) w R s l e w' := by
  have hn := number_any w R 2 s a hs h.tx ha hE hR
  obtain ⟨h1, h2, -, h4⟩ := num_at (s := s) (a := a) ha
  have hle := rn_le isDg s (nAt s a) h2
  have HN := hide hn; have H := hide h; have H4 := hide h4; have HLE := hide hle
  clear hn h hE h4 hle h1 h2
  go_enter Tryz.func59, Tryz.ntmps59
  go_wp2_with fail
  refine (unhide HN).mono ?_
  rintro e w2 ⟨hm, ht, ⟨n, hat, hit, rfl⟩ | ⟨hno, rfl⟩⟩
  · have htr := (unhide H).mg hm ht
    have HTR := hide htr; have HM := hide hm; have HAT := hide hat; have HIT := hide hit
    clear htr hm ht hat hit HN
    by_cases hb : -999999999 ≤ n ∧ n ≤ 999999999
    · have HB := hide hb
      clear hb
      go_wp2_with (go_at_call 94; refine (newNum_yes _ _ (unhide HB)).mono ?_; rintro e w3 ⟨rfl, rfl⟩)
      go_ret
      refine MEnd.yes (t := .mk 1 n ByteArray.empty [] []) ?_ (unhide HLE) (unhide HM).but (srep1 rfl) (unhide HTR) hp0 hp1
      unfold numO
      rw [numOf_yes (unhide HB).1 (unhide HB).2 (unhide HIT), unhide H4]
    · have HB := hide hb
      clear hb
      go_wp2_with (go_at_call 94; refine (newNum_no _ _ (unhide HB)).mono ?_; rintro e w3 ⟨rfl, rfl⟩)
      refine ⟨rfl, MEnd.no ?_ (unhide HM).but⟩
      unfold numO
      rw [numOf_no]
      intro m h0 h1 hm
      have := atoi_itoa m h0 h1
      rw [hm, unhide HAT] at this
      cases this
      exact unhide HB ⟨h0, h1⟩
  · have HM := hide hm; have HNO := hide hno
    clear hm ht hno HN
    go_wp2_with fail
    refine ⟨rfl, MEnd.no ?_ (unhide HM).but⟩
    unfold numO
    rw [numOf_no]
    intro m h0 h1 hm
    refine unhide HNO m ?_ hm
    rw [← hm]
    exact atoi_itoa m h0 h1

theorem lf_room {s : ByteArray} {a : Nat} {c : UInt8} (h : (lf s a).head? = some c) : a + 1 ≤ s.size := by
  have := lf_len s a
  cases hl : lf s a with
  | nil => rw [hl] at h; simp at h
  | cons c r => rw [hl] at this; simp at this; omega

set_option maxHeartbeats 800000 in
theorem quoted_walk (w : World) (R : Nat) (s : ByteArray) (a : Nat) (p l : Int) (hs : s.size ≤ 1048576) (h : TR w R s a p l) (hh : (lf s a).head? = some 34) (hp0 : 0 ≤ p) (hp1 : p ≤ 120) :
    Calls Tryz.prog 60 #[.pointer (some ⟨R, 0, none⟩)] w fun e w' => MEnd (quoO (lf s a) p) w R s l e w' := by
  have hroom := lf_room hh
  have htk := xtake_yes w R 2 s (w1 34) a hs h.tx (by omega) (by decide) (by decide) (by rw [pre_one]; exact decide_eq_true hh)
  have hrn := fun W (hW : Tx W R 2 s (a + 1)) => xrun_quote W R 2 s (a + 1) hs hW hroom
  have hle := rn_le nqB s (a + 1) hroom
  have hdr := rn_drop nqB s (a + 1)
  have hq : quoO (lf s a) p = if (lf s (a + 1 + rn nqB s (a + 1))).head? = some 34 ∧ textOkB ⟨((lf s (a + 1)).takeWhile nqB).toArray⟩ = true then some (.mk 2 0 ⟨((lf s (a + 1)).takeWhile nqB).toArray⟩ [] [], lf s (a + 1 + rn nqB s (a + 1) + 1), p) else none := by
    unfold quoO
    rw [← lf_next, ← hdr, ← lf_next]
  rw [hq]
  have hXs : (⟨((lf s (a + 1)).takeWhile nqB).toArray⟩ : ByteArray).size ≤ 9223372036854775807 := by
    have h1 := (List.takeWhile_prefix (p := nqB) (l := lf s (a + 1))).length_le
    have h2 := lf_len s (a + 1)
    show ((lf s (a + 1)).takeWhile nqB).toArray.size ≤ _
    simp only [List.size_toArray]
    omega
  generalize (⟨((lf s (a + 1)).takeWhile nqB).toArray⟩ : ByteArray) = X at *
  generalize a + 1 + rn nqB s (a + 1) = a2 at *
  generalize hO : (if (lf s a2).head? = some 34 ∧ textOkB X = true then some (Tr.mk 2 0 X [] [], lf s (a2 + 1), p) else none) = O at *
  have HO := hide hO
  clear hO
  have HTK := hide htk; have HRN := hide hrn; have H := hide h
  clear htk hrn h hq hdr
  by_cases h34 : (lf s a2).head? = some 34
  · have hr2 := lf_room h34
    have HT2 := hide (fun W (hW : Tx W R 2 s a2) => xtake_yes W R 2 s (w1 34) a2 hs hW hle (by decide) (by decide) (by rw [pre_one]; exact decide_eq_true h34))
    have H34 := hide h34
    clear h34
    go_enter Tryz.func60, Tryz.ntmps60
    go_wp2_with (first
      | (go_at_call 73; refine (unhide HTK).mono ?_; rintro e w2 ⟨rfl, hr2, hm2⟩; have HR2 := hide hr2; have HM2 := hide hm2; clear hr2 hm2 HTK)
      | (go_at_call 95; refine (unhide HRN _ (unhide HR2)).mono ?_; rintro e w3 ⟨rfl, hr3, hm3⟩; have HR3 := hide hr3; have HM3 := hide ((unhide HM2).trans hm3); clear hr3 hm3)
      | (go_at_call 73; refine (unhide HT2 _ (unhide HR3)).mono ?_; rintro e w4 ⟨rfl, hr4, hm4⟩; have HR4 := hide hr4; have HM4 := hide ((unhide HM3).trans hm4); clear hr4 hm4))
    refine (newText_any X _ hXs).mono ?_
    rintro e w5 ⟨⟨hok, rfl⟩ | ⟨hok, rfl⟩, rfl⟩
    · have HOK := hide hok
      clear hok
      go_wp2_with fail
      go_ret
      refine MEnd.yes (t := .mk 2 0 X [] []) (a2 := a2 + 1) ?_ hr2 (unhide HM4).but (srep2 rfl) ((unhide H).mv (unhide HM4) (unhide HR4)) hp0 hp1
      rw [← unhide HO, if_pos ⟨unhide H34, unhide HOK⟩]
    · have HOK := hide hok
      clear hok
      go_wp2_with fail
      refine ⟨rfl, MEnd.no ?_ (unhide HM4).but⟩
      rw [← unhide HO, if_neg (fun h => by have := h.2; rw [unhide HOK] at this; cases this)]
  · have HT2 := hide (fun W (hW : Tx W R 2 s a2) => xtake_no W R 2 s (w1 34) a2 hW hle (by rw [pre_one]; exact decide_eq_false h34))
    have H34 := hide h34
    clear h34
    go_enter Tryz.func60, Tryz.ntmps60
    go_wp2_with (first
      | (go_at_call 73; refine (unhide HTK).mono ?_; rintro e w2 ⟨rfl, hr2, hm2⟩; have HR2 := hide hr2; have HM2 := hide hm2; clear hr2 hm2 HTK)
      | (go_at_call 95; refine (unhide HRN _ (unhide HR2)).mono ?_; rintro e w3 ⟨rfl, hr3, hm3⟩; have HR3 := hide hr3; have HM3 := hide ((unhide HM2).trans hm3); clear hr3 hm3)
      | (go_at_call 73; refine (unhide HT2 _ (unhide HR3)).mono ?_; rintro e w4 ⟨rfl, m, rfl⟩))
    refine ⟨rfl, MEnd.no ?_ ((unhide HM3).drewN m).but⟩
    rw [← unhide HO, if_neg (fun h => unhide H34 h.1)]

def wYes : ByteArray := ⟨#[121, 101, 115]⟩
def wNo : ByteArray := ⟨#[110, 111]⟩

set_option maxHeartbeats 800000 in
theorem flag_walk (w : World) (R : Nat) (s : ByteArray) (a : Nat) (p l : Int) (hs : s.size ≤ 1048576) (h : TR w R s a p l) (ha : a ≤ s.size) (hp0 : 0 ≤ p) (hp1 : p ≤ 120) :
    Calls Tryz.prog 61 #[.pointer (some ⟨R, 0, none⟩)] w fun e w' => MEnd (flgO (lf s a) p) w R s l e w' := by
  have hf : flgO (lf s a) p = if pre wYes s a = true then some (.mk 3 1 ByteArray.empty [] [], lf s (a + 3), p) else if pre wNo s a = true then some (.mk 3 0 ByteArray.empty [] [], lf s (a + 2), p) else none := by
    have e3 : lf s (a + 3) = (lf s a).drop 3 := lf_after (wd := wYes)
    have e2 : lf s (a + 2) = (lf s a).drop 2 := lf_after (wd := wNo)
    unfold flgO
    rw [e3, e2]
    rfl
  rw [hf]
  have H := hide h
  cases hy : pre wYes s a
  · have HS := hide (xskip_no w R 2 s wYes a h.tx ha hy)
    cases hn : pre wNo s a
    · have HT := hide (fun m => xtake_no (w.drewN m) R 2 s wNo a (h.tx.drewN m) ha hn)
      clear h hy hn hf
      go_enter Tryz.func61, Tryz.ntmps61
      go_wp2_with (first
        | (go_at_call 98; refine (unhide HS).mono ?_; rintro e w2 ⟨rfl, m, rfl⟩)
        | (go_at_call 73; refine (unhide HT _).mono ?_; rintro e w3 ⟨rfl, m2, rfl⟩))
      exact ⟨rfl, MEnd.no (by simp) ((Mv.refl R 3 w).drewN _).but⟩
    · have hroom := pre_room (by decide) hn
      have HT := hide (fun m => xtake_yes (w.drewN m) R 2 s wNo a hs (h.tx.drewN m) ha (by decide) (by decide) hn)
      clear h hy hn hf
      go_enter Tryz.func61, Tryz.ntmps61
      go_wp2_with (first
        | (go_at_call 98; refine (unhide HS).mono ?_; rintro e w2 ⟨rfl, m, rfl⟩)
        | (go_at_call 73; refine (unhide HT _).mono ?_; rintro e w3 ⟨rfl, hr3, hm3⟩; have HR3 := hide hr3; have HM3 := hide (((Mv.refl R 3 w).drewN m).trans hm3); clear hr3 hm3))
      go_ret
      exact MEnd.yes (t := .mk 3 0 ByteArray.empty [] []) (a2 := a + 2) (by simp) hroom (unhide HM3).but (srep3 (t := .mk 3 0 ByteArray.empty [] []) rfl) ((unhide H).mv (unhide HM3) (unhide HR3)) hp0 hp1
  · have hroom := pre_room (by decide) hy
    have HS := hide (xskip_yes w R 2 s wYes a hs h.tx ha (by decide) (by decide) hy)
    clear h hy hf
    go_enter Tryz.func61, Tryz.ntmps61
    go_wp2_with (go_at_call 98; refine (unhide HS).mono ?_; rintro e w3 ⟨rfl, hr3, hm3⟩; have HR3 := hide hr3; have HM3 := hide hm3; clear hr3 hm3)
    go_ret
    exact MEnd.yes (t := .mk 3 1 ByteArray.empty [] []) (a2 := a + 3) (by simp) hroom (unhide HM3).but (srep3 (t := .mk 3 1 ByteArray.empty [] []) rfl) ((unhide H).mv (unhide HM3) (unhide HR3)) hp0 hp1
end Go.Proofs.YtgamonfmgngilaaGreatDoor

/- What the program's reader of trees has gathered of a list or form: its names and kids, in rows of the call's own; lists, forms and maybes, given the reading of a tree one level below. For texts of at most 2^20 bytes. -/

namespace Go.Proofs.YtgamonfmgngilaaGreatDoor
open Go Go.RowKit

theorem infoSortedR : (Tryz.prog.info? 48).map (fun i => (i.zero, i.size, i.bytes)) = some (some .nilIface, 1, 16) := by kernel_rfl
theorem infoStrT : (Tryz.prog.info? 9).map (fun i => (i.zero, i.size, i.bytes)) = some (some (.string ByteArray.empty), 1, 16) := by kernel_rfl

/-- Names and kids, in rows of the call's own. -/
structure GotS (base : Nat) (wr : World) (vN vK : Value) (ns : List ByteArray) (ks : List Tr) (xs : List Value) : Prop where
  names : wr.ownsRow base 9 1 vN ns.length (ns.map Value.string)
  small : ∀ x, x ∈ ns → x.size ≤ 9223372036854775807
  apart : ∀ b, vN.ownBlock = some b → vK.ownBlock ≠ some b
  kids : wr.ownsRow base 48 1 vK ks.length xs
  reps : ∀ i, (hi : i < ks.length) → ∃ x, xs[i]? = some x ∧ SRep (fun b => base ≤ b ∧ b < wr.heap.size ∧ some b ≠ vN.ownBlock ∧ some b ≠ vK.ownBlock) wr ks[i] x

theorem GotS.start (base : Nat) (w : World) : GotS base w (.slice none 0 0) (.slice none 0 0) [] [] [] :=
  ⟨World.ownsRow_nil _ _ _ _, fun _ h => by simp at h, fun _ h => by simp [Value.ownBlock] at h, World.ownsRow_nil _ _ _ _, fun i hi => by simp at hi⟩

theorem GotS.kept {base : Nat} {wr w' : World} {vN vK : Value} {ns : List ByteArray} {ks : List Tr} {xs : List Value} (h : GotS base wr vN vK ns ks xs) {R : Nat} (hR : R < base) (hb : But R wr w') : GotS base w' vN vK ns ks xs := by
  have hn : vN.ownBlock ≠ some R := fun e => by have := (h.names.lt R e).1; omega
  have hk : vK.ownBlock ≠ some R := fun e => by have := (h.kids.lt R e).1; omega
  refine ⟨h.names.kept hb (Or.inr hn), h.small, h.apart, h.kids.kept hb (Or.inr hk), fun i hi => ?_⟩
  obtain ⟨c, h1, h2⟩ := h.reps i hi
  exact ⟨c, h1, SRep.carry (fun b hb' => hb.at hb'.2.1 (by omega)) (fun b hb' => ⟨hb'.1, Nat.lt_of_lt_of_le hb'.2.1 hb.size, hb'.2.2⟩) _ _ h2⟩

theorem GotS.alloc {base : Nat} {wr : World} {vN vK : Value} {ns : List ByteArray} {ks : List Tr} {xs : List Value} (h : GotS base wr vN vK ns ks xs) (o : Obj) : GotS base (wr.alloc o) vN vK ns ks xs := by
  refine ⟨h.names.alloc o, h.small, h.apart, h.kids.alloc o, fun i hi => ?_⟩
  obtain ⟨c, h1, h2⟩ := h.reps i hi
  exact ⟨c, h1, SRep.carry (fun b hb' => Below.heap_alloc _ _ _ hb'.2.1) (fun b hb' => ⟨hb'.1, by simp; omega, hb'.2.2⟩) _ _ h2⟩

theorem sepK' {vN vK : Value} (h : ∀ b, vN.ownBlock = some b → vK.ownBlock ≠ some b) : vK.ownBlock = none ∨ vK.ownBlock ≠ vN.ownBlock := by
  cases hK : vK.ownBlock with
  | none => exact Or.inl rfl
  | some b => exact Or.inr fun e => h b e.symm hK
theorem sepN' {vN vK : Value} (h : ∀ b, vN.ownBlock = some b → vK.ownBlock ≠ some b) : vN.ownBlock = none ∨ vN.ownBlock ≠ vK.ownBlock := by
  cases hN : vN.ownBlock with
  | none => exact Or.inl rfl
  | some b => exact Or.inr fun e => h b hN e.symm

/-- A name more. -/
theorem GotS.name {base : Nat} {wr w' : World} {vN vN' vK : Value} {ns : List ByteArray} {ks : List Tr} {xs : List Value} {nm : ByteArray} (h : GotS base wr vN vK ns ks xs) (hnm : nm.size ≤ 9223372036854775807)
    (hown : w'.ownsRow base 9 1 vN' (ns.length + 1) (ns.map Value.string ++ [.string nm])) (hg : wr.grownBy w' vN.ownBlock) (hv : vN'.ownBlock = vN.ownBlock ∨ ∃ g, vN'.ownBlock = some g ∧ wr.heap.size ≤ g) :
    GotS base w' vN' vK (ns ++ [nm]) ks xs := by
  have hkl := h.kids.lt
  refine ⟨by simpa using hown, fun x hx => ?_, fun b hb e => ?_, h.kids.kept hg (sepK' h.apart), fun i hi => ?_⟩
  · rcases List.mem_append.1 hx with hx | hx
    · exact h.small x hx
    · simp at hx; subst hx; exact hnm
  · rcases hv with e2 | ⟨g, e2, hgg⟩
    · exact h.apart b (by rw [← e2]; exact hb) e
    · rw [e2] at hb
      simp only [Option.some.injEq] at hb
      have := (hkl b e).2
      omega
  · obtain ⟨c, h1, h2⟩ := h.reps i hi
    refine ⟨c, h1, SRep.carry (fun b hb' => hg.block b hb'.2.1 hb'.2.2.1) (fun b hb' => ⟨hb'.1, Nat.lt_of_lt_of_le hb'.2.1 hg.size, ?_, hb'.2.2.2⟩) _ _ h2⟩
    rcases hv with e2 | ⟨g, e2, hgg⟩
    · rw [e2]; exact hb'.2.2.1
    · rw [e2]; intro e; simp only [Option.some.injEq] at e; have := hb'.2.1; omega

/-- A kid more. -/
theorem GotS.kid {base : Nat} {wr w' : World} {vN vK vK' x : Value} {ns : List ByteArray} {ks : List Tr} {xs : List Value} {t : Tr} (h : GotS base wr vN vK ns ks xs)
    (hc : SRep (fun b => base ≤ b ∧ b < wr.heap.size ∧ some b ≠ vN.ownBlock ∧ some b ≠ vK.ownBlock) wr t x)
    (hown : w'.ownsRow base 48 1 vK' (ks.length + 1) (xs ++ [x])) (hg : wr.grownBy w' vK.ownBlock) (hv : vK'.ownBlock = vK.ownBlock ∨ ∃ g, vK'.ownBlock = some g ∧ wr.heap.size ≤ g) :
    GotS base w' vN vK' ns (ks ++ [t]) (xs ++ [x]) := by
  have hnl := h.names.lt
  have hcar : ∀ (t : Tr) (c : Value), SRep (fun b => base ≤ b ∧ b < wr.heap.size ∧ some b ≠ vN.ownBlock ∧ some b ≠ vK.ownBlock) wr t c → SRep (fun b => base ≤ b ∧ b < w'.heap.size ∧ some b ≠ vN.ownBlock ∧ some b ≠ vK'.ownBlock) w' t c := fun t c h2 => by
    refine SRep.carry (fun b hb' => hg.block b hb'.2.1 hb'.2.2.2) (fun b hb' => ⟨hb'.1, Nat.lt_of_lt_of_le hb'.2.1 hg.size, hb'.2.2.1, ?_⟩) _ _ h2
    rcases hv with e2 | ⟨g, e2, hgg⟩
    · rw [e2]; exact hb'.2.2.2
    · rw [e2]; intro e; simp only [Option.some.injEq] at e; have := hb'.2.1; omega
  have hxl : xs.length = ks.length := by have := h.kids.1; omega
  refine ⟨h.names.kept hg (sepN' h.apart), h.small, fun b hb e => ?_, by simpa using hown, fun i hi => ?_⟩
  · rcases hv with e2 | ⟨g, e2, hgg⟩
    · exact h.apart b hb (by rw [← e2]; exact e)
    · rw [e2] at e
      simp only [Option.some.injEq] at e
      have := (hnl b hb).2
      omega
  · by_cases e : i = ks.length
    · subst e
      exact ⟨x, by rw [← hxl]; simp, by simpa using hcar t x hc⟩
    · have hi' : i < ks.length := by simp at hi; omega
      obtain ⟨d, h1, h2⟩ := h.reps i hi'
      exact ⟨d, by rw [List.getElem?_append_left (by omega)]; exact h1, by rw [List.getElem_append_left hi']; exact hcar _ _ h2⟩

theorem GotS.done {base : Nat} {wr : World} {vN vK : Value} {ns : List ByteArray} {ks : List Tr} {xs : List Value} (h : GotS base wr vN vK ns ks xs) :
    StrsAt (fun b => base ≤ b ∧ b < wr.heap.size) wr vN ns ∧ SKids (fun b => base ≤ b ∧ b < wr.heap.size) wr vK ks := by
  constructor
  · rcases h.names.2 with ⟨hv, hn0⟩ | ⟨g, cap, cur, hv, hgb, hh, hle, hm2, hsz, htk⟩
    · exact ⟨none, 0, by rw [hv, hn0], by omega, fun i hi => by omega⟩
    · refine ⟨some ⟨g, 0, none⟩, cap, hv, by unfold maxLen at hm2; omega, fun i hi => ⟨g, 0, rfl, ⟨hgb, (Array.getElem?_eq_some_iff.1 hh).1⟩, ?_, h.small _ (List.getElem_mem hi)⟩⟩
      have h1 : (ns.map Value.string)[i]? = some (.string ns[i]) := by simp [hi]
      rw [← htk, List.getElem?_take_of_lt (by omega)] at h1
      simp only [Nat.zero_add, World.cell?, hh]
      simpa using h1
  · rcases h.kids.2 with ⟨hv, hn0⟩ | ⟨g, cap, cur, hv, hgb, hh, hle, hm2, hsz, htk⟩
    · exact ⟨none, 0, by rw [hv, hn0], fun hk => absurd (List.eq_nil_of_length_eq_zero hn0) hk⟩
    · refine ⟨some ⟨g, 0, none⟩, cap, hv, fun _ => ⟨g, rfl, ⟨hgb, (Array.getElem?_eq_some_iff.1 hh).1⟩, SRepK.mk fun i hi => ?_⟩⟩
      obtain ⟨x, h1, h2⟩ := h.reps i hi
      refine ⟨x, ?_, SRep.carry (fun _ _ => rfl) (fun b hb => ⟨hb.1, hb.2.1⟩) _ _ h2⟩
      rw [← htk, List.getElem?_take] at h1
      split at h1
      · simp only [Nat.zero_add, World.cell?, hh]
        simpa using h1
      · cases h1

/-- more, whatever stands there. -/
theorem more_any (w : World) (R o : Nat) (s : ByteArray) (a n : Nat) (c : UInt8) (hs : s.size ≤ 1048576) (h : Tx w R o s a) (ha : a ≤ s.size) :
    Calls Tryz.prog 99 #[.pointer (some ⟨R, o, none⟩), .string (w1 c), .int .i64 n] w fun e w' => Mv R (o + 1) w w' ∧
      (((lf s a).head? = some c ∧ e = .returned (.bool false) ∧ Tx w' R o s (a + 1)) ∨ ((lf s a).head? ≠ some c ∧ ∃ a1, cma n (lf s a) = some (lf s a1) ∧ a ≤ a1 ∧ a1 ≤ s.size ∧ e = .returned (.bool true) ∧ Tx w' R o s a1) ∨ ((lf s a).head? ≠ some c ∧ cma n (lf s a) = none ∧ e = fltE)) := by
  by_cases hh : (lf s a).head? = some c
  · refine (xmore_end w R o s a n c hs h ha (by rw [pre_one]; exact decide_eq_true hh)).mono ?_
    rintro e w' ⟨rfl, h1, h2⟩
    exact ⟨h2, Or.inl ⟨hh, rfl, h1⟩⟩
  · have hp : pre (w1 c) s a = false := by rw [pre_one]; exact decide_eq_false hh
    rcases Nat.eq_zero_or_pos n with rfl | hn
    · refine (xmore_first w R o s a c h ha hp).mono ?_
      rintro e w' ⟨rfl, h1, h2⟩
      exact ⟨h2, Or.inr (Or.inl ⟨hh, a, by unfold cma; rw [if_pos rfl], Nat.le_refl _, ha, rfl, h1⟩)⟩
    · by_cases h44 : (lf s a).head? = some 44
      · refine (xmore_comma w R o s a n c hn hs h ha hp (by rw [pre_one]; exact decide_eq_true h44)).mono ?_
        rintro e w' ⟨rfl, h1, h2⟩
        exact ⟨h2, Or.inr (Or.inl ⟨hh, a + 1, by unfold cma; rw [if_neg (by omega), if_pos h44, lf_next], by omega, lf_room h44, rfl, h1⟩)⟩
      · refine (xmore_none w R o s a n c hn h ha hp (by rw [pre_one]; exact decide_eq_false h44)).mono ?_
        rintro e w' ⟨rfl, m, rfl⟩
        exact ⟨(Mv.refl _ _ _).drewN m, Or.inr (Or.inr ⟨hh, by unfold cma; rw [if_neg (by omega), if_neg h44], rfl⟩)⟩

/-- The reading of a tree, so many levels left. -/
def TSaid (d : Nat) : Prop := ∀ (w : World) (R : Nat) (s : ByteArray) (a : Nat) (p : Int), s.size ≤ 1048576 → TR w R s a p (6 - d) → a ≤ s.size → Env w → gTop ≤ R → 0 ≤ p → p ≤ 120 →
  Calls Tryz.prog 66 #[.pointer (some ⟨R, 0, none⟩)] w fun e w' => MEnd (rdT d (lf s a) p) w R s (6 - d) e w'

/-- What a list comes to. -/
def lstF : Option (List ByteArray × List Tr × List UInt8 × Int) → Option (Tr × List UInt8 × Int)
  | none => none
  | some (_, ks, rest, q) => if ks.length ≤ 20 then some (.mk 4 0 ByteArray.empty [] ks, rest, q) else none
noncomputable def lstO (d : Nat) (inp : List UInt8) (p : Int) : Option (Tr × List UInt8 × Int) := lstF (lp (rdT d) false 93 (inp.length + 1) [] [] inp.tail p)
/-- What a form comes to. -/
def frmF : Option (List ByteArray × List Tr × List UInt8 × Int) → Option (Tr × List UInt8 × Int)
  | none => none
  | some (ns, ks, rest, q) => if riseB ns = true then some (.mk 5 0 ByteArray.empty ns ks, rest, q) else none
noncomputable def frmO (d : Nat) (inp : List UInt8) (p : Int) : Option (Tr × List UInt8 × Int) := frmF (lp (rdT d) true 125 (inp.length + 1) [] [] inp.tail p)

set_option maxRecDepth 100000 in
set_option maxHeartbeats 1600000 in
theorem list_walk (d : Nat) (hd : d ≤ 6) (IH : TSaid d) (w : World) (R : Nat) (s : ByteArray) (a : Nat) (p : Int) (hs : s.size ≤ 1048576) (h : TR w R s a p (6 - d)) (hh : (lf s a).head? = some 91) (hE : Env w) (hR : gTop ≤ R) (hp0 : 0 ≤ p) (hp1 : p ≤ 120) :
    Calls Tryz.prog 62 #[.pointer (some ⟨R, 0, none⟩)] w fun e w' => MEnd (lstO d (lf s a) p) w R s (6 - d) e w' := by
  have hroom := lf_room hh
  have hlt := h.lt
  have htk := xtake_yes w R 2 s (w1 91) a hs h.tx (by omega) (by decide) (by decide) (by rw [pre_one]; exact decide_eq_true hh)
  obtain ⟨X, hX⟩ : ∃ X, X = lp (rdT d) false 93 ((lf s a).length + 1) [] [] (lf s (a + 1)) p := ⟨_, rfl⟩
  have hO : lstO d (lf s a) p = lstF X := by rw [hX, lf_next]; rfl
  have hl1 : (lf s (a + 1)).length < (lf s a).length + 1 := by rw [lf_len, lf_len]; omega
  generalize lstO d (lf s a) p = O at *
  obtain ⟨i0, hi, hz0, hz1, hz2⟩ := info_parts infoSortedR
  have HII := hide hi; have HZ0 := hide hz0; have HZ1 := hide hz1; have HZ2 := hide hz2
  have HTK := hide htk; have H := hide h; have HE := hide hE; have HI := hide IH; have HO := hide hO; have HX := hide hX
  clear htk h hE IH hO hX hi hz0 hz1 hz2 hh
  generalize hL : (6 : Int) - (d : Int) = L at *
  have HL := hide hL; clear hL
  go_enter Tryz.func62, Tryz.ntmps62
  go_wp2_with (go_at_call 73; refine (unhide HTK).mono ?_; rintro e w2 ⟨rfl, hr2, hm2⟩; have HR2 := hide ((unhide H).mv hm2 hr2); have HM2 := hide hm2.but; have HS2 := hide hm2.size; clear hr2 hm2 HTK)
  go_loopw [3] (fun v wr => ∃ (ks : List Tr) (k : Nat) (a' : Option Addr) (cap' : Nat) (xs : List Value) (aa : Nat) (q : Int), v = .slice a' k cap' ∧ Hid (ks.length = k ∧ k ≤ aa ∧ aa ≤ s.size ∧ 0 ≤ q ∧ q ≤ 120 ∧ ∃ f, (lf s aa).length < f ∧ lp (rdT d) false 93 f [] ks (lf s aa) q = X) ∧ Hid (GotS w.heap.size wr (.slice none 0 0) (.slice a' k cap') [] ks xs) ∧ Hid (TR wr R s aa q L) ∧ Hid (But R w wr)) (fun _ wr => s.size - txAt wr R 2)
  case atStart => exact ⟨[], 0, none, 0, [], a + 1, p, rfl, hide ⟨rfl, by omega, hroom, hp0, hp1, _, hl1, (unhide HX).symm⟩, hide ((GotS.start w.heap.size w).kept (R := R) (by omega) (unhide HM2)), HR2, HM2⟩
  case round =>
    obtain ⟨ks, k, a', cap', xs, aa, q, rfl, HA, HG, HT, HB⟩ := hrel
    obtain ⟨hkl, hka, haa, hq0, hq1, f, hf, hfX⟩ := HA.out
    obtain ⟨f, rfl⟩ : ∃ g, f = g + 1 := ⟨f - 1, by omega⟩
    have hat := HT.out.tx.atOf
    have HAT := hide hat
    have HMO := hide (more_any wr R 2 s aa k 93 hs HT.out.tx haa)
    have HFX := hide hfX
    have hkb : k ≤ 1048576 := by omega
    clear hfX hat
    go_wp2_with fail
    refine (unhide HMO).mono ?_
    rintro e w3 ⟨hm3, ⟨h93, rfl, ht3⟩ | ⟨hne, a1, hc1, ha1, ha1s, rfl, ht3⟩ | ⟨hne, hc1, rfl⟩⟩
    · have hfx := unhide HFX
      rw [lp, if_pos h93] at hfx
      have hr3 := lf_room h93
      have HG3 := hide (HG.out.kept (R := R) (by omega) hm3.but)
      have HT3 := hide (HT.out.mv hm3 ht3); have HB3 := hide (HB.out.trans hm3.but)
      have hOO := unhide HO
      rw [← hfx] at hOO
      simp only [lstF] at hOO
      have HOO := hide hOO
      clear hfx hm3 ht3 HMO hOO h93
      by_cases h20 : k ≤ 20
      · have HH := hide h20
        clear h20
        go_wp2_with (go_at_call 100; refine (newList_yes _ _ _ _ (unhide HH)).mono ?_; rintro e w4 ⟨rfl, rfl⟩)
        go_ret
        refine MEnd.yes (t := .mk 4 0 ByteArray.empty [] ks) (a2 := aa + 1) (q := q) ?_ hr3 (unhide HB3) (srep4 rfl (unhide HG3).done.2) (unhide HT3) hq0 hq1
        rw [unhide HOO, if_pos (by have := unhide HH; omega), lf_next]
      · have HH := hide h20
        clear h20
        go_wp2_with (go_at_call 100; refine (newList_no _ _ _ _ (unhide HH)).mono ?_; rintro e w4 ⟨rfl, rfl⟩)
        refine ⟨rfl, MEnd.no ?_ (unhide HB3)⟩
        rw [unhide HOO, if_neg (by have := unhide HH; omega)]
    · have hfx := unhide HFX
      rw [lp, if_neg hne, hkl, hc1] at hfx
      simp only [nmr, Bool.false_eq_true, if_false] at hfx
      have hg3 := HG.out.kept (R := R) (by omega) hm3.but
      have ht3' := HT.out.mv hm3 ht3
      have hb3 := HB.out.trans hm3.but
      have hcall : Calls Tryz.prog 66 #[.pointer (some ⟨R, 0, none⟩)] w3 fun e w' => MEnd (rdT d (lf s a1) q) w3 R s L e w' := by
        have := unhide HI w3 R s a1 q hs (by rw [unhide HL]; exact ht3') ha1s ((unhide HE).but hb3 hR) hR hq0 hq1
        rw [unhide HL] at this
        exact this
      have HCALL := hide hcall; have HG3 := hide hg3; have HB3 := hide hb3; have HFX2 := hide hfx
      clear hcall hg3 ht3' hb3 hfx hm3 ht3 HMO hne hc1
      go_wp2_with fail
      refine (unhide HCALL).mono ?_
      rintro e w4 ⟨hb4, ⟨t, a4, q4, v4, hrd, ha4, rfl, hsr4, htr4, hq40, hq41⟩ | ⟨hrd, rfl⟩⟩
      · have hfx := unhide HFX2
        rw [hrd] at hfx
        simp only at hfx
        have hlen := rdT_len d hd _ _ _ _ _ hrd
        rw [lf_len, lf_len] at hlen
        have hl4 : (lf s a4).length < f := by rw [lf_len]; rw [lf_len] at hf; omega
        have hg4 := (unhide HG3).kept (R := R) (by omega) hb4
        have hs3 := (unhide HB3).size
        have hs4 := hb4.size
        have hnew : SRep (fun b => w.heap.size ≤ b ∧ b < w4.heap.size ∧ some b ≠ (Value.slice none 0 0).ownBlock ∧ some b ≠ (Value.slice a' k cap').ownBlock) w4 t v4 :=
          SRep.carry (fun _ _ => rfl) (fun b hb => ⟨by omega, hb.2, by simp [Value.ownBlock], fun e => by have := ((unhide HG3).kids.lt b e.symm).2; omega⟩) _ _ hsr4
        obtain ⟨T, x, rfl⟩ := hsr4.iface
        have HNEW := hide hnew; have HG4 := hide hg4; have HT4 := hide htr4; have HB4 := hide ((unhide HB3).trans hb4); have HFX4 := hide hfx
        clear hfx hrd hnew hg4 htr4 hb4 hsr4 HG3 HB3 HCALL HFX2 HFX
        go_wp2_with (at_builtin; refine append_row _ rfl _ _ 91 rfl w.heap.size 48 i0 .nilIface 1 16 Tryz.underlying91 (unhide HII) (unhide HZ0) (unhide HZ1) (unhide HZ2) rfl (by decide) (.slice a' k cap') k xs rfl (by have := (unhide HG4).kids; rw [hkl] at this; exact this.alloc _) ⟨w4.heap.size, 0, none⟩ 1 1 [.iface T x] rfl rfl (cell_one _ _ _) (fun u hu => by simp at hu; subst hu; rfl) (by decide) (by unfold maxLen; omega) (by omega) (by simp; omega) ?_; intro v' w5 hown5 hgrow5 hv5)
        obtain ⟨g', cap'', hv''⟩ : ∃ g' cap'', v' = .slice (some ⟨g', 0, none⟩) (k + 1) cap'' := by
          rcases hown5.2 with ⟨_, h⟩ | ⟨g', cap'', _, h, _⟩
          · omega
          · exact ⟨g', cap'', h⟩
        have hlo : ∀ b, (Value.slice a' k cap').ownBlock = some b → w.heap.size ≤ b := fun b hb => ((unhide HG4).kids.lt b hb).1
        have hga : GotS w.heap.size w5 (.slice none 0 0) v' [] (ks ++ [t]) (xs ++ [.iface T x]) :=
          ((unhide HG4).alloc (.cells #[.iface T x] 48)).kid (SRep.carry (fun b hb => Below.heap_alloc _ _ _ hb.2.1) (fun b hb => ⟨hb.1, by simp; omega, hb.2.2⟩) _ _ (unhide HNEW)) (by rw [hkl]; exact hown5) hgrow5 hv5
        have hR5 : w5.heap[R]? = w4.heap[R]? := by
          rw [hgrow5.block R (by simp; omega) (fun e => by have := hlo R e.symm; omega)]
          exact Below.heap_alloc _ _ _ (by omega)
        have hbut5 : But R w w5 := by
          have h2 := unhide HB4
          have hs5 := hgrow5.size
          rw [World.size_alloc] at hs5
          refine ⟨hgrow5.os.trans h2.os, hgrow5.tape.trans h2.tape, hgrow5.output.trans h2.output, by omega, fun i hi hne => ?_⟩
          rw [hgrow5.block i (by simp; omega) (fun e => by have := hlo i e.symm; omega), Below.heap_alloc _ _ _ (by omega), h2.block i hi hne]
        have htr5 := (unhide HT4).of_block hR5
        subst hv''
        have HGA := hide hga; have HT5 := hide htr5; have HB5 := hide hbut5
        clear hga htr5 hbut5 hown5 hgrow5 hv5 hR5 hlo
        go_roundw
        case rel => exact ⟨ks ++ [t], k + 1, some ⟨g', 0, none⟩, cap'', _, a4, q4, rfl, hide ⟨by simp [hkl], by omega, ha4, hq40, hq41, f, hl4, unhide HFX4⟩, HGA, HT5, HB5⟩
        case measure => rw [(unhide HT5).tx.atOf, unhide HAT]; omega
      · have hfx := unhide HFX2
        rw [hrd] at hfx
        simp only at hfx
        have hOO := unhide HO
        rw [← hfx] at hOO
        simp only [lstF] at hOO
        have HOO := hide hOO; have HB4 := hide ((unhide HB3).trans hb4)
        clear hfx hrd hb4 hOO HCALL
        go_wp2_with fail
        exact ⟨rfl, MEnd.no (unhide HOO) (unhide HB4)⟩
    · have hfx := unhide HFX
      rw [lp, if_neg hne, hkl, hc1] at hfx
      simp only at hfx
      have hOO := unhide HO
      rw [← hfx] at hOO
      simp only [lstF] at hOO
      have HOO := hide hOO; have HB3 := hide (HB.out.trans hm3.but)
      clear hfx hm3 HMO hOO
      go_wp2_with fail
      exact ⟨rfl, MEnd.no (unhide HOO) (unhide HB3)⟩
end Go.Proofs.YtgamonfmgngilaaGreatDoor
