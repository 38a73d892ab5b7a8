/- The program's reader of trees: what its worlds hold; what it has gathered of a list or form; the leaves. The tables of strconv are as the program's text lays them; for texts of at most 2^20 bytes. -/
import Derived.Test.YtbkagahmiibclaaGreatDoorPart29
import Derived.Test.YtbkagahmiibclaaGreatDoorPart19
import Derived.Test.YtbkagahmiibclaaGreatDoorPart28
import Derived.Test.YtbkagahmiibclaaGreatDoorRows
import Derived.Test.YtbkagahmiibclaaGreatDoorPart00
import Derived.Test.YtbkagahmiibclaaGreatDoorPart01
import Derived.Test.YtbkagahmiibclaaGreatDoorPart18
import Derived.Deep.CutRange
namespace Go.Proofs.YtbkagahmiibclaaGreatDoor
open Go Go.RowKit

/-- The method for a first byte. -/
def srt (R i : Nat) : Value :=
  if (48 ≤ i ∧ i ≤ 57) ∨ i = 45 then .func (.func 98) #[.pointer (some ⟨R, 0, none⟩)] #[]
  else if i = 34 then .func (.func 99) #[.pointer (some ⟨R, 0, none⟩)] #[]
  else if i = 121 ∨ i = 110 then .func (.func 100) #[.pointer (some ⟨R, 0, none⟩)] #[]
  else if i = 91 then .func (.func 101) #[.pointer (some ⟨R, 0, none⟩)] #[]
  else if i = 123 then .func (.func 102) #[.pointer (some ⟨R, 0, none⟩)] #[]
  else if i = 126 ∨ i = 63 then .func (.func 103) #[.pointer (some ⟨R, 0, none⟩)] #[]
  else .nilFunc

/-- A reader of trees lies in block R: parts, level, text, place, and the methods by their first bytes. -/
structure TR (w : World) (R : Nat) (s : ByteArray) (a : Nat) (p l : Int) : Prop where
  bnd : Bnd w R p l
  tx : Tx w R 2 s a
  tab : ∀ i, i < 256 → w.cell? ⟨R, 4 + i, none⟩ = some (srt R i)
section
variable {w w' : World} {R : Nat} {s : ByteArray} {a a' : Nat} {p l : Int}
theorem TR.lt (h : TR w R s a p l) : R < w.heap.size := h.tx.lt
theorem TR.of_block (h : TR w R s a p l) (e : w'.heap[R]? = w.heap[R]?) : TR w' R s a p l :=
  ⟨h.bnd.of_block e, h.tx.of_block e, fun i hi => by rw [World.cell?_of_block (w := w) e]; exact h.tab i hi⟩
theorem TR.drewN (h : TR w R s a p l) (n : Nat) : TR (w.drewN n) R s a p l := h.of_block rfl
theorem TR.alloc (h : TR w R s a p l) (o : Obj) : TR (w.alloc o) R s a p l := h.of_block (Below.heap_alloc _ _ _ h.lt)
theorem TR.mg (h : TR w R s a p l) (hm : Mg R 3 w w') (ht : Tx w' R 2 s a') : TR w' R s a' p l := by
  obtain ⟨c0, c1, f0, f1⟩ := h.bnd
  exact ⟨⟨by rw [hm.cell 0 (by decide)]; exact c0, by rw [hm.cell 1 (by decide)]; exact c1, by rw [hm.frz]; exact f0, by rw [hm.frz]; exact f1⟩, ht, fun i hi => by rw [hm.cell (4 + i) (by omega)]; exact h.tab i hi⟩
theorem TR.mv (h : TR w R s a p l) (hm : Mv R 3 w w') (ht : Tx w' R 2 s a') : TR w' R s a' p l := h.mg hm.mg ht
theorem TR.set1 (h : TR w R s a p l) (l' : Int) : TR (w.setCell ⟨R, 1, none⟩ (.int .i64 l')) R s a p l' := by
  refine ⟨h.bnd.set1 l', ⟨?_, ?_, ?_⟩, fun i hi => ?_⟩
  · rw [World.cell?_setCell_other _ _ _ _ (fun e => by have := congrArg Addr.off e; simp at this)]; exact h.tx.c0
  · rw [World.cell?_setCell_other _ _ _ _ (fun e => by have := congrArg Addr.off e; simp at this)]; exact h.tx.c1
  · rw [World.frozen?_setCell]; exact h.tx.f1
  · rw [World.cell?_setCell_other _ _ _ _ (fun e => by have := congrArg Addr.off e; simp at this; omega)]; exact h.tab i hi
theorem TR.set2 (h : TR w R s a p l) (p' l' : Int) : TR ((w.setCell ⟨R, 0, none⟩ (.int .i64 p')).setCell ⟨R, 1, none⟩ (.int .i64 l')) R s a p' l' := by
  refine ⟨h.bnd.set2 p' l', ⟨?_, ?_, ?_⟩, fun i hi => ?_⟩
  · rw [World.cell?_setCell_other _ _ _ _ (fun e => by have := congrArg Addr.off e; simp at this), World.cell?_setCell_other _ _ _ _ (fun e => by have := congrArg Addr.off e; simp at this)]; exact h.tx.c0
  · rw [World.cell?_setCell_other _ _ _ _ (fun e => by have := congrArg Addr.off e; simp at this), World.cell?_setCell_other _ _ _ _ (fun e => by have := congrArg Addr.off e; simp at this)]; exact h.tx.c1
  · rw [World.frozen?_setCell, World.frozen?_setCell]; exact h.tx.f1
  · rw [World.cell?_setCell_other _ _ _ _ (fun e => by have := congrArg Addr.off e; simp at this; omega), World.cell?_setCell_other _ _ _ _ (fun e => by have := congrArg Addr.off e; simp at this; omega)]; exact h.tab i hi
end

/-- How a reading ends: with a tree in new blocks, or with a fault. -/
def MEnd (o : Option (Tr × List UInt8 × Int)) (w : World) (R : Nat) (s : ByteArray) (l : Int) (e : Ending) (w' : World) : Prop :=
  But R w w' ∧ ((∃ t a2 q v, o = some (t, lf s a2, q) ∧ a2 ≤ s.size ∧ e = .returned v ∧ SRep (fun b => w.heap.size ≤ b ∧ b < w'.heap.size) w' t v ∧ TR w' R s a2 q l ∧ 0 ≤ q ∧ q ≤ 120) ∨ (o = none ∧ e = fltE))
theorem MEnd.no {o : Option (Tr × List UInt8 × Int)} {w w' : World} {R : Nat} {s : ByteArray} {l : Int} (h : o = none) (hb : But R w w') : MEnd o w R s l fltE w' := ⟨hb, Or.inr ⟨h, rfl⟩⟩
theorem MEnd.yes {o : Option (Tr × List UInt8 × Int)} {w w' : World} {R : Nat} {s : ByteArray} {l : Int} {t : Tr} {a2 : Nat} {q : Int} {v : Value} (h : o = some (t, lf s a2, q)) (ha : a2 ≤ s.size) (hb : But R w w') (hr : SRep (fun b => w.heap.size ≤ b ∧ b < w'.heap.size) w' t v) (ht : TR w' R s a2 q l) (hq0 : 0 ≤ q) (hq1 : q ≤ 120) : MEnd o w R s l (.returned v) w' :=
  ⟨hb, Or.inl ⟨t, a2, q, v, h, ha, rfl, hr, ht, hq0, hq1⟩⟩

/-- What a number comes to. -/
noncomputable def numO (inp : List UInt8) (p : Int) : Option (Tr × List UInt8 × Int) := match numOf (numRun inp).1 with
  | none => none
  | some n => some (.mk 1 n ByteArray.empty [] [], (numRun inp).2, p)
/-- What a quoted text comes to. -/
def quoO (inp : List UInt8) (p : Int) : Option (Tr × List UInt8 × Int) :=
  if (inp.tail.dropWhile nqB).head? = some 34 ∧ textOkB ⟨(inp.tail.takeWhile nqB).toArray⟩ = true then
    some (.mk 2 0 ⟨(inp.tail.takeWhile nqB).toArray⟩ [] [], (inp.tail.dropWhile nqB).tail, p) else none
/-- What a flag comes to. -/
def flgO (inp : List UInt8) (p : Int) : Option (Tr × List UInt8 × Int) :=
  if [121, 101, 115].isPrefixOf inp = true then some (.mk 3 1 ByteArray.empty [] [], inp.drop 3, p)
  else if [110, 111].isPrefixOf inp = true then some (.mk 3 0 ByteArray.empty [] [], inp.drop 2, p) else none

set_option maxHeartbeats 800000 in
theorem num_walk (w : World) (R : Nat) (s : ByteArray) (a : Nat) (p l : Int) (hs : s.size ≤ 1048576) (h : TR w R s a p l) (ha : a ≤ s.size) (hE : Env w) (hR : gTop ≤ R) (hp0 : 0 ≤ p) (hp1 : p ≤ 120) :
    Calls Tryz.prog 98 #[.pointer (some ⟨R, 0, none⟩)] w fun e w' => MEnd (numO (lf s a) p) w R s l e w' := by
  have hn := number_any w R 2 s a hs h.tx ha hE hR
  obtain ⟨h1, h2, -, h4⟩ := num_at (s := s) (a := a) ha
  have hle := rn_le isDg s (nAt s a) h2
  have HN := hide hn; have H := hide h; have H4 := hide h4; have HLE := hide hle
  clear hn h hE h4 hle h1 h2
  go_enter Tryz.func98, Tryz.ntmps98
  go_wp2_with fail
  refine (unhide HN).mono ?_
  rintro e w2 ⟨hm, ht, ⟨n, hat, hit, rfl⟩ | ⟨hno, rfl⟩⟩
  · have htr := (unhide H).mg hm ht
    have HTR := hide htr; have HM := hide hm; have HAT := hide hat; have HIT := hide hit
    clear htr hm ht hat hit HN
    by_cases hb : -999999999 ≤ n ∧ n ≤ 999999999
    · have HB := hide hb
      clear hb
      go_wp2_with (go_at_call 128; refine (newNum_yes _ _ (unhide HB)).mono ?_; rintro e w3 ⟨rfl, rfl⟩)
      go_ret
      refine MEnd.yes (t := .mk 1 n ByteArray.empty [] []) ?_ (unhide HLE) (unhide HM).but (srep1 rfl) (unhide HTR) hp0 hp1
      unfold numO
      rw [numOf_yes (unhide HB).1 (unhide HB).2 (unhide HIT), unhide H4]
    · have HB := hide hb
      clear hb
      go_wp2_with (go_at_call 128; refine (newNum_no _ _ (unhide HB)).mono ?_; rintro e w3 ⟨rfl, rfl⟩)
      refine ⟨rfl, MEnd.no ?_ (unhide HM).but⟩
      unfold numO
      rw [numOf_no]
      intro m h0 h1 hm
      have := atoi_itoa m h0 h1
      rw [hm, unhide HAT] at this
      cases this
      exact unhide HB ⟨h0, h1⟩
  · have HM := hide hm; have HNO := hide hno
    clear hm ht hno HN
    go_wp2_with fail
    refine ⟨rfl, MEnd.no ?_ (unhide HM).but⟩
    unfold numO
    rw [numOf_no]
    intro m h0 h1 hm
    refine unhide HNO m ?_ hm
    rw [← hm]
    exact atoi_itoa m h0 h1

theorem lf_room {s : ByteArray} {a : Nat} {c : UInt8} (h : (lf s a).head? = some c) : a + 1 ≤ s.size := by
  have := lf_len s a
  cases hl : lf s a with
  | nil => rw [hl] at h; simp at h
  | cons c r => rw [hl] at this; simp at this; omega

set_option maxHeartbeats 800000 in
theorem quoted_walk (w : World) (R : Nat) (s : ByteArray) (a : Nat) (p l : Int) (hs : s.size ≤ 1048576) (h : TR w R s a p l) (hh : (lf s a).head? = some 34) (hp0 : 0 ≤ p) (hp1 : p ≤ 120) :
    Calls Tryz.prog 99 #[.pointer (some ⟨R, 0, none⟩)] w fun e w' => MEnd (quoO (lf s a) p) w R s l e w' := by
  have hroom := lf_room hh
  have htk := xtake_yes w R 2 s (w1 34) a hs h.tx (by omega) (by decide) (by decide) (by rw [pre_one]; exact decide_eq_true hh)
  have hrn := fun W (hW : Tx W R 2 s (a + 1)) => xrun_quote W R 2 s (a + 1) hs hW hroom
  have hle := rn_le nqB s (a + 1) hroom
  have hdr := rn_drop nqB s (a + 1)
  have hq : quoO (lf s a) p = if (lf s (a + 1 + rn nqB s (a + 1))).head? = some 34 ∧ textOkB ⟨((lf s (a + 1)).takeWhile nqB).toArray⟩ = true then some (.mk 2 0 ⟨((lf s (a + 1)).takeWhile nqB).toArray⟩ [] [], lf s (a + 1 + rn nqB s (a + 1) + 1), p) else none := by
    unfold quoO
    rw [← lf_next, ← hdr, ← lf_next]
  rw [hq]
  have hXs : (⟨((lf s (a + 1)).takeWhile nqB).toArray⟩ : ByteArray).size ≤ 9223372036854775807 := by
    have h1 := (List.takeWhile_prefix (p := nqB) (l := lf s (a + 1))).length_le
    have h2 := lf_len s (a + 1)
    show ((lf s (a + 1)).takeWhile nqB).toArray.size ≤ _
    simp only [List.size_toArray]
    omega
  generalize (⟨((lf s (a + 1)).takeWhile nqB).toArray⟩ : ByteArray) = X at *
  generalize a + 1 + rn nqB s (a + 1) = a2 at *
  generalize hO : (if (lf s a2).head? = some 34 ∧ textOkB X = true then some (Tr.mk 2 0 X [] [], lf s (a2 + 1), p) else none) = O at *
  have HO := hide hO
  clear hO
  have HTK := hide htk; have HRN := hide hrn; have H := hide h
  clear htk hrn h hq hdr
  by_cases h34 : (lf s a2).head? = some 34
  · have hr2 := lf_room h34
    have HT2 := hide (fun W (hW : Tx W R 2 s a2) => xtake_yes W R 2 s (w1 34) a2 hs hW hle (by decide) (by decide) (by rw [pre_one]; exact decide_eq_true h34))
    have H34 := hide h34
    clear h34
    go_enter Tryz.func99, Tryz.ntmps99
    go_wp2_with (first
      | (go_at_call 72; refine (unhide HTK).mono ?_; rintro e w2 ⟨rfl, hr2, hm2⟩; have HR2 := hide hr2; have HM2 := hide hm2; clear hr2 hm2 HTK)
      | (go_at_call 106; refine (unhide HRN _ (unhide HR2)).mono ?_; rintro e w3 ⟨rfl, hr3, hm3⟩; have HR3 := hide hr3; have HM3 := hide ((unhide HM2).trans hm3); clear hr3 hm3)
      | (go_at_call 72; refine (unhide HT2 _ (unhide HR3)).mono ?_; rintro e w4 ⟨rfl, hr4, hm4⟩; have HR4 := hide hr4; have HM4 := hide ((unhide HM3).trans hm4); clear hr4 hm4))
    refine (newText_any X _ hXs).mono ?_
    rintro e w5 ⟨⟨hok, rfl⟩ | ⟨hok, rfl⟩, rfl⟩
    · have HOK := hide hok
      clear hok
      go_wp2_with fail
      go_ret
      refine MEnd.yes (t := .mk 2 0 X [] []) (a2 := a2 + 1) ?_ hr2 (unhide HM4).but (srep2 rfl) ((unhide H).mv (unhide HM4) (unhide HR4)) hp0 hp1
      rw [← unhide HO, if_pos ⟨unhide H34, unhide HOK⟩]
    · have HOK := hide hok
      clear hok
      go_wp2_with fail
      refine ⟨rfl, MEnd.no ?_ (unhide HM4).but⟩
      rw [← unhide HO, if_neg (fun h => by have := h.2; rw [unhide HOK] at this; cases this)]
  · have HT2 := hide (fun W (hW : Tx W R 2 s a2) => xtake_no W R 2 s (w1 34) a2 hW hle (by rw [pre_one]; exact decide_eq_false h34))
    have H34 := hide h34
    clear h34
    go_enter Tryz.func99, Tryz.ntmps99
    go_wp2_with (first
      | (go_at_call 72; refine (unhide HTK).mono ?_; rintro e w2 ⟨rfl, hr2, hm2⟩; have HR2 := hide hr2; have HM2 := hide hm2; clear hr2 hm2 HTK)
      | (go_at_call 106; refine (unhide HRN _ (unhide HR2)).mono ?_; rintro e w3 ⟨rfl, hr3, hm3⟩; have HR3 := hide hr3; have HM3 := hide ((unhide HM2).trans hm3); clear hr3 hm3)
      | (go_at_call 72; refine (unhide HT2 _ (unhide HR3)).mono ?_; rintro e w4 ⟨rfl, m, rfl⟩))
    refine ⟨rfl, MEnd.no ?_ ((unhide HM3).drewN m).but⟩
    rw [← unhide HO, if_neg (fun h => unhide H34 h.1)]

def wYes : ByteArray := ⟨#[121, 101, 115]⟩
def wNo : ByteArray := ⟨#[110, 111]⟩

set_option maxHeartbeats 800000 in
theorem flag_walk (w : World) (R : Nat) (s : ByteArray) (a : Nat) (p l : Int) (hs : s.size ≤ 1048576) (h : TR w R s a p l) (ha : a ≤ s.size) (hp0 : 0 ≤ p) (hp1 : p ≤ 120) :
    Calls Tryz.prog 100 #[.pointer (some ⟨R, 0, none⟩)] w fun e w' => MEnd (flgO (lf s a) p) w R s l e w' := by
  have hf : flgO (lf s a) p = if pre wYes s a = true then some (.mk 3 1 ByteArray.empty [] [], lf s (a + 3), p) else if pre wNo s a = true then some (.mk 3 0 ByteArray.empty [] [], lf s (a + 2), p) else none := by
    have e3 : lf s (a + 3) = (lf s a).drop 3 := lf_after (wd := wYes)
    have e2 : lf s (a + 2) = (lf s a).drop 2 := lf_after (wd := wNo)
    unfold flgO
    rw [e3, e2]
    rfl
  rw [hf]
  have H := hide h
  cases hy : pre wYes s a
  · have HS := hide (xskip_no w R 2 s wYes a h.tx ha hy)
    cases hn : pre wNo s a
    · have HT := hide (fun m => xtake_no (w.drewN m) R 2 s wNo a (h.tx.drewN m) ha hn)
      clear h hy hn hf
      go_enter Tryz.func100, Tryz.ntmps100
      go_wp2_with (first
        | (go_at_call 105; refine (unhide HS).mono ?_; rintro e w2 ⟨rfl, m, rfl⟩)
        | (go_at_call 72; refine (unhide HT _).mono ?_; rintro e w3 ⟨rfl, m2, rfl⟩))
      exact ⟨rfl, MEnd.no (by simp) ((Mv.refl R 3 w).drewN _).but⟩
    · have hroom := pre_room (by decide) hn
      have HT := hide (fun m => xtake_yes (w.drewN m) R 2 s wNo a hs (h.tx.drewN m) ha (by decide) (by decide) hn)
      clear h hy hn hf
      go_enter Tryz.func100, Tryz.ntmps100
      go_wp2_with (first
        | (go_at_call 105; refine (unhide HS).mono ?_; rintro e w2 ⟨rfl, m, rfl⟩)
        | (go_at_call 72; refine (unhide HT _).mono ?_; rintro e w3 ⟨rfl, hr3, hm3⟩; have HR3 := hide hr3; have HM3 := hide (((Mv.refl R 3 w).drewN m).trans hm3); clear hr3 hm3))
      go_ret
      exact MEnd.yes (t := .mk 3 0 ByteArray.empty [] []) (a2 := a + 2) (by simp) hroom (unhide HM3).but (srep3 (t := .mk 3 0 ByteArray.empty [] []) rfl) ((unhide H).mv (unhide HM3) (unhide HR3)) hp0 hp1
  · have hroom := pre_room (by decide) hy
    have HS := hide (xskip_yes w R 2 s wYes a hs h.tx ha (by decide) (by decide) hy)
    clear h hy hf
    go_enter Tryz.func100, Tryz.ntmps100
    go_wp2_with (go_at_call 105; refine (unhide HS).mono ?_; rintro e w3 ⟨rfl, hr3, hm3⟩; have HR3 := hide hr3; have HM3 := hide hm3; clear hr3 hm3)
    go_ret
    exact MEnd.yes (t := .mk 3 1 ByteArray.empty [] []) (a2 := a + 3) (by simp) hroom (unhide HM3).but (srep3 (t := .mk 3 1 ByteArray.empty [] []) rfl) ((unhide H).mv (unhide HM3) (unhide HR3)) hp0 hp1
end Go.Proofs.YtbkagahmiibclaaGreatDoor

/- The walks of the library's strings.Clone and of the program's copyNames: the same bytes; the same names, in a row of the call's own. Of what was there nothing has turned. The strings have at most 2^47 bytes. -/

namespace Go.Proofs.YtbkagahmiibclaaGreatDoor
open Go Go.RowKit

set_option maxHeartbeats 400000 in
theorem clone_any (s : ByteArray) (w : World) (hlim : s.size ≤ 140737488355328) :
    Calls Tryz.prog 104 #[.string s] w fun e w' => e = .returned (.string s) ∧ Below w.heap.size w w' := by
  have hc : ∀ W, Calls Tryz.prog 135 #[.string s] W fun e w' => e = .returned (.string s) ∧ Below W.heap.size W w' := fun W => Tryz.stringslite_Clone s W (by omega)
  have HC := hide hc; clear hc
  go_enter Tryz.func104, Tryz.ntmps104
  go_wp2_with (go_at_call 135; refine (unhide HC _).mono ?_; rintro e w' ⟨rfl, hb⟩)
  go_ret
  exact ⟨rfl, hb⟩

theorem infoStrC : (Tryz.prog.info? 9).map (fun i => (i.zero, i.size, i.bytes)) = some (some (.string ByteArray.empty), 1, 16) := by kernel_rfl

set_option maxRecDepth 100000 in
set_option maxHeartbeats 800000 in
theorem copyNames_any (v : Value) (ss : List ByteArray) (w : World) {P : Nat → Prop} (hP : ∀ b, P b → b < w.heap.size) (hv : StrsAt P w v ss) (hl : ss.length ≤ 1048576) (hsz : ∀ x, x ∈ ss → x.size ≤ 1099511627776) :
    Calls Tryz.prog 109 #[v] w fun e w' => ∃ v' F, e = .returned v' ∧ StrsOwn w' v' ss F ∧ F.Nodup ∧ (∀ b, b ∈ F → w.heap.size ≤ b ∧ b < w'.heap.size) ∧ Below w.heap.size w w' := by
  obtain ⟨a, cap, rfl, hlen, hc⟩ := hv
  obtain ⟨i0, hi, hz0, hz1, hz2⟩ := info_parts infoStrC
  have HC := hide hc; have HP := hide hP; have HSZ := hide hsz
  have HII := hide hi; have HZ0 := hide hz0; have HZ1 := hide hz1; have HZ2 := hide hz2
  clear hc hP hsz hi hz0 hz1 hz2
  go_enter Tryz.func109, Tryz.ntmps109
  go_wp2_with fail
  go_loopw [3, 8] (fun s i wr => ∃ (k : Nat) (a' : Option Addr) (cap' : Nat), k ≤ ss.length ∧ i = .int .i64 k ∧ s = .slice a' k cap' ∧ Hid (wr.ownsRow w.heap.size 9 1 (.slice a' k cap') k ((ss.take k).map Value.string)) ∧ Hid (Below w.heap.size w wr)) (fun _ i _ => ss.length - (intOf i).toNat)
  case atStart => exact ⟨0, none, 0, Nat.zero_le _, rfl, rfl, World.ownsRow_nil _ _ _ _, Below.refl _ _⟩
  case round =>
    obtain ⟨k, a', cap', hk, rfl, rfl, HOWN, HB⟩ := hrel
    by_cases hlt : k < ss.length
    · obtain ⟨b, o, rfl, hpb, hcell, -⟩ := unhide HC k hlt
      have e1 : wr.cell? ⟨b, o + k, none⟩ = some (.string ss[k]) := by rw [HB.out.cell (unhide HP b hpb)]; exact hcell
      have hcl := clone_any ss[k] wr (by have := unhide HSZ _ (List.getElem_mem hlt); omega)
      have htk : (ss.take (k + 1)).map Value.string = (ss.take k).map Value.string ++ [.string ss[k]] := by
        rw [List.take_succ_eq_append_getElem hlt, List.map_append]; rfl
      generalize ss[k] = tk at *
      have HCL := hide hcl; have HTK := hide htk
      clear hcl htk hcell hpb
      go_wp2_with fail
      refine (unhide HCL).mono ?_
      rintro e w2 ⟨rfl, hb2⟩
      have hs2 := hb2.size
      have hsw := HB.out.size
      have hown2 : w2.ownsRow w.heap.size 9 1 (.slice a' k cap') k ((ss.take k).map Value.string) :=
        HOWN.out.kept (row := none) ⟨hb2.os, hb2.tape, hb2.output, hb2.size, fun i hi _ => hb2.block i hi⟩ (by
          rcases h : (Value.slice a' k cap').ownBlock with _ | g
          · exact Or.inl rfl
          · exact Or.inr (by simp))
      have HOWN2 := hide hown2; have HB2 := hide (HB.out.trans (hb2.mono hsw))
      clear hown2 hb2 HCL e1
      go_wp2_with (at_builtin; refine append_row _ rfl _ _ 23 rfl w.heap.size 9 i0 (.string ByteArray.empty) 1 16 Tryz.underlying23 (unhide HII) (unhide HZ0) (unhide HZ1) (unhide HZ2) rfl (by decide) (.slice a' k cap') k ((ss.take k).map Value.string) rfl ((unhide HOWN2).alloc _) ⟨w2.heap.size, 0, none⟩ 1 1 [.string tk] rfl rfl (cell_one _ _ _) (fun u hu => by simp at hu; subst hu; rfl) (by decide) (by unfold maxLen; omega) (by omega) (by simp; omega) ?_; intro v' w4 hown4 hgrow4 hv4)
      have hlt4 := (unhide HOWN2).lt
      obtain ⟨g', cap'', hv''⟩ : ∃ g' cap'', v' = .slice (some ⟨g', 0, none⟩) (k + 1) cap'' := by
        rcases hown4.2 with ⟨_, h⟩ | ⟨g', cap'', _, h, _⟩
        · omega
        · exact ⟨g', cap'', h⟩
      subst hv''
      have hb4 : Below w.heap.size w2 w4 := (((Below.refl _ w2).alloc (by omega) _)).trans ((Below.refl _ _).grown hgrow4 (by simp; omega) (fun k e => (hlt4 k e).1))
      have HOWN4 : Hid (w4.ownsRow w.heap.size 9 1 (.slice (some ⟨g', 0, none⟩) (k + 1) cap'') (k + 1) ((ss.take (k + 1)).map Value.string)) := by
        show World.ownsRow _ _ _ _ _ _ _
        rw [unhide HTK]; exact hown4
      have HB4 := hide ((unhide HB2).trans hb4)
      clear hown4 hgrow4 hv4 hb4 hlt4
      go_wp2_with fail
      go_roundw
      case rel => exact ⟨k + 1, some ⟨g', 0, none⟩, cap'', by omega, by go_num, rfl, HOWN4, unhide HB4⟩
      case measure => simp [intOf]; omega
    · obtain rfl : k = ss.length := by omega
      have h1 := HOWN.out
      rw [List.take_length] at h1
      obtain ⟨F, hF, hnd, hlt', -⟩ := strsOwn_of_row h1 (fun x hx => by have := unhide HSZ x hx; omega)
      have HF := hide hF; have HL := hide hlt'
      clear h1 hF hlt'
      go_wp2_with fail
      go_ret
      exact ⟨_, F, rfl, unhide HF, hnd, unhide HL, HB.out⟩

end Go.Proofs.YtbkagahmiibclaaGreatDoor

/- The walk of the program's reader of events: its type. For texts of at most 2^20 bytes. -/

namespace Go.Proofs.YtbkagahmiibclaaGreatDoor
open Go Go.RowKit

theorem tE_le (s : ByteArray) : tE s ≤ s.size := by
  unfold tE
  have h1 := List.takeWhile_prefix (p := nameByte) (l := s.data.toList.take 8)
  have h2 := h1.length_le
  have h3 : (s.data.toList.take 8).length ≤ s.size := by rw [List.length_take]; exact Nat.le_trans (Nat.min_le_right _ _) (Nat.le_of_eq rfl)
  omega

set_option maxRecDepth 100000 in
set_option maxHeartbeats 25600000 in
theorem typeName_any (w : World) (R : Nat) (s : ByteArray) (a : Nat) (p l : Int) (hs : s.size ≤ 1048576) (h : TR w R s a p l) (ha : a ≤ s.size) :
    Calls Tryz.prog 71 #[.agg #[.pointer (some ⟨R, 0, none⟩)]] w fun e w' => e = .returned (.string (s.extract a (a + tE (s.extract a s.size)))) ∧ TR w' R s (a + tE (s.extract a s.size)) p l ∧ But R w w' := by
  obtain ⟨W1, hW1⟩ : ∃ W1, w.alloc (.cells #[.pointer (some ⟨R, 0, none⟩)] 63) = W1 := ⟨_, rfl⟩
  have hlt := h.lt
  have hb1 : Below w.heap.size w W1 := by rw [← hW1]; exact (Below.refl _ _).alloc (Nat.le_refl _) _
  have hs1 : W1.heap.size = w.heap.size + 1 := by rw [← hW1]; simp
  have h1 : TR W1 R s a p l := h.of_block (hb1.block R hlt)
  have x0 : W1.cell? ⟨w.heap.size, 0, none⟩ = some (.pointer (some ⟨R, 0, none⟩)) := by rw [← hW1]; simp [go_sem]
  obtain ⟨c0, c1, f1⟩ := h1.tx
  have hXs : (s.extract a s.size).size ≤ s.size - a := by rw [ByteArray.size_extract]; omega
  have hte := tE_le (s.extract a s.size)
  have htc : Calls Tryz.prog 95 #[.string (s.extract a s.size)] W1.drew fun e w' => e = .returned (.int .i64 (tE (s.extract a s.size) : Int)) ∧ Hid (Below W1.heap.size W1 w') := (typeEnd_any (s.extract a s.size) W1.drew (by omega)).mono fun e w' ⟨h1, h2⟩ => ⟨h1, hide ⟨h2.os, h2.tape, h2.output, h2.size, h2.block⟩⟩
  generalize hk : tE (s.extract a s.size) = k at *
  have hk1 : a + k ≤ s.size := by omega
  have hcl := fun W => clone_any (s.extract a (a + k)) W (by rw [ByteArray.size_extract]; omega)
  have hi0 : (0 : Int) ≤ (a : Int) := by omega
  have hi1 : (a : Int) ≤ (s.size : Int) := by omega
  have hi2 : (a : Int) ≤ (a : Int) + (k : Int) := by omega
  have hi3 : (a : Int) + (k : Int) ≤ (s.size : Int) := by omega
  have hwr : IntKind.i64.wrap ((a : Int) + (k : Int)) = (a : Int) + (k : Int) := by rw [IntKind.wrap_i64]; omega
  have HWR := hide hwr
  have HTC := hide htc; have HCL := hide hcl; have HB1 := hide hb1; have HT1 := hide h1
  clear htc hcl hb1 h1 h hte hk hXs
  go_enter Tryz.func71, Tryz.ntmps71
  go_upto_region 2 with fail
  go_cut [] from 10 (fun wx => Hid (TR wx R s (a + k) p l) ∧ Hid (But R w wx) ∧ wx.cell? ⟨w.heap.size, 0, none⟩ = some (.pointer (some ⟨R, 0, none⟩)))
  case first =>
    go_region_with (go_at_call 95
                    refine (unhide HTC).mono ?_
                    rintro e w2 ⟨rfl, HB2⟩
                    have y0 : w2.cell? ⟨w.heap.size, 0, none⟩ = some (.pointer (some ⟨R, 0, none⟩)) := by rw [HB2.out.cell (by simp; omega)]; exact x0
                    obtain ⟨d0, d1, g1⟩ := ((unhide HT1).of_block (HB2.out.block R (by omega))).tx)
    all_goals
      try rw [unhide HWR]
      have ht2 : TR w2 R s a p l := (unhide HT1).of_block (HB2.out.block R (by omega))
      have ht3 : TR (w2.setCell ⟨R, 3, none⟩ (.int .i64 ((a : Int) + (k : Int)))) R s (a + k) p l := ht2.mv (Mv.set R 3 w2 _) (ht2.tx.set (a + k))
      have z0 : (w2.setCell ⟨R, 3, none⟩ (.int .i64 ((a : Int) + (k : Int)))).cell? ⟨w.heap.size, 0, none⟩ = some (.pointer (some ⟨R, 0, none⟩)) := by rw [World.cell?_setCell_other _ _ _ _ (fun e => by have := congrArg Addr.block e; simp at this; omega)]; exact y0
      have hbt : But R w (w2.setCell ⟨R, 3, none⟩ (.int .i64 ((a : Int) + (k : Int)))) := (But.of_below ((unhide HB1).trans (HB2.out.mono (by omega)))).trans (But.set _ 3 _)
      generalize w2.setCell ⟨R, 3, none⟩ (.int .i64 ((a : Int) + (k : Int))) = W3 at *
      go_wp2_with fail
      go_meet
      case rel => exact ⟨hide ht3, hide hbt, z0⟩
  case rest =>
    obtain ⟨HT3, HBT, z0⟩ := hcut
    obtain ⟨q0, q1, qf⟩ := (unhide HT3).tx
    clear HTC HB1 HT1 x0 c0 c1 f1
    have hnat : ((a : Int) + (k : Int)).toNat = a + k := by omega
    go_wp2_with fail
    go_region_with (go_at_call 104; first | (rw [hnat]; refine (unhide HCL _).mono ?_) | refine (unhide HCL _).mono ?_; rintro e w4 ⟨rfl, hb4⟩)
    all_goals
      go_wp2_with fail
      go_ret
      have hlt3 := (unhide HT3).lt
      exact ⟨rfl, (unhide HT3).of_block (hb4.block R (by simpa using hlt3)), (unhide HBT).trans (But.of_below ⟨hb4.os, hb4.tape, hb4.output, hb4.size, hb4.block⟩)⟩
end Go.Proofs.YtbkagahmiibclaaGreatDoor
