/- A part. -/
import Derived.Test.YtccnehcpmkgbhaaGreatDoorPart13
namespace Go.Proofs.YtccnehcpmkgbhaaGreatDoor
open Go Go.RowKit
set_option maxRecDepth 100000
set_option maxHeartbeats 3200000
def srt (R i : Nat) : Value :=
 if (48 ≤ i ∧ i ≤ 57) ∨ i = 45 then .func (.func 57) #[.pointer (some ⟨R, 0, none⟩)] #[]
 else if i = 34 then .func (.func 58) #[.pointer (some ⟨R, 0, none⟩)] #[]
 else if i = 121 ∨ i = 110 then .func (.func 59) #[.pointer (some ⟨R, 0, none⟩)] #[]
 else if i = 91 then .func (.func 60) #[.pointer (some ⟨R, 0, none⟩)] #[]
 else if i = 123 then .func (.func 61) #[.pointer (some ⟨R, 0, none⟩)] #[]
 else if i = 126 ∨ i = 63 then .func (.func 62) #[.pointer (some ⟨R, 0, none⟩)] #[]
 else .nilFunc
structure TR (w : World) (R : Nat) (s : ByteArray) (a : Nat) (p l : Int) : Prop where
 bnd : Bnd w R p l
 tx : Tx w R 2 s a
 tab : ∀ i, i < 256 → w.cell? ⟨R, 4 + i, none⟩ = some (srt R i)
section
variable {w w' : World} {R : Nat} {s : ByteArray} {a a' : Nat} {p l : Int}
theorem TR.lt (h : TR w R s a p l) : R < w.heap.size := h.tx.lt
theorem TR.of_block (h : TR w R s a p l) (e : w'.heap[R]? = w.heap[R]?) : TR w' R s a p l :=
 ⟨h.bnd.of_block e, h.tx.of_block e, fun i hi => by rw [World.cell?_of_block (w := w) e]; exact h.tab i hi⟩
theorem TR.drewN (h : TR w R s a p l) (n : Nat) : TR (w.drewN n) R s a p l := h.of_block rfl
theorem TR.alloc (h : TR w R s a p l) (o : Obj) : TR (w.alloc o) R s a p l := h.of_block (Below.heap_alloc _ _ _ h.lt)
theorem TR.mg (h : TR w R s a p l) (hm : Mg R 3 w w') (ht : Tx w' R 2 s a') : TR w' R s a' p l := by
 obtain ⟨c0, c1, f0, f1⟩ := h.bnd
 exact ⟨⟨by rw [hm.cell 0 (by decide)]; exact c0, by rw [hm.cell 1 (by decide)]; exact c1, by rw [hm.frz]; exact f0, by rw [hm.frz]; exact f1⟩, ht, fun i hi => by rw [hm.cell (4 + i) (by omega)]; exact h.tab i hi⟩
theorem TR.mv (h : TR w R s a p l) (hm : Mv R 3 w w') (ht : Tx w' R 2 s a') : TR w' R s a' p l := h.mg hm.mg ht
theorem TR.set1 (h : TR w R s a p l) (l' : Int) : TR (w.setCell ⟨R, 1, none⟩ (.int .i64 l')) R s a p l' := by
 refine ⟨h.bnd.set1 l', ⟨?_, ?_, ?_⟩, fun i hi => ?_⟩
 · rw [World.cell?_setCell_other _ _ _ _ (fun e => by have := congrArg Addr.off e; simp at this)]; exact h.tx.c0
 · rw [World.cell?_setCell_other _ _ _ _ (fun e => by have := congrArg Addr.off e; simp at this)]; exact h.tx.c1
 · rw [World.frozen?_setCell]; exact h.tx.f1
 · rw [World.cell?_setCell_other _ _ _ _ (fun e => by have := congrArg Addr.off e; simp at this; omega)]; exact h.tab i hi
theorem TR.set2 (h : TR w R s a p l) (p' l' : Int) : TR ((w.setCell ⟨R, 0, none⟩ (.int .i64 p')).setCell ⟨R, 1, none⟩ (.int .i64 l')) R s a p' l' := by
 refine ⟨h.bnd.set2 p' l', ⟨?_, ?_, ?_⟩, fun i hi => ?_⟩
 · rw [World.cell?_setCell_other _ _ _ _ (fun e => by have := congrArg Addr.off e; simp at this), World.cell?_setCell_other _ _ _ _ (fun e => by have := congrArg Addr.off e; simp at this)]; exact h.tx.c0
 · rw [World.cell?_setCell_other _ _ _ _ (fun e => by have := congrArg Addr.off e; simp at this), World.cell?_setCell_other _ _ _ _ (fun e => by have := congrArg Addr.off e; simp at this)]; exact h.tx.c1
 · rw [World.frozen?_setCell, World.frozen?_setCell]; exact h.tx.f1
 · rw [World.cell?_setCell_other _ _ _ _ (fun e => by have := congrArg Addr.off e; simp at this; omega), World.cell?_setCell_other _ _ _ _ (fun e => by have := congrArg Addr.off e; simp at this; omega)]; exact h.tab i hi
end
def MEnd (o : Option (Tr × List UInt8 × Int)) (w : World) (R : Nat) (s : ByteArray) (l : Int) (e : Ending) (w' : World) : Prop :=
 But R w w' ∧ ((∃ t a2 q v, o = some (t, lf s a2, q) ∧ a2 ≤ s.size ∧ e = .returned v ∧ SRep (fun b => w.heap.size ≤ b ∧ b < w'.heap.size) w' t v ∧ TR w' R s a2 q l ∧ 0 ≤ q ∧ q ≤ 120) ∨ (o = none ∧ e = fltE))
theorem MEnd.no {o : Option (Tr × List UInt8 × Int)} {w w' : World} {R : Nat} {s : ByteArray} {l : Int} (h : o = none) (hb : But R w w') : MEnd o w R s l fltE w' := ⟨hb, Or.inr ⟨h, rfl⟩⟩
theorem MEnd.yes {o : Option (Tr × List UInt8 × Int)} {w w' : World} {R : Nat} {s : ByteArray} {l : Int} {t : Tr} {a2 : Nat} {q : Int} {v : Value} (h : o = some (t, lf s a2, q)) (ha : a2 ≤ s.size) (hb : But R w w') (hr : SRep (fun b => w.heap.size ≤ b ∧ b < w'.heap.size) w' t v) (ht : TR w' R s a2 q l) (hq0 : 0 ≤ q) (hq1 : q ≤ 120) : MEnd o w R s l (.returned v) w' :=
 ⟨hb, Or.inl ⟨t, a2, q, v, h, ha, rfl, hr, ht, hq0, hq1⟩⟩
noncomputable def numO (inp : List UInt8) (p : Int) : Option (Tr × List UInt8 × Int) := match numOf (numRun inp).1 with
 | none => none
 | some n => some (.mk 1 n ByteArray.empty [] [], (numRun inp).2, p)
def quoO (inp : List UInt8) (p : Int) : Option (Tr × List UInt8 × Int) :=
 if (inp.tail.dropWhile nqB).head? = some 34 ∧ textOkB ⟨(inp.tail.takeWhile nqB).toArray⟩ = true then
  some (.mk 2 0 ⟨(inp.tail.takeWhile nqB).toArray⟩ [] [], (inp.tail.dropWhile nqB).tail, p) else none
def flgO (inp : List UInt8) (p : Int) : Option (Tr × List UInt8 × Int) :=
 if [121, 101, 115].isPrefixOf inp = true then some (.mk 3 1 ByteArray.empty [] [], inp.drop 3, p)
 else if [110, 111].isPrefixOf inp = true then some (.mk 3 0 ByteArray.empty [] [], inp.drop 2, p) else none
theorem num_walk (w : World) (R : Nat) (s : ByteArray) (a : Nat) (p l : Int) (hs : s.size ≤ 1048576) (h : TR w R s a p l) (ha : a ≤ s.size) (hE : Env w) (hR : gTop ≤ R) (hp0 : 0 ≤ p) (hp1 : p ≤ 120) :
 Calls Tryz.prog 57 #[.pointer (some ⟨R, 0, none⟩)] w fun e w' => MEnd (numO (lf s a) p) w R s l e w' := by
 have hn := number_any w R 2 s a hs h.tx ha hE hR
 obtain ⟨h1, h2, -, h4⟩ := num_at (s := s) (a := a) ha
 have hle := rn_le isDg s (nAt s a) h2
 have HN := hH hn; have H := hH h; have H4 := hH h4; have HLE := hH hle
 clear hn h hE h4 hle h1 h2
 go_enter Tryz.func57, Tryz.ntmps57
 go_wp2_with fail
 refine (uh HN).mono ?_
 rintro e w2 ⟨hm, ht, ⟨n, hat, hit, rfl⟩ | ⟨hno, rfl⟩⟩
 · have htr := (uh H).mg hm ht
   have HTR := hH htr; have HM := hH hm; have HAT := hH hat; have HIT := hH hit
   clear htr hm ht hat hit HN
   by_cases hb : -999999999 ≤ n ∧ n ≤ 999999999
   · have HB := hH hb
     clear hb
     go_wp2_with (go_at_call 77; refine (newNum_yes _ _ (uh HB)).mono ?_; rintro e w3 ⟨rfl, rfl⟩)
     go_ret
     refine MEnd.yes (t := .mk 1 n ByteArray.empty [] []) ?_ (uh HLE) (uh HM).but (srep1 rfl) (uh HTR) hp0 hp1
     unfold numO
     rw [numOf_yes (uh HB).1 (uh HB).2 (uh HIT), uh H4]
   · have HB := hH hb
     clear hb
     go_wp2_with (go_at_call 77; refine (newNum_no _ _ (uh HB)).mono ?_; rintro e w3 ⟨rfl, rfl⟩)
     refine ⟨rfl, MEnd.no ?_ (uh HM).but⟩
     unfold numO
     rw [numOf_no]
     intro m h0 h1 hm
     have := atoi_itoa m h0 h1
     rw [hm, uh HAT] at this
     cases this
     exact uh HB ⟨h0, h1⟩
 · have HM := hH hm; have HNO := hH hno
   clear hm ht hno HN
   go_wp2_with fail
   refine ⟨rfl, MEnd.no ?_ (uh HM).but⟩
   unfold numO
   rw [numOf_no]
   intro m h0 h1 hm
   refine uh HNO m ?_ hm
   rw [← hm]
   exact atoi_itoa m h0 h1
theorem lf_room {s : ByteArray} {a : Nat} {c : UInt8} (h : (lf s a).head? = some c) : a + 1 ≤ s.size := by
 have := lf_len s a
 cases hl : lf s a with
 | nil => rw [hl] at h; simp at h
 | cons c r => rw [hl] at this; simp at this; omega
theorem quoted_walk (w : World) (R : Nat) (s : ByteArray) (a : Nat) (p l : Int) (hs : s.size ≤ 1048576) (h : TR w R s a p l) (hh : (lf s a).head? = some 34) (hp0 : 0 ≤ p) (hp1 : p ≤ 120) :
 Calls Tryz.prog 58 #[.pointer (some ⟨R, 0, none⟩)] w fun e w' => MEnd (quoO (lf s a) p) w R s l e w' := by
 have hroom := lf_room hh
 have htk := xtake_yes w R 2 s (w1 34) a hs h.tx (by omega) (by decide) (by decide) (by rw [pre_one]; exact decide_eq_true hh)
 have hrn := fun W (hW : Tx W R 2 s (a + 1)) => xrun_quote W R 2 s (a + 1) hs hW hroom
 have hle := rn_le nqB s (a + 1) hroom
 have hdr := rn_drop nqB s (a + 1)
 have hq : quoO (lf s a) p = if (lf s (a + 1 + rn nqB s (a + 1))).head? = some 34 ∧ textOkB ⟨((lf s (a + 1)).takeWhile nqB).toArray⟩ = true then some (.mk 2 0 ⟨((lf s (a + 1)).takeWhile nqB).toArray⟩ [] [], lf s (a + 1 + rn nqB s (a + 1) + 1), p) else none := by
  unfold quoO
  rw [← lf_next, ← hdr, ← lf_next]
 rw [hq]
 have hXs : (⟨((lf s (a + 1)).takeWhile nqB).toArray⟩ : ByteArray).size ≤ 9223372036854775807 := by
  have h1 := (List.takeWhile_prefix (p := nqB) (l := lf s (a + 1))).length_le
  have h2 := lf_len s (a + 1)
  show ((lf s (a + 1)).takeWhile nqB).toArray.size ≤ _
  simp only [List.size_toArray]
  omega
 generalize (⟨((lf s (a + 1)).takeWhile nqB).toArray⟩ : ByteArray) = X at *
 generalize a + 1 + rn nqB s (a + 1) = a2 at *
 generalize hO : (if (lf s a2).head? = some 34 ∧ textOkB X = true then some (Tr.mk 2 0 X [] [], lf s (a2 + 1), p) else none) = O at *
 have HO := hH hO
 clear hO
 have HTK := hH htk; have HRN := hH hrn; have H := hH h
 clear htk hrn h hq hdr
 by_cases h34 : (lf s a2).head? = some 34
 · have hr2 := lf_room h34
   have HT2 := hH (fun W (hW : Tx W R 2 s a2) => xtake_yes W R 2 s (w1 34) a2 hs hW hle (by decide) (by decide) (by rw [pre_one]; exact decide_eq_true h34))
   have H34 := hH h34
   clear h34
   go_enter Tryz.func58, Tryz.ntmps58
   go_wp2_with (first
    | (go_at_call 79; refine (uh HTK).mono ?_; rintro e w2 ⟨rfl, hr2, hm2⟩; have HR2 := hH hr2; have HM2 := hH hm2; clear hr2 hm2 HTK)
    | (go_at_call 80; refine (uh HRN _ (uh HR2)).mono ?_; rintro e w3 ⟨rfl, hr3, hm3⟩; have HR3 := hH hr3; have HM3 := hH ((uh HM2).trans hm3); clear hr3 hm3)
    | (go_at_call 79; refine (uh HT2 _ (uh HR3)).mono ?_; rintro e w4 ⟨rfl, hr4, hm4⟩; have HR4 := hH hr4; have HM4 := hH ((uh HM3).trans hm4); clear hr4 hm4))
   refine (newText_any X _ hXs).mono ?_
   rintro e w5 ⟨⟨hok, rfl⟩ | ⟨hok, rfl⟩, rfl⟩
   · have HOK := hH hok
     clear hok
     go_wp2_with fail
     go_ret
     refine MEnd.yes (t := .mk 2 0 X [] []) (a2 := a2 + 1) ?_ hr2 (uh HM4).but (srep2 rfl) ((uh H).mv (uh HM4) (uh HR4)) hp0 hp1
     rw [← uh HO, if_pos ⟨uh H34, uh HOK⟩]
   · have HOK := hH hok
     clear hok
     go_wp2_with fail
     refine ⟨rfl, MEnd.no ?_ (uh HM4).but⟩
     rw [← uh HO, if_neg (fun h => by have := h.2; rw [uh HOK] at this; cases this)]
 · have HT2 := hH (fun W (hW : Tx W R 2 s a2) => xtake_no W R 2 s (w1 34) a2 hW hle (by rw [pre_one]; exact decide_eq_false h34))
   have H34 := hH h34
   clear h34
   go_enter Tryz.func58, Tryz.ntmps58
   go_wp2_with (first
    | (go_at_call 79; refine (uh HTK).mono ?_; rintro e w2 ⟨rfl, hr2, hm2⟩; have HR2 := hH hr2; have HM2 := hH hm2; clear hr2 hm2 HTK)
    | (go_at_call 80; refine (uh HRN _ (uh HR2)).mono ?_; rintro e w3 ⟨rfl, hr3, hm3⟩; have HR3 := hH hr3; have HM3 := hH ((uh HM2).trans hm3); clear hr3 hm3)
    | (go_at_call 79; refine (uh HT2 _ (uh HR3)).mono ?_; rintro e w4 ⟨rfl, m, rfl⟩))
   refine ⟨rfl, MEnd.no ?_ ((uh HM3).drewN m).but⟩
   rw [← uh HO, if_neg (fun h => uh H34 h.1)]
def wYes : ByteArray := ⟨#[121, 101, 115]⟩
def wNo : ByteArray := ⟨#[110, 111]⟩
theorem flag_walk (w : World) (R : Nat) (s : ByteArray) (a : Nat) (p l : Int) (hs : s.size ≤ 1048576) (h : TR w R s a p l) (ha : a ≤ s.size) (hp0 : 0 ≤ p) (hp1 : p ≤ 120) :
 Calls Tryz.prog 59 #[.pointer (some ⟨R, 0, none⟩)] w fun e w' => MEnd (flgO (lf s a) p) w R s l e w' := by
 have hf : flgO (lf s a) p = if pre wYes s a = true then some (.mk 3 1 ByteArray.empty [] [], lf s (a + 3), p) else if pre wNo s a = true then some (.mk 3 0 ByteArray.empty [] [], lf s (a + 2), p) else none := by
  have e3 : lf s (a + 3) = (lf s a).drop 3 := lf_after (wd := wYes)
  have e2 : lf s (a + 2) = (lf s a).drop 2 := lf_after (wd := wNo)
  unfold flgO
  rw [e3, e2]
  rfl
 rw [hf]
 have H := hH h
 cases hy : pre wYes s a
 · have HS := hH (xskip_no w R 2 s wYes a h.tx ha hy)
   cases hn : pre wNo s a
   · have HT := hH (fun m => xtake_no (w.drewN m) R 2 s wNo a (h.tx.drewN m) ha hn)
     clear h hy hn hf
     go_enter Tryz.func59, Tryz.ntmps59
     go_wp2_with (first
      | (go_at_call 83; refine (uh HS).mono ?_; rintro e w2 ⟨rfl, m, rfl⟩)
      | (go_at_call 79; refine (uh HT _).mono ?_; rintro e w3 ⟨rfl, m2, rfl⟩))
     exact ⟨rfl, MEnd.no (by simp) ((Mv.refl R 3 w).drewN _).but⟩
   · have hroom := pre_room (by decide) hn
     have HT := hH (fun m => xtake_yes (w.drewN m) R 2 s wNo a hs (h.tx.drewN m) ha (by decide) (by decide) hn)
     clear h hy hn hf
     go_enter Tryz.func59, Tryz.ntmps59
     go_wp2_with (first
      | (go_at_call 83; refine (uh HS).mono ?_; rintro e w2 ⟨rfl, m, rfl⟩)
      | (go_at_call 79; refine (uh HT _).mono ?_; rintro e w3 ⟨rfl, hr3, hm3⟩; have HR3 := hH hr3; have HM3 := hH (((Mv.refl R 3 w).drewN m).trans hm3); clear hr3 hm3))
     go_ret
     exact MEnd.yes (t := .mk 3 0 ByteArray.empty [] []) (a2 := a + 2) (by simp) hroom (uh HM3).but (srep3 (t := .mk 3 0 ByteArray.empty [] []) rfl) ((uh H).mv (uh HM3) (uh HR3)) hp0 hp1
 · have hroom := pre_room (by decide) hy
   have HS := hH (xskip_yes w R 2 s wYes a hs h.tx ha (by decide) (by decide) hy)
   clear h hy hf
   go_enter Tryz.func59, Tryz.ntmps59
   go_wp2_with (go_at_call 83; refine (uh HS).mono ?_; rintro e w3 ⟨rfl, hr3, hm3⟩; have HR3 := hH hr3; have HM3 := hH hm3; clear hr3 hm3)
   go_ret
   exact MEnd.yes (t := .mk 3 1 ByteArray.empty [] []) (a2 := a + 3) (by simp) hroom (uh HM3).but (srep3 (t := .mk 3 1 ByteArray.empty [] []) rfl) ((uh H).mv (uh HM3) (uh HR3)) hp0 hp1

theorem infoSortedR : (Tryz.prog.info? 66).map (fun i => (i.zero, i.size, i.bytes)) = some (some .nilIface, 1, 16) := by kernel_rfl
theorem infoStrT : (Tryz.prog.info? 9).map (fun i => (i.zero, i.size, i.bytes)) = some (some (.string ByteArray.empty), 1, 16) := by kernel_rfl
structure GotS (base : Nat) (wr : World) (vN vK : Value) (ns : List ByteArray) (ks : List Tr) (xs : List Value) : Prop where
 names : wr.ownsRow base 9 1 vN ns.length (ns.map Value.string)
 small : ∀ x, x ∈ ns → x.size ≤ 9223372036854775807
 apart : ∀ b, vN.ownBlock = some b → vK.ownBlock ≠ some b
 kids : wr.ownsRow base 66 1 vK ks.length xs
 reps : ∀ i, (hi : i < ks.length) → ∃ x, xs[i]? = some x ∧ SRep (fun b => base ≤ b ∧ b < wr.heap.size ∧ some b ≠ vN.ownBlock ∧ some b ≠ vK.ownBlock) wr ks[i] x
theorem GotS.start (base : Nat) (w : World) : GotS base w (.slice none 0 0) (.slice none 0 0) [] [] [] :=
 ⟨World.ownsRow_nil _ _ _ _, fun _ h => by simp at h, fun _ h => by simp [Value.ownBlock] at h, World.ownsRow_nil _ _ _ _, fun i hi => by simp at hi⟩
theorem GotS.kept {base : Nat} {wr w' : World} {vN vK : Value} {ns : List ByteArray} {ks : List Tr} {xs : List Value} (h : GotS base wr vN vK ns ks xs) {R : Nat} (hR : R < base) (hb : But R wr w') : GotS base w' vN vK ns ks xs := by
 have hn : vN.ownBlock ≠ some R := fun e => by have := (h.names.lt R e).1; omega
 have hk : vK.ownBlock ≠ some R := fun e => by have := (h.kids.lt R e).1; omega
 refine ⟨h.names.kept hb (Or.inr hn), h.small, h.apart, h.kids.kept hb (Or.inr hk), fun i hi => ?_⟩
 obtain ⟨c, h1, h2⟩ := h.reps i hi
 exact ⟨c, h1, SRep.carry (fun b hb' => hb.at hb'.2.1 (by omega)) (fun b hb' => ⟨hb'.1, Nat.lt_of_lt_of_le hb'.2.1 hb.size, hb'.2.2⟩) _ _ h2⟩
theorem GotS.alloc {base : Nat} {wr : World} {vN vK : Value} {ns : List ByteArray} {ks : List Tr} {xs : List Value} (h : GotS base wr vN vK ns ks xs) (o : Obj) : GotS base (wr.alloc o) vN vK ns ks xs := by
 refine ⟨h.names.alloc o, h.small, h.apart, h.kids.alloc o, fun i hi => ?_⟩
 obtain ⟨c, h1, h2⟩ := h.reps i hi
 exact ⟨c, h1, SRep.carry (fun b hb' => Below.heap_alloc _ _ _ hb'.2.1) (fun b hb' => ⟨hb'.1, by simp; omega, hb'.2.2⟩) _ _ h2⟩
theorem sepK' {vN vK : Value} (h : ∀ b, vN.ownBlock = some b → vK.ownBlock ≠ some b) : vK.ownBlock = none ∨ vK.ownBlock ≠ vN.ownBlock := by
 cases hK : vK.ownBlock with
 | none => exact Or.inl rfl
 | some b => exact Or.inr fun e => h b e.symm hK
theorem sepN' {vN vK : Value} (h : ∀ b, vN.ownBlock = some b → vK.ownBlock ≠ some b) : vN.ownBlock = none ∨ vN.ownBlock ≠ vK.ownBlock := by
 cases hN : vN.ownBlock with
 | none => exact Or.inl rfl
 | some b => exact Or.inr fun e => h b hN e.symm
theorem GotS.name {base : Nat} {wr w' : World} {vN vN' vK : Value} {ns : List ByteArray} {ks : List Tr} {xs : List Value} {nm : ByteArray} (h : GotS base wr vN vK ns ks xs) (hnm : nm.size ≤ 9223372036854775807)
 (hown : w'.ownsRow base 9 1 vN' (ns.length + 1) (ns.map Value.string ++ [.string nm])) (hg : wr.grownBy w' vN.ownBlock) (hv : vN'.ownBlock = vN.ownBlock ∨ ∃ g, vN'.ownBlock = some g ∧ wr.heap.size ≤ g) :
 GotS base w' vN' vK (ns ++ [nm]) ks xs := by
 have hkl := h.kids.lt
 refine ⟨by simpa using hown, fun x hx => ?_, fun b hb e => ?_, h.kids.kept hg (sepK' h.apart), fun i hi => ?_⟩
 · rcases List.mem_append.1 hx with hx | hx
   · exact h.small x hx
   · simp at hx; subst hx; exact hnm
 · rcases hv with e2 | ⟨g, e2, hgg⟩
   · exact h.apart b (by rw [← e2]; exact hb) e
   · rw [e2] at hb
     simp only [Option.some.injEq] at hb
     have := (hkl b e).2
     omega
 · obtain ⟨c, h1, h2⟩ := h.reps i hi
   refine ⟨c, h1, SRep.carry (fun b hb' => hg.block b hb'.2.1 hb'.2.2.1) (fun b hb' => ⟨hb'.1, Nat.lt_of_lt_of_le hb'.2.1 hg.size, ?_, hb'.2.2.2⟩) _ _ h2⟩
   rcases hv with e2 | ⟨g, e2, hgg⟩
   · rw [e2]; exact hb'.2.2.1
   · rw [e2]; intro e; simp only [Option.some.injEq] at e; have := hb'.2.1; omega
theorem GotS.kid {base : Nat} {wr w' : World} {vN vK vK' x : Value} {ns : List ByteArray} {ks : List Tr} {xs : List Value} {t : Tr} (h : GotS base wr vN vK ns ks xs)
 (hc : SRep (fun b => base ≤ b ∧ b < wr.heap.size ∧ some b ≠ vN.ownBlock ∧ some b ≠ vK.ownBlock) wr t x)
 (hown : w'.ownsRow base 66 1 vK' (ks.length + 1) (xs ++ [x])) (hg : wr.grownBy w' vK.ownBlock) (hv : vK'.ownBlock = vK.ownBlock ∨ ∃ g, vK'.ownBlock = some g ∧ wr.heap.size ≤ g) :
 GotS base w' vN vK' ns (ks ++ [t]) (xs ++ [x]) := by
 have hnl := h.names.lt
 have hcar : ∀ (t : Tr) (c : Value), SRep (fun b => base ≤ b ∧ b < wr.heap.size ∧ some b ≠ vN.ownBlock ∧ some b ≠ vK.ownBlock) wr t c → SRep (fun b => base ≤ b ∧ b < w'.heap.size ∧ some b ≠ vN.ownBlock ∧ some b ≠ vK'.ownBlock) w' t c := fun t c h2 => by
  refine SRep.carry (fun b hb' => hg.block b hb'.2.1 hb'.2.2.2) (fun b hb' => ⟨hb'.1, Nat.lt_of_lt_of_le hb'.2.1 hg.size, hb'.2.2.1, ?_⟩) _ _ h2
  rcases hv with e2 | ⟨g, e2, hgg⟩
  · rw [e2]; exact hb'.2.2.2
  · rw [e2]; intro e; simp only [Option.some.injEq] at e; have := hb'.2.1; omega
 have hxl : xs.length = ks.length := by have := h.kids.1; omega
 refine ⟨h.names.kept hg (sepN' h.apart), h.small, fun b hb e => ?_, by simpa using hown, fun i hi => ?_⟩
 · rcases hv with e2 | ⟨g, e2, hgg⟩
   · exact h.apart b hb (by rw [← e2]; exact e)
   · rw [e2] at e
     simp only [Option.some.injEq] at e
     have := (hnl b hb).2
     omega
 · by_cases e : i = ks.length
   · subst e
     exact ⟨x, by rw [← hxl]; simp, by simpa using hcar t x hc⟩
   · have hi' : i < ks.length := by simp at hi; omega
     obtain ⟨d, h1, h2⟩ := h.reps i hi'
     exact ⟨d, by rw [List.getElem?_append_left (by omega)]; exact h1, by rw [List.getElem_append_left hi']; exact hcar _ _ h2⟩
theorem GotS.done {base : Nat} {wr : World} {vN vK : Value} {ns : List ByteArray} {ks : List Tr} {xs : List Value} (h : GotS base wr vN vK ns ks xs) :
 StrsAt (fun b => base ≤ b ∧ b < wr.heap.size) wr vN ns ∧ SKids (fun b => base ≤ b ∧ b < wr.heap.size) wr vK ks := by
 constructor
 · rcases h.names.2 with ⟨hv, hn0⟩ | ⟨g, cap, cur, hv, hgb, hh, hle, hm2, hsz, htk⟩
   · exact ⟨none, 0, by rw [hv, hn0], by omega, fun i hi => by omega⟩
   · refine ⟨some ⟨g, 0, none⟩, cap, hv, by unfold maxLen at hm2; omega, fun i hi => ⟨g, 0, rfl, ⟨hgb, (Array.getElem?_eq_some_iff.1 hh).1⟩, ?_, h.small _ (List.getElem_mem hi)⟩⟩
     have h1 : (ns.map Value.string)[i]? = some (.string ns[i]) := by simp [hi]
     rw [← htk, List.getElem?_take_of_lt (by omega)] at h1
     simp only [Nat.zero_add, World.cell?, hh]
     simpa using h1
 · rcases h.kids.2 with ⟨hv, hn0⟩ | ⟨g, cap, cur, hv, hgb, hh, hle, hm2, hsz, htk⟩
   · exact ⟨none, 0, by rw [hv, hn0], fun hk => absurd (List.eq_nil_of_length_eq_zero hn0) hk⟩
   · refine ⟨some ⟨g, 0, none⟩, cap, hv, fun _ => ⟨g, rfl, ⟨hgb, (Array.getElem?_eq_some_iff.1 hh).1⟩, SRepK.mk fun i hi => ?_⟩⟩
     obtain ⟨x, h1, h2⟩ := h.reps i hi
     refine ⟨x, ?_, SRep.carry (fun _ _ => rfl) (fun b hb => ⟨hb.1, hb.2.1⟩) _ _ h2⟩
     rw [← htk, List.getElem?_take] at h1
     split at h1
     · simp only [Nat.zero_add, World.cell?, hh]
       simpa using h1
     · cases h1
theorem more_any (w : World) (R o : Nat) (s : ByteArray) (a n : Nat) (c : UInt8) (hs : s.size ≤ 1048576) (h : Tx w R o s a) (ha : a ≤ s.size) :
 Calls Tryz.prog 84 #[.pointer (some ⟨R, o, none⟩), .string (w1 c), .int .i64 n] w fun e w' => Mv R (o + 1) w w' ∧
  (((lf s a).head? = some c ∧ e = .returned (.bool false) ∧ Tx w' R o s (a + 1)) ∨ ((lf s a).head? ≠ some c ∧ ∃ a1, cma n (lf s a) = some (lf s a1) ∧ a ≤ a1 ∧ a1 ≤ s.size ∧ e = .returned (.bool true) ∧ Tx w' R o s a1) ∨ ((lf s a).head? ≠ some c ∧ cma n (lf s a) = none ∧ e = fltE)) := by
 by_cases hh : (lf s a).head? = some c
 · refine (xmore_end w R o s a n c hs h ha (by rw [pre_one]; exact decide_eq_true hh)).mono ?_
   rintro e w' ⟨rfl, h1, h2⟩
   exact ⟨h2, Or.inl ⟨hh, rfl, h1⟩⟩
 · have hp : pre (w1 c) s a = false := by rw [pre_one]; exact decide_eq_false hh
   rcases Nat.eq_zero_or_pos n with rfl | hn
   · refine (xmore_first w R o s a c h ha hp).mono ?_
     rintro e w' ⟨rfl, h1, h2⟩
     exact ⟨h2, Or.inr (Or.inl ⟨hh, a, by unfold cma; rw [if_pos rfl], Nat.le_refl _, ha, rfl, h1⟩)⟩
   · by_cases h44 : (lf s a).head? = some 44
     · refine (xmore_comma w R o s a n c hn hs h ha hp (by rw [pre_one]; exact decide_eq_true h44)).mono ?_
       rintro e w' ⟨rfl, h1, h2⟩
       exact ⟨h2, Or.inr (Or.inl ⟨hh, a + 1, by unfold cma; rw [if_neg (by omega), if_pos h44, lf_next], by omega, lf_room h44, rfl, h1⟩)⟩
     · refine (xmore_none w R o s a n c hn h ha hp (by rw [pre_one]; exact decide_eq_false h44)).mono ?_
       rintro e w' ⟨rfl, m, rfl⟩
       exact ⟨(Mv.refl _ _ _).drewN m, Or.inr (Or.inr ⟨hh, by unfold cma; rw [if_neg (by omega), if_neg h44], rfl⟩)⟩
def TSaid (d : Nat) : Prop := ∀ (w : World) (R : Nat) (s : ByteArray) (a : Nat) (p : Int), s.size ≤ 1048576 → TR w R s a p (6 - d) → a ≤ s.size → Env w → gTop ≤ R → 0 ≤ p → p ≤ 120 →
 Calls Tryz.prog 64 #[.pointer (some ⟨R, 0, none⟩)] w fun e w' => MEnd (rdT d (lf s a) p) w R s (6 - d) e w'
def lstF : Option (List ByteArray × List Tr × List UInt8 × Int) → Option (Tr × List UInt8 × Int)
 | none => none
 | some (_, ks, rest, q) => if ks.length ≤ 20 then some (.mk 4 0 ByteArray.empty [] ks, rest, q) else none
noncomputable def lstO (d : Nat) (inp : List UInt8) (p : Int) : Option (Tr × List UInt8 × Int) := lstF (lp (rdT d) false 93 (inp.length + 1) [] [] inp.tail p)
def frmF : Option (List ByteArray × List Tr × List UInt8 × Int) → Option (Tr × List UInt8 × Int)
 | none => none
 | some (ns, ks, rest, q) => if riseB ns = true then some (.mk 5 0 ByteArray.empty ns ks, rest, q) else none
noncomputable def frmO (d : Nat) (inp : List UInt8) (p : Int) : Option (Tr × List UInt8 × Int) := frmF (lp (rdT d) true 125 (inp.length + 1) [] [] inp.tail p)
theorem list_walk (d : Nat) (hd : d ≤ 6) (IH : TSaid d) (w : World) (R : Nat) (s : ByteArray) (a : Nat) (p : Int) (hs : s.size ≤ 1048576) (h : TR w R s a p (6 - d)) (hh : (lf s a).head? = some 91) (hE : Env w) (hR : gTop ≤ R) (hp0 : 0 ≤ p) (hp1 : p ≤ 120) :
 Calls Tryz.prog 60 #[.pointer (some ⟨R, 0, none⟩)] w fun e w' => MEnd (lstO d (lf s a) p) w R s (6 - d) e w' := by
 have hroom := lf_room hh
 have hlt := h.lt
 have htk := xtake_yes w R 2 s (w1 91) a hs h.tx (by omega) (by decide) (by decide) (by rw [pre_one]; exact decide_eq_true hh)
 obtain ⟨X, hX⟩ : ∃ X, X = lp (rdT d) false 93 ((lf s a).length + 1) [] [] (lf s (a + 1)) p := ⟨_, rfl⟩
 have hO : lstO d (lf s a) p = lstF X := by rw [hX, lf_next]; rfl
 have hl1 : (lf s (a + 1)).length < (lf s a).length + 1 := by rw [lf_len, lf_len]; omega
 generalize lstO d (lf s a) p = O at *
 obtain ⟨i0, hi, hz0, hz1, hz2⟩ := info_parts infoSortedR
 have HII := hH hi; have HZ0 := hH hz0; have HZ1 := hH hz1; have HZ2 := hH hz2
 have HTK := hH htk; have H := hH h; have HE := hH hE; have HI := hH IH; have HO := hH hO; have HX := hH hX
 clear htk h hE IH hO hX hi hz0 hz1 hz2 hh
 generalize hL : (6 : Int) - (d : Int) = L at *
 have HL := hH hL; clear hL
 go_enter Tryz.func60, Tryz.ntmps60
 go_wp2_with (go_at_call 79; refine (uh HTK).mono ?_; rintro e w2 ⟨rfl, hr2, hm2⟩; have HR2 := hH ((uh H).mv hm2 hr2); have HM2 := hH hm2.but; have HS2 := hH hm2.size; clear hr2 hm2 HTK)
 go_loopw [3] (fun v wr => ∃ (ks : List Tr) (k : Nat) (a' : Option Addr) (cap' : Nat) (xs : List Value) (aa : Nat) (q : Int), v = .slice a' k cap' ∧ Hid (ks.length = k ∧ k ≤ aa ∧ aa ≤ s.size ∧ 0 ≤ q ∧ q ≤ 120 ∧ ∃ f, (lf s aa).length < f ∧ lp (rdT d) false 93 f [] ks (lf s aa) q = X) ∧ Hid (GotS w.heap.size wr (.slice none 0 0) (.slice a' k cap') [] ks xs) ∧ Hid (TR wr R s aa q L) ∧ Hid (But R w wr)) (fun _ wr => s.size - txAt wr R 2)
 case atStart => exact ⟨[], 0, none, 0, [], a + 1, p, rfl, hH ⟨rfl, by omega, hroom, hp0, hp1, _, hl1, (uh HX).symm⟩, hH ((GotS.start w.heap.size w).kept (R := R) (by omega) (uh HM2)), HR2, HM2⟩
 case round =>
  obtain ⟨ks, k, a', cap', xs, aa, q, rfl, HA, HG, HT, HB⟩ := hrel
  obtain ⟨hkl, hka, haa, hq0, hq1, f, hf, hfX⟩ := HA.out
  obtain ⟨f, rfl⟩ : ∃ g, f = g + 1 := ⟨f - 1, by omega⟩
  have hat := HT.out.tx.atOf
  have HAT := hH hat
  have HMO := hH (more_any wr R 2 s aa k 93 hs HT.out.tx haa)
  have HFX := hH hfX
  have hkb : k ≤ 1048576 := by omega
  clear hfX hat
  go_wp2_with fail
  refine (uh HMO).mono ?_
  rintro e w3 ⟨hm3, ⟨h93, rfl, ht3⟩ | ⟨hne, a1, hc1, ha1, ha1s, rfl, ht3⟩ | ⟨hne, hc1, rfl⟩⟩
  · have hfx := uh HFX
    rw [lp, if_pos h93] at hfx
    have hr3 := lf_room h93
    have HG3 := hH (HG.out.kept (R := R) (by omega) hm3.but)
    have HT3 := hH (HT.out.mv hm3 ht3); have HB3 := hH (HB.out.trans hm3.but)
    have hOO := uh HO
    rw [← hfx] at hOO
    simp only [lstF] at hOO
    have HOO := hH hOO
    clear hfx hm3 ht3 HMO hOO h93
    by_cases h20 : k ≤ 20
    · have HH := hH h20
      clear h20
      go_wp2_with (go_at_call 85; refine (newList_yes _ _ _ _ (uh HH)).mono ?_; rintro e w4 ⟨rfl, rfl⟩)
      go_ret
      refine MEnd.yes (t := .mk 4 0 ByteArray.empty [] ks) (a2 := aa + 1) (q := q) ?_ hr3 (uh HB3) (srep4 rfl (uh HG3).done.2) (uh HT3) hq0 hq1
      rw [uh HOO, if_pos (by have := uh HH; omega), lf_next]
    · have HH := hH h20
      clear h20
      go_wp2_with (go_at_call 85; refine (newList_no _ _ _ _ (uh HH)).mono ?_; rintro e w4 ⟨rfl, rfl⟩)
      refine ⟨rfl, MEnd.no ?_ (uh HB3)⟩
      rw [uh HOO, if_neg (by have := uh HH; omega)]
  · have hfx := uh HFX
    rw [lp, if_neg hne, hkl, hc1] at hfx
    simp only [nmr, Bool.false_eq_true, if_false] at hfx
    have hg3 := HG.out.kept (R := R) (by omega) hm3.but
    have ht3' := HT.out.mv hm3 ht3
    have hb3 := HB.out.trans hm3.but
    have hcall : Calls Tryz.prog 64 #[.pointer (some ⟨R, 0, none⟩)] w3 fun e w' => MEnd (rdT d (lf s a1) q) w3 R s L e w' := by
     have := uh HI w3 R s a1 q hs (by rw [uh HL]; exact ht3') ha1s ((uh HE).but hb3 hR) hR hq0 hq1
     rw [uh HL] at this
     exact this
    have HCALL := hH hcall; have HG3 := hH hg3; have HB3 := hH hb3; have HFX2 := hH hfx
    clear hcall hg3 ht3' hb3 hfx hm3 ht3 HMO hne hc1
    go_wp2_with fail
    refine (uh HCALL).mono ?_
    rintro e w4 ⟨hb4, ⟨t, a4, q4, v4, hrd, ha4, rfl, hsr4, htr4, hq40, hq41⟩ | ⟨hrd, rfl⟩⟩
    · have hfx := uh HFX2
      rw [hrd] at hfx
      simp only at hfx
      have hlen := rdT_len d hd _ _ _ _ _ hrd
      rw [lf_len, lf_len] at hlen
      have hl4 : (lf s a4).length < f := by rw [lf_len]; rw [lf_len] at hf; omega
      have hg4 := (uh HG3).kept (R := R) (by omega) hb4
      have hs3 := (uh HB3).size
      have hs4 := hb4.size
      have hnew : SRep (fun b => w.heap.size ≤ b ∧ b < w4.heap.size ∧ some b ≠ (Value.slice none 0 0).ownBlock ∧ some b ≠ (Value.slice a' k cap').ownBlock) w4 t v4 :=
       SRep.carry (fun _ _ => rfl) (fun b hb => ⟨by omega, hb.2, by simp [Value.ownBlock], fun e => by have := ((uh HG3).kids.lt b e.symm).2; omega⟩) _ _ hsr4
      obtain ⟨T, x, rfl⟩ := hsr4.iface
      have HNEW := hH hnew; have HG4 := hH hg4; have HT4 := hH htr4; have HB4 := hH ((uh HB3).trans hb4); have HFX4 := hH hfx
      clear hfx hrd hnew hg4 htr4 hb4 hsr4 HG3 HB3 HCALL HFX2 HFX
      go_wp2_with (at_builtin; refine append_row _ rfl _ _ 102 rfl w.heap.size 66 i0 .nilIface 1 16 Tryz.underlying102 (uh HII) (uh HZ0) (uh HZ1) (uh HZ2) rfl (by decide) (.slice a' k cap') k xs rfl (by have := (uh HG4).kids; rw [hkl] at this; exact this.alloc _) ⟨w4.heap.size, 0, none⟩ 1 1 [.iface T x] rfl rfl (cell_one _ _ _) (fun u hu => by simp at hu; subst hu; rfl) (by decide) (by unfold maxLen; omega) (by omega) (by simp; omega) ?_; intro v' w5 hown5 hgrow5 hv5)
      obtain ⟨g', cap'', hv''⟩ : ∃ g' cap'', v' = .slice (some ⟨g', 0, none⟩) (k + 1) cap'' := by
       rcases hown5.2 with ⟨_, h⟩ | ⟨g', cap'', _, h, _⟩
       · omega
       · exact ⟨g', cap'', h⟩
      have hlo : ∀ b, (Value.slice a' k cap').ownBlock = some b → w.heap.size ≤ b := fun b hb => ((uh HG4).kids.lt b hb).1
      have hga : GotS w.heap.size w5 (.slice none 0 0) v' [] (ks ++ [t]) (xs ++ [.iface T x]) :=
       ((uh HG4).alloc (.cells #[.iface T x] 66)).kid (SRep.carry (fun b hb => Below.heap_alloc _ _ _ hb.2.1) (fun b hb => ⟨hb.1, by simp; omega, hb.2.2⟩) _ _ (uh HNEW)) (by rw [hkl]; exact hown5) hgrow5 hv5
      have hR5 : w5.heap[R]? = w4.heap[R]? := by
       rw [hgrow5.block R (by simp; omega) (fun e => by have := hlo R e.symm; omega)]
       exact Below.heap_alloc _ _ _ (by omega)
      have hbut5 : But R w w5 := by
       have h2 := uh HB4
       have hs5 := hgrow5.size
       rw [World.size_alloc] at hs5
       refine ⟨hgrow5.os.trans h2.os, hgrow5.tape.trans h2.tape, hgrow5.output.trans h2.output, by omega, fun i hi hne => ?_⟩
       rw [hgrow5.block i (by simp; omega) (fun e => by have := hlo i e.symm; omega), Below.heap_alloc _ _ _ (by omega), h2.block i hi hne]
      have htr5 := (uh HT4).of_block hR5
      subst hv''
      have HGA := hH hga; have HT5 := hH htr5; have HB5 := hH hbut5
      clear hga htr5 hbut5 hown5 hgrow5 hv5 hR5 hlo
      go_roundw
      case rel => exact ⟨ks ++ [t], k + 1, some ⟨g', 0, none⟩, cap'', _, a4, q4, rfl, hH ⟨by simp [hkl], by omega, ha4, hq40, hq41, f, hl4, uh HFX4⟩, HGA, HT5, HB5⟩
      case measure => rw [(uh HT5).tx.atOf, uh HAT]; omega
    · have hfx := uh HFX2
      rw [hrd] at hfx
      simp only at hfx
      have hOO := uh HO
      rw [← hfx] at hOO
      simp only [lstF] at hOO
      have HOO := hH hOO; have HB4 := hH ((uh HB3).trans hb4)
      clear hfx hrd hb4 hOO HCALL
      go_wp2_with fail
      exact ⟨rfl, MEnd.no (uh HOO) (uh HB4)⟩
  · have hfx := uh HFX
    rw [lp, if_neg hne, hkl, hc1] at hfx
    simp only at hfx
    have hOO := uh HO
    rw [← hfx] at hOO
    simp only [lstF] at hOO
    have HOO := hH hOO; have HB3 := hH (HB.out.trans hm3.but)
    clear hfx hm3 HMO hOO
    go_wp2_with fail
    exact ⟨rfl, MEnd.no (uh HOO) (uh HB3)⟩

theorem nm_size (s : ByteArray) (a : Nat) : (⟨((lf s a).takeWhile nameByte).toArray⟩ : ByteArray).size ≤ s.size := by
 have h1 := (List.takeWhile_prefix (p := nameByte) (l := lf s a)).length_le
 have h2 := lf_len s a
 show ((lf s a).takeWhile nameByte).toArray.size ≤ _
 simp only [List.size_toArray]
 omega
theorem form_walk (d : Nat) (hd : d ≤ 6) (IH : TSaid d) (w : World) (R : Nat) (s : ByteArray) (a : Nat) (p : Int) (hs : s.size ≤ 1048576) (h : TR w R s a p (6 - d)) (hh : (lf s a).head? = some 123) (hE : Env w) (hR : gTop ≤ R) (hp0 : 0 ≤ p) (hp1 : p ≤ 120) :
 Calls Tryz.prog 61 #[.pointer (some ⟨R, 0, none⟩)] w fun e w' => MEnd (frmO d (lf s a) p) w R s (6 - d) e w' := by
 have hroom := lf_room hh
 have hlt := h.lt
 have htk := xtake_yes w R 2 s (w1 123) a hs h.tx (by omega) (by decide) (by decide) (by rw [pre_one]; exact decide_eq_true hh)
 obtain ⟨X, hX⟩ : ∃ X, X = lp (rdT d) true 125 ((lf s a).length + 1) [] [] (lf s (a + 1)) p := ⟨_, rfl⟩
 have hO : frmO d (lf s a) p = frmF X := by rw [hX, lf_next]; rfl
 have hl1 : (lf s (a + 1)).length < (lf s a).length + 1 := by rw [lf_len, lf_len]; omega
 generalize frmO d (lf s a) p = O at *
 obtain ⟨i0, hi, hz0, hz1, hz2⟩ := info_parts infoSortedR
 obtain ⟨j0, hj, hy0, hy1, hy2⟩ := info_parts infoStrT
 have HII := hH hi; have HZ0 := hH hz0; have HZ1 := hH hz1; have HZ2 := hH hz2
 have HJJ := hH hj; have HY0 := hH hy0; have HY1 := hH hy1; have HY2 := hH hy2
 have HTK := hH htk; have H := hH h; have HE := hH hE; have HI := hH IH; have HO := hH hO; have HX := hH hX
 clear htk h hE IH hO hX hi hz0 hz1 hz2 hh hj hy0 hy1 hy2
 generalize hL : (6 : Int) - (d : Int) = L at *
 have HL := hH hL; clear hL
 go_enter Tryz.func61, Tryz.ntmps61
 go_wp2_with (go_at_call 79; refine (uh HTK).mono ?_; rintro e w2 ⟨rfl, hr2, hm2⟩; have HR2 := hH ((uh H).mv hm2 hr2); have HM2 := hH hm2.but; have HS2 := hH hm2.size; clear hr2 hm2 HTK)
 go_loopw [3, 4] (fun vN v wr => ∃ (ns : List ByteArray) (ks : List Tr) (k : Nat) (aN : Option Addr) (capN : Nat) (a' : Option Addr) (cap' : Nat) (xs : List Value) (aa : Nat) (q : Int), vN = .slice aN k capN ∧ v = .slice a' k cap' ∧ Hid (ns.length = k ∧ ks.length = k ∧ k ≤ aa ∧ aa ≤ s.size ∧ 0 ≤ q ∧ q ≤ 120 ∧ ∃ f, (lf s aa).length < f ∧ lp (rdT d) true 125 f ns ks (lf s aa) q = X) ∧ Hid (GotS w.heap.size wr (.slice aN k capN) (.slice a' k cap') ns ks xs) ∧ Hid (TR wr R s aa q L) ∧ Hid (But R w wr)) (fun _ _ wr => s.size - txAt wr R 2)
 case atStart => exact ⟨[], [], 0, none, 0, none, 0, [], a + 1, p, rfl, rfl, hH ⟨rfl, rfl, by omega, hroom, hp0, hp1, _, hl1, (uh HX).symm⟩, hH ((GotS.start w.heap.size w).kept (R := R) (by omega) (uh HM2)), HR2, HM2⟩
 case round =>
  obtain ⟨ns, ks, k, aN, capN, a', cap', xs, aa, q, rfl, rfl, HA, HG, HT, HB⟩ := hrel
  obtain ⟨hnl, hkl, hka, haa, hq0, hq1, f, hf, hfX⟩ := HA.out
  obtain ⟨f, rfl⟩ : ∃ g, f = g + 1 := ⟨f - 1, by omega⟩
  have hat := HT.out.tx.atOf
  have HAT := hH hat
  have HMO := hH (more_any wr R 2 s aa k 125 hs HT.out.tx haa)
  have HFX := hH hfX
  have hkb : k ≤ 1048576 := by omega
  clear hfX hat
  go_wp2_with fail
  refine (uh HMO).mono ?_
  rintro e w3 ⟨hm3, ⟨h125, rfl, ht3⟩ | ⟨hne, a1, hc1, ha1, ha1s, rfl, ht3⟩ | ⟨hne, hc1, rfl⟩⟩
  · have hfx := uh HFX
    rw [lp, if_pos h125] at hfx
    have hr3 := lf_room h125
    have hg3 := HG.out.kept (R := R) (by omega) hm3.but
    have hOO := uh HO
    rw [← hfx] at hOO
    simp only [frmF] at hOO
    obtain ⟨hst, hsk⟩ := hg3.done
    have HNF := hH (newForm_any (.slice aN k capN) ns a' k cap' w3 (P := fun b => w.heap.size ≤ b ∧ b < w3.heap.size) (fun b hb => hb.2) hst)
    have HST := hH hst; have HSK := hH hsk
    have HT3 := hH (HT.out.mv hm3 ht3); have HB3 := hH (HB.out.trans hm3.but)
    have HOO := hH hOO
    clear hfx hm3 ht3 HMO hOO h125 hst hsk hg3
    go_wp2_with fail
    refine (uh HNF).mono ?_
    rintro e w4 ⟨⟨⟨-, hri⟩, rfl⟩ | ⟨hno, rfl⟩, hb4⟩
    · have hlt3 := (uh HT3).lt
      have hsr : SRep (fun b => w.heap.size ≤ b ∧ b < w4.heap.size) w4 (.mk 5 0 ByteArray.empty ns ks) (.iface 106 (.agg #[.slice aN k capN, .slice a' k cap'])) :=
       SRep.carry (w := w3) (P := fun b => w.heap.size ≤ b ∧ b < w3.heap.size) (fun b hb => hb4.block b hb.2) (fun b hb => ⟨hb.1, Nat.lt_of_lt_of_le hb.2 hb4.size⟩) _ _ (srep5 (t := .mk 5 0 ByteArray.empty ns ks) rfl (uh HST) (uh HSK))
      have HSR := hH hsr; have HRI := hH hri
      have HT4 := hH ((uh HT3).of_block (hb4.block R hlt3))
      have HB4 := hH ((uh HB3).trans (Mg.below (R := R) (o := 0) hb4 hlt3).but)
      clear hsr hri hb4 HNF
      go_wp2_with fail
      go_ret
      refine MEnd.yes (t := .mk 5 0 ByteArray.empty ns ks) (a2 := aa + 1) (q := q) ?_ hr3 (uh HB4) (uh HSR) (uh HT4) hq0 hq1
      rw [uh HOO, if_pos (uh HRI), lf_next]
    · have hlt3 := (uh HT3).lt
      have HNO := hH hno
      have HB4 := hH ((uh HB3).trans (Mg.below (R := R) (o := 0) hb4 hlt3).but)
      clear hno hb4 HNF
      go_wp2_with fail
      refine ⟨rfl, MEnd.no ?_ (uh HB4)⟩
      rw [uh HOO, if_neg (fun h => uh HNO ⟨hnl, h⟩)]
  · have hfx := uh HFX
    rw [lp, if_neg hne, hkl, hc1] at hfx
    simp only at hfx
    have hg3 := HG.out.kept (R := R) (by omega) hm3.but
    have ht3' := HT.out.mv hm3 ht3
    have hb3 := HB.out.trans hm3.but
    have hnm := nm_size s a1
    have hrl := rn_le nameByte s a1 ha1s
    have hdr := rn_drop nameByte s a1
    have HRN := hH (xrun_name w3 R 2 s a1 hs ht3'.tx ha1s)
    have hnmr : nmr true ns (lf s a1) = if (lf s (a1 + rn nameByte s a1)).head? = some 58 then some (ns ++ [⟨((lf s a1).takeWhile nameByte).toArray⟩], lf s (a1 + rn nameByte s a1 + 1)) else none := by
     unfold nmr
     rw [if_pos rfl, hdr, lf_next, hdr]
    rw [hnmr] at hfx
    have ha12 : a1 ≤ a1 + rn nameByte s a1 := Nat.le_add_right _ _
    generalize (⟨((lf s a1).takeWhile nameByte).toArray⟩ : ByteArray) = nm at *
    generalize a1 + rn nameByte s a1 = a2 at *
    have HG3 := hH hg3; have HT3 := hH ht3'; have HB3 := hH hb3; have HFX2 := hH hfx
    clear hg3 ht3' hb3 hfx hm3 ht3 HMO hne hc1 hnmr hdr
    have hs3 := (uh HB3).size
    go_wp2_with (first
     | (go_at_call 80; refine (uh HRN).mono ?_; rintro e w4 ⟨rfl, ht4, hm4⟩; have HT4 := hH ((uh HT3).mv hm4 ht4); have HG4 := hH ((uh HG3).kept (R := R) (by omega) hm4.but); have HB4 := hH ((uh HB3).trans hm4.but); have hs4 := hm4.but.size; clear ht4 hm4 HRN)
     | (at_builtin; refine append_row _ rfl _ _ 23 rfl w.heap.size 9 j0 (.string ByteArray.empty) 1 16 Tryz.underlying23 (uh HJJ) (uh HY0) (uh HY1) (uh HY2) rfl (by decide) (.slice aN k capN) k (ns.map Value.string) rfl (by have := (uh HG4).names; rw [hnl] at this; exact this.alloc _) ⟨w4.heap.size, 0, none⟩ 1 1 [.string nm] rfl rfl (cell_one _ _ _) (fun u hu => by simp at hu; subst hu; rfl) (by decide) (by unfold maxLen; omega) (by omega) (by simp; omega) ?_; intro vN' w5 hown5 hgrow5 hv5))
    obtain ⟨gN, capN', hvN⟩ : ∃ g' cap'', vN' = .slice (some ⟨g', 0, none⟩) (k + 1) cap'' := by
     rcases hown5.2 with ⟨_, h⟩ | ⟨g', cap'', _, h, _⟩
     · omega
     · exact ⟨g', cap'', h⟩
    have hlo : ∀ b, (Value.slice aN k capN).ownBlock = some b → w.heap.size ≤ b := fun b hb => ((uh HG4).names.lt b hb).1
    have hga : GotS w.heap.size w5 vN' (.slice a' k cap') (ns ++ [nm]) ks xs :=
     ((uh HG4).alloc (.cells #[.string nm] 9)).name (by omega) (by rw [hnl]; exact hown5) hgrow5 hv5
    have hR5 : w5.heap[R]? = w4.heap[R]? := by
     rw [hgrow5.block R (by simp; omega) (fun e => by have := hlo R e.symm; omega)]
     exact Below.heap_alloc _ _ _ (by omega)
    have hs5 := hgrow5.size
    rw [World.size_alloc] at hs5
    have hbut5 : But R w w5 := by
     have h2 := uh HB4
     refine ⟨hgrow5.os.trans h2.os, hgrow5.tape.trans h2.tape, hgrow5.output.trans h2.output, by omega, fun i hi hne => ?_⟩
     rw [hgrow5.block i (by simp; omega) (fun e => by have := hlo i e.symm; omega), Below.heap_alloc _ _ _ (by omega), h2.block i hi hne]
    have htr5 := (uh HT4).of_block hR5
    subst hvN
    have HGA := hH hga; have HT5 := hH htr5; have HB5 := hH hbut5
    clear hga htr5 hbut5 hown5 hgrow5 hv5 hR5 hlo HG4 HT4 HB4 HG3 HT3 HB3
    by_cases h58 : (lf s a2).head? = some 58
    · have hr58 := lf_room h58
      have hfx := uh HFX2
      rw [if_pos h58] at hfx
      simp only at hfx
      have HTK2 := hH (xtake_yes w5 R 2 s (w1 58) a2 hs (uh HT5).tx hrl (by decide) (by decide) (by rw [pre_one]; exact decide_eq_true h58))
      have HFX3 := hH hfx
      clear hfx h58 HFX2
      go_wp2_with (go_at_call 79; refine (uh HTK2).mono ?_; rintro e w6 ⟨rfl, ht6, hm6⟩; have HT6 := hH ((uh HT5).mv hm6 ht6); have HG6 := hH ((uh HGA).kept (R := R) (by omega) hm6.but); have HB6 := hH ((uh HB5).trans hm6.but); have hs6 := hm6.but.size; clear ht6 hm6 HTK2)
      have hcall : Calls Tryz.prog 64 #[.pointer (some ⟨R, 0, none⟩)] w6 fun e w' => MEnd (rdT d (lf s (a2 + 1)) q) w6 R s L e w' := by
       have := uh HI w6 R s (a2 + 1) q hs (by rw [uh HL]; exact uh HT6) hr58 ((uh HE).but (uh HB6) hR) hR hq0 hq1
       rw [uh HL] at this
       exact this
      have HCALL := hH hcall
      clear hcall HT6 HGA HT5 HB5
      go_wp2_with fail
      refine (uh HCALL).mono ?_
      rintro e w7 ⟨hb7, ⟨t, a4, q4, v4, hrd, ha4, rfl, hsr7, htr7, hq40, hq41⟩ | ⟨hrd, rfl⟩⟩
      · have hfx := uh HFX3
        rw [hrd] at hfx
        simp only at hfx
        have hlen := rdT_len d hd _ _ _ _ _ hrd
        rw [lf_len, lf_len] at hlen
        have hg7 := (uh HG6).kept (R := R) (by omega) hb7
        have hs7 := hb7.size
        have hnew : SRep (fun b => w.heap.size ≤ b ∧ b < w7.heap.size ∧ some b ≠ (Value.slice (some ⟨gN, 0, none⟩) (k + 1) capN').ownBlock ∧ some b ≠ (Value.slice a' k cap').ownBlock) w7 t v4 :=
         SRep.carry (fun _ _ => rfl) (fun b hb => ⟨by omega, hb.2, fun e => by have := ((uh HG6).names.lt b e.symm).2; omega, fun e => by have := ((uh HG6).kids.lt b e.symm).2; omega⟩) _ _ hsr7
        obtain ⟨T, x, rfl⟩ := hsr7.iface
        have HNEW := hH hnew; have HG7 := hH hg7; have HT7 := hH htr7; have HB7 := hH ((uh HB6).trans hb7); have HFX4 := hH hfx
        clear hfx hrd hnew hg7 htr7 hb7 hsr7 HG6 HB6 HCALL HFX3 HFX
        go_wp2_with (at_builtin; refine append_row _ rfl _ _ 102 rfl w.heap.size 66 i0 .nilIface 1 16 Tryz.underlying102 (uh HII) (uh HZ0) (uh HZ1) (uh HZ2) rfl (by decide) (.slice a' k cap') k xs rfl (by have := (uh HG7).kids; rw [hkl] at this; exact this.alloc _) ⟨w7.heap.size, 0, none⟩ 1 1 [.iface T x] rfl rfl (cell_one _ _ _) (fun u hu => by simp at hu; subst hu; rfl) (by decide) (by unfold maxLen; omega) (by omega) (by simp; omega) ?_; intro v' w8 hown8 hgrow8 hv8)
        obtain ⟨g', cap'', hv''⟩ : ∃ g' cap'', v' = .slice (some ⟨g', 0, none⟩) (k + 1) cap'' := by
         rcases hown8.2 with ⟨_, h⟩ | ⟨g', cap'', _, h, _⟩
         · omega
         · exact ⟨g', cap'', h⟩
        have hlo : ∀ b, (Value.slice a' k cap').ownBlock = some b → w.heap.size ≤ b := fun b hb => ((uh HG7).kids.lt b hb).1
        have hga : GotS w.heap.size w8 (.slice (some ⟨gN, 0, none⟩) (k + 1) capN') v' (ns ++ [nm]) (ks ++ [t]) (xs ++ [.iface T x]) :=
         ((uh HG7).alloc (.cells #[.iface T x] 66)).kid (SRep.carry (fun b hb => Below.heap_alloc _ _ _ hb.2.1) (fun b hb => ⟨hb.1, by simp; omega, hb.2.2⟩) _ _ (uh HNEW)) (by rw [hkl]; exact hown8) hgrow8 hv8
        have hR8 : w8.heap[R]? = w7.heap[R]? := by
         rw [hgrow8.block R (by simp; omega) (fun e => by have := hlo R e.symm; omega)]
         exact Below.heap_alloc _ _ _ (by omega)
        have hbut8 : But R w w8 := by
         have h2 := uh HB7
         have hs8 := hgrow8.size
         rw [World.size_alloc] at hs8
         refine ⟨hgrow8.os.trans h2.os, hgrow8.tape.trans h2.tape, hgrow8.output.trans h2.output, by omega, fun i hi hne => ?_⟩
         rw [hgrow8.block i (by simp; omega) (fun e => by have := hlo i e.symm; omega), Below.heap_alloc _ _ _ (by omega), h2.block i hi hne]
        have htr8 := (uh HT7).of_block hR8
        subst hv''
        have HGA := hH hga; have HT8 := hH htr8; have HB8 := hH hbut8
        clear hga htr8 hbut8 hown8 hgrow8 hv8 hR8 hlo
        go_roundw
        case rel => exact ⟨ns ++ [nm], ks ++ [t], k + 1, some ⟨gN, 0, none⟩, capN', some ⟨g', 0, none⟩, cap'', _, a4, q4, rfl, rfl, hH ⟨by simp [hnl], by simp [hkl], by omega, ha4, hq40, hq41, f, by rw [lf_len]; rw [lf_len] at hf; omega, uh HFX4⟩, HGA, HT8, HB8⟩
        case measure => rw [(uh HT8).tx.atOf, uh HAT]; omega
      · have hfx := uh HFX3
        rw [hrd] at hfx
        simp only at hfx
        have hOO := uh HO
        rw [← hfx] at hOO
        simp only [frmF] at hOO
        have HOO := hH hOO; have HB7 := hH ((uh HB6).trans hb7)
        clear hfx hrd hb7 hOO HCALL
        go_wp2_with fail
        exact ⟨rfl, MEnd.no (uh HOO) (uh HB7)⟩
    · have hfx := uh HFX2
      rw [if_neg h58] at hfx
      simp only at hfx
      have hOO := uh HO
      rw [← hfx] at hOO
      simp only [frmF] at hOO
      have HTK2 := hH (xtake_no w5 R 2 s (w1 58) a2 (uh HT5).tx hrl (by rw [pre_one]; exact decide_eq_false h58))
      have HOO := hH hOO
      clear hfx hOO h58 HFX2
      go_wp2_with (go_at_call 79; refine (uh HTK2).mono ?_; rintro e w6 ⟨rfl, m, rfl⟩)
      exact ⟨rfl, MEnd.no (uh HOO) (but_drewN (uh HB5) m)⟩
  · have hfx := uh HFX
    rw [lp, if_neg hne, hkl, hc1] at hfx
    simp only at hfx
    have hOO := uh HO
    rw [← hfx] at hOO
    simp only [frmF] at hOO
    have HOO := hH hOO; have HB3 := hH (HB.out.trans hm3.but)
    clear hfx hm3 HMO hOO
    go_wp2_with fail
    exact ⟨rfl, MEnd.no (uh HOO) (uh HB3)⟩
noncomputable def mybO (d : Nat) (inp : List UInt8) (p : Int) : Option (Tr × List UInt8 × Int) :=
 if inp.head? = some 126 then some (.mk 6 0 ByteArray.empty [] [], inp.tail, p)
 else match rdT d inp.tail p with
  | none => none
  | some (t, rest, q) => some (.mk 6 0 ByteArray.empty [] [t], rest, q)
theorem maybe_walk (d : Nat) (IH : TSaid d) (w : World) (R : Nat) (s : ByteArray) (a : Nat) (p : Int) (hs : s.size ≤ 1048576) (h : TR w R s a p (6 - d)) (hh : (lf s a).head? = some 126 ∨ (lf s a).head? = some 63) (hE : Env w) (hR : gTop ≤ R) (hp0 : 0 ≤ p) (hp1 : p ≤ 120) :
 Calls Tryz.prog 62 #[.pointer (some ⟨R, 0, none⟩)] w fun e w' => MEnd (mybO d (lf s a) p) w R s (6 - d) e w' := by
 have hlt := h.lt
 by_cases h126 : (lf s a).head? = some 126
 · have hroom := lf_room h126
   have HS := hH (xskip_yes w R 2 s (w1 126) a hs h.tx (by omega) (by decide) (by decide) (by rw [pre_one]; exact decide_eq_true h126))
   have hO : mybO d (lf s a) p = some (.mk 6 0 ByteArray.empty [] [], lf s (a + 1), p) := by unfold mybO; rw [if_pos h126, lf_next]
   generalize mybO d (lf s a) p = O at *
   have HO := hH hO; have H := hH h
   clear hO h hE IH hh h126
   go_enter Tryz.func62, Tryz.ntmps62
   go_wp2_with (first
    | (go_at_call 83; refine (uh HS).mono ?_; rintro e w2 ⟨rfl, hr2, hm2⟩; have HR2 := hH ((uh H).mv hm2 hr2); have HM2 := hH hm2.but; clear hr2 hm2 HS)
    | (go_at_call 88; refine (newMaybe_yes _ _ _ _ (by omega)).mono ?_; rintro e w3 ⟨rfl, rfl⟩))
   go_ret
   exact MEnd.yes (t := .mk 6 0 ByteArray.empty [] []) (a2 := a + 1) (uh HO) hroom (uh HM2) (srep6 rfl ⟨none, 0, rfl, fun hk => absurd rfl hk⟩) (uh HR2) hp0 hp1
 · have h63 : (lf s a).head? = some 63 := hh.resolve_left h126
   have hroom := lf_room h63
   have HS := hH (xskip_no w R 2 s (w1 126) a h.tx (by omega) (by rw [pre_one]; exact decide_eq_false h126))
   have HT := hH (fun m => xtake_yes (w.drewN m) R 2 s (w1 63) a hs (h.tx.drewN m) (by omega) (by decide) (by decide) (by rw [pre_one]; exact decide_eq_true h63))
   have hO : mybO d (lf s a) p = match rdT d (lf s (a + 1)) p with
    | none => none
    | some (t, rest, q) => some (.mk 6 0 ByteArray.empty [] [t], rest, q) := by unfold mybO; rw [if_neg h126, lf_next]
   generalize mybO d (lf s a) p = O at *
   have HO := hH hO; have H := hH h; have HE := hH hE; have HI := hH IH
   clear hO h hE IH hh h126 h63
   generalize hL : (6 : Int) - (d : Int) = L at *
   have HL := hH hL; clear hL
   go_enter Tryz.func62, Tryz.ntmps62
   go_wp2_with (first
    | (go_at_call 83; refine (uh HS).mono ?_; rintro e w2 ⟨rfl, m, rfl⟩)
    | (go_at_call 79; refine (uh HT _).mono ?_; rintro e w3 ⟨rfl, hr3, hm3⟩; have HR3 := hH (((uh H).drewN m).mv hm3 hr3); have HM3 := hH (((Mv.refl R 3 w).drewN m).trans hm3).but; clear hr3 hm3 HS))
   have hcall : Calls Tryz.prog 64 #[.pointer (some ⟨R, 0, none⟩)] w3 fun e w' => MEnd (rdT d (lf s (a + 1)) p) w3 R s L e w' := by
    have := uh HI w3 R s (a + 1) p hs (by rw [uh HL]; exact uh HR3) hroom ((uh HE).but (uh HM3) hR) hR hp0 hp1
    rw [uh HL] at this
    exact this
   have HCALL := hH hcall
   have hs3 := (uh HM3).size
   clear hcall
   refine (uh HCALL).mono ?_
   rintro e w4 ⟨hb4, ⟨t, a4, q4, v4, hrd, ha4, rfl, hsr4, htr4, hq40, hq41⟩ | ⟨hrd, rfl⟩⟩
   · have hOO := uh HO
     rw [hrd] at hOO
     simp only at hOO
     have hs4 := hb4.size
     obtain ⟨T, x, rfl⟩ := hsr4.iface
     have hfin : ∀ W, W = w4.alloc (.cells #[.iface T x] 66) → SKids (fun b => w.heap.size ≤ b ∧ b < W.heap.size) W (.slice (some ⟨w4.heap.size, 0, none⟩) 1 1) [t] := by
      rintro W rfl
      refine ⟨some ⟨w4.heap.size, 0, none⟩, 1, rfl, fun _ => ⟨w4.heap.size, rfl, ⟨by omega, by simp⟩, ?_⟩⟩
      rw [SRepK]
      refine ⟨⟨.iface T x, by simp [go_sem], SRep.carry (fun b hb => Below.heap_alloc _ _ _ hb.2) (fun b hb => ⟨by omega, by simp; omega⟩) _ _ hsr4⟩, ?_⟩
      rw [SRepK]
      trivial
     have HFIN := hH hfin; have HOO := hH hOO; have HT4 := hH (htr4.alloc (.cells #[.iface T x] 66)); have HB4 := hH (((uh HM3).trans hb4).trans (But.alloc R w4 (.cells #[.iface T x] 66)))
     clear hfin hOO hrd hsr4 htr4 hb4 HCALL
     go_wp2_with (go_at_call 88; refine (newMaybe_yes _ _ _ _ (by omega)).mono ?_; rintro e w5 ⟨rfl, rfl⟩)
     go_ret
     exact MEnd.yes (t := .mk 6 0 ByteArray.empty [] [t]) (a2 := a4) (uh HOO) ha4 (uh HB4) (srep6 rfl (uh HFIN _ rfl)) (uh HT4) hq40 hq41
   · have hOO := uh HO
     rw [hrd] at hOO
     simp only at hOO
     have HOO := hH hOO; have HB4 := hH ((uh HM3).trans hb4)
     clear hOO hrd hb4 HCALL
     go_wp2_with fail
     exact ⟨rfl, MEnd.no (uh HOO) (uh HB4)⟩
end Go.Proofs.YtccnehcpmkgbhaaGreatDoor
