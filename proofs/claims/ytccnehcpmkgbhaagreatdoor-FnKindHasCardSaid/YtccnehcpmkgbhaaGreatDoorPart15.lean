/- A part. -/
import Derived.Test.YtccnehcpmkgbhaaGreatDoorPart14
import Derived.Laws.EntriesVeiled
namespace Go.Proofs.YtccnehcpmkgbhaaGreatDoor
open Go Go.RowKit
set_option maxRecDepth 100000
set_option maxHeartbeats 1600000
theorem func_ne (F : FuncId) (R : Nat) (w : World) : Sem.run Tryz.prog (binOp BinOp.neq 69 (.func (.func F) #[.pointer (some ⟨R, 0, none⟩)] #[]) .nilFunc) w = .ok (.bool true) w := by kernel_rfl
theorem func_nil (w : World) : Sem.run Tryz.prog (binOp BinOp.neq 69 .nilFunc .nilFunc) w = .ok (.bool false) w := by kernel_rfl
theorem bv_lt (s : ByteArray) (a : Nat) : bv s a < 256 := by
 unfold bv
 split
 · exact UInt8.toNat_lt _
 · omega
theorem tree_go (F : FuncId) (O : Option (Tr × List UInt8 × Int)) (L : Int) (w : World) (R : Nat) (s : ByteArray) (a : Nat) (p : Int) (h : TR w R s a p L) (ha : a ≤ s.size) (hp0 : 0 ≤ p) (hp1 : p + 1 ≤ 120) (hL0 : 0 ≤ L) (hL1 : L + 1 ≤ 6)
 (hsrt : srt R (bv s a) = .func (.func F) #[.pointer (some ⟨R, 0, none⟩)] #[]) (hent : ∀ W, Sem.run Tryz.prog (callFunc F #[.pointer (some ⟨R, 0, none⟩)]) W = .ok (.enter F #[.pointer (some ⟨R, 0, none⟩)]) W)
 (hcall : ∀ W, TR W R s a (p + 1) (L + 1) → But R w W → Calls Tryz.prog F #[.pointer (some ⟨R, 0, none⟩)] W fun e w' => MEnd O W R s (L + 1) e w') :
 Calls Tryz.prog 64 #[.pointer (some ⟨R, 0, none⟩)] w fun e w' => MEnd O w R s L e w' := by
 have htr1 := h.set2 (p + 1) (L + 1)
 have hbut1 : But R w ((w.setCell ⟨R, 0, none⟩ (.int .i64 (p + 1))).setCell ⟨R, 1, none⟩ (.int .i64 (L + 1))) := (But.set w 0 _).trans (But.set _ 1 _)
 have hen := enter_yes R p L w h.bnd hp0 hL0 hp1 hL1
 have hlt := h.lt
 have hne := func_ne F R
 generalize ((w.setCell ⟨R, 0, none⟩ (.int .i64 (p + 1))).setCell ⟨R, 1, none⟩ (.int .i64 (L + 1))) = W1 at *
 have hcell := htr1.tab (bv s a) (bv_lt s a)
 rw [hsrt] at hcell
 have HNX := hH (fun n => xnext_any (W1.drewN n) R 2 s a (htr1.tx.drewN n) ha)
 have hbv := bv_lt s a
 have HEN := hH hen; have HTR1 := hH htr1; have HB1 := hH hbut1
 have hcall2 := fun n => hcall (W1.drewN n) (htr1.drewN n) (but_drewN hbut1 n)
 have HCALL := hH hcall2
 generalize bv s a = v at *
 clear hen htr1 hbut1 hcall hcall2 hsrt h
 go_enter Tryz.func64, Tryz.ntmps64
 go_wp2_with (go_at_call 89; refine (uh HEN).mono ?_; rintro e w2 ⟨rfl, rfl⟩)
 go_quiet ((go_at_call 90; exact Calls.quiet_of (uh HNX _)))
 go_wp2_with (go_at_call 63; refine (treeWant_yes _).mono ?_; rintro e w3 ⟨rfl, rfl⟩)
 refine (uh HCALL _).mono ?_
 rintro e w4 ⟨hb4, ⟨t, a2, q, v4, g1, g2, rfl, g4, g5, g6, g7⟩ | ⟨g1, rfl⟩⟩
 · obtain ⟨T, x, rfl⟩ := g4.iface
   have hbb : But R w w4 := (but_drewN (uh HB1) nq).trans hb4
   have hs1 := (uh HB1).size
   have HLV := hH (leave_any R q (L + 1) w4 g5.bnd (by omega) (by omega))
   have hfin : MEnd O w R s L (.returned (.iface T x)) (w4.setCell ⟨R, 1, none⟩ (.int .i64 L)) := by
    refine MEnd.yes (t := t) (a2 := a2) (q := q) g1 g2 (hbb.trans (But.set _ 1 _)) (SRep.carry (fun b hb => Below.heap_setCell _ _ _ _ (by have := hb.1; simp at this; show b ≠ R; omega)) (fun b hb => ⟨by have := hb.1; simp at this; omega, by rw [World.size_setCell]; exact hb.2⟩) _ _ g4) ?_ g6 g7
    exact g5.set1 L
   have HFIN := hH hfin
   clear hfin hbb g1 g4 g5 hb4 HCALL hne hcell
   go_wp2_with (go_at_call 91; refine (uh HLV).mono ?_; rintro e w5 ⟨rfl, rfl⟩)
   go_ret
   exact uh HFIN
 · have HFIN := hH (MEnd.no (o := O) (s := s) (l := L) g1 ((but_drewN (uh HB1) nq).trans hb4))
   clear g1 hb4 HCALL hne hcell
   go_wp2_with fail
   exact ⟨rfl, uh HFIN⟩
theorem tree_nil (L : Int) (w : World) (R : Nat) (s : ByteArray) (a : Nat) (p : Int) (h : TR w R s a p L) (ha : a ≤ s.size) (hp0 : 0 ≤ p) (hp1 : p + 1 ≤ 120) (hL0 : 0 ≤ L) (hL1 : L + 1 ≤ 6) (hsrt : srt R (bv s a) = .nilFunc) :
 Calls Tryz.prog 64 #[.pointer (some ⟨R, 0, none⟩)] w fun e w' => MEnd none w R s L e w' := by
 have htr1 := h.set2 (p + 1) (L + 1)
 have hbut1 : But R w ((w.setCell ⟨R, 0, none⟩ (.int .i64 (p + 1))).setCell ⟨R, 1, none⟩ (.int .i64 (L + 1))) := (But.set w 0 _).trans (But.set _ 1 _)
 have hen := enter_yes R p L w h.bnd hp0 hL0 hp1 hL1
 have hne := func_nil
 generalize ((w.setCell ⟨R, 0, none⟩ (.int .i64 (p + 1))).setCell ⟨R, 1, none⟩ (.int .i64 (L + 1))) = W1 at *
 have hcell := htr1.tab (bv s a) (bv_lt s a)
 rw [hsrt] at hcell
 have HNX := hH (fun n => xnext_any (W1.drewN n) R 2 s a (htr1.tx.drewN n) ha)
 have hbv := bv_lt s a
 have HEN := hH hen; have HB1 := hH hbut1
 generalize bv s a = v at *
 clear hen htr1 hbut1 hsrt h
 go_enter Tryz.func64, Tryz.ntmps64
 go_wp2_with (go_at_call 89; refine (uh HEN).mono ?_; rintro e w2 ⟨rfl, rfl⟩)
 go_quiet ((go_at_call 90; exact Calls.quiet_of (uh HNX _)))
 go_wp2_with (go_at_call 63; refine (treeWant_no _).mono ?_; rintro e w3 ⟨rfl, rfl⟩)
 exact ⟨rfl, MEnd.no rfl (but_drewN (uh HB1) _)⟩
theorem tree_out (O : Option (Tr × List UInt8 × Int)) (hO : O = none) (L : Int) (w : World) (R : Nat) (s : ByteArray) (a : Nat) (p : Int) (h : TR w R s a p L) (hp0 : 0 ≤ p) (hp1 : p ≤ 120) (hL0 : 0 ≤ L) (hL1 : L ≤ 6) (hno : ¬ (p + 1 ≤ 120 ∧ L + 1 ≤ 6)) :
 Calls Tryz.prog 64 #[.pointer (some ⟨R, 0, none⟩)] w fun e w' => MEnd O w R s L e w' := by
 have HEN := hH (enter_no R p L w h.bnd hp0 hL0 hp1 hL1 hno)
 clear h hno
 go_enter Tryz.func64, Tryz.ntmps64
 go_wp2_with (go_at_call 89; refine (uh HEN).mono ?_; rintro e w2 ⟨rfl, rfl⟩)
 exact ⟨rfl, MEnd.no hO ((But.set w 0 _).trans (But.set _ 1 _))⟩
theorem head_bv {s : ByteArray} {a : Nat} {c : UInt8} (h : (lf s a).head? = some c) : bv s a = c.toNat := by
 have hlt := lf_room h
 rw [lf_cons (show a < s.size by omega)] at h
 simp only [List.head?_cons, Option.some.injEq] at h
 unfold bv
 rw [dif_pos (show a < s.size by omega), h]
theorem treeR_step (d : Nat) (hd : d + 1 ≤ 6) (IH : TSaid d) : TSaid (d + 1) := by
 intro w R s a p hs h ha hE hR hp0 hp1
 have e6 : (6 : Int) - ((d + 1 : Nat) : Int) + 1 = 6 - d := by omega
 have hL0 : (0 : Int) ≤ 6 - ((d + 1 : Nat) : Int) := by omega
 have hL1 : (6 : Int) - ((d + 1 : Nat) : Int) + 1 ≤ 6 := by omega
 by_cases hpp : 120 < p + 1
 · exact tree_out _ (by rw [rdT, if_pos hpp]) _ w R s a p h hp0 hp1 hL0 (by omega) (by omega)
 have hp2 : p + 1 ≤ 120 := by omega
 cases hh : (lf s a).head? with
 | none =>
   have h0 : bv s a = 0 := by
    unfold bv
    by_cases hlt : a < s.size
    · rw [lf_cons hlt] at hh; simp at hh
    · rw [dif_neg hlt]
   have hr : rdT (d + 1) (lf s a) p = none := by rw [rdT, if_neg hpp, hh]
   rw [hr]
   exact tree_nil _ w R s a p h ha hp0 hp2 hL0 hL1 (by rw [h0]; simp [srt])
 | some c =>
   have hb := head_bv hh
   have hc256 := UInt8.toNat_lt c
   have hcn : ∀ k : UInt8, c.toNat = k.toNat → c = k := fun k e => UInt8.toNat_inj.1 e
   have hdg : isDg c = true ↔ (48 ≤ c.toNat ∧ c.toNat ≤ 57) := by unfold isDg; simp
   have hrd : rdT (d + 1) (lf s a) p = if isDg c = true ∨ c = 45 then numO (lf s a) (p + 1) else if c = 34 then quoO (lf s a) (p + 1) else if c = 121 ∨ c = 110 then flgO (lf s a) (p + 1) else if c = 91 then lstO d (lf s a) (p + 1) else if c = 123 then frmO d (lf s a) (p + 1) else if c = 126 ∨ c = 63 then mybO d (lf s a) (p + 1) else none := by
    rw [rdT, if_neg hpp, hh]
    simp only
    by_cases c1 : isDg c = true ∨ c = 45
    · rw [if_pos c1, if_pos c1]; rfl
    rw [if_neg c1, if_neg c1]
    by_cases c2 : c = 34
    · rw [if_pos c2, if_pos c2]; rfl
    rw [if_neg c2, if_neg c2]
    by_cases c3 : c = 121 ∨ c = 110
    · rw [if_pos c3, if_pos c3]; rfl
    rw [if_neg c3, if_neg c3]
    by_cases c4 : c = 91
    · rw [if_pos c4, if_pos c4]; unfold lstO
      rcases lp (rdT d) false 93 ((lf s a).length + 1) [] [] (lf s a).tail (p + 1) with _ | ⟨ns, ks, rest, q⟩ <;> rfl
    rw [if_neg c4, if_neg c4]
    by_cases c5 : c = 123
    · rw [if_pos c5, if_pos c5]; unfold frmO
      rcases lp (rdT d) true 125 ((lf s a).length + 1) [] [] (lf s a).tail (p + 1) with _ | ⟨ns, ks, rest, q⟩ <;> rfl
    rw [if_neg c5, if_neg c5]
    unfold mybO
    rw [hh]
    by_cases c6 : c = 126
    · rw [if_pos c6, if_pos (Or.inl c6), if_pos (by rw [c6])]
    rw [if_neg c6]
    by_cases c7 : c = 63
    · rw [if_pos c7, if_pos (Or.inr c7), if_neg (by simpa using c6)]
      rcases rdT d (lf s a).tail (p + 1) with _ | ⟨t, rest, q⟩ <;> rfl
    rw [if_neg c7, if_neg (by rintro (h | h); exact c6 h; exact c7 h)]
   rw [hrd]
   by_cases c1 : isDg c = true ∨ c = 45
   · rw [if_pos c1]
     refine tree_go 57 _ _ w R s a p h ha hp0 hp2 hL0 hL1 ?_ (fun W => enters_of Tryz.func57 (by kernel_rfl) rfl _ W) (fun W hW hB => ?_)
     · rw [hb]; unfold srt
       rw [if_pos (c1.elim (fun h => Or.inl (hdg.1 h)) (fun h => Or.inr (by rw [h]; rfl)))]
     · rw [e6] at hW ⊢
       exact num_walk W R s a (p + 1) (6 - d) hs hW ha (hE.but hB hR) hR (by omega) hp2
   have s1 : ¬ ((48 ≤ c.toNat ∧ c.toNat ≤ 57) ∨ c.toNat = 45) := fun h => c1 (h.elim (fun h => Or.inl (hdg.2 h)) (fun h => Or.inr (hcn 45 h)))
   rw [if_neg c1]
   by_cases c2 : c = 34
   · rw [if_pos c2]
     refine tree_go 58 _ _ w R s a p h ha hp0 hp2 hL0 hL1 ?_ (fun W => enters_of Tryz.func58 (by kernel_rfl) rfl _ W) (fun W hW hB => ?_)
     · rw [hb, c2]; rfl
     · rw [e6] at hW ⊢
       exact quoted_walk W R s a (p + 1) (6 - d) hs hW (by rw [hh, c2]) (by omega) hp2
   rw [if_neg c2]
   by_cases c3 : c = 121 ∨ c = 110
   · rw [if_pos c3]
     refine tree_go 59 _ _ w R s a p h ha hp0 hp2 hL0 hL1 ?_ (fun W => enters_of Tryz.func59 (by kernel_rfl) rfl _ W) (fun W hW hB => ?_)
     · rw [hb]; rcases c3 with rfl | rfl <;> rfl
     · rw [e6] at hW ⊢
       exact flag_walk W R s a (p + 1) (6 - d) hs hW ha (by omega) hp2
   rw [if_neg c3]
   by_cases c4 : c = 91
   · rw [if_pos c4]
     refine tree_go 60 _ _ w R s a p h ha hp0 hp2 hL0 hL1 ?_ (fun W => enters_of Tryz.func60 (by kernel_rfl) rfl _ W) (fun W hW hB => ?_)
     · rw [hb, c4]; rfl
     · rw [e6] at hW ⊢
       exact list_walk d (by omega) IH W R s a (p + 1) hs hW (by rw [hh, c4]) (hE.but hB hR) hR (by omega) hp2
   rw [if_neg c4]
   by_cases c5 : c = 123
   · rw [if_pos c5]
     refine tree_go 61 _ _ w R s a p h ha hp0 hp2 hL0 hL1 ?_ (fun W => enters_of Tryz.func61 (by kernel_rfl) rfl _ W) (fun W hW hB => ?_)
     · rw [hb, c5]; rfl
     · rw [e6] at hW ⊢
       exact form_walk d (by omega) IH W R s a (p + 1) hs hW (by rw [hh, c5]) (hE.but hB hR) hR (by omega) hp2
   rw [if_neg c5]
   by_cases c6 : c = 126 ∨ c = 63
   · rw [if_pos c6]
     refine tree_go 62 _ _ w R s a p h ha hp0 hp2 hL0 hL1 ?_ (fun W => enters_of Tryz.func62 (by kernel_rfl) rfl _ W) (fun W hW hB => ?_)
     · rw [hb]; rcases c6 with rfl | rfl <;> rfl
     · rw [e6] at hW ⊢
       exact maybe_walk d IH W R s a (p + 1) hs hW (c6.elim (fun h => Or.inl (by rw [hh, h])) (fun h => Or.inr (by rw [hh, h]))) (hE.but hB hR) hR (by omega) hp2
   rw [if_neg c6]
   refine tree_nil _ w R s a p h ha hp0 hp2 hL0 hL1 ?_
   rw [hb]; unfold srt
   have s2 : ¬ c.toNat = 34 := fun h => c2 (hcn 34 h)
   have s3 : ¬ (c.toNat = 121 ∨ c.toNat = 110) := fun h => c3 (h.elim (fun h => Or.inl (hcn 121 h)) (fun h => Or.inr (hcn 110 h)))
   have s4 : ¬ c.toNat = 91 := fun h => c4 (hcn 91 h)
   have s5 : ¬ c.toNat = 123 := fun h => c5 (hcn 123 h)
   have s6 : ¬ (c.toNat = 126 ∨ c.toNat = 63) := fun h => c6 (h.elim (fun h => Or.inl (hcn 126 h)) (fun h => Or.inr (hcn 63 h)))
   rw [if_neg s1, if_neg s2, if_neg s3, if_neg s4, if_neg s5, if_neg s6]
theorem tree_zero : TSaid 0 := by
 intro w R s a p hs h ha hE hR hp0 hp1
 exact tree_out _ (by rw [rdT]) _ w R s a p h hp0 hp1 (by omega) (by omega) (by omega)
theorem treeR_all : ∀ d, d ≤ 6 → TSaid d
 | 0, _ => tree_zero
 | d + 1, h => treeR_step d h (treeR_all d (by omega))

noncomputable def whlO (s : ByteArray) : Option (Tr × List UInt8 × Int) := if s.size ≤ 10000 then (match rdT 6 (lf s 0) 0 with
 | none => none
 | some (t, rest, q) => if rest = [] then some (t, rest, q) else none) else none
theorem whole_walk (w : World) (R : Nat) (s : ByteArray) (hs : s.size ≤ 1048576) (h : TR w R s 0 0 0) (hE : Env w) (hR : gTop ≤ R) :
 Calls Tryz.prog 31 #[.pointer (some ⟨R, 0, none⟩)] w fun e w' => MEnd (whlO s) w R s 0 e w' := by
 have htr := treeR_all 6 (Nat.le_refl _) w R s 0 0 hs (by simpa using h) (Nat.zero_le _) hE hR (by omega) (by omega)
 rw [show (6 : Int) - ((6 : Nat) : Int) = 0 from by decide] at htr
 obtain ⟨c0, c1, f1⟩ := h.tx
 have hO : whlO s = if s.size ≤ 10000 then (match rdT 6 (lf s 0) 0 with
  | none => none
  | some (t, rest, q) => if rest = [] then some (t, rest, q) else none) else none := rfl
 generalize whlO s = O at *
 by_cases h10 : s.size ≤ 10000
 · rw [if_pos h10] at hO
   have hd : decide ((s.size : Int) ≤ 10000) = true := by simp; omega
   have HTR := hH htr; have HO := hH hO
   clear htr hO h hE
   go_enter Tryz.func31, Tryz.ntmps31
   go_wp2_with (go_at_call 63; refine (treeWant_yes _).mono ?_; rintro e w2 ⟨rfl, rfl⟩)
   refine (uh HTR).mono ?_
   rintro e w3 ⟨hb3, ⟨t, a2, q, v, g1, g2, rfl, g4, g5, g6, g7⟩ | ⟨g1, rfl⟩⟩
   · have hOO := uh HO
     rw [g1] at hOO
     simp only at hOO
     obtain ⟨T, x, rfl⟩ := g4.iface
     have HB3 := hH hb3; have HG4 := hH g4; have HG5 := hH g5; have HOO := hH hOO
     clear g1 g4 g5 hb3 hOO HTR HO c0 c1 f1
     by_cases hend : a2 = s.size
     · subst hend
       have HEN := hH (xend_yes w3 R 2 s (uh HG5).tx)
       have hfin : ∀ m, MEnd O w2 R s 0 (.returned (.iface T x)) (w3.drewN m) := fun m => by
        have hsr : SRep (fun b => w2.heap.size ≤ b ∧ b < (w3.drewN m).heap.size) (w3.drewN m) t (.iface T x) := SRep.carry (w := w3) (w' := w3.drewN m) (fun _ _ => rfl) (fun _ h => h) t (.iface T x) (uh HG4)
        refine MEnd.yes (t := t) (a2 := s.size) (q := q) ?_ (Nat.le_refl _) (but_drewN (uh HB3) m) hsr ((uh HG5).drewN m) g6 g7
        rw [uh HOO, if_pos (lf_nil (Nat.le_refl _))]
       have HFIN := hH hfin
       clear hfin
       go_wp2_with (go_at_call 65; refine (uh HEN).mono ?_; rintro e w4 ⟨rfl, m, rfl⟩)
       go_ret
       exact uh HFIN m
     · have hlt : a2 < s.size := by omega
       have HEN := hH (xend_no w3 R 2 s a2 (uh HG5).tx hlt)
       go_wp2_with (go_at_call 65; refine (uh HEN).mono ?_; rintro e w4 ⟨rfl, m, rfl⟩)
       refine ⟨rfl, MEnd.no ?_ (but_drewN (uh HB3) m)⟩
       rw [uh HOO, if_neg (fun e => by have := lf_len s a2; rw [e] at this; simp at this; omega)]
   · have hOO := uh HO
     rw [g1] at hOO
     simp only at hOO
     have HB3 := hH hb3; have HOO := hH hOO
     clear g1 hb3 hOO HTR HO
     go_wp2_with fail
     exact ⟨rfl, MEnd.no (uh HOO) (uh HB3)⟩
 · rw [if_neg h10] at hO
   have hd : decide ((s.size : Int) ≤ 10000) = false := by simp; omega
   have HO := hH hO
   clear htr hO h hE
   go_enter Tryz.func31, Tryz.ntmps31
   go_wp2_with (go_at_call 63; refine (treeWant_no _).mono ?_; rintro e w2 ⟨rfl, rfl⟩)
   exact ⟨rfl, MEnd.no (uh HO) (But.refl _ _)⟩

theorem zeroTR : Tryz.zeroCells115 = #[.int .i64 0, .int .i64 0, .string ByteArray.empty, .int .i64 0] ++ Array.replicate 256 .nilFunc := by kernel_rfl
def f0 (s : ByteArray) (i : Nat) : Value := if i = 2 then .string s else if i < 4 then .int .i64 0 else .nilFunc
theorem row0 (w : World) (s : ByteArray) : (w.alloc (.cells ((Tryz.zeroCells115.setIfInBounds 2 (.string s)).setIfInBounds 3 (.int .i64 0)) 115)).rowIs w.heap.size 115 260 (f0 s) := by
 have h := World.rowIs_alloc w ((Tryz.zeroCells115.setIfInBounds 2 (.string s)).setIfInBounds 3 (.int .i64 0)) 115 (f0 s) (fun i hi => by
  rw [zeroTR] at hi ⊢
  simp only [Array.size_setIfInBounds, Array.size_append, Array.size_replicate] at hi
  rw [Array.getElem?_setIfInBounds, Array.getElem?_setIfInBounds]
  have hsz : (#[Value.int .i64 0, .int .i64 0, .string ByteArray.empty, .int .i64 0] : Array Value).size = 4 := rfl
  rw [hsz] at hi
  by_cases h3 : 3 = i
  · subst h3; simp [f0]
  · rw [if_neg h3]
    by_cases h2 : 2 = i
    · subst h2; simp [f0]
    · rw [if_neg h2]
      by_cases h4 : i < 4
      · have hi2 : i = 0 ∨ i = 1 := by omega
        rcases hi2 with rfl | rfl <;> simp [f0]
      · rw [Array.getElem?_append_right (by rw [hsz]; omega), hsz]
        simp only [f0]
        rw [if_neg (by omega), if_neg h4, Array.getElem?_replicate, if_pos (by omega)])
 have e : ((Tryz.zeroCells115.setIfInBounds 2 (.string s)).setIfInBounds 3 (.int .i64 0)).size = 260 := by
  rw [Array.size_setIfInBounds, Array.size_setIfInBounds, zeroTR]; simp
 rw [e] at h
 exact h
theorem TR.of_row {W : World} {N : Nat} {s : ByteArray} {a : Nat} {p l : Int} {f : Nat → Value} (h : W.rowIs N 115 260 f) (h0 : f 0 = .int .i64 p) (h1 : f 1 = .int .i64 l) (h2 : f 2 = .string s) (h3 : f 3 = .int .i64 a) (h4 : ∀ i, i < 256 → f (4 + i) = srt N i) : TR W N s a p l :=
 ⟨⟨by rw [h.cell (by omega), h0], by rw [h.cell (by omega), h1], h.frozen 0, h.frozen 1⟩, ⟨by rw [h.cell (by omega), h2], by rw [h.cell (by omega), h3], h.frozen 3⟩, fun i hi => by rw [h.cell (by omega), h4 i hi]⟩
theorem row_end {W : World} {N : Nat} {s : ByteArray} (h : W.rowIs N 115 260 (fun j => if 52 ≤ j ∧ j < 4 + 58 then .func (.func 57) #[.pointer (some ⟨N, 0, none⟩)] #[] else f0 s j)) :
 TR ((((((((W.setCell ⟨N, 49, none⟩ (.func (.func 57) #[.pointer (some ⟨N, 0, none⟩)] #[])).setCell ⟨N, 38, none⟩ (.func (.func 58) #[.pointer (some ⟨N, 0, none⟩)] #[])).setCell ⟨N, 125, none⟩ (.func (.func 59) #[.pointer (some ⟨N, 0, none⟩)] #[])).setCell ⟨N, 114, none⟩ (.func (.func 59) #[.pointer (some ⟨N, 0, none⟩)] #[])).setCell ⟨N, 95, none⟩ (.func (.func 60) #[.pointer (some ⟨N, 0, none⟩)] #[])).setCell ⟨N, 127, none⟩ (.func (.func 61) #[.pointer (some ⟨N, 0, none⟩)] #[])).setCell ⟨N, 130, none⟩ (.func (.func 62) #[.pointer (some ⟨N, 0, none⟩)] #[])).setCell ⟨N, 67, none⟩ (.func (.func 62) #[.pointer (some ⟨N, 0, none⟩)] #[])) N s 0 0 0 := by
 have h8 := ((((((((h.set 49 (.func (.func 57) #[.pointer (some ⟨N, 0, none⟩)] #[])).set 38 (.func (.func 58) #[.pointer (some ⟨N, 0, none⟩)] #[])).set 125 (.func (.func 59) #[.pointer (some ⟨N, 0, none⟩)] #[])).set 114 (.func (.func 59) #[.pointer (some ⟨N, 0, none⟩)] #[])).set 95 (.func (.func 60) #[.pointer (some ⟨N, 0, none⟩)] #[])).set 127 (.func (.func 61) #[.pointer (some ⟨N, 0, none⟩)] #[])).set 130 (.func (.func 62) #[.pointer (some ⟨N, 0, none⟩)] #[])).set 67 (.func (.func 62) #[.pointer (some ⟨N, 0, none⟩)] #[]))
 refine TR.of_row h8 (by simp [f0]) (by simp [f0]) (by simp [f0]) (by simp [f0]) (fun i hi => ?_)
 clear h8 h
 unfold srt
 by_cases e1 : i = 63
 · subst e1; simp
 by_cases e2 : i = 126
 · subst e2; simp
 by_cases e3 : i = 123
 · subst e3; simp
 by_cases e4 : i = 91
 · subst e4; simp
 by_cases e5 : i = 110
 · subst e5; simp
 by_cases e6 : i = 121
 · subst e6; simp
 by_cases e7 : i = 34
 · subst e7; simp
 by_cases e8 : i = 45
 · subst e8; simp
 rw [if_neg (by omega), if_neg (by omega), if_neg (by omega), if_neg (by omega), if_neg (by omega), if_neg (by omega), if_neg (by omega), if_neg (by omega)]
 by_cases e9 : 48 ≤ i ∧ i ≤ 57
 · rw [if_pos (by omega), if_pos (Or.inl e9)]
 · rw [if_neg (by omega), if_neg (by omega), if_neg e7, if_neg (by omega), if_neg e4, if_neg e3, if_neg (by omega)]
   unfold f0
   rw [if_neg (by omega), if_neg (by omega)]
theorem below_end {w W : World} {N : Nat} (hb : Below N w W) : Below N w ((((((((W.setCell ⟨N, 49, none⟩ (.func (.func 57) #[.pointer (some ⟨N, 0, none⟩)] #[])).setCell ⟨N, 38, none⟩ (.func (.func 58) #[.pointer (some ⟨N, 0, none⟩)] #[])).setCell ⟨N, 125, none⟩ (.func (.func 59) #[.pointer (some ⟨N, 0, none⟩)] #[])).setCell ⟨N, 114, none⟩ (.func (.func 59) #[.pointer (some ⟨N, 0, none⟩)] #[])).setCell ⟨N, 95, none⟩ (.func (.func 60) #[.pointer (some ⟨N, 0, none⟩)] #[])).setCell ⟨N, 127, none⟩ (.func (.func 61) #[.pointer (some ⟨N, 0, none⟩)] #[])).setCell ⟨N, 130, none⟩ (.func (.func 62) #[.pointer (some ⟨N, 0, none⟩)] #[])).setCell ⟨N, 67, none⟩ (.func (.func 62) #[.pointer (some ⟨N, 0, none⟩)] #[])) := ((((((((hb.setCell (p := ⟨N, 49, none⟩) (Nat.le_refl N) (.func (.func 57) #[.pointer (some ⟨N, 0, none⟩)] #[])).setCell (p := ⟨N, 38, none⟩) (Nat.le_refl N) (.func (.func 58) #[.pointer (some ⟨N, 0, none⟩)] #[])).setCell (p := ⟨N, 125, none⟩) (Nat.le_refl N) (.func (.func 59) #[.pointer (some ⟨N, 0, none⟩)] #[])).setCell (p := ⟨N, 114, none⟩) (Nat.le_refl N) (.func (.func 59) #[.pointer (some ⟨N, 0, none⟩)] #[])).setCell (p := ⟨N, 95, none⟩) (Nat.le_refl N) (.func (.func 60) #[.pointer (some ⟨N, 0, none⟩)] #[])).setCell (p := ⟨N, 127, none⟩) (Nat.le_refl N) (.func (.func 61) #[.pointer (some ⟨N, 0, none⟩)] #[])).setCell (p := ⟨N, 130, none⟩) (Nat.le_refl N) (.func (.func 62) #[.pointer (some ⟨N, 0, none⟩)] #[])).setCell (p := ⟨N, 67, none⟩) (Nat.le_refl N) (.func (.func 62) #[.pointer (some ⟨N, 0, none⟩)] #[]))
theorem newReader_walk (s : ByteArray) (w : World) :
 Calls Tryz.prog 30 #[.string s] w fun e w' => e = .returned (.pointer (some ⟨w.heap.size, 0, none⟩)) ∧ TR w' w.heap.size s 0 0 0 ∧ Below w.heap.size w w' := by
 have hmf : ∀ (fn : Fn) (first cap : Array Value) (w : World), (Instr.makeFunc fn first cap).run Tryz.prog w = .ok (.func fn first cap) w := fun _ _ _ _ => rfl
 have HR0 := hH (row0 w s)
 have HB0 := hH ((Below.refl w.heap.size w).alloc (Nat.le_refl _) (.cells ((Tryz.zeroCells115.setIfInBounds 2 (.string s)).setIfInBounds 3 (.int .i64 0)) 115))
 go_enter Tryz.func30, Tryz.ntmps30
 go_wp2_with fail
 generalize w.alloc (.cells ((Tryz.zeroCells115.setIfInBounds 2 (.string s)).setIfInBounds 3 (.int .i64 0)) 115) = W0 at *
 generalize hN : w.heap.size = N at *
 go_loopw [4] (fun d wr => ∃ k : Nat, 48 ≤ k ∧ k ≤ 58 ∧ d = .int .i32 k ∧ Hid (wr.rowIs N 115 260 (fun j => if 52 ≤ j ∧ j < 4 + k then .func (.func 57) #[.pointer (some ⟨N, 0, none⟩)] #[] else f0 s j)) ∧ Hid (Below N w wr)) (fun d _ => 58 - (intOf d).toNat)
 case atStart => exact ⟨48, Nat.le_refl _, by omega, rfl, hH ((uh HR0).congr (fun i hi => by rw [if_neg (by omega)])), HB0⟩
 case round =>
  obtain ⟨k, hk0, hk1, rfl, HR, HB⟩ := hrel
  have hfz : ∀ i, wr.frozen? ⟨N, i, none⟩ = false := fun i => HR.out.frozen i
  by_cases hlt : k < 58
  · have hc := HR.out.cell (i := 4 + k) (by omega)
    simp only [f0] at hc
    rw [if_neg (by omega), if_neg (by omega), if_neg (by omega)] at hc
    have hf := hfz (4 + k)
    have hdl : decide ((k : Int) ≤ 57) = true := by simp; omega
    have hrow : (wr.setCell ⟨N, 4 + k, none⟩ (.func (.func 57) #[.pointer (some ⟨N, 0, none⟩)] #[])).rowIs N 115 260 (fun j => if 52 ≤ j ∧ j < 4 + (k + 1) then .func (.func 57) #[.pointer (some ⟨N, 0, none⟩)] #[] else f0 s j) := by
     refine (HR.out.set (4 + k) _).congr fun j hj => ?_
     by_cases e : j = 4 + k
     · rw [if_pos e, if_pos (by omega)]
     · rw [if_neg e]
       by_cases e2 : 52 ≤ j ∧ j < 4 + k
       · rw [if_pos e2, if_pos (by omega)]
       · rw [if_neg e2, if_neg (by omega)]
    have HROW := hH hrow
    have HBB := hH (HB.out.setCell (p := ⟨N, 4 + k, none⟩) (Nat.le_refl N) (.func (.func 57) #[.pointer (some ⟨N, 0, none⟩)] #[]))
    clear hfz hrow
    go_wp2_with fail
    go_roundw
    case rel => exact ⟨k + 1, by omega, by omega, by go_num, HROW, HBB⟩
    case measure => simp [intOf]; omega
  · obtain rfl : k = 58 := by omega
    have hdl : decide (((58 : Nat) : Int) ≤ 57) = false := by decide
    have hc1 := HR.out.cell (i := 49) (by omega); have hc2 := HR.out.cell (i := 38) (by omega); have hc3 := HR.out.cell (i := 125) (by omega); have hc4 := HR.out.cell (i := 114) (by omega)
    have hc5 := HR.out.cell (i := 95) (by omega); have hc6 := HR.out.cell (i := 127) (by omega); have hc7 := HR.out.cell (i := 130) (by omega); have hc8 := HR.out.cell (i := 67) (by omega)
    simp [f0] at hc1 hc2 hc3 hc4 hc5 hc6 hc7 hc8
    have hz1 := hfz 49; have hz2 := hfz 38; have hz3 := hfz 125; have hz4 := hfz 114; have hz5 := hfz 95; have hz6 := hfz 127; have hz7 := hfz 130; have hz8 := hfz 67
    have HTE := hH (row_end HR.out); have HBE := hH (below_end (N := N) HB.out)
    clear hfz
    go_wp2_with fail
    go_ret
    subst hN
    exact ⟨rfl, uh HTE, uh HBE⟩

theorem clone_any (s : ByteArray) (w : World) (hlim : s.size ≤ 140737488355328) :
 Calls Tryz.prog 54 #[.string s] w fun e w' => e = .returned (.string s) ∧ Below w.heap.size w w' := by
 have hc : ∀ W, Calls Tryz.prog 76 #[.string s] W fun e w' => e = .returned (.string s) ∧ Below W.heap.size W w' := fun W => Tryz.stringslite_Clone s W (by omega)
 have HC := hH hc; clear hc
 go_enter Tryz.func54, Tryz.ntmps54
 go_wp2_with (go_at_call 76; refine (uh HC _).mono ?_; rintro e w' ⟨rfl, hb⟩)
 go_ret
 exact ⟨rfl, hb⟩
theorem infoStrC : (Tryz.prog.info? 9).map (fun i => (i.zero, i.size, i.bytes)) = some (some (.string ByteArray.empty), 1, 16) := by kernel_rfl
theorem copyNames_any (v : Value) (ss : List ByteArray) (w : World) {P : Nat → Prop} (hP : ∀ b, P b → b < w.heap.size) (hv : StrsAt P w v ss) (hl : ss.length ≤ 1048576) (hsz : ∀ x, x ∈ ss → x.size ≤ 1099511627776) :
 Calls Tryz.prog 56 #[v] w fun e w' => ∃ v' F, e = .returned v' ∧ StrsOwn w' v' ss F ∧ F.Nodup ∧ (∀ b, b ∈ F → w.heap.size ≤ b ∧ b < w'.heap.size) ∧ Below w.heap.size w w' := by
 obtain ⟨a, cap, rfl, hlen, hc⟩ := hv
 obtain ⟨i0, hi, hz0, hz1, hz2⟩ := info_parts infoStrC
 have HC := hH hc; have HP := hH hP; have HSZ := hH hsz
 have HII := hH hi; have HZ0 := hH hz0; have HZ1 := hH hz1; have HZ2 := hH hz2
 clear hc hP hsz hi hz0 hz1 hz2
 go_enter Tryz.func56, Tryz.ntmps56
 go_wp2_with fail
 go_loopw [3, 8] (fun s i wr => ∃ (k : Nat) (a' : Option Addr) (cap' : Nat), k ≤ ss.length ∧ i = .int .i64 k ∧ s = .slice a' k cap' ∧ Hid (wr.ownsRow w.heap.size 9 1 (.slice a' k cap') k ((ss.take k).map Value.string)) ∧ Hid (Below w.heap.size w wr)) (fun _ i _ => ss.length - (intOf i).toNat)
 case atStart => exact ⟨0, none, 0, Nat.zero_le _, rfl, rfl, World.ownsRow_nil _ _ _ _, Below.refl _ _⟩
 case round =>
  obtain ⟨k, a', cap', hk, rfl, rfl, HOWN, HB⟩ := hrel
  by_cases hlt : k < ss.length
  · obtain ⟨b, o, rfl, hpb, hcell, -⟩ := uh HC k hlt
    have e1 : wr.cell? ⟨b, o + k, none⟩ = some (.string ss[k]) := by rw [HB.out.cell (uh HP b hpb)]; exact hcell
    have hcl := clone_any ss[k] wr (by have := uh HSZ _ (List.getElem_mem hlt); omega)
    have htk : (ss.take (k + 1)).map Value.string = (ss.take k).map Value.string ++ [.string ss[k]] := by
     rw [List.take_succ_eq_append_getElem hlt, List.map_append]; rfl
    generalize ss[k] = tk at *
    have HCL := hH hcl; have HTK := hH htk
    clear hcl htk hcell hpb
    go_wp2_with fail
    refine (uh HCL).mono ?_
    rintro e w2 ⟨rfl, hb2⟩
    have hs2 := hb2.size
    have hsw := HB.out.size
    have hown2 : w2.ownsRow w.heap.size 9 1 (.slice a' k cap') k ((ss.take k).map Value.string) :=
     HOWN.out.kept (row := none) ⟨hb2.os, hb2.tape, hb2.output, hb2.size, fun i hi _ => hb2.block i hi⟩ (by
      rcases h : (Value.slice a' k cap').ownBlock with _ | g
      · exact Or.inl rfl
      · exact Or.inr (by simp))
    have HOWN2 := hH hown2; have HB2 := hH (HB.out.trans (hb2.mono hsw))
    clear hown2 hb2 HCL e1
    go_wp2_with (at_builtin; refine append_row _ rfl _ _ 23 rfl w.heap.size 9 i0 (.string ByteArray.empty) 1 16 Tryz.underlying23 (uh HII) (uh HZ0) (uh HZ1) (uh HZ2) rfl (by decide) (.slice a' k cap') k ((ss.take k).map Value.string) rfl ((uh HOWN2).alloc _) ⟨w2.heap.size, 0, none⟩ 1 1 [.string tk] rfl rfl (cell_one _ _ _) (fun u hu => by simp at hu; subst hu; rfl) (by decide) (by unfold maxLen; omega) (by omega) (by simp; omega) ?_; intro v' w4 hown4 hgrow4 hv4)
    have hlt4 := (uh HOWN2).lt
    obtain ⟨g', cap'', hv''⟩ : ∃ g' cap'', v' = .slice (some ⟨g', 0, none⟩) (k + 1) cap'' := by
     rcases hown4.2 with ⟨_, h⟩ | ⟨g', cap'', _, h, _⟩
     · omega
     · exact ⟨g', cap'', h⟩
    subst hv''
    have hb4 : Below w.heap.size w2 w4 := (((Below.refl _ w2).alloc (by omega) _)).trans ((Below.refl _ _).grown hgrow4 (by simp; omega) (fun k e => (hlt4 k e).1))
    have HOWN4 : Hid (w4.ownsRow w.heap.size 9 1 (.slice (some ⟨g', 0, none⟩) (k + 1) cap'') (k + 1) ((ss.take (k + 1)).map Value.string)) := by
     show World.ownsRow _ _ _ _ _ _ _
     rw [uh HTK]; exact hown4
    have HB4 := hH ((uh HB2).trans hb4)
    clear hown4 hgrow4 hv4 hb4 hlt4
    go_wp2_with fail
    go_roundw
    case rel => exact ⟨k + 1, some ⟨g', 0, none⟩, cap'', by omega, by go_num, rfl, HOWN4, uh HB4⟩
    case measure => simp [intOf]; omega
  · obtain rfl : k = ss.length := by omega
    have h1 := HOWN.out
    rw [List.take_length] at h1
    obtain ⟨F, hF, hnd, hlt', -⟩ := strsOwn_of_row h1 (fun x hx => by have := uh HSZ x hx; omega)
    have HF := hH hF; have HL := hH hlt'
    clear h1 hF hlt'
    go_wp2_with fail
    go_ret
    exact ⟨_, F, rfl, uh HF, hnd, uh HL, HB.out⟩

def set5 (W : World) (B : Nat) (c : C5) : World := ((((W.setCell ⟨B, 0, none⟩ c.c0).setCell ⟨B, 1, none⟩ c.c1).setCell ⟨B, 2, none⟩ c.c2).setCell ⟨B, 3, none⟩ c.c3).setCell ⟨B, 4, none⟩ c.c4
theorem set5_heap (W : World) (B : Nat) (c : C5) (b : Nat) (h : b ≠ B) : (set5 W B c).heap[b]? = W.heap[b]? := by
 unfold set5
 rw [Below.heap_setCell _ _ _ _ h, Below.heap_setCell _ _ _ _ h, Below.heap_setCell _ _ _ _ h, Below.heap_setCell _ _ _ _ h, Below.heap_setCell _ _ _ _ h]
theorem set5_size (W : World) (B : Nat) (c : C5) : (set5 W B c).heap.size = W.heap.size := by unfold set5; simp
theorem below_set5 {N : Nat} {w W : World} (h : Below N w W) (B : Nat) (c : C5) (hB : N ≤ B) : Below N w (set5 W B c) := ((((h.setCell (p := ⟨B, 0, none⟩) hB _).setCell (p := ⟨B, 1, none⟩) hB _).setCell (p := ⟨B, 2, none⟩) hB _).setCell (p := ⟨B, 3, none⟩) hB _).setCell (p := ⟨B, 4, none⟩) hB _
theorem row5_set5 {W : World} {B : Nat} {t : TypeId} {c : C5} {c' : C5} (h : W.rowIs B t 5 (row5 c.c0 c.c1 c.c2 c.c3 c.c4)) : (set5 W B c').rowIs B t 5 (row5 c'.c0 c'.c1 c'.c2 c'.c3 c'.c4) := by
 have h5 := ((((h.set 0 c'.c0).set 1 c'.c1).set 2 c'.c2).set 3 c'.c3).set 4 c'.c4
 unfold set5
 refine h5.congr (fun i hi => ?_)
 match i, hi with
 | 0, _ => rfl
 | 1, _ => rfl
 | 2, _ => rfl
 | 3, _ => rfl
 | 4, _ => rfl

theorem Own.leafT (w : World) (s n : Int) (tx : ByteArray) (hs : I64 s) (hn : I64 n) (ht : tx.size ≤ 9223372036854775807) : Own w (.mk s n tx [] []) ⟨.int .i64 s, .int .i64 n, .string tx, .slice none 0 0, .slice none 0 0⟩ [] :=
 Own.make (t := .mk s n tx [] []) (F1 := []) (F2 := []) rfl rfl rfl hs hn ht ⟨none, 0, rfl, by simp [Tr.names], Or.inl ⟨rfl, rfl⟩⟩ ⟨none, 0, rfl, by simp [Tr.kids], Or.inl ⟨rfl, rfl⟩⟩
def PlEnd (t : Tr) (w : World) (e : Ending) (w' : World) : Prop := ∃ (c : C5) (F : List Nat), e = .returned (.agg #[c.c0, c.c1, c.c2, c.c3, c.c4]) ∧ Own w' t c F ∧ F.Nodup ∧ (∀ b, b ∈ F → w.heap.size ≤ b ∧ b < w'.heap.size) ∧ Below w.heap.size w w'
def PksEnd (ks : List Tr) (w : World) (e : Ending) (w' : World) : Prop := ∃ (a : Option Addr) (cap : Nat) (F : List Nat), e = .returned (.slice a ks.length cap) ∧ KidsOwn w' (.slice a ks.length cap) ks F ∧ F.Nodup ∧ (∀ b, b ∈ F → w.heap.size ≤ b ∧ b < w'.heap.size) ∧ Below w.heap.size w w'
theorem box_cells {w w2 : World} {o : Obj} (h : o = .cells #[.int .i64 0, .int .i64 0, .string ⟨#[]⟩, .slice none 0 0, .slice none 0 0] 29) (hb : w2.heap[w.heap.size]? = (w.alloc o).heap[w.heap.size]?) :
 w2.rowIs w.heap.size 29 5 (row5 (.int .i64 0) (.int .i64 0) (.string ⟨#[]⟩) (.slice none 0 0) (.slice none 0 0)) := by
 subst h
 exact (row5_alloc w _ _ _ _ _ _).of_block hb
theorem fin_own {t : Tr} {w W : World} {c : C5} {F : List Nat} (h : Own W t c F) (hn : F.Nodup) (hF : ∀ b, b ∈ F → w.heap.size < b ∧ b < W.heap.size) (hb : Below w.heap.size w W) : PlEnd t w (.returned (.agg #[c.c0, c.c1, c.c2, c.c3, c.c4])) (set5 W w.heap.size c) :=
 ⟨c, F, rfl, Own.carry t c F (fun b hb' => set5_heap _ _ _ _ (by have := (hF b hb').1; omega)) h, hn, fun b hb' => by rw [set5_size]; have := hF b hb'; omega, below_set5 hb _ _ (Nat.le_refl _)⟩
theorem plain_1 (n : Int) (hn : -999999999 ≤ n ∧ n ≤ 999999999) (w : World) : Calls Tryz.prog 29 #[.iface 98 (.int .i64 n)] w fun e w' => PlEnd (.mk 1 n ByteArray.empty [] []) w e w' := by
 have hta0 : ∀ w, Sem.run Tryz.prog (Instr.typeAssert (.iface 98 (.int .i64 n)) 66 98 true) w = .ok (.tuple #[.int .i64 n, .bool true]) w := fun _ => by kernel_rfl
 go_enter Tryz.func29, Tryz.ntmps29
 go_wp2_with fail
 refine bodyPost_ret (v := .agg #[.int .i64 1, .int .i64 n, .string ByteArray.empty, .slice none 0 0, .slice none 0 0]) (by simp [results, Tryz.results29, go_sem]; rfl) rfl ?_
 exact ⟨⟨_, _, _, _, _⟩, [], rfl, Own.leafT _ 1 n ByteArray.empty ⟨by decide, by decide⟩ ⟨by omega, by omega⟩ (by simp), List.nodup_nil, fun b hb => by simp at hb, (Below.refl _ _).alloc (Nat.le_refl _) _⟩
theorem plain_2 (x : ByteArray) (hx : x.size ≤ 1048576) (w : World) : Calls Tryz.prog 29 #[.iface 99 (.string x)] w fun e w' => PlEnd (.mk 2 0 x [] []) w e w' := by
 have hta0 : ∀ w, Sem.run Tryz.prog (Instr.typeAssert (.iface 99 (.string x)) 66 98 true) w = .ok (.tuple #[.int .i64 0, .bool false]) w := fun _ => by kernel_rfl
 have hta1 : ∀ w, Sem.run Tryz.prog (Instr.typeAssert (.iface 99 (.string x)) 66 99 true) w = .ok (.tuple #[.string x, .bool true]) w := fun _ => by kernel_rfl
 have HC := hH (fun W => clone_any x W (by omega))
 go_enter Tryz.func29, Tryz.ntmps29
 go_wp2_with fail
 refine (uh HC _).mono ?_
 rintro e w2 ⟨rfl, hb2⟩
 have r2 := box_cells (w := w) rfl (hb2.block _ (by simp))
 obtain ⟨y0, y1, y2, y3, y4⟩ := cs5 r2 (by omega)
 have z0 := r2.frozen 0; have z1 := r2.frozen 1; have z2 := r2.frozen 2; have z3 := r2.frozen 3; have z4 := r2.frozen 4
 simp only [row5] at y0 y1 y2 y3 y4
 have HB2 := hH ((Below.refl w.heap.size w).alloc (Nat.le_refl _) _ |>.trans (hb2.mono (by simp)))
 clear hb2 HC r2
 go_wp2_with fail
 refine bodyPost_ret (v := .agg #[.int .i64 2, .int .i64 0, .string x, .slice none 0 0, .slice none 0 0]) (by simp [results, Tryz.results29, go_sem, y0, y1, y2, y3, y4]) rfl ?_
 exact fin_own (c := ⟨_, _, _, _, _⟩) (Own.leafT _ 2 0 x ⟨by decide, by decide⟩ ⟨by decide, by decide⟩ (by omega)) List.nodup_nil (fun b hb => by simp at hb) (uh HB2)
theorem plain_3a  (w : World) : Calls Tryz.prog 29 #[.iface 101 (.bool true)] w fun e w' => PlEnd (.mk 3 1 ByteArray.empty [] []) w e w' := by
 have hta0 : ∀ w, Sem.run Tryz.prog (Instr.typeAssert (.iface 101 (.bool true)) 66 98 true) w = .ok (.tuple #[.int .i64 0, .bool false]) w := fun _ => by kernel_rfl
 have hta1 : ∀ w, Sem.run Tryz.prog (Instr.typeAssert (.iface 101 (.bool true)) 66 99 true) w = .ok (.tuple #[.string ByteArray.empty, .bool false]) w := fun _ => by kernel_rfl
 have hta2 : ∀ w, Sem.run Tryz.prog (Instr.typeAssert (.iface 101 (.bool true)) 66 101 true) w = .ok (.tuple #[.bool true, .bool true]) w := fun _ => by kernel_rfl
 go_enter Tryz.func29, Tryz.ntmps29
 go_wp2_with fail
 refine bodyPost_ret (v := .agg #[.int .i64 3, .int .i64 1, .string ByteArray.empty, .slice none 0 0, .slice none 0 0]) (by simp [results, Tryz.results29, go_sem]; rfl) rfl ?_
 exact ⟨⟨_, _, _, _, _⟩, [], rfl, Own.leafT _ 3 1 ByteArray.empty ⟨by decide, by decide⟩ ⟨by decide, by decide⟩ (by simp), List.nodup_nil, fun b hb => by simp at hb, (Below.refl _ _).alloc (Nat.le_refl _) _⟩
theorem plain_3b  (w : World) : Calls Tryz.prog 29 #[.iface 101 (.bool false)] w fun e w' => PlEnd (.mk 3 0 ByteArray.empty [] []) w e w' := by
 have hta0 : ∀ w, Sem.run Tryz.prog (Instr.typeAssert (.iface 101 (.bool false)) 66 98 true) w = .ok (.tuple #[.int .i64 0, .bool false]) w := fun _ => by kernel_rfl
 have hta1 : ∀ w, Sem.run Tryz.prog (Instr.typeAssert (.iface 101 (.bool false)) 66 99 true) w = .ok (.tuple #[.string ByteArray.empty, .bool false]) w := fun _ => by kernel_rfl
 have hta2 : ∀ w, Sem.run Tryz.prog (Instr.typeAssert (.iface 101 (.bool false)) 66 101 true) w = .ok (.tuple #[.bool false, .bool true]) w := fun _ => by kernel_rfl
 go_enter Tryz.func29, Tryz.ntmps29
 go_wp2_with fail
 refine bodyPost_ret (v := .agg #[.int .i64 3, .int .i64 0, .string ByteArray.empty, .slice none 0 0, .slice none 0 0]) (by simp [results, Tryz.results29, go_sem]; rfl) rfl ?_
 exact ⟨⟨_, _, _, _, _⟩, [], rfl, Own.leafT _ 3 0 ByteArray.empty ⟨by decide, by decide⟩ ⟨by decide, by decide⟩ (by simp), List.nodup_nil, fun b hb => by simp at hb, (Below.refl _ _).alloc (Nat.le_refl _) _⟩
theorem plain_4 (a : Option Addr) (cap : Nat) (ks : List Tr) (w : World) (hks : ∀ o, Calls Tryz.prog 55 #[.slice a ks.length cap] (w.alloc o) fun e w' => PksEnd ks (w.alloc o) e w') : Calls Tryz.prog 29 #[.iface 103 (.slice a ks.length cap)] w fun e w' => PlEnd (.mk 4 0 ByteArray.empty [] ks) w e w' := by
 have hta0 : ∀ w, Sem.run Tryz.prog (Instr.typeAssert (.iface 103 (.slice a ks.length cap)) 66 98 true) w = .ok (.tuple #[.int .i64 0, .bool false]) w := fun _ => by kernel_rfl
 have hta1 : ∀ w, Sem.run Tryz.prog (Instr.typeAssert (.iface 103 (.slice a ks.length cap)) 66 99 true) w = .ok (.tuple #[.string ByteArray.empty, .bool false]) w := fun _ => by kernel_rfl
 have hta2 : ∀ w, Sem.run Tryz.prog (Instr.typeAssert (.iface 103 (.slice a ks.length cap)) 66 101 true) w = .ok (.tuple #[.bool false, .bool false]) w := fun _ => by kernel_rfl
 have hta3 : ∀ w, Sem.run Tryz.prog (Instr.typeAssert (.iface 103 (.slice a ks.length cap)) 66 103 true) w = .ok (.tuple #[.slice a ks.length cap, .bool true]) w := fun _ => by kernel_rfl
 have HKS := hH hks
 clear hks
 go_enter Tryz.func29, Tryz.ntmps29
 go_wp2_with fail
 refine (uh HKS _).mono ?_
 rintro e w2 ⟨a2, cap2, F, rfl, hko, hnd, hF, hb2⟩
 have r2 := box_cells (w := w) rfl (hb2.block _ (by simp))
 obtain ⟨y0, y1, y2, y3, y4⟩ := cs5 r2 (by omega)
 have z0 := r2.frozen 0; have z1 := r2.frozen 1; have z2 := r2.frozen 2; have z3 := r2.frozen 3; have z4 := r2.frozen 4
 simp only [row5] at y0 y1 y2 y3 y4
 have HB2 := hH ((Below.refl w.heap.size w).alloc (Nat.le_refl _) _ |>.trans (hb2.mono (by simp)))
 have HKO := hH hko; have HF := hH hF
 clear hb2 HKS r2 hko hF
 go_wp2_with fail
 refine bodyPost_ret (v := .agg #[.int .i64 4, .int .i64 0, .string ByteArray.empty, .slice none 0 0, .slice a2 ks.length cap2]) (by simp [results, Tryz.results29, go_sem, y0, y1, y2, y3, y4]; rfl) rfl ?_
 exact fin_own (c := ⟨_, _, _, _, _⟩) (F := [] ++ F) (Own.make (t := .mk 4 0 ByteArray.empty [] ks) rfl rfl rfl (show I64 4 from ⟨by decide, by decide⟩) (show I64 0 from ⟨by decide, by decide⟩) (by simp [Tr.text]) ⟨none, 0, rfl, by simp [Tr.names], Or.inl ⟨rfl, rfl⟩⟩ (uh HKO)) hnd (fun b hb => by have := uh HF b hb; simp at this; omega) (uh HB2)
theorem plain_6 (a : Option Addr) (cap : Nat) (ks : List Tr) (w : World) (hks : ∀ o, Calls Tryz.prog 55 #[.slice a ks.length cap] (w.alloc o) fun e w' => PksEnd ks (w.alloc o) e w') : Calls Tryz.prog 29 #[.iface 108 (.slice a ks.length cap)] w fun e w' => PlEnd (.mk 6 0 ByteArray.empty [] ks) w e w' := by
 have hta0 : ∀ w, Sem.run Tryz.prog (Instr.typeAssert (.iface 108 (.slice a ks.length cap)) 66 98 true) w = .ok (.tuple #[.int .i64 0, .bool false]) w := fun _ => by kernel_rfl
 have hta1 : ∀ w, Sem.run Tryz.prog (Instr.typeAssert (.iface 108 (.slice a ks.length cap)) 66 99 true) w = .ok (.tuple #[.string ByteArray.empty, .bool false]) w := fun _ => by kernel_rfl
 have hta2 : ∀ w, Sem.run Tryz.prog (Instr.typeAssert (.iface 108 (.slice a ks.length cap)) 66 101 true) w = .ok (.tuple #[.bool false, .bool false]) w := fun _ => by kernel_rfl
 have hta3 : ∀ w, Sem.run Tryz.prog (Instr.typeAssert (.iface 108 (.slice a ks.length cap)) 66 103 true) w = .ok (.tuple #[.slice none 0 0, .bool false]) w := fun _ => by kernel_rfl
 have hta4 : ∀ w, Sem.run Tryz.prog (Instr.typeAssert (.iface 108 (.slice a ks.length cap)) 66 106 true) w = .ok (.tuple #[.agg #[.slice none 0 0, .slice none 0 0], .bool false]) w := fun _ => by kernel_rfl
 have hta5 : ∀ w, Sem.run Tryz.prog (Instr.typeAssert (.iface 108 (.slice a ks.length cap)) 66 108 true) w = .ok (.tuple #[.slice a ks.length cap, .bool true]) w := fun _ => by kernel_rfl
 have HKS := hH hks
 clear hks
 go_enter Tryz.func29, Tryz.ntmps29
 go_wp2_with fail
 refine (uh HKS _).mono ?_
 rintro e w2 ⟨a2, cap2, F, rfl, hko, hnd, hF, hb2⟩
 have r2 := box_cells (w := w) rfl (hb2.block _ (by simp))
 obtain ⟨y0, y1, y2, y3, y4⟩ := cs5 r2 (by omega)
 have z0 := r2.frozen 0; have z1 := r2.frozen 1; have z2 := r2.frozen 2; have z3 := r2.frozen 3; have z4 := r2.frozen 4
 simp only [row5] at y0 y1 y2 y3 y4
 have HB2 := hH ((Below.refl w.heap.size w).alloc (Nat.le_refl _) _ |>.trans (hb2.mono (by simp)))
 have HKO := hH hko; have HF := hH hF
 clear hb2 HKS r2 hko hF
 go_wp2_with fail
 refine bodyPost_ret (v := .agg #[.int .i64 6, .int .i64 0, .string ByteArray.empty, .slice none 0 0, .slice a2 ks.length cap2]) (by simp [results, Tryz.results29, go_sem, y0, y1, y2, y3, y4]; rfl) rfl ?_
 exact fin_own (c := ⟨_, _, _, _, _⟩) (F := [] ++ F) (Own.make (t := .mk 6 0 ByteArray.empty [] ks) rfl rfl rfl (show I64 6 from ⟨by decide, by decide⟩) (show I64 0 from ⟨by decide, by decide⟩) (by simp [Tr.text]) ⟨none, 0, rfl, by simp [Tr.names], Or.inl ⟨rfl, rfl⟩⟩ (uh HKO)) hnd (fun b hb => by have := uh HF b hb; simp at this; omega) (uh HB2)
end Go.Proofs.YtccnehcpmkgbhaaGreatDoor
