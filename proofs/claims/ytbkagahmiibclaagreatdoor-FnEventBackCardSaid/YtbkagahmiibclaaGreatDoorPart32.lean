/- The program's reader of trees, whole: it reads as the function rdT does. The tables of strconv are as the program's text lays them; for texts of at most 2^20 bytes. -/
import Derived.Test.YtbkagahmiibclaaGreatDoorPart31
import Derived.Test.YtbkagahmiibclaaGreatDoorPart00
import Derived.Test.YtbkagahmiibclaaGreatDoorPart30
import Derived.Test.YtbkagahmiibclaaGreatDoorPart19
import Derived.Test.YtbkagahmiibclaaGreatDoorPart24
import Derived.Deep.RegionWith
namespace Go.Proofs.YtbkagahmiibclaaGreatDoor
open Go Go.RowKit

theorem func_ne (F : FuncId) (R : Nat) (w : World) : Sem.run Tryz.prog (binOp BinOp.neq 105 (.func (.func F) #[.pointer (some ⟨R, 0, none⟩)] #[]) .nilFunc) w = .ok (.bool true) w := by kernel_rfl
theorem func_nil (w : World) : Sem.run Tryz.prog (binOp BinOp.neq 105 .nilFunc .nilFunc) w = .ok (.bool false) w := by kernel_rfl

theorem bv_lt (s : ByteArray) (a : Nat) : bv s a < 256 := by
  unfold bv
  split
  · exact UInt8.toNat_lt _
  · omega

theorem MEnd.out {O : Option (Tr × List UInt8 × Int)} {w W w' : World} {R : Nat} {s : ByteArray} {L : Int} {e : Ending} (h : MEnd O W R s L e w') (hb : But R w W) : MEnd O w R s L e w' := by
  obtain ⟨h1, h2⟩ := h
  refine ⟨hb.trans h1, ?_⟩
  rcases h2 with ⟨t, a2, q, v, g1, g2, g3, g4, g5⟩ | h2
  · exact Or.inl ⟨t, a2, q, v, g1, g2, g3, SRep.carry (fun _ _ => rfl) (fun b hb' => ⟨by have := hb.size; omega, hb'.2⟩) _ _ g4, g5⟩
  · exact Or.inr h2

set_option maxRecDepth 100000 in
set_option maxHeartbeats 1600000 in
theorem tree_go (F : FuncId) (O : Option (Tr × List UInt8 × Int)) (L : Int) (w : World) (R : Nat) (s : ByteArray) (a : Nat) (p : Int) (h : TR w R s a p L) (ha : a ≤ s.size) (hp0 : 0 ≤ p) (hp1 : p + 1 ≤ 120) (hL0 : 0 ≤ L) (hL1 : L + 1 ≤ 6)
    (hsrt : srt R (bv s a) = .func (.func F) #[.pointer (some ⟨R, 0, none⟩)] #[]) (hent : ∀ W, Sem.run Tryz.prog (callFunc F #[.pointer (some ⟨R, 0, none⟩)]) W = .ok (.enter F #[.pointer (some ⟨R, 0, none⟩)]) W)
    (hcall : ∀ W, TR W R s a (p + 1) (L + 1) → But R w W → Calls Tryz.prog F #[.pointer (some ⟨R, 0, none⟩)] W fun e w' => MEnd O W R s (L + 1) e w') :
    Calls Tryz.prog 75 #[.pointer (some ⟨R, 0, none⟩)] w fun e w' => MEnd O w R s L e w' := by
  have htr1 := h.set2 (p + 1) (L + 1)
  have hbut1 : But R w ((w.setCell ⟨R, 0, none⟩ (.int .i64 (p + 1))).setCell ⟨R, 1, none⟩ (.int .i64 (L + 1))) := (But.set w 0 _).trans (But.set _ 1 _)
  have hen := enter_yes R p L w h.bnd hp0 hL0 hp1 hL1
  have hlt := h.lt
  have hne := func_ne F R
  generalize ((w.setCell ⟨R, 0, none⟩ (.int .i64 (p + 1))).setCell ⟨R, 1, none⟩ (.int .i64 (L + 1))) = W1 at *
  have hcell := htr1.tab (bv s a) (bv_lt s a)
  rw [hsrt] at hcell
  have HNX := hide (fun n => xnext_any (W1.drewN n) R 2 s a (htr1.tx.drewN n) ha)
  have hbv := bv_lt s a
  have HEN := hide hen; have HTR1 := hide htr1; have HB1 := hide hbut1
  have hcall2 := fun n => hcall (W1.drewN n) (htr1.drewN n) (but_drewN hbut1 n)
  have HCALL := hide hcall2
  generalize bv s a = v at *
  clear hen htr1 hbut1 hcall hcall2 hsrt h
  go_enter Tryz.func75, Tryz.ntmps75
  go_wp2_with (go_at_call 110; refine (unhide HEN).mono ?_; rintro e w2 ⟨rfl, rfl⟩)
  go_quiet ((go_at_call 111; exact Calls.quiet_of (unhide HNX _)))
  go_wp2_with (go_at_call 68; refine (treeWant_yes _).mono ?_; rintro e w3 ⟨rfl, rfl⟩)
  refine (unhide HCALL _).mono ?_
  rintro e w4 ⟨hb4, ⟨t, a2, q, v4, g1, g2, rfl, g4, g5, g6, g7⟩ | ⟨g1, rfl⟩⟩
  · obtain ⟨T, x, rfl⟩ := g4.iface
    have hbb : But R w w4 := (but_drewN (unhide HB1) nq).trans hb4
    have hs1 := (unhide HB1).size
    have HLV := hide (leave_any R q (L + 1) w4 g5.bnd (by omega) (by omega))
    have hfin : MEnd O w R s L (.returned (.iface T x)) (w4.setCell ⟨R, 1, none⟩ (.int .i64 L)) := by
      refine MEnd.yes (t := t) (a2 := a2) (q := q) g1 g2 (hbb.trans (But.set _ 1 _)) (SRep.carry (fun b hb => Below.heap_setCell _ _ _ _ (by have := hb.1; simp at this; show b ≠ R; omega)) (fun b hb => ⟨by have := hb.1; simp at this; omega, by rw [World.size_setCell]; exact hb.2⟩) _ _ g4) ?_ g6 g7
      exact g5.set1 L
    have HFIN := hide hfin
    clear hfin hbb g1 g4 g5 hb4 HCALL hne hcell
    go_wp2_with (go_at_call 112; refine (unhide HLV).mono ?_; rintro e w5 ⟨rfl, rfl⟩)
    go_ret
    exact unhide HFIN
  · have HFIN := hide (MEnd.no (o := O) (s := s) (l := L) g1 ((but_drewN (unhide HB1) nq).trans hb4))
    clear g1 hb4 HCALL hne hcell
    go_wp2_with fail
    exact ⟨rfl, unhide HFIN⟩

set_option maxRecDepth 100000 in
set_option maxHeartbeats 1600000 in
theorem tree_nil (L : Int) (w : World) (R : Nat) (s : ByteArray) (a : Nat) (p : Int) (h : TR w R s a p L) (ha : a ≤ s.size) (hp0 : 0 ≤ p) (hp1 : p + 1 ≤ 120) (hL0 : 0 ≤ L) (hL1 : L + 1 ≤ 6) (hsrt : srt R (bv s a) = .nilFunc) :
    Calls Tryz.prog 75 #[.pointer (some ⟨R, 0, none⟩)] w fun e w' => MEnd none w R s L e w' := by
  have htr1 := h.set2 (p + 1) (L + 1)
  have hbut1 : But R w ((w.setCell ⟨R, 0, none⟩ (.int .i64 (p + 1))).setCell ⟨R, 1, none⟩ (.int .i64 (L + 1))) := (But.set w 0 _).trans (But.set _ 1 _)
  have hen := enter_yes R p L w h.bnd hp0 hL0 hp1 hL1
  have hne := func_nil
  generalize ((w.setCell ⟨R, 0, none⟩ (.int .i64 (p + 1))).setCell ⟨R, 1, none⟩ (.int .i64 (L + 1))) = W1 at *
  have hcell := htr1.tab (bv s a) (bv_lt s a)
  rw [hsrt] at hcell
  have HNX := hide (fun n => xnext_any (W1.drewN n) R 2 s a (htr1.tx.drewN n) ha)
  have hbv := bv_lt s a
  have HEN := hide hen; have HB1 := hide hbut1
  generalize bv s a = v at *
  clear hen htr1 hbut1 hsrt h
  go_enter Tryz.func75, Tryz.ntmps75
  go_wp2_with (go_at_call 110; refine (unhide HEN).mono ?_; rintro e w2 ⟨rfl, rfl⟩)
  go_quiet ((go_at_call 111; exact Calls.quiet_of (unhide HNX _)))
  go_wp2_with (go_at_call 68; refine (treeWant_no _).mono ?_; rintro e w3 ⟨rfl, rfl⟩)
  exact ⟨rfl, MEnd.no rfl (but_drewN (unhide HB1) _)⟩

set_option maxHeartbeats 800000 in
theorem tree_out (O : Option (Tr × List UInt8 × Int)) (hO : O = none) (L : Int) (w : World) (R : Nat) (s : ByteArray) (a : Nat) (p : Int) (h : TR w R s a p L) (hp0 : 0 ≤ p) (hp1 : p ≤ 120) (hL0 : 0 ≤ L) (hL1 : L ≤ 6) (hno : ¬ (p + 1 ≤ 120 ∧ L + 1 ≤ 6)) :
    Calls Tryz.prog 75 #[.pointer (some ⟨R, 0, none⟩)] w fun e w' => MEnd O w R s L e w' := by
  have HEN := hide (enter_no R p L w h.bnd hp0 hL0 hp1 hL1 hno)
  clear h hno
  go_enter Tryz.func75, Tryz.ntmps75
  go_wp2_with (go_at_call 110; refine (unhide HEN).mono ?_; rintro e w2 ⟨rfl, rfl⟩)
  exact ⟨rfl, MEnd.no hO ((But.set w 0 _).trans (But.set _ 1 _))⟩

theorem head_bv {s : ByteArray} {a : Nat} {c : UInt8} (h : (lf s a).head? = some c) : bv s a = c.toNat := by
  have hlt := lf_room h
  rw [lf_cons (show a < s.size by omega)] at h
  simp only [List.head?_cons, Option.some.injEq] at h
  unfold bv
  rw [dif_pos (show a < s.size by omega), h]

theorem treeR_step (d : Nat) (hd : d + 1 ≤ 6) (IH : TSaid d) : TSaid (d + 1) := by
  intro w R s a p hs h ha hE hR hp0 hp1
  have e6 : (6 : Int) - ((d + 1 : Nat) : Int) + 1 = 6 - d := by omega
  have hL0 : (0 : Int) ≤ 6 - ((d + 1 : Nat) : Int) := by omega
  have hL1 : (6 : Int) - ((d + 1 : Nat) : Int) + 1 ≤ 6 := by omega
  by_cases hpp : 120 < p + 1
  · exact tree_out _ (by rw [rdT, if_pos hpp]) _ w R s a p h hp0 hp1 hL0 (by omega) (by omega)
  have hp2 : p + 1 ≤ 120 := by omega
  cases hh : (lf s a).head? with
  | none =>
    have h0 : bv s a = 0 := by
      unfold bv
      by_cases hlt : a < s.size
      · rw [lf_cons hlt] at hh; simp at hh
      · rw [dif_neg hlt]
    have hr : rdT (d + 1) (lf s a) p = none := by rw [rdT, if_neg hpp, hh]
    rw [hr]
    exact tree_nil _ w R s a p h ha hp0 hp2 hL0 hL1 (by rw [h0]; simp [srt])
  | some c =>
    have hb := head_bv hh
    have hc256 := UInt8.toNat_lt c
    have hcn : ∀ k : UInt8, c.toNat = k.toNat → c = k := fun k e => UInt8.toNat_inj.1 e
    have hdg : isDg c = true ↔ (48 ≤ c.toNat ∧ c.toNat ≤ 57) := by unfold isDg; simp
    have hrd : rdT (d + 1) (lf s a) p = if isDg c = true ∨ c = 45 then numO (lf s a) (p + 1) else if c = 34 then quoO (lf s a) (p + 1) else if c = 121 ∨ c = 110 then flgO (lf s a) (p + 1) else if c = 91 then lstO d (lf s a) (p + 1) else if c = 123 then frmO d (lf s a) (p + 1) else if c = 126 ∨ c = 63 then mybO d (lf s a) (p + 1) else none := by
      rw [rdT, if_neg hpp, hh]
      simp only
      by_cases c1 : isDg c = true ∨ c = 45
      · rw [if_pos c1, if_pos c1]; rfl
      rw [if_neg c1, if_neg c1]
      by_cases c2 : c = 34
      · rw [if_pos c2, if_pos c2]; rfl
      rw [if_neg c2, if_neg c2]
      by_cases c3 : c = 121 ∨ c = 110
      · rw [if_pos c3, if_pos c3]; rfl
      rw [if_neg c3, if_neg c3]
      by_cases c4 : c = 91
      · rw [if_pos c4, if_pos c4]; unfold lstO
        rcases lp (rdT d) false 93 ((lf s a).length + 1) [] [] (lf s a).tail (p + 1) with _ | ⟨ns, ks, rest, q⟩ <;> rfl
      rw [if_neg c4, if_neg c4]
      by_cases c5 : c = 123
      · rw [if_pos c5, if_pos c5]; unfold frmO
        rcases lp (rdT d) true 125 ((lf s a).length + 1) [] [] (lf s a).tail (p + 1) with _ | ⟨ns, ks, rest, q⟩ <;> rfl
      rw [if_neg c5, if_neg c5]
      unfold mybO
      rw [hh]
      by_cases c6 : c = 126
      · rw [if_pos c6, if_pos (Or.inl c6), if_pos (by rw [c6])]
      rw [if_neg c6]
      by_cases c7 : c = 63
      · rw [if_pos c7, if_pos (Or.inr c7), if_neg (by simpa using c6)]
        rcases rdT d (lf s a).tail (p + 1) with _ | ⟨t, rest, q⟩ <;> rfl
      rw [if_neg c7, if_neg (by rintro (h | h); exact c6 h; exact c7 h)]
    rw [hrd]
    by_cases c1 : isDg c = true ∨ c = 45
    · rw [if_pos c1]
      refine tree_go 98 _ _ w R s a p h ha hp0 hp2 hL0 hL1 ?_ (fun W => enters_of Tryz.func98 (by kernel_rfl) rfl _ W) (fun W hW hB => ?_)
      · rw [hb]; unfold srt
        rw [if_pos (c1.elim (fun h => Or.inl (hdg.1 h)) (fun h => Or.inr (by rw [h]; rfl)))]
      · rw [e6] at hW ⊢
        exact num_walk W R s a (p + 1) (6 - d) hs hW ha (hE.but hB hR) hR (by omega) hp2
    have s1 : ¬ ((48 ≤ c.toNat ∧ c.toNat ≤ 57) ∨ c.toNat = 45) := fun h => c1 (h.elim (fun h => Or.inl (hdg.2 h)) (fun h => Or.inr (hcn 45 h)))
    rw [if_neg c1]
    by_cases c2 : c = 34
    · rw [if_pos c2]
      refine tree_go 99 _ _ w R s a p h ha hp0 hp2 hL0 hL1 ?_ (fun W => enters_of Tryz.func99 (by kernel_rfl) rfl _ W) (fun W hW hB => ?_)
      · rw [hb, c2]; rfl
      · rw [e6] at hW ⊢
        exact quoted_walk W R s a (p + 1) (6 - d) hs hW (by rw [hh, c2]) (by omega) hp2
    rw [if_neg c2]
    by_cases c3 : c = 121 ∨ c = 110
    · rw [if_pos c3]
      refine tree_go 100 _ _ w R s a p h ha hp0 hp2 hL0 hL1 ?_ (fun W => enters_of Tryz.func100 (by kernel_rfl) rfl _ W) (fun W hW hB => ?_)
      · rw [hb]; rcases c3 with rfl | rfl <;> rfl
      · rw [e6] at hW ⊢
        exact flag_walk W R s a (p + 1) (6 - d) hs hW ha (by omega) hp2
    rw [if_neg c3]
    by_cases c4 : c = 91
    · rw [if_pos c4]
      refine tree_go 101 _ _ w R s a p h ha hp0 hp2 hL0 hL1 ?_ (fun W => enters_of Tryz.func101 (by kernel_rfl) rfl _ W) (fun W hW hB => ?_)
      · rw [hb, c4]; rfl
      · rw [e6] at hW ⊢
        exact list_walk d (by omega) IH W R s a (p + 1) hs hW (by rw [hh, c4]) (hE.but hB hR) hR (by omega) hp2
    rw [if_neg c4]
    by_cases c5 : c = 123
    · rw [if_pos c5]
      refine tree_go 102 _ _ w R s a p h ha hp0 hp2 hL0 hL1 ?_ (fun W => enters_of Tryz.func102 (by kernel_rfl) rfl _ W) (fun W hW hB => ?_)
      · rw [hb, c5]; rfl
      · rw [e6] at hW ⊢
        exact form_walk d (by omega) IH W R s a (p + 1) hs hW (by rw [hh, c5]) (hE.but hB hR) hR (by omega) hp2
    rw [if_neg c5]
    by_cases c6 : c = 126 ∨ c = 63
    · rw [if_pos c6]
      refine tree_go 103 _ _ w R s a p h ha hp0 hp2 hL0 hL1 ?_ (fun W => enters_of Tryz.func103 (by kernel_rfl) rfl _ W) (fun W hW hB => ?_)
      · rw [hb]; rcases c6 with rfl | rfl <;> rfl
      · rw [e6] at hW ⊢
        exact maybe_walk d IH W R s a (p + 1) hs hW (c6.elim (fun h => Or.inl (by rw [hh, h])) (fun h => Or.inr (by rw [hh, h]))) (hE.but hB hR) hR (by omega) hp2
    rw [if_neg c6]
    refine tree_nil _ w R s a p h ha hp0 hp2 hL0 hL1 ?_
    rw [hb]; unfold srt
    have s2 : ¬ c.toNat = 34 := fun h => c2 (hcn 34 h)
    have s3 : ¬ (c.toNat = 121 ∨ c.toNat = 110) := fun h => c3 (h.elim (fun h => Or.inl (hcn 121 h)) (fun h => Or.inr (hcn 110 h)))
    have s4 : ¬ c.toNat = 91 := fun h => c4 (hcn 91 h)
    have s5 : ¬ c.toNat = 123 := fun h => c5 (hcn 123 h)
    have s6 : ¬ (c.toNat = 126 ∨ c.toNat = 63) := fun h => c6 (h.elim (fun h => Or.inl (hcn 126 h)) (fun h => Or.inr (hcn 63 h)))
    rw [if_neg s1, if_neg s2, if_neg s3, if_neg s4, if_neg s5, if_neg s6]

theorem tree_zero : TSaid 0 := by
  intro w R s a p hs h ha hE hR hp0 hp1
  exact tree_out _ (by rw [rdT]) _ w R s a p h hp0 hp1 (by omega) (by omega) (by omega)

theorem treeR_all : ∀ d, d ≤ 6 → TSaid d
  | 0, _ => tree_zero
  | d + 1, h => treeR_step d h (treeR_all d (by omega))
end Go.Proofs.YtbkagahmiibclaaGreatDoor

/- Five stores into a box of a tree. No program, no conditions. -/

namespace Go.Proofs.YtbkagahmiibclaaGreatDoor
open Go Go.RowKit

/-- Five stores into a box. -/
def set5 (W : World) (B : Nat) (c : C5) : World := ((((W.setCell ⟨B, 0, none⟩ c.c0).setCell ⟨B, 1, none⟩ c.c1).setCell ⟨B, 2, none⟩ c.c2).setCell ⟨B, 3, none⟩ c.c3).setCell ⟨B, 4, none⟩ c.c4
theorem set5_heap (W : World) (B : Nat) (c : C5) (b : Nat) (h : b ≠ B) : (set5 W B c).heap[b]? = W.heap[b]? := by
  unfold set5
  rw [Below.heap_setCell _ _ _ _ h, Below.heap_setCell _ _ _ _ h, Below.heap_setCell _ _ _ _ h, Below.heap_setCell _ _ _ _ h, Below.heap_setCell _ _ _ _ h]
theorem set5_size (W : World) (B : Nat) (c : C5) : (set5 W B c).heap.size = W.heap.size := by unfold set5; simp
theorem below_set5 {N : Nat} {w W : World} (h : Below N w W) (B : Nat) (c : C5) (hB : N ≤ B) : Below N w (set5 W B c) := ((((h.setCell (p := ⟨B, 0, none⟩) hB _).setCell (p := ⟨B, 1, none⟩) hB _).setCell (p := ⟨B, 2, none⟩) hB _).setCell (p := ⟨B, 3, none⟩) hB _).setCell (p := ⟨B, 4, none⟩) hB _
end Go.Proofs.YtbkagahmiibclaaGreatDoor

/- The walks of the program's plainTree and plainTrees: the tree, in blocks of its own. Of what was there nothing has turned. For trees that are ok. -/

namespace Go.Proofs.YtbkagahmiibclaaGreatDoor
open Go Go.RowKit

theorem Own.leafT (w : World) (s n : Int) (tx : ByteArray) (hs : I64 s) (hn : I64 n) (ht : tx.size ≤ 9223372036854775807) : Own w (.mk s n tx [] []) ⟨.int .i64 s, .int .i64 n, .string tx, .slice none 0 0, .slice none 0 0⟩ [] :=
  Own.make (t := .mk s n tx [] []) (F1 := []) (F2 := []) rfl rfl rfl hs hn ht ⟨none, 0, rfl, by simp [Tr.names], Or.inl ⟨rfl, rfl⟩⟩ ⟨none, 0, rfl, by simp [Tr.kids], Or.inl ⟨rfl, rfl⟩⟩

/-- What plainTree comes to. -/
def PlEnd (t : Tr) (w : World) (e : Ending) (w' : World) : Prop := ∃ (c : C5) (F : List Nat), e = .returned (.agg #[c.c0, c.c1, c.c2, c.c3, c.c4]) ∧ Own w' t c F ∧ F.Nodup ∧ (∀ b, b ∈ F → w.heap.size ≤ b ∧ b < w'.heap.size) ∧ Below w.heap.size w w'
/-- What plainTrees comes to. -/
def PksEnd (ks : List Tr) (w : World) (e : Ending) (w' : World) : Prop := ∃ (a : Option Addr) (cap : Nat) (F : List Nat), e = .returned (.slice a ks.length cap) ∧ KidsOwn w' (.slice a ks.length cap) ks F ∧ F.Nodup ∧ (∀ b, b ∈ F → w.heap.size ≤ b ∧ b < w'.heap.size) ∧ Below w.heap.size w w'

theorem box_cells {w w2 : World} {o : Obj} (h : o = .cells #[.int .i64 0, .int .i64 0, .string ⟨#[]⟩, .slice none 0 0, .slice none 0 0] 26) (hb : w2.heap[w.heap.size]? = (w.alloc o).heap[w.heap.size]?) :
    w2.rowIs w.heap.size 26 5 (row5 (.int .i64 0) (.int .i64 0) (.string ⟨#[]⟩) (.slice none 0 0) (.slice none 0 0)) := by
  subst h
  exact (row5_alloc w _ _ _ _ _ _).of_block hb

theorem fin_own {t : Tr} {w W : World} {c : C5} {F : List Nat} (h : Own W t c F) (hn : F.Nodup) (hF : ∀ b, b ∈ F → w.heap.size < b ∧ b < W.heap.size) (hb : Below w.heap.size w W) : PlEnd t w (.returned (.agg #[c.c0, c.c1, c.c2, c.c3, c.c4])) (set5 W w.heap.size c) :=
  ⟨c, F, rfl, Own.carry t c F (fun b hb' => set5_heap _ _ _ _ (by have := (hF b hb').1; omega)) h, hn, fun b hb' => by rw [set5_size]; have := hF b hb'; omega, below_set5 hb _ _ (Nat.le_refl _)⟩

set_option maxRecDepth 100000 in
set_option maxHeartbeats 800000 in
theorem plain_1 (n : Int) (hn : -999999999 ≤ n ∧ n ≤ 999999999) (w : World) : Calls Tryz.prog 74 #[.iface 132 (.int .i64 n)] w fun e w' => PlEnd (.mk 1 n ByteArray.empty [] []) w e w' := by
  have hta0 : ∀ w, Sem.run Tryz.prog (Instr.typeAssert (.iface 132 (.int .i64 n)) 94 132 true) w = .ok (.tuple #[.int .i64 n, .bool true]) w := fun _ => by kernel_rfl
  go_enter Tryz.func74, Tryz.ntmps74
  go_wp2_with fail
  refine bodyPost_ret (v := .agg #[.int .i64 1, .int .i64 n, .string ByteArray.empty, .slice none 0 0, .slice none 0 0]) (by simp [results, Tryz.results74, go_sem]; rfl) rfl ?_
  exact ⟨⟨_, _, _, _, _⟩, [], rfl, Own.leafT _ 1 n ByteArray.empty ⟨by decide, by decide⟩ ⟨by omega, by omega⟩ (by simp), List.nodup_nil, fun b hb => by simp at hb, (Below.refl _ _).alloc (Nat.le_refl _) _⟩
set_option maxRecDepth 100000 in
set_option maxHeartbeats 800000 in
theorem plain_2 (x : ByteArray) (hx : x.size ≤ 1048576) (w : World) : Calls Tryz.prog 74 #[.iface 133 (.string x)] w fun e w' => PlEnd (.mk 2 0 x [] []) w e w' := by
  have hta0 : ∀ w, Sem.run Tryz.prog (Instr.typeAssert (.iface 133 (.string x)) 94 132 true) w = .ok (.tuple #[.int .i64 0, .bool false]) w := fun _ => by kernel_rfl
  have hta1 : ∀ w, Sem.run Tryz.prog (Instr.typeAssert (.iface 133 (.string x)) 94 133 true) w = .ok (.tuple #[.string x, .bool true]) w := fun _ => by kernel_rfl
  have HC := hide (fun W => clone_any x W (by omega))
  go_enter Tryz.func74, Tryz.ntmps74
  go_wp2_with fail
  refine (unhide HC _).mono ?_
  rintro e w2 ⟨rfl, hb2⟩
  have r2 := box_cells (w := w) rfl (hb2.block _ (by simp))
  have y0 := r2.cell (i := 0) (by omega); have y1 := r2.cell (i := 1) (by omega); have y2 := r2.cell (i := 2) (by omega); have y3 := r2.cell (i := 3) (by omega); have y4 := r2.cell (i := 4) (by omega)
  have z0 := r2.frozen 0; have z1 := r2.frozen 1; have z2 := r2.frozen 2; have z3 := r2.frozen 3; have z4 := r2.frozen 4
  simp only [row5] at y0 y1 y2 y3 y4
  have HB2 := hide ((Below.refl w.heap.size w).alloc (Nat.le_refl _) _ |>.trans (hb2.mono (by simp)))
  clear hb2 HC r2
  go_wp2_with fail
  refine bodyPost_ret (v := .agg #[.int .i64 2, .int .i64 0, .string x, .slice none 0 0, .slice none 0 0]) (by simp [results, Tryz.results74, go_sem, y0, y1, y2, y3, y4]) rfl ?_
  exact fin_own (c := ⟨_, _, _, _, _⟩) (Own.leafT _ 2 0 x ⟨by decide, by decide⟩ ⟨by decide, by decide⟩ (by omega)) List.nodup_nil (fun b hb => by simp at hb) (unhide HB2)
set_option maxRecDepth 100000 in
set_option maxHeartbeats 800000 in
theorem plain_3a  (w : World) : Calls Tryz.prog 74 #[.iface 134 (.bool true)] w fun e w' => PlEnd (.mk 3 1 ByteArray.empty [] []) w e w' := by
  have hta0 : ∀ w, Sem.run Tryz.prog (Instr.typeAssert (.iface 134 (.bool true)) 94 132 true) w = .ok (.tuple #[.int .i64 0, .bool false]) w := fun _ => by kernel_rfl
  have hta1 : ∀ w, Sem.run Tryz.prog (Instr.typeAssert (.iface 134 (.bool true)) 94 133 true) w = .ok (.tuple #[.string ByteArray.empty, .bool false]) w := fun _ => by kernel_rfl
  have hta2 : ∀ w, Sem.run Tryz.prog (Instr.typeAssert (.iface 134 (.bool true)) 94 134 true) w = .ok (.tuple #[.bool true, .bool true]) w := fun _ => by kernel_rfl
  go_enter Tryz.func74, Tryz.ntmps74
  go_wp2_with fail
  refine bodyPost_ret (v := .agg #[.int .i64 3, .int .i64 1, .string ByteArray.empty, .slice none 0 0, .slice none 0 0]) (by simp [results, Tryz.results74, go_sem]; rfl) rfl ?_
  exact ⟨⟨_, _, _, _, _⟩, [], rfl, Own.leafT _ 3 1 ByteArray.empty ⟨by decide, by decide⟩ ⟨by decide, by decide⟩ (by simp), List.nodup_nil, fun b hb => by simp at hb, (Below.refl _ _).alloc (Nat.le_refl _) _⟩
set_option maxRecDepth 100000 in
set_option maxHeartbeats 800000 in
theorem plain_3b  (w : World) : Calls Tryz.prog 74 #[.iface 134 (.bool false)] w fun e w' => PlEnd (.mk 3 0 ByteArray.empty [] []) w e w' := by
  have hta0 : ∀ w, Sem.run Tryz.prog (Instr.typeAssert (.iface 134 (.bool false)) 94 132 true) w = .ok (.tuple #[.int .i64 0, .bool false]) w := fun _ => by kernel_rfl
  have hta1 : ∀ w, Sem.run Tryz.prog (Instr.typeAssert (.iface 134 (.bool false)) 94 133 true) w = .ok (.tuple #[.string ByteArray.empty, .bool false]) w := fun _ => by kernel_rfl
  have hta2 : ∀ w, Sem.run Tryz.prog (Instr.typeAssert (.iface 134 (.bool false)) 94 134 true) w = .ok (.tuple #[.bool false, .bool true]) w := fun _ => by kernel_rfl
  go_enter Tryz.func74, Tryz.ntmps74
  go_wp2_with fail
  refine bodyPost_ret (v := .agg #[.int .i64 3, .int .i64 0, .string ByteArray.empty, .slice none 0 0, .slice none 0 0]) (by simp [results, Tryz.results74, go_sem]; rfl) rfl ?_
  exact ⟨⟨_, _, _, _, _⟩, [], rfl, Own.leafT _ 3 0 ByteArray.empty ⟨by decide, by decide⟩ ⟨by decide, by decide⟩ (by simp), List.nodup_nil, fun b hb => by simp at hb, (Below.refl _ _).alloc (Nat.le_refl _) _⟩
set_option maxRecDepth 100000 in
set_option maxHeartbeats 800000 in
theorem plain_4 (a : Option Addr) (cap : Nat) (ks : List Tr) (w : World) (hks : ∀ o, Calls Tryz.prog 108 #[.slice a ks.length cap] (w.alloc o) fun e w' => PksEnd ks (w.alloc o) e w') : Calls Tryz.prog 74 #[.iface 136 (.slice a ks.length cap)] w fun e w' => PlEnd (.mk 4 0 ByteArray.empty [] ks) w e w' := by
  have hta0 : ∀ w, Sem.run Tryz.prog (Instr.typeAssert (.iface 136 (.slice a ks.length cap)) 94 132 true) w = .ok (.tuple #[.int .i64 0, .bool false]) w := fun _ => by kernel_rfl
  have hta1 : ∀ w, Sem.run Tryz.prog (Instr.typeAssert (.iface 136 (.slice a ks.length cap)) 94 133 true) w = .ok (.tuple #[.string ByteArray.empty, .bool false]) w := fun _ => by kernel_rfl
  have hta2 : ∀ w, Sem.run Tryz.prog (Instr.typeAssert (.iface 136 (.slice a ks.length cap)) 94 134 true) w = .ok (.tuple #[.bool false, .bool false]) w := fun _ => by kernel_rfl
  have hta3 : ∀ w, Sem.run Tryz.prog (Instr.typeAssert (.iface 136 (.slice a ks.length cap)) 94 136 true) w = .ok (.tuple #[.slice a ks.length cap, .bool true]) w := fun _ => by kernel_rfl
  have HKS := hide hks
  clear hks
  go_enter Tryz.func74, Tryz.ntmps74
  go_wp2_with fail
  refine (unhide HKS _).mono ?_
  rintro e w2 ⟨a2, cap2, F, rfl, hko, hnd, hF, hb2⟩
  have r2 := box_cells (w := w) rfl (hb2.block _ (by simp))
  have y0 := r2.cell (i := 0) (by omega); have y1 := r2.cell (i := 1) (by omega); have y2 := r2.cell (i := 2) (by omega); have y3 := r2.cell (i := 3) (by omega); have y4 := r2.cell (i := 4) (by omega)
  have z0 := r2.frozen 0; have z1 := r2.frozen 1; have z2 := r2.frozen 2; have z3 := r2.frozen 3; have z4 := r2.frozen 4
  simp only [row5] at y0 y1 y2 y3 y4
  have HB2 := hide ((Below.refl w.heap.size w).alloc (Nat.le_refl _) _ |>.trans (hb2.mono (by simp)))
  have HKO := hide hko; have HF := hide hF
  clear hb2 HKS r2 hko hF
  go_wp2_with fail
  refine bodyPost_ret (v := .agg #[.int .i64 4, .int .i64 0, .string ByteArray.empty, .slice none 0 0, .slice a2 ks.length cap2]) (by simp [results, Tryz.results74, go_sem, y0, y1, y2, y3, y4]; rfl) rfl ?_
  exact fin_own (c := ⟨_, _, _, _, _⟩) (F := [] ++ F) (Own.make (t := .mk 4 0 ByteArray.empty [] ks) rfl rfl rfl (show I64 4 from ⟨by decide, by decide⟩) (show I64 0 from ⟨by decide, by decide⟩) (by simp [Tr.text]) ⟨none, 0, rfl, by simp [Tr.names], Or.inl ⟨rfl, rfl⟩⟩ (unhide HKO)) hnd (fun b hb => by have := unhide HF b hb; simp at this; omega) (unhide HB2)
set_option maxRecDepth 100000 in
set_option maxHeartbeats 800000 in
theorem plain_6 (a : Option Addr) (cap : Nat) (ks : List Tr) (w : World) (hks : ∀ o, Calls Tryz.prog 108 #[.slice a ks.length cap] (w.alloc o) fun e w' => PksEnd ks (w.alloc o) e w') : Calls Tryz.prog 74 #[.iface 141 (.slice a ks.length cap)] w fun e w' => PlEnd (.mk 6 0 ByteArray.empty [] ks) w e w' := by
  have hta0 : ∀ w, Sem.run Tryz.prog (Instr.typeAssert (.iface 141 (.slice a ks.length cap)) 94 132 true) w = .ok (.tuple #[.int .i64 0, .bool false]) w := fun _ => by kernel_rfl
  have hta1 : ∀ w, Sem.run Tryz.prog (Instr.typeAssert (.iface 141 (.slice a ks.length cap)) 94 133 true) w = .ok (.tuple #[.string ByteArray.empty, .bool false]) w := fun _ => by kernel_rfl
  have hta2 : ∀ w, Sem.run Tryz.prog (Instr.typeAssert (.iface 141 (.slice a ks.length cap)) 94 134 true) w = .ok (.tuple #[.bool false, .bool false]) w := fun _ => by kernel_rfl
  have hta3 : ∀ w, Sem.run Tryz.prog (Instr.typeAssert (.iface 141 (.slice a ks.length cap)) 94 136 true) w = .ok (.tuple #[.slice none 0 0, .bool false]) w := fun _ => by kernel_rfl
  have hta4 : ∀ w, Sem.run Tryz.prog (Instr.typeAssert (.iface 141 (.slice a ks.length cap)) 94 139 true) w = .ok (.tuple #[.agg #[.slice none 0 0, .slice none 0 0], .bool false]) w := fun _ => by kernel_rfl
  have hta5 : ∀ w, Sem.run Tryz.prog (Instr.typeAssert (.iface 141 (.slice a ks.length cap)) 94 141 true) w = .ok (.tuple #[.slice a ks.length cap, .bool true]) w := fun _ => by kernel_rfl
  have HKS := hide hks
  clear hks
  go_enter Tryz.func74, Tryz.ntmps74
  go_wp2_with fail
  refine (unhide HKS _).mono ?_
  rintro e w2 ⟨a2, cap2, F, rfl, hko, hnd, hF, hb2⟩
  have r2 := box_cells (w := w) rfl (hb2.block _ (by simp))
  have y0 := r2.cell (i := 0) (by omega); have y1 := r2.cell (i := 1) (by omega); have y2 := r2.cell (i := 2) (by omega); have y3 := r2.cell (i := 3) (by omega); have y4 := r2.cell (i := 4) (by omega)
  have z0 := r2.frozen 0; have z1 := r2.frozen 1; have z2 := r2.frozen 2; have z3 := r2.frozen 3; have z4 := r2.frozen 4
  simp only [row5] at y0 y1 y2 y3 y4
  have HB2 := hide ((Below.refl w.heap.size w).alloc (Nat.le_refl _) _ |>.trans (hb2.mono (by simp)))
  have HKO := hide hko; have HF := hide hF
  clear hb2 HKS r2 hko hF
  go_wp2_with fail
  refine bodyPost_ret (v := .agg #[.int .i64 6, .int .i64 0, .string ByteArray.empty, .slice none 0 0, .slice a2 ks.length cap2]) (by simp [results, Tryz.results74, go_sem, y0, y1, y2, y3, y4]; rfl) rfl ?_
  exact fin_own (c := ⟨_, _, _, _, _⟩) (F := [] ++ F) (Own.make (t := .mk 6 0 ByteArray.empty [] ks) rfl rfl rfl (show I64 6 from ⟨by decide, by decide⟩) (show I64 0 from ⟨by decide, by decide⟩) (by simp [Tr.text]) ⟨none, 0, rfl, by simp [Tr.names], Or.inl ⟨rfl, rfl⟩⟩ (unhide HKO)) hnd (fun b hb => by have := unhide HF b hb; simp at this; omega) (unhide HB2)
end Go.Proofs.YtbkagahmiibclaaGreatDoor
