/- The walks of the program's ofItsSort and tree, sortTree, treeTry, TreeOk and TreeParts. The table treeFields is as the program lays it. -/
import Derived.Test.YtcpfelaffclalaaGreatDoorPart28
import Derived.Defers
import Derived.Recover
namespace Go.Proofs.YtcpfelaffclalaaGreatDoor
open Go Go.RowKit

/-- What ofItsSort comes to. -/
def ofS (t : Tr) (p l : Int) : Option Int := match wlkK t.kids p l with
  | none => none
  | some q => if newB t = true then some q else none

theorem wlk_of (t : Tr) (p l : Int) (h : p + 1 ≤ 120 ∧ l + 1 ≤ 6) (ho : ownB t = true) : wlk t p l = ofS t (p + 1) (l + 1) := by
  rw [wlk_eq, if_pos h, if_pos ho]; rfl

/-- What is said of ofItsSort behind its call. -/
def OfPost (P : Nat → Prop) (t : Tr) (B : Nat) (p l : Int) (w : World) (e : Ending) (w' : World) : Prop :=
  But B w w' ∧ ((∃ q v, ofS t p l = some q ∧ e = .returned v ∧ SRep (fun b => P b ∨ (w.heap.size ≤ b ∧ b < w'.heap.size)) w' t v ∧ Bnd w' B q l) ∨ (ofS t p l = none ∧ e = fltE))

theorem own_kids {t : Tr} (h : ownB t = true) (hs : t.sort = 1 ∨ t.sort = 2 ∨ t.sort = 3) : t.kids = [] := by
  unfold ownB at h
  apply List.eq_nil_of_length_eq_zero
  rcases hs with hs | hs | hs <;> · simp [hs] at h; simp [h]

set_option maxHeartbeats 800000 in
theorem ofIts_1 (t : Tr) (P : Nat → Prop) (c : C5) (w : World) (B : Nat) (p l : Int) (hrep : Rep P w t c) (hB : Bnd w B p l) (ho : ownB t = true) (hs : t.sort = 1) :
    Calls Tryz.prog 125 #[.pointer (some ⟨B, 0, none⟩), .agg #[c.c0, c.c1, c.c2, c.c3, c.c4]] w (OfPost P t B p l w) := by
  have hk := own_kids ho (Or.inl hs)
  have hof : ofS t p l = if newB t = true then some p else none := by unfold ofS; rw [hk, wlkK]
  have hnb : newB t = decide (-999999999 ≤ t.num ∧ t.num ≤ 999999999) := by unfold newB; rw [if_pos hs]
  obtain ⟨c0, c1, c2, c3, c4⟩ := c
  obtain ⟨e0, e1, e2, -, -, htx, ⟨a3, cap3, e3, hl3, -⟩, a, cap, e4, hlen, -⟩ := hrep.open
  simp only at e0 e1 e2 e3 e4
  subst e0 e1 e2 e3 e4
  have HOF := hide hof; have HNB := hide hnb; have HB := hide hB
  clear hrep hk hof hnb hB ho
  by_cases hr : -999999999 ≤ t.num ∧ t.num ≤ 999999999
  · have HR := hide hr
    clear hr
    go_enter Tryz.func125, Tryz.ntmps125
    go_wp2_with (go_at_call 135; refine (newNum_yes _ _ (unhide HR)).mono ?_; rintro e w' ⟨rfl, rfl⟩)
    go_ret
    refine ⟨But.alloc B w _, Or.inl ⟨p, _, ?_, rfl, srep1 hs, (unhide HB).alloc _⟩⟩
    rw [unhide HOF, if_pos (by rw [unhide HNB]; simpa using unhide HR)]
  · have HR := hide hr
    clear hr
    go_enter Tryz.func125, Tryz.ntmps125
    go_wp2_with (go_at_call 135; refine (newNum_no _ _ (unhide HR)).mono ?_; rintro e w' ⟨rfl, rfl⟩)
    refine ⟨rfl, But.alloc B w _, Or.inr ⟨?_, rfl⟩⟩
    rw [unhide HOF, if_neg (by rw [unhide HNB]; simpa using unhide HR)]
set_option maxHeartbeats 800000 in
theorem ofIts_2 (t : Tr) (P : Nat → Prop) (c : C5) (w : World) (B : Nat) (p l : Int) (hrep : Rep P w t c) (hB : Bnd w B p l) (ho : ownB t = true) (hs : t.sort = 2) :
    Calls Tryz.prog 125 #[.pointer (some ⟨B, 0, none⟩), .agg #[c.c0, c.c1, c.c2, c.c3, c.c4]] w (OfPost P t B p l w) := by
  have hk := own_kids ho (Or.inr (Or.inl hs))
  have hof : ofS t p l = if newB t = true then some p else none := by unfold ofS; rw [hk, wlkK]
  have hnb : newB t = textOkB t.text := by unfold newB; rw [if_neg (by omega), if_pos hs]
  obtain ⟨c0, c1, c2, c3, c4⟩ := c
  obtain ⟨e0, e1, e2, -, -, htx, ⟨a3, cap3, e3, hl3, -⟩, a, cap, e4, hlen, -⟩ := hrep.open
  simp only at e0 e1 e2 e3 e4
  subst e0 e1 e2 e3 e4
  have HOF := hide hof; have HNB := hide hnb; have HB := hide hB
  clear hrep hk hof hnb hB ho
  go_enter Tryz.func125, Tryz.ntmps125
  go_wp2_with fail
  refine (newText_any t.text _ htx).mono ?_
  rintro e w' ⟨⟨hok, rfl⟩ | ⟨hok, rfl⟩, rfl⟩
  · have HOK := hide hok; clear hok
    go_wp2_with fail
    go_ret
    refine ⟨But.alloc B w _, Or.inl ⟨p, _, ?_, rfl, srep2 hs, (unhide HB).alloc _⟩⟩
    rw [unhide HOF, if_pos (by rw [unhide HNB]; exact unhide HOK)]
  · have HOK := hide hok; clear hok
    go_wp2_with fail
    refine ⟨rfl, But.alloc B w _, Or.inr ⟨?_, rfl⟩⟩
    rw [unhide HOF, if_neg (by rw [unhide HNB, unhide HOK]; simp)]

set_option maxHeartbeats 800000 in
theorem ofIts_3 (t : Tr) (P : Nat → Prop) (c : C5) (w : World) (B : Nat) (p l : Int) (hrep : Rep P w t c) (hB : Bnd w B p l) (ho : ownB t = true) (hs : t.sort = 3) :
    Calls Tryz.prog 125 #[.pointer (some ⟨B, 0, none⟩), .agg #[c.c0, c.c1, c.c2, c.c3, c.c4]] w (OfPost P t B p l w) := by
  have hk := own_kids ho (Or.inr (Or.inr hs))
  have hof : ofS t p l = if newB t = true then some p else none := by unfold ofS; rw [hk, wlkK]
  have hnb : newB t = decide (0 ≤ t.num ∧ t.num ≤ 1) := by unfold newB; rw [if_neg (by omega), if_neg (by omega), if_pos hs]
  obtain ⟨c0, c1, c2, c3, c4⟩ := c
  obtain ⟨e0, e1, e2, -, -, htx, ⟨a3, cap3, e3, hl3, -⟩, a, cap, e4, hlen, -⟩ := hrep.open
  simp only at e0 e1 e2 e3 e4
  subst e0 e1 e2 e3 e4
  have HOF := hide hof; have HNB := hide hnb; have HB := hide hB
  clear hrep hk hof hnb hB ho
  by_cases hr : 0 ≤ t.num ∧ t.num ≤ 1
  · have HR := hide hr
    clear hr
    go_enter Tryz.func125, Tryz.ntmps125
    go_wp2_with (go_at_call 137; refine (newFlag_yes _ _ (unhide HR)).mono ?_; rintro e w' ⟨rfl, rfl⟩)
    go_ret
    refine ⟨But.alloc B w _, Or.inl ⟨p, _, ?_, rfl, srep3 hs, (unhide HB).alloc _⟩⟩
    rw [unhide HOF, if_pos (by rw [unhide HNB]; simpa using unhide HR)]
  · have HR := hide hr
    clear hr
    go_enter Tryz.func125, Tryz.ntmps125
    go_wp2_with (go_at_call 137; refine (newFlag_no _ _ (unhide HR)).mono ?_; rintro e w' ⟨rfl, rfl⟩)
    refine ⟨rfl, But.alloc B w _, Or.inr ⟨?_, rfl⟩⟩
    rw [unhide HOF, if_neg (by rw [unhide HNB]; simpa using unhide HR)]
set_option maxHeartbeats 800000 in
theorem ofIts_4 (n : Nat) (IH : TreeSaid n) (t : Tr) (hn : tsz t ≤ n) (P : Nat → Prop) (c : C5) (w : World) (B : Nat) (p l : Int) (hP : ∀ b, P b → b < w.heap.size ∧ b ≠ B) (hrep : Rep P w t c) (hB : Bnd w B p l) (hT : Tab w) (hB0 : 1 < B) (hp0 : 0 ≤ p) (hp1 : p ≤ 120) (hl0 : 0 ≤ l) (hl1 : l ≤ 6) (hs : t.sort = 4) :
    Calls Tryz.prog 125 #[.pointer (some ⟨B, 0, none⟩), .agg #[c.c0, c.c1, c.c2, c.c3, c.c4]] w (OfPost P t B p l w) := by
  have hnb : newB t = decide (t.kids.length ≤ 20) := by unfold newB; rw [if_neg (by omega), if_neg (by omega), if_neg (by omega), if_pos hs]
  obtain ⟨c0, c1, c2, c3, c4⟩ := c
  obtain ⟨e0, e1, e2, -, -, -, hns, a, cap, e4, hlen, hks⟩ := hrep.open
  simp only at e0 e1 e2 hns e4
  have HNS := hide hns
  obtain ⟨a3, cap3, e3, hl3, -⟩ := hns
  subst e0 e1 e2 e3 e4
  have htrees : ∀ o, Calls Tryz.prog 139 #[.pointer (some ⟨B, 0, none⟩), .slice a t.kids.length cap] (w.alloc o) fun e w' => But B (w.alloc o) w' ∧
      ((∃ q v, wlkK t.kids p l = some q ∧ e = .returned v ∧ SKids (fun b => P b ∨ (w.heap.size ≤ b ∧ b < w'.heap.size)) w' v t.kids ∧ Bnd w' B q l) ∨ (wlkK t.kids p l = none ∧ e = fltE)) := fun o =>
    (trees_any n IH t hn P a cap (w.alloc o) B p l (fun b hb => ⟨by have := (hP b hb).1; simp; omega, (hP b hb).2⟩) hlen (fun i hi => by
      obtain ⟨b, o2, c, h1, h2, h3, h4⟩ := hks i hi
      exact ⟨b, o2, c, h1, h2, h3.carry (Below.heap_alloc _ _ _ (hP b h2).1), Rep.carry (fun b hb => Below.heap_alloc _ _ _ (hP b hb).1) (fun _ h => h) _ _ h4⟩) (hB.alloc o) (hT.but (But.alloc B w o) hB0) hB0 hp0 hp1 hl0 hl1).mono
      fun e w' ⟨h1, h2⟩ => ⟨h1, h2.imp (fun ⟨q, v, g1, g2, g3, g4⟩ => ⟨q, v, g1, g2, g3.carry (fun _ _ => rfl) (fun b hb => hb.imp id (fun hb => ⟨by have := hb.1; simp at this; omega, hb.2⟩)), g4⟩) id⟩
  have HNB := hide hnb; have HTR := hide htrees; have HP := hide hP
  clear hrep hnb hB htrees hks hP IH hT
  go_enter Tryz.func125, Tryz.ntmps125
  go_wp2_with fail
  refine (unhide HTR _).mono ?_
  rintro e w' ⟨hbt, ⟨q, v, hwl, rfl, hk, hbnd⟩ | ⟨hwl, rfl⟩⟩
  · have hbt2 := (But.alloc B w _).trans hbt
    have HBT := hide hbt2; have HWL := hide hwl; have HK := hide hk; have HBN := hide hbnd
    obtain ⟨a', cap', rfl, -⟩ := hk
    clear hbt hbt2 hwl hbnd
    by_cases hr : t.kids.length ≤ 20
    · have HR := hide hr; clear hr
      go_wp2_with (go_at_call 138; refine (newList_yes _ _ _ _ (unhide HR)).mono ?_; rintro e w2 ⟨rfl, rfl⟩)
      go_ret
      refine ⟨unhide HBT, Or.inl ⟨q, _, ?_, rfl, srep4 hs (unhide HK), unhide HBN⟩⟩
      unfold ofS
      rw [unhide HWL]
      simp only
      rw [if_pos (by rw [unhide HNB]; simpa using unhide HR)]
    · have HR := hide hr; clear hr
      go_wp2_with (go_at_call 138; refine (newList_no _ _ _ _ (unhide HR)).mono ?_; rintro e w2 ⟨rfl, rfl⟩)
      refine ⟨rfl, unhide HBT, Or.inr ⟨?_, rfl⟩⟩
      unfold ofS
      rw [unhide HWL]
      simp only
      rw [if_neg (by rw [unhide HNB]; simpa using unhide HR)]
  · have hbt2 := (But.alloc B w _).trans hbt
    have HBT := hide hbt2; have HWL := hide hwl
    clear hbt hbt2 hwl
    go_wp2_with fail
    refine ⟨rfl, unhide HBT, Or.inr ⟨?_, rfl⟩⟩
    unfold ofS
    rw [unhide HWL]

set_option maxHeartbeats 800000 in
theorem ofIts_6 (n : Nat) (IH : TreeSaid n) (t : Tr) (hn : tsz t ≤ n) (P : Nat → Prop) (c : C5) (w : World) (B : Nat) (p l : Int) (hP : ∀ b, P b → b < w.heap.size ∧ b ≠ B) (hrep : Rep P w t c) (hB : Bnd w B p l) (hT : Tab w) (hB0 : 1 < B) (hp0 : 0 ≤ p) (hp1 : p ≤ 120) (hl0 : 0 ≤ l) (hl1 : l ≤ 6) (hs : t.sort = 6) :
    Calls Tryz.prog 125 #[.pointer (some ⟨B, 0, none⟩), .agg #[c.c0, c.c1, c.c2, c.c3, c.c4]] w (OfPost P t B p l w) := by
  have hnb : newB t = decide (t.kids.length ≤ 1) := by unfold newB; rw [if_neg (by omega), if_neg (by omega), if_neg (by omega), if_neg (by omega), if_neg (by omega), if_pos hs]
  obtain ⟨c0, c1, c2, c3, c4⟩ := c
  obtain ⟨e0, e1, e2, -, -, -, hns, a, cap, e4, hlen, hks⟩ := hrep.open
  simp only at e0 e1 e2 hns e4
  have HNS := hide hns
  obtain ⟨a3, cap3, e3, hl3, -⟩ := hns
  subst e0 e1 e2 e3 e4
  have htrees : ∀ o, Calls Tryz.prog 139 #[.pointer (some ⟨B, 0, none⟩), .slice a t.kids.length cap] (w.alloc o) fun e w' => But B (w.alloc o) w' ∧
      ((∃ q v, wlkK t.kids p l = some q ∧ e = .returned v ∧ SKids (fun b => P b ∨ (w.heap.size ≤ b ∧ b < w'.heap.size)) w' v t.kids ∧ Bnd w' B q l) ∨ (wlkK t.kids p l = none ∧ e = fltE)) := fun o =>
    (trees_any n IH t hn P a cap (w.alloc o) B p l (fun b hb => ⟨by have := (hP b hb).1; simp; omega, (hP b hb).2⟩) hlen (fun i hi => by
      obtain ⟨b, o2, c, h1, h2, h3, h4⟩ := hks i hi
      exact ⟨b, o2, c, h1, h2, h3.carry (Below.heap_alloc _ _ _ (hP b h2).1), Rep.carry (fun b hb => Below.heap_alloc _ _ _ (hP b hb).1) (fun _ h => h) _ _ h4⟩) (hB.alloc o) (hT.but (But.alloc B w o) hB0) hB0 hp0 hp1 hl0 hl1).mono
      fun e w' ⟨h1, h2⟩ => ⟨h1, h2.imp (fun ⟨q, v, g1, g2, g3, g4⟩ => ⟨q, v, g1, g2, g3.carry (fun _ _ => rfl) (fun b hb => hb.imp id (fun hb => ⟨by have := hb.1; simp at this; omega, hb.2⟩)), g4⟩) id⟩
  have HNB := hide hnb; have HTR := hide htrees; have HP := hide hP
  clear hrep hnb hB htrees hks hP IH hT
  go_enter Tryz.func125, Tryz.ntmps125
  go_wp2_with fail
  refine (unhide HTR _).mono ?_
  rintro e w' ⟨hbt, ⟨q, v, hwl, rfl, hk, hbnd⟩ | ⟨hwl, rfl⟩⟩
  · have hbt2 := (But.alloc B w _).trans hbt
    have HBT := hide hbt2; have HWL := hide hwl; have HK := hide hk; have HBN := hide hbnd
    obtain ⟨a', cap', rfl, -⟩ := hk
    clear hbt hbt2 hwl hbnd
    by_cases hr : t.kids.length ≤ 1
    · have HR := hide hr; clear hr
      go_wp2_with (go_at_call 141; refine (newMaybe_yes _ _ _ _ (unhide HR)).mono ?_; rintro e w2 ⟨rfl, rfl⟩)
      go_ret
      refine ⟨unhide HBT, Or.inl ⟨q, _, ?_, rfl, srep6 hs (unhide HK), unhide HBN⟩⟩
      unfold ofS
      rw [unhide HWL]
      simp only
      rw [if_pos (by rw [unhide HNB]; simpa using unhide HR)]
    · have HR := hide hr; clear hr
      go_wp2_with (go_at_call 141; refine (newMaybe_no _ _ _ _ (unhide HR)).mono ?_; rintro e w2 ⟨rfl, rfl⟩)
      refine ⟨rfl, unhide HBT, Or.inr ⟨?_, rfl⟩⟩
      unfold ofS
      rw [unhide HWL]
      simp only
      rw [if_neg (by rw [unhide HNB]; simpa using unhide HR)]
  · have hbt2 := (But.alloc B w _).trans hbt
    have HBT := hide hbt2; have HWL := hide hwl
    clear hbt hbt2 hwl
    go_wp2_with fail
    refine ⟨rfl, unhide HBT, Or.inr ⟨?_, rfl⟩⟩
    unfold ofS
    rw [unhide HWL]

set_option maxRecDepth 100000 in
set_option maxHeartbeats 800000 in
theorem ofIts_5 (n : Nat) (IH : TreeSaid n) (t : Tr) (hn : tsz t ≤ n) (P : Nat → Prop) (c : C5) (w : World) (B : Nat) (p l : Int) (hP : ∀ b, P b → b < w.heap.size ∧ b ≠ B) (hrep : Rep P w t c) (hB : Bnd w B p l) (hT : Tab w) (hB0 : 1 < B) (hp0 : 0 ≤ p) (hp1 : p ≤ 120) (hl0 : 0 ≤ l) (hl1 : l ≤ 6) (hs : t.sort = 5) :
    Calls Tryz.prog 125 #[.pointer (some ⟨B, 0, none⟩), .agg #[c.c0, c.c1, c.c2, c.c3, c.c4]] w (OfPost P t B p l w) := by
  have hnb : newB t = (decide (t.names.length = t.kids.length) && riseB t.names) := by unfold newB; rw [if_neg (by omega), if_neg (by omega), if_neg (by omega), if_neg (by omega), if_pos hs]
  obtain ⟨c0, c1, c2, c3, c4⟩ := c
  obtain ⟨e0, e1, e2, -, -, -, hns, a, cap, e4, hlen, hks⟩ := hrep.open
  simp only at e0 e1 e2 hns e4
  have HNS := hide hns
  obtain ⟨a3, cap3, e3, hl3, -⟩ := hns
  subst e0 e1 e2 e3 e4
  have hPd : ∀ o, ∀ b, P b → b < ((w.alloc o).drew).heap.size ∧ b ≠ B := fun o b hb => ⟨by have := (hP b hb).1; simp; omega, (hP b hb).2⟩
  have hbd : ∀ o, But B w ((w.alloc o).drew) := fun o => But.of_below ((Below.refl _ _).alloc (Nat.le_refl _) o).drew
  have htrees : ∀ o, Calls Tryz.prog 139 #[.pointer (some ⟨B, 0, none⟩), .slice a t.kids.length cap] ((w.alloc o).drew) fun e w' => But B ((w.alloc o).drew) w' ∧
      ((∃ q v, wlkK t.kids p l = some q ∧ e = .returned v ∧ SKids (fun b => P b ∨ (w.heap.size ≤ b ∧ b < w'.heap.size)) w' v t.kids ∧ Bnd w' B q l) ∨ (wlkK t.kids p l = none ∧ e = fltE)) := fun o =>
    (trees_any n IH t hn P a cap ((w.alloc o).drew) B p l (hPd o) hlen (fun i hi => by
      obtain ⟨b, o2, c, h1, h2, h3, h4⟩ := hks i hi
      exact ⟨b, o2, c, h1, h2, h3.carry ((hbd o).at (hP b h2).1 (hP b h2).2), Rep.carry (fun b hb => (hbd o).at (hP b hb).1 (hP b hb).2) (fun _ h => h) _ _ h4⟩) (hB.of_block (((Below.refl _ _).alloc (Nat.le_refl _) o).drew.block B hB.lt)) (hT.but (hbd o) hB0) hB0 hp0 hp1 hl0 hl1).mono
      fun e w' ⟨h1, h2⟩ => ⟨h1, h2.imp (fun ⟨q, v, g1, g2, g3, g4⟩ => ⟨q, v, g1, g2, g3.carry (fun _ _ => rfl) (fun b hb => hb.imp id (fun hb => ⟨by have := hb.1; simp at this; omega, hb.2⟩)), g4⟩) id⟩
  have hBw := hB.lt
  have HNB := hide hnb; have HP := hide hP; have HBD := hide hbd
  clear hrep hnb hB hks hP IH hT hPd hbd
  cases hw : wlkK t.kids p l with
  | none =>
    have htr : ∀ o, Calls Tryz.prog 139 #[.pointer (some ⟨B, 0, none⟩), .slice a t.kids.length cap] ((w.alloc o).drew) fun e w' => But B w w' ∧ e = fltE := fun o => (htrees o).mono fun e w' ⟨h1, h2⟩ => by
      rcases h2 with ⟨q, v, g1, _⟩ | ⟨_, g2⟩
      · rw [hw] at g1; cases g1
      · exact ⟨(unhide HBD o).trans h1, g2⟩
    have HTR := hide htr
    have HOF : Hid (ofS t p l = none) := by show _ = _; unfold ofS; rw [hw]
    clear htrees htr hw
    go_enter Tryz.func125, Tryz.ntmps125
    go_wp2_with fail
    refine wp_region_any (by kernel_rfl) ?_
    change wpAny _ _ _ _ _ _ _ (World.drew _)
    refine wpAny_take (i := 0) (v := .pointer (some ⟨w.heap.size, 3, none⟩)) rfl (by kernel_rfl) (by kernel_rfl) (by kernel_rfl) (fun _ _ _ h => h) (Or.inl ⟨by rfl, fun w => by go_simp⟩) ?_
    refine wpAny_take (i := 2) (v := .pointer (some ⟨B, 0, none⟩)) rfl (by kernel_rfl) (by kernel_rfl) (by kernel_rfl) (fun _ _ _ h => h) (Or.inl ⟨by rfl, fun w => by go_simp⟩) ?_
    refine wpAny_take (i := 3) (v := .pointer (some ⟨w.heap.size, 4, none⟩)) rfl (by kernel_rfl) (by kernel_rfl) (by kernel_rfl) (fun _ _ _ h => h) (Or.inl ⟨by rfl, fun w => by go_simp⟩) ?_
    refine wpAny_ready (rs := [1, 4]) (by kernel_rfl) (by simp) ?_
    refine AllReady.cons rfl (fun K hK => ?_) (AllReady.cons rfl (fun K hK => ?_) AllReady.nil)
    · go_simp
      refine hK _ _ ?_; clear hK K
      refine wpAny_ready (rs := [4]) (by kernel_rfl) (by simp) ?_
      refine AllReady.cons rfl (fun K hK => ?_) AllReady.nil
      go_simp
      refine hK _ _ ?_; clear hK K
      refine wpAny_ready (rs := [5]) (by kernel_rfl) (by simp) ?_
      refine AllReady.cons rfl (fun K hK => ?_) AllReady.nil
      go_simp
      refine (unhide HTR _).mono ?_
      rintro e w1 ⟨hbt, rfl⟩
      exact ⟨rfl, hbt, Or.inr ⟨unhide HOF, rfl⟩⟩
    · go_simp
      refine hK _ _ ?_; clear hK K
      refine wpAny_ready (rs := [1, 5]) (by kernel_rfl) (by simp) ?_
      refine AllReady.cons rfl (fun K hK => ?_) (AllReady.cons rfl (fun K hK => ?_) AllReady.nil)
      · go_simp
        refine hK _ _ ?_; clear hK K
        refine wpAny_ready (rs := [5]) (by kernel_rfl) (by simp) ?_
        refine AllReady.cons rfl (fun K hK => ?_) AllReady.nil
        go_simp
        refine (unhide HTR _).mono ?_
        rintro e w1 ⟨hbt, rfl⟩
        exact ⟨rfl, hbt, Or.inr ⟨unhide HOF, rfl⟩⟩
      · go_simp
        refine (unhide HTR _).mono ?_
        rintro e w1 ⟨hbt, rfl⟩
        exact ⟨rfl, hbt, Or.inr ⟨unhide HOF, rfl⟩⟩
  | some q =>
    have htr : ∀ (x0 x1 x2 : Value), Calls Tryz.prog 139 #[.pointer (some ⟨B, 0, none⟩), .slice a t.kids.length cap] ((w.alloc (.cells #[x0, x1, x2, .slice a3 t.names.length cap3, .slice a t.kids.length cap] 39)).drew) fun e w' =>
        But B w w' ∧ w'.cell? ⟨w.heap.size, 3, none⟩ = some (.slice a3 t.names.length cap3) ∧ ∃ a' cap', e = .returned (.slice a' t.kids.length cap') ∧ SKids (fun b => P b ∨ (w.heap.size ≤ b ∧ b < w'.heap.size)) w' (.slice a' t.kids.length cap') t.kids ∧ Bnd w' B q l ∧ StrsAt P w' (.slice a3 t.names.length cap3) t.names ∧ (∀ b, P b → b < w'.heap.size) := fun x0 x1 x2 => (htrees _).mono fun e w' ⟨h1, h2⟩ => by
      rcases h2 with ⟨q', v, g1, g2, g3, g4⟩ | ⟨g1, _⟩
      · rw [hw] at g1
        simp only [Option.some.injEq] at g1
        subst g1
        have hb1 := (unhide HBD (.cells #[x0, x1, x2, .slice a3 t.names.length cap3, .slice a t.kids.length cap] 39)).trans h1
        obtain ⟨a', cap', hv, -⟩ := id g3
        subst hv
        refine ⟨hb1, ?_, a', cap', g2, g3, g4, (unhide HNS).carry (fun b hb => hb1.at (unhide HP b hb).1 (unhide HP b hb).2) (fun _ h => h), fun b hb => Nat.lt_of_lt_of_le (unhide HP b hb).1 hb1.size⟩
        rw [World.cell?_of_block (a := ⟨w.heap.size, 3, none⟩) (h1.at (b := w.heap.size) (by simp) (by omega))]
        simp [go_sem]
      · rw [hw] at g1; cases g1
    have HTR0 := hide htr
    clear htrees htr
    by_cases hyes : t.names.length = t.kids.length ∧ riseB t.names = true
    · have HOF : Hid (ofS t p l = some q) := by show _ = _; unfold ofS; rw [hw]; simp only; rw [if_pos (by rw [unhide HNB]; simpa using hyes)]
      have HYES := hide hyes
      have HTR := hide (unhide HTR0)
      clear hw hyes HTR0
      go_enter Tryz.func125, Tryz.ntmps125
      go_wp2_with fail
      go_region_with (first
        | (go_at_call 139; refine (unhide HTR _ _ _).mono ?_; rintro e w1 ⟨hbt, q3, a', cap', rfl, hk, hbnd, hS1, hP1⟩; have HBT := hide hbt; have HS1 := hide hS1; have HP1 := hide hP1; have HK := hide hk; have HBN := hide hbnd; clear hbt hS1 hP1 hk hbnd)
        | (go_at_call 140; refine (newForm_any _ t.names _ _ _ _ (P := P) (unhide HP1) (unhide HS1)).mono ?_; rintro e w2 ⟨hor, hb2⟩; obtain rfl := (hor.resolve_right (fun h => h.1 (unhide HYES))).2; clear hor))
      all_goals
        go_wp2_with fail
        go_ret
        have hs2 := hb2.size
        have hbt2 := unhide HBT
        have hcar : ∀ b, (P b ∨ (w.heap.size ≤ b ∧ b < w1.heap.size)) → b < w1.heap.size := fun b hb => by
          rcases hb with hb | hb
          · exact unhide HP1 b hb
          · exact hb.2
        refine ⟨hbt2.trans (But.of_below hb2), Or.inl ⟨q, _, unhide HOF, rfl, srep5 hs (((unhide HS1).carry (fun _ _ => rfl) (fun b hb => Or.inl hb)).carry (P := fun b => P b ∨ (w.heap.size ≤ b ∧ b < w1.heap.size)) (fun b hb => hb2.block b (hcar b hb)) (fun b hb => hb.imp id (fun hb => ⟨hb.1, by omega⟩))) ((unhide HK).carry (fun b hb => hb2.block b (hcar b hb)) (fun b hb => hb.imp id (fun hb => ⟨hb.1, by omega⟩))), (unhide HBN).below hb2⟩⟩
    · have HOF : Hid (ofS t p l = none) := by show _ = _; unfold ofS; rw [hw]; simp only; rw [if_neg (by rw [unhide HNB]; simpa using hyes)]
      have HNO := hide hyes
      have HTR : Hid (∀ (x : Value × Value × Value), _) := hide fun x => unhide HTR0 x.1 x.2.1 x.2.2
      clear hw hyes HTR0
      go_enter Tryz.func125, Tryz.ntmps125
      go_wp2_with fail
      refine wp_region_any (by kernel_rfl) ?_
      change wpAny _ _ _ _ _ _ _ (World.drew _)
      refine wpAny_take (i := 0) (v := .pointer (some ⟨w.heap.size, 3, none⟩)) rfl (by kernel_rfl) (by kernel_rfl) (by kernel_rfl) (fun _ _ _ h => h) (Or.inl ⟨by rfl, fun w => by go_simp⟩) ?_
      refine wpAny_take (i := 2) (v := .pointer (some ⟨B, 0, none⟩)) rfl (by kernel_rfl) (by kernel_rfl) (by kernel_rfl) (fun _ _ _ h => h) (Or.inl ⟨by rfl, fun w => by go_simp⟩) ?_
      refine wpAny_take (i := 3) (v := .pointer (some ⟨w.heap.size, 4, none⟩)) rfl (by kernel_rfl) (by kernel_rfl) (by kernel_rfl) (fun _ _ _ h => h) (Or.inl ⟨by rfl, fun w => by go_simp⟩) ?_
      refine wpAny_ready (rs := [1, 4]) (by kernel_rfl) (by simp) ?_
      refine AllReady.cons rfl (fun K hK => ?_) (AllReady.cons rfl (fun K hK => ?_) AllReady.nil)
      · go_simp
        refine hK _ _ ?_; clear hK K
        refine wpAny_ready (rs := [4]) (by kernel_rfl) (by simp) ?_
        refine AllReady.cons rfl (fun K hK => ?_) AllReady.nil
        go_simp
        refine hK _ _ ?_; clear hK K
        refine wpAny_ready (rs := [5]) (by kernel_rfl) (by simp) ?_
        refine AllReady.cons rfl (fun K hK => ?_) AllReady.nil
        go_simp
        refine (unhide HTR (_, _, _)).mono ?_
        rintro e w1 ⟨hbt, q3, a', cap', rfl, hk, hbnd, hS1, hP1⟩
        have HBT := hide hbt; have HS1 := hide hS1; have HP1 := hide hP1
        clear hbt hS1 hP1 hk hbnd
        dsimp only
        refine hK _ _ ?_; clear hK K
        refine wpAny_ready (rs := [6]) (by kernel_rfl) (by simp) ?_
        refine AllReady.cons rfl (fun K hK => ?_) AllReady.nil
        go_simp
        refine (newForm_any _ t.names _ _ _ _ (P := P) (unhide HP1) (unhide HS1)).mono ?_
        rintro e w2 ⟨⟨hyes, _⟩ | ⟨_, rfl⟩, hb2⟩
        · exact absurd hyes (unhide HNO)
        · exact ⟨rfl, (unhide HBT).trans (But.of_below hb2), Or.inr ⟨unhide HOF, rfl⟩⟩
      · go_simp
        refine hK _ _ ?_; clear hK K
        refine wpAny_ready (rs := [1, 5]) (by kernel_rfl) (by simp) ?_
        refine AllReady.cons rfl (fun K hK => ?_) (AllReady.cons rfl (fun K hK => ?_) AllReady.nil)
        · go_simp
          refine hK _ _ ?_; clear hK K
          refine wpAny_ready (rs := [5]) (by kernel_rfl) (by simp) ?_
          refine AllReady.cons rfl (fun K hK => ?_) AllReady.nil
          go_simp
          refine (unhide HTR (_, _, _)).mono ?_
          rintro e w1 ⟨hbt, q3, a', cap', rfl, hk, hbnd, hS1, hP1⟩
          have HBT := hide hbt; have HS1 := hide hS1; have HP1 := hide hP1
          clear hbt hS1 hP1 hk hbnd
          dsimp only
          refine hK _ _ ?_; clear hK K
          refine wpAny_ready (rs := [6]) (by kernel_rfl) (by simp) ?_
          refine AllReady.cons rfl (fun K hK => ?_) AllReady.nil
          go_simp
          refine (newForm_any _ t.names _ _ _ _ (P := P) (unhide HP1) (unhide HS1)).mono ?_
          rintro e w2 ⟨⟨hyes, _⟩ | ⟨_, rfl⟩, hb2⟩
          · exact absurd hyes (unhide HNO)
          · exact ⟨rfl, (unhide HBT).trans (But.of_below hb2), Or.inr ⟨unhide HOF, rfl⟩⟩
        · go_simp
          refine (unhide HTR (_, _, _)).mono ?_
          rintro e w1 ⟨hbt, q3, a', cap', rfl, hk, hbnd, hS1, hP1⟩
          have HBT := hide hbt; have HS1 := hide hS1; have HP1 := hide hP1
          clear hbt hS1 hP1 hk hbnd
          dsimp only
          refine hK _ _ ?_; clear hK K
          refine wpAny_ready (rs := [1]) (by kernel_rfl) (by simp) ?_
          refine AllReady.cons rfl (fun K hK => ?_) AllReady.nil
          go_simp
          refine hK _ _ ?_; clear hK K
          refine wpAny_ready (rs := [6]) (by kernel_rfl) (by simp) ?_
          refine AllReady.cons rfl (fun K hK => ?_) AllReady.nil
          go_simp
          refine (newForm_any _ t.names _ _ _ _ (P := P) (unhide HP1) (unhide HS1)).mono ?_
          rintro e w2 ⟨⟨hyes, _⟩ | ⟨_, rfl⟩, hb2⟩
          · exact absurd hyes (unhide HNO)
          · exact ⟨rfl, (unhide HBT).trans (But.of_below hb2), Or.inr ⟨unhide HOF, rfl⟩⟩

end Go.Proofs.YtcpfelaffclalaaGreatDoor

/- The walks of the program's tree, sortTree, treeTry, TreeOk and TreeParts. The table treeFields is as the program lays it. -/

namespace Go.Proofs.YtcpfelaffclalaaGreatDoor
open Go Go.RowKit

theorem ofIts_any (n : Nat) (IH : TreeSaid n) (t : Tr) (hn : tsz t ≤ n) (P : Nat → Prop) (c : C5) (w : World) (B : Nat) (p l : Int) (hP : ∀ b, P b → b < w.heap.size ∧ b ≠ B) (hrep : Rep P w t c) (hB : Bnd w B p l) (hT : Tab w) (hB0 : 1 < B) (hp0 : 0 ≤ p) (hp1 : p ≤ 120) (hl0 : 0 ≤ l) (hl1 : l ≤ 6) (ho : ownB t = true) :
    Calls Tryz.prog 125 #[.pointer (some ⟨B, 0, none⟩), .agg #[c.c0, c.c1, c.c2, c.c3, c.c4]] w (OfPost P t B p l w) := by
  have h : (t.sort < 1 ∨ 6 < t.sort) ∨ t.sort = 1 ∨ t.sort = 2 ∨ t.sort = 3 ∨ t.sort = 4 ∨ t.sort = 5 ∨ t.sort = 6 := by omega
  rcases h with h | h | h | h | h | h | h
  · rw [own_out h] at ho; cases ho
  · exact ofIts_1 t P c w B p l hrep hB ho h
  · exact ofIts_2 t P c w B p l hrep hB ho h
  · exact ofIts_3 t P c w B p l hrep hB ho h
  · exact ofIts_4 n IH t hn P c w B p l hP hrep hB hT hB0 hp0 hp1 hl0 hl1 h
  · exact ofIts_5 n IH t hn P c w B p l hP hrep hB hT hB0 hp0 hp1 hl0 hl1 h
  · exact ofIts_6 n IH t hn P c w B p l hP hrep hB hT hB0 hp0 hp1 hl0 hl1 h

set_option maxHeartbeats 800000 in
theorem tree_step (n : Nat) (IH : TreeSaid n) : TreeSaid (n + 1) := by
  intro t hn P c w B p l hP hrep hB hT hB0 hp0 hp1 hl0 hl1
  have hBw := hB.lt
  have hBne : ¬ w.heap.size = B := by omega
  by_cases hin : p + 1 ≤ 120 ∧ l + 1 ≤ 6
  · have hen : ∀ x0 x1 x2 x3 x4 : Value, Calls Tryz.prog 122 #[.pointer (some ⟨B, 0, none⟩)] (w.alloc (.cells #[x0, x1, x2, x3, x4] 39)) fun e w' => e = .returned (.tuple #[]) ∧ w'.rowIs w.heap.size 39 5 (row5 x0 x1 x2 x3 x4) ∧ Bnd w' B (p + 1) (l + 1) ∧ But B w w' ∧ w.heap.size < w'.heap.size := fun x0 x1 x2 x3 x4 =>
      (enter_yes B p l _ (hB.alloc _) hp0 hl0 hin.1 hin.2).mono fun e w' ⟨h1, h2⟩ => by
        have hb := ((But.set (B := B) (w.alloc (.cells #[x0, x1, x2, x3, x4] 39)) 0 (.int .i64 (p + 1))).trans (But.set _ 1 (.int .i64 (l + 1))))
        rw [h2]
        refine ⟨h1, (row5_alloc w x0 x1 x2 x3 x4 _).of_block (hb.at (by simp) hBne), (hB.alloc _).set2 _ _, (But.alloc B w _).trans hb, ?_⟩
        have := hb.size
        simp at this ⊢
    have hwo : ownB t = true → wlk t p l = ofS t (p + 1) (l + 1) := wlk_of t p l hin
    have hwn : ownB t = false → wlk t p l = none := fun h => by rw [wlk_eq, if_pos hin, if_neg (by rw [h]; simp)]
    have HEN := hide hen; have HREP := hide hrep; have HP := hide hP; have HT := hide hT; have HI := hide IH; have HWO := hide hwo; have HWN := hide hwn
    obtain ⟨h120, h6⟩ := hin
    obtain ⟨c0, c1, c2, c3, c4⟩ := c
    clear hen hP hrep hB hT IH hwo hwn
    go_enter Tryz.func103, Tryz.ntmps103
    go_wp2_with fail
    refine (unhide HEN _ _ _ _ _).mono ?_
    rintro e w1 ⟨rfl, q1, hb1, hbt1, hs1⟩
    have hrep1 : Rep P w1 t ⟨c0, c1, c2, c3, c4⟩ := Rep.carry (fun b hb => hbt1.at (unhide HP b hb).1 (unhide HP b hb).2) (fun _ h => h) _ _ (unhide HREP)
    have hT1 := (unhide HT).but hbt1 hB0
    have hown := own_any t P ⟨c0, c1, c2, c3, c4⟩ w1 hrep1 hT1 hT1.lt
    have HOWN := hide hown; have HREP1 := hide hrep1; have HT1 := hide hT1; have Q1 := hide q1; have HB1 := hide hb1; have HBT1 := hide hbt1
    have k0 := q1.cell (i := 0) (by omega); have k1 := q1.cell (i := 1) (by omega); have k2 := q1.cell (i := 2) (by omega); have k3 := q1.cell (i := 3) (by omega); have k4 := q1.cell (i := 4) (by omega)
    simp only [row5] at k0 k1 k2 k3 k4
    clear hown hrep1 hT1 q1 hb1 hbt1
    go_wp2_with fail
    refine (unhide HOWN).mono ?_
    rintro e w2 ⟨rfl, hb2⟩
    clear k0 k1 k2 k3 k4
    have hs2 := hb2.size
    by_cases ho : ownB t = true
    · have q2 := (unhide Q1).of_block (hb2.block _ hs1)
      have hbt2 := (unhide HBT1).trans (But.of_below hb2)
      have hb2' := (unhide HB1).below hb2
      have hrep2 : Rep P w2 t ⟨c0, c1, c2, c3, c4⟩ := Rep.carry (fun b hb => hbt2.at (unhide HP b hb).1 (unhide HP b hb).2) (fun _ h => h) _ _ (unhide HREP)
      have hT2 := (unhide HT).but hbt2 hB0
      have hof := ofIts_any n (unhide HI) t (by omega) P ⟨c0, c1, c2, c3, c4⟩ w2 B (p + 1) (l + 1) (fun b hb => ⟨by have := (unhide HP b hb).1; omega, (unhide HP b hb).2⟩) hrep2 hb2' hT2 hB0 (by omega) h120 (by omega) h6 ho
      have HOF := hide hof; have HBT2 := hide hbt2
      have HW := hide (unhide HWO ho)
      have k0 := q2.cell (i := 0) (by omega); have k1 := q2.cell (i := 1) (by omega); have k2 := q2.cell (i := 2) (by omega); have k3 := q2.cell (i := 3) (by omega); have k4 := q2.cell (i := 4) (by omega)
      simp only [row5] at k0 k1 k2 k3 k4
      clear hof hrep2 hT2 q2 hb2' hbt2 hb2 HOWN HREP1 HT1 Q1 HB1 HBT1 HEN
      go_wp2_with (go_at_call 123; refine (treeWant_yes _).mono ?_; rintro e w' ⟨rfl, hw'⟩; subst hw')
      refine (unhide HOF).mono ?_
      rintro e w3 ⟨hbt3, ⟨q, v, hof, rfl, hsr, hb3⟩ | ⟨hof, rfl⟩⟩
      · have hlv := leave_any B q (l + 1) w3 hb3 (by omega) (by omega)
        rw [show l + 1 - 1 = l from by omega] at hlv
        have hbt4 := ((unhide HBT2).trans hbt3).trans (But.set (B := B) w3 1 (.int .i64 l))
        have hsr4 : SRep (fun b => P b ∨ (w.heap.size ≤ b ∧ b < (w3.setCell ⟨B, 1, none⟩ (.int .i64 l)).heap.size)) (w3.setCell ⟨B, 1, none⟩ (.int .i64 l)) t v := by
          refine SRep.carry (fun b hb => Below.heap_setCell _ _ _ _ ?_) (fun b hb => ?_) _ _ hsr
          · rcases hb with hb | hb
            · exact (unhide HP b hb).2
            · have := hb.1; show b ≠ B; omega
          · rcases hb with hb | hb
            · exact Or.inl hb
            · exact Or.inr ⟨by have := hb.1; omega, by simpa [World.setCell] using hb.2⟩
        have HLV := hide hlv; have HBT4 := hide hbt4; have HSR := hide hsr4; have HB4 := hide (hb3.set1 l)
        have HQ : Hid (wlk t p l = some q) := by show _ = _; rw [unhide HW, hof]
        clear hlv hbt4 hsr4 hsr hb3 hbt3 hof k0 k1 k2 k3 k4
        go_wp2_with (go_at_call 126; refine (unhide HLV).mono ?_; rintro e w4 ⟨rfl, rfl⟩)
        go_ret
        exact ⟨unhide HBT4, Or.inl ⟨q, v, unhide HQ, rfl, unhide HSR, unhide HB4⟩⟩
      · have HBT4 := hide ((unhide HBT2).trans hbt3)
        have HQ : Hid (wlk t p l = none) := by show _ = _; rw [unhide HW, hof]
        clear hbt3 hof
        go_wp2_with fail
        exact ⟨rfl, unhide HBT4, Or.inr ⟨unhide HQ, rfl⟩⟩
    · have ho' : ownB t = false := by simpa using ho
      have HW := hide (unhide HWN ho')
      have hbt2 := (unhide HBT1).trans (But.of_below hb2)
      have HBT2 := hide hbt2
      clear ho hb2 hbt2
      go_wp2_with (go_at_call 123; refine (treeWant_no _).mono ?_; rintro e w' ⟨rfl, rfl⟩)
      exact ⟨rfl, unhide HBT2, Or.inr ⟨unhide HW, rfl⟩⟩
  · have HW : Hid (wlk t p l = none) := by show _ = _; rw [wlk_eq, if_neg hin]
    have hen : ∀ o, Calls Tryz.prog 122 #[.pointer (some ⟨B, 0, none⟩)] (w.alloc o) fun e w' => e = fltE ∧ But B w w' := fun o =>
      (enter_no B p l (w.alloc o) (hB.alloc o) hp0 hl0 hp1 hl1 hin).mono fun e w' ⟨h1, h2⟩ => ⟨h1, by rw [h2]; exact ((But.alloc B w o).trans (But.set _ _ _)).trans (But.set _ _ _)⟩
    have HEN := hide hen
    clear hen hP hrep hB hT IH hin
    go_enter Tryz.func103, Tryz.ntmps103
    go_wp2_with (go_at_call 122; refine (unhide HEN _).mono ?_; rintro e w1 ⟨rfl, hbt⟩)
    exact ⟨rfl, hbt, Or.inr ⟨unhide HW, rfl⟩⟩

theorem tree_all : ∀ n, TreeSaid n
  | 0 => fun t h => by omega
  | n + 1 => tree_step n (tree_all n)
end Go.Proofs.YtcpfelaffclalaaGreatDoor
