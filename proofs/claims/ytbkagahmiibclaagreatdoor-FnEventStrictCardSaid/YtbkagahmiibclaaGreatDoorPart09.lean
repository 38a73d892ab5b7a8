/- A part. -/
import Derived.Test.YtbkagahmiibclaaGreatDoorPart08
namespace Go.Proofs.YtbkagahmiibclaaGreatDoor
open Go Go.RowKit
set_option maxRecDepth 100000
set_option maxHeartbeats 800000
mutual
def SRep (Q : Nat → Prop) (w : World) : Tr → Value → Prop
 | .mk s n tx ns ks, v =>
   (s = 1 ∧ v = .iface 132 (.int .i64 n)) ∨
   (s = 2 ∧ v = .iface 133 (.string tx)) ∨
   (s = 3 ∧ v = .iface 134 (.bool (n == 1))) ∨
   (s = 4 ∧ ∃ a cap, v = .iface 136 (.slice a ks.length cap) ∧ (ks ≠ [] → ∃ b, a = some ⟨b, 0, none⟩ ∧ Q b ∧ SRepK Q w b 0 ks)) ∨
   (s = 5 ∧ ∃ v3 a cap, v = .iface 139 (.agg #[v3, .slice a ks.length cap]) ∧ StrsAt Q w v3 ns ∧ (ks ≠ [] → ∃ b, a = some ⟨b, 0, none⟩ ∧ Q b ∧ SRepK Q w b 0 ks)) ∨
   (s = 6 ∧ ∃ a cap, v = .iface 141 (.slice a ks.length cap) ∧ (ks ≠ [] → ∃ b, a = some ⟨b, 0, none⟩ ∧ Q b ∧ SRepK Q w b 0 ks))
def SRepK (Q : Nat → Prop) (w : World) (b : Nat) (o : Nat) : List Tr → Prop
 | [] => True
 | t :: r => (∃ x, w.cell? ⟨b, o, none⟩ = some x ∧ SRep Q w t x) ∧ SRepK Q w b (o + 1) r
end
theorem SRepK.get {Q : Nat → Prop} {w : World} {b o : Nat} {ks : List Tr} (h : SRepK Q w b o ks) (i : Nat) (hi : i < ks.length) :
 ∃ x, w.cell? ⟨b, o + i, none⟩ = some x ∧ SRep Q w ks[i] x := by
 induction ks generalizing o i with
 | nil => simp at hi
 | cons t r ih =>
   rw [SRepK] at h
   cases i with
   | zero => exact h.1
   | succ i =>
     obtain ⟨c, h1, h2⟩ := ih h.2 i (by simpa using hi)
     exact ⟨c, by rw [show o + (i + 1) = o + 1 + i from by omega]; exact h1, h2⟩
theorem SRepK.mk {Q : Nat → Prop} {w : World} {b o : Nat} {ks : List Tr} (h : ∀ i, (hi : i < ks.length) → ∃ x, w.cell? ⟨b, o + i, none⟩ = some x ∧ SRep Q w ks[i] x) : SRepK Q w b o ks := by
 induction ks generalizing o with
 | nil => rw [SRepK]; trivial
 | cons t r ih =>
   rw [SRepK]
   refine ⟨h 0 (by simp), ih fun i hi => ?_⟩
   obtain ⟨c, h1, h2⟩ := h (i + 1) (by simpa using hi)
   exact ⟨c, by rw [show o + 1 + i = o + (i + 1) from by omega]; exact h1, h2⟩
mutual
theorem SRep.carry {P Q : Nat → Prop} {w w' : World} (hP : ∀ b, P b → w'.heap[b]? = w.heap[b]?) (hQ : ∀ b, P b → Q b) : ∀ (t : Tr) (v : Value), SRep P w t v → SRep Q w' t v
 | .mk s n tx ns ks, v => by
   intro h
   rw [SRep] at h ⊢
   rcases h with h | h | h | ⟨hs, a, cap, h1, h2⟩ | ⟨hs, v3, a, cap, h1, h3, h2⟩ | ⟨hs, a, cap, h1, h2⟩
   · exact Or.inl h
   · exact Or.inr (Or.inl h)
   · exact Or.inr (Or.inr (Or.inl h))
   · refine Or.inr (Or.inr (Or.inr (Or.inl ⟨hs, a, cap, h1, fun hk => ?_⟩)))
     obtain ⟨b, e, p, hr⟩ := h2 hk
     exact ⟨b, e, hQ b p, SRepK.carry hP hQ b 0 (hP b p) ks hr⟩
   · refine Or.inr (Or.inr (Or.inr (Or.inr (Or.inl ⟨hs, v3, a, cap, h1, h3.carry hP hQ, fun hk => ?_⟩))))
     obtain ⟨b, e, p, hr⟩ := h2 hk
     exact ⟨b, e, hQ b p, SRepK.carry hP hQ b 0 (hP b p) ks hr⟩
   · refine Or.inr (Or.inr (Or.inr (Or.inr (Or.inr ⟨hs, a, cap, h1, fun hk => ?_⟩))))
     obtain ⟨b, e, p, hr⟩ := h2 hk
     exact ⟨b, e, hQ b p, SRepK.carry hP hQ b 0 (hP b p) ks hr⟩
theorem SRepK.carry {P Q : Nat → Prop} {w w' : World} (hP : ∀ b, P b → w'.heap[b]? = w.heap[b]?) (hQ : ∀ b, P b → Q b) (b : Nat) (o : Nat) (hb : w'.heap[b]? = w.heap[b]?) : ∀ (ks : List Tr), SRepK P w b o ks → SRepK Q w' b o ks
 | [] => by intro _; rw [SRepK]; trivial
 | t :: r => by
   intro h
   rw [SRepK] at h ⊢
   obtain ⟨⟨c, h1, h2⟩, h3⟩ := h
   exact ⟨⟨c, by rw [World.cell?_of_block (w := w) hb]; exact h1, SRep.carry hP hQ t c h2⟩, SRepK.carry hP hQ b (o + 1) hb r h3⟩
end
theorem SRep.iface {Q : Nat → Prop} {w : World} {t : Tr} {v : Value} (h : SRep Q w t v) : ∃ T x, v = .iface T x := by
 obtain ⟨s, n, tx, ns, ks⟩ := t
 rw [SRep] at h
 rcases h with h | h | h | ⟨hs, a, cap, h1, h2⟩ | ⟨hs, v3, a, cap, h1, h3, h2⟩ | ⟨hs, a, cap, h1, h2⟩
 · exact ⟨_, _, h.2⟩
 · exact ⟨_, _, h.2⟩
 · exact ⟨_, _, h.2⟩
 · exact ⟨_, _, h1⟩
 · exact ⟨_, _, h1⟩
 · exact ⟨_, _, h1⟩
def SKids (Q : Nat → Prop) (w : World) (v : Value) (ks : List Tr) : Prop :=
 ∃ a cap, v = .slice a ks.length cap ∧ (ks ≠ [] → ∃ b, a = some ⟨b, 0, none⟩ ∧ Q b ∧ SRepK Q w b 0 ks)
theorem SKids.carry {P Q : Nat → Prop} {w w' : World} {v : Value} {ks : List Tr} (h : SKids P w v ks) (hP : ∀ b, P b → w'.heap[b]? = w.heap[b]?) (hQ : ∀ b, P b → Q b) : SKids Q w' v ks := by
 obtain ⟨a, cap, h1, h2⟩ := h
 refine ⟨a, cap, h1, fun hk => ?_⟩
 obtain ⟨b, e, p, hr⟩ := h2 hk
 exact ⟨b, e, hQ b p, SRepK.carry hP hQ b 0 (hP b p) ks hr⟩
theorem Bnd.below {w w' : World} {B : Nat} {p l : Int} (h : Bnd w B p l) (hb : Below w.heap.size w w') : Bnd w' B p l := h.of_block (hb.block B h.lt)
theorem Bnd.alloc {w : World} {B : Nat} {p l : Int} (h : Bnd w B p l) (o : Obj) : Bnd (w.alloc o) B p l := h.of_block (Below.heap_alloc _ _ _ h.lt)
theorem Bnd.set2 {w : World} {B : Nat} {p l : Int} (h : Bnd w B p l) (p' l' : Int) : Bnd ((w.setCell ⟨B, 0, none⟩ (.int .i64 p')).setCell ⟨B, 1, none⟩ (.int .i64 l')) B p' l' := by
 obtain ⟨c0, c1, f0, f1⟩ := h
 exact ⟨by simp [go_sem, c0], by simp [go_sem, c1], by simp [go_sem, f0], by simp [go_sem, f1]⟩
theorem Bnd.set1 {w : World} {B : Nat} {p l : Int} (h : Bnd w B p l) (l' : Int) : Bnd (w.setCell ⟨B, 1, none⟩ (.int .i64 l')) B p l' := by
 obtain ⟨c0, c1, f0, f1⟩ := h
 exact ⟨by simp [go_sem, c0], by simp [go_sem, c1], by simp [go_sem, f0], by simp [go_sem, f1]⟩
def Got (P : Nat → Prop) (w wr : World) (v : Value) (ks : List Tr) (k : Nat) : Prop :=
 ∃ xs, wr.ownsRow w.heap.size 94 1 v k xs ∧ ∀ i, i < k → (hi : i < ks.length) → ∃ x, xs[i]? = some x ∧ SRep (fun b => P b ∨ (w.heap.size ≤ b ∧ b < wr.heap.size ∧ some b ≠ v.ownBlock)) wr ks[i] x
theorem Got.start (P : Nat → Prop) (w : World) (ks : List Tr) : Got P w w (.slice none 0 0) ks 0 :=
 ⟨[], World.ownsRow_nil _ _ _ _, fun i hi => by omega⟩
theorem Got.kept {P : Nat → Prop} {w wr wr' : World} {v : Value} {ks : List Tr} {k : Nat} {B : Nat} (hP : ∀ b, P b → b < w.heap.size ∧ b ≠ B) (hBw : B < w.heap.size) (hw : w.heap.size ≤ wr.heap.size) (h : Got P w wr v ks k) (hb : But B wr wr') : Got P w wr' v ks k := by
 obtain ⟨xs, hown, hx⟩ := h
 have hne : v.ownBlock ≠ some B := fun e => by have := (hown.lt B e).1; omega
 refine ⟨xs, hown.kept hb (Or.inr hne), fun i hi hil => ?_⟩
 obtain ⟨x, h1, h2⟩ := hx i hi hil
 refine ⟨x, h1, SRep.carry (fun b hb' => ?_) (fun b hb' => ?_) _ _ h2⟩
 · rcases hb' with hp | ⟨hp1, hp2, _⟩
   · have := hP b hp; exact hb.at (by omega) this.2
   · exact hb.at hp2 (by omega)
 · rcases hb' with hp | ⟨hp1, hp2, hp3⟩
   · exact Or.inl hp
   · exact Or.inr ⟨hp1, Nat.lt_of_lt_of_le hp2 hb.size, hp3⟩
theorem Got.push {P : Nat → Prop} {w w2 w3 w4 : World} {v v' x : Value} {ks : List Tr} {k : Nat} {xs : List Value} {B : Nat} (hP : ∀ b, P b → b < w.heap.size ∧ b ≠ B) (hlt : k < ks.length) (hw : w.heap.size ≤ w2.heap.size)
 (hown : w2.ownsRow w.heap.size 94 1 v k xs) (hx : ∀ i, i < k → (hi : i < ks.length) → ∃ x, xs[i]? = some x ∧ SRep (fun b => P b ∨ (w.heap.size ≤ b ∧ b < w2.heap.size ∧ some b ≠ v.ownBlock)) w2 ks[i] x)
 (hnew : SRep (fun b => P b ∨ (w.heap.size ≤ b ∧ b < w2.heap.size ∧ some b ≠ v.ownBlock)) w2 ks[k] x)
 (hb3 : Below w2.heap.size w2 w3)
 (hown' : w4.ownsRow w.heap.size 94 1 v' (k + 1) (xs ++ [x])) (hg : w3.grownBy w4 v.ownBlock) (hv' : v'.ownBlock = v.ownBlock ∨ ∃ g, v'.ownBlock = some g ∧ w3.heap.size ≤ g) : Got P w w4 v' ks (k + 1) := by
 have hxl : xs.length = k := by have := hown.1; omega
 have hcarry : ∀ (t : Tr) (y : Value), SRep (fun b => P b ∨ (w.heap.size ≤ b ∧ b < w2.heap.size ∧ some b ≠ v.ownBlock)) w2 t y → SRep (fun b => P b ∨ (w.heap.size ≤ b ∧ b < w4.heap.size ∧ some b ≠ v'.ownBlock)) w4 t y := fun t y h => by
  have s3 := hb3.size; have s4 := hg.size
  refine SRep.carry (fun b hb' => ?_) (fun b hb' => ?_) _ _ h
  · have hb2 : b < w2.heap.size := by
     rcases hb' with hp | ⟨_, hp2, _⟩
     · have := hP b hp; omega
     · exact hp2
    rw [hg.block b (by omega) ?_, hb3.block b hb2]
    rcases hb' with hp | ⟨_, _, hp3⟩
    · intro e; have := (hown.lt b e.symm).1; have := (hP b hp).1; omega
    · exact hp3
  · rcases hb' with hp | ⟨hp1, hp2, hp3⟩
    · exact Or.inl hp
    · refine Or.inr ⟨hp1, by omega, ?_⟩
      rcases hv' with e | ⟨g, e, hge⟩
      · rw [e]; exact hp3
      · rw [e]; intro e2; simp only [Option.some.injEq] at e2; omega
 refine ⟨xs ++ [x], hown', fun i hi hil => ?_⟩
 by_cases e : i = k
 · subst e
   exact ⟨x, by rw [← hxl]; simp, hcarry _ _ hnew⟩
 · obtain ⟨y, h1, h2⟩ := hx i (by omega) hil
   exact ⟨y, by rw [List.getElem?_append_left (by omega)]; exact h1, hcarry _ _ h2⟩
theorem Got.done {P : Nat → Prop} {w wr : World} {v : Value} {ks : List Tr} (h : Got P w wr v ks ks.length) : SKids (fun b => P b ∨ (w.heap.size ≤ b ∧ b < wr.heap.size)) wr v ks := by
 obtain ⟨xs, hown, hx⟩ := h
 rcases hown.2 with ⟨hv, hn0⟩ | ⟨g, cap, cur, hv, hgb, hh, hle, hm2, hsz, htk⟩
 · refine ⟨none, 0, by rw [hv, hn0], fun hk => ?_⟩
   exact absurd (List.eq_nil_of_length_eq_zero hn0) hk
 · refine ⟨some ⟨g, 0, none⟩, cap, hv, fun _ => ⟨g, rfl, Or.inr ⟨hgb, (Array.getElem?_eq_some_iff.1 hh).1⟩, SRepK.mk fun i hi => ?_⟩⟩
   obtain ⟨x, h1, h2⟩ := hx i hi hi
   refine ⟨x, ?_, SRep.carry (fun _ _ => rfl) (fun b hb => ?_) _ _ h2⟩
   · have hj' : cur.toList[i]? = some x := by
      rw [← htk] at h1
      rw [List.getElem?_take] at h1
      split at h1
      · exact h1
      · cases h1
     simp only [Nat.zero_add, World.cell?, hh]
     simpa using hj'
   · rcases hb with hp | ⟨hp1, hp2, _⟩
     · exact Or.inl hp
     · exact Or.inr ⟨hp1, hp2⟩
theorem srep1 {Q : Nat → Prop} {w : World} {t : Tr} (h : t.sort = 1) : SRep Q w t (.iface 132 (.int .i64 t.num)) := by
 obtain ⟨s, n, tx, ns, ks⟩ := t; rw [SRep]; exact Or.inl ⟨h, rfl⟩
theorem srep2 {Q : Nat → Prop} {w : World} {t : Tr} (h : t.sort = 2) : SRep Q w t (.iface 133 (.string t.text)) := by
 obtain ⟨s, n, tx, ns, ks⟩ := t; rw [SRep]; exact Or.inr (Or.inl ⟨h, rfl⟩)
theorem srep3 {Q : Nat → Prop} {w : World} {t : Tr} (h : t.sort = 3) : SRep Q w t (.iface 134 (.bool (t.num == 1))) := by
 obtain ⟨s, n, tx, ns, ks⟩ := t; rw [SRep]; exact Or.inr (Or.inr (Or.inl ⟨h, rfl⟩))
theorem srep4 {Q : Nat → Prop} {w : World} {t : Tr} {v : Value} (h : t.sort = 4) (hk : SKids Q w v t.kids) : SRep Q w t (.iface 136 v) := by
 obtain ⟨s, n, tx, ns, ks⟩ := t; obtain ⟨a, cap, rfl, hk⟩ := hk; rw [SRep]; exact Or.inr (Or.inr (Or.inr (Or.inl ⟨h, a, cap, rfl, hk⟩)))
theorem srep5 {Q : Nat → Prop} {w : World} {t : Tr} {v v3 : Value} (h : t.sort = 5) (h3 : StrsAt Q w v3 t.names) (hk : SKids Q w v t.kids) : SRep Q w t (.iface 139 (.agg #[v3, v])) := by
 obtain ⟨s, n, tx, ns, ks⟩ := t; obtain ⟨a, cap, rfl, hk⟩ := hk; rw [SRep]; exact Or.inr (Or.inr (Or.inr (Or.inr (Or.inl ⟨h, v3, a, cap, rfl, h3, hk⟩))))
theorem srep6 {Q : Nat → Prop} {w : World} {t : Tr} {v : Value} (h : t.sort = 6) (hk : SKids Q w v t.kids) : SRep Q w t (.iface 141 v) := by
 obtain ⟨s, n, tx, ns, ks⟩ := t; obtain ⟨a, cap, rfl, hk⟩ := hk; rw [SRep]; exact Or.inr (Or.inr (Or.inr (Or.inr (Or.inr ⟨h, a, cap, rfl, hk⟩))))

def tbl : List Bool := [false, false, false, false, true, false, false, false, false, true, false, false, true, false, false, false, false, false, false, true, false, false, true, true, false, false, false, true]
def Tab (w : World) : Prop := ∀ i, i < 28 → w.cell? ⟨1, i, none⟩ = some (.bool (tbl.getD i false))
theorem own_1 (t : Tr) (P : Nat → Prop) (c : C5) (w : World) (hrep : Rep P w t c) (hT : Tab w) (hw : 1 < w.heap.size) (hs : t.sort = 1) :
 Calls Tryz.prog 123 #[.agg #[c.c0, c.c1, c.c2, c.c3, c.c4]] w fun e w' => e = .returned (.bool (ownB t)) ∧ Below w.heap.size w w' := by
 obtain ⟨c0, c1, c2, c3, c4⟩ := c
 obtain ⟨e0, e1, e2, -, -, htx, ⟨a3, cap3, e3, hl3, -⟩, a, cap, e4, hlen, -⟩ := hrep.open
 simp only at e0 e1 e2 e3 e4
 subst e0 e1 e2 e3 e4
 clear hrep
 have hbx : ∀ o, Below w.heap.size w (w.alloc o) := fun o => (Below.refl _ _).alloc (Nat.le_refl _) o
 have hbx2 : ∀ o o2, Below w.heap.size w ((w.alloc o).alloc o2) := fun o o2 => ((Below.refl _ _).alloc (Nat.le_refl _) o).alloc (by simp) o2
 have HBX := hH hbx; have HBX2 := hH hbx2; clear hbx hbx2
 have g0 := hT 4 (by omega); have g1 := hT 5 (by omega); have g2 := hT 6 (by omega); have g3 := hT 7 (by omega)
 simp only [tbl, List.getD_cons_succ, List.getD_cons_zero] at g0 g1 g2 g3
 clear hT
 go_enter Tryz.func123, Tryz.ntmps123
 go_wp2_with fail
 all_goals
  go_ret
  refine ⟨ret_bool ?_, by first | exact uh HBX2 _ _ | exact uh HBX _⟩
  try simp_all [ownB]
 all_goals first | (rw [Bool.eq_iff_iff]; simp; done) | (intros; omega)
theorem own_2 (t : Tr) (P : Nat → Prop) (c : C5) (w : World) (hrep : Rep P w t c) (hT : Tab w) (hw : 1 < w.heap.size) (hs : t.sort = 2) :
 Calls Tryz.prog 123 #[.agg #[c.c0, c.c1, c.c2, c.c3, c.c4]] w fun e w' => e = .returned (.bool (ownB t)) ∧ Below w.heap.size w w' := by
 obtain ⟨c0, c1, c2, c3, c4⟩ := c
 obtain ⟨e0, e1, e2, -, -, htx, ⟨a3, cap3, e3, hl3, -⟩, a, cap, e4, hlen, -⟩ := hrep.open
 simp only at e0 e1 e2 e3 e4
 subst e0 e1 e2 e3 e4
 clear hrep
 have hbx : ∀ o, Below w.heap.size w (w.alloc o) := fun o => (Below.refl _ _).alloc (Nat.le_refl _) o
 have hbx2 : ∀ o o2, Below w.heap.size w ((w.alloc o).alloc o2) := fun o o2 => ((Below.refl _ _).alloc (Nat.le_refl _) o).alloc (by simp) o2
 have HBX := hH hbx; have HBX2 := hH hbx2; clear hbx hbx2
 have g0 := hT 8 (by omega); have g1 := hT 9 (by omega); have g2 := hT 10 (by omega); have g3 := hT 11 (by omega)
 simp only [tbl, List.getD_cons_succ, List.getD_cons_zero] at g0 g1 g2 g3
 clear hT
 go_enter Tryz.func123, Tryz.ntmps123
 go_wp2_with fail
 all_goals
  go_ret
  refine ⟨ret_bool ?_, by first | exact uh HBX2 _ _ | exact uh HBX _⟩
  try simp_all [ownB]
 all_goals first | (rw [Bool.eq_iff_iff]; simp; done) | (intros; omega)
theorem own_3 (t : Tr) (P : Nat → Prop) (c : C5) (w : World) (hrep : Rep P w t c) (hT : Tab w) (hw : 1 < w.heap.size) (hs : t.sort = 3) :
 Calls Tryz.prog 123 #[.agg #[c.c0, c.c1, c.c2, c.c3, c.c4]] w fun e w' => e = .returned (.bool (ownB t)) ∧ Below w.heap.size w w' := by
 obtain ⟨c0, c1, c2, c3, c4⟩ := c
 obtain ⟨e0, e1, e2, -, -, htx, ⟨a3, cap3, e3, hl3, -⟩, a, cap, e4, hlen, -⟩ := hrep.open
 simp only at e0 e1 e2 e3 e4
 subst e0 e1 e2 e3 e4
 clear hrep
 have hbx : ∀ o, Below w.heap.size w (w.alloc o) := fun o => (Below.refl _ _).alloc (Nat.le_refl _) o
 have hbx2 : ∀ o o2, Below w.heap.size w ((w.alloc o).alloc o2) := fun o o2 => ((Below.refl _ _).alloc (Nat.le_refl _) o).alloc (by simp) o2
 have HBX := hH hbx; have HBX2 := hH hbx2; clear hbx hbx2
 have g0 := hT 12 (by omega); have g1 := hT 13 (by omega); have g2 := hT 14 (by omega); have g3 := hT 15 (by omega)
 simp only [tbl, List.getD_cons_succ, List.getD_cons_zero] at g0 g1 g2 g3
 clear hT
 go_enter Tryz.func123, Tryz.ntmps123
 go_wp2_with fail
 all_goals
  go_ret
  refine ⟨ret_bool ?_, by first | exact uh HBX2 _ _ | exact uh HBX _⟩
  try simp_all [ownB]
 all_goals first | (rw [Bool.eq_iff_iff]; simp; done) | (intros; omega)
theorem own_4 (t : Tr) (P : Nat → Prop) (c : C5) (w : World) (hrep : Rep P w t c) (hT : Tab w) (hw : 1 < w.heap.size) (hs : t.sort = 4) :
 Calls Tryz.prog 123 #[.agg #[c.c0, c.c1, c.c2, c.c3, c.c4]] w fun e w' => e = .returned (.bool (ownB t)) ∧ Below w.heap.size w w' := by
 obtain ⟨c0, c1, c2, c3, c4⟩ := c
 obtain ⟨e0, e1, e2, -, -, htx, ⟨a3, cap3, e3, hl3, -⟩, a, cap, e4, hlen, -⟩ := hrep.open
 simp only at e0 e1 e2 e3 e4
 subst e0 e1 e2 e3 e4
 clear hrep
 have hbx : ∀ o, Below w.heap.size w (w.alloc o) := fun o => (Below.refl _ _).alloc (Nat.le_refl _) o
 have hbx2 : ∀ o o2, Below w.heap.size w ((w.alloc o).alloc o2) := fun o o2 => ((Below.refl _ _).alloc (Nat.le_refl _) o).alloc (by simp) o2
 have HBX := hH hbx; have HBX2 := hH hbx2; clear hbx hbx2
 have g0 := hT 16 (by omega); have g1 := hT 17 (by omega); have g2 := hT 18 (by omega); have g3 := hT 19 (by omega)
 simp only [tbl, List.getD_cons_succ, List.getD_cons_zero] at g0 g1 g2 g3
 clear hT
 go_enter Tryz.func123, Tryz.ntmps123
 go_wp2_with fail
 all_goals
  go_ret
  refine ⟨ret_bool ?_, by first | exact uh HBX2 _ _ | exact uh HBX _⟩
  try simp_all [ownB]
 all_goals first | (rw [Bool.eq_iff_iff]; simp; done) | (intros; omega)
theorem own_5 (t : Tr) (P : Nat → Prop) (c : C5) (w : World) (hrep : Rep P w t c) (hT : Tab w) (hw : 1 < w.heap.size) (hs : t.sort = 5) :
 Calls Tryz.prog 123 #[.agg #[c.c0, c.c1, c.c2, c.c3, c.c4]] w fun e w' => e = .returned (.bool (ownB t)) ∧ Below w.heap.size w w' := by
 obtain ⟨c0, c1, c2, c3, c4⟩ := c
 obtain ⟨e0, e1, e2, -, -, htx, ⟨a3, cap3, e3, hl3, -⟩, a, cap, e4, hlen, -⟩ := hrep.open
 simp only at e0 e1 e2 e3 e4
 subst e0 e1 e2 e3 e4
 clear hrep
 have hbx : ∀ o, Below w.heap.size w (w.alloc o) := fun o => (Below.refl _ _).alloc (Nat.le_refl _) o
 have hbx2 : ∀ o o2, Below w.heap.size w ((w.alloc o).alloc o2) := fun o o2 => ((Below.refl _ _).alloc (Nat.le_refl _) o).alloc (by simp) o2
 have HBX := hH hbx; have HBX2 := hH hbx2; clear hbx hbx2
 have g0 := hT 20 (by omega); have g1 := hT 21 (by omega); have g2 := hT 22 (by omega); have g3 := hT 23 (by omega)
 simp only [tbl, List.getD_cons_succ, List.getD_cons_zero] at g0 g1 g2 g3
 clear hT
 go_enter Tryz.func123, Tryz.ntmps123
 go_wp2_with fail
 all_goals
  go_ret
  refine ⟨ret_bool ?_, by first | exact uh HBX2 _ _ | exact uh HBX _⟩
  try simp_all [ownB]
 all_goals first | (rw [Bool.eq_iff_iff]; simp; done) | (intros; omega)
theorem own_6 (t : Tr) (P : Nat → Prop) (c : C5) (w : World) (hrep : Rep P w t c) (hT : Tab w) (hw : 1 < w.heap.size) (hs : t.sort = 6) :
 Calls Tryz.prog 123 #[.agg #[c.c0, c.c1, c.c2, c.c3, c.c4]] w fun e w' => e = .returned (.bool (ownB t)) ∧ Below w.heap.size w w' := by
 obtain ⟨c0, c1, c2, c3, c4⟩ := c
 obtain ⟨e0, e1, e2, -, -, htx, ⟨a3, cap3, e3, hl3, -⟩, a, cap, e4, hlen, -⟩ := hrep.open
 simp only at e0 e1 e2 e3 e4
 subst e0 e1 e2 e3 e4
 clear hrep
 have hbx : ∀ o, Below w.heap.size w (w.alloc o) := fun o => (Below.refl _ _).alloc (Nat.le_refl _) o
 have hbx2 : ∀ o o2, Below w.heap.size w ((w.alloc o).alloc o2) := fun o o2 => ((Below.refl _ _).alloc (Nat.le_refl _) o).alloc (by simp) o2
 have HBX := hH hbx; have HBX2 := hH hbx2; clear hbx hbx2
 have g0 := hT 24 (by omega); have g1 := hT 25 (by omega); have g2 := hT 26 (by omega); have g3 := hT 27 (by omega)
 simp only [tbl, List.getD_cons_succ, List.getD_cons_zero] at g0 g1 g2 g3
 clear hT
 go_enter Tryz.func123, Tryz.ntmps123
 go_wp2_with fail
 all_goals
  go_ret
  refine ⟨ret_bool ?_, by first | exact uh HBX2 _ _ | exact uh HBX _⟩
  try simp_all [ownB]
 all_goals first | (rw [Bool.eq_iff_iff]; simp; done) | (intros; omega)
theorem own_out {t : Tr} (h : t.sort < 1 ∨ 6 < t.sort) : ownB t = false := by
 unfold ownB
 rw [if_neg (by omega), if_neg (by omega), if_neg (by omega), if_neg (by omega), if_neg (by omega), if_neg (by omega)]
theorem own_lo (t : Tr) (P : Nat → Prop) (c : C5) (w : World) (hrep : Rep P w t c) (hs : t.sort < 1) :
 Calls Tryz.prog 123 #[.agg #[c.c0, c.c1, c.c2, c.c3, c.c4]] w fun e w' => e = .returned (.bool (ownB t)) ∧ Below w.heap.size w w' := by
 obtain ⟨c0, c1, c2, c3, c4⟩ := c
 obtain ⟨e0, e1, e2, -, -, htx, ⟨a3, cap3, e3, hl3, -⟩, a, cap, e4, hlen, -⟩ := hrep.open
 simp only at e0 e1 e2 e3 e4
 subst e0 e1 e2 e3 e4
 clear hrep
 have hbx : ∀ o, Below w.heap.size w (w.alloc o) := fun o => (Below.refl _ _).alloc (Nat.le_refl _) o
 have HBX := hH hbx; clear hbx
 have HO := hH (own_out (Or.inl hs))
 go_enter Tryz.func123, Tryz.ntmps123
 go_wp2_with fail
 all_goals
  go_ret
  exact ⟨ret_bool (uh HO).symm, uh HBX _⟩
theorem own_hi (t : Tr) (P : Nat → Prop) (c : C5) (w : World) (hrep : Rep P w t c) (hs : 6 < t.sort) :
 Calls Tryz.prog 123 #[.agg #[c.c0, c.c1, c.c2, c.c3, c.c4]] w fun e w' => e = .returned (.bool (ownB t)) ∧ Below w.heap.size w w' := by
 obtain ⟨c0, c1, c2, c3, c4⟩ := c
 obtain ⟨e0, e1, e2, -, -, htx, ⟨a3, cap3, e3, hl3, -⟩, a, cap, e4, hlen, -⟩ := hrep.open
 simp only at e0 e1 e2 e3 e4
 subst e0 e1 e2 e3 e4
 clear hrep
 have hbx : ∀ o, Below w.heap.size w (w.alloc o) := fun o => (Below.refl _ _).alloc (Nat.le_refl _) o
 have HBX := hH hbx; clear hbx
 have HO := hH (own_out (Or.inr hs))
 go_enter Tryz.func123, Tryz.ntmps123
 go_wp2_with fail
 all_goals
  go_ret
  exact ⟨ret_bool (uh HO).symm, uh HBX _⟩
theorem own_any (t : Tr) (P : Nat → Prop) (c : C5) (w : World) (hrep : Rep P w t c) (hT : Tab w) (hw : 1 < w.heap.size) :
 Calls Tryz.prog 123 #[.agg #[c.c0, c.c1, c.c2, c.c3, c.c4]] w fun e w' => e = .returned (.bool (ownB t)) ∧ Below w.heap.size w w' := by
 have h : t.sort < 1 ∨ 6 < t.sort ∨ t.sort = 1 ∨ t.sort = 2 ∨ t.sort = 3 ∨ t.sort = 4 ∨ t.sort = 5 ∨ t.sort = 6 := by omega
 rcases h with h | h | h | h | h | h | h | h
 · exact own_lo t P c w hrep h
 · exact own_hi t P c w hrep h
 · exact own_1 t P c w hrep hT hw h
 · exact own_2 t P c w hrep hT hw h
 · exact own_3 t P c w hrep hT hw h
 · exact own_4 t P c w hrep hT hw h
 · exact own_5 t P c w hrep hT hw h
 · exact own_6 t P c w hrep hT hw h

theorem Tab.lt {w : World} (h : Tab w) : 1 < w.heap.size := World.block_lt_of_cell? w _ (h 0 (by omega))
theorem Tab.of_block {w w' : World} (h : Tab w) (e : w'.heap[1]? = w.heap[1]?) : Tab w' := fun i hi => by
 rw [World.cell?_of_block (w := w) (a := ⟨1, i, none⟩) e]; exact h i hi
theorem Tab.but {w w' : World} {B : Nat} (h : Tab w) (hb : But B w w') (hB : 1 < B) : Tab w' := h.of_block (hb.at h.lt (by omega))

theorem infoSorted : (Tryz.prog.info? 94).map (fun i => (i.zero, i.size, i.bytes)) = some (some .nilIface, 1, 16) := by kernel_rfl
def TreeSaid (n : Nat) : Prop := ∀ (t : Tr), tsz t < n → ∀ (P : Nat → Prop) (c : C5) (w : World) (B : Nat) (p l : Int), (∀ b, P b → b < w.heap.size ∧ b ≠ B) → Rep P w t c → Bnd w B p l → Tab w → 1 < B → 0 ≤ p → p ≤ 120 → 0 ≤ l → l ≤ 6 →
    Calls Tryz.prog 93 #[.pointer (some ⟨B, 0, none⟩), .agg #[c.c0, c.c1, c.c2, c.c3, c.c4]] w fun e w' => But B w w' ∧
     ((∃ q v, wlk t p l = some q ∧ e = .returned v ∧ SRep (fun b => P b ∨ (w.heap.size ≤ b ∧ b < w'.heap.size)) w' t v ∧ Bnd w' B q l) ∨ (wlk t p l = none ∧ e = fltE))
theorem trees_any (n : Nat) (IH : TreeSaid n) (t : Tr) (hn : tsz t ≤ n) (P : Nat → Prop) (a : Option Addr) (cap : Nat) (w : World) (B : Nat) (p l : Int) (hP : ∀ b, P b → b < w.heap.size ∧ b ≠ B)
 (hlen : t.kids.length ≤ 9223372036854775807)
 (hc : ∀ i, (hi : i < t.kids.length) → ∃ b o c, a = some ⟨b, o, none⟩ ∧ P b ∧ C5.at w b (o + i * 5) c ∧ Rep P w t.kids[i] c)
 (hB : Bnd w B p l) (hT : Tab w) (hB0 : 1 < B) (hp0 : 0 ≤ p) (hp1 : p ≤ 120) (hl0 : 0 ≤ l) (hl1 : l ≤ 6) :
 Calls Tryz.prog 145 #[.pointer (some ⟨B, 0, none⟩), .slice a t.kids.length cap] w fun e w' => But B w w' ∧
  ((∃ q v, wlkK t.kids p l = some q ∧ e = .returned v ∧ SKids (fun b => P b ∨ (w.heap.size ≤ b ∧ b < w'.heap.size)) w' v t.kids ∧ Bnd w' B q l) ∨ (wlkK t.kids p l = none ∧ e = fltE)) := by
 have hBw := hB.lt
 obtain ⟨i0, hi, hz0, hz1, hz2⟩ := info_parts infoSorted
 generalize hks : t.kids = ks at *
 have HK := hH hks; clear hks
 have HC := hH hc; clear hc
 have HP := hH hP; clear hP
 have HI := hH IH; clear IH
 have HT := hH hT; clear hT
 have HB := hH hB; clear hB
 have HIF := hH (And.intro hi (And.intro hz0 (And.intro hz1 hz2))); clear hi hz0 hz1 hz2
 go_enter Tryz.func145, Tryz.ntmps145
 go_wp2_with fail
 go_loopw [5, 10] (fun s i wr => ∃ (k : Nat) (q : Int) (a' : Option Addr) (cap' : Nat), k ≤ ks.length ∧ i = .int .i64 k ∧ s = .slice a' k cap' ∧ 0 ≤ q ∧ q ≤ 120 ∧ Hid (wlkK (ks.drop k) q l = wlkK ks p l) ∧ Hid (Got P w wr s ks k) ∧ Hid (Bnd wr B q l) ∧ Hid (But B w wr) ∧ (k : Int) ≤ q) (fun _ i _ => ks.length - (intOf i).toNat)
 case atStart => exact ⟨0, p, none, 0, Nat.zero_le _, rfl, rfl, hp0, hp1, rfl, hH (Got.start P w ks), HB, hH (But.refl B w), by simpa using hp0⟩
 case round =>
  obtain ⟨k, q, a', cap', hk, rfl, rfl, hq0, hq1, HQ, HG, HBQ, HBT, hkq⟩ := hrel
  by_cases hlt : k < ks.length
  · obtain ⟨b, o, c, rfl, hpb, hcell, hrep⟩ := uh HC k hlt
    have hsw := HBT.out.size
    have hcell' := hcell.carry (HBT.out.at (uh HP b hpb).1 (uh HP b hpb).2)
    obtain ⟨c0, c1, c2, c3, c4⟩ := c
    obtain ⟨e0, e1, e2, e3, e4⟩ := hcell'
    simp only at e0 e1 e2 e3 e4
    have HR := hH hrep; clear hrep hcell hpb
    have hmem : ks[k] ∈ t.kids := by rw [uh HK]; exact List.getElem_mem hlt
    have hsm : tsz ks[k] < n := by have := tsz_kid hmem; omega
    clear hmem
    have hrw : Rep P wr ks[k] ⟨c0, c1, c2, c3, c4⟩ := Rep.carry (fun b hb => HBT.out.at (uh HP b hb).1 (uh HP b hb).2) (fun _ h => h) _ _ (uh HR)
    have hcall : ∀ o, Calls Tryz.prog 93 #[.pointer (some ⟨B, 0, none⟩), .agg #[c0, c1, c2, c3, c4]] (wr.alloc o) fun e w' => But B (wr.alloc o) w' ∧
     ((∃ q' v, wlk ks[k] q l = some q' ∧ e = .returned v ∧ SRep (fun b => P b ∨ ((wr.alloc o).heap.size ≤ b ∧ b < w'.heap.size)) w' ks[k] v ∧ Bnd w' B q' l) ∨ (wlk ks[k] q l = none ∧ e = fltE)) := fun o =>
     uh HI ks[k] hsm P ⟨c0, c1, c2, c3, c4⟩ (wr.alloc o) B q l (fun b hb => ⟨by have := (uh HP b hb).1; simp; omega, (uh HP b hb).2⟩) (Rep.carry (fun b hb => Below.heap_alloc _ _ _ (by have := (uh HP b hb).1; omega)) (fun _ h => h) _ _ hrw) (HBQ.out.alloc o) ((uh HT).but (HBT.out.trans (But.alloc B wr o)) hB0) hB0 hq0 hq1 hl0 hl1
    have HCALL := hH hcall
    obtain ⟨g0, g1, g2, -, -, -, ⟨a3, cap3, g3, -⟩, a4, cap4, g4, -⟩ := hrw.open
    simp only at g0 g1 g2 g3 g4
    subst g0 g1 g2 g3 g4
    clear hcall hrw HR
    have HST := hH (wlkK_step hlt q l)
    go_wp2_with fail
    refine (uh HCALL _).mono ?_
    rintro e w2 ⟨hbt, ⟨q', v, hwl, rfl, hsr, hbnd⟩ | ⟨hwl, rfl⟩⟩
    · have hst := uh HST
      rw [hwl] at hst
      simp only at hst
      have hbd := wlk_bd _ _ _ _ hq0 hq1 hwl
      have hfin : wlkK (ks.drop (k + 1)) q' l = wlkK ks p l := by rw [← HQ.out, hst]
      have HFIN := hH hfin
      have hbt1 := (But.alloc B wr _).trans hbt
      have hg0 := HG.out
      have hg2 := hg0.kept (uh HP) hBw hsw hbt1
      obtain ⟨xs0, hown0, -⟩ := hg0
      obtain ⟨xs, hown, hx⟩ := hg2
      have hnew : SRep (fun b => P b ∨ (w.heap.size ≤ b ∧ b < w2.heap.size ∧ some b ≠ (Value.slice a' k cap').ownBlock)) w2 ks[k] v := by
       refine SRep.carry (fun _ _ => rfl) (fun b hb => ?_) _ _ hsr
       rcases hb with hb | ⟨hb1, hb2⟩
       · exact Or.inl hb
       · have hb1' : wr.heap.size + 1 ≤ b := by simpa using hb1
         exact Or.inr ⟨by omega, hb2, fun e => by have := (hown0.lt b e.symm).2; omega⟩
      obtain ⟨T, x, rfl⟩ := hsr.iface
      have hbt2 := HBT.out.trans hbt1
      have hs2 := hbt2.size
      have HBT2 := hH hbt2; have HX := hH hx; have HNEW := hH hnew; have HOWN := hH hown; have HBN := hH hbnd
      obtain ⟨hi, hz0, hz1, hz2⟩ := uh HIF
      clear hfin hst hwl hbt hbt1 hbt2 hown0 hx hnew hsr hbnd hown e0 e1 e2 e3 e4 HCALL HST HBQ
      have HII := hH hi; have HZ0 := hH hz0; have HZ1 := hH hz1; have HZ2 := hH hz2
      clear hi hz0 hz1 hz2
      go_wp2_with (at_builtin; refine append_row _ rfl _ _ 135 rfl w.heap.size 94 i0 .nilIface 1 16 Tryz.underlying135 (uh HII) (uh HZ0) (uh HZ1) (uh HZ2) rfl (by decide) (.slice a' k cap') k xs rfl ((uh HOWN).alloc _) ⟨w2.heap.size, 0, none⟩ 1 1 [.iface T x] rfl rfl (cell_one _ _ _) (fun u hu => by simp at hu; subst hu; rfl) (by decide) (by unfold maxLen; omega) (by omega) (by simp; omega) ?_; intro v' w4 hown' hgrow hv')
      have hown2 := uh HOWN
      obtain ⟨g', cap'', hv''⟩ : ∃ g' cap'', v' = .slice (some ⟨g', 0, none⟩) (k + 1) cap'' := by
       rcases hown'.2 with ⟨_, h⟩ | ⟨g', cap'', _, h, _⟩
       · omega
       · exact ⟨g', cap'', h⟩
      have hb3 : Below w2.heap.size w2 (w2.alloc (.cells #[.iface T x] 94)) := (Below.refl _ _).alloc (Nat.le_refl _) _
      have hgot := Got.push (uh HP) hlt hs2 hown2 (uh HX) (uh HNEW) hb3 hown' hgrow hv'
      have hs3 := hb3.size
      have hs4 := hgrow.size
      have hbnd4 : Bnd w4 B q' l := by
       refine (uh HBN).of_block ?_
       rw [hgrow.block B (by omega) (fun e => by have := (hown2.lt B e.symm).1; omega), hb3.block B (by omega)]
      have hbut4 : But B w w4 := by
       have h2 := uh HBT2
       refine ⟨hgrow.os.trans (hb3.os.trans h2.os), hgrow.tape.trans (hb3.tape.trans h2.tape), hgrow.output.trans (hb3.output.trans h2.output), by omega, fun i hi hne => ?_⟩
       rw [hgrow.block i (by omega) (fun e => by have := (hown2.lt i e.symm).1; omega), hb3.block i (by omega), h2.block i hi hne]
      clear hown2
      go_roundw
      case rel => exact ⟨k + 1, q', some ⟨g', 0, none⟩, cap'', by omega, by go_num, hv'', by omega, hbd.2, HFIN, hgot, hbnd4, hbut4, by omega⟩
      case measure => simp [intOf]; omega
    · have hfin : wlkK ks p l = none := by rw [← HQ.out, uh HST, hwl]
      have HFIN := hH hfin
      have hbt2 := HBT.out.trans ((But.alloc B wr _).trans hbt)
      have HBT2 := hH hbt2
      clear hfin hbt hwl hbt2
      go_wp2_with fail
      exact ⟨rfl, uh HBT2, Or.inr ⟨uh HFIN, rfl⟩⟩
  · go_wp2_with fail
    go_ret
    obtain rfl : k = ks.length := by omega
    refine ⟨HBT.out, Or.inl ⟨q, _, ?_, rfl, HG.out.done, HBQ.out⟩⟩
    rw [← HQ.out, List.drop_of_length_le (Nat.le_refl _), wlkK]

theorem newFlag_yes (n : Int) (w : World) (h : 0 ≤ n ∧ n ≤ 1) : Calls Tryz.prog 144 #[.int .i64 n] w fun e w' => e = .returned (.bool (n == 1)) ∧ w' = w := by
 have h' : n = 0 ∨ n = 1 := by omega
 clear h
 rcases h' with rfl | rfl
 · go_enter Tryz.func144, Tryz.ntmps144
   go_wp2_with (go_at_call 68; refine (treeWant_yes _).mono ?_; rintro e w' ⟨rfl, rfl⟩)
   go_ret
   exact ⟨rfl, rfl⟩
 · go_enter Tryz.func144, Tryz.ntmps144
   go_wp2_with (go_at_call 68; refine (treeWant_yes _).mono ?_; rintro e w' ⟨rfl, rfl⟩)
   go_ret
   exact ⟨rfl, rfl⟩
theorem newFlag_no (n : Int) (w : World) (h : ¬ (0 ≤ n ∧ n ≤ 1)) : Calls Tryz.prog 144 #[.int .i64 n] w fun e w' => e = fltE ∧ w' = w := by
 have h0 : (n == 0) = false := by simp; omega
 have h1 : (n == 1) = false := by simp; omega
 clear h
 go_enter Tryz.func144, Tryz.ntmps144
 go_wp2_with (go_at_call 68; refine (treeWant_no _).mono ?_; rintro e w' ⟨rfl, rfl⟩)
 exact ⟨rfl, rfl, rfl⟩

def ofS (t : Tr) (p l : Int) : Option Int := match wlkK t.kids p l with
 | none => none
 | some q => if newB t = true then some q else none
theorem wlk_of (t : Tr) (p l : Int) (h : p + 1 ≤ 120 ∧ l + 1 ≤ 6) (ho : ownB t = true) : wlk t p l = ofS t (p + 1) (l + 1) := by
 rw [wlk_eq, if_pos h, if_pos ho]; rfl
def OfPost (P : Nat → Prop) (t : Tr) (B : Nat) (p l : Int) (w : World) (e : Ending) (w' : World) : Prop :=
 But B w w' ∧ ((∃ q v, ofS t p l = some q ∧ e = .returned v ∧ SRep (fun b => P b ∨ (w.heap.size ≤ b ∧ b < w'.heap.size)) w' t v ∧ Bnd w' B q l) ∨ (ofS t p l = none ∧ e = fltE))
theorem own_kids {t : Tr} (h : ownB t = true) (hs : t.sort = 1 ∨ t.sort = 2 ∨ t.sort = 3) : t.kids = [] := by
 unfold ownB at h
 apply List.eq_nil_of_length_eq_zero
 rcases hs with hs | hs | hs <;> · simp [hs] at h; simp [h]
theorem ofIts_1 (t : Tr) (P : Nat → Prop) (c : C5) (w : World) (B : Nat) (p l : Int) (hrep : Rep P w t c) (hB : Bnd w B p l) (ho : ownB t = true) (hs : t.sort = 1) :
 Calls Tryz.prog 124 #[.pointer (some ⟨B, 0, none⟩), .agg #[c.c0, c.c1, c.c2, c.c3, c.c4]] w (OfPost P t B p l w) := by
 have hk := own_kids ho (Or.inl hs)
 have hof : ofS t p l = if newB t = true then some p else none := by unfold ofS; rw [hk, wlkK]
 have hnb : newB t = decide (-999999999 ≤ t.num ∧ t.num ≤ 999999999) := by unfold newB; rw [if_pos hs]
 obtain ⟨c0, c1, c2, c3, c4⟩ := c
 obtain ⟨e0, e1, e2, -, -, htx, ⟨a3, cap3, e3, hl3, -⟩, a, cap, e4, hlen, -⟩ := hrep.open
 simp only at e0 e1 e2 e3 e4
 subst e0 e1 e2 e3 e4
 have HOF := hH hof; have HNB := hH hnb; have HB := hH hB
 clear hrep hk hof hnb hB ho
 by_cases hr : -999999999 ≤ t.num ∧ t.num ≤ 999999999
 · have HR := hH hr
   clear hr
   go_enter Tryz.func124, Tryz.ntmps124
   go_wp2_with (go_at_call 128; refine (newNum_yes _ _ (uh HR)).mono ?_; rintro e w' ⟨rfl, rfl⟩)
   go_ret
   refine ⟨But.alloc B w _, Or.inl ⟨p, _, ?_, rfl, srep1 hs, (uh HB).alloc _⟩⟩
   rw [uh HOF, if_pos (by rw [uh HNB]; simpa using uh HR)]
 · have HR := hH hr
   clear hr
   go_enter Tryz.func124, Tryz.ntmps124
   go_wp2_with (go_at_call 128; refine (newNum_no _ _ (uh HR)).mono ?_; rintro e w' ⟨rfl, rfl⟩)
   refine ⟨rfl, But.alloc B w _, Or.inr ⟨?_, rfl⟩⟩
   rw [uh HOF, if_neg (by rw [uh HNB]; simpa using uh HR)]
theorem ofIts_2 (t : Tr) (P : Nat → Prop) (c : C5) (w : World) (B : Nat) (p l : Int) (hrep : Rep P w t c) (hB : Bnd w B p l) (ho : ownB t = true) (hs : t.sort = 2) :
 Calls Tryz.prog 124 #[.pointer (some ⟨B, 0, none⟩), .agg #[c.c0, c.c1, c.c2, c.c3, c.c4]] w (OfPost P t B p l w) := by
 have hk := own_kids ho (Or.inr (Or.inl hs))
 have hof : ofS t p l = if newB t = true then some p else none := by unfold ofS; rw [hk, wlkK]
 have hnb : newB t = textOkB t.text := by unfold newB; rw [if_neg (by omega), if_pos hs]
 obtain ⟨c0, c1, c2, c3, c4⟩ := c
 obtain ⟨e0, e1, e2, -, -, htx, ⟨a3, cap3, e3, hl3, -⟩, a, cap, e4, hlen, -⟩ := hrep.open
 simp only at e0 e1 e2 e3 e4
 subst e0 e1 e2 e3 e4
 have HOF := hH hof; have HNB := hH hnb; have HB := hH hB
 clear hrep hk hof hnb hB ho
 go_enter Tryz.func124, Tryz.ntmps124
 go_wp2_with fail
 refine (newText_any t.text _ htx).mono ?_
 rintro e w' ⟨⟨hok, rfl⟩ | ⟨hok, rfl⟩, rfl⟩
 · have HOK := hH hok; clear hok
   go_wp2_with fail
   go_ret
   refine ⟨But.alloc B w _, Or.inl ⟨p, _, ?_, rfl, srep2 hs, (uh HB).alloc _⟩⟩
   rw [uh HOF, if_pos (by rw [uh HNB]; exact uh HOK)]
 · have HOK := hH hok; clear hok
   go_wp2_with fail
   refine ⟨rfl, But.alloc B w _, Or.inr ⟨?_, rfl⟩⟩
   rw [uh HOF, if_neg (by rw [uh HNB, uh HOK]; simp)]
theorem ofIts_3 (t : Tr) (P : Nat → Prop) (c : C5) (w : World) (B : Nat) (p l : Int) (hrep : Rep P w t c) (hB : Bnd w B p l) (ho : ownB t = true) (hs : t.sort = 3) :
 Calls Tryz.prog 124 #[.pointer (some ⟨B, 0, none⟩), .agg #[c.c0, c.c1, c.c2, c.c3, c.c4]] w (OfPost P t B p l w) := by
 have hk := own_kids ho (Or.inr (Or.inr hs))
 have hof : ofS t p l = if newB t = true then some p else none := by unfold ofS; rw [hk, wlkK]
 have hnb : newB t = decide (0 ≤ t.num ∧ t.num ≤ 1) := by unfold newB; rw [if_neg (by omega), if_neg (by omega), if_pos hs]
 obtain ⟨c0, c1, c2, c3, c4⟩ := c
 obtain ⟨e0, e1, e2, -, -, htx, ⟨a3, cap3, e3, hl3, -⟩, a, cap, e4, hlen, -⟩ := hrep.open
 simp only at e0 e1 e2 e3 e4
 subst e0 e1 e2 e3 e4
 have HOF := hH hof; have HNB := hH hnb; have HB := hH hB
 clear hrep hk hof hnb hB ho
 by_cases hr : 0 ≤ t.num ∧ t.num ≤ 1
 · have HR := hH hr
   clear hr
   go_enter Tryz.func124, Tryz.ntmps124
   go_wp2_with (go_at_call 144; refine (newFlag_yes _ _ (uh HR)).mono ?_; rintro e w' ⟨rfl, rfl⟩)
   go_ret
   refine ⟨But.alloc B w _, Or.inl ⟨p, _, ?_, rfl, srep3 hs, (uh HB).alloc _⟩⟩
   rw [uh HOF, if_pos (by rw [uh HNB]; simpa using uh HR)]
 · have HR := hH hr
   clear hr
   go_enter Tryz.func124, Tryz.ntmps124
   go_wp2_with (go_at_call 144; refine (newFlag_no _ _ (uh HR)).mono ?_; rintro e w' ⟨rfl, rfl⟩)
   refine ⟨rfl, But.alloc B w _, Or.inr ⟨?_, rfl⟩⟩
   rw [uh HOF, if_neg (by rw [uh HNB]; simpa using uh HR)]
theorem ofIts_4 (n : Nat) (IH : TreeSaid n) (t : Tr) (hn : tsz t ≤ n) (P : Nat → Prop) (c : C5) (w : World) (B : Nat) (p l : Int) (hP : ∀ b, P b → b < w.heap.size ∧ b ≠ B) (hrep : Rep P w t c) (hB : Bnd w B p l) (hT : Tab w) (hB0 : 1 < B) (hp0 : 0 ≤ p) (hp1 : p ≤ 120) (hl0 : 0 ≤ l) (hl1 : l ≤ 6) (hs : t.sort = 4) :
 Calls Tryz.prog 124 #[.pointer (some ⟨B, 0, none⟩), .agg #[c.c0, c.c1, c.c2, c.c3, c.c4]] w (OfPost P t B p l w) := by
 have hnb : newB t = decide (t.kids.length ≤ 20) := by unfold newB; rw [if_neg (by omega), if_neg (by omega), if_neg (by omega), if_pos hs]
 obtain ⟨c0, c1, c2, c3, c4⟩ := c
 obtain ⟨e0, e1, e2, -, -, -, hns, a, cap, e4, hlen, hks⟩ := hrep.open
 simp only at e0 e1 e2 hns e4
 have HNS := hH hns
 obtain ⟨a3, cap3, e3, hl3, -⟩ := hns
 subst e0 e1 e2 e3 e4
 have htrees : ∀ o, Calls Tryz.prog 145 #[.pointer (some ⟨B, 0, none⟩), .slice a t.kids.length cap] (w.alloc o) fun e w' => But B (w.alloc o) w' ∧
  ((∃ q v, wlkK t.kids p l = some q ∧ e = .returned v ∧ SKids (fun b => P b ∨ (w.heap.size ≤ b ∧ b < w'.heap.size)) w' v t.kids ∧ Bnd w' B q l) ∨ (wlkK t.kids p l = none ∧ e = fltE)) := fun o =>
  (trees_any n IH t hn P a cap (w.alloc o) B p l (fun b hb => ⟨by have := (hP b hb).1; simp; omega, (hP b hb).2⟩) hlen (fun i hi => by
    obtain ⟨b, o2, c, h1, h2, h3, h4⟩ := hks i hi
    exact ⟨b, o2, c, h1, h2, h3.carry (Below.heap_alloc _ _ _ (hP b h2).1), Rep.carry (fun b hb => Below.heap_alloc _ _ _ (hP b hb).1) (fun _ h => h) _ _ h4⟩) (hB.alloc o) (hT.but (But.alloc B w o) hB0) hB0 hp0 hp1 hl0 hl1).mono
    fun e w' ⟨h1, h2⟩ => ⟨h1, h2.imp (fun ⟨q, v, g1, g2, g3, g4⟩ => ⟨q, v, g1, g2, g3.carry (fun _ _ => rfl) (fun b hb => hb.imp id (fun hb => ⟨by have := hb.1; simp at this; omega, hb.2⟩)), g4⟩) id⟩
 have HNB := hH hnb; have HTR := hH htrees; have HP := hH hP
 clear hrep hnb hB htrees hks hP IH hT
 go_enter Tryz.func124, Tryz.ntmps124
 go_wp2_with fail
 refine (uh HTR _).mono ?_
 rintro e w' ⟨hbt, ⟨q, v, hwl, rfl, hk, hbnd⟩ | ⟨hwl, rfl⟩⟩
 · have hbt2 := (But.alloc B w _).trans hbt
   have HBT := hH hbt2; have HWL := hH hwl; have HK := hH hk; have HBN := hH hbnd
   obtain ⟨a', cap', rfl, -⟩ := hk
   clear hbt hbt2 hwl hbnd
   by_cases hr : t.kids.length ≤ 20
   · have HR := hH hr; clear hr
     go_wp2_with (go_at_call 132; refine (newList_yes _ _ _ _ (uh HR)).mono ?_; rintro e w2 ⟨rfl, rfl⟩)
     go_ret
     refine ⟨uh HBT, Or.inl ⟨q, _, ?_, rfl, srep4 hs (uh HK), uh HBN⟩⟩
     unfold ofS
     rw [uh HWL]
     simp only
     rw [if_pos (by rw [uh HNB]; simpa using uh HR)]
   · have HR := hH hr; clear hr
     go_wp2_with (go_at_call 132; refine (newList_no _ _ _ _ (uh HR)).mono ?_; rintro e w2 ⟨rfl, rfl⟩)
     refine ⟨rfl, uh HBT, Or.inr ⟨?_, rfl⟩⟩
     unfold ofS
     rw [uh HWL]
     simp only
     rw [if_neg (by rw [uh HNB]; simpa using uh HR)]
 · have hbt2 := (But.alloc B w _).trans hbt
   have HBT := hH hbt2; have HWL := hH hwl
   clear hbt hbt2 hwl
   go_wp2_with fail
   refine ⟨rfl, uh HBT, Or.inr ⟨?_, rfl⟩⟩
   unfold ofS
   rw [uh HWL]
theorem ofIts_6 (n : Nat) (IH : TreeSaid n) (t : Tr) (hn : tsz t ≤ n) (P : Nat → Prop) (c : C5) (w : World) (B : Nat) (p l : Int) (hP : ∀ b, P b → b < w.heap.size ∧ b ≠ B) (hrep : Rep P w t c) (hB : Bnd w B p l) (hT : Tab w) (hB0 : 1 < B) (hp0 : 0 ≤ p) (hp1 : p ≤ 120) (hl0 : 0 ≤ l) (hl1 : l ≤ 6) (hs : t.sort = 6) :
 Calls Tryz.prog 124 #[.pointer (some ⟨B, 0, none⟩), .agg #[c.c0, c.c1, c.c2, c.c3, c.c4]] w (OfPost P t B p l w) := by
 have hnb : newB t = decide (t.kids.length ≤ 1) := by unfold newB; rw [if_neg (by omega), if_neg (by omega), if_neg (by omega), if_neg (by omega), if_neg (by omega), if_pos hs]
 obtain ⟨c0, c1, c2, c3, c4⟩ := c
 obtain ⟨e0, e1, e2, -, -, -, hns, a, cap, e4, hlen, hks⟩ := hrep.open
 simp only at e0 e1 e2 hns e4
 have HNS := hH hns
 obtain ⟨a3, cap3, e3, hl3, -⟩ := hns
 subst e0 e1 e2 e3 e4
 have htrees : ∀ o, Calls Tryz.prog 145 #[.pointer (some ⟨B, 0, none⟩), .slice a t.kids.length cap] (w.alloc o) fun e w' => But B (w.alloc o) w' ∧
  ((∃ q v, wlkK t.kids p l = some q ∧ e = .returned v ∧ SKids (fun b => P b ∨ (w.heap.size ≤ b ∧ b < w'.heap.size)) w' v t.kids ∧ Bnd w' B q l) ∨ (wlkK t.kids p l = none ∧ e = fltE)) := fun o =>
  (trees_any n IH t hn P a cap (w.alloc o) B p l (fun b hb => ⟨by have := (hP b hb).1; simp; omega, (hP b hb).2⟩) hlen (fun i hi => by
    obtain ⟨b, o2, c, h1, h2, h3, h4⟩ := hks i hi
    exact ⟨b, o2, c, h1, h2, h3.carry (Below.heap_alloc _ _ _ (hP b h2).1), Rep.carry (fun b hb => Below.heap_alloc _ _ _ (hP b hb).1) (fun _ h => h) _ _ h4⟩) (hB.alloc o) (hT.but (But.alloc B w o) hB0) hB0 hp0 hp1 hl0 hl1).mono
    fun e w' ⟨h1, h2⟩ => ⟨h1, h2.imp (fun ⟨q, v, g1, g2, g3, g4⟩ => ⟨q, v, g1, g2, g3.carry (fun _ _ => rfl) (fun b hb => hb.imp id (fun hb => ⟨by have := hb.1; simp at this; omega, hb.2⟩)), g4⟩) id⟩
 have HNB := hH hnb; have HTR := hH htrees; have HP := hH hP
 clear hrep hnb hB htrees hks hP IH hT
 go_enter Tryz.func124, Tryz.ntmps124
 go_wp2_with fail
 refine (uh HTR _).mono ?_
 rintro e w' ⟨hbt, ⟨q, v, hwl, rfl, hk, hbnd⟩ | ⟨hwl, rfl⟩⟩
 · have hbt2 := (But.alloc B w _).trans hbt
   have HBT := hH hbt2; have HWL := hH hwl; have HK := hH hk; have HBN := hH hbnd
   obtain ⟨a', cap', rfl, -⟩ := hk
   clear hbt hbt2 hwl hbnd
   by_cases hr : t.kids.length ≤ 1
   · have HR := hH hr; clear hr
     go_wp2_with (go_at_call 134; refine (newMaybe_yes _ _ _ _ (uh HR)).mono ?_; rintro e w2 ⟨rfl, rfl⟩)
     go_ret
     refine ⟨uh HBT, Or.inl ⟨q, _, ?_, rfl, srep6 hs (uh HK), uh HBN⟩⟩
     unfold ofS
     rw [uh HWL]
     simp only
     rw [if_pos (by rw [uh HNB]; simpa using uh HR)]
   · have HR := hH hr; clear hr
     go_wp2_with (go_at_call 134; refine (newMaybe_no _ _ _ _ (uh HR)).mono ?_; rintro e w2 ⟨rfl, rfl⟩)
     refine ⟨rfl, uh HBT, Or.inr ⟨?_, rfl⟩⟩
     unfold ofS
     rw [uh HWL]
     simp only
     rw [if_neg (by rw [uh HNB]; simpa using uh HR)]
 · have hbt2 := (But.alloc B w _).trans hbt
   have HBT := hH hbt2; have HWL := hH hwl
   clear hbt hbt2 hwl
   go_wp2_with fail
   refine ⟨rfl, uh HBT, Or.inr ⟨?_, rfl⟩⟩
   unfold ofS
   rw [uh HWL]
theorem ofIts_5 (n : Nat) (IH : TreeSaid n) (t : Tr) (hn : tsz t ≤ n) (P : Nat → Prop) (c : C5) (w : World) (B : Nat) (p l : Int) (hP : ∀ b, P b → b < w.heap.size ∧ b ≠ B) (hrep : Rep P w t c) (hB : Bnd w B p l) (hT : Tab w) (hB0 : 1 < B) (hp0 : 0 ≤ p) (hp1 : p ≤ 120) (hl0 : 0 ≤ l) (hl1 : l ≤ 6) (hs : t.sort = 5) :
 Calls Tryz.prog 124 #[.pointer (some ⟨B, 0, none⟩), .agg #[c.c0, c.c1, c.c2, c.c3, c.c4]] w (OfPost P t B p l w) := by
 have hnb : newB t = (decide (t.names.length = t.kids.length) && riseB t.names) := by unfold newB; rw [if_neg (by omega), if_neg (by omega), if_neg (by omega), if_neg (by omega), if_pos hs]
 obtain ⟨c0, c1, c2, c3, c4⟩ := c
 obtain ⟨e0, e1, e2, -, -, -, hns, a, cap, e4, hlen, hks⟩ := hrep.open
 simp only at e0 e1 e2 hns e4
 have HNS := hH hns
 obtain ⟨a3, cap3, e3, hl3, -⟩ := hns
 subst e0 e1 e2 e3 e4
 have hPd : ∀ o, ∀ b, P b → b < ((w.alloc o).drew).heap.size ∧ b ≠ B := fun o b hb => ⟨by have := (hP b hb).1; simp; omega, (hP b hb).2⟩
 have hbd : ∀ o, But B w ((w.alloc o).drew) := fun o => But.of_below ((Below.refl _ _).alloc (Nat.le_refl _) o).drew
 have htrees : ∀ o, Calls Tryz.prog 145 #[.pointer (some ⟨B, 0, none⟩), .slice a t.kids.length cap] ((w.alloc o).drew) fun e w' => But B ((w.alloc o).drew) w' ∧
  ((∃ q v, wlkK t.kids p l = some q ∧ e = .returned v ∧ SKids (fun b => P b ∨ (w.heap.size ≤ b ∧ b < w'.heap.size)) w' v t.kids ∧ Bnd w' B q l) ∨ (wlkK t.kids p l = none ∧ e = fltE)) := fun o =>
  (trees_any n IH t hn P a cap ((w.alloc o).drew) B p l (hPd o) hlen (fun i hi => by
    obtain ⟨b, o2, c, h1, h2, h3, h4⟩ := hks i hi
    exact ⟨b, o2, c, h1, h2, h3.carry ((hbd o).at (hP b h2).1 (hP b h2).2), Rep.carry (fun b hb => (hbd o).at (hP b hb).1 (hP b hb).2) (fun _ h => h) _ _ h4⟩) (hB.of_block (((Below.refl _ _).alloc (Nat.le_refl _) o).drew.block B hB.lt)) (hT.but (hbd o) hB0) hB0 hp0 hp1 hl0 hl1).mono
    fun e w' ⟨h1, h2⟩ => ⟨h1, h2.imp (fun ⟨q, v, g1, g2, g3, g4⟩ => ⟨q, v, g1, g2, g3.carry (fun _ _ => rfl) (fun b hb => hb.imp id (fun hb => ⟨by have := hb.1; simp at this; omega, hb.2⟩)), g4⟩) id⟩
 have hBw := hB.lt
 have HNB := hH hnb; have HP := hH hP; have HBD := hH hbd
 clear hrep hnb hB hks hP IH hT hPd hbd
 cases hw : wlkK t.kids p l with
 | none =>
   have htr : ∀ o, Calls Tryz.prog 145 #[.pointer (some ⟨B, 0, none⟩), .slice a t.kids.length cap] ((w.alloc o).drew) fun e w' => But B w w' ∧ e = fltE := fun o => (htrees o).mono fun e w' ⟨h1, h2⟩ => by
    rcases h2 with ⟨q, v, g1, _⟩ | ⟨_, g2⟩
    · rw [hw] at g1; cases g1
    · exact ⟨(uh HBD o).trans h1, g2⟩
   have HTR := hH htr
   have HOF : Hid (ofS t p l = none) := by show _ = _; unfold ofS; rw [hw]
   clear htrees htr hw
   go_enter Tryz.func124, Tryz.ntmps124
   go_wp2_with fail
   refine wp_region_any (by kernel_rfl) ?_
   change wpAny _ _ _ _ _ _ _ (World.drew _)
   refine wpAny_take (i := 0) (v := .pointer (some ⟨w.heap.size, 3, none⟩)) rfl (by kernel_rfl) (by kernel_rfl) (by kernel_rfl) (fun _ _ _ h => h) (Or.inl ⟨by rfl, fun w => by go_simp⟩) ?_
   refine wpAny_take (i := 2) (v := .pointer (some ⟨B, 0, none⟩)) rfl (by kernel_rfl) (by kernel_rfl) (by kernel_rfl) (fun _ _ _ h => h) (Or.inl ⟨by rfl, fun w => by go_simp⟩) ?_
   refine wpAny_take (i := 3) (v := .pointer (some ⟨w.heap.size, 4, none⟩)) rfl (by kernel_rfl) (by kernel_rfl) (by kernel_rfl) (fun _ _ _ h => h) (Or.inl ⟨by rfl, fun w => by go_simp⟩) ?_
   refine wpAny_ready (rs := [1, 4]) (by kernel_rfl) (by simp) ?_
   refine AllReady.cons rfl (fun K hK => ?_) (AllReady.cons rfl (fun K hK => ?_) AllReady.nil)
   · go_simp
     refine hK _ _ ?_; clear hK K
     refine wpAny_ready (rs := [4]) (by kernel_rfl) (by simp) ?_
     refine AllReady.cons rfl (fun K hK => ?_) AllReady.nil
     go_simp
     refine hK _ _ ?_; clear hK K
     refine wpAny_ready (rs := [5]) (by kernel_rfl) (by simp) ?_
     refine AllReady.cons rfl (fun K hK => ?_) AllReady.nil
     go_simp
     refine (uh HTR _).mono ?_
     rintro e w1 ⟨hbt, rfl⟩
     exact ⟨rfl, hbt, Or.inr ⟨uh HOF, rfl⟩⟩
   · go_simp
     refine hK _ _ ?_; clear hK K
     refine wpAny_ready (rs := [1, 5]) (by kernel_rfl) (by simp) ?_
     refine AllReady.cons rfl (fun K hK => ?_) (AllReady.cons rfl (fun K hK => ?_) AllReady.nil)
     · go_simp
       refine hK _ _ ?_; clear hK K
       refine wpAny_ready (rs := [5]) (by kernel_rfl) (by simp) ?_
       refine AllReady.cons rfl (fun K hK => ?_) AllReady.nil
       go_simp
       refine (uh HTR _).mono ?_
       rintro e w1 ⟨hbt, rfl⟩
       exact ⟨rfl, hbt, Or.inr ⟨uh HOF, rfl⟩⟩
     · go_simp
       refine (uh HTR _).mono ?_
       rintro e w1 ⟨hbt, rfl⟩
       exact ⟨rfl, hbt, Or.inr ⟨uh HOF, rfl⟩⟩
 | some q =>
   have htr : ∀ (x0 x1 x2 : Value), Calls Tryz.prog 145 #[.pointer (some ⟨B, 0, none⟩), .slice a t.kids.length cap] ((w.alloc (.cells #[x0, x1, x2, .slice a3 t.names.length cap3, .slice a t.kids.length cap] 26)).drew) fun e w' =>
    But B w w' ∧ w'.cell? ⟨w.heap.size, 3, none⟩ = some (.slice a3 t.names.length cap3) ∧ ∃ a' cap', e = .returned (.slice a' t.kids.length cap') ∧ SKids (fun b => P b ∨ (w.heap.size ≤ b ∧ b < w'.heap.size)) w' (.slice a' t.kids.length cap') t.kids ∧ Bnd w' B q l ∧ StrsAt P w' (.slice a3 t.names.length cap3) t.names ∧ (∀ b, P b → b < w'.heap.size) := fun x0 x1 x2 => (htrees _).mono fun e w' ⟨h1, h2⟩ => by
    rcases h2 with ⟨q', v, g1, g2, g3, g4⟩ | ⟨g1, _⟩
    · rw [hw] at g1
      simp only [Option.some.injEq] at g1
      subst g1
      have hb1 := (uh HBD (.cells #[x0, x1, x2, .slice a3 t.names.length cap3, .slice a t.kids.length cap] 26)).trans h1
      obtain ⟨a', cap', hv, -⟩ := id g3
      subst hv
      refine ⟨hb1, ?_, a', cap', g2, g3, g4, (uh HNS).carry (fun b hb => hb1.at (uh HP b hb).1 (uh HP b hb).2) (fun _ h => h), fun b hb => Nat.lt_of_lt_of_le (uh HP b hb).1 hb1.size⟩
      rw [World.cell?_of_block (a := ⟨w.heap.size, 3, none⟩) (h1.at (b := w.heap.size) (by simp) (by omega))]
      simp [go_sem]
    · rw [hw] at g1; cases g1
   have HTR0 := hH htr
   clear htrees htr
   by_cases hyes : t.names.length = t.kids.length ∧ riseB t.names = true
   · have HOF : Hid (ofS t p l = some q) := by show _ = _; unfold ofS; rw [hw]; simp only; rw [if_pos (by rw [uh HNB]; simpa using hyes)]
     have HYES := hH hyes
     have HTR := hH (uh HTR0)
     clear hw hyes HTR0
     go_enter Tryz.func124, Tryz.ntmps124
     go_wp2_with fail
     go_region_with (first
      | (go_at_call 145; refine (uh HTR _ _ _).mono ?_; rintro e w1 ⟨hbt, q3, a', cap', rfl, hk, hbnd, hS1, hP1⟩; have HBT := hH hbt; have HS1 := hH hS1; have HP1 := hH hP1; have HK := hH hk; have HBN := hH hbnd; clear hbt hS1 hP1 hk hbnd)
      | (go_at_call 133; refine (newForm_any _ t.names _ _ _ _ (P := P) (uh HP1) (uh HS1)).mono ?_; rintro e w2 ⟨hor, hb2⟩; obtain rfl := (hor.resolve_right (fun h => h.1 (uh HYES))).2; clear hor))
     all_goals
      go_wp2_with fail
      go_ret
      have hs2 := hb2.size
      have hbt2 := uh HBT
      have hcar : ∀ b, (P b ∨ (w.heap.size ≤ b ∧ b < w1.heap.size)) → b < w1.heap.size := fun b hb => by
       rcases hb with hb | hb
       · exact uh HP1 b hb
       · exact hb.2
      refine ⟨hbt2.trans (But.of_below hb2), Or.inl ⟨q, _, uh HOF, rfl, srep5 hs (((uh HS1).carry (fun _ _ => rfl) (fun b hb => Or.inl hb)).carry (P := fun b => P b ∨ (w.heap.size ≤ b ∧ b < w1.heap.size)) (fun b hb => hb2.block b (hcar b hb)) (fun b hb => hb.imp id (fun hb => ⟨hb.1, by omega⟩))) ((uh HK).carry (fun b hb => hb2.block b (hcar b hb)) (fun b hb => hb.imp id (fun hb => ⟨hb.1, by omega⟩))), (uh HBN).below hb2⟩⟩
   · have HOF : Hid (ofS t p l = none) := by show _ = _; unfold ofS; rw [hw]; simp only; rw [if_neg (by rw [uh HNB]; simpa using hyes)]
     have HNO := hH hyes
     have HTR : Hid (∀ (x : Value × Value × Value), _) := hH fun x => uh HTR0 x.1 x.2.1 x.2.2
     clear hw hyes HTR0
     go_enter Tryz.func124, Tryz.ntmps124
     go_wp2_with fail
     refine wp_region_any (by kernel_rfl) ?_
     change wpAny _ _ _ _ _ _ _ (World.drew _)
     refine wpAny_take (i := 0) (v := .pointer (some ⟨w.heap.size, 3, none⟩)) rfl (by kernel_rfl) (by kernel_rfl) (by kernel_rfl) (fun _ _ _ h => h) (Or.inl ⟨by rfl, fun w => by go_simp⟩) ?_
     refine wpAny_take (i := 2) (v := .pointer (some ⟨B, 0, none⟩)) rfl (by kernel_rfl) (by kernel_rfl) (by kernel_rfl) (fun _ _ _ h => h) (Or.inl ⟨by rfl, fun w => by go_simp⟩) ?_
     refine wpAny_take (i := 3) (v := .pointer (some ⟨w.heap.size, 4, none⟩)) rfl (by kernel_rfl) (by kernel_rfl) (by kernel_rfl) (fun _ _ _ h => h) (Or.inl ⟨by rfl, fun w => by go_simp⟩) ?_
     refine wpAny_ready (rs := [1, 4]) (by kernel_rfl) (by simp) ?_
     refine AllReady.cons rfl (fun K hK => ?_) (AllReady.cons rfl (fun K hK => ?_) AllReady.nil)
     · go_simp
       refine hK _ _ ?_; clear hK K
       refine wpAny_ready (rs := [4]) (by kernel_rfl) (by simp) ?_
       refine AllReady.cons rfl (fun K hK => ?_) AllReady.nil
       go_simp
       refine hK _ _ ?_; clear hK K
       refine wpAny_ready (rs := [5]) (by kernel_rfl) (by simp) ?_
       refine AllReady.cons rfl (fun K hK => ?_) AllReady.nil
       go_simp
       refine (uh HTR (_, _, _)).mono ?_
       rintro e w1 ⟨hbt, q3, a', cap', rfl, hk, hbnd, hS1, hP1⟩
       have HBT := hH hbt; have HS1 := hH hS1; have HP1 := hH hP1
       clear hbt hS1 hP1 hk hbnd
       dsimp only
       refine hK _ _ ?_; clear hK K
       refine wpAny_ready (rs := [6]) (by kernel_rfl) (by simp) ?_
       refine AllReady.cons rfl (fun K hK => ?_) AllReady.nil
       go_simp
       refine (newForm_any _ t.names _ _ _ _ (P := P) (uh HP1) (uh HS1)).mono ?_
       rintro e w2 ⟨⟨hyes, _⟩ | ⟨_, rfl⟩, hb2⟩
       · exact absurd hyes (uh HNO)
       · exact ⟨rfl, (uh HBT).trans (But.of_below hb2), Or.inr ⟨uh HOF, rfl⟩⟩
     · go_simp
       refine hK _ _ ?_; clear hK K
       refine wpAny_ready (rs := [1, 5]) (by kernel_rfl) (by simp) ?_
       refine AllReady.cons rfl (fun K hK => ?_) (AllReady.cons rfl (fun K hK => ?_) AllReady.nil)
       · go_simp
         refine hK _ _ ?_; clear hK K
         refine wpAny_ready (rs := [5]) (by kernel_rfl) (by simp) ?_
         refine AllReady.cons rfl (fun K hK => ?_) AllReady.nil
         go_simp
         refine (uh HTR (_, _, _)).mono ?_
         rintro e w1 ⟨hbt, q3, a', cap', rfl, hk, hbnd, hS1, hP1⟩
         have HBT := hH hbt; have HS1 := hH hS1; have HP1 := hH hP1
         clear hbt hS1 hP1 hk hbnd
         dsimp only
         refine hK _ _ ?_; clear hK K
         refine wpAny_ready (rs := [6]) (by kernel_rfl) (by simp) ?_
         refine AllReady.cons rfl (fun K hK => ?_) AllReady.nil
         go_simp
         refine (newForm_any _ t.names _ _ _ _ (P := P) (uh HP1) (uh HS1)).mono ?_
         rintro e w2 ⟨⟨hyes, _⟩ | ⟨_, rfl⟩, hb2⟩
         · exact absurd hyes (uh HNO)
         · exact ⟨rfl, (uh HBT).trans (But.of_below hb2), Or.inr ⟨uh HOF, rfl⟩⟩
       · go_simp
         refine (uh HTR (_, _, _)).mono ?_
         rintro e w1 ⟨hbt, q3, a', cap', rfl, hk, hbnd, hS1, hP1⟩
         have HBT := hH hbt; have HS1 := hH hS1; have HP1 := hH hP1
         clear hbt hS1 hP1 hk hbnd
         dsimp only
         refine hK _ _ ?_; clear hK K
         refine wpAny_ready (rs := [1]) (by kernel_rfl) (by simp) ?_
         refine AllReady.cons rfl (fun K hK => ?_) AllReady.nil
         go_simp
         refine hK _ _ ?_; clear hK K
         refine wpAny_ready (rs := [6]) (by kernel_rfl) (by simp) ?_
         refine AllReady.cons rfl (fun K hK => ?_) AllReady.nil
         go_simp
         refine (newForm_any _ t.names _ _ _ _ (P := P) (uh HP1) (uh HS1)).mono ?_
         rintro e w2 ⟨⟨hyes, _⟩ | ⟨_, rfl⟩, hb2⟩
         · exact absurd hyes (uh HNO)
         · exact ⟨rfl, (uh HBT).trans (But.of_below hb2), Or.inr ⟨uh HOF, rfl⟩⟩
end Go.Proofs.YtbkagahmiibclaaGreatDoor
