/- The walks of the program's ofWhole at the table of joins, and of KindJoin. Conditions: errors.errorType holds the handle of the type error. -/
import Derived.Test.YtenpghndgdemnaaGreatDoorPart32
import Derived.Test.YtenpghndgdemnaaGreatDoorPart33
import Derived.Test.YtenpghndgdemnaaGreatDoorPart25
import Derived.Test.YtenpghndgdemnaaGreatDoorPart21
import Derived.Test.YtenpghndgdemnaaGreatDoorPart22
namespace Go.Proofs.YtenpghndgdemnaaGreatDoor
open Go Go.RowKit

/-- What two schemas join to, both ok. -/
def whJ (a b : Kd) : Option Kd := if 0 < qT a 1 ∧ 0 < qT b 1 then jnP 80 a b else none
def kdZ : C3 := ⟨.int .i64 0, .slice none 0 0, .slice none 0 0⟩
/-- An answer that is a schema in memory of its own, or nothing. -/
def OE (o : Option Kd) (w : World) (e : Ending) (w' : World) : Prop := ∃ d : C3, e = .returned (.tuple #[.agg #[d.c0, d.c1, d.c2], .bool o.isSome]) ∧ Below w.heap.size w w' ∧ ((∃ x F, o = some x ∧ OwnD w' x d F ∧ F.Nodup ∧ ∀ b, b ∈ F → w.heap.size ≤ b ∧ b < w'.heap.size) ∨ (o = none ∧ d = kdZ))
/-- The boxes of two schemas, of the answer, and one more. -/
structure B4 (w W : World) (c d : C3) : Prop where
  below : Below w.heap.size w W
  size : w.heap.size + 4 ≤ W.heap.size
  a : W.rowIs w.heap.size 26 3 (row3 c.c0 c.c1 c.c2)
  b : W.rowIs (w.heap.size + 1) 26 3 (row3 d.c0 d.c1 d.c2)
  r : W.rowIs (w.heap.size + 1 + 1) 26 3 (row3 (.int .i64 0) (.slice none 0 0) (.slice none 0 0))
  n : W.rowIs (w.heap.size + 1 + 1 + 1) 26 3 (row3 (.int .i64 0) (.slice none 0 0) (.slice none 0 0))
theorem B4.on {w W W' : World} {c d : C3} (h : B4 w W c d) (hb : Below W.heap.size W W') : B4 w W' c d := by
  have := h.size
  exact ⟨h.below.trans (hb.mono h.below.size), Nat.le_trans h.size hb.size, h.a.of_block (hb.block _ (by omega)), h.b.of_block (hb.block _ (by omega)), h.r.of_block (hb.block _ (by omega)), h.n.of_block (hb.block _ (by omega))⟩
theorem B4.start (w : World) (c0 c1 c2 d0 d1 d2 : Value) : B4 w ((((w.alloc (.cells #[c0, c1, c2] 26)).alloc (.cells #[d0, d1, d2] 26)).alloc (.cells #[.int .i64 0, .slice none 0 0, .slice none 0 0] 26)).alloc (.cells #[.int .i64 0, .slice none 0 0, .slice none 0 0] 26)) ⟨c0, c1, c2⟩ ⟨d0, d1, d2⟩ := by
  have h := B3.start w c0 c1 c2 d0 d1 d2
  have h4 := row3_alloc (((w.alloc (.cells #[c0, c1, c2] 26)).alloc (.cells #[d0, d1, d2] 26)).alloc (.cells #[.int .i64 0, .slice none 0 0, .slice none 0 0] 26)) (.int .i64 0) (.slice none 0 0) (.slice none 0 0) 26
  rw [h.size] at h4
  exact ⟨h.below.alloc h.below.size _, (by rw [World.size_alloc, h.size]; omega), h.a.alloc _, h.b.alloc _, h.r.alloc _, h4⟩
theorem B4.but4 {w W W' : World} {c d : C3} {g : Nat} (h : B4 w W c d) (hb : But g W W') (hg : w.heap.size + 4 ≤ g) : B4 w W' c d := by
  have := h.size
  exact ⟨h.below.trans ⟨hb.os, hb.tape, hb.output, hb.size, fun i hi => hb.at (by omega) (by omega)⟩, Nat.le_trans h.size hb.size, h.a.of_block (hb.at (by omega) (by omega)), h.b.of_block (hb.at (by omega) (by omega)), h.r.of_block (hb.at (by omega) (by omega)), h.n.of_block (hb.at (by omega) (by omega))⟩
theorem OwnD.set3 {W : World} {x : Kd} {d : C3} {F : List Nat} {R m : Nat} (h : OwnD W x d F) (hF : ∀ b, b ∈ F → m ≤ b ∧ b < W.heap.size) (hR : R < m) (v0 v1 v2 : Value) : OwnD (((W.setCell ⟨R, 0, none⟩ v0).setCell ⟨R, 1, none⟩ v1).setCell ⟨R, 2, none⟩ v2) x d F :=
  OwnD.carry _ _ _ (fun b hb => (but3 W R v0 v1 v2).at (hF b hb).2 (by have := (hF b hb).1; omega)) h
theorem size3 (W : World) (R : Nat) (v0 v1 v2 : Value) : (((W.setCell ⟨R, 0, none⟩ v0).setCell ⟨R, 1, none⟩ v1).setCell ⟨R, 2, none⟩ v2).heap.size = W.heap.size := by rw [size_setCell, size_setCell, size_setCell]
set_option maxRecDepth 100000 in
set_option maxHeartbeats 3200000 in
theorem ofWholeJ_any (a b : Kd) (P Q : Nat → Prop) (c d : C3) (w : World) (T : Nat) (hT : JT w T) (hE : ErrT w) (hP : ∀ x, P x → x < w.heap.size) (hQ : ∀ x, Q x → x < w.heap.size) (ha : KRep P w a c) (hb : KRep Q w b d) (hwa : wKd a ≤ 1048576) (hwb : wKd b ≤ 1048576) :
    Calls Tryz.prog 25 #[.pointer (some ⟨T, 0, none⟩), .agg #[c.c0, c.c1, c.c2], .agg #[d.c0, d.c1, d.c2]] w (OE (whJ a b) w) := by
  have ha' : KRep (fun x => x < w.heap.size) w a c := KRep.carry (fun _ _ => rfl) hP _ _ ha
  have hb' : KRep (fun x => x < w.heap.size) w b d := KRep.carry (fun _ _ => rfl) hQ _ _ hb
  have hca : ∀ W, Below w.heap.size w W → KRep (fun x => x < W.heap.size) W a c := fun W hW => KRep.carry (fun x hx => hW.block x hx) (fun _ hx => Nat.lt_of_lt_of_le hx hW.size) _ _ ha'
  have hcb : ∀ W, Below w.heap.size w W → KRep (fun x => x < W.heap.size) W b d := fun W hW => KRep.carry (fun x hx => hW.block x hx) (fun _ hx => Nat.lt_of_lt_of_le hx hW.size) _ _ hb'
  have HOA : Hid (∀ W, Below w.heap.size w W → Calls Tryz.prog 26 #[.agg #[c.c0, c.c1, c.c2]] W fun e w' => e = .returned (.bool (decide (0 < qT a 1))) ∧ Below W.heap.size W w') := fun W hW => implKindOk_any a _ c W (fun _ h => h) (hca W hW) hwa
  have HOB : Hid (∀ W, Below w.heap.size w W → Calls Tryz.prog 26 #[.agg #[d.c0, d.c1, d.c2]] W fun e w' => e = .returned (.bool (decide (0 < qT b 1))) ∧ Below W.heap.size W w') := fun W hW => implKindOk_any b _ d W (fun _ h => h) (hcb W hW) hwb
  have HF : Hid (∀ W, 0 < qT a 1 → 0 < qT b 1 → Below w.heap.size w W → Calls Tryz.prog 55 #[.pointer (some ⟨T, 0, none⟩), .agg #[c.c0, c.c1, c.c2], .agg #[d.c0, d.c1, d.c2], .string ⟨#[]⟩] W (JE (jnP 80 a b) W)) := fun W h1 h2 hW => by
    have q1 := ok_of_qT h1
    have q2 := ok_of_qT h2
    exact pairJ_all 80 a b (by omega) q1.2 q2.2 hwa hwb c d W T ⟨#[]⟩ (hT.on hW) (Or.inl ⟨hca W hW, q1.1⟩) (Or.inl ⟨hcb W hW, q2.1⟩) (by decide)
  have HET : Hid (∀ W, Below w.heap.size w W → ErrT W) := fun W hW => hE.on hW
  obtain ⟨c0, c1, c2⟩ := c
  obtain ⟨d0, d1, d2⟩ := d
  obtain ⟨e0, -, ⟨a3, cap3, e1, -⟩, a4, cap4, e2, -⟩ := ha.open
  obtain ⟨g0, -, ⟨b3, bap3, g1, -⟩, b4, bap4, g2, -⟩ := hb.open
  simp only at e0 e1 e2 g0 g1 g2
  subst e0 e1 e2 g0 g1 g2
  have HBX := hide (B4.start w (.int .i64 a.sort) (.slice a3 a.names.length cap3) (.slice a4 a.kids.length cap4) (.int .i64 b.sort) (.slice b3 b.names.length bap3) (.slice b4 b.kids.length bap4))
  clear ha hb ha' hb' hca hcb hP hQ hT hE hwa hwb
  go_enter Tryz.func25, Tryz.ntmps25
  go_wp2_with fail
  generalize ((((w.alloc (.cells #[.int .i64 a.sort, .slice a3 a.names.length cap3, .slice a4 a.kids.length cap4] 26)).alloc (.cells #[.int .i64 b.sort, .slice b3 b.names.length bap3, .slice b4 b.kids.length bap4] 26)).alloc (.cells #[.int .i64 0, .slice none 0 0, .slice none 0 0] 26)).alloc (.cells #[.int .i64 0, .slice none 0 0, .slice none 0 0] 26)) = W0 at HBX ⊢
  refine (unhide HOA _ (unhide HBX).below).mono ?_
  rintro e W1 ⟨rfl, hb1⟩
  have HX1 := hide ((unhide HBX).on hb1)
  clear hb1 HBX
  by_cases hqa : 0 < qT a 1
  · rw [decide_eq_true hqa]
    obtain ⟨x0, x1, x2⟩ : _ ∧ _ ∧ _ := ⟨(unhide HX1).a.cell (i := 0) (by omega), (unhide HX1).a.cell (i := 1) (by omega), (unhide HX1).a.cell (i := 2) (by omega)⟩
    obtain ⟨y0, y1, y2⟩ : _ ∧ _ ∧ _ := ⟨(unhide HX1).b.cell (i := 0) (by omega), (unhide HX1).b.cell (i := 1) (by omega), (unhide HX1).b.cell (i := 2) (by omega)⟩
    obtain ⟨r0, r1, r2, rf⟩ : _ ∧ _ ∧ _ ∧ _ := ⟨(unhide HX1).r.cell (i := 0) (by omega), (unhide HX1).r.cell (i := 1) (by omega), (unhide HX1).r.cell (i := 2) (by omega), (unhide HX1).r.frozen⟩
    obtain ⟨n0, n1, n2⟩ : _ ∧ _ ∧ _ := ⟨(unhide HX1).n.cell (i := 0) (by omega), (unhide HX1).n.cell (i := 1) (by omega), (unhide HX1).n.cell (i := 2) (by omega)⟩
    simp only [row3] at x0 x1 x2 y0 y1 y2 r0 r1 r2 n0 n1 n2
    go_wp2_with fail
    refine (unhide HOB _ (unhide HX1).below).mono ?_
    rintro e W2 ⟨rfl, hb2⟩
    have HX2 := hide ((unhide HX1).on hb2)
    clear hb2 HX1 
    clear x0 x1 x2 y0 y1 y2 r0 r1 r2 rf n0 n1 n2
    by_cases hqb : 0 < qT b 1
    · rw [decide_eq_true hqb]
      obtain ⟨x0, x1, x2⟩ : _ ∧ _ ∧ _ := ⟨(unhide HX2).a.cell (i := 0) (by omega), (unhide HX2).a.cell (i := 1) (by omega), (unhide HX2).a.cell (i := 2) (by omega)⟩
      obtain ⟨y0, y1, y2⟩ : _ ∧ _ ∧ _ := ⟨(unhide HX2).b.cell (i := 0) (by omega), (unhide HX2).b.cell (i := 1) (by omega), (unhide HX2).b.cell (i := 2) (by omega)⟩
      obtain ⟨r0, r1, r2, rf⟩ : _ ∧ _ ∧ _ ∧ _ := ⟨(unhide HX2).r.cell (i := 0) (by omega), (unhide HX2).r.cell (i := 1) (by omega), (unhide HX2).r.cell (i := 2) (by omega), (unhide HX2).r.frozen⟩
      obtain ⟨n0, n1, n2⟩ : _ ∧ _ ∧ _ := ⟨(unhide HX2).n.cell (i := 0) (by omega), (unhide HX2).n.cell (i := 1) (by omega), (unhide HX2).n.cell (i := 2) (by omega)⟩
      simp only [row3] at x0 x1 x2 y0 y1 y2 r0 r1 r2 n0 n1 n2
      have hwj : whJ a b = jnP 80 a b := if_pos ⟨hqa, hqb⟩
      have HFF := hide (unhide HF W2 hqa hqb (unhide HX2).below)
      have HWJ := hide hwj
      clear hwj HF HOA HOB hqa hqb
      go_wp2_with fail
      refine (unhide HFF).mono ?_
      rintro e W3 ⟨d, er, rfl, ⟨s0, d1, d2, k1, u1, k2, u2, rfl⟩, hJ, hb3⟩
      have HX3 := hide ((unhide HX2).on hb3)
      clear x0 x1 x2 y0 y1 y2 r0 r1 r2 rf n0 n1 n2
      obtain ⟨x0, x1, x2⟩ : _ ∧ _ ∧ _ := ⟨(unhide HX3).a.cell (i := 0) (by omega), (unhide HX3).a.cell (i := 1) (by omega), (unhide HX3).a.cell (i := 2) (by omega)⟩
      obtain ⟨y0, y1, y2⟩ : _ ∧ _ ∧ _ := ⟨(unhide HX3).b.cell (i := 0) (by omega), (unhide HX3).b.cell (i := 1) (by omega), (unhide HX3).b.cell (i := 2) (by omega)⟩
      obtain ⟨r0, r1, r2, rf⟩ : _ ∧ _ ∧ _ ∧ _ := ⟨(unhide HX3).r.cell (i := 0) (by omega), (unhide HX3).r.cell (i := 1) (by omega), (unhide HX3).r.cell (i := 2) (by omega), (unhide HX3).r.frozen⟩
      obtain ⟨n0, n1, n2⟩ : _ ∧ _ ∧ _ := ⟨(unhide HX3).n.cell (i := 0) (by omega), (unhide HX3).n.cell (i := 1) (by omega), (unhide HX3).n.cell (i := 2) (by omega)⟩
      simp only [row3] at x0 x1 x2 y0 y1 y2 r0 r1 r2 n0 n1 n2
      have hsz3 := (unhide HX3).size
      have hsz2 := (unhide HX2).size
      have hlr : w.heap.size + 1 + 1 < W3.heap.size := by omega
      have hln : w.heap.size + 1 + 1 + 1 < W3.heap.size := by omega
      have HBA := hide (((unhide HX3).below.alloc (unhide HX3).below.size (.cells #[.int .i64 s0, .slice d1 k1 u1, .slice d2 k2 u2] 26)).alloc (by rw [World.size_alloc]; omega) (.cells #[.int .i64 0, .int .i64 0, .string ⟨#[]⟩] 91))
      rcases hJ with ⟨x, F, ho, rfl, hod, hnd, hF⟩ | ⟨ho, ex, ey, ep, rfl⟩
      · have hal1 := (Below.refl W3.heap.size W3).alloc (Nat.le_refl _) (.cells #[.int .i64 s0, .slice d1 k1 u1, .slice d2 k2 u2] 26)
        have hal2 := (Below.refl (W3.alloc (.cells #[.int .i64 s0, .slice d1 k1 u1, .slice d2 k2 u2] 26)).heap.size _).alloc (Nat.le_refl _) (.cells #[.int .i64 0, .int .i64 0, .string ⟨#[]⟩] 91)
        have HX4 := hide (((unhide HX3).on hal1).on hal2)
        have HGR := hide ((row3_alloc W3 (.int .i64 s0) (.slice d1 k1 u1) (.slice d2 k2 u2) 26).alloc (.cells #[.int .i64 0, .int .i64 0, .string ⟨#[]⟩] 91))
        have HOD : Hid (OwnD ((W3.alloc (.cells #[.int .i64 s0, .slice d1 k1 u1, .slice d2 k2 u2] 26)).alloc (.cells #[.int .i64 0, .int .i64 0, .string ⟨#[]⟩] 91)) x ⟨.int .i64 s0, .slice d1 k1 u1, .slice d2 k2 u2⟩ F ∧ F.Nodup ∧ ∀ b, b ∈ F → w.heap.size + 4 ≤ b ∧ b < ((W3.alloc (.cells #[.int .i64 s0, .slice d1 k1 u1, .slice d2 k2 u2] 26)).alloc (.cells #[.int .i64 0, .int .i64 0, .string ⟨#[]⟩] 91)).heap.size) :=
          ⟨OwnD.carry _ _ _ (fun b hb => (hal2.block b (Nat.lt_of_lt_of_le (hF b hb).2 hal1.size)).trans (hal1.block b (hF b hb).2)) hod, hnd, fun b hb => ⟨by have := (hF b hb).1; omega, Nat.lt_of_lt_of_le (hF b hb).2 (Nat.le_trans hal1.size hal2.size)⟩⟩
        have HOO := hide ((unhide HWJ).trans ho)
        clear hod hnd hF ho HFF HWJ HX2 HX3 hb3 hsz2 hal1 hal2
        clear x0 x1 x2 y0 y1 y2 r0 r1 r2 rf n0 n1 n2
        go_wp2_with (go_at_call 56; refine (as_nil _ _).mono ?_; rintro e W4 ⟨rfl, hw4⟩; have hw5 := hw4.symm; subst hw5; clear hw4 HBA HET; generalize ((W3.alloc (.cells #[.int .i64 s0, .slice d1 k1 u1, .slice d2 k2 u2] 26)).alloc (.cells #[.int .i64 0, .int .i64 0, .string ⟨#[]⟩] 91)) = WX at HX4 HGR HOD ⊢; obtain ⟨r0, r1, r2, rf⟩ : _ ∧ _ ∧ _ ∧ _ := ⟨(unhide HX4).r.cell (i := 0) (by omega), (unhide HX4).r.cell (i := 1) (by omega), (unhide HX4).r.cell (i := 2) (by omega), (unhide HX4).r.frozen⟩; obtain ⟨n0, n1, n2⟩ : _ ∧ _ ∧ _ := ⟨(unhide HGR).cell (i := 0) (by omega), (unhide HGR).cell (i := 1) (by omega), (unhide HGR).cell (i := 2) (by omega)⟩; simp only [row3] at r0 r1 r2 n0 n1 n2)
        refine bodyPost_ret (v := .tuple #[.agg #[.int .i64 s0, .slice d1 k1 u1, .slice d2 k2 u2], .bool true]) (by simp [results, Tryz.results25, go_sem, r0, r1, r2]) rfl ?_
        have hfin := (unhide HOD).1.set3 (unhide HOD).2.2 (R := w.heap.size + 1 + 1) (by omega) (.int .i64 s0) (.slice d1 k1 u1) (.slice d2 k2 u2)
        refine ⟨⟨.int .i64 s0, .slice d1 k1 u1, .slice d2 k2 u2⟩, by rw [unhide HOO]; rfl, below3 (unhide HX4).below (R := w.heap.size + 1 + 1) (by omega) _ _ _, Or.inl ⟨x, F, unhide HOO, hfin, (unhide HOD).2.1, fun b hb => ?_⟩⟩
        have h1 := (unhide HOD).2.2 b hb
        rw [size3]; omega
      · have HOO := hide ((unhide HWJ).trans ho)
        have HTH : Hid (((W3.alloc (.cells #[.int .i64 s0, .slice d1 k1 u1, .slice d2 k2 u2] 26)).alloc (.cells #[.int .i64 0, .int .i64 0, .string ⟨#[]⟩] 91)).there (W3.heap.size + 1) 0 3) := by
          have := there3f (row3_alloc (W3.alloc (.cells #[.int .i64 s0, .slice d1 k1 u1, .slice d2 k2 u2] 26)) (.int .i64 0) (.int .i64 0) (.string ⟨#[]⟩) 91)
          rw [World.size_alloc] at this
          exact this
        have HEW := hide (unhide HET _ (unhide HBA))
        have HX4 := hide (((unhide HX3).on ((Below.refl _ _).alloc (Nat.le_refl _) (.cells #[.int .i64 s0, .slice d1 k1 u1, .slice d2 k2 u2] 26))).on ((Below.refl _ _).alloc (Nat.le_refl _) (.cells #[.int .i64 0, .int .i64 0, .string ⟨#[]⟩] 91)))
        clear ho HFF HWJ HX2 HX3 hb3 hsz2
        clear x0 x1 x2 y0 y1 y2 r0 r1 r2 rf n0 n1 n2
        go_wp2_with (go_at_call 56; refine (as_hit ex ey ep (W3.heap.size + 1) ((W3.alloc (.cells #[.int .i64 s0, .slice d1 k1 u1, .slice d2 k2 u2] 26)).alloc (.cells #[.int .i64 0, .int .i64 0, .string ⟨#[]⟩] 91)) (unhide HEW) (unhide HTH)).mono ?_; rintro e W4 ⟨rfl, hw4⟩; have HX5 : Hid (B4 w W4 ⟨.int .i64 a.sort, .slice a3 a.names.length cap3, .slice a4 a.kids.length cap4⟩ ⟨.int .i64 b.sort, .slice b3 b.names.length bap3, .slice b4 b.kids.length bap4⟩) := (unhide HX4).but4 hw4 (by omega); clear hw4 HX4 HEW HTH HBA HET; obtain ⟨r0, r1, r2, rf⟩ : _ ∧ _ ∧ _ ∧ _ := ⟨(unhide HX5).r.cell (i := 0) (by omega), (unhide HX5).r.cell (i := 1) (by omega), (unhide HX5).r.cell (i := 2) (by omega), (unhide HX5).r.frozen⟩; obtain ⟨n0, n1, n2⟩ : _ ∧ _ ∧ _ := ⟨(unhide HX5).n.cell (i := 0) (by omega), (unhide HX5).n.cell (i := 1) (by omega), (unhide HX5).n.cell (i := 2) (by omega)⟩; simp only [row3] at r0 r1 r2 n0 n1 n2)
        refine bodyPost_ret (v := .tuple #[.agg #[.int .i64 0, .slice none 0 0, .slice none 0 0], .bool false]) (by simp [results, Tryz.results25, go_sem, r0, r1, r2]) rfl ?_
        exact ⟨kdZ, by rw [unhide HOO]; rfl, below3 (unhide HX5).below (R := w.heap.size + 1 + 1) (by omega) _ _ _, Or.inr ⟨unhide HOO, rfl⟩⟩
    · rw [decide_eq_false hqb]
      obtain ⟨x0, x1, x2⟩ : _ ∧ _ ∧ _ := ⟨(unhide HX2).a.cell (i := 0) (by omega), (unhide HX2).a.cell (i := 1) (by omega), (unhide HX2).a.cell (i := 2) (by omega)⟩
      obtain ⟨y0, y1, y2⟩ : _ ∧ _ ∧ _ := ⟨(unhide HX2).b.cell (i := 0) (by omega), (unhide HX2).b.cell (i := 1) (by omega), (unhide HX2).b.cell (i := 2) (by omega)⟩
      obtain ⟨r0, r1, r2, rf⟩ : _ ∧ _ ∧ _ ∧ _ := ⟨(unhide HX2).r.cell (i := 0) (by omega), (unhide HX2).r.cell (i := 1) (by omega), (unhide HX2).r.cell (i := 2) (by omega), (unhide HX2).r.frozen⟩
      obtain ⟨n0, n1, n2⟩ : _ ∧ _ ∧ _ := ⟨(unhide HX2).n.cell (i := 0) (by omega), (unhide HX2).n.cell (i := 1) (by omega), (unhide HX2).n.cell (i := 2) (by omega)⟩
      simp only [row3] at x0 x1 x2 y0 y1 y2 r0 r1 r2 n0 n1 n2
      have HWN := hide (show whJ a b = none by unfold whJ; rw [if_neg (fun h => hqb h.2)])
      have HB := hide (unhide HX2).below
      clear HX2
      go_wp2_with fail
      refine bodyPost_ret (v := .tuple #[.agg #[.int .i64 0, .slice none 0 0, .slice none 0 0], .bool false]) (by simp [results, Tryz.results25, go_sem, r0, r1, r2]) rfl ?_
      exact ⟨kdZ, by rw [unhide HWN]; rfl, below3 (unhide HB) (R := w.heap.size + 1 + 1) (by omega) _ _ _, Or.inr ⟨unhide HWN, rfl⟩⟩
  · rw [decide_eq_false hqa]
    obtain ⟨x0, x1, x2⟩ : _ ∧ _ ∧ _ := ⟨(unhide HX1).a.cell (i := 0) (by omega), (unhide HX1).a.cell (i := 1) (by omega), (unhide HX1).a.cell (i := 2) (by omega)⟩
    obtain ⟨y0, y1, y2⟩ : _ ∧ _ ∧ _ := ⟨(unhide HX1).b.cell (i := 0) (by omega), (unhide HX1).b.cell (i := 1) (by omega), (unhide HX1).b.cell (i := 2) (by omega)⟩
    obtain ⟨r0, r1, r2, rf⟩ : _ ∧ _ ∧ _ ∧ _ := ⟨(unhide HX1).r.cell (i := 0) (by omega), (unhide HX1).r.cell (i := 1) (by omega), (unhide HX1).r.cell (i := 2) (by omega), (unhide HX1).r.frozen⟩
    obtain ⟨n0, n1, n2⟩ : _ ∧ _ ∧ _ := ⟨(unhide HX1).n.cell (i := 0) (by omega), (unhide HX1).n.cell (i := 1) (by omega), (unhide HX1).n.cell (i := 2) (by omega)⟩
    simp only [row3] at x0 x1 x2 y0 y1 y2 r0 r1 r2 n0 n1 n2
    have HWN := hide (show whJ a b = none by unfold whJ; rw [if_neg (fun h => hqa h.1)])
    have HB := hide (unhide HX1).below
    clear HX1
    go_wp2_with fail
    refine bodyPost_ret (v := .tuple #[.agg #[.int .i64 0, .slice none 0 0, .slice none 0 0], .bool false]) (by simp [results, Tryz.results25, go_sem, r0, r1, r2]) rfl ?_
    exact ⟨kdZ, by rw [unhide HWN]; rfl, below3 (unhide HB) (R := w.heap.size + 1 + 1) (by omega) _ _ _, Or.inr ⟨unhide HWN, rfl⟩⟩
end Go.Proofs.YtenpghndgdemnaaGreatDoor

/- The walk of the program's KindJoin. Conditions: errors.errorType holds the handle of the type error. -/

namespace Go.Proofs.YtenpghndgdemnaaGreatDoor
open Go Go.RowKit

noncomputable def jrKOps : Array Oper := fops Tryz.f7 1
theorem jrK_neat : Region.noSelect jrKOps = true ∧ neat jrKOps = true := ⟨by kernel_rfl, by kernel_rfl⟩
set_option maxRecDepth 100000 in
set_option maxHeartbeats 3200000 in
theorem jrK (A C R : Nat) (c c2 : C3) (GT : World → Nat → Prop) (GTon : ∀ W W' T, Below W.heap.size W W' → GT W T → GT W' T) (E : World → World → C3 → Value → Prop) (W0 : World) {l : List Value} (Q : Exit → Act → World → Prop) (hQ : ∀ c a d v w, Q (.panic c) (Act.put a d v) w → Q (.panic c) a w) (hA : W0.drew.rowIs A 26 3 (row3 c.c0 c.c1 c.c2)) (hC : W0.drew.rowIs C 26 3 (row3 c2.c0 c2.c1 c2.c2))
    (HKT : ∀ W, Below W0.drew.heap.size W0.drew W → Calls Tryz.prog 24 #[] W fun e w' => Below W.heap.size W w' ∧ ∃ T : Nat, e = .returned (.pointer (some ⟨T, 0, none⟩)) ∧ GT w' T) (HK : ∀ W (T : Nat), Below W0.drew.heap.size W0.drew W → GT W T → Calls Tryz.prog 25 #[.pointer (some ⟨T, 0, none⟩), .agg #[c.c0, c.c1, c.c2], .agg #[c2.c0, c2.c1, c2.c2]] W fun e w' => Below W.heap.size W w' ∧ ∃ (d : C3) (er : Value), e = .returned (.tuple #[.agg #[d.c0, d.c1, d.c2], er]) ∧ Any3 d ∧ E W w' d er)
    (hl : lookL [(2, .pointer (some ⟨A, 0, none⟩)), (3, .pointer (some ⟨C, 0, none⟩)), (4, .pointer (some ⟨R, 0, none⟩))] l = (26, ([(2, .pointer (some ⟨A, 0, none⟩)), (3, .pointer (some ⟨C, 0, none⟩)), (4, .pointer (some ⟨R, 0, none⟩))] : List (Nat × Value)).map (·.2)))
    (hend : ∀ (u : Nat → Value) (V0 V1 W : World) (d : C3) (er : Value) (g : Nat), Below W0.drew.heap.size W0.drew V0 → E V0 V1 d er → Below W0.drew.heap.size W0.drew W → CKj V0 V1 W → W.rowIs g 26 3 (row3 d.c0 d.c1 d.c2) → W0.drew.heap.size ≤ g → (g < V0.heap.size ∨ V1.heap.size ≤ g) → Q .normal ⟨(frL u 26 [(4, .pointer (some ⟨R, 0, none⟩)), (6, .pointer (some ⟨g, 0, none⟩)), (7, er)]).toArray, []⟩ W) : (Code.region 1 jrKOps true).wp Tryz.prog Q ⟨l.toArray, []⟩ W0 := by
  obtain ⟨v0, rfl⟩ := look_fr hl
  have hq : NtQ jrKOps Q := ⟨jrK_neat, hQ⟩
  refine T_start (S := fun W => Below W0.drew.heap.size W0.drew W) (by kernel_rfl) (Below.refl _ _) ?_
  clear hl hQ
  generalize W0.drew = B at hA hC HKT HK hend ⊢
  have Q2 : ∀ (u : Nat → Value) (W : World) (hW : Below B.heap.size B W) (V0 V1 : World) (d : C3) (er : Value) (hV : Below B.heap.size B V0) (hE : E V0 V1 d er) (h3 : Any3 d) (hck : CKj V0 V1 W) (g : Nat) (hg : W.rowIs g 26 3 (row3 (.int .i64 0) (.slice none 0 0) (.slice none 0 0))) (hgb : B.heap.size ≤ g) (hap : g < V0.heap.size ∨ V1.heap.size ≤ g), wpS Tryz.prog jrKOps Q (fun W => Below B.heap.size B W) (unl 12 [10, 11], frL u 26 [(4, .pointer (some ⟨R, 0, none⟩)), (6, .pointer (some ⟨g, 0, none⟩)), (15, .agg #[d.c0, d.c1, d.c2]), (16, er)]) [] W := by
    intro u W hW V0 V1 d er hV hE h3 hck g hg hgb hap
    refine T_one 10 (by kernel_rfl) fun _ => ?_
    have hs3 := set3f W g d.c0 d.c1 d.c2
    have hW2 := below_boxf hW hgb hs3.1
    refine O_store_mid none 26 (.tmp 6) (.tmp 15) g 0 #[d.c0, d.c1, d.c2] (by kernel_rfl) (by kernel_rfl) (by kernel_rfl) (there3f hg) sizeKd (h3.one) hW2 ?_
    refine T_z hq [11] (by kernel_rfl) ?_
    exact T_end 26 [(4, .pointer (some ⟨R, 0, none⟩)), (6, .pointer (some ⟨g, 0, none⟩)), (7, er)] (by kernel_rfl) (by kernel_rfl) fun _ u => hend u V0 V1 _ d er g hV hE hW2 (hck.but hs3.1 hap) (hs3.2 _ _ hg) hgb hap
  have P2 : ∀ (u : Nat → Value) (W : World) (hW : Below B.heap.size B W) (V0 V1 : World) (d : C3) (er : Value) (hV : Below B.heap.size B V0) (hE : E V0 V1 d er) (h3 : Any3 d) (hck : CKj V0 V1 W), wpS Tryz.prog jrKOps Q (fun W => Below B.heap.size B W) (unl 12 [9, 10, 11], frL u 26 [(4, .pointer (some ⟨R, 0, none⟩)), (15, .agg #[d.c0, d.c1, d.c2]), (16, er)]) [] W := by
    intro u W hW V0 V1 d er hV hE h3 hck
    refine T_one 9 (by kernel_rfl) fun _ => ?_
    exact O_val (w' := W.alloc (.cells #[.int .i64 0, .slice none 0 0, .slice none 0 0] 26)) (some 6) (.pointer (some ⟨W.heap.size, 0, none⟩)) (by kernel_rfl) (by kernel_rfl) (hW.alloc hW.size _) (T_fr 12 26 [10, 11] [(4, .pointer (some ⟨R, 0, none⟩)), (6, .pointer (some ⟨W.heap.size, 0, none⟩)), (15, .agg #[d.c0, d.c1, d.c2]), (16, er)] (by kernel_rfl) fun u => Q2 u _ (hW.alloc hW.size _) V0 V1 d er hV hE h3 (hck.alloc _) _ (row3_alloc W _ _ _ _) hW.size (Or.inr hck.size))
  have Q1 : ∀ (u : Nat → Value) (W : World) (hW : Below B.heap.size B W) (T : Nat) (hT : GT W T) (g : Nat) (hg : W.rowIs g 26 3 (row3 (.int .i64 0) (.slice none 0 0) (.slice none 0 0))) (hgb : B.heap.size ≤ g), wpS Tryz.prog jrKOps Q (fun W => Below B.heap.size B W) (unl 12 [5, 6, 7, 8, 10, 11], frL u 26 [(4, .pointer (some ⟨R, 0, none⟩)), (6, .pointer (some ⟨g, 0, none⟩)), (11, .pointer (some ⟨T, 0, none⟩)), (12, .agg #[c.c0, c.c1, c.c2]), (13, .agg #[c2.c0, c2.c1, c2.c2])]) [] W := by
    intro u W hW T hT g hg hgb
    refine T_one 5 (by kernel_rfl) fun _ => ?_
    refine O_go (HK W T hW hT) (by kernel_rfl) ?_
    rintro e W1 ⟨hb1, d, er, rfl, h3, hE⟩
    exact ⟨_, rfl, below_onf hW hb1, T_z hq [6, 7, 8] (by kernel_rfl) (T_fr 12 26 [10, 11] [(4, .pointer (some ⟨R, 0, none⟩)), (6, .pointer (some ⟨g, 0, none⟩)), (15, .agg #[d.c0, d.c1, d.c2]), (16, er)] (by kernel_rfl) fun u => Q2 u W1 (below_onf hW hb1) W W1 d er hW hE h3 (CKj.refl _ _) g (hg.of_block (hb1.block _ hg.lt)) hgb (Or.inl hg.lt))⟩
  have P1 : ∀ (u : Nat → Value) (W : World) (hW : Below B.heap.size B W) (T : Nat) (hT : GT W T), wpS Tryz.prog jrKOps Q (fun W => Below B.heap.size B W) (unl 12 [5, 6, 7, 8, 9, 10, 11], frL u 26 [(4, .pointer (some ⟨R, 0, none⟩)), (11, .pointer (some ⟨T, 0, none⟩)), (12, .agg #[c.c0, c.c1, c.c2]), (13, .agg #[c2.c0, c2.c1, c2.c2])]) [] W := by
    intro u W hW T hT
    refine T_two 5 9 (by kernel_rfl) (fun _ => ?_) fun _ => ?_
    · refine O_go (HK W T hW hT) (by kernel_rfl) ?_
      rintro e W1 ⟨hb1, d, er, rfl, h3, hE⟩
      exact ⟨_, rfl, below_onf hW hb1, T_z hq [6, 7, 8] (by kernel_rfl) (T_fr 12 26 [9, 10, 11] [(4, .pointer (some ⟨R, 0, none⟩)), (15, .agg #[d.c0, d.c1, d.c2]), (16, er)] (by kernel_rfl) fun u => P2 u W1 (below_onf hW hb1) W W1 d er hW hE h3 (CKj.refl _ _))⟩
    · exact O_val (w' := W.alloc (.cells #[.int .i64 0, .slice none 0 0, .slice none 0 0] 26)) (some 6) (.pointer (some ⟨W.heap.size, 0, none⟩)) (by kernel_rfl) (by kernel_rfl) (hW.alloc hW.size _) (T_fr 12 26 [5, 6, 7, 8, 10, 11] [(4, .pointer (some ⟨R, 0, none⟩)), (6, .pointer (some ⟨W.heap.size, 0, none⟩)), (11, .pointer (some ⟨T, 0, none⟩)), (12, .agg #[c.c0, c.c1, c.c2]), (13, .agg #[c2.c0, c2.c1, c2.c2])] (by kernel_rfl) fun u => Q1 u _ (hW.alloc hW.size _) T (GTon _ _ _ ((Below.refl _ _).alloc (Nat.le_refl _) _) hT) _ (row3_alloc W _ _ _ _) hW.size)
  have Q0 : ∀ (u : Nat → Value) (W : World) (hW : Below B.heap.size B W)   (g : Nat) (hg : W.rowIs g 26 3 (row3 (.int .i64 0) (.slice none 0 0) (.slice none 0 0))) (hgb : B.heap.size ≤ g), wpS Tryz.prog jrKOps Q (fun W => Below B.heap.size B W) (unl 12 [0, 1, 2, 5, 6, 7, 8, 10, 11], frL u 26 [(4, .pointer (some ⟨R, 0, none⟩)), (6, .pointer (some ⟨g, 0, none⟩)), (12, .agg #[c.c0, c.c1, c.c2]), (13, .agg #[c2.c0, c2.c1, c2.c2])]) [] W := by
    intro u W hW   g hg hgb
    refine T_one 0 (by kernel_rfl) fun _ => ?_
    refine O_go (HKT W hW) (by kernel_rfl) ?_
    rintro e W1 ⟨hb1, T, rfl, hn⟩
    exact ⟨_, rfl, below_onf hW hb1, T_z hq [1, 2] (by kernel_rfl) (T_fr 12 26 [5, 6, 7, 8, 10, 11] [(4, .pointer (some ⟨R, 0, none⟩)), (6, .pointer (some ⟨g, 0, none⟩)), (11, .pointer (some ⟨T, 0, none⟩)), (12, .agg #[c.c0, c.c1, c.c2]), (13, .agg #[c2.c0, c2.c1, c2.c2])] (by kernel_rfl) fun u => Q1 u W1 (below_onf hW hb1) T  hn g (hg.of_block (hb1.block _ hg.lt)) hgb)⟩
  have P0 : ∀ (u : Nat → Value) (W : World) (hW : Below B.heap.size B W)  , wpS Tryz.prog jrKOps Q (fun W => Below B.heap.size B W) (unl 12 [0, 1, 2, 5, 6, 7, 8, 9, 10, 11], frL u 26 [(4, .pointer (some ⟨R, 0, none⟩)), (12, .agg #[c.c0, c.c1, c.c2]), (13, .agg #[c2.c0, c2.c1, c2.c2])]) [] W := by
    intro u W hW  
    refine T_two 0 9 (by kernel_rfl) (fun _ => ?_) fun _ => ?_
    · refine O_go (HKT W hW) (by kernel_rfl) ?_
      rintro e W1 ⟨hb1, T, rfl, hn⟩
      exact ⟨_, rfl, below_onf hW hb1, T_z hq [1, 2] (by kernel_rfl) (T_fr 12 26 [5, 6, 7, 8, 9, 10, 11] [(4, .pointer (some ⟨R, 0, none⟩)), (11, .pointer (some ⟨T, 0, none⟩)), (12, .agg #[c.c0, c.c1, c.c2]), (13, .agg #[c2.c0, c2.c1, c2.c2])] (by kernel_rfl) fun u => P1 u W1 (below_onf hW hb1) T  hn)⟩
    · exact O_val (w' := W.alloc (.cells #[.int .i64 0, .slice none 0 0, .slice none 0 0] 26)) (some 6) (.pointer (some ⟨W.heap.size, 0, none⟩)) (by kernel_rfl) (by kernel_rfl) (hW.alloc hW.size _) (T_fr 12 26 [0, 1, 2, 5, 6, 7, 8, 10, 11] [(4, .pointer (some ⟨R, 0, none⟩)), (6, .pointer (some ⟨W.heap.size, 0, none⟩)), (12, .agg #[c.c0, c.c1, c.c2]), (13, .agg #[c2.c0, c2.c1, c2.c2])] (by kernel_rfl) fun u => Q0 u _ (hW.alloc hW.size _)   _ (row3_alloc W _ _ _ _) hW.size)
  refine T_a hq [3, 4] (fun w' h => .cons (ldRowJ hA h) (.cons (ldRowJ hC h) Lds.nil)) (by kernel_rfl) ?_
  exact T_fr 12 26 [0, 1, 2, 5, 6, 7, 8, 9, 10, 11] [(4, .pointer (some ⟨R, 0, none⟩)), (12, .agg #[c.c0, c.c1, c.c2]), (13, .agg #[c2.c0, c2.c1, c2.c2])] (by kernel_rfl) fun u => P0 u _ (Below.refl _ _)
/-- What KindJoin answers, in memory of its own. -/
def JdE (o : Option Kd) (w : World) (e : Ending) (w' : World) : Prop := ∃ (d : C3) (F : List Nat), e = .returned (.tuple #[.agg #[d.c0, d.c1, d.c2], .bool o.isSome]) ∧ OwnD w' (o.getD kd0) d F ∧ F.Nodup ∧ (∀ b, b ∈ F → w.heap.size ≤ b ∧ b < w'.heap.size) ∧ Below w.heap.size w w'
theorem jdE_none {w w' : World} {o : Option Kd} (h : o = none) (hb : Below w.heap.size w w') : JdE o w (.returned (.tuple #[.agg #[.int .i64 0, .slice none 0 0, .slice none 0 0], .bool false])) w' := by
  subst h
  exact ⟨⟨.int .i64 0, .slice none 0 0, .slice none 0 0⟩, [], rfl, OwnD.leaf w' 0 ⟨by decide, by decide⟩, List.nodup_nil, fun b hb => by simp at hb, hb⟩
theorem joinD_wh (a b : Kd) : joinD a b = okO (whJ a b) := by
  unfold joinD whJ
  by_cases h : 0 < qT a 1 ∧ 0 < qT b 1
  · rw [if_pos h, if_pos h]
  · rw [if_neg h, if_neg h]; rfl
set_option maxRecDepth 100000 in
set_option maxHeartbeats 3200000 in
theorem implKindJoin_any (a b : Kd) (P Q : Nat → Prop) (c d : C3) (w : World) (hE : ErrT w) (hP : ∀ x, P x → x < w.heap.size) (hQ : ∀ x, Q x → x < w.heap.size) (ha : KRep P w a c) (hb : KRep Q w b d) (hwa : wKd a ≤ 1048576) (hwb : wKd b ≤ 1048576) :
    Calls Tryz.prog 7 #[.agg #[c.c0, c.c1, c.c2], .agg #[d.c0, d.c1, d.c2]] w (JdE (joinD a b) w) := by
  have ha' : KRep (fun x => x < w.heap.size) w a c := KRep.carry (fun _ _ => rfl) hP _ _ ha
  have hb' : KRep (fun x => x < w.heap.size) w b d := KRep.carry (fun _ _ => rfl) hQ _ _ hb
  have HW : Hid (∀ W T, Below w.heap.size w W → JT W T → Calls Tryz.prog 25 #[.pointer (some ⟨T, 0, none⟩), .agg #[c.c0, c.c1, c.c2], .agg #[d.c0, d.c1, d.c2]] W (OE (whJ a b) W)) := fun W T hW hT =>
    ofWholeJ_any a b (fun x => x < w.heap.size) (fun x => x < w.heap.size) c d W T hT (hE.on hW) (fun x hx => Nat.lt_of_lt_of_le hx hW.size) (fun x hx => Nat.lt_of_lt_of_le hx hW.size) (KRep.carry (fun x hx => hW.block x hx) (fun _ h => h) _ _ ha') (KRep.carry (fun x hx => hW.block x hx) (fun _ h => h) _ _ hb') hwa hwb
  obtain ⟨c0, c1, c2⟩ := c
  obtain ⟨d0, d1, d2⟩ := d
  obtain ⟨e0, -, ⟨a3, cap3, e1, -⟩, a4, cap4, e2, -⟩ := ha.open
  obtain ⟨g0, -, ⟨b3, bap3, g1, -⟩, b4, bap4, g2, -⟩ := hb.open
  simp only at e0 e1 e2 g0 g1 g2
  subst e0 e1 e2 g0 g1 g2
  have hB := B3.start w (.int .i64 a.sort) (.slice a3 a.names.length cap3) (.slice a4 a.kids.length cap4) (.int .i64 b.sort) (.slice b3 b.names.length bap3) (.slice b4 b.kids.length bap4)
  clear ha hb ha' hb' hP hQ hE hwa hwb
  go_enter Tryz.func7, Tryz.ntmps7
  go_upto_region 1 with fail
  generalize (((w.alloc (.cells #[.int .i64 a.sort, .slice a3 a.names.length cap3, .slice a4 a.kids.length cap4] 26)).alloc (.cells #[.int .i64 b.sort, .slice b3 b.names.length bap3, .slice b4 b.kids.length bap4] 26)).alloc (.cells #[.int .i64 0, .slice none 0 0, .slice none 0 0] 26)) = W0 at hB ⊢
  have hd := hB.below.drew
  have hsz : W0.drew.heap.size = w.heap.size + 3 := hB.size
  refine wp_swap (c' := Code.region 1 jrKOps true) (by kernel_rfl) ?_
  refine wp_region_noPanic ?_
  have hra := hB.a.of_block (w' := W0.drew) rfl
  have hrb := hB.b.of_block (w' := W0.drew) rfl
  have hr := hB.r.of_block (w' := W0.drew) rfl
  have hkn : ∀ W, Below W0.drew.heap.size W0.drew W → Calls Tryz.prog 24 #[] W fun e w' => Below W.heap.size W w' ∧ ∃ T : Nat, e = .returned (.pointer (some ⟨T, 0, none⟩)) ∧ JT w' T := fun W _ => (newJoins_any W).mono fun e w' ⟨h1, h2, h3⟩ => ⟨h2, _, h1, h3⟩
  have hkw : ∀ W (T : Nat), Below W0.drew.heap.size W0.drew W → JT W T → Calls Tryz.prog 25 #[.pointer (some ⟨T, 0, none⟩), .agg #[.int .i64 a.sort, .slice a3 a.names.length cap3, .slice a4 a.kids.length cap4], .agg #[.int .i64 b.sort, .slice b3 b.names.length bap3, .slice b4 b.kids.length bap4]] W fun e w' => Below W.heap.size W w' ∧ ∃ (d : C3) (er : Value), e = .returned (.tuple #[.agg #[d.c0, d.c1, d.c2], er]) ∧ Any3 d ∧ (er = .bool (whJ a b).isSome ∧ Any3 d ∧ ((∃ x F, whJ a b = some x ∧ OwnD w' x d F ∧ F.Nodup ∧ ∀ b, b ∈ F → W.heap.size ≤ b ∧ b < w'.heap.size) ∨ (whJ a b = none ∧ d = kdZ))) := fun W T hW hT => by
    refine (unhide HW W T (hd.trans (hW.mono hd.size)) hT).mono fun e w' ⟨d, h1, h2, h3⟩ => ?_
    have h4 : Any3 d := by
      rcases h3 with ⟨x, F, -, ho, -⟩ | ⟨-, rfl⟩
      · obtain ⟨q1, q2, q3, q4, rfl⟩ := ownD_form ho
        exact any3_mk _ _ _ _ _ _ _
      · exact any3_mk _ _ _ _ _ _ _
    exact ⟨h2, d, _, h1, h4, rfl, h4, h3⟩
  refine jrK w.heap.size (w.heap.size + 1) (w.heap.size + 1 + 1) ⟨.int .i64 a.sort, .slice a3 a.names.length cap3, .slice a4 a.kids.length cap4⟩ ⟨.int .i64 b.sort, .slice b3 b.names.length bap3, .slice b4 b.kids.length bap4⟩ (fun W T => JT W T) (fun W W' T hb h => h.on hb) (fun V0 V1 d er => er = .bool (whJ a b).isSome ∧ Any3 d ∧ ((∃ x F, whJ a b = some x ∧ OwnD V1 x d F ∧ F.Nodup ∧ ∀ b, b ∈ F → V0.heap.size ≤ b ∧ b < V1.heap.size) ∨ (whJ a b = none ∧ d = kdZ))) W0 _ (fun _ _ _ _ _ h => h) hra hrb (by intro W hW; with_reducible exact hkn W hW) (by intro W T hW hT; with_reducible exact hkw W T hW hT) (by kernel_rfl) ?_
  rintro u V0 V1 W d er g hV ⟨rfl, ⟨s0, d1, d2, k1, u1, k2, u2, rfl⟩, hJ⟩ hW hck hg hgb -
  refine NoPanic.normal ?_
  simp only [frL_eq, frG, List.lookup, Nat.reduceBEq, Nat.reduceAdd, Option.getD_some, Option.getD_none]
  have hWw : Below w.heap.size w W := hd.trans (hW.mono hd.size)
  have hrw := hr.of_block (hW.block _ hr.lt)
  have HJW := hide (joinD_wh a b)
  obtain ⟨g0, g1, g2⟩ : _ ∧ _ ∧ _ := ⟨hg.cell (i := 0) (by omega), hg.cell (i := 1) (by omega), hg.cell (i := 2) (by omega)⟩
  obtain ⟨r0, r1, r2, rf⟩ : _ ∧ _ ∧ _ ∧ _ := ⟨hrw.cell (i := 0) (by omega), hrw.cell (i := 1) (by omega), hrw.cell (i := 2) (by omega), hrw.frozen⟩
  simp only [row3] at g0 g1 g2 r0 r1 r2
  rcases hJ with ⟨x, F, ho, hod, hnd, hF⟩ | ⟨ho, hz⟩
  · have hq : 0 < qT a 1 ∧ 0 < qT b 1 := Classical.byContradiction fun h => by rw [whJ, if_neg h] at ho; cases ho
    have hjx : jnP 80 a b = some x := by rw [whJ, if_pos hq] at ho; exact ho
    have hlx := jn_light hq.1 hq.2 hjx
    rw [ho] at HJW ⊢
    simp only [Option.isSome_some]
    have hod2 : OwnD W x ⟨.int .i64 s0, .slice d1 k1 u1, .slice d2 k2 u2⟩ F := OwnD.carry _ _ _ (fun b hb => hck.block b (hF b hb).1 (hF b hb).2) hod
    have hF2 : ∀ b, b ∈ F → w.heap.size + 3 ≤ b ∧ b < W.heap.size := fun b hb => ⟨by have := (hF b hb).1; have := hV.size; omega, Nat.lt_of_lt_of_le (hF b hb).2 hck.size⟩
    have hok := implKindOk_any x (fun b => b < W.heap.size) _ W (fun _ h => h) (OwnD.rep x _ F (fun b hb => (hF2 b hb).2) hod2) (by omega)
    have HOD := hide (show OwnD W x _ F ∧ F.Nodup ∧ ∀ b, b ∈ F → w.heap.size + 3 ≤ b ∧ b < W.heap.size from ⟨hod2, hnd, hF2⟩)
    have HOK := hide hok; have HWW := hide hWw; have HRW := hide hrw; have HGG := hide hg
    clear hod hnd hF hod2 hF2 hok hWw hrw hg hW hV hck hgb hra hrb hr hd hsz hB HW hkn hkw ho hjx hlx hq
    go_wp2_with fail
    refine (unhide HOK).mono ?_
    rintro e W2 ⟨rfl, hb2⟩
    have hrw2 := (unhide HRW).of_block (hb2.block _ (unhide HRW).lt)
    have hg2 := (unhide HGG).of_block (hb2.block _ (unhide HGG).lt)
    obtain ⟨g0, g1, g2⟩ : _ ∧ _ ∧ _ := ⟨hg2.cell (i := 0) (by omega), hg2.cell (i := 1) (by omega), hg2.cell (i := 2) (by omega)⟩
    obtain ⟨r0, r1, r2, rf⟩ : _ ∧ _ ∧ _ ∧ _ := ⟨hrw2.cell (i := 0) (by omega), hrw2.cell (i := 1) (by omega), hrw2.cell (i := 2) (by omega), hrw2.frozen⟩
    simp only [row3] at g0 g1 g2 r0 r1 r2
    have HB2 := hide ((unhide HWW).trans (hb2.mono (unhide HWW).size))
    have HOD2 : Hid (OwnD W2 x ⟨.int .i64 s0, .slice d1 k1 u1, .slice d2 k2 u2⟩ F ∧ F.Nodup ∧ ∀ b, b ∈ F → w.heap.size + 3 ≤ b ∧ b < W2.heap.size) := ⟨OwnD.carry _ _ _ (fun b hb => hb2.block b ((unhide HOD).2.2 b hb).2) (unhide HOD).1, (unhide HOD).2.1, fun b hb => ⟨((unhide HOD).2.2 b hb).1, Nat.lt_of_lt_of_le ((unhide HOD).2.2 b hb).2 hb2.size⟩⟩
    clear hrw2 hg2 hb2 HRW HGG HWW HOD HOK
    by_cases hqx : 0 < qT x 1
    · rw [decide_eq_true hqx]
      have HJ := hide (show joinD a b = some x by rw [unhide HJW]; exact if_pos hqx)
      clear hqx HJW
      go_wp2_with fail
      refine bodyPost_ret (v := .tuple #[.agg #[.int .i64 s0, .slice d1 k1 u1, .slice d2 k2 u2], .bool true]) (by simp [results, Tryz.results7, go_sem, r0, r1, r2]) rfl ?_
      have hfin := (unhide HOD2).1.set3 (unhide HOD2).2.2 (R := w.heap.size + 1 + 1) (by omega) (.int .i64 s0) (.slice d1 k1 u1) (.slice d2 k2 u2)
      rw [unhide HJ]
      exact ⟨_, F, rfl, hfin, (unhide HOD2).2.1, fun b hb => by have := (unhide HOD2).2.2 b hb; rw [size3]; omega, below3 (unhide HB2) (R := w.heap.size + 1 + 1) (by omega) _ _ _⟩
    · rw [decide_eq_false hqx]
      have HJ := hide (show joinD a b = none by rw [unhide HJW]; exact if_neg hqx)
      clear hqx HJW
      go_wp2_with fail
      refine bodyPost_ret (v := .tuple #[.agg #[.int .i64 0, .slice none 0 0, .slice none 0 0], .bool false]) (by simp [results, Tryz.results7, go_sem, r0, r1, r2]) rfl ?_
      exact jdE_none (unhide HJ) (below3 (unhide HB2) (R := w.heap.size + 1 + 1) (by omega) _ _ _)
  · rw [ho] at HJW ⊢
    simp only [Option.isSome_none]
    have HJ := hide (show joinD a b = none from unhide HJW)
    have HB2 := hide hWw
    clear hWw hrw hg hW hV hck hgb hra hrb hr hd hsz hB HW hkn hkw ho hz HJW
    go_wp2_with fail
    refine bodyPost_ret (v := .tuple #[.agg #[.int .i64 0, .slice none 0 0, .slice none 0 0], .bool false]) (by simp [results, Tryz.results7, go_sem, r0, r1, r2]) rfl ?_
    exact jdE_none (unhide HJ) (below3 (unhide HB2) (R := w.heap.size + 1 + 1) (by omega) _ _ _)
end Go.Proofs.YtenpghndgdemnaaGreatDoor

/- What the law on KindJoin holds behind both calls, and how that is carried on. No conditions. -/

namespace Go.Proofs.YtenpghndgdemnaaGreatDoor
open Go Go.RowKit

/-- The schema of an answer. -/
def jAn (o : Option Kd) : Kd := o.getD kd0
theorem jAn_light (a b : Kd) : wKd (jAn (joinD a b)) ≤ 1048576 := by
  unfold joinD
  by_cases h : 0 < qT a 1 ∧ 0 < qT b 1
  · rw [if_pos h]
    cases hj : jnP 80 a b with
    | none => simp [jAn, okO, kd0, wKd, wS, wKs]
    | some x =>
      have hl := jn_light h.1 h.2 hj
      unfold okO
      by_cases hx : 0 < qT x 1
      · simp only [if_pos hx]; show wKd x ≤ _; omega
      · simp only [if_neg hx]; simp [jAn, kd0, wKd, wS, wKs]
  · rw [if_neg h]; simp [jAn, kd0, wKd, wS, wKs]
end Go.Proofs.YtenpghndgdemnaaGreatDoor
