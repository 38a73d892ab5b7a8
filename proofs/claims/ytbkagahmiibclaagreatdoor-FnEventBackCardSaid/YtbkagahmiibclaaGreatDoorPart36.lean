/- The walk of the specification's l1Text, all sorts: it gives the text of a tree all of whose parts are ok. The text has at most 2^40 bytes. -/
import Derived.Test.YtbkagahmiibclaaGreatDoorPart35
import Derived.Test.YtbkagahmiibclaaGreatDoorPart25
import Derived.Test.YtbkagahmiibclaaGreatDoorPart12
import Derived.Deep.RegionHeld3
import Derived.Test.YtbkagahmiibclaaGreatDoorPart14
import Derived.Test.YtbkagahmiibclaaGreatDoorPart19
import Derived.Test.YtbkagahmiibclaaGreatDoorPart24
import Derived.Test.YtbkagahmiibclaaGreatDoorPart29
import Derived.Lib.OthersKept
import Derived.Lib.AppendIntMem
namespace Go.Proofs.YtbkagahmiibclaaGreatDoor
open Go Go.RowKit

set_option maxRecDepth 100000 in
set_option maxHeartbeats 800000 in
theorem text_6 (n : Nat) (IH : TextSaid n) (t : Tr) (hn : tsz t ≤ n) (P : Nat → Prop) (c : C5) (w : World) (hP : ∀ b, P b → b < w.heap.size) (hrep : Rep P w t c) (ho : okT t = true) (hlen : (txT t).length ≤ 1099511627776) (hs : t.sort = 6) :
    Calls Tryz.prog 35 #[.agg #[c.c0, c.c1, c.c2, c.c3, c.c4]] w fun e w' => e = .returned (.string ⟨(txT t).toArray⟩) ∧ Below w.heap.size w w' := by
  rw [okT_eq, Bool.and_eq_true] at ho
  obtain ⟨ha, hok⟩ := ho
  have hx : txT t = if t.kids.length = 0 then [126] else [63] ++ txM t.kids := by rw [txT_eq, if_neg (by omega), if_neg (by omega), if_neg (by omega), if_pos hs]
  obtain ⟨c0, c1, c2, c3, c4⟩ := c
  obtain ⟨e0, e1, e2, -, -, htx, hns, a, cap, e4, hkl, hks⟩ := hrep.open
  simp only at e0 e1 e2 hns e4
  obtain ⟨a3, cap3, e3, hnl, hnc⟩ := hns
  subst e0 e1 e2 e3 e4
  clear hnc hnl ha hrep
  have hbx : ∀ o, Below w.heap.size w (w.alloc o) := fun o => (Below.refl _ _).alloc (Nat.le_refl _) o
  have HBX := hide hbx
  clear hbx
  rw [hs]
  by_cases h0 : t.kids.length = 0
  · rw [if_pos h0] at hx
    have HX := hide hx
    rw [h0]
    clear hx hlen IH hks hok
    go_enter Tryz.func35, Tryz.ntmps35
    go_wp2_with fail
    go_ret
    exact ⟨ret_str (by rw [unhide HX]), unhide HBX _⟩
  · have hp : 0 < t.kids.length := by omega
    rw [if_neg h0, txM_get hp] at hx
    obtain ⟨b, o, c, rfl, hpb, hcell, hrp⟩ := hks 0 hp
    rw [Nat.zero_mul, Nat.add_zero] at hcell
    have hcell' := hcell.carry (w' := w.alloc (.cells #[.int .i64 6, .int .i64 t.num, .string t.text, .slice a3 t.names.length cap3, .slice (some ⟨b, o, none⟩) t.kids.length cap] 26)) ((unhide HBX _).block b (hP b hpb))
    obtain ⟨c0, c1, c2, c3, c4⟩ := c
    obtain ⟨e0, e1, e2, e3, e4⟩ := hcell'
    simp only at e0 e1 e2 e3 e4
    have hmem : t.kids[0] ∈ t.kids := List.getElem_mem hp
    have hsm : tsz t.kids[0] < n := by have := tsz_kid hmem; omega
    have hlen' : (txT t.kids[0]).length ≤ 1099511627775 := by rw [hx] at hlen; simp at hlen; omega
    have hcall := fun W (hW : Below w.heap.size w W) => IH t.kids[0] hsm P ⟨c0, c1, c2, c3, c4⟩ W (fun b hb' => Nat.lt_of_lt_of_le (hP b hb') hW.size) (Rep.carry (fun b hb' => hW.block b (hP b hb')) (fun _ h => h) _ _ hrp) (okK_get hok 0 hp) (by omega)
    generalize txT t.kids[0] = tk at *
    have HCALL := hide hcall
    have HX := hide hx
    have hd : decide (t.kids.length = 0) = false := by simpa using h0
    clear hcall hx IH hks hok hmem hcell hrp hlen hsm
    generalize t.kids.length = kl at *
    go_enter Tryz.func35, Tryz.ntmps35
    go_wp2_with (go_at_call 35; refine (unhide HCALL _ (unhide HBX _)).mono ?_; rintro e w1 ⟨rfl, hb1⟩)
    go_ret
    refine ⟨ret_str ?_, (unhide HBX _).trans (hb1.mono (unhide HBX _).size)⟩
    rw [unhide HX]; apply ByteArray.ext; simp

theorem sort_of_ok {t : Tr} (h : okT t = true) : t.sort = 1 ∨ t.sort = 2 ∨ t.sort = 3 ∨ t.sort = 4 ∨ t.sort = 5 ∨ t.sort = 6 := by
  rw [okT_eq, Bool.and_eq_true] at h
  have ha := h.1
  unfold aloneB at ha
  by_cases h1 : t.sort = 1; exact Or.inl h1
  by_cases h2 : t.sort = 2; exact Or.inr (Or.inl h2)
  by_cases h3 : t.sort = 3; exact Or.inr (Or.inr (Or.inl h3))
  by_cases h4 : t.sort = 4; exact Or.inr (Or.inr (Or.inr (Or.inl h4)))
  by_cases h5 : t.sort = 5; exact Or.inr (Or.inr (Or.inr (Or.inr (Or.inl h5))))
  by_cases h6 : t.sort = 6; exact Or.inr (Or.inr (Or.inr (Or.inr (Or.inr h6))))
  simp [h1, h2, h3, h4, h5, h6] at ha

theorem text_all : ∀ n, TextSaid n
  | 0 => fun t h => by omega
  | n + 1 => fun t hn P c w hP hrep ho hlen => by
    rcases sort_of_ok ho with h | h | h | h | h | h
    · exact text_123 t P c w hrep ho hlen (Or.inl h)
    · exact text_123 t P c w hrep ho hlen (Or.inr (Or.inl h))
    · exact text_123 t P c w hrep ho hlen (Or.inr (Or.inr h))
    · exact text_4 n (text_all n) t (by omega) P c w hP hrep ho hlen h
    · exact text_5 n (text_all n) t (by omega) P c w hP hrep ho hlen h
    · exact text_6 n (text_all n) t (by omega) P c w hP hrep ho hlen h

theorem l1Text_any (t : Tr) (P : Nat → Prop) (c : C5) (w : World) (hP : ∀ b, P b → b < w.heap.size) (hrep : Rep P w t c) (ho : okT t = true) (hlen : (txT t).length ≤ 1099511627776) :
    Calls Tryz.prog 35 #[.agg #[c.c0, c.c1, c.c2, c.c3, c.c4]] w fun e w' => e = .returned (.string ⟨(txT t).toArray⟩) ∧ Below w.heap.size w w' :=
  text_all (tsz t + 1) t (by omega) P c w hP hrep ho hlen
end Go.Proofs.YtbkagahmiibclaaGreatDoor

/- The walk of the specification's EventWrite: the text of an event that is ok, else nothing. No conditions. -/

namespace Go.Proofs.YtbkagahmiibclaaGreatDoor
open Go Go.RowKit

theorem evT_bytes (ty : ByteArray) (v : Int) (t : Tr) : ((ty ++ (⟨#[64]⟩ : ByteArray)) ++ (⟨(Lib.itoa v).toArray⟩ : ByteArray)) ++ (⟨(txT t).toArray⟩ : ByteArray) = ⟨(evT ty v t).toArray⟩ := by
  apply ByteArray.ext
  unfold evT
  simp

/-- What EventWrite comes to. -/
def evW (ty : ByteArray) (v : Int) (t : Tr) : ByteArray := if evOkB ty v t = true then ⟨(evT ty v t).toArray⟩ else ⟨#[]⟩

/-- What the walk's worlds hold: the box of the event. -/
structure EwAt (w : World) (f : Nat → Value) (W : World) : Prop where
  below : Below w.heap.size w W
  box : W.rowIs w.heap.size 28 7 f
theorem EwAt.on {w W W' : World} {f : Nat → Value} (h : EwAt w f W) (hb : Below W.heap.size W W') : EwAt w f W' := ⟨h.below.trans (hb.mono h.below.size), h.box.of_block (hb.block _ h.box.lt)⟩
theorem EwAt.drew {w W : World} {f : Nat → Value} (h : EwAt w f W) : EwAt w f W.drew := h.on (Below.refl _ _).drew

theorem EwAt.cells {w W : World} {a b c0 c1 c2 c3 c4 : Value} (h : EwAt w (row7 a b c0 c1 c2 c3 c4) W) : W.cell? ⟨w.heap.size, 0, none⟩ = some a ∧ W.cell? ⟨w.heap.size, 1, none⟩ = some b ∧ W.cell? ⟨w.heap.size, 2, none⟩ = some c0 ∧ W.cell? ⟨w.heap.size, 3, none⟩ = some c1 ∧ W.cell? ⟨w.heap.size, 4, none⟩ = some c2 ∧ W.cell? ⟨w.heap.size, 5, none⟩ = some c3 ∧ W.cell? ⟨w.heap.size, 6, none⟩ = some c4 :=
  ⟨h.box.cell (i := 0) (by omega), h.box.cell (i := 1) (by omega), h.box.cell (i := 2) (by omega), h.box.cell (i := 3) (by omega), h.box.cell (i := 4) (by omega), h.box.cell (i := 5) (by omega), h.box.cell (i := 6) (by omega)⟩
theorem addW (t : TypeId) (a b : ByteArray) (h : a.size + b.size ≤ 9223372036854775807) : binOp .add t (.string a) (.string b) = pure (.string (a ++ b)) := by
  have h2 : ¬ (((a.size + b.size : Nat) : Int) > IntKind.i64.max) := by
    rw [show IntKind.i64.max = 9223372036854775807 from rfl]; omega
  simp only [binOp, Op.stringOp]
  rw [if_neg h2]

set_option maxRecDepth 100000 in
set_option maxHeartbeats 6400000 in
theorem specEventWrite_any (ty : ByteArray) (ver : Int) (t : Tr) (P : Nat → Prop) (c : C5) (w : World) (hP : ∀ b, P b → b < w.heap.size) (hrep : Rep P w t c) (hty : ty.size ≤ 9223372036854775807) (hver : I64 ver) :
    Calls Tryz.prog 11 #[.agg #[.string ty, .int .i64 ver, c.c0, c.c1, c.c2, c.c3, c.c4]] w fun e w' => e = .returned (.string (evW ty ver t)) ∧ Below w.heap.size w w' := by
  obtain ⟨c0, c1, c2, c3, c4⟩ := c
  obtain ⟨W0, hW0⟩ : ∃ W0, w.alloc (.cells #[.string ty, .int .i64 ver, c0, c1, c2, c3, c4] 28) = W0 := ⟨_, rfl⟩
  have hst : EwAt w (row7 (.string ty) (.int .i64 ver) c0 c1 c2 c3 c4) W0 := by
    rw [← hW0]
    exact ⟨(Below.refl _ _).alloc (Nat.le_refl _) _, row7_alloc w _ _ _ _ _ _ _ _⟩
  have hok := specEventOk_any ty ver t P ⟨c0, c1, c2, c3, c4⟩ W0 (fun b hb => Nat.lt_of_lt_of_le (hP b hb) hst.below.size) (Rep.carry (fun b hb => hst.below.block b (hP b hb)) (fun _ h => h) _ _ hrep) hty hver
  have x0 := hst.box.cell (i := 0) (by omega); have x1 := hst.box.cell (i := 1) (by omega); have x2 := hst.box.cell (i := 2) (by omega); have x3 := hst.box.cell (i := 3) (by omega); have x4 := hst.box.cell (i := 4) (by omega); have x5 := hst.box.cell (i := 5) (by omega); have x6 := hst.box.cell (i := 6) (by omega)
  simp only [row7] at x0 x1 x2 x3 x4 x5 x6
  have hW : evW ty ver t = if evOkB ty ver t = true then ⟨(evT ty ver t).toArray⟩ else ⟨#[]⟩ := rfl
  cases hb : evOkB ty ver t with
  | false =>
    rw [hb] at hok hW
    rw [if_neg (by decide)] at hW
    have HOK := hide hok; have HST := hide hst; have HW := hide hW
    clear hok hst hrep hP hb hW
    go_enter Tryz.func11, Tryz.ntmps11
    go_wp2_with (go_at_call 6; refine (unhide HOK).mono ?_; rintro e w1 ⟨rfl, hb1⟩)
    go_ret
    exact ⟨by rw [unhide HW]; rfl, ((unhide HST).on hb1).below⟩
  | true =>
    rw [hb] at hok hW
    rw [if_pos rfl] at hW
    obtain ⟨k1, k2, k3, k4, k5⟩ := evOk_open hb
    have hs1 := (nmty_size k1).1
    have hs2 := itoa_short (n := ver) ⟨by omega, by omega⟩
    have hs3 := txT_small k5
    have hokt := okT_of_wlk _ _ _ _ k5
    have hdec : ∀ W, EwAt w (row7 (.string ty) (.int .i64 ver) c0 c1 c2 c3 c4) W → Calls Tryz.prog 34 #[.int .i64 ver] W fun e w' => e = .returned (.string ⟨(Lib.itoa ver).toArray⟩) ∧ Hid (EwAt w (row7 (.string ty) (.int .i64 ver) c0 c1 c2 c3 c4) w') ∧ w'.cell? ⟨w.heap.size, 0, none⟩ = some (.string ty) ∧ w'.cell? ⟨w.heap.size, 1, none⟩ = some (.int .i64 ver) ∧ w'.cell? ⟨w.heap.size, 2, none⟩ = some c0 ∧ w'.cell? ⟨w.heap.size, 3, none⟩ = some c1 ∧ w'.cell? ⟨w.heap.size, 4, none⟩ = some c2 ∧ w'.cell? ⟨w.heap.size, 5, none⟩ = some c3 ∧ w'.cell? ⟨w.heap.size, 6, none⟩ = some c4 := fun W hW => (l6Dec_any ver W (by omega) (by omega)).mono fun e w' ⟨h1, h2⟩ => ⟨h1, hide (hW.on h2), (hW.on h2).cells⟩
    have htx : ∀ W, EwAt w (row7 (.string ty) (.int .i64 ver) c0 c1 c2 c3 c4) W → Calls Tryz.prog 35 #[.agg #[c0, c1, c2, c3, c4]] W fun e w' => e = .returned (.string ⟨(txT t).toArray⟩) ∧ Hid (EwAt w (row7 (.string ty) (.int .i64 ver) c0 c1 c2 c3 c4) w') ∧ w'.cell? ⟨w.heap.size, 0, none⟩ = some (.string ty) ∧ w'.cell? ⟨w.heap.size, 1, none⟩ = some (.int .i64 ver) ∧ w'.cell? ⟨w.heap.size, 2, none⟩ = some c0 ∧ w'.cell? ⟨w.heap.size, 3, none⟩ = some c1 ∧ w'.cell? ⟨w.heap.size, 4, none⟩ = some c2 ∧ w'.cell? ⟨w.heap.size, 5, none⟩ = some c3 ∧ w'.cell? ⟨w.heap.size, 6, none⟩ = some c4 := fun W hW => (l1Text_any t P ⟨c0, c1, c2, c3, c4⟩ W (fun b hb => Nat.lt_of_lt_of_le (hP b hb) hW.below.size) (Rep.carry (fun b hb => hW.below.block b (hP b hb)) (fun _ h => h) _ _ hrep) hokt (by omega)).mono fun e w' ⟨h1, h2⟩ => ⟨h1, hide (hW.on h2), (hW.on h2).cells⟩
    have hbytes := evT_bytes ty ver t
    have HOK := hide hok; have HST := hide hst; have HW := hide hW; have HDEC := hide hdec; have HTX := hide htx; have HBY := hide hbytes
    clear hok hst hrep hP hb hW hdec htx hokt k1 k4 k5 hbytes
    generalize evT ty ver t = X at *
    generalize Lib.itoa ver = dd at *
    generalize txT t = tt at *
    have z1 : (⟨dd.toArray⟩ : ByteArray).size = dd.length := by simp [ByteArray.size]
    have z2 : (⟨tt.toArray⟩ : ByteArray).size = tt.length := by simp [ByteArray.size]
    have z3 : (⟨#[64]⟩ : ByteArray).size = 1 := rfl
    have hA1 : ∀ T, binOp .add T (.string ty) (.string ⟨#[64]⟩) = pure (.string (ty ++ ⟨#[64]⟩)) := fun T => addW T _ _ (by (repeat rw [ByteArray.size_append]); omega)
    have hA2 : ∀ T, binOp .add T (.string (ty ++ ⟨#[64]⟩)) (.string ⟨dd.toArray⟩) = pure (.string ((ty ++ ⟨#[64]⟩) ++ ⟨dd.toArray⟩)) := fun T => addW T _ _ (by (repeat rw [ByteArray.size_append]); omega)
    have hA3 : ∀ T, binOp .add T (.string ((ty ++ ⟨#[64]⟩) ++ ⟨dd.toArray⟩)) (.string ⟨tt.toArray⟩) = pure (.string (((ty ++ ⟨#[64]⟩) ++ ⟨dd.toArray⟩) ++ ⟨tt.toArray⟩)) := fun T => addW T _ _ (by (repeat rw [ByteArray.size_append]); omega)
    clear z1 z2 z3
    go_enter Tryz.func11, Tryz.ntmps11
    go_wp2_with (go_at_call 6; refine (unhide HOK).mono ?_; rintro e w1 ⟨rfl, hb1⟩; have hst1 := (unhide HST).on hb1; have HST1 := hide hst1; have HST1D := hide hst1.drew; have y0 := hst1.box.cell (i := 0) (by omega); have y1 := hst1.box.cell (i := 1) (by omega); have y2 := hst1.box.cell (i := 2) (by omega); have y3 := hst1.box.cell (i := 3) (by omega); have y4 := hst1.box.cell (i := 4) (by omega); have y5 := hst1.box.cell (i := 5) (by omega); have y6 := hst1.box.cell (i := 6) (by omega); simp only [row7] at y0 y1 y2 y3 y4 y5 y6; clear hst1 hb1 HST HOK)
    go_region_held3 (fun W => W.cell? ⟨w.heap.size, 0, none⟩ = some (.string ty) ∧ W.cell? ⟨w.heap.size, 1, none⟩ = some (.int .i64 ver) ∧ W.cell? ⟨w.heap.size, 2, none⟩ = some c0 ∧ W.cell? ⟨w.heap.size, 3, none⟩ = some c1 ∧ W.cell? ⟨w.heap.size, 4, none⟩ = some c2 ∧ W.cell? ⟨w.heap.size, 5, none⟩ = some c3 ∧ W.cell? ⟨w.heap.size, 6, none⟩ = some c4) (first | exact ⟨v0, v1, v2, v3, v4, v5, v6⟩ | exact ⟨z0, z1, z2, z3, z4, z5, z6⟩ | go_keep)
      (first
        | (go_at_call 34; refine (unhide HDEC _ (by first | exact unhide HST1D | exact unhide HST1 | exact unhide HSTB | exact (unhide HSTB).drew)).mono ?_; rintro e w2 ⟨rfl, HSTA, z0, z1, z2, z3, z4, z5, z6⟩)
        | (go_at_call 35; refine (unhide HTX _ (by first | exact unhide HST1D | exact unhide HST1 | exact unhide HSTA | exact (unhide HSTA).drew)).mono ?_; rintro e w3 ⟨rfl, HSTB, v0, v1, v2, v3, v4, v5, v6⟩))
    all_goals
      go_wp2_with fail
      go_ret
      refine ⟨ret_str ?_, ?_⟩
      · rw [unhide HW]; exact unhide HBY
      · first | exact (unhide HSTB).below | exact (unhide HSTA).below
end Go.Proofs.YtbkagahmiibclaaGreatDoor

/- The walks of the program's writers of sorted trees: what stands between kids; numbers, texts, flags; how a method of an interface value is called. What a writer is given is a row of bytes of its caller's own; nothing else of what was there turns. The table of powers is as strconv's text lays it; rows have at most 2^40 bytes. -/

namespace Go.Proofs.YtbkagahmiibclaaGreatDoor
open Go Go.RowKit

/-- What a writer leaves: nothing below B has turned, and of the rest only rows of bytes. -/
structure Wx (B : Nat) (w w' : World) : Prop where
  below : Below B w w'
  others : Lib.OthersKept 5 none w w'
theorem Wx.refl (B : Nat) (w : World) : Wx B w w := ⟨Below.refl _ _, Lib.OthersKept.refl _ _ _⟩
theorem Wx.trans {B : Nat} {a b c : World} (h : Wx B a b) (k : Wx B b c) : Wx B a c := ⟨h.below.trans k.below, h.others.trans k.others⟩
theorem Wx.alloc {B : Nat} {a b : World} (h : Wx B a b) (hB : B ≤ a.heap.size) (o : Obj) : Wx B a (b.alloc o) := ⟨h.below.alloc (Nat.le_trans hB h.below.size) o, h.others.alloc o⟩
theorem Wx.drewN {B : Nat} {a b : World} (h : Wx B a b) (n : Nat) : Wx B a (b.drewN n) := ⟨below_drewN h.below n, h.others⟩
theorem ByRow.wx {B : Nat} {w w' : World} {v : Value} {l : List UInt8} (h : ByRow B w v l) (hg : w.grownBy w' v.ownBlock) (hB : B ≤ w.heap.size) : Wx B w w' := by
  refine ⟨h.below hg hB, (Lib.OthersKept.refl _ _ _).grown hg fun g e => ?_⟩
  rcases h.2 with ⟨hv, _⟩ | ⟨g', cap, cur, hv, _, hh, _⟩
  · rw [hv] at e; cases e
  · rw [hv] at e
    obtain rfl : g' = g := by simpa [Value.ownBlock] using e
    exact ⟨_, _, hh⟩

/-- A writer's end: the row, longer. -/
def WEnd (B : Nat) (w : World) (L : List UInt8) (e : Ending) (w' : World) : Prop := ∃ a n cap, e = .returned (.slice a n cap) ∧ n = L.length ∧ ByRow B w' (.slice a n cap) L ∧ Wx B w w'
theorem WEnd.on {B : Nat} {w0 w w' : World} {L : List UInt8} {e : Ending} (h : WEnd B w L e w') (hx : Wx B w0 w) : WEnd B w0 L e w' := by
  obtain ⟨a, n, cap, h1, h2, h3, h4⟩ := h
  exact ⟨a, n, cap, h1, h2, h3, hx.trans h4⟩
theorem ByRow.wend {B : Nat} {w w2 : World} {v : Value} {l L : List UInt8} {a : Option Addr} {n cap : Nat} (h : ByRow B w v l) (hB : B ≤ w.heap.size) (hn : n = L.length) (h2 : ByRow B w2 (.slice a n cap) L) (hg : w.grownBy w2 v.ownBlock) : WEnd B w L (.returned (.slice a n cap)) w2 := ⟨a, n, cap, rfl, hn, h2, h.wx hg hB⟩

theorem one_byte (w : World) (x : UInt8) (z : Int) (hz : z = x.toNat) (t : TypeId) : ∀ j u, (bc [x])[j]? = some u → (w.alloc (.cells #[.int .u8 z] t)).cell? ((⟨w.heap.size, 0, none⟩ : Addr).add j) = some u := by
  subst hz; exact byte_one w x t

/-! ### A method of an interface value -/
theorem inv1 (y r : Value) (w : World) : (invoke (.fn (.method "loop.example/teagle/impl.write") #[]) #[.iface 132 y, r]).run Tryz.prog w = .ok (.enter 176 #[y, r]) w := by kernel_rfl
theorem inv2 (y r : Value) (w : World) : (invoke (.fn (.method "loop.example/teagle/impl.write") #[]) #[.iface 133 y, r]).run Tryz.prog w = .ok (.enter 180 #[y, r]) w := by kernel_rfl
theorem inv3 (y r : Value) (w : World) : (invoke (.fn (.method "loop.example/teagle/impl.write") #[]) #[.iface 134 y, r]).run Tryz.prog w = .ok (.enter 181 #[y, r]) w := by kernel_rfl
theorem inv4 (y r : Value) (w : World) : (invoke (.fn (.method "loop.example/teagle/impl.write") #[]) #[.iface 136 y, r]).run Tryz.prog w = .ok (.enter 182 #[y, r]) w := by kernel_rfl
theorem inv5 (y r : Value) (w : World) : (invoke (.fn (.method "loop.example/teagle/impl.write") #[]) #[.iface 139 y, r]).run Tryz.prog w = .ok (.enter 184 #[y, r]) w := by kernel_rfl
theorem inv6 (y r : Value) (w : World) : (invoke (.fn (.method "loop.example/teagle/impl.write") #[]) #[.iface 141 y, r]).run Tryz.prog w = .ok (.enter 185 #[y, r]) w := by kernel_rfl

/-- A sorted tree's method write, called. -/
def CallsW (v r : Value) (w : World) (Q : Ending → World → Prop) : Prop :=
  ∃ T y f, v = .iface T y ∧ (∀ w, (invoke (.fn (.method "loop.example/teagle/impl.write") #[]) #[.iface T y, r]).run Tryz.prog w = .ok (.enter f #[y, r]) w) ∧ Calls Tryz.prog f #[y, r] w Q
theorem CallsW.mono {v r : Value} {w : World} {Q R : Ending → World → Prop} (h : CallsW v r w Q) (hq : ∀ e w', Q e w' → R e w') : CallsW v r w R := by
  obtain ⟨T, y, f, h1, h2, h3⟩ := h
  exact ⟨T, y, f, h1, h2, h3.mono hq⟩

theorem wp_write {o : Oper} {a : Act} {w : World} {K : Act → World → Prop} {Q : Exit → Act → World → Prop} (s x : Operand) (hop : o.op = .call { callee := .invoke s "loop.example/teagle/impl.write", args := #[x], argTypes := #[22] })
    (v r : Value) (hs : a.eval s = v) (hx : a.eval x = r) (h : CallsW v r w fun e w' => ∃ u, e = .returned u ∧ K (a.put o.dst u) w') : Oper.wp Tryz.prog o a w K Q := by
  obtain ⟨T, y, f, rfl, hi, hc⟩ := h
  unfold Oper.wp execOp
  have hi' := hi w
  simp only [hop, resolve, Sem.run_bind, Sem.run_pure, Result.andThen_ok, List.map_toArray, List.map_cons, List.map_nil, hs, hx]
  rw [show (#[Value.iface T y] ++ #[r]) = #[Value.iface T y, r] from rfl, hi', Oper.upon_enter]
  refine hc.mono ?_
  rintro e w' ⟨u, rfl, hk⟩
  exact hk
theorem list_write {ops : Array Oper} {rest : List Oper} {o : Oper} {a : Act} {w : World} {Q : Exit → Act → World → Prop} (hg : o.guard = none) (s x : Operand) (hop : o.op = .call { callee := .invoke s "loop.example/teagle/impl.write", args := #[x], argTypes := #[22] })
    (v r : Value) (hs : a.eval s = v) (hx : a.eval x = r) (h : CallsW v r w fun e w' => ∃ u, e = .returned u ∧ wpList Tryz.prog ops Q rest (a.put o.dst u) w') : wpList Tryz.prog ops Q (o :: rest) a w :=
  wpList_plain hg fun _ hK => wp_write s x hop v r hs hx (h.mono fun _ _ ⟨u, h1, h2⟩ => ⟨u, h1, hK _ _ h2⟩)
theorem step_write {ops : Array Oper} {o : Oper} {a : Act} {w : World} {K : Act → World → Prop} {Q : Exit → Act → World → Prop} {E : Prop} (hg : o.guard = none) (s x : Operand) (hop : o.op = .call { callee := .invoke s "loop.example/teagle/impl.write", args := #[x], argTypes := #[22] })
    (v r : Value) (hs : a.eval s = v) (hx : a.eval x = r) (h : CallsW v r w fun e w' => ∃ u, e = .returned u ∧ K (a.put o.dst u) w') : if Region.wanted o (yielded ops a.tmps) = true then Oper.wp Tryz.prog o a w K Q else E := by
  have hw : Region.wanted o (yielded ops a.tmps) = true := by simp [Region.wanted, hg]
  rw [if_pos hw]
  exact wp_write s x hop v r hs hx h

/-! ### The leaves -/
/-- append of the bytes of a string of a named type. -/
theorem append_stringU (w : World) {ops : Array Oper} {rest : List Oper} {o : Oper} {a : Act} {Q : Exit → Act → World → Prop}
    (hg : o.guard = none) (s x : Operand) (u : TypeId) (hu : Tryz.prog.underlying u = some .string) (hop : o.op = Op.call { callee := Callee.builtin Builtin.append, args := #[s, x], argTypes := #[22, u] })
    (base : Nat) (v : Value) (l : List UInt8) (tx : ByteArray) (hs : a.eval s = v) (hown : ByRow base w v l) (hx : a.eval x = .string tx)
    (hlen : l.length + tx.size ≤ 1099511627776) (hbase : base ≤ w.heap.size)
    (hK : ∀ a' n' cap' w', Hid (n' = (l ++ tx.data.toList).length) → Hid (ByRow base w' (.slice a' n' cap') (l ++ tx.data.toList)) → Hid (w.grownBy w' v.ownBlock) → wpList Tryz.prog ops Q rest (a.put o.dst (.slice a' n' cap')) w') :
    wpList Tryz.prog ops Q (o :: rest) a w := by
  obtain ⟨i0, hi, hz0, hz1, hz2⟩ := info_parts infoU8
  have hsz : tx.data.toList.length = tx.size := by simp
  refine Lib.wpList_append_own_string w hg s x 22 u hop base 5 i0 Tryz.underlying22 hu hi hz0 hz1 hz2 v l.length (bc l) hs hown tx hx (by unfold maxLen; omega) (by omega) hbase (fun v' w' r1 r2 _ => ?_)
  have hr : ByRow base w' v' (l ++ tx.data.toList) := by
    show w'.ownsRow base 5 1 v' (l ++ tx.data.toList).length (bc (l ++ tx.data.toList))
    rw [bc_append, List.length_append, hsz, ← bc_str]; exact r1
  obtain ⟨a', cap', rfl⟩ := hr.slice
  exact hK a' _ cap' w' rfl hr r2
set_option maxRecDepth 100000 in
set_option maxHeartbeats 800000 in
theorem between_any (B : Nat) (w : World) (r : Value) (l : List UInt8) (k : Nat) (hr : ByRow B w r l) (hB : B ≤ w.heap.size) (hl : l.length + 1 ≤ 1099511627776) (hk : k ≤ 1099511627776) :
    Calls Tryz.prog 183 #[r, .int .i64 k] w (WEnd B w (l ++ if 0 < k then [44] else [])) := by
  have HR := hide hr
  by_cases h0 : k = 0
  · subst h0
    obtain ⟨a, cap, rfl⟩ := hr.slice
    clear hr
    go_enter Tryz.func183, Tryz.ntmps183
    go_wp2_with fail
    go_ret
    exact ⟨_, _, _, rfl, by simp, by simpa using unhide HR, Wx.refl _ _⟩
  · have hd : (((k : Int)) == 0) = false := by simp; omega
    have hd2 : decide ((k : Int) = 0) = false := by simp; omega
    rw [if_pos (by omega)]
    clear hr
    go_enter Tryz.func183, Tryz.ntmps183
    go_wp2_with (at_builtin; refine append_bytes _ rfl _ _ rfl B r l [44] rfl (World.ownsRow.alloc (unhide HR) _) ⟨w.heap.size, 0, none⟩ 1 1 rfl rfl (one_byte _ 44 _ rfl _) (by simp; omega) (by simp; omega) ?_; intro a' n' cap' w2 HN HR2 HG)
    go_ret
    exact ((ByRow.wend (World.ownsRow.alloc (unhide HR) _) (by simp; omega) HN.out HR2.out HG.out).on ((Wx.refl _ _).alloc hB _))

set_option maxRecDepth 100000 in
set_option maxHeartbeats 800000 in
theorem wr_num (B : Nat) (w : World) (r : Value) (l : List UInt8) (i : Int) (hi : I64 i) (hr : ByRow B w r l) (hB : B ≤ w.heap.size) (hl : l.length ≤ 1099511627776) (ht : Lib.TabBelow Tryz.prog B w "internal/strconv.uint64pow10" .u64 Lib.pow10Tab) :
    Calls Tryz.prog 176 #[.int .i64 i, r] w (WEnd B w (l ++ Lib.itoa i)) := by
  have HC := hide (Tryz.strconv_AppendInt_10 B l.length i hi.1 hi.2 r (bc l) w hr hB (by omega) ht)
  clear hr ht
  go_enter Tryz.func176, Tryz.ntmps176
  go_wp2_with fail
  refine (unhide HC).mono ?_
  rintro e w' ⟨v', rfl, h1, h2, h3⟩
  have hrow : ByRow B w' v' (l ++ Lib.itoa i) := by
    show w'.ownsRow B 5 1 v' (l ++ Lib.itoa i).length (bc (l ++ Lib.itoa i))
    rw [bc_append, List.length_append]; exact h1
  obtain ⟨a, cap, rfl⟩ := hrow.slice
  obtain ⟨n, hn⟩ : ∃ n, (l ++ Lib.itoa i).length = n := ⟨_, rfl⟩
  rw [hn] at hrow ⊢
  have HEND : Hid (WEnd B w (l ++ Lib.itoa i) (.returned (.slice a n cap)) w') := ⟨_, _, _, rfl, hn.symm, hrow, h2, h3⟩
  clear hrow h1 h2 h3 HC hn
  go_wp2_with fail
  go_ret
  exact HEND.out

theorem undText : Tryz.prog.underlying 133 = some .string := by kernel_rfl
set_option maxRecDepth 100000 in
set_option maxHeartbeats 800000 in
theorem wr_text (B : Nat) (w : World) (r : Value) (l : List UInt8) (tx : ByteArray) (hr : ByRow B w r l) (hB : B ≤ w.heap.size) (hl : l.length + tx.size + 2 ≤ 1099511627776) :
    Calls Tryz.prog 180 #[.string tx, r] w (WEnd B w (l ++ ([34] ++ tx.data.toList ++ [34]))) := by
  have hsz : tx.data.toList.length = tx.size := by simp
  have HR := hide hr
  have hbx : ∀ (W : World) (o : Obj), B ≤ W.heap.size → B ≤ (W.alloc o).heap.size := fun W o h => by simp; omega
  have HE : Hid (((l ++ [34]) ++ tx.data.toList) ++ [34] = l ++ ([34] ++ tx.data.toList ++ [34])) := by show _ = _; simp
  clear hr
  go_enter Tryz.func180, Tryz.ntmps180
  go_wp2_with (at_builtin; first
    | (refine append_bytes _ rfl _ _ rfl B r l [34] rfl (World.ownsRow.alloc (unhide HR) _) ⟨w.heap.size, 0, none⟩ 1 1 rfl rfl (one_byte _ 34 _ rfl _) (by simp; omega) (hbx _ _ hB) ?_
       intro a1 n1 cap1 w1 HN1 HR1 HG1
       have hx1 := (ByRow.wx (World.ownsRow.alloc (unhide HR) (.cells #[.int .u8 34] 5)) HG1.out (hbx _ _ hB))
       have hB1 : B ≤ w1.heap.size := Nat.le_trans (hbx _ _ hB) hx1.below.size
       have HX1 := hide (((Wx.refl B w).alloc hB (.cells #[.int .u8 34] 5)).trans hx1)
       clear hx1 HG1)
    | (refine append_stringU _ rfl _ _ 133 undText rfl B (.slice a1 n1 cap1) (l ++ [34]) tx rfl HR1.out rfl (by simp; omega) hB1 ?_
       intro a2 n2 cap2 w2 HN2 HR2 HG2
       have hx2 := ByRow.wx HR1.out HG2.out hB1
       have hB2 : B ≤ w2.heap.size := Nat.le_trans hB1 hx2.below.size
       have HX2 := hide ((unhide HX1).trans hx2)
       clear hx2 HG2 HR1 HX1)
    | (refine append_bytes _ rfl _ _ rfl B (.slice a2 n2 cap2) ((l ++ [34]) ++ tx.data.toList) [34] rfl (World.ownsRow.alloc HR2.out _) ⟨w2.heap.size, 0, none⟩ 1 1 rfl rfl (one_byte _ 34 _ rfl _) (by simp; omega) (hbx _ _ hB2) ?_
       intro a3 n3 cap3 w3 HN3 HR3 HG3))
  go_ret
  show WEnd B w (l ++ ([34] ++ tx.data.toList ++ [34])) (.returned (.slice a3 n3 cap3)) w3
  rw [← unhide HE]
  exact (ByRow.wend (World.ownsRow.alloc HR2.out _) (hbx _ _ hB2) HN3.out HR3.out HG3.out).on (((unhide HX2).alloc hB _))

set_option maxRecDepth 100000 in
set_option maxHeartbeats 800000 in
theorem wr_flag (B : Nat) (w : World) (r : Value) (l : List UInt8) (b : Bool) (hr : ByRow B w r l) (hB : B ≤ w.heap.size) (hl : l.length + (if b = true then [121, 101, 115] else [110, 111] : List UInt8).length ≤ 1099511627776) :
    Calls Tryz.prog 181 #[.bool b, r] w (WEnd B w (l ++ if b = true then [121, 101, 115] else [110, 111])) := by
  have HR := hide hr
  clear hr
  have s1 : (⟨#[121, 101, 115]⟩ : ByteArray).size = 3 := rfl
  have s2 : (⟨#[110, 111]⟩ : ByteArray).size = 2 := rfl
  cases b with
  | true =>
    have hl3 : l.length + 3 ≤ 1099511627776 := by simpa using hl
    clear hl
    go_enter Tryz.func181, Tryz.ntmps181
    go_wp2_with (at_builtin; refine append_string _ rfl _ _ rfl B r l ⟨#[121, 101, 115]⟩ rfl (unhide HR) rfl (by rw [s1]; exact hl3) hB ?_; intro a2 n2 cap2 w2 HN2 HR2 HG2)
    go_ret
    exact (ByRow.wend (unhide HR) hB HN2.out HR2.out HG2.out)
  | false =>
    have hl2 : l.length + 2 ≤ 1099511627776 := by simpa using hl
    clear hl
    go_enter Tryz.func181, Tryz.ntmps181
    go_wp2_with (at_builtin; refine append_string _ rfl _ _ rfl B r l ⟨#[110, 111]⟩ rfl (unhide HR) rfl (by rw [s2]; exact hl2) hB ?_; intro a2 n2 cap2 w2 HN2 HR2 HG2)
    go_ret
    exact (ByRow.wend (unhide HR) hB HN2.out HR2.out HG2.out)
end Go.Proofs.YtbkagahmiibclaaGreatDoor
