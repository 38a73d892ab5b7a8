/- The works of the program's joins: what each makes of two schemas. Conditions: what a work asks for is taken by its contract (a hypothesis). -/
import Derived.Test.YtenpghndgdemnaaGreatDoorPart26
import Derived.Test.YtenpghndgdemnaaGreatDoorPart27
namespace Go.Proofs.YtenpghndgdemnaaGreatDoor
open Go Go.RowKit

/-- The boxes of two schemas and of the answer. -/
structure B3 (w W : World) (c d : C3) : Prop where
  below : Below w.heap.size w W
  size : W.heap.size = w.heap.size + 3
  a : W.rowIs w.heap.size 26 3 (row3 c.c0 c.c1 c.c2)
  b : W.rowIs (w.heap.size + 1) 26 3 (row3 d.c0 d.c1 d.c2)
  r : W.rowIs (w.heap.size + 2) 26 3 (row3 (.int .i64 0) (.slice none 0 0) (.slice none 0 0))
theorem B3.start (w : World) (c0 c1 c2 d0 d1 d2 : Value) : B3 w (((w.alloc (.cells #[c0, c1, c2] 26)).alloc (.cells #[d0, d1, d2] 26)).alloc (.cells #[.int .i64 0, .slice none 0 0, .slice none 0 0] 26)) ⟨c0, c1, c2⟩ ⟨d0, d1, d2⟩ := by
  have h2 := row3_alloc (w.alloc (.cells #[c0, c1, c2] 26)) d0 d1 d2 26
  have h3 := row3_alloc ((w.alloc (.cells #[c0, c1, c2] 26)).alloc (.cells #[d0, d1, d2] 26)) (.int .i64 0) (.slice none 0 0) (.slice none 0 0) 26
  simp only [World.size_alloc] at h2 h3
  exact ⟨(((Below.refl _ _).alloc (Nat.le_refl _) _).alloc (by simp) _).alloc (by simp; omega) _, by simp, ((row3_alloc w c0 c1 c2 _).alloc _).alloc _, h2.alloc _, h3⟩
theorem JV.but {o : Option Kd} {m g : Nat} {W W' : World} {d : C3} {er : Value} (h : JV o m W d er) (hb : But g W W') (hg : g < m) : JV o m W' d er := by
  rcases h with ⟨x, F, h1, h2, h3, h4, h5⟩ | h
  · exact Or.inl ⟨x, F, h1, h2, OwnD.carry _ _ _ (fun b hb' => hb.at (h5 b hb').2 (by have := (h5 b hb').1; omega)) h3, h4, fun b hb' => ⟨(h5 b hb').1, Nat.lt_of_lt_of_le (h5 b hb').2 hb.size⟩⟩
  · exact Or.inr h
theorem but3 (W : World) (R : Nat) (c0 c1 c2 : Value) : But R W (((W.setCell ⟨R, 0, none⟩ c0).setCell ⟨R, 1, none⟩ c1).setCell ⟨R, 2, none⟩ c2) := ((But.set W 0 c0).trans (But.set _ 1 c1)).trans (But.set _ 2 c2)
theorem below3 {w W : World} (h : Below w.heap.size w W) {R : Nat} (hR : w.heap.size ≤ R) (c0 c1 c2 : Value) : Below w.heap.size w (((W.setCell ⟨R, 0, none⟩ c0).setCell ⟨R, 1, none⟩ c1).setCell ⟨R, 2, none⟩ c2) := ((h.setCell hR _).setCell hR _).setCell hR _
theorem JE.put {o : Option Kd} {m R : Nat} {w W : World} {c0 c1 c2 er : Value} (h : JV o m W ⟨c0, c1, c2⟩ er) (h3 : Any3 ⟨c0, c1, c2⟩) (hb : Below w.heap.size w W) (hR : w.heap.size ≤ R) (hm : R < m) : JE o w (.returned (.tuple #[.agg #[c0, c1, c2], er])) (((W.setCell ⟨R, 0, none⟩ c0).setCell ⟨R, 1, none⟩ c1).setCell ⟨R, 2, none⟩ c2) :=
  ⟨⟨c0, c1, c2⟩, er, rfl, h3, (h.but (but3 W R c0 c1 c2) hm).low (by omega), below3 hb hR c0 c1 c2⟩
theorem any3_mk (s : Int) (a : Option Addr) (n p : Nat) (a' : Option Addr) (n' p' : Nat) : Any3 ⟨.int .i64 s, .slice a n p, .slice a' n' p'⟩ := ⟨s, a, a', n, p, n', p', rfl⟩
theorem JE.wrap {o : Option Kd} {m R : Nat} {w W : World} {c0 c1 c2 er : Value} (s : Int) (hs : s = 4 ∨ s = 6) (t : TypeId) (h : JV o m W ⟨c0, c1, c2⟩ er) (hb : Below w.heap.size w W) (hR : w.heap.size ≤ R) (hm : R < m) (hmW : m ≤ W.heap.size) (hwm : w.heap.size ≤ m) (v0 v1 v2 : Value) :
    JE (o.map fun x => .mk s [] [x]) w (.returned (.tuple #[.agg #[.int .i64 s, .slice none 0 0, .slice (some ⟨W.heap.size, 0, none⟩) 1 1], er])) ((((W.setCell ⟨R, 0, none⟩ v0).setCell ⟨R, 1, none⟩ v1).setCell ⟨R, 2, none⟩ v2).alloc (.cells #[c0, c1, c2] t)) := by
  have h1 := h.but (but3 W R v0 v1 v2) hm
  have hz : (((W.setCell ⟨R, 0, none⟩ v0).setCell ⟨R, 1, none⟩ v1).setCell ⟨R, 2, none⟩ v2).heap.size = W.heap.size := by rw [size_setCell, size_setCell, size_setCell]
  have h2 := JV.wrap s hs t h1 (by omega)
  rw [hz] at h2
  have hb3 := below3 hb hR v0 v1 v2
  exact ⟨_, er, rfl, any3_mk _ _ _ _ _ _ _, h2.low hwm, hb3.alloc hb3.size _⟩
set_option maxRecDepth 100000 in
set_option maxHeartbeats 1600000 in
theorem intoMaybe_walk (T : Nat) (s : Int) (a1 a2 : Option Addr) (n1 p1 n2 p2 : Nat) (x : C3) (s' : Int) (b1 : Option Addr) (m1 q1 yb yo yc : Nat) (path : ByteArray) (hps : path.size ≤ 1000000) (o : Option Kd) (w : World) (hy : K3 w yb (yo + 0 * 3) x)
    (hcall : ∀ W, Below w.heap.size w W → Calls Tryz.prog 55 #[.pointer (some ⟨T, 0, none⟩), .agg #[.int .i64 s, .slice a1 n1 p1, .slice a2 n2 p2], .agg #[x.c0, x.c1, x.c2], .string (path ++ ⟨#[63]⟩)] W (JE o W)) :
    Calls Tryz.prog 49 #[.pointer (some ⟨T, 0, none⟩), .agg #[.int .i64 s, .slice a1 n1 p1, .slice a2 n2 p2], .agg #[.int .i64 s', .slice b1 m1 q1, .slice (some ⟨yb, yo, none⟩) 1 yc], .string path] w (JE (o.map mbK) w) := by
  have hz : (⟨#[63]⟩ : ByteArray).size = 1 := rfl
  have hB := B3.start w (.int .i64 s) (.slice a1 n1 p1) (.slice a2 n2 p2) (.int .i64 s') (.slice b1 m1 q1) (.slice (some ⟨yb, yo, none⟩) 1 yc)
  have HB := hide hB
  have HC := hide hcall
  clear hcall
  go_enter Tryz.func49, Tryz.ntmps49
  go_upto_region 1 with fail
  generalize (((w.alloc (.cells #[.int .i64 s, .slice a1 n1 p1, .slice a2 n2 p2] 26)).alloc (.cells #[.int .i64 s', .slice b1 m1 q1, .slice (some ⟨yb, yo, none⟩) 1 yc] 26)).alloc (.cells #[.int .i64 0, .slice none 0 0, .slice none 0 0] 26)) = W0 at hB HB ⊢
  have hd := hB.below.drew
  refine wp_swap (c' := Code.region 1 jrIOps true) (by kernel_rfl) ?_
  refine wp_region_noPanic ?_
  have ha := hB.a.of_block (w' := W0.drew) rfl
  have hb := hB.b.of_block (w' := W0.drew) rfl
  have hK : ∀ (b o : Nat) (c : C3), K3 w b o c → K3 W0.drew b o c := fun b o c hy => ⟨Nat.lt_of_lt_of_le hy.1 hd.size, (hd.cell hy.1).trans hy.2.1, (hd.cell hy.1).trans hy.2.2.1, (hd.cell hy.1).trans hy.2.2.2⟩
  have hps' : path.size + (⟨#[63]⟩ : ByteArray).size ≤ 9223372036854775807 := by rw [hz]; omega
  have hk : ∀ W, Below W0.drew.heap.size W0.drew W → Calls Tryz.prog 55 #[.pointer (some ⟨T, 0, none⟩), .agg #[.int .i64 s, .slice a1 n1 p1, .slice a2 n2 p2], .agg #[x.c0, x.c1, x.c2], .string (path ++ ⟨#[63]⟩)] W fun e w' => Below W.heap.size W w' ∧ ∃ (d : C3) (er : Value), e = .returned (.tuple #[.agg #[d.c0, d.c1, d.c2], er]) ∧ Any3 d ∧ (Any3 d ∧ JV o W.heap.size w' d er) := fun W hW =>
    (unhide HC W (hd.trans (hW.mono hd.size))).mono fun e w' ⟨d, er, h1, h2, h3, h4⟩ => ⟨h4, d, er, h1, h2, h2, h3⟩
  refine jrI T w.heap.size (w.heap.size + 1) (w.heap.size + 1 + 1) path (path ++ ⟨#[63]⟩) ⟨.int .i64 s, .slice a1 n1 p1, .slice a2 n2 p2⟩ ⟨.int .i64 s', .slice b1 m1 q1, .slice (some ⟨yb, yo, none⟩) 1 yc⟩ x yb yo yc (fun V0 V1 d er => Any3 d ∧ JV o V0.heap.size V1 d er) W0 _ (fun _ _ _ _ _ h => h) ha hb rfl (hK _ _ _ hy) rfl hps' (by intro W hW; with_reducible exact hk W hW) (by kernel_rfl) ?_
  rintro u V0 V1 W d er g hV ⟨⟨s0, d1, d2, k1, r1, k2, r2, rfl⟩, hJ⟩ hW hck hg hgb -
  refine NoPanic.normal ?_
  simp only [frL_eq, frG, List.lookup, Nat.reduceBEq, Nat.reduceAdd, Option.getD_some, Option.getD_none]
  have hWw : Below w.heap.size w W := hd.trans (hW.mono hd.size)
  have hsz : W0.drew.heap.size = w.heap.size + 3 := hB.size
  have hJ2 : JV o (w.heap.size + 3) W ⟨.int .i64 s0, .slice d1 k1 r1, .slice d2 k2 r2⟩ er := hJ.ck hck (by have := hV.size; omega)
  have hr := (hB.r.of_block (w' := W0.drew) rfl).of_block (hW.block _ (by omega))
  obtain ⟨g0, g1, g2⟩ : W.cell? ⟨g, 0, none⟩ = some (.int .i64 s0) ∧ W.cell? ⟨g, 1, none⟩ = some (.slice d1 k1 r1) ∧ W.cell? ⟨g, 2, none⟩ = some (.slice d2 k2 r2) := ⟨hg.cell (i := 0) (by omega), hg.cell (i := 1) (by omega), hg.cell (i := 2) (by omega)⟩
  have m0 := hr.cell (i := 0) (by omega); have m1' := hr.cell (i := 1) (by omega); have m2' := hr.cell (i := 2) (by omega); have mf := hr.frozen
  simp only [row3] at m0 m1' m2'
  have HE := hide (JE.wrap 6 (by omega) 26 hJ2 hWw (R := w.heap.size + 1 + 1) (by omega) (by omega) (by have := hW.size; omega) (by omega) (.int .i64 6) (.slice none 0 0) (.slice (some ⟨W.heap.size, 0, none⟩) 1 1))
  have hRl := hr.lt
  clear hV hJ hW hck hg hgb hWw hsz hJ2 hr hB hd HC HB hK ha hb hps' hk
  go_wp2_with fail
  refine bodyPost_ret (v := .tuple #[.agg #[.int .i64 6, .slice none 0 0, .slice (some ⟨W.heap.size, 0, none⟩) 1 1], er]) (by simp [results, Tryz.results49, go_sem, hRl, m0, m1', m2']) rfl (unhide HE)
set_option maxRecDepth 100000 in
set_option maxHeartbeats 1600000 in
theorem ofLists_walk (T : Nat) (s : Int) (a1 : Option Addr) (n1 p1 : Nat) (z x : C3) (s' : Int) (b1 : Option Addr) (m1 q1 xb xo xc yb yo yc : Nat) (path : ByteArray) (hps : path.size ≤ 1000000) (o : Option Kd) (w : World) (hx : K3 w xb (xo + 0 * 3) z) (hy : K3 w yb (yo + 0 * 3) x)
    (hcall : ∀ W, Below w.heap.size w W → Calls Tryz.prog 55 #[.pointer (some ⟨T, 0, none⟩), .agg #[z.c0, z.c1, z.c2], .agg #[x.c0, x.c1, x.c2], .string (path ++ ⟨#[91]⟩)] W (JE o W)) :
    Calls Tryz.prog 52 #[.pointer (some ⟨T, 0, none⟩), .agg #[.int .i64 s, .slice a1 n1 p1, .slice (some ⟨xb, xo, none⟩) 1 xc], .agg #[.int .i64 s', .slice b1 m1 q1, .slice (some ⟨yb, yo, none⟩) 1 yc], .string path] w (JE (o.map liK) w) := by
  have hz : (⟨#[91]⟩ : ByteArray).size = 1 := rfl
  have hB := B3.start w (.int .i64 s) (.slice a1 n1 p1) (.slice (some ⟨xb, xo, none⟩) 1 xc) (.int .i64 s') (.slice b1 m1 q1) (.slice (some ⟨yb, yo, none⟩) 1 yc)
  have HB := hide hB
  have HC := hide hcall
  clear hcall
  go_enter Tryz.func52, Tryz.ntmps52
  go_upto_region 1 with fail
  generalize (((w.alloc (.cells #[.int .i64 s, .slice a1 n1 p1, .slice (some ⟨xb, xo, none⟩) 1 xc] 26)).alloc (.cells #[.int .i64 s', .slice b1 m1 q1, .slice (some ⟨yb, yo, none⟩) 1 yc] 26)).alloc (.cells #[.int .i64 0, .slice none 0 0, .slice none 0 0] 26)) = W0 at hB HB ⊢
  have hd := hB.below.drew
  refine wp_swap (c' := Code.region 1 jrLOps true) (by kernel_rfl) ?_
  refine wp_region_noPanic ?_
  have ha := hB.a.of_block (w' := W0.drew) rfl
  have hb := hB.b.of_block (w' := W0.drew) rfl
  have hK : ∀ (b o : Nat) (c : C3), K3 w b o c → K3 W0.drew b o c := fun b o c hy => ⟨Nat.lt_of_lt_of_le hy.1 hd.size, (hd.cell hy.1).trans hy.2.1, (hd.cell hy.1).trans hy.2.2.1, (hd.cell hy.1).trans hy.2.2.2⟩
  have hps' : path.size + (⟨#[91]⟩ : ByteArray).size ≤ 9223372036854775807 := by rw [hz]; omega
  have hk : ∀ W, Below W0.drew.heap.size W0.drew W → Calls Tryz.prog 55 #[.pointer (some ⟨T, 0, none⟩), .agg #[z.c0, z.c1, z.c2], .agg #[x.c0, x.c1, x.c2], .string (path ++ ⟨#[91]⟩)] W fun e w' => Below W.heap.size W w' ∧ ∃ (d : C3) (er : Value), e = .returned (.tuple #[.agg #[d.c0, d.c1, d.c2], er]) ∧ Any3 d ∧ (Any3 d ∧ JV o W.heap.size w' d er) := fun W hW =>
    (unhide HC W (hd.trans (hW.mono hd.size))).mono fun e w' ⟨d, er, h1, h2, h3, h4⟩ => ⟨h4, d, er, h1, h2, h2, h3⟩
  refine jrL T w.heap.size (w.heap.size + 1) (w.heap.size + 1 + 1) path (path ++ ⟨#[91]⟩) ⟨.int .i64 s, .slice a1 n1 p1, .slice (some ⟨xb, xo, none⟩) 1 xc⟩ ⟨.int .i64 s', .slice b1 m1 q1, .slice (some ⟨yb, yo, none⟩) 1 yc⟩ z x xb xo xc yb yo yc (fun V0 V1 d er => Any3 d ∧ JV o V0.heap.size V1 d er) W0 _ (fun _ _ _ _ _ h => h) ha hb rfl rfl (hK _ _ _ hx) (hK _ _ _ hy) rfl hps' (by intro W hW; with_reducible exact hk W hW) (by kernel_rfl) ?_
  rintro u V0 V1 W d er g hV ⟨⟨s0, d1, d2, k1, r1, k2, r2, rfl⟩, hJ⟩ hW hck hg hgb -
  refine NoPanic.normal ?_
  simp only [frL_eq, frG, List.lookup, Nat.reduceBEq, Nat.reduceAdd, Option.getD_some, Option.getD_none]
  have hWw : Below w.heap.size w W := hd.trans (hW.mono hd.size)
  have hsz : W0.drew.heap.size = w.heap.size + 3 := hB.size
  have hJ2 : JV o (w.heap.size + 3) W ⟨.int .i64 s0, .slice d1 k1 r1, .slice d2 k2 r2⟩ er := hJ.ck hck (by have := hV.size; omega)
  have hr := (hB.r.of_block (w' := W0.drew) rfl).of_block (hW.block _ (by omega))
  obtain ⟨g0, g1, g2⟩ : W.cell? ⟨g, 0, none⟩ = some (.int .i64 s0) ∧ W.cell? ⟨g, 1, none⟩ = some (.slice d1 k1 r1) ∧ W.cell? ⟨g, 2, none⟩ = some (.slice d2 k2 r2) := ⟨hg.cell (i := 0) (by omega), hg.cell (i := 1) (by omega), hg.cell (i := 2) (by omega)⟩
  have m0 := hr.cell (i := 0) (by omega); have m1' := hr.cell (i := 1) (by omega); have m2' := hr.cell (i := 2) (by omega); have mf := hr.frozen
  simp only [row3] at m0 m1' m2'
  have HE := hide (JE.wrap 4 (by omega) 26 hJ2 hWw (R := w.heap.size + 1 + 1) (by omega) (by omega) (by have := hW.size; omega) (by omega) (.int .i64 4) (.slice none 0 0) (.slice (some ⟨W.heap.size, 0, none⟩) 1 1))
  have hRl := hr.lt
  clear hV hJ hW hck hg hgb hWw hsz hJ2 hr hB hd HC HB hK ha hb hps' hk
  go_wp2_with fail
  refine bodyPost_ret (v := .tuple #[.agg #[.int .i64 4, .slice none 0 0, .slice (some ⟨W.heap.size, 0, none⟩) 1 1], er]) (by simp [results, Tryz.results52, go_sem, hRl, m0, m1', m2']) rfl (unhide HE)
set_option maxRecDepth 100000 in
set_option maxHeartbeats 1600000 in
theorem ofLeaves_walk (T : Nat) (s s' : Int) (a1 a2 b1 b2 : Option Addr) (n1 p1 n2 p2 m1 q1 m2 q2 : Nat) (path : ByteArray) (w : World) (hs : I64 s) :
    Calls Tryz.prog 51 #[.pointer (some ⟨T, 0, none⟩), .agg #[.int .i64 s, .slice a1 n1 p1, .slice a2 n2 p2], .agg #[.int .i64 s', .slice b1 m1 q1, .slice b2 m2 q2], .string path] w (JE (some (.mk s [] [])) w) := by
  have HB := hide ((B3.start w (.int .i64 s) (.slice a1 n1 p1) (.slice a2 n2 p2) (.int .i64 s') (.slice b1 m1 q1) (.slice b2 m2 q2)).below)
  go_enter Tryz.func51, Tryz.ntmps51
  go_wp2_with fail
  refine bodyPost_ret (v := .tuple #[.agg #[.int .i64 s, .slice none 0 0, .slice none 0 0], .nilIface]) (by simp [results, Tryz.results51, go_sem]) rfl ?_
  exact ⟨⟨.int .i64 s, .slice none 0 0, .slice none 0 0⟩, .nilIface, rfl, any3_mk _ _ _ _ _ _ _, Or.inl ⟨_, [], rfl, rfl, OwnD.leaf _ s hs, List.nodup_nil, fun b hb => by simp at hb⟩, (((Below.refl _ _).alloc (Nat.le_refl _) _).alloc (by simp) _).alloc (by simp; omega) _⟩
theorem ownD_form {w : World} {t : Kd} {c : C3} {F : List Nat} (h : OwnD w t c F) : ∃ (a1 : Option Addr) (p1 : Nat) (a2 : Option Addr) (p2 : Nat), c = ⟨.int .i64 t.sort, .slice a1 t.names.length p1, .slice a2 t.kids.length p2⟩ := by
  obtain ⟨h0, -, F1, F2, -, ⟨a, cap, h3, -⟩, a2, cap2, h4, -⟩ := h.open
  obtain ⟨c0, c1, c2⟩ := c
  simp only at h0 h3 h4
  exact ⟨a, cap, a2, cap2, by rw [h0, h3, h4]⟩
set_option maxRecDepth 100000 in
set_option maxHeartbeats 1600000 in
theorem ofOne_walk (T : Nat) (k : Kd) (s' : Int) (a1 a2 b1 b2 : Option Addr) (p1 p2 m1 q1 m2 q2 : Nat) (path : ByteArray) (w : World) (hk : KRep (fun x => x < w.heap.size) w k ⟨.int .i64 k.sort, .slice a1 k.names.length p1, .slice a2 k.kids.length p2⟩) (hsz : ksz k ≤ 1000000) (hwt : wKd k ≤ 1048576) :
    Calls Tryz.prog 48 #[.pointer (some ⟨T, 0, none⟩), .agg #[.int .i64 k.sort, .slice a1 k.names.length p1, .slice a2 k.kids.length p2], .agg #[.int .i64 s', .slice b1 m1 q1, .slice b2 m2 q2], .string path] w (JE (some (mbK k)) w) := by
  have hB := B3.start w (.int .i64 k.sort) (.slice a1 k.names.length p1) (.slice a2 k.kids.length p2) (.int .i64 s') (.slice b1 m1 q1) (.slice b2 m2 q2)
  have hcp := fun W (hW : Below w.heap.size w W) => copyKind_any k (fun x => x < w.heap.size) _ W (fun x hx => Nat.lt_of_lt_of_le hx hW.size) (KRep.carry (fun x hx => hW.block x hx) (fun _ h => h) _ _ hk) hsz hwt
  have HB := hide hB; have HC := hide hcp
  clear hcp hk hsz hwt
  go_enter Tryz.func48, Tryz.ntmps48
  go_wp2_with fail
  generalize (((w.alloc (.cells #[.int .i64 k.sort, .slice a1 k.names.length p1, .slice a2 k.kids.length p2] 26)).alloc (.cells #[.int .i64 s', .slice b1 m1 q1, .slice b2 m2 q2] 26)).alloc (.cells #[.int .i64 0, .slice none 0 0, .slice none 0 0] 26)) = W0 at hB HB ⊢
  refine (unhide HC W0 hB.below).mono ?_
  rintro e W ⟨d, F, rfl, ho, hnd, hF, hb⟩
  obtain ⟨d1, c1, d2, c2, rfl⟩ := ownD_form ho
  have hWw : Below w.heap.size w W := hB.below.trans (hb.mono hB.below.size)
  have hsz := hB.size
  have hJ2 : JV (some k) (w.heap.size + 3) W ⟨.int .i64 k.sort, .slice d1 k.names.length c1, .slice d2 k.kids.length c2⟩ .nilIface := Or.inl ⟨k, F, rfl, rfl, ho, hnd, fun b hb' => by have := hF b hb'; omega⟩
  have hr := hB.r.of_block (hb.block _ (by omega))
  have m0 := hr.cell (i := 0) (by omega); have m1' := hr.cell (i := 1) (by omega); have m2' := hr.cell (i := 2) (by omega); have mf := hr.frozen
  simp only [row3] at m0 m1' m2'
  have hRl := hr.lt
  have HE := hide (JE.wrap 6 (by omega) 26 hJ2 hWw (R := w.heap.size + 1 + 1) (by omega) (by omega) (by have := hb.size; omega) (by omega) (.int .i64 6) (.slice none 0 0) (.slice (some ⟨W.heap.size, 0, none⟩) 1 1))
  clear hJ2 hWw hr hB HB HC ho hnd hF hb hsz
  go_wp2_with fail
  refine bodyPost_ret (v := .tuple #[.agg #[.int .i64 6, .slice none 0 0, .slice (some ⟨W.heap.size, 0, none⟩) 1 1], .nilIface]) (by simp [results, Tryz.results48, go_sem, hRl, m0, m1', m2']) rfl (unhide HE)
set_option maxRecDepth 100000 in
set_option maxHeartbeats 1600000 in
theorem ofOneMaybe_walk (T : Nat) (k : Kd) (s' : Int) (a1 a2 b1 b2 : Option Addr) (p1 p2 m1 q1 m2 q2 : Nat) (path : ByteArray) (w : World) (hk : KRep (fun x => x < w.heap.size) w k ⟨.int .i64 k.sort, .slice a1 k.names.length p1, .slice a2 k.kids.length p2⟩) (hsz : ksz k ≤ 1000000) (hwt : wKd k ≤ 1048576) :
    Calls Tryz.prog 50 #[.pointer (some ⟨T, 0, none⟩), .agg #[.int .i64 k.sort, .slice a1 k.names.length p1, .slice a2 k.kids.length p2], .agg #[.int .i64 s', .slice b1 m1 q1, .slice b2 m2 q2], .string path] w (JE (some (k)) w) := by
  have hB := B3.start w (.int .i64 k.sort) (.slice a1 k.names.length p1) (.slice a2 k.kids.length p2) (.int .i64 s') (.slice b1 m1 q1) (.slice b2 m2 q2)
  have hcp := fun W (hW : Below w.heap.size w W) => copyKind_any k (fun x => x < w.heap.size) _ W (fun x hx => Nat.lt_of_lt_of_le hx hW.size) (KRep.carry (fun x hx => hW.block x hx) (fun _ h => h) _ _ hk) hsz hwt
  have HB := hide hB; have HC := hide hcp
  clear hcp hk hsz hwt
  go_enter Tryz.func50, Tryz.ntmps50
  go_wp2_with fail
  generalize (((w.alloc (.cells #[.int .i64 k.sort, .slice a1 k.names.length p1, .slice a2 k.kids.length p2] 26)).alloc (.cells #[.int .i64 s', .slice b1 m1 q1, .slice b2 m2 q2] 26)).alloc (.cells #[.int .i64 0, .slice none 0 0, .slice none 0 0] 26)) = W0 at hB HB ⊢
  refine (unhide HC W0 hB.below).mono ?_
  rintro e W ⟨d, F, rfl, ho, hnd, hF, hb⟩
  obtain ⟨d1, c1, d2, c2, rfl⟩ := ownD_form ho
  have hWw : Below w.heap.size w W := hB.below.trans (hb.mono hB.below.size)
  have hsz := hB.size
  have hJ2 : JV (some k) (w.heap.size + 3) W ⟨.int .i64 k.sort, .slice d1 k.names.length c1, .slice d2 k.kids.length c2⟩ .nilIface := Or.inl ⟨k, F, rfl, rfl, ho, hnd, fun b hb' => by have := hF b hb'; omega⟩
  have hr := hB.r.of_block (hb.block _ (by omega))
  have m0 := hr.cell (i := 0) (by omega); have m1' := hr.cell (i := 1) (by omega); have m2' := hr.cell (i := 2) (by omega); have mf := hr.frozen
  simp only [row3] at m0 m1' m2'
  have hRl := hr.lt
  have HE := hide (JE.put hJ2 (any3_mk _ _ _ _ _ _ _) hWw (R := w.heap.size + 1 + 1) (by omega) (by omega))
  clear hJ2 hWw hr hB HB HC ho hnd hF hb hsz
  go_wp2_with fail
  refine bodyPost_ret (v := .tuple #[.agg #[.int .i64 k.sort, .slice d1 k.names.length c1, .slice d2 k.kids.length c2], .nilIface]) (by simp [results, Tryz.results50, go_sem, m0, m1', m2']) rfl (unhide HE)
end Go.Proofs.YtenpghndgdemnaaGreatDoor
