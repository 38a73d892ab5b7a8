/- The specification's l3Join: what it answers; at maybes, lists, and schemas of two sorts. Conditions: schemas that are ok, of at most 40 parts. -/
import Derived.Test.YtenpghndgdemnaaGreatDoorPart37
import Derived.Test.YtenpghndgdemnaaGreatDoorPart13
namespace Go.Proofs.YtenpghndgdemnaaGreatDoor
open Go Go.RowKit

/-- An answer with a schema in new memory, or with none. -/
def JSv (o : Option Kd) (V0 V1 : World) (d : C3) (er : Value) : Prop := er = .bool o.isSome ∧ (∀ x, o = some x → KRep (New V0 V1) V1 x d) ∧ V0.heap.size ≤ V1.heap.size
def JsO (o : Option Kd) (w : World) (e : Ending) (w' : World) : Prop := Below w.heap.size w w' ∧ ∃ (d : C3) (er : Value), e = .returned (.tuple #[.agg #[d.c0, d.c1, d.c2], er]) ∧ Any3 d ∧ JSv o w w' d er
def JsS (n : Nat) : Prop := ∀ (a b : Kd), ksz a + ksz b ≤ n → ksz a ≤ 40 → ksz b ≤ 40 → ∀ (c d : C3) (w : World), KW w a c → KW w b d → Calls Tryz.prog 23 #[.agg #[c.c0, c.c1, c.c2], .agg #[d.c0, d.c1, d.c2]] w (JsO (jnP n a b) w)
theorem JSv.rep {o : Option Kd} {V0 V1 W : World} {d : C3} {er : Value} (h : JSv o V0 V1 d er) (hck : CKj V0 V1 W) {x : Kd} (hx : o = some x) : KRep (New V0 W) W x d :=
  KRep.carry (fun b hb => hck.block b hb.1 hb.2) (fun _ hb => ⟨hb.1, Nat.lt_of_lt_of_le hb.2 hck.size⟩) _ _ (h.2.1 x hx)
theorem krep_wrap {t : Kd} {w V0 W : World} {c0 c1 c2 : Value} (s : Int) (hs : I64 s) (h : KRep (New V0 W) W t ⟨c0, c1, c2⟩) (hw : w.heap.size ≤ V0.heap.size) (hv : V0.heap.size ≤ W.heap.size) {X : World} (hX : ∀ b, New V0 W b → X.heap[b]? = W.heap[b]?) (hz : X.heap.size = W.heap.size) :
    KRep (New w (X.alloc (.cells #[c0, c1, c2] 26))) (X.alloc (.cells #[c0, c1, c2] 26)) (.mk s [] [t]) ⟨.int .i64 s, .slice none 0 0, .slice (some ⟨W.heap.size, 0, none⟩) 1 1⟩ := by
  have hn := row3_alloc X c0 c1 c2 26
  rw [hz] at hn
  exact krep_one (d := ⟨c0, c1, c2⟩) hs (hn.cell (i := 0) (by omega)) (hn.cell (i := 1) (by omega)) (hn.cell (i := 2) (by omega)) ⟨by omega, by rw [World.size_alloc, hz]; omega⟩ (KRep.carry (fun b hb' => (Below.heap_alloc _ _ _ (by rw [hz]; exact hb'.2)).trans (hX b hb')) (fun b hb' => ⟨by have := hb'.1; omega, by rw [World.size_alloc, hz]; have := hb'.2; omega⟩) _ _ h) 1
theorem JsO.wrap {o : Option Kd} {w V0 V1 W X : World} {c0 c1 c2 er : Value} (s : Int) (hs : I64 s) (h : JSv o V0 V1 ⟨c0, c1, c2⟩ er) (hck : CKj V0 V1 W) (hw : w.heap.size ≤ V0.heap.size) (hv : V0.heap.size ≤ W.heap.size) (hX : ∀ b, New V0 W b → X.heap[b]? = W.heap[b]?) (hz : X.heap.size = W.heap.size) (hb : Below w.heap.size w X) :
    JsO (o.map fun x => .mk s [] [x]) w (.returned (.tuple #[.agg #[.int .i64 s, .slice none 0 0, .slice (some ⟨W.heap.size, 0, none⟩) 1 1], er])) (X.alloc (.cells #[c0, c1, c2] 26)) := by
  refine ⟨hb.alloc hb.size _, ⟨_, _, _⟩, er, rfl, any3_mk _ _ _ _ _ _ _, by rw [h.1]; cases o <;> rfl, fun y hy => ?_, (hb.alloc hb.size _).size⟩
  cases o with
  | none => cases hy
  | some x =>
    injection hy with hy
    subst hy
    exact krep_wrap s hs (h.rep hck rfl) hw hv hX hz
theorem JsO.none {w W : World} {d : C3} (h3 : Any3 d) (hb : Below w.heap.size w W) : JsO none w (.returned (.tuple #[.agg #[d.c0, d.c1, d.c2], .bool false])) W := ⟨hb, d, _, rfl, h3, rfl, (fun x hx => by cases hx), hb.size⟩
/-- The boxes of two schemas, of the answer, and of the schema in the making. -/
structure BO (w W : World) (c d : C3) (s : Int) : Prop where
  below : Below w.heap.size w W
  size : W.heap.size = w.heap.size + 4
  a : W.rowIs w.heap.size 26 3 (row3 c.c0 c.c1 c.c2)
  b : W.rowIs (w.heap.size + 1) 26 3 (row3 d.c0 d.c1 d.c2)
  r : W.rowIs (w.heap.size + 1 + 1) 26 3 (row3 (.int .i64 0) (.slice none 0 0) (.slice none 0 0))
  o : W.rowIs (w.heap.size + 1 + 1 + 1) 26 3 (row3 (.int .i64 s) (.slice none 0 0) (.slice none 0 0))
theorem BO.start (w : World) (c0 c1 c2 d0 d1 d2 : Value) (s : Int) : BO w ((((w.alloc (.cells #[c0, c1, c2] 26)).alloc (.cells #[d0, d1, d2] 26)).alloc (.cells #[.int .i64 0, .slice none 0 0, .slice none 0 0] 26)).alloc (.cells #[.int .i64 s, .slice none 0 0, .slice none 0 0] 26)) ⟨c0, c1, c2⟩ ⟨d0, d1, d2⟩ s := by
  have h := B3.start w c0 c1 c2 d0 d1 d2
  have h4 := row3_alloc (((w.alloc (.cells #[c0, c1, c2] 26)).alloc (.cells #[d0, d1, d2] 26)).alloc (.cells #[.int .i64 0, .slice none 0 0, .slice none 0 0] 26)) (.int .i64 s) (.slice none 0 0) (.slice none 0 0) 26
  rw [h.size] at h4
  exact ⟨h.below.alloc h.below.size _, (by rw [World.size_alloc, h.size]), h.a.alloc _, h.b.alloc _, h.r.alloc _, h4⟩
section
variable (n : Nat) (a b : Kd) (w : World) (a1 a2 b1 b2 : Option Addr) (p1 p2 q1 q2 : Nat)
  (ha : KW w a ⟨.int .i64 a.sort, .slice a1 a.names.length p1, .slice a2 a.kids.length p2⟩) (hb : KW w b ⟨.int .i64 b.sort, .slice b1 b.names.length q1, .slice b2 b.kids.length q2⟩)
include ha hb
set_option maxRecDepth 100000 in
set_option maxHeartbeats 3200000 in
theorem join_mb (IH : JsS n) (hn : ksz a + ksz b ≤ n + 1) (hza : ksz a ≤ 40) (hzb : ksz b ≤ 40) (h : a.sort = 6 ∨ b.sort = 6) :
    Calls Tryz.prog 23 #[.agg #[.int .i64 a.sort, .slice a1 a.names.length p1, .slice a2 a.kids.length p2], .agg #[.int .i64 b.sort, .slice b1 b.names.length q1, .slice b2 b.kids.length q2]] w (JsO (jnP (n + 1) a b) w) := by
  rw [jn_mb (okD_ne ha.ok) (okD_ne hb.ok) h]
  have hB := B3.start w (.int .i64 a.sort) (.slice a1 a.names.length p1) (.slice a2 a.kids.length p2) (.int .i64 b.sort) (.slice b1 b.names.length q1) (.slice b2 b.kids.length q2)
  have hsm : ksz (bareK a) + ksz (bareK b) ≤ n ∧ ksz (bareK a) ≤ 40 ∧ ksz (bareK b) ≤ 40 := by
    have z : ∀ k : Kd, okD k = true → ksz (bareK k) ≤ ksz k ∧ (k.sort = 6 → ksz (bareK k) < ksz k) := fun k hk => by
      by_cases h6 : k.sort = 6
      · have hl : 0 < k.kids.length := by rcases okD_sh hk with h | h | h <;> omega
        rw [bare_mb h6 hl]
        have := ksz_kid (List.getElem_mem hl)
        exact ⟨by omega, fun _ => by omega⟩
      · rw [bare_no h6]
        exact ⟨Nat.le_refl _, fun e => absurd e h6⟩
    have za := z a ha.ok
    have zb := z b hb.ok
    rcases h with h | h
    · have := za.2 h; omega
    · have := zb.2 h; omega
  have HIH : Hid (∀ W (x y : C3), KW W (bareK a) x → KW W (bareK b) y → Calls Tryz.prog 23 #[.agg #[x.c0, x.c1, x.c2], .agg #[y.c0, y.c1, y.c2]] W (JsO (jnP n (bareK a) (bareK b)) W)) := fun W x y hx hy => IH _ _ hsm.1 hsm.2.1 hsm.2.2 x y W hx hy
  have HA := hide ha; have HBB := hide hb; have HB := hide hB
  have e0 := hB.a.cell (i := 0) (by omega); have f0 := hB.b.cell (i := 0) (by omega)
  simp only [row3] at e0 f0
  have ht : (a.sort == 6) = true ∨ ((a.sort == 6) = false ∧ (b.sort == 6) = true) := by
    by_cases h6 : a.sort = 6
    · exact Or.inl (by rw [h6]; rfl)
    · exact Or.inr ⟨by rw [beq_eq_false_iff_ne]; exact h6, by rw [h.resolve_left h6]; rfl⟩
  clear IH hn hza hzb h hsm ha hb
  rcases ht with ht1 | ⟨ht1, ht2⟩
  · skip
    go_enter Tryz.func23, Tryz.ntmps23
    go_upto_region 1 with fail
    generalize (((w.alloc (.cells #[.int .i64 a.sort, .slice a1 a.names.length p1, .slice a2 a.kids.length p2] 26)).alloc (.cells #[.int .i64 b.sort, .slice b1 b.names.length q1, .slice b2 b.kids.length q2] 26)).alloc (.cells #[.int .i64 0, .slice none 0 0, .slice none 0 0] 26)) = W0 at hB HB e0 f0 ⊢
    go_upto_region 2 with fail
    refine wp_swap (c' := Code.region 2 lj2Ops true) (by kernel_rfl) ?_
    refine wp_region_noPanic ?_
    have hd := hB.below.drew
    have ra := hB.a.of_block (w' := W0.drew) rfl
    have rb := hB.b.of_block (w' := W0.drew) rfl
    have hka : ∀ W, Below W0.drew.heap.size W0.drew W → KW W a ⟨.int .i64 a.sort, .slice a1 a.names.length p1, .slice a2 a.kids.length p2⟩ := fun W hW => ((unhide HA).on hd).on hW
    have hkb : ∀ W, Below W0.drew.heap.size W0.drew W → KW W b ⟨.int .i64 b.sort, .slice b1 b.names.length q1, .slice b2 b.kids.length q2⟩ := fun W hW => ((unhide HBB).on hd).on hW
    refine lj2 w.heap.size (w.heap.size + 1) (w.heap.size + 2) ⟨.int .i64 a.sort, .slice a1 a.names.length p1, .slice a2 a.kids.length p2⟩ ⟨.int .i64 b.sort, .slice b1 b.names.length q1, .slice b2 b.kids.length q2⟩ (fun W y => KW W (bareK a) y) (fun W y => KW W (bareK b) y) (fun _ _ _ hb h => h.on hb) (fun _ _ _ hb h => h.on hb) (fun V0 V1 d er => JSv (jnP n (bareK a) (bareK b)) V0 V1 d er) W0 _ (fun _ _ _ _ _ h => h) ra rb (by intro W hW; with_reducible exact l3Bare_any a _ W (hka W hW)) (by intro W hW; with_reducible exact l3Bare_any b _ W (hkb W hW)) (by intro W x y _ hx hy; exact (unhide HIH W x y hx hy).mono fun e w' h => h) (by kernel_rfl) ?_
    intro u V0 V1 W d er g hV hJ hW hck hg hgb hap
    refine NoPanic.normal ?_
    simp only [frL_eq, frG, List.lookup, Nat.reduceBEq, Nat.reduceAdd, Option.getD_some, Option.getD_none]
    have hsz : W0.drew.heap.size = w.heap.size + 3 := hB.size
    rw [hsz] at hV hW hgb
    have hlW := hW.size
    rw [hsz] at hlW
    have hlV := hV.size
    rw [hsz] at hlV
    have hr := (hB.r.of_block (w' := W0.drew) rfl).of_block (hW.block _ (by omega))
    have r0 := hr.cell (i := 0) (by omega); have r1 := hr.cell (i := 1) (by omega); have r2 := hr.cell (i := 2) (by omega); have rf := hr.frozen
    have g0 := hg.cell (i := 0) (by omega); have g1 := hg.cell (i := 1) (by omega); have g2 := hg.cell (i := 2) (by omega)
    simp only [row3] at r0 r1 r2 g0 g1 g2
    have hWw : Below w.heap.size w W := hd.trans (hW.mono (by omega))
    have hjv : JSv (jnP n (bareK a) (bareK b)) V0 V1 ⟨d.c0, d.c1, d.c2⟩ er := hJ
    have h3 := but3 W (w.heap.size + 2) (.int .i64 6) (.slice none 0 0) (.slice (some ⟨W.heap.size, 0, none⟩) 1 1)
    have hlw : V0.heap.size ≤ W.heap.size := Nat.le_trans hJ.2.2 hck.size
    have HE := hide (JsO.wrap (w := w) (X := (((W.setCell ⟨w.heap.size + 2, 0, none⟩ (.int .i64 6)).setCell ⟨w.heap.size + 2, 1, none⟩ (.slice none 0 0)).setCell ⟨w.heap.size + 2, 2, none⟩ (.slice (some ⟨W.heap.size, 0, none⟩) 1 1))) 6 (by unfold I64; omega) hjv hck (by omega) hlw (fun b hb => h3.at hb.2 (by have := hb.1; omega)) (by rw [size_setCell, size_setCell, size_setCell]) (below3 hWw (by omega) _ _ _))
    have hRl := hr.lt
    clear hV hJ hW hck hg hgb hap hr hB hd HIH hka hkb hsz hlW hlV hWw hjv h3 ra rb e0 f0 hlw HB HA HBB
    obtain ⟨d0, d1, d2⟩ := d
    go_wp2_with fail
    refine bodyPost_ret (v := .tuple #[.agg #[.int .i64 6, .slice none 0 0, .slice (some ⟨W.heap.size, 0, none⟩) 1 1], er]) (by simp [results, Tryz.results23, go_sem, hRl, r0, r1, r2]) rfl (unhide HE)
  · skip
    go_enter Tryz.func23, Tryz.ntmps23
    go_upto_region 1 with fail
    generalize (((w.alloc (.cells #[.int .i64 a.sort, .slice a1 a.names.length p1, .slice a2 a.kids.length p2] 26)).alloc (.cells #[.int .i64 b.sort, .slice b1 b.names.length q1, .slice b2 b.kids.length q2] 26)).alloc (.cells #[.int .i64 0, .slice none 0 0, .slice none 0 0] 26)) = W0 at hB HB e0 f0 ⊢
    go_upto_region 2 with fail
    refine wp_swap (c' := Code.region 2 lj2Ops true) (by kernel_rfl) ?_
    refine wp_region_noPanic ?_
    have hd := hB.below.drew
    have ra := hB.a.of_block (w' := W0.drew) rfl
    have rb := hB.b.of_block (w' := W0.drew) rfl
    have hka : ∀ W, Below W0.drew.heap.size W0.drew W → KW W a ⟨.int .i64 a.sort, .slice a1 a.names.length p1, .slice a2 a.kids.length p2⟩ := fun W hW => ((unhide HA).on hd).on hW
    have hkb : ∀ W, Below W0.drew.heap.size W0.drew W → KW W b ⟨.int .i64 b.sort, .slice b1 b.names.length q1, .slice b2 b.kids.length q2⟩ := fun W hW => ((unhide HBB).on hd).on hW
    refine lj2 w.heap.size (w.heap.size + 1) (w.heap.size + 2) ⟨.int .i64 a.sort, .slice a1 a.names.length p1, .slice a2 a.kids.length p2⟩ ⟨.int .i64 b.sort, .slice b1 b.names.length q1, .slice b2 b.kids.length q2⟩ (fun W y => KW W (bareK a) y) (fun W y => KW W (bareK b) y) (fun _ _ _ hb h => h.on hb) (fun _ _ _ hb h => h.on hb) (fun V0 V1 d er => JSv (jnP n (bareK a) (bareK b)) V0 V1 d er) W0 _ (fun _ _ _ _ _ h => h) ra rb (by intro W hW; with_reducible exact l3Bare_any a _ W (hka W hW)) (by intro W hW; with_reducible exact l3Bare_any b _ W (hkb W hW)) (by intro W x y _ hx hy; exact (unhide HIH W x y hx hy).mono fun e w' h => h) (by kernel_rfl) ?_
    intro u V0 V1 W d er g hV hJ hW hck hg hgb hap
    refine NoPanic.normal ?_
    simp only [frL_eq, frG, List.lookup, Nat.reduceBEq, Nat.reduceAdd, Option.getD_some, Option.getD_none]
    have hsz : W0.drew.heap.size = w.heap.size + 3 := hB.size
    rw [hsz] at hV hW hgb
    have hlW := hW.size
    rw [hsz] at hlW
    have hlV := hV.size
    rw [hsz] at hlV
    have hr := (hB.r.of_block (w' := W0.drew) rfl).of_block (hW.block _ (by omega))
    have r0 := hr.cell (i := 0) (by omega); have r1 := hr.cell (i := 1) (by omega); have r2 := hr.cell (i := 2) (by omega); have rf := hr.frozen
    have g0 := hg.cell (i := 0) (by omega); have g1 := hg.cell (i := 1) (by omega); have g2 := hg.cell (i := 2) (by omega)
    simp only [row3] at r0 r1 r2 g0 g1 g2
    have hWw : Below w.heap.size w W := hd.trans (hW.mono (by omega))
    have hjv : JSv (jnP n (bareK a) (bareK b)) V0 V1 ⟨d.c0, d.c1, d.c2⟩ er := hJ
    have h3 := but3 W (w.heap.size + 2) (.int .i64 6) (.slice none 0 0) (.slice (some ⟨W.heap.size, 0, none⟩) 1 1)
    have hlw : V0.heap.size ≤ W.heap.size := Nat.le_trans hJ.2.2 hck.size
    have HE := hide (JsO.wrap (w := w) (X := (((W.setCell ⟨w.heap.size + 2, 0, none⟩ (.int .i64 6)).setCell ⟨w.heap.size + 2, 1, none⟩ (.slice none 0 0)).setCell ⟨w.heap.size + 2, 2, none⟩ (.slice (some ⟨W.heap.size, 0, none⟩) 1 1))) 6 (by unfold I64; omega) hjv hck (by omega) hlw (fun b hb => h3.at hb.2 (by have := hb.1; omega)) (by rw [size_setCell, size_setCell, size_setCell]) (below3 hWw (by omega) _ _ _))
    have hRl := hr.lt
    clear hV hJ hW hck hg hgb hap hr hB hd HIH hka hkb hsz hlW hlV hWw hjv h3 ra rb e0 f0 hlw HB HA HBB
    obtain ⟨d0, d1, d2⟩ := d
    go_wp2_with fail
    refine bodyPost_ret (v := .tuple #[.agg #[.int .i64 6, .slice none 0 0, .slice (some ⟨W.heap.size, 0, none⟩) 1 1], er]) (by simp [results, Tryz.results23, go_sem, hRl, r0, r1, r2]) rfl (unhide HE)
set_option maxRecDepth 100000 in
set_option maxHeartbeats 3200000 in
theorem join_ne (h1 : a.sort ≠ 6) (h2 : b.sort ≠ 6) (h : a.sort ≠ b.sort) :
    Calls Tryz.prog 23 #[.agg #[.int .i64 a.sort, .slice a1 a.names.length p1, .slice a2 a.kids.length p2], .agg #[.int .i64 b.sort, .slice b1 b.names.length q1, .slice b2 b.kids.length q2]] w (JsO (jnP (n + 1) a b) w) := by
  rw [jn_ne (okD_ne ha.ok) (okD_ne hb.ok) h1 h2 h]
  have hB := B3.start w (.int .i64 a.sort) (.slice a1 a.names.length p1) (.slice a2 a.kids.length p2) (.int .i64 b.sort) (.slice b1 b.names.length q1) (.slice b2 b.kids.length q2)
  have HB := hide hB
  have e0 := hB.a.cell (i := 0) (by omega); have f0 := hB.b.cell (i := 0) (by omega)
  have r0 := hB.r.cell (i := 0) (by omega); have r1 := hB.r.cell (i := 1) (by omega); have r2 := hB.r.cell (i := 2) (by omega); have rf := hB.r.frozen
  simp only [row3] at e0 f0 r0 r1 r2
  have ht1 : (a.sort == 6) = false := by rw [beq_eq_false_iff_ne]; exact h1
  have ht2 : (b.sort == 6) = false := by rw [beq_eq_false_iff_ne]; exact h2
  have ht3 : (a.sort != b.sort) = true := by simpa using h
  clear ha hb h1 h2 h hB
  go_enter Tryz.func23, Tryz.ntmps23
  go_upto_region 1 with fail
  generalize (((w.alloc (.cells #[.int .i64 a.sort, .slice a1 a.names.length p1, .slice a2 a.kids.length p2] 26)).alloc (.cells #[.int .i64 b.sort, .slice b1 b.names.length q1, .slice b2 b.kids.length q2] 26)).alloc (.cells #[.int .i64 0, .slice none 0 0, .slice none 0 0] 26)) = W0 at HB e0 f0 r0 r1 r2 rf ⊢
  go_wp2_with fail
  refine bodyPost_ret (v := .tuple #[.agg #[.int .i64 0, .slice none 0 0, .slice none 0 0], .bool false]) (by simp [results, Tryz.results23, go_sem, r0, r1, r2]) rfl ?_
  exact JsO.none (d := ⟨_, _, _⟩) (any3_mk _ _ _ _ _ _ _) (below3 (unhide HB).below (by omega) _ _ _)
set_option maxRecDepth 100000 in
set_option maxHeartbeats 3200000 in
theorem join_li (IH : JsS n) (hn : ksz a + ksz b ≤ n + 1) (hza : ksz a ≤ 40) (hzb : ksz b ≤ 40) (h1 : a.sort = 4) (h2 : b.sort = 4) :
    Calls Tryz.prog 23 #[.agg #[.int .i64 a.sort, .slice a1 a.names.length p1, .slice a2 a.kids.length p2], .agg #[.int .i64 b.sort, .slice b1 b.names.length q1, .slice b2 b.kids.length q2]] w (JsO (jnP (n + 1) a b) w) := by
  have hka : a.kids.length = 1 := by rcases ha.sh with h | h | h <;> omega
  have hkb : b.kids.length = 1 := by rcases hb.sh with h | h | h <;> omega
  have hB := B3.start w (.int .i64 a.sort) (.slice a1 a.names.length p1) (.slice a2 a.kids.length p2) (.int .i64 b.sort) (.slice b1 b.names.length q1) (.slice b2 b.kids.length q2)
  obtain ⟨xb, xo, xc, x1, x2, m1, m2, ex, hxl, x0, x3, x4, hx⟩ := ha.kid (i := 0) (by omega)
  obtain ⟨yb, yo, yc, y1, y2, s1, s2, ey, hyl, y0, y3, y4, hy⟩ := hb.kid (i := 0) (by omega)
  simp only [Value.slice.injEq] at ex ey
  obtain ⟨rfl, -, rfl⟩ := ex
  obtain ⟨rfl, -, rfl⟩ := ey
  rw [jn_li h1 h2 (by omega) (by omega)]
  have hsa := ksz_kid (List.getElem_mem (show 0 < a.kids.length by omega))
  have hsb := ksz_kid (List.getElem_mem (show 0 < b.kids.length by omega))
  generalize (a.kids[0]'(by omega)) = ka at *
  generalize (b.kids[0]'(by omega)) = kb at *
  rw [hka, hkb] at hB ⊢
  have HIH : Hid (∀ W, Below w.heap.size w W → Calls Tryz.prog 23 #[.agg #[.int .i64 ka.sort, .slice x1 ka.names.length m1, .slice x2 ka.kids.length m2], .agg #[.int .i64 kb.sort, .slice y1 kb.names.length s1, .slice y2 kb.kids.length s2]] W (JsO (jnP n ka kb) W)) := fun W hW => IH ka kb (by omega) (by omega) (by omega) ⟨_, _, _⟩ ⟨_, _, _⟩ W (hx.on hW) (hy.on hW)
  have HX := hide (show K3 w xb (xo + 0 * 3) ⟨.int .i64 ka.sort, .slice x1 ka.names.length m1, .slice x2 ka.kids.length m2⟩ from ⟨hxl, x0, x3, x4⟩)
  have HY := hide (show K3 w yb (yo + 0 * 3) ⟨.int .i64 kb.sort, .slice y1 kb.names.length s1, .slice y2 kb.kids.length s2⟩ from ⟨hyl, y0, y3, y4⟩)
  have hB := BO.start w (.int .i64 a.sort) (.slice a1 a.names.length p1) (.slice (some ⟨xb, xo, none⟩) 1 p2) (.int .i64 b.sort) (.slice b1 b.names.length q1) (.slice (some ⟨yb, yo, none⟩) 1 q2) a.sort
  have ht1 : (a.sort == 6) = false := by rw [h1]; rfl
  have ht2 : (b.sort == 6) = false := by rw [h2]; rfl
  have ht3 : (a.sort != b.sort) = false := by rw [h1, h2]; rfl
  have ht4 : (a.sort == 4) = true := by rw [h1]; rfl
  have H1 := hide h1
  clear IH hn hza hzb h1 h2 ha hb hka hkb x0 x3 x4 y0 y3 y4 hx hy hsa hsb
  go_enter Tryz.func23, Tryz.ntmps23
  go_upto_region 8 with fail
  generalize ((((w.alloc (.cells #[.int .i64 a.sort, .slice a1 a.names.length p1, .slice (some ⟨xb, xo, none⟩) 1 p2] 26)).alloc (.cells #[.int .i64 b.sort, .slice b1 b.names.length q1, .slice (some ⟨yb, yo, none⟩) 1 q2] 26)).alloc (.cells #[.int .i64 0, .slice none 0 0, .slice none 0 0] 26)).alloc (.cells #[.int .i64 a.sort, .slice none 0 0, .slice none 0 0] 26)) = W0 at hB ⊢
  refine wp_swap (c' := Code.region 8 lj8Ops true) (by kernel_rfl) ?_
  refine wp_region_noPanic ?_
  have hd := hB.below.drew
  have ra := hB.a.of_block (w' := W0.drew) rfl
  have rb := hB.b.of_block (w' := W0.drew) rfl
  have hk3 : ∀ (xb xo : Nat) (z : C3), K3 w xb (xo + 0 * 3) z → K3 W0.drew xb (xo + 0 * 3) z := fun _ _ _ h => ⟨Nat.lt_of_lt_of_le h.1 hd.size, (hd.cell h.1).trans h.2.1, (hd.cell h.1).trans h.2.2.1, (hd.cell h.1).trans h.2.2.2⟩
  have hx := hk3 _ _ _ (unhide HX)
  have hy := hk3 _ _ _ (unhide HY)
  have hcl : ∀ W, Below W0.drew.heap.size W0.drew W → Calls Tryz.prog 23 #[.agg #[.int .i64 ka.sort, .slice x1 ka.names.length m1, .slice x2 ka.kids.length m2], .agg #[.int .i64 kb.sort, .slice y1 kb.names.length s1, .slice y2 kb.kids.length s2]] W fun e w' => Below W.heap.size W w' ∧ ∃ (d : C3) (er : Value), e = .returned (.tuple #[.agg #[d.c0, d.c1, d.c2], er]) ∧ Any3 d ∧ JSv (jnP n ka kb) W w' d er := fun W hW => (unhide HIH W (hd.trans (hW.mono hd.size))).mono fun e w' h => h
  refine lj8 w.heap.size (w.heap.size + 1) (w.heap.size + 1 + 1) (w.heap.size + 1 + 1 + 1) ⟨.int .i64 a.sort, .slice a1 a.names.length p1, .slice (some ⟨xb, xo, none⟩) 1 p2⟩ ⟨.int .i64 b.sort, .slice b1 b.names.length q1, .slice (some ⟨yb, yo, none⟩) 1 q2⟩ ⟨.int .i64 ka.sort, .slice x1 ka.names.length m1, .slice x2 ka.kids.length m2⟩ ⟨.int .i64 kb.sort, .slice y1 kb.names.length s1, .slice y2 kb.kids.length s2⟩ xb xo p2 yb yo q2 (fun V0 V1 d er => JSv (jnP n ka kb) V0 V1 d er) W0 _ (fun _ _ _ _ _ h => h) ra rb rfl rfl hx hy (by intro W hW; with_reducible exact hcl W hW) (by kernel_rfl) ?_
  intro u V0 V1 W d er g hV hJ hW hck hg hgb hap
  refine NoPanic.normal ?_
  simp only [frL_eq, frG, List.lookup, Nat.reduceBEq, Nat.reduceAdd, Option.getD_some, Option.getD_none]
  have hsz : W0.drew.heap.size = w.heap.size + 4 := hB.size
  rw [hsz] at hV hW hgb
  have hlW := hW.size
  rw [hsz] at hlW
  have hlV := hV.size
  rw [hsz] at hlV
  have hr := (hB.r.of_block (w' := W0.drew) rfl).of_block (hW.block _ (by omega))
  have ho := (hB.o.of_block (w' := W0.drew) rfl).of_block (hW.block _ (by omega))
  have r0 := hr.cell (i := 0) (by omega); have r1 := hr.cell (i := 1) (by omega); have r2 := hr.cell (i := 2) (by omega); have rf := hr.frozen
  have o0 := ho.cell (i := 0) (by omega); have o1 := ho.cell (i := 1) (by omega); have o2 := ho.cell (i := 2) (by omega); have of := ho.frozen
  have g0 := hg.cell (i := 0) (by omega); have g1 := hg.cell (i := 1) (by omega); have g2 := hg.cell (i := 2) (by omega)
  simp only [row3] at r0 r1 r2 g0 g1 g2 o0 o1 o2
  have hRl := hr.lt
  have hOl := ho.lt
  have hgO : g ≠ w.heap.size + 1 + 1 + 1 := by omega
  obtain ⟨d0, d1, d2⟩ := d
  have hlw : V0.heap.size ≤ W.heap.size := Nat.le_trans hJ.2.2 hck.size
  have hWw : Below w.heap.size w W := hd.trans (hW.mono (by omega))
  have hWO : Below w.heap.size w (W.setCell ⟨w.heap.size + 1 + 1 + 1, 2, none⟩ (.slice (some ⟨W.heap.size, 0, none⟩) 1 1)) := hWw.setCell (show w.heap.size ≤ w.heap.size + 1 + 1 + 1 by omega) _
  have h3 := but3 (W.setCell ⟨w.heap.size + 1 + 1 + 1, 2, none⟩ (.slice (some ⟨W.heap.size, 0, none⟩) 1 1)) (w.heap.size + 1 + 1) (.int .i64 a.sort) (.slice none 0 0) (.slice (some ⟨W.heap.size, 0, none⟩) 1 1)
  have HE := hide (JsO.wrap (w := w) (X := ((((W.setCell ⟨w.heap.size + 1 + 1 + 1, 2, none⟩ (.slice (some ⟨W.heap.size, 0, none⟩) 1 1)).setCell ⟨w.heap.size + 1 + 1, 0, none⟩ (.int .i64 a.sort)).setCell ⟨w.heap.size + 1 + 1, 1, none⟩ (.slice none 0 0)).setCell ⟨w.heap.size + 1 + 1, 2, none⟩ (.slice (some ⟨W.heap.size, 0, none⟩) 1 1))) a.sort (by rw [unhide H1]; unfold I64; omega) hJ hck (by omega) hlw (fun b hb => (h3.at (by rw [size_setCell]; exact hb.2) (by have := hb.1; omega)).trans (Below.heap_setCell _ _ _ _ (by have := hb.1; show b ≠ w.heap.size + 1 + 1 + 1; omega))) (by rw [size_setCell, size_setCell, size_setCell, size_setCell]) (below3 hWO (by omega) _ _ _))
  have hli : (fun x => Kd.mk a.sort [] [x]) = liK := by funext x; unfold liK; rw [unhide H1]
  rw [hli] at HE
  clear hV hJ hW hck hg hgb hap hr hB hd HIH hsz hlW hlV ra rb hcl hx hy HX HY ho hlw hWw hWO h3 hli
  go_wp2_with fail
  refine bodyPost_ret (v := .tuple #[.agg #[.int .i64 a.sort, .slice none 0 0, .slice (some ⟨W.heap.size, 0, none⟩) 1 1], er]) (by simp [results, Tryz.results23, go_sem, hRl, r0, r1, r2]) rfl (unhide HE)
end
end Go.Proofs.YtenpghndgdemnaaGreatDoor

/- The specification's l3Join at forms: what is merged so far, and the steps. No program walked, no conditions. -/

namespace Go.Proofs.YtenpghndgdemnaaGreatDoor
open Go Go.RowKit

def jnF (n : Nat) (a b : Kd) (nm : ByteArray) : Kd := (jnP n (kidZ a nm) (kidZ b nm)).getD kd0
structure JR (n : Nat) (a b : Kd) (lo g : Nat) (W1 wr : World) (i j k : Nat) (aN : Option Addr) (capN : Nat) (aK : Option Addr) (capK : Nat) (out : List ByteArray) (xs : List Value) (P : Nat → Prop) : Prop where
  mg : Mg a.names b.names i j out
  len : out.length = k
  sk : SK lo g wr a.sort (.slice aN k capN) (.slice aK k capK) out (out.map (jnF n a b)) xs P
  some : ∀ nm, nm ∈ out → (jnP n (kidZ a nm) (kidZ b nm)).isSome = true
  low : Below lo W1 wr
theorem JR.step {n : Nat} {a b : Kd} {lo g : Nat} {W1 wr W' : World} {i j k i' j' : Nat} {aN aN' : Option Addr} {capN capN' : Nat} {aK aK' : Option Addr} {capK capK' : Nat} {out : List ByteArray} {xs xs' : List Value} {P P' : Nat → Prop} {nm : ByteArray} {x : Kd} (h : JR n a b lo g W1 wr i j k aN capN aK capK out xs P) (hm : Mg a.names b.names i' j' (out ++ [nm])) (hx : jnP n (kidZ a nm) (kidZ b nm) = .some x)
    (hs : SK lo g W' a.sort (.slice aN' (k + 1) capN') (.slice aK' (k + 1) capK') (out ++ [nm]) (out.map (jnF n a b) ++ [x]) xs' P') (hb : Below lo wr W') : JR n a b lo g W1 W' i' j' (k + 1) aN' capN' aK' capK' (out ++ [nm]) xs' P' := by
  refine ⟨hm, by rw [List.length_append, h.len]; rfl, ?_, fun y hy => ?_, h.low.trans hb⟩
  · rw [List.map_append, List.map_singleton]
    have : jnF n a b nm = x := by unfold jnF; rw [hx]; rfl
    rw [this]
    exact hs
  · rcases List.mem_append.1 hy with hy | hy
    · exact h.some y hy
    · rw [List.mem_singleton.1 hy, hx]; rfl
theorem JR.on {n : Nat} {a b : Kd} {lo g : Nat} {W1 wr W' : World} {i j k : Nat} {aN : Option Addr} {capN : Nat} {aK : Option Addr} {capK : Nat} {out : List ByteArray} {xs : List Value} {P : Nat → Prop} (h : JR n a b lo g W1 wr i j k aN capN aK capK out xs P) (hb : Below wr.heap.size wr W') : JR n a b lo g W1 W' i j k aN capN aK capK out xs P :=
  ⟨h.mg, h.len, h.sk.on hb, h.some, h.low.trans (hb.mono (Nat.le_trans h.sk.glo (Nat.le_of_lt h.sk.lt)))⟩
theorem SK.zero {W : World} {lo g : Nat} {s : Int} (hr : W.rowIs g 26 3 (row3 (.int .i64 s) (.slice none 0 0) (.slice none 0 0))) (hg : lo ≤ g) : SK lo g W s (.slice none 0 0) (.slice none 0 0) [] [] [] (fun _ => False) :=
  ⟨hg, hr, World.ownsRow_nil _ _ _ _, World.ownsRow_nil _ _ _ _, fun b hb => (by cases hb), fun e => (by cases e), ⟨rfl, fun i hi => by simp at hi⟩, fun b hb => hb.elim⟩
section
variable {n : Nat} {a b : Kd}
/-- Leaves and forms of one sort: what they join to. -/
theorem jn_fl (ha : okD a = true) (hb : okD b = true) (h : a.sort = b.sort) (h4 : a.sort ≠ 4) (h6 : a.sort ≠ 6) : jnP (n + 1) a b = if (uniN a.names b.names).all (fun nm => (jnP n (kidZ a nm) (kidZ b nm)).isSome) = true then some (.mk a.sort (uniN a.names b.names) ((uniN a.names b.names).map (jnF n a b))) else none := by
  rcases okD_sh ha with h1 | h1 | h1
  · have e1 : a.names = [] := List.eq_nil_of_length_eq_zero h1.2.2
    have e2 : b.names = [] := by
      rcases okD_sh hb with h2 | h2 | h2
      · exact List.eq_nil_of_length_eq_zero h2.2.2
      · omega
      · omega
    rw [jn_lf h1.1 h, e1, e2, uni_nil]
    rfl
  · omega
  · rw [jn_fm h1.1 (h ▸ h1.1), h1.1]
    rfl
theorem rise_ok (ha : okD a = true) : a.names.Pairwise nlt := by
  rcases okD_sh ha with h1 | h1 | h1
  · rw [List.eq_nil_of_length_eq_zero h1.2.2]; exact List.Pairwise.nil
  · rw [List.eq_nil_of_length_eq_zero h1.2.2]; exact List.Pairwise.nil
  · exact (rise_iff.1 h1.2.2).1
theorem jn_left (ha : okD a = true) (hl : a.kids.length = a.names.length) {i : Nat} (hi : i < a.names.length) (hn : a.names[i] ∉ b.names) : jnP (n + 1) (kidZ a a.names[i]) (kidZ b a.names[i]) = some (loneK (a.kids[i]'(by omega))) := by
  rw [kidZ_at (rise_ok ha) hl hi rfl, jn_a0 (okD_ne (okD_kid ha i (by omega))) (kidZ_out hn)]
theorem jn_right (hb : okD b = true) (hl : b.kids.length = b.names.length) {j : Nat} (hj : j < b.names.length) (hn : b.names[j] ∉ a.names) : jnP (n + 1) (kidZ a b.names[j]) (kidZ b b.names[j]) = some (loneK (b.kids[j]'(by omega))) := by
  rw [kidZ_at (rise_ok hb) hl hj rfl, jn_0b (kidZ_out hn) (okD_ne (okD_kid hb j (by omega)))]
theorem jn_both (ha : okD a = true) (hb : okD b = true) (hla : a.kids.length = a.names.length) (hlb : b.kids.length = b.names.length) {i j : Nat} (hi : i < a.names.length) (hj : j < b.names.length) (h : b.names[j] = a.names[i]) : jnP n (kidZ a a.names[i]) (kidZ b a.names[i]) = jnP n (a.kids[i]'(by omega)) (b.kids[j]'(by omega)) := by
  rw [kidZ_at (rise_ok ha) hla hi rfl, kidZ_at (rise_ok hb) hlb hj h]
theorem nlt_tri {x y : ByteArray} (h : ¬ nlt x y) (h' : ¬ nlt y x) : y = x := by
  rw [nlt_iff] at h h'
  have := List.le_antisymm (List.not_lt.1 h) (List.not_lt.1 h')
  exact ByteArray.ext (Array.toList_inj.1 (by simpa [ByteArray.toList_eq] using this))
/-- The end: all names are merged. -/
theorem JR.done {lo g : Nat} {W1 wr : World} {i j k : Nat} {aN : Option Addr} {capN : Nat} {aK : Option Addr} {capK : Nat} {out : List ByteArray} {xs : List Value} {P : Nat → Prop} (h : JR n a b lo g W1 wr i j k aN capN aK capK out xs P) (ha : okD a = true) (hb : okD b = true) (he : a.sort = b.sort) (h4 : a.sort ≠ 4) (h6 : a.sort ≠ 6) (hi : a.names.length ≤ i) (hj : b.names.length ≤ j) : jnP (n + 1) a b = .some (.mk a.sort out (out.map (jnF n a b))) := by
  rw [jn_fl ha hb he h4 h6, h.mg.done hi hj, if_pos (List.all_eq_true.2 h.some)]
theorem jn_fail (ha : okD a = true) (hb : okD b = true) (he : a.sort = b.sort) (h4 : a.sort ≠ 4) (h6 : a.sort ≠ 6) {nm : ByteArray} (hm : nm ∈ a.names) (hx : jnP n (kidZ a nm) (kidZ b nm) = none) : jnP (n + 1) a b = none := by
  rw [jn_fl ha hb he h4 h6, if_neg (fun h => ?_)]
  have := List.all_eq_true.1 h nm ((uniN_mem nm).2 (Or.inl hm))
  rw [hx] at this
  cases this
end
end Go.Proofs.YtenpghndgdemnaaGreatDoor
