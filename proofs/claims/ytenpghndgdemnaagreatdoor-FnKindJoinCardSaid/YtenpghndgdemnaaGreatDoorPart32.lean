/- The program's ofPair at the table of joins, whatever the two schemas. Conditions: the schemas are ok (or nothing), of at most 40 parts; the path is not too long. -/
import Derived.Test.YtenpghndgdemnaaGreatDoorPart31
import Derived.Test.YtenpghndgdemnaaGreatDoorPart00
import Derived.Test.YtenpghndgdemnaaGreatDoorRows
import Derived.LaidEql
import Derived.Stop.Asserts
import Derived.RowKitTokens
import Derived.Deep.MidRow
namespace Go.Proofs.YtenpghndgdemnaaGreatDoor
open Go Go.RowKit

theorem enJ (f : Nat) (fn : Func) (c : Code) (hf : Tryz.prog.funcs[f]? = some fn) (hname : (fn.name == "runtime.NumGoroutine") = false) (hb : fn.body = some c) (args : Array Value) (w : World) : (callFunc f args).run Tryz.prog w = .ok (.enter f args) w := enters_of hf hname hb args w
/-- What is said of ofPair, so deep. -/
def JPS (n : Nat) : Prop := ∀ (a b : Kd), ksz a + ksz b ≤ n → ksz a ≤ 40 → ksz b ≤ 40 → wKd a ≤ 1048576 → wKd b ≤ 1048576 → ∀ (c d : C3) (w : World) (T : Nat) (path : ByteArray), JT w T → KZ w a c → KZ w b d → path.size + n * 100 ≤ 900000 →
  Calls Tryz.prog 55 #[.pointer (some ⟨T, 0, none⟩), .agg #[c.c0, c.c1, c.c2], .agg #[d.c0, d.c1, d.c2], .string path] w (JE (jnP n a b) w)
theorem jent_nil (T sa sb : Nat) (ha : sa ≤ 5) (hb : sb ≤ 5) (h : sa ≠ 0) (h2 : sb ≠ 0) (hne : sa ≠ sb) : jEnt T sa sb = .nilFunc := by
  rcases (show sa = 1 ∨ sa = 2 ∨ sa = 3 ∨ sa = 4 ∨ sa = 5 by omega) with rfl | rfl | rfl | rfl | rfl <;>
    rcases (show sb = 1 ∨ sb = 2 ∨ sb = 3 ∨ sb = 4 ∨ sb = 5 by omega) with rfl | rfl | rfl | rfl | rfl <;> first | rfl | omega
theorem jent_one (T s : Nat) (h1 : 1 ≤ s) (h5 : s ≤ 5) : jEnt T s 0 = jv T 48 ∧ jEnt T 0 s = jc (T + 1 + (s - 1) * 2) ∧ jEnt T s 6 = jv T 49 ∧ jEnt T 6 s = jc (T + 1 + ((s - 1) * 2 + 1)) := by
  rcases (show s = 1 ∨ s = 2 ∨ s = 3 ∨ s = 4 ∨ s = 5 by omega) with rfl | rfl | rfl | rfl | rfl <;> exact ⟨rfl, rfl, rfl, rfl⟩
theorem jwork_one (s : Nat) (h1 : 1 ≤ s) (h5 : s ≤ 5) : jWork ((s - 1) * 2) = 48 ∧ jWork ((s - 1) * 2 + 1) = 49 := by
  rcases (show s = 1 ∨ s = 2 ∨ s = 3 ∨ s = 4 ∨ s = 5 by omega) with rfl | rfl | rfl | rfl | rfl <;> exact ⟨rfl, rfl⟩
theorem JT.bx {W : World} {T : Nat} (h : JT W T) (j : Nat) (hj : j < 11) : W.cell? ⟨T + 1 + j, 0, none⟩ = some (jv T (jWork j)) := World.rowIs.cell (h.box j hj) (i := 0) (by omega)
theorem jlone_mb {k : Kd} (h : k.sort = 6) : loneK k = k := if_pos h
theorem jlone_no {k : Kd} (h : k.sort ≠ 6) : loneK k = mbK k := if_neg h
theorem wKd_kid {k x : Kd} (h : x ∈ k.kids) : wKd x ≤ wKd k := by
  have := wKs_mem h
  obtain ⟨s, ns, ks⟩ := k
  simp only [Kd.kids] at this
  rw [wKd]; omega
theorem wKd_kidZ {k : Kd} (nm : ByteArray) : wKd (kidZ k nm) ≤ wKd k := by
  unfold kidZ kidN
  split
  · rw [Option.getD_some, List.getD_eq_getElem?_getD]
    cases h : k.kids[plN k.names nm]? with
    | none => rw [Option.getD_none]; unfold kd0; simp [wKd, wS, wKs]
    | some x => rw [Option.getD_some]; exact wKd_kid (List.mem_of_getElem? h)
  · rw [Option.getD_none]; unfold kd0; simp [wKd, wS, wKs]
/-- The sum of the sizes of the kids of a name. -/
theorem ksz_names {a b : Kd} {n : Nat} (h : ksz a + ksz b ≤ n + 1) {nm : ByteArray} (hm : nm ∈ uniN a.names b.names) (hoa : okD a = true) (hob : okD b = true) (ha : a.sort = 5) (hb : b.sort = 5) : ksz (kidZ a nm) + ksz (kidZ b nm) ≤ n := by
  have z1 : ksz kd0 = 1 := by unfold kd0; rw [ksz, klsz]
  have pa := ksz_pos a
  have pb := ksz_pos b
  by_cases ma : nm ∈ a.names
  · have h1 := (kidZ_ok hoa ha ma).2
    by_cases mb : nm ∈ b.names
    · have h2 := (kidZ_ok hob hb mb).2; omega
    · rw [kidZ_none mb, z1]; omega
  · have mb : nm ∈ b.names := ((uniN_mem nm).1 hm).resolve_left ma
    have h2 := (kidZ_ok hob hb mb).2
    rw [kidZ_none ma, z1]; omega
section
variable (n : Nat) (IH : JPS n) (a b : Kd) (hsum : ksz a + ksz b ≤ n + 1) (hna : ksz a ≤ 40) (hnb : ksz b ≤ 40) (hwa : wKd a ≤ 1048576) (hwb : wKd b ≤ 1048576) (a1 a2 b1 b2 : Option Addr) (p1 p2 q1 q2 : Nat) (w : World) (T : Nat) (path : ByteArray) (hT : JT w T) (hps : path.size + (n + 1) * 100 ≤ 900000)
  (ha : KW w a ⟨.int .i64 a.sort, .slice a1 a.names.length p1, .slice a2 a.kids.length p2⟩) (hb : KW w b ⟨.int .i64 b.sort, .slice b1 b.names.length q1, .slice b2 b.kids.length q2⟩)
include IH hsum hna hnb hwa hwb hps ha hb
/-- A pair of which the second is a maybe, the first asked as it is. -/
theorem joinInto (h0 : a.sort ≠ 0) (ha6 : a.sort ≠ 6) (hb6 : b.sort = 6) (W : World) (hW : Below w.heap.size w W) (hTW : JT W T) :
    Calls Tryz.prog 49 #[.pointer (some ⟨T, 0, none⟩), .agg #[.int .i64 a.sort, .slice a1 a.names.length p1, .slice a2 a.kids.length p2], .agg #[.int .i64 b.sort, .slice b1 b.names.length q1, .slice b2 b.kids.length q2], .string path] W (JE (jnP (n + 1) a b) W) := by
  have hkb : b.kids.length = 1 := by rcases hb.sh with h' | h' | h' <;> omega
  obtain ⟨yb, yo, yc, y1, y2, s1, s2, ey, hyl, y0, y3, y4, hy⟩ := hb.kid (i := 0) (by omega)
  simp only [Value.slice.injEq, true_and] at ey
  obtain ⟨rfl, rfl⟩ := ey
  have hmb : b.kids[0]'(by omega) ∈ b.kids := List.getElem_mem _
  have hzb := ksz_kid hmb
  have hwk := wKd_kid hmb
  have hj : jnP (n + 1) a b = (jnP n a (b.kids[0]'(by omega))).map mbK := by rw [jn_mb h0 (by omega) (Or.inr hb6), bare_no ha6, bare_mb hb6 (by omega)]
  rw [hkb, hj]
  refine intoMaybe_walk T a.sort a1 a2 a.names.length p1 a.kids.length p2 ⟨.int .i64 (b.kids[0]'(by omega)).sort, .slice y1 (b.kids[0]'(by omega)).names.length s1, .slice y2 (b.kids[0]'(by omega)).kids.length s2⟩ b.sort b1 b.names.length q1 yb yo q2 path (by omega) _ W ⟨Nat.lt_of_lt_of_le hyl hW.size, (hW.cell hyl).trans y0, (hW.cell hyl).trans y3, (hW.cell hyl).trans y4⟩ fun V hV => ?_
  have hwV : Below w.heap.size w V := hW.trans (hV.mono hW.size)
  exact IH a _ (by omega) hna (by omega) hwa (by omega) ⟨_, _, _⟩ ⟨_, _, _⟩ V T _ (hTW.on hV) (Or.inl (ha.on hwV)) (Or.inl (hy.on hwV)) (szP1 _ hps)
/-- A pair of which both are maybes. -/
theorem joinMaybes (ha6 : a.sort = 6) (hb6 : b.sort = 6) (W : World) (hW : Below w.heap.size w W) (hTW : JT W T) :
    Calls Tryz.prog 54 #[.pointer (some ⟨T, 0, none⟩), .agg #[.int .i64 a.sort, .slice a1 a.names.length p1, .slice a2 a.kids.length p2], .agg #[.int .i64 b.sort, .slice b1 b.names.length q1, .slice b2 b.kids.length q2], .string path] W (JE (jnP (n + 1) a b) W) := by
  have hka : a.kids.length = 1 := by rcases ha.sh with h' | h' | h' <;> omega
  have hkb : b.kids.length = 1 := by rcases hb.sh with h' | h' | h' <;> omega
  obtain ⟨xb, xo, xc, x1, x2, r1, r2, ex, hxl, x0, x3, x4, hx⟩ := ha.kid (i := 0) (by omega)
  obtain ⟨yb, yo, yc, y1, y2, s1, s2, ey, hyl, y0, y3, y4, hy⟩ := hb.kid (i := 0) (by omega)
  simp only [Value.slice.injEq, true_and] at ex ey
  obtain ⟨rfl, rfl⟩ := ex
  obtain ⟨rfl, rfl⟩ := ey
  have hma : a.kids[0]'(by omega) ∈ a.kids := List.getElem_mem _
  have hmb : b.kids[0]'(by omega) ∈ b.kids := List.getElem_mem _
  have hza := ksz_kid hma
  have hzb := ksz_kid hmb
  have hwka := wKd_kid hma
  have hwkb := wKd_kid hmb
  have hj : jnP (n + 1) a b = (jnP n (a.kids[0]'(by omega)) (b.kids[0]'(by omega))).map mbK := by rw [jn_mb (by omega) (by omega) (Or.inr hb6), bare_mb ha6 (by omega), bare_mb hb6 (by omega)]
  rw [hka, hkb, hj]
  refine ofMaybes_walk T a.sort a1 a.names.length p1 ⟨.int .i64 (a.kids[0]'(by omega)).sort, .slice x1 (a.kids[0]'(by omega)).names.length r1, .slice x2 (a.kids[0]'(by omega)).kids.length r2⟩ b.sort b1 (some ⟨yb, yo, none⟩) b.names.length q1 1 q2 xb xo p2 path _ W ⟨Nat.lt_of_lt_of_le hxl hW.size, (hW.cell hxl).trans x0, (hW.cell hxl).trans x3, (hW.cell hxl).trans x4⟩ fun V hV => ?_
  have hwV : Below w.heap.size w V := hW.trans (hV.mono hW.size)
  refine intoMaybe_walk T (a.kids[0]'(by omega)).sort x1 x2 (a.kids[0]'(by omega)).names.length r1 (a.kids[0]'(by omega)).kids.length r2 ⟨.int .i64 (b.kids[0]'(by omega)).sort, .slice y1 (b.kids[0]'(by omega)).names.length s1, .slice y2 (b.kids[0]'(by omega)).kids.length s2⟩ b.sort b1 b.names.length q1 yb yo q2 path (by omega) _ V ⟨Nat.lt_of_lt_of_le hyl hwV.size, (hwV.cell hyl).trans y0, (hwV.cell hyl).trans y3, (hwV.cell hyl).trans y4⟩ fun X hX => ?_
  have hwX : Below w.heap.size w X := hwV.trans (hX.mono hwV.size)
  exact IH _ _ (by omega) (by omega) (by omega) (by omega) (by omega) ⟨_, _, _⟩ ⟨_, _, _⟩ X T _ ((hTW.on hV).on hX) (Or.inl (hx.on hwX)) (Or.inl (hy.on hwX)) (szP1 _ hps)
/-- A pair of lists. -/
theorem joinLists (ha4 : a.sort = 4) (hb4 : b.sort = 4) (W : World) (hW : Below w.heap.size w W) (hTW : JT W T) :
    Calls Tryz.prog 52 #[.pointer (some ⟨T, 0, none⟩), .agg #[.int .i64 a.sort, .slice a1 a.names.length p1, .slice a2 a.kids.length p2], .agg #[.int .i64 b.sort, .slice b1 b.names.length q1, .slice b2 b.kids.length q2], .string path] W (JE (jnP (n + 1) a b) W) := by
  have hka : a.kids.length = 1 := by rcases ha.sh with h' | h' | h' <;> omega
  have hkb : b.kids.length = 1 := by rcases hb.sh with h' | h' | h' <;> omega
  obtain ⟨xb, xo, xc, x1, x2, r1, r2, ex, hxl, x0, x3, x4, hx⟩ := ha.kid (i := 0) (by omega)
  obtain ⟨yb, yo, yc, y1, y2, s1, s2, ey, hyl, y0, y3, y4, hy⟩ := hb.kid (i := 0) (by omega)
  simp only [Value.slice.injEq, true_and] at ex ey
  obtain ⟨rfl, rfl⟩ := ex
  obtain ⟨rfl, rfl⟩ := ey
  have hma : a.kids[0]'(by omega) ∈ a.kids := List.getElem_mem _
  have hmb : b.kids[0]'(by omega) ∈ b.kids := List.getElem_mem _
  have hza := ksz_kid hma
  have hzb := ksz_kid hmb
  have hwka := wKd_kid hma
  have hwkb := wKd_kid hmb
  rw [hka, hkb, jn_li ha4 hb4 (by omega) (by omega)]
  refine ofLists_walk T a.sort a1 a.names.length p1 ⟨.int .i64 (a.kids[0]'(by omega)).sort, .slice x1 (a.kids[0]'(by omega)).names.length r1, .slice x2 (a.kids[0]'(by omega)).kids.length r2⟩ ⟨.int .i64 (b.kids[0]'(by omega)).sort, .slice y1 (b.kids[0]'(by omega)).names.length s1, .slice y2 (b.kids[0]'(by omega)).kids.length s2⟩ b.sort b1 b.names.length q1 xb xo p2 yb yo q2 path (by omega) _ W ⟨Nat.lt_of_lt_of_le hxl hW.size, (hW.cell hxl).trans x0, (hW.cell hxl).trans x3, (hW.cell hxl).trans x4⟩ ⟨Nat.lt_of_lt_of_le hyl hW.size, (hW.cell hyl).trans y0, (hW.cell hyl).trans y3, (hW.cell hyl).trans y4⟩ fun V hV => ?_
  have hwV : Below w.heap.size w V := hW.trans (hV.mono hW.size)
  exact IH _ _ (by omega) (by omega) (by omega) (by omega) (by omega) ⟨_, _, _⟩ ⟨_, _, _⟩ V T _ (hTW.on hV) (Or.inl (hx.on hwV)) (Or.inl (hy.on hwV)) (szP1 _ hps)
/-- A pair of forms. -/
theorem joinForms (ha5 : a.sort = 5) (hb5 : b.sort = 5) (W : World) (hW : Below w.heap.size w W) (hTW : JT W T) :
    Calls Tryz.prog 53 #[.pointer (some ⟨T, 0, none⟩), .agg #[.int .i64 a.sort, .slice a1 a.names.length p1, .slice a2 a.kids.length p2], .agg #[.int .i64 b.sort, .slice b1 b.names.length q1, .slice b2 b.kids.length q2], .string path] W (JE (jnP (n + 1) a b) W) := by
  obtain ⟨hla, hra⟩ := rise_names ha.ok ha5
  obtain ⟨hlb, hrb⟩ := rise_names hb.ok hb5
  have hnm : ∀ nm, nm ∈ uniN a.names b.names → nm.size ≤ 8 := fun nm hm => by
    rcases (uniN_mem nm).1 hm with h | h
    · exact rise_szU hra h
    · exact rise_szU hrb h
  have hlen : ∀ k : Kd, k.kids.length ≤ ksz k := fun k => by
    have := klszLen k.kids
    have e : ksz k = 1 + klsz k.kids := by obtain ⟨s, ns, ks⟩ := k; rw [ksz]; rfl
    omega
  have hlA := hlen a
  have hlB := hlen b
  have hj : jnP (n + 1) a b = joF (uniN a.names b.names) (fun nm => jnP n (kidZ a nm) (kidZ b nm)) := jn_fm ha5 hb5
  rw [hj]
  refine ofForms_walk a b T a1 a2 b1 b2 p1 p2 q1 q2 path W (fun nm => jnP n (kidZ a nm) (kidZ b nm)) (ha.on hW) (hb.on hW) ha5 hb5 (by omega) (by omega) (by omega) (fun nm hm => by have := hnm nm hm; omega) (fun nm hm V x y hV hx hy => ?_)
  have h1 := wKd_kidZ (k := a) nm
  have h2 := wKd_kidZ (k := b) nm
  exact IH _ _ (ksz_names hsum hm ha.ok hb.ok ha5 hb5) (kidZ_sz hna nm) (kidZ_sz hnb nm) (by omega) (by omega) x y V T _ (hTW.on hV) hx hy (szP3 hps (hnm nm hm))
end
theorem pairJ_step (n : Nat) (IH : ∀ m, n = m + 1 → JPS m) : JPS n := by
  intro a b hsum hna hnb hwa hwb c d w T path hT hc hd hps
  obtain ⟨sa, hsa, ha6, ha0, haw⟩ := hc.sort
  obtain ⟨sb, hsb, hb6, hb0, hbw⟩ := hd.sort
  obtain ⟨a1, a2, p1, p2, rfl⟩ := hc.form
  obtain ⟨b1, b2, q1, q2, rfl⟩ := hd.form
  have hpa := ksz_pos a
  have hpb := ksz_pos b
  obtain ⟨m, rfl⟩ : ∃ m, n = m + 1 := ⟨n - 1, by omega⟩
  have IHm := IH m rfl
  simp only
  by_cases h0a : sa = 0
  · by_cases h0b : sb = 0
    · rw [jn_00 (by omega) (by omega), hsa, hsb]
      exact ofPairJ_no T sa sb a1 a2 b1 b2 _ p1 _ p2 _ q1 _ q2 ha6 hb6 path none w hT (by subst h0a h0b; rfl) rfl
    · have hb := hbw h0b
      rw [jn_0b (by omega) (by omega)]
      by_cases h6 : sb = 6
      · rw [jlone_mb (by omega), hsa, hsb]
        refine ofPairJ_turn T sa sb a1 a2 b1 b2 _ p1 _ p2 _ q1 _ q2 ha6 hb6 (T + 1 + 10) path _ w hT (by subst h0a h6; rfl) fun W hW => ?_
        refine io1_walk T 50 _ _ a1 a2 b1 b2 _ p1 _ p2 _ q1 _ q2 path (T + 1 + 10) _ W ((hT.on hW).bx 10 (by omega)) (enJ _ Tryz.f50 _ Tryz.func50 (by kernel_rfl) rfl) fun V hV => ?_
        have hwV : Below w.heap.size w V := hW.trans (hV.mono hW.size)
        rw [← hsb]
        exact ofOneMaybe_walk T b _ b1 b2 a1 a2 q1 q2 _ p1 _ p2 path V (hb.on hwV).rep (by omega) hwb
      · obtain ⟨-, e2, -, -⟩ := jent_one T sb (by omega) (by omega)
        rw [jlone_no (by omega), hsa, hsb]
        refine ofPairJ_turn T sa sb a1 a2 b1 b2 _ p1 _ p2 _ q1 _ q2 ha6 hb6 (T + 1 + (sb - 1) * 2) path _ w hT (by subst h0a; exact e2) fun W hW => ?_
        refine io1_walk T 48 _ _ a1 a2 b1 b2 _ p1 _ p2 _ q1 _ q2 path (T + 1 + (sb - 1) * 2) _ W (by have := (hT.on hW).bx ((sb - 1) * 2) (by omega); rw [(jwork_one sb (by omega) (by omega)).1] at this; exact this) (enJ _ Tryz.f48 _ Tryz.func48 (by kernel_rfl) rfl) fun V hV => ?_
        have hwV : Below w.heap.size w V := hW.trans (hV.mono hW.size)
        rw [← hsb]
        exact ofOne_walk T b _ b1 b2 a1 a2 q1 q2 _ p1 _ p2 path V (hb.on hwV).rep (by omega) hwb
  have ha := haw h0a
  by_cases h0b : sb = 0
  · rw [jn_a0 (by omega) (by omega)]
    by_cases h6 : sa = 6
    · rw [jlone_mb (by omega), hsa, hsb]
      refine ofPairJ_do T sa sb a1 a2 b1 b2 _ p1 _ p2 _ q1 _ q2 ha6 hb6 50 path _ w hT (by subst h0b h6; rfl) (enJ _ Tryz.f50 _ Tryz.func50 (by kernel_rfl) rfl) fun W hW => ?_
      rw [← hsa]
      exact ofOneMaybe_walk T a _ a1 a2 b1 b2 p1 p2 _ q1 _ q2 path W (ha.on hW).rep (by omega) hwa
    · obtain ⟨e1, -, -, -⟩ := jent_one T sa (by omega) (by omega)
      rw [jlone_no (by omega), hsa, hsb]
      refine ofPairJ_do T sa sb a1 a2 b1 b2 _ p1 _ p2 _ q1 _ q2 ha6 hb6 48 path _ w hT (by subst h0b; exact e1) (enJ _ Tryz.f48 _ Tryz.func48 (by kernel_rfl) rfl) fun W hW => ?_
      rw [← hsa]
      exact ofOne_walk T a _ a1 a2 b1 b2 p1 p2 _ q1 _ q2 path W (ha.on hW).rep (by omega) hwa
  have hb := hbw h0b
  by_cases h6 : sb = 6
  · by_cases h6a : sa = 6
    · rw [hsa, hsb]
      refine ofPairJ_do T sa sb a1 a2 b1 b2 _ p1 _ p2 _ q1 _ q2 ha6 hb6 54 path _ w hT (by subst h6 h6a; rfl) (enJ _ Tryz.f54 _ Tryz.func54 (by kernel_rfl) rfl) fun W hW => ?_
      rw [← hsa, ← hsb]
      exact joinMaybes m IHm a b hsum hna hnb hwa hwb a1 a2 b1 b2 p1 p2 q1 q2 w T path hps ha hb (by omega) (by omega) W hW (hT.on hW)
    · obtain ⟨-, -, e3, -⟩ := jent_one T sa (by omega) (by omega)
      rw [hsa, hsb]
      refine ofPairJ_do T sa sb a1 a2 b1 b2 _ p1 _ p2 _ q1 _ q2 ha6 hb6 49 path _ w hT (by subst h6; exact e3) (enJ _ Tryz.f49 _ Tryz.func49 (by kernel_rfl) rfl) fun W hW => ?_
      rw [← hsa, ← hsb]
      exact joinInto m IHm a b hsum hna hnb hwa hwb a1 a2 b1 b2 p1 p2 q1 q2 w T path hps ha hb (by omega) (by omega) (by omega) W hW (hT.on hW)
  by_cases h6a : sa = 6
  · obtain ⟨-, -, -, e4⟩ := jent_one T sb (by omega) (by omega)
    rw [jn_comm, hsa, hsb]
    refine ofPairJ_turn T sa sb a1 a2 b1 b2 _ p1 _ p2 _ q1 _ q2 ha6 hb6 (T + 1 + ((sb - 1) * 2 + 1)) path _ w hT (by subst h6a; exact e4) fun W hW => ?_
    refine io1_walk T 49 _ _ a1 a2 b1 b2 _ p1 _ p2 _ q1 _ q2 path (T + 1 + ((sb - 1) * 2 + 1)) _ W (by have := (hT.on hW).bx ((sb - 1) * 2 + 1) (by omega); rw [(jwork_one sb (by omega) (by omega)).2] at this; exact this) (enJ _ Tryz.f49 _ Tryz.func49 (by kernel_rfl) rfl) fun V hV => ?_
    have hwV : Below w.heap.size w V := hW.trans (hV.mono hW.size)
    rw [← hsa, ← hsb]
    exact joinInto m IHm b a (by omega) hnb hna hwb hwa b1 b2 a1 a2 q1 q2 p1 p2 w T path hps hb ha (by omega) (by omega) (by omega) V hwV (hT.on hwV)
  by_cases hab : sa = sb
  · by_cases h4 : sa = 4
    · rw [hsa, hsb]
      refine ofPairJ_do T sa sb a1 a2 b1 b2 _ p1 _ p2 _ q1 _ q2 ha6 hb6 52 path _ w hT (by subst hab h4; rfl) (enJ _ Tryz.f52 _ Tryz.func52 (by kernel_rfl) rfl) fun W hW => ?_
      rw [← hsa, ← hsb]
      exact joinLists m IHm a b hsum hna hnb hwa hwb a1 a2 b1 b2 p1 p2 q1 q2 w T path hps ha hb (by omega) (by omega) W hW (hT.on hW)
    by_cases h5 : sa = 5
    · rw [hsa, hsb]
      refine ofPairJ_do T sa sb a1 a2 b1 b2 _ p1 _ p2 _ q1 _ q2 ha6 hb6 53 path _ w hT (by subst hab h5; rfl) (enJ _ Tryz.f53 _ Tryz.func53 (by kernel_rfl) rfl) fun W hW => ?_
      rw [← hsa, ← hsb]
      exact joinForms m IHm a b hsum hna hnb hwa hwb a1 a2 b1 b2 p1 p2 q1 q2 w T path hps ha hb (by omega) (by omega) W hW (hT.on hW)
    · rw [jn_lf (by omega) (by omega), hsa, hsb]
      have he : jEnt T sa sb = jv T 51 := by
        subst hab
        rcases (show sa = 1 ∨ sa = 2 ∨ sa = 3 by omega) with rfl | rfl | rfl <;> rfl
      refine ofPairJ_do T sa sb a1 a2 b1 b2 _ p1 _ p2 _ q1 _ q2 ha6 hb6 51 path _ w hT he (enJ _ Tryz.f51 _ Tryz.func51 (by kernel_rfl) rfl) fun W hW => ?_
      exact ofLeaves_walk T _ _ a1 a2 b1 b2 _ p1 _ p2 _ q1 _ q2 path W ⟨by omega, by omega⟩
  · rw [jn_ne (by omega) (by omega) (by omega) (by omega) (by omega), hsa, hsb]
    exact ofPairJ_no T sa sb a1 a2 b1 b2 _ p1 _ p2 _ q1 _ q2 ha6 hb6 path none w hT (jent_nil T sa sb (by omega) (by omega) h0a h0b hab) rfl
theorem pairJ_all (n : Nat) : JPS n := by
  induction n with
  | zero => exact pairJ_step 0 (fun m h => by omega)
  | succ n IH =>
    refine pairJ_step (n + 1) (fun m h => ?_)
    obtain rfl : n = m := by omega
    exact IH
end Go.Proofs.YtenpghndgdemnaaGreatDoor

/- errors.As by its contracts, at the target *misfit: of no error it is false; of a misfit it is true, and the target's variable is set. Conditions: errors.errorType holds the handle of the type error. -/

namespace Go.Proofs.YtenpghndgdemnaaGreatDoor
open Go Go.RowKit Go.Extern.Stop Go.Stop Go.Extern

theorem as_nil (t : Value) (w : World) :
    Calls Tryz.prog 56 #[.nilIface, t] w fun e w' => e = .returned (.bool false) ∧ w' = w := by
  go_enter Tryz.func56, Tryz.ntmps56
  go_wp2
  go_ret
  exact ⟨rfl, rfl⟩
theorem mf_valueOfP (t : Addr) (w : World) : (ReflectliteValue.unpack (.iface 93 (.pointer (some t)))).run Tryz.prog w
    = .ok (.agg #[.pointer (some ⟨1, 93, none⟩), .pointer (some ⟨w.heap.size, 0, none⟩), .int .u64 150]) (w.alloc (.cells #[.pointer (some t)] 93)) := by kernel_rfl
theorem mf_typeP (a : Addr) (w : World) : (ReflectliteValue.methodAny (ReflectliteValue.valueError "reflectlite.Value.Type" 0) (fun t _ _ _ => ReflectliteType.toType t) #[.agg #[.pointer (some ⟨1, 93, none⟩), .pointer (some a), .int .u64 150]]).run Tryz.prog w
    = .ok (.iface 134 (.agg #[.pointer (some ⟨1, 93, none⟩)])) w := by kernel_rfl
theorem mf_methodKind (h : Value) (w : World) : (Go.method 309 134 (.agg #[h]) "Kind").run Tryz.prog w = .ok (143, h) w := by kernel_rfl
theorem mf_kindP (w : World) : ((ReflectliteType.abiMethod fun t => (fun a : Nat => Value.int IntKind.u8 (a : Int)) <$> Rtype.kind t) #[.pointer (some ⟨1, 93, none⟩)]).run Tryz.prog w = .ok (.int .u8 22) w := by kernel_rfl
theorem mf_kindS (w : World) : ((ReflectliteType.abiMethod fun t => (fun a : Nat => Value.int IntKind.u8 (a : Int)) <$> Rtype.kind t) #[.pointer (some ⟨1, 91, none⟩)]).run Tryz.prog w = .ok (.int .u8 25) w := by kernel_rfl
theorem mf_rlm (z : Sem Value) (f : TypeId → Addr → Nat → Nat → Sem Value) (v : Value) :
    ReflectliteValue.method z f #[v] = (do match ← ReflectliteValue.parts v with | none => z | some (t, a, fl) => f t a fl (fl % 32)) := rfl
theorem mf_partsP (a : Addr) (w : World) : (ReflectliteValue.parts (.agg #[.pointer (some ⟨1, 93, none⟩), .pointer (some a), .int .u64 150])).run Tryz.prog w = .ok (some (93, a, 150)) w := by kernel_rfl
theorem mf_isNilP (a p : Addr) (W : World) (ha : W.cell? a = some (.pointer (some p))) :
    (ReflectliteValue.method (ReflectliteValue.valueError "reflectlite.Value.IsNil" 0) ReflectliteValue.isNil #[.agg #[.pointer (some ⟨1, 93, none⟩), .pointer (some a), .int .u64 150]]).run Tryz.prog W = .ok (.bool false) W := by
  rw [mf_rlm]
  simp only [Sem.run_bind, mf_partsP, Result.andThen]
  simp [ReflectliteValue.isNil, loadVar, isAgg, underlying, Tryz.underlying93, ha, Result.andThen]
theorem mf_methodElem (h : Value) (w : World) : (Go.method 309 134 (.agg #[h]) "Elem").run Tryz.prog w = .ok (157, .agg #[h]) w := by kernel_rfl
theorem mf_methodImplements (h : Value) (w : World) : (Go.method 309 134 (.agg #[h]) "Implements").run Tryz.prog w = .ok (158, .agg #[h]) w := by kernel_rfl
theorem mf_methodAssignableTo (h : Value) (w : World) : (Go.method 309 134 (.agg #[h]) "AssignableTo").run Tryz.prog w = .ok (155, .agg #[h]) w := by kernel_rfl
theorem mf_elemP (w : World) : (ReflectliteType.method ReflectliteType.elem #[.agg #[.pointer (some ⟨1, 93, none⟩)]]).run Tryz.prog w = .ok (.iface 134 (.agg #[.pointer (some ⟨1, 91, none⟩)])) w := by kernel_rfl
theorem mf_implementsS (w : World) : (ReflectliteType.relation "Implements" ReflectliteType.implements_ #[.agg #[.pointer (some ⟨1, 91, none⟩)], .iface 134 (.agg #[.pointer (some ⟨1, 87, none⟩)])]).run Tryz.prog w = .ok (.bool true) w := by kernel_rfl
theorem mf_typeOfS (v : Value) (w : World) : (ReflectliteType.typeOf #[.iface 91 v]).run Tryz.prog w = .ok (.iface 134 (.agg #[.pointer (some ⟨1, 91, none⟩)])) w := by kernel_rfl
theorem mf_assignableS (w : World) : (ReflectliteType.relation "AssignableTo" ReflectliteType.assignableTo #[.agg #[.pointer (some ⟨1, 91, none⟩)], .iface 134 (.agg #[.pointer (some ⟨1, 91, none⟩)])]).run Tryz.prog w = .ok (.bool true) w := by kernel_rfl
theorem mf_valueOfS (x y : Int) (p : ByteArray) (w : World) : (ReflectliteValue.unpack (.iface 91 (.agg #[.int .i64 x, .int .i64 y, .string p]))).run Tryz.prog w
    = .ok (.agg #[.pointer (some ⟨1, 91, none⟩), .pointer (some ⟨w.heap.size, 0, none⟩), .int .u64 153]) (w.alloc (.cells #[.int .i64 x, .int .i64 y, .string p] 91)) := by kernel_rfl
theorem mf_elemOfP (w : World) : (Rtype.elem? 93).run Tryz.prog w = .ok (some 91) w := by kernel_rfl
theorem mf_mkS (p : Addr) (w : World) : (ReflectliteValue.mk 91 p ReflectliteValue.flagAddr).run Tryz.prog w = .ok (.agg #[.pointer (some ⟨1, 91, none⟩), .pointer (some p), .int .u64 409]) w := by kernel_rfl
theorem mf_elemV (a p : Addr) (W : World) (ha : W.cell? a = some (.pointer (some p))) :
    (ReflectliteValue.method (ReflectliteValue.valueError "reflectlite.Value.Elem" 0) ReflectliteValue.elem #[.agg #[.pointer (some ⟨1, 93, none⟩), .pointer (some a), .int .u64 150]]).run Tryz.prog W
      = .ok (.agg #[.pointer (some ⟨1, 91, none⟩), .pointer (some p), .int .u64 409]) W := by
  rw [mf_rlm]
  simp only [Sem.run_bind, mf_partsP, Result.andThen]
  simp [ReflectliteValue.elem, loadVar, isAgg, underlying, Tryz.underlying93, ha, Result.andThen, mf_elemOfP, mf_mkS]
theorem mf_partsV (a : Addr) (w : World) : (ReflectliteValue.parts (.agg #[.pointer (some ⟨1, 91, none⟩), .pointer (some a), .int .u64 409])).run Tryz.prog w = .ok (some (91, a, 409)) w := by kernel_rfl
theorem mf_partsS (a : Addr) (w : World) : (ReflectliteValue.parts (.agg #[.pointer (some ⟨1, 91, none⟩), .pointer (some a), .int .u64 153])).run Tryz.prog w = .ok (some (91, a, 153)) w := by kernel_rfl
theorem mf_direct (w : World) : (Rtype.directlyAssignable 91 91).run Tryz.prog w = .ok true w := by kernel_rfl
theorem mf_size : (Tryz.prog.info? 91).map (·.size) = some 3 := by kernel_rfl
/-- The target's variable gets what the copy holds. -/
theorem mf_set (t b : Nat) (x y : Int) (p : ByteArray) (W : World) (hb : W.rangeAt b 0 [.int .i64 x, .int .i64 y, .string p]) (ht : W.there t 0 3) :
    (ReflectliteValue.set #[.agg #[.pointer (some ⟨1, 91, none⟩), .pointer (some ⟨t, 0, none⟩), .int .u64 409], .agg #[.pointer (some ⟨1, 91, none⟩), .pointer (some ⟨b, 0, none⟩), .int .u64 153]]).run Tryz.prog W
      = .ok (.tuple #[]) (W.setCells t 0 [.int .i64 x, .int .i64 y, .string p]) := by
  have h1 := run_loadVar_mid (P := Tryz.prog) W b 0 91 [.int .i64 x, .int .i64 y, .string p] _ hb Tryz.underlying91 rfl mf_size
  have h2 := run_storeVar_mid (P := Tryz.prog) W t 0 91 #[.int .i64 x, .int .i64 y, .string p] ht mf_size (by rw [← Array.all_toList]; rfl)
  delta ReflectliteValue.set
  conv in (ReflectliteValue.set.match_3 _ _ _ _) => whnf
  change ((ReflectliteValue.parts (.agg #[.pointer (some ⟨1, 91, none⟩), .pointer (some ⟨t, 0, none⟩), .int .u64 409])) >>= _).run Tryz.prog W = _
  simp only [Sem.run_bind, mf_partsV, Result.andThen, Array.getLit]
  simp only [ReflectliteValue.flagAddr]
  simp [Sem.run_bind, Result.andThen, h1, mf_direct, h2, mf_partsS]
theorem thr_alloc {w : World} {b o n : Nat} (h : w.there b o n) (ob : Obj) : (w.alloc ob).there b o n := World.there_alloc h ob
set_option maxHeartbeats 4000000 in
theorem as_hit (x y : Int) (p : ByteArray) (t : Nat) (w : World) (hg : w.cell? ⟨0, 0, none⟩ = some (.iface 134 (.agg #[.pointer (some ⟨1, 87, none⟩)]))) (ht : w.there t 0 3) :
    Calls Tryz.prog 56 #[.iface 91 (.agg #[.int .i64 x, .int .i64 y, .string p]), .iface 93 (.pointer (some ⟨t, 0, none⟩))] w fun e w' => e = .returned (.bool true) ∧ But t w w' := by
  have h1 := @run_callFunc_extern Tryz.prog 75 _ (fun args => ReflectliteValue.unpack (args.getD 0 (.tuple #[]))) Tryz.func75 (by kernel_rfl) (by kernel_rfl) (by kernel_rfl) (by kernel_rfl)
  have h2 := @run_callFunc_extern Tryz.prog 76 _ (ReflectliteValue.methodAny (ReflectliteValue.valueError "reflectlite.Value.Type" 0) (fun t _ _ _ => ReflectliteType.toType t)) Tryz.func76 (by kernel_rfl) (by kernel_rfl) (by kernel_rfl) (by kernel_rfl)
  have h3 := @run_callFunc_extern Tryz.prog 77 _ (ReflectliteValue.method (ReflectliteValue.valueError "reflectlite.Value.IsNil" 0) ReflectliteValue.isNil) Tryz.func77 (by kernel_rfl) (by kernel_rfl) (by kernel_rfl) (by kernel_rfl)
  have h4 := @run_callFunc_extern Tryz.prog 143 _ (ReflectliteType.abiMethod fun t => do pure (.int .u8 (← Rtype.kind t))) Tryz.func143 (by kernel_rfl) (by kernel_rfl) (by kernel_rfl) (by kernel_rfl)
  have h5 := @run_callFunc_extern Tryz.prog 157 _ (ReflectliteType.method ReflectliteType.elem) Tryz.func157 (by kernel_rfl) (by kernel_rfl) (by kernel_rfl) (by kernel_rfl)
  have h6 := @run_callFunc_extern Tryz.prog 158 _ (ReflectliteType.relation "Implements" ReflectliteType.implements_) Tryz.func158 (by kernel_rfl) (by kernel_rfl) (by kernel_rfl) (by kernel_rfl)
  have h7 := @run_callFunc_extern Tryz.prog 95 _ ReflectliteType.typeOf Tryz.func95 (by kernel_rfl) (by kernel_rfl) (by kernel_rfl) (by kernel_rfl)
  have h8 := @run_callFunc_extern Tryz.prog 155 _ (ReflectliteType.relation "AssignableTo" ReflectliteType.assignableTo) Tryz.func155 (by kernel_rfl) (by kernel_rfl) (by kernel_rfl) (by kernel_rfl)
  have h9 := @run_callFunc_extern Tryz.prog 96 _ (ReflectliteValue.method (ReflectliteValue.valueError "reflectlite.Value.Elem" 0) ReflectliteValue.elem) Tryz.func96 (by kernel_rfl) (by kernel_rfl) (by kernel_rfl) (by kernel_rfl)
  have h10 := @run_callFunc_extern Tryz.prog 97 _ ReflectliteValue.set Tryz.func97 (by kernel_rfl) (by kernel_rfl) (by kernel_rfl) (by kernel_rfl)
  have f1 := mf_valueOfP; have f2 := mf_typeP; have f3 := mf_methodKind; have f4 := mf_kindP; have f5 := mf_kindS; have f6 := mf_methodElem; have f7 := mf_methodImplements; have f8 := mf_methodAssignableTo
  have f9 := mf_elemP; have f10 := mf_implementsS; have f11 := mf_typeOfS; have f12 := mf_assignableS; have f13 := mf_valueOfS
  have hlt : 0 < w.heap.size := by
    rcases Nat.lt_or_ge 0 w.heap.size with h | h
    · exact h
    · simp [World.cell?, Array.getElem?_eq_none h] at hg
  have htl : t < w.heap.size := by
    rcases Nat.lt_or_ge t w.heap.size with h | h
    · exact h
    · have := (ht 0 (by omega)).1; simp [World.cell?, Array.getElem?_eq_none h] at this
  have n8 := mf_isNilP ⟨w.heap.size, 0, none⟩ ⟨t, 0, none⟩ ((w.alloc (.cells #[.pointer (some ⟨t, 0, none⟩)] 93)).alloc (.cells #[.pointer (some ⟨1, 93, none⟩), .pointer (some ⟨w.heap.size, 0, none⟩), .int .u64 150] 107)) (by simp)
  have hg2 : ((w.alloc (.cells #[.pointer (some ⟨t, 0, none⟩)] 93)).alloc (.cells #[.pointer (some ⟨1, 93, none⟩), .pointer (some ⟨w.heap.size, 0, none⟩), .int .u64 150] 107)).cell? ⟨0, 0, none⟩ = some (.iface 134 (.agg #[.pointer (some ⟨1, 87, none⟩)])) := by
    rw [World.cell?_alloc_lt _ _ ⟨0, 0, none⟩ (by simp <;> omega), World.cell?_alloc_lt _ _ ⟨0, 0, none⟩ hlt]; exact hg
  have el := mf_elemV ⟨w.heap.size, 0, none⟩ ⟨t, 0, none⟩ (((w.alloc (.cells #[.pointer (some ⟨t, 0, none⟩)] 93)).alloc (.cells #[.pointer (some ⟨1, 93, none⟩), .pointer (some ⟨w.heap.size, 0, none⟩), .int .u64 150] 107)).alloc (.cells #[.pointer (some ⟨1, 93, none⟩), .pointer (some ⟨w.heap.size, 0, none⟩), .int .u64 150] 107)) (by rw [World.cell?_alloc_lt _ _ ⟨w.heap.size, 0, none⟩ (by simp; omega)]; simp)
  have st := mf_set t (w.heap.size + 1 + 1 + 1) x y p ((((w.alloc (.cells #[.pointer (some ⟨t, 0, none⟩)] 93)).alloc (.cells #[.pointer (some ⟨1, 93, none⟩), .pointer (some ⟨w.heap.size, 0, none⟩), .int .u64 150] 107)).alloc (.cells #[.pointer (some ⟨1, 93, none⟩), .pointer (some ⟨w.heap.size, 0, none⟩), .int .u64 150] 107)).alloc (.cells #[.int .i64 x, .int .i64 y, .string p] 91))
    (fun j v hv => by
      match j, hv with
      | 0, hv => rw [World.cell?_alloc_at _ _ _ _ (by simp)]; exact hv
      | 1, hv => rw [World.cell?_alloc_at _ _ _ _ (by simp)]; exact hv
      | 2, hv => rw [World.cell?_alloc_at _ _ _ _ (by simp)]; exact hv)
    (thr_alloc (thr_alloc (thr_alloc (thr_alloc ht _) _) _) _)
  clear ht hlt hg
  have HTL := hide htl
  clear htl
  go_enter Tryz.func56, Tryz.ntmps56
  go_wp2
  refine wp_loop_rounds 1 ?_
  rw [rounds_succ]
  go_wp2
  go_ret
  refine ⟨rfl, ?_⟩
  refine But.trans (b := (((w.alloc (.cells #[.pointer (some ⟨t, 0, none⟩)] 93)).alloc (.cells #[.pointer (some ⟨1, 93, none⟩), .pointer (some ⟨w.heap.size, 0, none⟩), .int .u64 150] 107)).alloc (.cells #[.pointer (some ⟨1, 93, none⟩), .pointer (some ⟨w.heap.size, 0, none⟩), .int .u64 150] 107)).alloc (.cells #[.int .i64 x, .int .i64 y, .string p] 91)) ?_ ?_
  · exact (((But.alloc _ _ _).trans (But.alloc _ _ _)).trans (But.alloc _ _ _)).trans (But.alloc _ _ _)
  · exact ((But.set _ _ _).trans (But.set _ _ _)).trans (But.set _ _ _)
end Go.Proofs.YtenpghndgdemnaaGreatDoor
