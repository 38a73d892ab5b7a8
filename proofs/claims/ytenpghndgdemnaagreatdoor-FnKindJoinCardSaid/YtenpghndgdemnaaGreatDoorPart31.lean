/- The program's ofPair at the table of widenings, whatever the two schemas: a widening if the one fits into the other, else a misfit. Conditions: the schemas are ok (or nothing), of at most 40 parts; the path is not too long. -/
import Derived.Test.YtenpghndgdemnaaGreatDoorPart30
import Derived.Test.YtenpghndgdemnaaGreatDoorPart24
namespace Go.Proofs.YtenpghndgdemnaaGreatDoor
open Go Go.RowKit

/-- What is said of widenings: it holds of those that the six works make. -/
structure GLaws (GW : Kd → Kd → (Nat → Prop) → World → Value → Prop) : Prop where
  on : ∀ a b P Q W W' fv, GW a b P W fv → (∀ x, P x → Q x) → (∀ x, P x → W'.heap[x]? = W.heap[x]?) → GW a b Q W' fv
  zero : ∀ a b P W, a.sort = 0 → b.sort = 6 → GW a b P W (.func (.func 82) #[] #[])
  leaf : ∀ a b P W, a.sort = b.sort → (a.sort = 1 ∨ a.sort = 2 ∨ a.sort = 3) → GW a b P W (.func (.func 83) #[] #[])
  each : ∀ a b P W B fv, ((a.sort = 4 ∧ b.sort = 4) ∨ (a.sort = 6 ∧ b.sort = 6)) → (ha : 0 < a.kids.length) → (hb : 0 < b.kids.length) → okD a = true → okD b = true → P B → W.cell? ⟨B, 0, none⟩ = some fv → (∃ f b c, fv = .func f b c) → GW a.kids[0] b.kids[0] P W fv → GW a b P W (.func (.func 100) #[] #[.pointer (some ⟨B, 0, none⟩)])
  into : ∀ a b P W B fv, b.sort = 6 → a.sort ≠ 6 → a.sort ≠ 0 → (hb : 0 < b.kids.length) → okD a = true → okD b = true → P B → W.cell? ⟨B, 0, none⟩ = some fv → (∃ f b c, fv = .func f b c) → GW a b.kids[0] P W fv → GW a b P W (.func (.func 85) #[] #[.pointer (some ⟨B, 0, none⟩)])
  form : ∀ a b P W g1 g2, a.sort = 5 → b.sort = 5 → a.names.length ≤ 1000 → b.names.length ≤ 1000 → okD a = true → okD b = true → FmG (uniN a.names b.names) (fun nm => GW (kidZ a nm) (kidZ b nm)) P W g1 g2 → GW a b P W (.func (.func 88) #[] #[.pointer (some ⟨g1, 0, none⟩), .pointer (some ⟨g2, 0, none⟩)])
/-- What ofPair gives. -/
def PFR (GW : Kd → Kd → (Nat → Prop) → World → Value → Prop) (n : Nat) (a b : Kd) (T : Nat) (P : Nat → Prop) (W : World) (fv er : Value) : Prop :=
  PR (pF n a b) (GW a b) P W fv er ∧ (ent T a.sort.toNat b.sort.toNat = .nilFunc → fv = .nilFunc) ∧ (ent T a.sort.toNat b.sort.toNat ≠ .nilFunc → ∃ f b c, fv = .func f b c)
theorem PFR.on {GW : Kd → Kd → (Nat → Prop) → World → Value → Prop} (HG : GLaws GW) {n : Nat} {a b : Kd} {T : Nat} (P Q : Nat → Prop) (W W' : World) (fv er : Value) (h : PFR GW n a b T P W fv er) (h1 : ∀ x, P x → Q x) (h2 : ∀ x, P x → W'.heap[x]? = W.heap[x]?) : PFR GW n a b T Q W' fv er :=
  ⟨PR.on (HG.on a b) P Q W W' fv er h.1 h1 h2, h.2⟩
def PairSaid (GW : Kd → Kd → (Nat → Prop) → World → Value → Prop) (n : Nat) : Prop := ∀ (a b : Kd), (b.sort ≠ 0 → ksz b ≤ n) → ksz a ≤ 40 → ksz b ≤ 40 → ∀ (c d : C3) (w : World) (T : Nat) (path : ByteArray), WT w T → KZ w a c → KZ w b d → path.size + n * 100 ≤ 900000 →
    Calls Tryz.prog 66 #[.pointer (some ⟨T, 0, none⟩), .agg #[c.c0, c.c1, c.c2], .agg #[d.c0, d.c1, d.c2], .string path] w fun e w' => Below w.heap.size w w' ∧ ∃ fv er, e = .returned (.tuple #[fv, er]) ∧ PFR GW n a b T (New w w') w' fv er
theorem KZ.sort {w : World} {k : Kd} {c : C3} (h : KZ w k c) : ∃ s : Nat, k.sort = (s : Int) ∧ s ≤ 6 ∧ (s = 0 ↔ k = kd0) ∧ (s ≠ 0 → KW w k c) := by
  rcases h with h | ⟨rfl, rfl⟩
  · refine ⟨k.sort.toNat, ?_, ?_, ⟨fun h0 => ?_, fun h0 => ?_⟩, fun _ => h⟩
    · rcases h.sh with h | h | h <;> omega
    · rcases h.sh with h | h | h <;> omega
    · rcases h.sh with h | h | h <;> omega
    · have hs : k.sort = 0 := by rw [h0]; rfl
      rcases h.sh with h | h | h <;> omega
  · exact ⟨0, rfl, by omega, ⟨fun _ => rfl, fun _ => rfl⟩, fun h => absurd rfl h⟩
theorem ent_nil (T sa sb : Nat) (ha : sa ≤ 6) (hb : sb ≤ 6) (h : ¬ (sb = 6 ∨ (sa = sb ∧ sa ≠ 0))) : ent T sa sb = .nilFunc := by
  rcases (show sa = 0 ∨ sa = 1 ∨ sa = 2 ∨ sa = 3 ∨ sa = 4 ∨ sa = 5 ∨ sa = 6 by omega) with rfl | rfl | rfl | rfl | rfl | rfl | rfl <;>
    rcases (show sb = 0 ∨ sb = 1 ∨ sb = 2 ∨ sb = 3 ∨ sb = 4 ∨ sb = 5 by omega) with rfl | rfl | rfl | rfl | rfl | rfl <;> first | rfl | omega
theorem ent_some (T sa sb f : Nat) (h : ent T sa sb = wv T f) : ent T sa sb ≠ .nilFunc := by rw [h]; intro e; cases e
theorem enNone (args : Array Value) (w : World) : (callFunc 60 args).run Tryz.prog w = .ok (.enter 60 args) w := enters_of Tryz.func60 (by kernel_rfl) rfl args w
theorem enLeaf (args : Array Value) (w : World) : (callFunc 61 args).run Tryz.prog w = .ok (.enter 61 args) w := enters_of Tryz.func61 (by kernel_rfl) rfl args w
theorem enList (args : Array Value) (w : World) : (callFunc 63 args).run Tryz.prog w = .ok (.enter 63 args) w := enters_of Tryz.func63 (by kernel_rfl) rfl args w
theorem enMaybe (args : Array Value) (w : World) : (callFunc 65 args).run Tryz.prog w = .ok (.enter 65 args) w := enters_of Tryz.func65 (by kernel_rfl) rfl args w
theorem enInto (args : Array Value) (w : World) : (callFunc 62 args).run Tryz.prog w = .ok (.enter 62 args) w := enters_of Tryz.func62 (by kernel_rfl) rfl args w
theorem enForm (args : Array Value) (w : World) : (callFunc 64 args).run Tryz.prog w = .ok (.enter 64 args) w := enters_of Tryz.func64 (by kernel_rfl) rfl args w
theorem rise_szU {ns : List ByteArray} (h : riseB ns = true) {nm : ByteArray} (hm : nm ∈ ns) : nm.size ≤ 8 := by
  obtain ⟨i, hi, rfl⟩ := List.mem_iff_getElem.1 hm
  unfold riseB at h
  rw [List.all_eq_true] at h
  have hg := h i (List.mem_range.2 hi)
  unfold good at hg
  rw [Bool.and_eq_true, getD_lt _ _ hi] at hg
  have := hg.1
  unfold nameOkB at this
  simp only [Bool.and_eq_true, decide_eq_true_eq] at this
  exact this.1.1.2
/-- What came of a pair, in a closure that widens by it. -/
theorem InBox.pfr {GW : Kd → Kd → (Nat → Prop) → World → Value → Prop} {n m : Nat} {a b ka kb : Kd} {T f : Nat} {w w' : World} {e : Ending} (hp : pF m a b = pF n ka kb) (hent : ent T a.sort.toNat b.sort.toNat ≠ .nilFunc)
    (hG : ∀ B fv, New w w' B → w'.cell? ⟨B, 0, none⟩ = some fv → (∃ f b c, fv = .func f b c) → GW ka kb (New w w') w' fv → GW a b (New w w') w' (.func (.func f) #[] #[.pointer (some ⟨B, 0, none⟩)]))
    (h : InBox f (PFR GW n ka kb T) w w' e) : ∃ fv er, e = .returned (.tuple #[fv, er]) ∧ PFR GW m a b T (New w w') w' fv er := by
  obtain ⟨fv, er, B, rfl, ⟨hpr, -⟩, hc, h1, h2⟩ := h
  refine ⟨_, _, rfl, ?_, fun h => absurd h hent, fun _ => ⟨_, _, _, rfl⟩⟩
  rcases hpr with ⟨hg, he, hf, hgw⟩ | ⟨hg, -, he⟩
  · exact Or.inl ⟨hp.trans hg, he, ⟨_, _, _, rfl⟩, hG B fv ⟨h1, h2⟩ hc hf hgw⟩
  · exact Or.inr ⟨hp.trans hg, Or.inr ⟨_, _, _, rfl⟩, he⟩
theorem pF_fit {n : Nat} {a b : Kd} (ha : a.sort ≠ 0) (hb : b.sort ≠ 0) : pF n a b = fitF n a b := by unfold pF; rw [if_neg ha, if_neg hb]
theorem pair_no {GW : Kd → Kd → (Nat → Prop) → World → Value → Prop} (n : Nat) (a b : Kd) (sa sb : Nat) (hsa : a.sort = (sa : Int)) (hsb : b.sort = (sb : Int)) (ha6 : sa ≤ 6) (hb6 : sb ≤ 6) (hno : ¬ (sb = 6 ∨ (sa = sb ∧ sa ≠ 0))) (hp : pF n a b = false) (a1 a2 b1 b2 : Option Addr) (p1 p2 q1 q2 : Nat) (w : World) (T : Nat) (path : ByteArray) (hT : WT w T) :
    Calls Tryz.prog 66 #[.pointer (some ⟨T, 0, none⟩), .agg #[.int .i64 a.sort, .slice a1 a.names.length p1, .slice a2 a.kids.length p2], .agg #[.int .i64 b.sort, .slice b1 b.names.length q1, .slice b2 b.kids.length q2], .string path] w fun e w' => Below w.heap.size w w' ∧ ∃ fv er, e = .returned (.tuple #[fv, er]) ∧ PFR GW n a b T (New w w') w' fv er := by
  rw [hsa, hsb]
  refine (ofPair_no T sa sb ha6 hb6 (ent_nil T sa sb ha6 hb6 hno) a1 a2 b1 b2 _ _ p1 p2 _ _ q1 q2 path w hT).mono fun e w' ⟨h1, h2⟩ => ⟨h1, _, _, h2, Or.inr ⟨hp, Or.inl rfl, _, _, _, rfl⟩, fun _ => rfl, fun h => absurd ?_ h⟩
  rw [hsa, hsb]
  exact ent_nil T sa sb ha6 hb6 hno
theorem pair_do {GW : Kd → Kd → (Nat → Prop) → World → Value → Prop} (HG : GLaws GW) (n : Nat) (a b : Kd) (sa sb f : Nat) (hsa : a.sort = (sa : Int)) (hsb : b.sort = (sb : Int)) (ha6 : sa ≤ 6) (hb6 : sb ≤ 6) (T : Nat) (hent : ent T sa sb = wv T f) (hcall : ∀ args w, (callFunc f args).run Tryz.prog w = .ok (.enter f args) w) (a1 a2 b1 b2 : Option Addr) (p1 p2 q1 q2 : Nat) (w : World) (path : ByteArray) (hT : WT w T)
    (hf : ∀ W, Below w.heap.size w W → Calls Tryz.prog f #[.pointer (some ⟨T, 0, none⟩), .agg #[.int .i64 a.sort, .slice a1 a.names.length p1, .slice a2 a.kids.length p2], .agg #[.int .i64 b.sort, .slice b1 b.names.length q1, .slice b2 b.kids.length q2], .string path] W fun e w' => Below W.heap.size W w' ∧ ∃ fv er, e = .returned (.tuple #[fv, er]) ∧ PFR GW n a b T (New W w') w' fv er) :
    Calls Tryz.prog 66 #[.pointer (some ⟨T, 0, none⟩), .agg #[.int .i64 a.sort, .slice a1 a.names.length p1, .slice a2 a.kids.length p2], .agg #[.int .i64 b.sort, .slice b1 b.names.length q1, .slice b2 b.kids.length q2], .string path] w fun e w' => Below w.heap.size w w' ∧ ∃ fv er, e = .returned (.tuple #[fv, er]) ∧ PFR GW n a b T (New w w') w' fv er := by
  rw [hsa, hsb] at hf ⊢
  exact ofPair_do T sa sb f ha6 hb6 hent hcall a1 a2 b1 b2 _ _ p1 p2 _ _ q1 q2 path w hT (PFR GW n a b T) (PFR.on HG) hf
theorem ent_ne {a b : Kd} {sa sb T f : Nat} (hsa : a.sort = (sa : Int)) (hsb : b.sort = (sb : Int)) (h : ent T sa sb = wv T f) : ent T a.sort.toNat b.sort.toNat ≠ .nilFunc := by
  rw [hsa, hsb]
  exact ent_some T sa sb f h
theorem szP1 {p : ByteArray} {k m : Nat} (c : UInt8) (h : p.size + (m + 1) * 100 ≤ k) : (p ++ (⟨#[c]⟩ : ByteArray)).size + m * 100 ≤ k := by
  have z1 : (⟨#[c]⟩ : ByteArray).size = 1 := rfl
  rw [ByteArray.size_append]; omega
theorem szP3 {p nm : ByteArray} {k m : Nat} (h : p.size + (m + 1) * 100 ≤ k) (h2 : nm.size ≤ 8) : (p ++ (⟨#[123]⟩ : ByteArray) ++ nm ++ (⟨#[58]⟩ : ByteArray)).size + m * 100 ≤ k := by
  have z1 : (⟨#[123]⟩ : ByteArray).size = 1 := rfl
  have z2 : (⟨#[58]⟩ : ByteArray).size = 1 := rfl
  rw [ByteArray.size_append, ByteArray.size_append, ByteArray.size_append]; omega
theorem kidZ_sz {k : Kd} (hk : ksz k ≤ 40) (nm : ByteArray) : ksz (kidZ k nm) ≤ 40 := by
  unfold kidZ kidN
  split
  · rw [Option.getD_some, List.getD_eq_getElem?_getD]
    cases h : k.kids[plN k.names nm]? with
    | none => rw [Option.getD_none]; decide
    | some x =>
      rw [Option.getD_some]
      have := ksz_kid (List.mem_of_getElem? h)
      omega
  · decide
theorem kidZ_lt {k : Kd} {n : Nat} (hk : ksz k ≤ n + 1) (nm : ByteArray) (h0 : (kidZ k nm).sort ≠ 0) : ksz (kidZ k nm) ≤ n := by
  unfold kidZ kidN at h0 ⊢
  split at h0
  · next hp =>
    rw [if_pos hp]
    rw [Option.getD_some, List.getD_eq_getElem?_getD] at h0 ⊢
    cases h : k.kids[plN k.names nm]? with
    | none => rw [h, Option.getD_none] at h0; exact absurd rfl h0
    | some x =>
      rw [Option.getD_some]
      have := ksz_kid (List.mem_of_getElem? h)
      omega
  · exact absurd rfl h0
section
variable {GW : Kd → Kd → (Nat → Prop) → World → Value → Prop} (HG : GLaws GW) (n : Nat) (IH : PairSaid GW n) (a b : Kd) (hna : ksz a ≤ 40) (hnb : ksz b ≤ 40) (hn : ksz b ≤ n + 1) (a1 a2 b1 b2 : Option Addr) (p1 p2 q1 q2 : Nat) (w : World) (T : Nat) (path : ByteArray) (hT : WT w T) (hps : path.size + (n + 1) * 100 ≤ 900000)
  (ha : KW w a ⟨.int .i64 a.sort, .slice a1 a.names.length p1, .slice a2 a.kids.length p2⟩) (hb : KW w b ⟨.int .i64 b.sort, .slice b1 b.names.length q1, .slice b2 b.kids.length q2⟩)
include HG IH hna hnb hn hT hps ha hb
theorem pair_each (sf : Nat) (h : (sf = 63 ∧ a.sort = 4 ∧ b.sort = 4) ∨ (sf = 65 ∧ a.sort = 6 ∧ b.sort = 6)) :
    Calls Tryz.prog 66 #[.pointer (some ⟨T, 0, none⟩), .agg #[.int .i64 a.sort, .slice a1 a.names.length p1, .slice a2 a.kids.length p2], .agg #[.int .i64 b.sort, .slice b1 b.names.length q1, .slice b2 b.kids.length q2], .string path] w fun e w' => Below w.heap.size w w' ∧ ∃ fv er, e = .returned (.tuple #[fv, er]) ∧ PFR GW (n + 1) a b T (New w w') w' fv er := by
  have hka : a.kids.length = 1 := by rcases ha.sh with h' | h' | h' <;> omega
  have hkb : b.kids.length = 1 := by rcases hb.sh with h' | h' | h' <;> omega
  obtain ⟨xb, xo, xc, x1, x2, r1, r2, ex, hxl, x0, x3, x4, hx⟩ := ha.kid (i := 0) (by omega)
  obtain ⟨yb, yo, yc, y1, y2, s1, s2, ey, hyl, y0, y3, y4, hy⟩ := hb.kid (i := 0) (by omega)
  simp only [Value.slice.injEq, true_and] at ex ey
  obtain ⟨rfl, rfl⟩ := ex
  obtain ⟨rfl, rfl⟩ := ey
  have hma : a.kids[0]'(by omega) ∈ a.kids := List.getElem_mem _
  have hmb : b.kids[0]'(by omega) ∈ b.kids := List.getElem_mem _
  have hza := ksz_kid hma
  have hzb := ksz_kid hmb
  have hsx : (a.kids[0]'(by omega)).sort ≠ 0 := by rcases hx.sh with h' | h' | h' <;> omega
  have hsy : (b.kids[0]'(by omega)).sort ≠ 0 := by rcases hy.sh with h' | h' | h' <;> omega
  have hp : pF (n + 1) a b = pF n (a.kids[0]'(by omega)) (b.kids[0]'(by omega)) := by
    rw [pF_fit hsx hsy, pF_fit (by omega) (by omega)]
    rcases h with h | h
    · exact fit_ll h.2.2 h.2.1 _ _
    · exact fit_mm h.2.2 h.2.1 _ _
  have hps2 : path.size ≤ 1000000 := by omega
  have hoka := ha.ok
  have hokb := hb.ok
  rcases h with ⟨rfl, h4, h5⟩ | ⟨rfl, h4, h5⟩
  · have hent : ent T 4 4 = wv T 63 := rfl
    refine pair_do HG (n + 1) a b 4 4 63 h4 h5 (by omega) (by omega) T hent enList _ _ _ _ _ _ _ _ w path hT fun W hW => ?_
    rw [hka, hkb]
    refine (ofList_walk T a.sort b.sort a1 b1 a.names.length p1 p2 b.names.length q1 q2 xb xo yb yo _ _ x1 x2 y1 y2 _ _ r1 r2 _ _ s1 s2 path W (PFR GW n (a.kids[0]'(by omega)) (b.kids[0]'(by omega)) T) (by rw [hW.cell hxl]; exact x0) (by rw [hW.cell hxl]; exact x3) (by rw [hW.cell hxl]; exact x4) (Nat.lt_of_lt_of_le hxl hW.size) (by rw [hW.cell hyl]; exact y0) (by rw [hW.cell hyl]; exact y3) (by rw [hW.cell hyl]; exact y4) (Nat.lt_of_lt_of_le hyl hW.size) hps2 (fun V hV => ?_) (fun P W fv er h => h.1.fn) (PFR.on HG)).mono fun e w' ⟨h6, h7⟩ => ⟨h6, ?_⟩
    · have hwV : Below w.heap.size w V := hW.trans (hV.mono hW.size)
      exact IH _ _ (fun _ => by omega) (by omega) (by omega) ⟨_, _, _⟩ ⟨_, _, _⟩ V T _ (hT.on hwV) (Or.inl (hx.on hwV)) (Or.inl (hy.on hwV)) (szP1 _ hps)
    · exact h7.pfr hp (ent_ne h4 h5 hent) (fun B fv h8 h9 h10 h11 => HG.each a b _ _ B fv (Or.inl ⟨h4, h5⟩) (by omega) (by omega) hoka hokb h8 h9 h10 h11)
  · have hent : ent T 6 6 = wv T 65 := rfl
    refine pair_do HG (n + 1) a b 6 6 65 h4 h5 (by omega) (by omega) T hent enMaybe _ _ _ _ _ _ _ _ w path hT fun W hW => ?_
    rw [hka, hkb]
    refine (ofMaybe_walk T a.sort b.sort a1 b1 a.names.length p1 p2 b.names.length q1 q2 xb xo yb yo _ _ x1 x2 y1 y2 _ _ r1 r2 _ _ s1 s2 path W (PFR GW n (a.kids[0]'(by omega)) (b.kids[0]'(by omega)) T) (by rw [hW.cell hxl]; exact x0) (by rw [hW.cell hxl]; exact x3) (by rw [hW.cell hxl]; exact x4) (Nat.lt_of_lt_of_le hxl hW.size) (by rw [hW.cell hyl]; exact y0) (by rw [hW.cell hyl]; exact y3) (by rw [hW.cell hyl]; exact y4) (Nat.lt_of_lt_of_le hyl hW.size) hps2 (fun V hV => ?_) (fun P W fv er h => h.1.fn) (PFR.on HG)).mono fun e w' ⟨h6, h7⟩ => ⟨h6, ?_⟩
    · have hwV : Below w.heap.size w V := hW.trans (hV.mono hW.size)
      exact IH _ _ (fun _ => by omega) (by omega) (by omega) ⟨_, _, _⟩ ⟨_, _, _⟩ V T _ (hT.on hwV) (Or.inl (hx.on hwV)) (Or.inl (hy.on hwV)) (szP1 _ hps)
    · exact h7.pfr hp (ent_ne h4 h5 hent) (fun B fv h8 h9 h10 h11 => HG.each a b _ _ B fv (Or.inr ⟨h4, h5⟩) (by omega) (by omega) hoka hokb h8 h9 h10 h11)
end
end Go.Proofs.YtenpghndgdemnaaGreatDoor

/- The program's ofForms at the table of joins, and ofPair whatever the two schemas. Conditions: the schemas are ok (or nothing), of at most 40 parts; the path is not too long. -/

namespace Go.Proofs.YtenpghndgdemnaaGreatDoor
open Go Go.RowKit

noncomputable def jrOOps : Array Oper := fops Tryz.f53 1
theorem jrO_neat : Region.noSelect jrOOps = true ∧ neat jrOOps = true := ⟨by kernel_rfl, by kernel_rfl⟩
set_option maxRecDepth 100000 in
set_option maxHeartbeats 6400000 in
theorem jrO (T A C R : Nat) (path : ByteArray) (c c2 : C3) (E : World → World → Option Addr → Nat → Nat → Option Addr → Nat → Nat → Value → Prop) (W0 : World) {l : List Value} (Q : Exit → Act → World → Prop) (hQ : ∀ c a d v w, Q (.panic c) (Act.put a d v) w → Q (.panic c) a w) (hA : W0.drew.rowIs A 26 3 (row3 c.c0 c.c1 c.c2)) (hC : W0.drew.rowIs C 26 3 (row3 c2.c0 c2.c1 c2.c2))
    (HK : Calls Tryz.prog 73 #[.pointer (some ⟨T, 0, none⟩), .agg #[c.c0, c.c1, c.c2], .agg #[c2.c0, c2.c1, c2.c2], .string path] W0.drew fun e w' => Below W0.drew.heap.size W0.drew w' ∧ ∃ na nl nc ka kl kc er, e = .returned (.tuple #[.slice na nl nc, .slice ka kl kc, er]) ∧ E W0.drew w' na nl nc ka kl kc er)
    (hl : lookL [(0, .pointer (some ⟨T, 0, none⟩)), (3, .string path), (5, .pointer (some ⟨A, 0, none⟩)), (6, .pointer (some ⟨C, 0, none⟩)), (8, .pointer (some ⟨R, 0, none⟩))] l = (29, ([(0, .pointer (some ⟨T, 0, none⟩)), (3, .string path), (5, .pointer (some ⟨A, 0, none⟩)), (6, .pointer (some ⟨C, 0, none⟩)), (8, .pointer (some ⟨R, 0, none⟩))] : List (Nat × Value)).map (·.2)))
    (hend : ∀ (u : Nat → Value) (W : World) (na ka : Option Addr) (nl nc kl kc : Nat) (er : Value), Below W0.drew.heap.size W0.drew W → E W0.drew W na nl nc ka kl kc er → Q .normal ⟨(frL u 29 [(8, .pointer (some ⟨R, 0, none⟩)), (10, .slice na nl nc), (11, .slice ka kl kc), (12, er)]).toArray, []⟩ W) : (Code.region 1 jrOOps true).wp Tryz.prog Q ⟨l.toArray, []⟩ W0 := by
  obtain ⟨v0, rfl⟩ := look_fr hl
  have hq : NtQ jrOOps Q := ⟨jrO_neat, hQ⟩
  refine T_start (S := fun W => Below W0.drew.heap.size W0.drew W) (by kernel_rfl) (Below.refl _ _) ?_
  clear hl hQ
  generalize W0.drew = B at hA hC HK hend ⊢
  refine T_z hq [0, 1, 2, 5] (by kernel_rfl) ?_
  refine T_a hq [3, 4] (fun w' h => .cons (ldRowJ hA h) (.cons (ldRowJ hC h) Lds.nil)) (by kernel_rfl) ?_
  refine T_fr 14 29 [6, 7, 8, 9, 10, 11, 12, 13] [(8, .pointer (some ⟨R, 0, none⟩)), (16, .pointer (some ⟨T, 0, none⟩)), (17, .agg #[c.c0, c.c1, c.c2]), (18, .agg #[c2.c0, c2.c1, c2.c2]), (19, .string path)] (by kernel_rfl) fun u => ?_
  refine T_one 6 (by kernel_rfl) fun _ => ?_
  refine O_go HK (by kernel_rfl) ?_
  rintro e W1 ⟨hb1, na, nl, nc, ka, kl, kc, er, rfl, hE⟩
  refine ⟨_, rfl, hb1, T_z hq [7, 8, 9, 10, 11, 12, 13] (by kernel_rfl) ?_⟩
  exact T_end 29 [(8, .pointer (some ⟨R, 0, none⟩)), (10, .slice na nl nc), (11, .slice ka kl kc), (12, er)] (by kernel_rfl) (by kernel_rfl) fun _ u => hend u W1 na ka nl nc kl kc er hb1 hE
/-- What comes of two forms. -/
def joF (U : List ByteArray) (oN : ByteArray → Option Kd) : Option Kd := if U.all (fun nm => (oN nm).isSome) = true then some (.mk 5 U (U.map fun nm => (oN nm).getD kd0)) else none
def JoE (c d : C3) (U : List ByteArray) (oN : ByteArray → Option Kd) (V0 V1 : World) (na : Option Addr) (nl nc : Nat) (ka : Option Addr) (kl kc : Nat) (er : Value) : Prop :=
  (U.all (fun nm => (oN nm).isSome) = true ∧ nl = U.length ∧ kl = U.length ∧ er = .nilIface ∧ ∃ xs G N, FjS c d U N na nc oN V0 V1 ka U.length kc xs G) ∨ (U.all (fun nm => (oN nm).isSome) = false ∧ na = none ∧ nl = 0 ∧ nc = 0 ∧ ka = none ∧ kl = 0 ∧ kc = 0 ∧ MisV er)
theorem FjE.jo {c d : C3} {U : List ByteArray} {oN : ByteArray → Option Kd} {w w' : World} {e : Ending} (h : FjE c d U oN w w' e) : ∃ na nl nc ka kl kc er, e = .returned (.tuple #[.slice na nl nc, .slice ka kl kc, er]) ∧ JoE c d U oN w w' na nl nc ka kl kc er := by
  rcases h with ⟨h1, na, nc, ka, kc, xs, G, N, rfl, h2⟩ | ⟨h1, x, y, p, rfl⟩
  · exact ⟨na, _, nc, ka, _, kc, _, rfl, Or.inl ⟨h1, rfl, rfl, rfl, xs, G, N, h2⟩⟩
  · exact ⟨none, 0, 0, none, 0, 0, _, rfl, Or.inr ⟨h1, rfl, rfl, rfl, rfl, rfl, rfl, x, y, p, rfl⟩⟩
theorem strs_nil (P : Nat → Prop) (w : World) : StrsAt P w (.slice none 0 0) [] := ⟨none, 0, rfl, by simp, fun i hi => by simp at hi⟩
set_option maxRecDepth 100000 in
set_option maxHeartbeats 6400000 in
theorem ofForms_walk (A B : Kd) (T : Nat) (a1 a2 b1 b2 : Option Addr) (p1 p2 q1 q2 : Nat) (path : ByteArray) (w : World) (oN : ByteArray → Option Kd)
    (hA : KW w A ⟨.int .i64 A.sort, .slice a1 A.names.length p1, .slice a2 A.kids.length p2⟩) (hB : KW w B ⟨.int .i64 B.sort, .slice b1 B.names.length q1, .slice b2 B.kids.length q2⟩) (hsA : A.sort = 5) (hsB : B.sort = 5) (hlA : A.names.length ≤ 1000) (hlB : B.names.length ≤ 1000) (hps : path.size ≤ 1000000) (hnz : ∀ nm, nm ∈ uniN A.names B.names → nm.size ≤ 1000)
    (hcall : ∀ nm, nm ∈ uniN A.names B.names → ∀ W (x y : C3), Below w.heap.size w W → KZ W (kidZ A nm) x → KZ W (kidZ B nm) y → Calls Tryz.prog 55 #[.pointer (some ⟨T, 0, none⟩), .agg #[x.c0, x.c1, x.c2], .agg #[y.c0, y.c1, y.c2], .string (path ++ ⟨#[123]⟩ ++ nm ++ ⟨#[58]⟩)] W (JE (oN nm) W)) :
    Calls Tryz.prog 53 #[.pointer (some ⟨T, 0, none⟩), .agg #[.int .i64 A.sort, .slice a1 A.names.length p1, .slice a2 A.kids.length p2], .agg #[.int .i64 B.sort, .slice b1 B.names.length q1, .slice b2 B.kids.length q2], .string path] w (JE (joF (uniN A.names B.names) oN) w) := by
  have hb3 := B3.start w (.int .i64 A.sort) (.slice a1 A.names.length p1) (.slice a2 A.kids.length p2) (.int .i64 B.sort) (.slice b1 B.names.length q1) (.slice b2 B.kids.length q2)
  have hK : ∀ W, Below w.heap.size w W → Calls Tryz.prog 73 #[.pointer (some ⟨T, 0, none⟩), .agg #[.int .i64 A.sort, .slice a1 A.names.length p1, .slice a2 A.kids.length p2], .agg #[.int .i64 B.sort, .slice b1 B.names.length q1, .slice b2 B.kids.length q2], .string path] W fun e w' => Below W.heap.size W w' ∧ ∃ na nl nc ka kl kc er, e = .returned (.tuple #[.slice na nl nc, .slice ka kl kc, er]) ∧ JoE ⟨.int .i64 A.sort, .slice a1 A.names.length p1, .slice a2 A.kids.length p2⟩ ⟨.int .i64 B.sort, .slice b1 B.names.length q1, .slice b2 B.kids.length q2⟩ (uniN A.names B.names) oN W w' na nl nc ka kl kc er := fun W hW =>
    (ofFieldsJ_walk A B T a1 a2 b1 b2 p1 p2 q1 q2 path W oN (hA.on hW) (hB.on hW) hsA hsB hlA hlB hps hnz (fun nm hm V x y hV hx hy => hcall nm hm V x y (hW.trans (hV.mono hW.size)) hx hy)).mono fun e w' ⟨h1, h2⟩ => ⟨h1, h2.jo⟩
  have hUl : (uniN A.names B.names).length ≤ 2000 := by have := uniN_len A.names B.names; have := uniL_len A.names B.names; omega
  generalize uniN A.names B.names = U at *
  have HK := hide hK; have HNZ := hide hnz; have HUL := hide hUl
  clear hK hcall hnz hA hB hps hUl hsA hsB hlA hlB
  go_enter Tryz.func53, Tryz.ntmps53
  go_upto_region 1 with fail
  generalize (((w.alloc (.cells #[.int .i64 A.sort, .slice a1 A.names.length p1, .slice a2 A.kids.length p2] 26)).alloc (.cells #[.int .i64 B.sort, .slice b1 B.names.length q1, .slice b2 B.kids.length q2] 26)).alloc (.cells #[.int .i64 0, .slice none 0 0, .slice none 0 0] 26)) = W0 at hb3 ⊢
  have hd := hb3.below.drew
  have hsz : W0.drew.heap.size = w.heap.size + 3 := hb3.size
  refine wp_swap (c' := Code.region 1 jrOOps true) (by kernel_rfl) ?_
  refine wp_region_noPanic ?_
  have ha := hb3.a.of_block (w' := W0.drew) rfl
  have hb := hb3.b.of_block (w' := W0.drew) rfl
  have hr := hb3.r.of_block (w' := W0.drew) rfl
  have hk := unhide HK W0.drew hd
  refine jrO T w.heap.size (w.heap.size + 1) (w.heap.size + 1 + 1) path ⟨.int .i64 A.sort, .slice a1 A.names.length p1, .slice a2 A.kids.length p2⟩ ⟨.int .i64 B.sort, .slice b1 B.names.length q1, .slice b2 B.kids.length q2⟩ (fun V0 V1 na nl nc ka kl kc er => JoE ⟨.int .i64 A.sort, .slice a1 A.names.length p1, .slice a2 A.kids.length p2⟩ ⟨.int .i64 B.sort, .slice b1 B.names.length q1, .slice b2 B.kids.length q2⟩ U oN V0 V1 na nl nc ka kl kc er) W0 _ (fun _ _ _ _ _ h => h) ha hb (by with_reducible exact hk) (by kernel_rfl) ?_
  intro u W na ka nl nc kl kc er hW hE
  refine NoPanic.normal ?_
  simp only [frL_eq, frG, List.lookup, Nat.reduceBEq, Nat.reduceAdd, Option.getD_some, Option.getD_none]
  have hWw : Below w.heap.size w W := hd.trans (hW.mono hd.size)
  have hr1 := hr.of_block (hW.block _ hr.lt)
  have hWs := hW.size
  rcases hE with ⟨hall, rfl, rfl, rfl, xs, G, N, hf⟩ | ⟨hall, rfl, rfl, rfl, rfl, rfl, rfl, hmis⟩
  · have hjo : joF U oN = some (.mk 5 U (U.map fun nm => (oN nm).getD kd0)) := if_pos hall
    have hcp := copyNames_any (.slice na U.length nc) U W (P := fun b => w.heap.size + 2 ≤ b ∧ b < W.heap.size) (fun b hb => hb.2) (hf.st.carry (fun _ _ => rfl) (fun b hb => ⟨by have := hb.1; omega, by have := hb.2; have := hf.n1; omega⟩)) (by have := unhide HUL; omega) (fun x hx => by have := unhide HNZ x hx; omega)
    have hn0 := hf.n0
    obtain ⟨F2, hk2, hnd2, hF2, -⟩ := hf.got.done
    have htk : ((U.take U.length).map fun nm => (oN nm).getD kd0) = U.map fun nm => (oN nm).getD kd0 := by rw [List.take_length]
    rw [htk] at hk2
    have HCP := hide hcp
    have HJO := hide hjo
    have HD := hide (show KidsD W (.slice ka U.length kc) (U.map fun nm => (oN nm).getD kd0) F2 ∧ F2.Nodup ∧ ∀ b, b ∈ F2 → w.heap.size + 3 ≤ b ∧ b < W.heap.size from ⟨hk2, hnd2, fun b hb => ⟨by have := (hF2 b hb).1; omega, (hF2 b hb).2⟩⟩)
    have HWW := hide hWw; have HR1 := hide hr1; have HSW := hide (show w.heap.size + 3 ≤ W.heap.size by omega)
    clear hcp hjo hk2 hnd2 hF2 htk hf hWw hr1 hW hk ha hb hr hb3 hd hsz hWs hall HK hn0
    go_wp2_with fail
    refine (unhide HCP).mono ?_
    rintro e W2 ⟨v', F1, rfl, ho1, hnd1, hF1, hb1⟩
    obtain ⟨a', cap', rfl, -⟩ := id ho1
    obtain ⟨hk2, hnd2, hF2⟩ := unhide HD
    have hsw := unhide HSW
    have hJ : JV (joF U oN) (w.heap.size + 3) W2 ⟨.int .i64 5, .slice a' U.length cap', .slice ka U.length kc⟩ .nilIface := by
      rw [unhide HJO]
      have hm : OwnD W2 (.mk 5 U (U.map fun nm => (oN nm).getD kd0)) ⟨.int .i64 5, .slice a' U.length cap', .slice ka U.length kc⟩ (F1 ++ F2) := OwnD.make rfl (show I64 5 from ⟨by decide, by decide⟩) ho1 (by have := hk2.carry (fun b hb => hb1.block b (hF2 b hb).2); simpa [kkids_mk] using this)
      refine Or.inl ⟨_, F1 ++ F2, rfl, rfl, hm, List.nodup_append.2 ⟨hnd1, hnd2, fun a ha b hb e => by have := (hF1 a ha).1; have := (hF2 b hb).2; omega⟩, fun b hb => ?_⟩
      rcases List.mem_append.1 hb with hb | hb
      · have := hF1 b hb; exact ⟨by omega, this.2⟩
      · have := hF2 b hb; have := hb1.size; exact ⟨by omega, by omega⟩
    have hr2 := (unhide HR1).of_block (hb1.block _ (unhide HR1).lt)
    have m0 := hr2.cell (i := 0) (by omega); have m1' := hr2.cell (i := 1) (by omega); have m2' := hr2.cell (i := 2) (by omega); have mf := hr2.frozen
    simp only [row3] at m0 m1' m2'
    have HE := hide (JE.put hJ (any3_mk _ _ _ _ _ _ _) ((unhide HWW).trans (hb1.mono (unhide HWW).size)) (R := w.heap.size + 1 + 1) (by omega) (by omega))
    clear hJ hr2 hk2 hnd2 hF2 ho1 hnd1 hF1 hb1 hsw HD HCP HJO HWW HR1 HSW
    go_wp2_with fail
    refine bodyPost_ret (v := .tuple #[.agg #[.int .i64 5, .slice a' U.length cap', .slice ka U.length kc], .nilIface]) (by simp [results, Tryz.results53, go_sem, m0, m1', m2']) rfl (unhide HE)
  · have hjo : joF U oN = none := by unfold joF; rw [hall]; simp
    have hcp := copyNames_any (.slice none 0 0) [] W (P := fun b => b < W.heap.size) (fun b hb => hb) (strs_nil _ W) (by simp) (fun x hx => by simp at hx)
    obtain ⟨ex, ey, ep, rfl⟩ := hmis
    have HCP := hide hcp
    have HJO := hide hjo
    have HWW := hide hWw; have HR1 := hide hr1; have HSW := hide (show w.heap.size + 3 ≤ W.heap.size by omega)
    clear hcp hjo hWw hr1 hW hk ha hb hr hb3 hd hsz hWs hall HK
    go_wp2_with fail
    refine (unhide HCP).mono ?_
    rintro e W2 ⟨v', F1, rfl, ho1, hnd1, hF1, hb1⟩
    obtain ⟨a', cap', rfl, -⟩ := id ho1
    have hsw := unhide HSW
    have hJ : JV (joF U oN) (w.heap.size + 3) W2 ⟨.int .i64 5, .slice a' ([] : List ByteArray).length cap', .slice none 0 0⟩ (.iface 91 (.agg #[.int .i64 ex, .int .i64 ey, .string ep])) := by
      rw [unhide HJO]
      exact Or.inr ⟨rfl, ex, ey, ep, rfl⟩
    have hr2 := (unhide HR1).of_block (hb1.block _ (unhide HR1).lt)
    have m0 := hr2.cell (i := 0) (by omega); have m1' := hr2.cell (i := 1) (by omega); have m2' := hr2.cell (i := 2) (by omega); have mf := hr2.frozen
    simp only [row3] at m0 m1' m2'
    have HE := hide (JE.put hJ (any3_mk _ _ _ _ _ _ _) ((unhide HWW).trans (hb1.mono (unhide HWW).size)) (R := w.heap.size + 1 + 1) (by omega) (by omega))
    clear hJ hr2 ho1 hnd1 hF1 hb1 hsw HCP HJO HWW HR1 HSW
    go_wp2_with fail
    refine bodyPost_ret (v := .tuple #[.agg #[.int .i64 5, .slice a' ([] : List ByteArray).length cap', .slice none 0 0], .iface 91 (.agg #[.int .i64 ex, .int .i64 ey, .string ep])]) (by simp [results, Tryz.results53, go_sem, m0, m1', m2']) rfl (unhide HE)
end Go.Proofs.YtenpghndgdemnaaGreatDoor
