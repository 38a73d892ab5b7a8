/- The program's ofPair at the table of widenings, whatever the two schemas: a widening if the one fits into the other, else a misfit. Conditions: the schemas are ok (or nothing), of at most 40 parts; the path is not too long. -/
import Derived.Test.YtcpfelaffclalaaGreatDoorPart15
import Derived.Test.YtcpfelaffclalaaGreatDoorPart01
import Derived.Test.YtcpfelaffclalaaGreatDoorRows
import Derived.LaidEql
import Derived.Stop.Asserts
import Derived.RowKitTokens
import Derived.Deep.MidRow
namespace Go.Proofs.YtcpfelaffclalaaGreatDoor
open Go Go.RowKit

/-- What is said of widenings: it holds of those that the six works make. -/
structure GLaws (GW : Kd → Kd → (Nat → Prop) → World → Value → Prop) : Prop where
  on : ∀ a b P Q W W' fv, GW a b P W fv → (∀ x, P x → Q x) → (∀ x, P x → W'.heap[x]? = W.heap[x]?) → GW a b Q W' fv
  zero : ∀ a b P W, a.sort = 0 → b.sort = 6 → GW a b P W (.func (.func 83) #[] #[])
  leaf : ∀ a b P W, a.sort = b.sort → (a.sort = 1 ∨ a.sort = 2 ∨ a.sort = 3) → GW a b P W (.func (.func 84) #[] #[])
  each : ∀ a b P W B fv, ((a.sort = 4 ∧ b.sort = 4) ∨ (a.sort = 6 ∧ b.sort = 6)) → (ha : 0 < a.kids.length) → (hb : 0 < b.kids.length) → okD a = true → okD b = true → P B → W.cell? ⟨B, 0, none⟩ = some fv → (∃ f b c, fv = .func f b c) → GW a.kids[0] b.kids[0] P W fv → GW a b P W (.func (.func 113) #[] #[.pointer (some ⟨B, 0, none⟩)])
  into : ∀ a b P W B fv, b.sort = 6 → a.sort ≠ 6 → a.sort ≠ 0 → (hb : 0 < b.kids.length) → okD a = true → okD b = true → P B → W.cell? ⟨B, 0, none⟩ = some fv → (∃ f b c, fv = .func f b c) → GW a b.kids[0] P W fv → GW a b P W (.func (.func 86) #[] #[.pointer (some ⟨B, 0, none⟩)])
  form : ∀ a b P W g1 g2, a.sort = 5 → b.sort = 5 → a.names.length ≤ 1000 → b.names.length ≤ 1000 → okD a = true → okD b = true → FmG (uniN a.names b.names) (fun nm => GW (kidZ a nm) (kidZ b nm)) P W g1 g2 → GW a b P W (.func (.func 89) #[] #[.pointer (some ⟨g1, 0, none⟩), .pointer (some ⟨g2, 0, none⟩)])
/-- What ofPair gives. -/
def PFR (GW : Kd → Kd → (Nat → Prop) → World → Value → Prop) (n : Nat) (a b : Kd) (T : Nat) (P : Nat → Prop) (W : World) (fv er : Value) : Prop :=
  PR (pF n a b) (GW a b) P W fv er ∧ (ent T a.sort.toNat b.sort.toNat = .nilFunc → fv = .nilFunc) ∧ (ent T a.sort.toNat b.sort.toNat ≠ .nilFunc → ∃ f b c, fv = .func f b c)
theorem PFR.on {GW : Kd → Kd → (Nat → Prop) → World → Value → Prop} (HG : GLaws GW) {n : Nat} {a b : Kd} {T : Nat} (P Q : Nat → Prop) (W W' : World) (fv er : Value) (h : PFR GW n a b T P W fv er) (h1 : ∀ x, P x → Q x) (h2 : ∀ x, P x → W'.heap[x]? = W.heap[x]?) : PFR GW n a b T Q W' fv er :=
  ⟨PR.on (HG.on a b) P Q W W' fv er h.1 h1 h2, h.2⟩
def PairSaid (GW : Kd → Kd → (Nat → Prop) → World → Value → Prop) (n : Nat) : Prop := ∀ (a b : Kd), (b.sort ≠ 0 → ksz b ≤ n) → ksz a ≤ 40 → ksz b ≤ 40 → ∀ (c d : C3) (w : World) (T : Nat) (path : ByteArray), WT w T → KZ w a c → KZ w b d → path.size + n * 100 ≤ 900000 →
    Calls Tryz.prog 58 #[.pointer (some ⟨T, 0, none⟩), .agg #[c.c0, c.c1, c.c2], .agg #[d.c0, d.c1, d.c2], .string path] w fun e w' => Below w.heap.size w w' ∧ ∃ fv er, e = .returned (.tuple #[fv, er]) ∧ PFR GW n a b T (New w w') w' fv er
theorem KZ.sort {w : World} {k : Kd} {c : C3} (h : KZ w k c) : ∃ s : Nat, k.sort = (s : Int) ∧ s ≤ 6 ∧ (s = 0 ↔ k = kd0) ∧ (s ≠ 0 → KW w k c) := by
  rcases h with h | ⟨rfl, rfl⟩
  · refine ⟨k.sort.toNat, ?_, ?_, ⟨fun h0 => ?_, fun h0 => ?_⟩, fun _ => h⟩
    · rcases h.sh with h | h | h <;> omega
    · rcases h.sh with h | h | h <;> omega
    · rcases h.sh with h | h | h <;> omega
    · have hs : k.sort = 0 := by rw [h0]; rfl
      rcases h.sh with h | h | h <;> omega
  · exact ⟨0, rfl, by omega, ⟨fun _ => rfl, fun _ => rfl⟩, fun h => absurd rfl h⟩
theorem ent_nil (T sa sb : Nat) (ha : sa ≤ 6) (hb : sb ≤ 6) (h : ¬ (sb = 6 ∨ (sa = sb ∧ sa ≠ 0))) : ent T sa sb = .nilFunc := by
  rcases (show sa = 0 ∨ sa = 1 ∨ sa = 2 ∨ sa = 3 ∨ sa = 4 ∨ sa = 5 ∨ sa = 6 by omega) with rfl | rfl | rfl | rfl | rfl | rfl | rfl <;>
    rcases (show sb = 0 ∨ sb = 1 ∨ sb = 2 ∨ sb = 3 ∨ sb = 4 ∨ sb = 5 by omega) with rfl | rfl | rfl | rfl | rfl | rfl <;> first | rfl | omega
theorem ent_some (T sa sb f : Nat) (h : ent T sa sb = wv T f) : ent T sa sb ≠ .nilFunc := by rw [h]; intro e; cases e
theorem enNone (args : Array Value) (w : World) : (callFunc 52 args).run Tryz.prog w = .ok (.enter 52 args) w := enters_of Tryz.func52 (by kernel_rfl) rfl args w
theorem enLeaf (args : Array Value) (w : World) : (callFunc 53 args).run Tryz.prog w = .ok (.enter 53 args) w := enters_of Tryz.func53 (by kernel_rfl) rfl args w
theorem enList (args : Array Value) (w : World) : (callFunc 55 args).run Tryz.prog w = .ok (.enter 55 args) w := enters_of Tryz.func55 (by kernel_rfl) rfl args w
theorem enMaybe (args : Array Value) (w : World) : (callFunc 57 args).run Tryz.prog w = .ok (.enter 57 args) w := enters_of Tryz.func57 (by kernel_rfl) rfl args w
theorem enInto (args : Array Value) (w : World) : (callFunc 54 args).run Tryz.prog w = .ok (.enter 54 args) w := enters_of Tryz.func54 (by kernel_rfl) rfl args w
theorem enForm (args : Array Value) (w : World) : (callFunc 56 args).run Tryz.prog w = .ok (.enter 56 args) w := enters_of Tryz.func56 (by kernel_rfl) rfl args w
theorem rise_szU {ns : List ByteArray} (h : riseB ns = true) {nm : ByteArray} (hm : nm ∈ ns) : nm.size ≤ 8 := by
  obtain ⟨i, hi, rfl⟩ := List.mem_iff_getElem.1 hm
  unfold riseB at h
  rw [List.all_eq_true] at h
  have hg := h i (List.mem_range.2 hi)
  unfold good at hg
  rw [Bool.and_eq_true, getD_lt _ _ hi] at hg
  have := hg.1
  unfold nameOkB at this
  simp only [Bool.and_eq_true, decide_eq_true_eq] at this
  exact this.1.1.2
/-- What came of a pair, in a closure that widens by it. -/
theorem InBox.pfr {GW : Kd → Kd → (Nat → Prop) → World → Value → Prop} {n m : Nat} {a b ka kb : Kd} {T f : Nat} {w w' : World} {e : Ending} (hp : pF m a b = pF n ka kb) (hent : ent T a.sort.toNat b.sort.toNat ≠ .nilFunc)
    (hG : ∀ B fv, New w w' B → w'.cell? ⟨B, 0, none⟩ = some fv → (∃ f b c, fv = .func f b c) → GW ka kb (New w w') w' fv → GW a b (New w w') w' (.func (.func f) #[] #[.pointer (some ⟨B, 0, none⟩)]))
    (h : InBox f (PFR GW n ka kb T) w w' e) : ∃ fv er, e = .returned (.tuple #[fv, er]) ∧ PFR GW m a b T (New w w') w' fv er := by
  obtain ⟨fv, er, B, rfl, ⟨hpr, -⟩, hc, h1, h2⟩ := h
  refine ⟨_, _, rfl, ?_, fun h => absurd h hent, fun _ => ⟨_, _, _, rfl⟩⟩
  rcases hpr with ⟨hg, he, hf, hgw⟩ | ⟨hg, -, he⟩
  · exact Or.inl ⟨hp.trans hg, he, ⟨_, _, _, rfl⟩, hG B fv ⟨h1, h2⟩ hc hf hgw⟩
  · exact Or.inr ⟨hp.trans hg, Or.inr ⟨_, _, _, rfl⟩, he⟩
theorem pF_fit {n : Nat} {a b : Kd} (ha : a.sort ≠ 0) (hb : b.sort ≠ 0) : pF n a b = fitF n a b := by unfold pF; rw [if_neg ha, if_neg hb]
theorem pair_no {GW : Kd → Kd → (Nat → Prop) → World → Value → Prop} (n : Nat) (a b : Kd) (sa sb : Nat) (hsa : a.sort = (sa : Int)) (hsb : b.sort = (sb : Int)) (ha6 : sa ≤ 6) (hb6 : sb ≤ 6) (hno : ¬ (sb = 6 ∨ (sa = sb ∧ sa ≠ 0))) (hp : pF n a b = false) (a1 a2 b1 b2 : Option Addr) (p1 p2 q1 q2 : Nat) (w : World) (T : Nat) (path : ByteArray) (hT : WT w T) :
    Calls Tryz.prog 58 #[.pointer (some ⟨T, 0, none⟩), .agg #[.int .i64 a.sort, .slice a1 a.names.length p1, .slice a2 a.kids.length p2], .agg #[.int .i64 b.sort, .slice b1 b.names.length q1, .slice b2 b.kids.length q2], .string path] w fun e w' => Below w.heap.size w w' ∧ ∃ fv er, e = .returned (.tuple #[fv, er]) ∧ PFR GW n a b T (New w w') w' fv er := by
  rw [hsa, hsb]
  refine (ofPair_no T sa sb ha6 hb6 (ent_nil T sa sb ha6 hb6 hno) a1 a2 b1 b2 _ _ p1 p2 _ _ q1 q2 path w hT).mono fun e w' ⟨h1, h2⟩ => ⟨h1, _, _, h2, Or.inr ⟨hp, Or.inl rfl, _, _, _, rfl⟩, fun _ => rfl, fun h => absurd ?_ h⟩
  rw [hsa, hsb]
  exact ent_nil T sa sb ha6 hb6 hno
theorem pair_do {GW : Kd → Kd → (Nat → Prop) → World → Value → Prop} (HG : GLaws GW) (n : Nat) (a b : Kd) (sa sb f : Nat) (hsa : a.sort = (sa : Int)) (hsb : b.sort = (sb : Int)) (ha6 : sa ≤ 6) (hb6 : sb ≤ 6) (T : Nat) (hent : ent T sa sb = wv T f) (hcall : ∀ args w, (callFunc f args).run Tryz.prog w = .ok (.enter f args) w) (a1 a2 b1 b2 : Option Addr) (p1 p2 q1 q2 : Nat) (w : World) (path : ByteArray) (hT : WT w T)
    (hf : ∀ W, Below w.heap.size w W → Calls Tryz.prog f #[.pointer (some ⟨T, 0, none⟩), .agg #[.int .i64 a.sort, .slice a1 a.names.length p1, .slice a2 a.kids.length p2], .agg #[.int .i64 b.sort, .slice b1 b.names.length q1, .slice b2 b.kids.length q2], .string path] W fun e w' => Below W.heap.size W w' ∧ ∃ fv er, e = .returned (.tuple #[fv, er]) ∧ PFR GW n a b T (New W w') w' fv er) :
    Calls Tryz.prog 58 #[.pointer (some ⟨T, 0, none⟩), .agg #[.int .i64 a.sort, .slice a1 a.names.length p1, .slice a2 a.kids.length p2], .agg #[.int .i64 b.sort, .slice b1 b.names.length q1, .slice b2 b.kids.length q2], .string path] w fun e w' => Below w.heap.size w w' ∧ ∃ fv er, e = .returned (.tuple #[fv, er]) ∧ PFR GW n a b T (New w w') w' fv er := by
  rw [hsa, hsb] at hf ⊢
  exact ofPair_do T sa sb f ha6 hb6 hent hcall a1 a2 b1 b2 _ _ p1 p2 _ _ q1 q2 path w hT (PFR GW n a b T) (PFR.on HG) hf
theorem ent_ne {a b : Kd} {sa sb T f : Nat} (hsa : a.sort = (sa : Int)) (hsb : b.sort = (sb : Int)) (h : ent T sa sb = wv T f) : ent T a.sort.toNat b.sort.toNat ≠ .nilFunc := by
  rw [hsa, hsb]
  exact ent_some T sa sb f h
theorem szP1 {p : ByteArray} {k m : Nat} (c : UInt8) (h : p.size + (m + 1) * 100 ≤ k) : (p ++ (⟨#[c]⟩ : ByteArray)).size + m * 100 ≤ k := by
  have z1 : (⟨#[c]⟩ : ByteArray).size = 1 := rfl
  rw [ByteArray.size_append]; omega
theorem szP3 {p nm : ByteArray} {k m : Nat} (h : p.size + (m + 1) * 100 ≤ k) (h2 : nm.size ≤ 8) : (p ++ (⟨#[123]⟩ : ByteArray) ++ nm ++ (⟨#[58]⟩ : ByteArray)).size + m * 100 ≤ k := by
  have z1 : (⟨#[123]⟩ : ByteArray).size = 1 := rfl
  have z2 : (⟨#[58]⟩ : ByteArray).size = 1 := rfl
  rw [ByteArray.size_append, ByteArray.size_append, ByteArray.size_append]; omega
theorem kidZ_sz {k : Kd} (hk : ksz k ≤ 40) (nm : ByteArray) : ksz (kidZ k nm) ≤ 40 := by
  unfold kidZ kidN
  split
  · rw [Option.getD_some, List.getD_eq_getElem?_getD]
    cases h : k.kids[plN k.names nm]? with
    | none => rw [Option.getD_none]; decide
    | some x =>
      rw [Option.getD_some]
      have := ksz_kid (List.mem_of_getElem? h)
      omega
  · decide
theorem kidZ_lt {k : Kd} {n : Nat} (hk : ksz k ≤ n + 1) (nm : ByteArray) (h0 : (kidZ k nm).sort ≠ 0) : ksz (kidZ k nm) ≤ n := by
  unfold kidZ kidN at h0 ⊢
  split at h0
  · next hp =>
    rw [if_pos hp]
    rw [Option.getD_some, List.getD_eq_getElem?_getD] at h0 ⊢
    cases h : k.kids[plN k.names nm]? with
    | none => rw [h, Option.getD_none] at h0; exact absurd rfl h0
    | some x =>
      rw [Option.getD_some]
      have := ksz_kid (List.mem_of_getElem? h)
      omega
  · exact absurd rfl h0
section
variable {GW : Kd → Kd → (Nat → Prop) → World → Value → Prop} (HG : GLaws GW) (n : Nat) (IH : PairSaid GW n) (a b : Kd) (hna : ksz a ≤ 40) (hnb : ksz b ≤ 40) (hn : ksz b ≤ n + 1) (a1 a2 b1 b2 : Option Addr) (p1 p2 q1 q2 : Nat) (w : World) (T : Nat) (path : ByteArray) (hT : WT w T) (hps : path.size + (n + 1) * 100 ≤ 900000)
  (ha : KW w a ⟨.int .i64 a.sort, .slice a1 a.names.length p1, .slice a2 a.kids.length p2⟩) (hb : KW w b ⟨.int .i64 b.sort, .slice b1 b.names.length q1, .slice b2 b.kids.length q2⟩)
include HG IH hna hnb hn hT hps ha hb
theorem pair_each (sf : Nat) (h : (sf = 55 ∧ a.sort = 4 ∧ b.sort = 4) ∨ (sf = 57 ∧ a.sort = 6 ∧ b.sort = 6)) :
    Calls Tryz.prog 58 #[.pointer (some ⟨T, 0, none⟩), .agg #[.int .i64 a.sort, .slice a1 a.names.length p1, .slice a2 a.kids.length p2], .agg #[.int .i64 b.sort, .slice b1 b.names.length q1, .slice b2 b.kids.length q2], .string path] w fun e w' => Below w.heap.size w w' ∧ ∃ fv er, e = .returned (.tuple #[fv, er]) ∧ PFR GW (n + 1) a b T (New w w') w' fv er := by
  have hka : a.kids.length = 1 := by rcases ha.sh with h' | h' | h' <;> omega
  have hkb : b.kids.length = 1 := by rcases hb.sh with h' | h' | h' <;> omega
  obtain ⟨xb, xo, xc, x1, x2, r1, r2, ex, hxl, x0, x3, x4, hx⟩ := ha.kid (i := 0) (by omega)
  obtain ⟨yb, yo, yc, y1, y2, s1, s2, ey, hyl, y0, y3, y4, hy⟩ := hb.kid (i := 0) (by omega)
  simp only [Value.slice.injEq, true_and] at ex ey
  obtain ⟨rfl, rfl⟩ := ex
  obtain ⟨rfl, rfl⟩ := ey
  have hma : a.kids[0]'(by omega) ∈ a.kids := List.getElem_mem _
  have hmb : b.kids[0]'(by omega) ∈ b.kids := List.getElem_mem _
  have hza := ksz_kid hma
  have hzb := ksz_kid hmb
  have hsx : (a.kids[0]'(by omega)).sort ≠ 0 := by rcases hx.sh with h' | h' | h' <;> omega
  have hsy : (b.kids[0]'(by omega)).sort ≠ 0 := by rcases hy.sh with h' | h' | h' <;> omega
  have hp : pF (n + 1) a b = pF n (a.kids[0]'(by omega)) (b.kids[0]'(by omega)) := by
    rw [pF_fit hsx hsy, pF_fit (by omega) (by omega)]
    rcases h with h | h
    · exact fit_ll h.2.2 h.2.1 _ _
    · exact fit_mm h.2.2 h.2.1 _ _
  have hps2 : path.size ≤ 1000000 := by omega
  have hoka := ha.ok
  have hokb := hb.ok
  rcases h with ⟨rfl, h4, h5⟩ | ⟨rfl, h4, h5⟩
  · have hent : ent T 4 4 = wv T 55 := rfl
    refine pair_do HG (n + 1) a b 4 4 55 h4 h5 (by omega) (by omega) T hent enList _ _ _ _ _ _ _ _ w path hT fun W hW => ?_
    rw [hka, hkb]
    refine (ofList_walk T a.sort b.sort a1 b1 a.names.length p1 p2 b.names.length q1 q2 xb xo yb yo _ _ x1 x2 y1 y2 _ _ r1 r2 _ _ s1 s2 path W (PFR GW n (a.kids[0]'(by omega)) (b.kids[0]'(by omega)) T) (by rw [hW.cell hxl]; exact x0) (by rw [hW.cell hxl]; exact x3) (by rw [hW.cell hxl]; exact x4) (Nat.lt_of_lt_of_le hxl hW.size) (by rw [hW.cell hyl]; exact y0) (by rw [hW.cell hyl]; exact y3) (by rw [hW.cell hyl]; exact y4) (Nat.lt_of_lt_of_le hyl hW.size) hps2 (fun V hV => ?_) (fun P W fv er h => h.1.fn) (PFR.on HG)).mono fun e w' ⟨h6, h7⟩ => ⟨h6, ?_⟩
    · have hwV : Below w.heap.size w V := hW.trans (hV.mono hW.size)
      exact IH _ _ (fun _ => by omega) (by omega) (by omega) ⟨_, _, _⟩ ⟨_, _, _⟩ V T _ (hT.on hwV) (Or.inl (hx.on hwV)) (Or.inl (hy.on hwV)) (szP1 _ hps)
    · exact h7.pfr hp (ent_ne h4 h5 hent) (fun B fv h8 h9 h10 h11 => HG.each a b _ _ B fv (Or.inl ⟨h4, h5⟩) (by omega) (by omega) hoka hokb h8 h9 h10 h11)
  · have hent : ent T 6 6 = wv T 57 := rfl
    refine pair_do HG (n + 1) a b 6 6 57 h4 h5 (by omega) (by omega) T hent enMaybe _ _ _ _ _ _ _ _ w path hT fun W hW => ?_
    rw [hka, hkb]
    refine (ofMaybe_walk T a.sort b.sort a1 b1 a.names.length p1 p2 b.names.length q1 q2 xb xo yb yo _ _ x1 x2 y1 y2 _ _ r1 r2 _ _ s1 s2 path W (PFR GW n (a.kids[0]'(by omega)) (b.kids[0]'(by omega)) T) (by rw [hW.cell hxl]; exact x0) (by rw [hW.cell hxl]; exact x3) (by rw [hW.cell hxl]; exact x4) (Nat.lt_of_lt_of_le hxl hW.size) (by rw [hW.cell hyl]; exact y0) (by rw [hW.cell hyl]; exact y3) (by rw [hW.cell hyl]; exact y4) (Nat.lt_of_lt_of_le hyl hW.size) hps2 (fun V hV => ?_) (fun P W fv er h => h.1.fn) (PFR.on HG)).mono fun e w' ⟨h6, h7⟩ => ⟨h6, ?_⟩
    · have hwV : Below w.heap.size w V := hW.trans (hV.mono hW.size)
      exact IH _ _ (fun _ => by omega) (by omega) (by omega) ⟨_, _, _⟩ ⟨_, _, _⟩ V T _ (hT.on hwV) (Or.inl (hx.on hwV)) (Or.inl (hy.on hwV)) (szP1 _ hps)
    · exact h7.pfr hp (ent_ne h4 h5 hent) (fun B fv h8 h9 h10 h11 => HG.each a b _ _ B fv (Or.inr ⟨h4, h5⟩) (by omega) (by omega) hoka hokb h8 h9 h10 h11)
end
end Go.Proofs.YtcpfelaffclalaaGreatDoor

/- errors.As by its contracts, at the target *misfit: of no error it is false; of a misfit it is true, and the target's variable is set. Conditions: errors.errorType holds the handle of the type error. -/

namespace Go.Proofs.YtcpfelaffclalaaGreatDoor
open Go Go.RowKit Go.Extern.Stop Go.Stop Go.Extern

theorem as_nil (t : Value) (w : World) :
    Calls Tryz.prog 59 #[.nilIface, t] w fun e w' => e = .returned (.bool false) ∧ w' = w := by
  go_enter Tryz.func59, Tryz.ntmps59
  go_wp2
  go_ret
  exact ⟨rfl, rfl⟩
theorem mf_valueOfP (t : Addr) (w : World) : (ReflectliteValue.unpack (.iface 95 (.pointer (some t)))).run Tryz.prog w
    = .ok (.agg #[.pointer (some ⟨2, 95, none⟩), .pointer (some ⟨w.heap.size, 0, none⟩), .int .u64 150]) (w.alloc (.cells #[.pointer (some t)] 95)) := by kernel_rfl
theorem mf_typeP (a : Addr) (w : World) : (ReflectliteValue.methodAny (ReflectliteValue.valueError "reflectlite.Value.Type" 0) (fun t _ _ _ => ReflectliteType.toType t) #[.agg #[.pointer (some ⟨2, 95, none⟩), .pointer (some a), .int .u64 150]]).run Tryz.prog w
    = .ok (.iface 163 (.agg #[.pointer (some ⟨2, 95, none⟩)])) w := by kernel_rfl
theorem mf_methodKind (h : Value) (w : World) : (Go.method 364 163 (.agg #[h]) "Kind").run Tryz.prog w = .ok (178, h) w := by kernel_rfl
theorem mf_kindP (w : World) : ((ReflectliteType.abiMethod fun t => (fun a : Nat => Value.int IntKind.u8 (a : Int)) <$> Rtype.kind t) #[.pointer (some ⟨2, 95, none⟩)]).run Tryz.prog w = .ok (.int .u8 22) w := by kernel_rfl
theorem mf_kindS (w : World) : ((ReflectliteType.abiMethod fun t => (fun a : Nat => Value.int IntKind.u8 (a : Int)) <$> Rtype.kind t) #[.pointer (some ⟨2, 93, none⟩)]).run Tryz.prog w = .ok (.int .u8 25) w := by kernel_rfl
theorem mf_rlm (z : Sem Value) (f : TypeId → Addr → Nat → Nat → Sem Value) (v : Value) :
    ReflectliteValue.method z f #[v] = (do match ← ReflectliteValue.parts v with | none => z | some (t, a, fl) => f t a fl (fl % 32)) := rfl
theorem mf_partsP (a : Addr) (w : World) : (ReflectliteValue.parts (.agg #[.pointer (some ⟨2, 95, none⟩), .pointer (some a), .int .u64 150])).run Tryz.prog w = .ok (some (95, a, 150)) w := by kernel_rfl
theorem mf_isNilP (a p : Addr) (W : World) (ha : W.cell? a = some (.pointer (some p))) :
    (ReflectliteValue.method (ReflectliteValue.valueError "reflectlite.Value.IsNil" 0) ReflectliteValue.isNil #[.agg #[.pointer (some ⟨2, 95, none⟩), .pointer (some a), .int .u64 150]]).run Tryz.prog W = .ok (.bool false) W := by
  rw [mf_rlm]
  simp only [Sem.run_bind, mf_partsP, Result.andThen]
  simp [ReflectliteValue.isNil, loadVar, isAgg, underlying, Tryz.underlying95, ha, Result.andThen]
theorem mf_methodElem (h : Value) (w : World) : (Go.method 364 163 (.agg #[h]) "Elem").run Tryz.prog w = .ok (194, .agg #[h]) w := by kernel_rfl
theorem mf_methodImplements (h : Value) (w : World) : (Go.method 364 163 (.agg #[h]) "Implements").run Tryz.prog w = .ok (195, .agg #[h]) w := by kernel_rfl
theorem mf_methodAssignableTo (h : Value) (w : World) : (Go.method 364 163 (.agg #[h]) "AssignableTo").run Tryz.prog w = .ok (192, .agg #[h]) w := by kernel_rfl
theorem mf_elemP (w : World) : (ReflectliteType.method ReflectliteType.elem #[.agg #[.pointer (some ⟨2, 95, none⟩)]]).run Tryz.prog w = .ok (.iface 163 (.agg #[.pointer (some ⟨2, 93, none⟩)])) w := by kernel_rfl
theorem mf_implementsS (w : World) : (ReflectliteType.relation "Implements" ReflectliteType.implements_ #[.agg #[.pointer (some ⟨2, 93, none⟩)], .iface 163 (.agg #[.pointer (some ⟨2, 89, none⟩)])]).run Tryz.prog w = .ok (.bool true) w := by kernel_rfl
theorem mf_typeOfS (v : Value) (w : World) : (ReflectliteType.typeOf #[.iface 93 v]).run Tryz.prog w = .ok (.iface 163 (.agg #[.pointer (some ⟨2, 93, none⟩)])) w := by kernel_rfl
theorem mf_assignableS (w : World) : (ReflectliteType.relation "AssignableTo" ReflectliteType.assignableTo #[.agg #[.pointer (some ⟨2, 93, none⟩)], .iface 163 (.agg #[.pointer (some ⟨2, 93, none⟩)])]).run Tryz.prog w = .ok (.bool true) w := by kernel_rfl
theorem mf_valueOfS (x y : Int) (p : ByteArray) (w : World) : (ReflectliteValue.unpack (.iface 93 (.agg #[.int .i64 x, .int .i64 y, .string p]))).run Tryz.prog w
    = .ok (.agg #[.pointer (some ⟨2, 93, none⟩), .pointer (some ⟨w.heap.size, 0, none⟩), .int .u64 153]) (w.alloc (.cells #[.int .i64 x, .int .i64 y, .string p] 93)) := by kernel_rfl
theorem mf_elemOfP (w : World) : (Rtype.elem? 95).run Tryz.prog w = .ok (some 93) w := by kernel_rfl
theorem mf_mkS (p : Addr) (w : World) : (ReflectliteValue.mk 93 p ReflectliteValue.flagAddr).run Tryz.prog w = .ok (.agg #[.pointer (some ⟨2, 93, none⟩), .pointer (some p), .int .u64 409]) w := by kernel_rfl
theorem mf_elemV (a p : Addr) (W : World) (ha : W.cell? a = some (.pointer (some p))) :
    (ReflectliteValue.method (ReflectliteValue.valueError "reflectlite.Value.Elem" 0) ReflectliteValue.elem #[.agg #[.pointer (some ⟨2, 95, none⟩), .pointer (some a), .int .u64 150]]).run Tryz.prog W
      = .ok (.agg #[.pointer (some ⟨2, 93, none⟩), .pointer (some p), .int .u64 409]) W := by
  rw [mf_rlm]
  simp only [Sem.run_bind, mf_partsP, Result.andThen]
  simp [ReflectliteValue.elem, loadVar, isAgg, underlying, Tryz.underlying95, ha, Result.andThen, mf_elemOfP, mf_mkS]
theorem mf_partsV (a : Addr) (w : World) : (ReflectliteValue.parts (.agg #[.pointer (some ⟨2, 93, none⟩), .pointer (some a), .int .u64 409])).run Tryz.prog w = .ok (some (93, a, 409)) w := by kernel_rfl
theorem mf_partsS (a : Addr) (w : World) : (ReflectliteValue.parts (.agg #[.pointer (some ⟨2, 93, none⟩), .pointer (some a), .int .u64 153])).run Tryz.prog w = .ok (some (93, a, 153)) w := by kernel_rfl
theorem mf_direct (w : World) : (Rtype.directlyAssignable 93 93).run Tryz.prog w = .ok true w := by kernel_rfl
theorem mf_size : (Tryz.prog.info? 93).map (·.size) = some 3 := by kernel_rfl
/-- The target's variable gets what the copy holds. -/
theorem mf_set (t b : Nat) (x y : Int) (p : ByteArray) (W : World) (hb : W.rangeAt b 0 [.int .i64 x, .int .i64 y, .string p]) (ht : W.there t 0 3) :
    (ReflectliteValue.set #[.agg #[.pointer (some ⟨2, 93, none⟩), .pointer (some ⟨t, 0, none⟩), .int .u64 409], .agg #[.pointer (some ⟨2, 93, none⟩), .pointer (some ⟨b, 0, none⟩), .int .u64 153]]).run Tryz.prog W
      = .ok (.tuple #[]) (W.setCells t 0 [.int .i64 x, .int .i64 y, .string p]) := by
  have h1 := run_loadVar_mid (P := Tryz.prog) W b 0 93 [.int .i64 x, .int .i64 y, .string p] _ hb Tryz.underlying93 rfl mf_size
  have h2 := run_storeVar_mid (P := Tryz.prog) W t 0 93 #[.int .i64 x, .int .i64 y, .string p] ht mf_size (by rw [← Array.all_toList]; rfl)
  delta ReflectliteValue.set
  conv in (ReflectliteValue.set.match_3 _ _ _ _) => whnf
  change ((ReflectliteValue.parts (.agg #[.pointer (some ⟨2, 93, none⟩), .pointer (some ⟨t, 0, none⟩), .int .u64 409])) >>= _).run Tryz.prog W = _
  simp only [Sem.run_bind, mf_partsV, Result.andThen, Array.getLit]
  simp only [ReflectliteValue.flagAddr]
  simp [Sem.run_bind, Result.andThen, h1, mf_direct, h2, mf_partsS]
theorem thr_alloc {w : World} {b o n : Nat} (h : w.there b o n) (ob : Obj) : (w.alloc ob).there b o n := World.there_alloc h ob
set_option maxHeartbeats 4000000 in
theorem as_hit (x y : Int) (p : ByteArray) (t : Nat) (w : World) (hg : w.cell? ⟨0, 0, none⟩ = some (.iface 163 (.agg #[.pointer (some ⟨2, 89, none⟩)]))) (ht : w.there t 0 3) :
    Calls Tryz.prog 59 #[.iface 93 (.agg #[.int .i64 x, .int .i64 y, .string p]), .iface 95 (.pointer (some ⟨t, 0, none⟩))] w fun e w' => e = .returned (.bool true) ∧ But t w w' := by
  have h1 := @run_callFunc_extern Tryz.prog 92 _ (fun args => ReflectliteValue.unpack (args.getD 0 (.tuple #[]))) Tryz.func92 (by kernel_rfl) (by kernel_rfl) (by kernel_rfl) (by kernel_rfl)
  have h2 := @run_callFunc_extern Tryz.prog 93 _ (ReflectliteValue.methodAny (ReflectliteValue.valueError "reflectlite.Value.Type" 0) (fun t _ _ _ => ReflectliteType.toType t)) Tryz.func93 (by kernel_rfl) (by kernel_rfl) (by kernel_rfl) (by kernel_rfl)
  have h3 := @run_callFunc_extern Tryz.prog 94 _ (ReflectliteValue.method (ReflectliteValue.valueError "reflectlite.Value.IsNil" 0) ReflectliteValue.isNil) Tryz.func94 (by kernel_rfl) (by kernel_rfl) (by kernel_rfl) (by kernel_rfl)
  have h4 := @run_callFunc_extern Tryz.prog 178 _ (ReflectliteType.abiMethod fun t => do pure (.int .u8 (← Rtype.kind t))) Tryz.func178 (by kernel_rfl) (by kernel_rfl) (by kernel_rfl) (by kernel_rfl)
  have h5 := @run_callFunc_extern Tryz.prog 194 _ (ReflectliteType.method ReflectliteType.elem) Tryz.func194 (by kernel_rfl) (by kernel_rfl) (by kernel_rfl) (by kernel_rfl)
  have h6 := @run_callFunc_extern Tryz.prog 195 _ (ReflectliteType.relation "Implements" ReflectliteType.implements_) Tryz.func195 (by kernel_rfl) (by kernel_rfl) (by kernel_rfl) (by kernel_rfl)
  have h7 := @run_callFunc_extern Tryz.prog 117 _ ReflectliteType.typeOf Tryz.func117 (by kernel_rfl) (by kernel_rfl) (by kernel_rfl) (by kernel_rfl)
  have h8 := @run_callFunc_extern Tryz.prog 192 _ (ReflectliteType.relation "AssignableTo" ReflectliteType.assignableTo) Tryz.func192 (by kernel_rfl) (by kernel_rfl) (by kernel_rfl) (by kernel_rfl)
  have h9 := @run_callFunc_extern Tryz.prog 118 _ (ReflectliteValue.method (ReflectliteValue.valueError "reflectlite.Value.Elem" 0) ReflectliteValue.elem) Tryz.func118 (by kernel_rfl) (by kernel_rfl) (by kernel_rfl) (by kernel_rfl)
  have h10 := @run_callFunc_extern Tryz.prog 119 _ ReflectliteValue.set Tryz.func119 (by kernel_rfl) (by kernel_rfl) (by kernel_rfl) (by kernel_rfl)
  have f1 := mf_valueOfP; have f2 := mf_typeP; have f3 := mf_methodKind; have f4 := mf_kindP; have f5 := mf_kindS; have f6 := mf_methodElem; have f7 := mf_methodImplements; have f8 := mf_methodAssignableTo
  have f9 := mf_elemP; have f10 := mf_implementsS; have f11 := mf_typeOfS; have f12 := mf_assignableS; have f13 := mf_valueOfS
  have hlt : 0 < w.heap.size := by
    rcases Nat.lt_or_ge 0 w.heap.size with h | h
    · exact h
    · simp [World.cell?, Array.getElem?_eq_none h] at hg
  have htl : t < w.heap.size := by
    rcases Nat.lt_or_ge t w.heap.size with h | h
    · exact h
    · have := (ht 0 (by omega)).1; simp [World.cell?, Array.getElem?_eq_none h] at this
  have n8 := mf_isNilP ⟨w.heap.size, 0, none⟩ ⟨t, 0, none⟩ ((w.alloc (.cells #[.pointer (some ⟨t, 0, none⟩)] 95)).alloc (.cells #[.pointer (some ⟨2, 95, none⟩), .pointer (some ⟨w.heap.size, 0, none⟩), .int .u64 150] 133)) (by simp)
  have hg2 : ((w.alloc (.cells #[.pointer (some ⟨t, 0, none⟩)] 95)).alloc (.cells #[.pointer (some ⟨2, 95, none⟩), .pointer (some ⟨w.heap.size, 0, none⟩), .int .u64 150] 133)).cell? ⟨0, 0, none⟩ = some (.iface 163 (.agg #[.pointer (some ⟨2, 89, none⟩)])) := by
    rw [World.cell?_alloc_lt _ _ ⟨0, 0, none⟩ (by simp <;> omega), World.cell?_alloc_lt _ _ ⟨0, 0, none⟩ hlt]; exact hg
  have el := mf_elemV ⟨w.heap.size, 0, none⟩ ⟨t, 0, none⟩ (((w.alloc (.cells #[.pointer (some ⟨t, 0, none⟩)] 95)).alloc (.cells #[.pointer (some ⟨2, 95, none⟩), .pointer (some ⟨w.heap.size, 0, none⟩), .int .u64 150] 133)).alloc (.cells #[.pointer (some ⟨2, 95, none⟩), .pointer (some ⟨w.heap.size, 0, none⟩), .int .u64 150] 133)) (by rw [World.cell?_alloc_lt _ _ ⟨w.heap.size, 0, none⟩ (by simp; omega)]; simp)
  have st := mf_set t (w.heap.size + 1 + 1 + 1) x y p ((((w.alloc (.cells #[.pointer (some ⟨t, 0, none⟩)] 95)).alloc (.cells #[.pointer (some ⟨2, 95, none⟩), .pointer (some ⟨w.heap.size, 0, none⟩), .int .u64 150] 133)).alloc (.cells #[.pointer (some ⟨2, 95, none⟩), .pointer (some ⟨w.heap.size, 0, none⟩), .int .u64 150] 133)).alloc (.cells #[.int .i64 x, .int .i64 y, .string p] 93))
    (fun j v hv => by
      match j, hv with
      | 0, hv => rw [World.cell?_alloc_at _ _ _ _ (by simp)]; exact hv
      | 1, hv => rw [World.cell?_alloc_at _ _ _ _ (by simp)]; exact hv
      | 2, hv => rw [World.cell?_alloc_at _ _ _ _ (by simp)]; exact hv)
    (thr_alloc (thr_alloc (thr_alloc (thr_alloc ht _) _) _) _)
  clear ht hlt hg
  have HTL := hide htl
  clear htl
  go_enter Tryz.func59, Tryz.ntmps59
  go_wp2
  refine wp_loop_rounds 1 ?_
  rw [rounds_succ]
  go_wp2
  go_ret
  refine ⟨rfl, ?_⟩
  refine But.trans (b := (((w.alloc (.cells #[.pointer (some ⟨t, 0, none⟩)] 95)).alloc (.cells #[.pointer (some ⟨2, 95, none⟩), .pointer (some ⟨w.heap.size, 0, none⟩), .int .u64 150] 133)).alloc (.cells #[.pointer (some ⟨2, 95, none⟩), .pointer (some ⟨w.heap.size, 0, none⟩), .int .u64 150] 133)).alloc (.cells #[.int .i64 x, .int .i64 y, .string p] 93)) ?_ ?_
  · exact (((But.alloc _ _ _).trans (But.alloc _ _ _)).trans (But.alloc _ _ _)).trans (But.alloc _ _ _)
  · exact ((But.set _ _ _).trans (But.set _ _ _)).trans (But.set _ _ _)
end Go.Proofs.YtcpfelaffclalaaGreatDoor
