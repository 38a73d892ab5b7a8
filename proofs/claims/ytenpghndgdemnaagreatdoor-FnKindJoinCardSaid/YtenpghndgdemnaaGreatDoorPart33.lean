/- The program's ofPair at the table of widenings, whatever the two schemas (the other sorts), and ofWhole, KindFits. Conditions: the table of widenings lies in its block. -/
import Derived.Test.YtenpghndgdemnaaGreatDoorPart31
import Derived.Test.YtenpghndgdemnaaGreatDoorPart32
import Derived.Test.YtenpghndgdemnaaGreatDoorPart22
import Derived.Test.YtenpghndgdemnaaGreatDoorPart23
namespace Go.Proofs.YtenpghndgdemnaaGreatDoor
open Go Go.RowKit

theorem ksz_lenU (k : Kd) : k.kids.length < ksz k := by
  have : ∀ l : List Kd, l.length ≤ klsz l := fun l => by
    induction l with
    | nil => simp
    | cons a r ih =>
      obtain ⟨s, ns, ks⟩ := a
      rw [klsz, ksz, List.length_cons]
      omega
  obtain ⟨s, ns, ks⟩ := k
  have := this ks
  rw [ksz]
  show ks.length < _
  omega
theorem fit_leaf {n : Nat} {a b : Kd} (hb : b.sort ≠ 6) (h : a.sort = b.sort) (h4 : a.sort ≠ 4) (hna : a.names.length = 0) (hnb : b.names.length = 0) : fitF (n + 1) a b = true := by
  rw [fit_eq hb h h4, hna, hnb]
  rfl
section
variable {GW : Kd → Kd → (Nat → Prop) → World → Value → Prop} (HG : GLaws GW) (n : Nat) (IH : PairSaid GW n) (a b : Kd) (hna : ksz a ≤ 40) (hnb : ksz b ≤ 40) (hn : ksz b ≤ n + 1) (a1 a2 b1 b2 : Option Addr) (p1 p2 q1 q2 : Nat) (w : World) (T : Nat) (path : ByteArray) (hT : WT w T) (hps : path.size + (n + 1) * 100 ≤ 900000)
  (ha : KW w a ⟨.int .i64 a.sort, .slice a1 a.names.length p1, .slice a2 a.kids.length p2⟩) (hb : KW w b ⟨.int .i64 b.sort, .slice b1 b.names.length q1, .slice b2 b.kids.length q2⟩)
include HG IH hna hnb hn hT hps ha hb
theorem pair_into (sa : Nat) (hsa : a.sort = (sa : Int)) (h0 : sa ≠ 0) (h6 : sa ≤ 5) (h5 : b.sort = 6) :
    Calls Tryz.prog 66 #[.pointer (some ⟨T, 0, none⟩), .agg #[.int .i64 a.sort, .slice a1 a.names.length p1, .slice a2 a.kids.length p2], .agg #[.int .i64 b.sort, .slice b1 b.names.length q1, .slice b2 b.kids.length q2], .string path] w fun e w' => Below w.heap.size w w' ∧ ∃ fv er, e = .returned (.tuple #[fv, er]) ∧ PFR GW (n + 1) a b T (New w w') w' fv er := by
  have hkb : b.kids.length = 1 := by rcases hb.sh with h' | h' | h' <;> omega
  obtain ⟨yb, yo, yc, y1, y2, s1, s2, ey, hyl, y0, y3, y4, hy⟩ := hb.kid (i := 0) (by omega)
  simp only [Value.slice.injEq, true_and] at ey
  obtain ⟨rfl, rfl⟩ := ey
  have hmb : b.kids[0]'(by omega) ∈ b.kids := List.getElem_mem _
  have hzb := ksz_kid hmb
  have hsy : (b.kids[0]'(by omega)).sort ≠ 0 := by rcases hy.sh with h' | h' | h' <;> omega
  have hp : pF (n + 1) a b = pF n a (b.kids[0]'(by omega)) := by
    rw [pF_fit (by omega) hsy, pF_fit (by omega) (by omega)]
    exact fit_xm h5 (by omega) _
  have hps2 : path.size ≤ 1000000 := by omega
  have hoka := ha.ok
  have hokb := hb.ok
  have hent : ent T sa 6 = wv T 62 := by
    rcases (show sa = 1 ∨ sa = 2 ∨ sa = 3 ∨ sa = 4 ∨ sa = 5 by omega) with rfl | rfl | rfl | rfl | rfl <;> rfl
  refine pair_do HG (n + 1) a b sa 6 62 hsa h5 (by omega) (by omega) T hent enInto _ _ _ _ _ _ _ _ w path hT fun W hW => ?_
  rw [hkb]
  have hIH : ∀ V, Below W.heap.size W V → Calls Tryz.prog 66 #[.pointer (some ⟨T, 0, none⟩), .agg #[.int .i64 a.sort, .slice a1 a.names.length p1, .slice a2 a.kids.length p2], .agg #[.int .i64 (b.kids[0]'(by omega)).sort, .slice y1 (b.kids[0]'(by omega)).names.length s1, .slice y2 (b.kids[0]'(by omega)).kids.length s2], .string (path ++ ⟨#[63]⟩)] V fun e w' => Below V.heap.size V w' ∧ ∃ fv er, e = .returned (.tuple #[fv, er]) ∧ PFR GW n a (b.kids[0]'(by omega)) T (New V w') w' fv er := fun V hV => by
    have hwV : Below w.heap.size w V := hW.trans (hV.mono hW.size)
    exact IH _ _ (fun _ => by omega) (by omega) (by omega) ⟨_, _, _⟩ ⟨_, _, _⟩ V T _ (hT.on hwV) (Or.inl (ha.on hwV)) (Or.inl (hy.on hwV)) (szP1 _ hps)
  have hbox : ∀ e w', InBox 85 (PFR GW n a (b.kids[0]'(by omega)) T) W w' e → ∃ fv er, e = .returned (.tuple #[fv, er]) ∧ PFR GW (n + 1) a b T (New W w') w' fv er := fun e w' h7 =>
    h7.pfr hp (ent_ne hsa h5 hent) (fun B fv h8 h9 h10 h11 => HG.into a b _ _ B fv h5 (by omega) (by omega) (by omega) hoka hokb h8 h9 h10 h11)
  by_cases hne : ent T a.sort.toNat (b.kids[0]'(by omega)).sort.toNat = .nilFunc
  · refine (intoMaybe_walkN T a.sort b.sort a1 a2 b1 a.names.length a.kids.length p1 p2 b.names.length q1 q2 yb yo _ y1 y2 _ _ s1 s2 path W (PFR GW n a (b.kids[0]'(by omega)) T) (by rw [hW.cell hyl]; exact y0) (by rw [hW.cell hyl]; exact y3) (by rw [hW.cell hyl]; exact y4) (Nat.lt_of_lt_of_le hyl hW.size) hps2 (fun V hV => ?_) (PFR.on HG)).mono fun e w' ⟨h8, h7⟩ => ⟨h8, hbox e w' h7⟩
    refine (hIH V hV).mono fun e w' ⟨k1, fv, er, k2, k3⟩ => ?_
    have k4 := k3.2.1 hne
    subst k4
    exact ⟨k1, er, k2, k3⟩
  · refine (intoMaybe_walkF T a.sort b.sort a1 a2 b1 a.names.length a.kids.length p1 p2 b.names.length q1 q2 yb yo _ y1 y2 _ _ s1 s2 path W (PFR GW n a (b.kids[0]'(by omega)) T) (by rw [hW.cell hyl]; exact y0) (by rw [hW.cell hyl]; exact y3) (by rw [hW.cell hyl]; exact y4) (Nat.lt_of_lt_of_le hyl hW.size) hps2 (fun V hV => ?_) (PFR.on HG)).mono fun e w' ⟨h8, h7⟩ => ⟨h8, hbox e w' h7⟩
    refine (hIH V hV).mono fun e w' ⟨k1, fv, er, k2, k3⟩ => ?_
    obtain ⟨f, bs, cs, k4⟩ := k3.2.2 hne
    subst k4
    exact ⟨k1, f, bs, cs, er, k2, k3⟩
theorem pair_form (h4 : a.sort = 5) (h5 : b.sort = 5) :
    Calls Tryz.prog 66 #[.pointer (some ⟨T, 0, none⟩), .agg #[.int .i64 a.sort, .slice a1 a.names.length p1, .slice a2 a.kids.length p2], .agg #[.int .i64 b.sort, .slice b1 b.names.length q1, .slice b2 b.kids.length q2], .string path] w fun e w' => Below w.heap.size w w' ∧ ∃ fv er, e = .returned (.tuple #[fv, er]) ∧ PFR GW (n + 1) a b T (New w w') w' fv er := by
  obtain ⟨hla, hra⟩ : a.kids.length = a.names.length ∧ riseB a.names = true := by
    rcases ha.sh with h' | h' | h'
    · omega
    · omega
    · exact h'.2
  obtain ⟨hlb, hrb⟩ : b.kids.length = b.names.length ∧ riseB b.names = true := by
    rcases hb.sh with h' | h' | h'
    · omega
    · omega
    · exact h'.2
  have hza : ∀ k, k ∈ a.kids → k.sort ≠ 0 := fun k hk => by
    obtain ⟨i, hi, rfl⟩ := List.mem_iff_getElem.1 hk
    obtain ⟨_, _, _, _, _, _, _, _, _, _, _, _, hx⟩ := ha.kid hi
    rcases hx.sh with h' | h' | h' <;> omega
  have hzb : ∀ k, k ∈ b.kids → k.sort ≠ 0 := fun k hk => by
    obtain ⟨i, hi, rfl⟩ := List.mem_iff_getElem.1 hk
    obtain ⟨_, _, _, _, _, _, _, _, _, _, _, _, hx⟩ := hb.kid hi
    rcases hx.sh with h' | h' | h' <;> omega
  have hp : pF (n + 1) a b = (uniN a.names b.names).all fun nm => pF n (kidZ a nm) (kidZ b nm) := by
    rw [pF_fit (by omega) (by omega)]
    exact fit_union h4 h5 hla hlb (rise_nodup hra) (rise_nodup hrb) hza hzb _ (fun nm => uniN_mem nm)
  have hnm : ∀ nm, nm ∈ uniN a.names b.names → nm.size ≤ 8 := fun nm hm => by
    rcases (uniN_mem nm).1 hm with h | h
    · exact rise_szU hra h
    · exact rise_szU hrb h
  have hlA : a.names.length ≤ 1000 := by have := ksz_lenU a; omega
  have hlB : b.names.length ≤ 1000 := by have := ksz_lenU b; omega
  have hent : ent T 5 5 = wv T 64 := rfl
  have hoka := ha.ok
  have hokb := hb.ok
  refine pair_do HG (n + 1) a b 5 5 64 h4 h5 (by omega) (by omega) T hent enForm _ _ _ _ _ _ _ _ w path hT fun W hW => ?_
  refine (ofForm_walk a b T a1 a2 b1 b2 p1 p2 q1 q2 path W (fun nm => pF n (kidZ a nm) (kidZ b nm)) (fun nm => GW (kidZ a nm) (kidZ b nm)) (fun nm => HG.on (kidZ a nm) (kidZ b nm)) (ha.on hW) (hb.on hW) h4 h5 hlA hlB (by omega) (fun nm hm => by have := hnm nm hm; omega) (fun nm hm V x y hV hx hy => ?_)).mono fun e w' ⟨h6, h7⟩ => ⟨h6, ?_⟩
  · have hwV : Below w.heap.size w V := hW.trans (hV.mono hW.size)
    exact (IH _ _ (kidZ_lt hn nm) (kidZ_sz hna nm) (kidZ_sz hnb nm) x y V T _ (hT.on hwV) hx hy (szP3 hps (hnm nm hm))).mono fun e w' ⟨k1, fv, er, k2, k3⟩ => ⟨k1, fv, er, k2, k3.1⟩
  · obtain ⟨g1, g2, er, rfl, h8⟩ := h7
    refine ⟨_, _, rfl, ?_, fun h => absurd h (ent_ne h4 h5 hent), fun _ => ⟨_, _, _, rfl⟩⟩
    rcases h8 with ⟨e1, e2, e3⟩ | ⟨e1, e2⟩
    · exact Or.inl ⟨hp.trans e1, e2, ⟨_, _, _, rfl⟩, HG.form a b _ _ g1 g2 h4 h5 hlA hlB hoka hokb e3⟩
    · exact Or.inr ⟨hp.trans e1, Or.inr ⟨_, _, _, rfl⟩, e2⟩
end
theorem pair_leaf {GW : Kd → Kd → (Nat → Prop) → World → Value → Prop} (HG : GLaws GW) (n : Nat) (a b : Kd) (s : Nat) (hsa : a.sort = (s : Int)) (hsb : b.sort = (s : Int)) (h1 : 1 ≤ s) (h3 : s ≤ 3) (hp : pF n a b = true) (a1 a2 b1 b2 : Option Addr) (p1 p2 q1 q2 : Nat) (w : World) (T : Nat) (path : ByteArray) (hT : WT w T) :
    Calls Tryz.prog 66 #[.pointer (some ⟨T, 0, none⟩), .agg #[.int .i64 a.sort, .slice a1 a.names.length p1, .slice a2 a.kids.length p2], .agg #[.int .i64 b.sort, .slice b1 b.names.length q1, .slice b2 b.kids.length q2], .string path] w fun e w' => Below w.heap.size w w' ∧ ∃ fv er, e = .returned (.tuple #[fv, er]) ∧ PFR GW n a b T (New w w') w' fv er := by
  have hent : ent T s s = wv T 61 := by
    rcases (show s = 1 ∨ s = 2 ∨ s = 3 by omega) with rfl | rfl | rfl <;> rfl
  refine pair_do HG n a b s s 61 hsa hsb (by omega) (by omega) T hent enLeaf _ _ _ _ _ _ _ _ w path hT fun W hW => ?_
  exact (ofLeaf_walk T _ _ _ _ _ _ _ _ _ _ _ _ _ _ path W).mono fun e w' ⟨k1, k2⟩ => ⟨k1, _, _, k2, Or.inl ⟨hp, rfl, ⟨_, _, _, rfl⟩, HG.leaf a b _ _ (by omega) (by omega)⟩, fun h => absurd h (ent_ne hsa hsb hent), fun _ => ⟨_, _, _, rfl⟩⟩
theorem pair_none {GW : Kd → Kd → (Nat → Prop) → World → Value → Prop} (HG : GLaws GW) (n : Nat) (a b : Kd) (hsa : a.sort = 0) (hsb : b.sort = 6) (a1 a2 b1 b2 : Option Addr) (p1 p2 q1 q2 : Nat) (w : World) (T : Nat) (path : ByteArray) (hT : WT w T) :
    Calls Tryz.prog 66 #[.pointer (some ⟨T, 0, none⟩), .agg #[.int .i64 a.sort, .slice a1 a.names.length p1, .slice a2 a.kids.length p2], .agg #[.int .i64 b.sort, .slice b1 b.names.length q1, .slice b2 b.kids.length q2], .string path] w fun e w' => Below w.heap.size w w' ∧ ∃ fv er, e = .returned (.tuple #[fv, er]) ∧ PFR GW n a b T (New w w') w' fv er := by
  have hent : ent T 0 6 = wv T 60 := rfl
  have hp : pF n a b = true := by unfold pF; rw [if_pos hsa]; exact decide_eq_true hsb
  refine pair_do HG n a b 0 6 60 hsa hsb (by omega) (by omega) T hent enNone _ _ _ _ _ _ _ _ w path hT fun W hW => ?_
  exact (ofNone_walk T _ _ _ _ _ _ _ _ _ _ _ _ _ _ path W).mono fun e w' ⟨k1, k2⟩ => ⟨k1, _, _, k2, Or.inl ⟨hp, rfl, ⟨_, _, _, rfl⟩, HG.zero a b _ _ hsa hsb⟩, fun h => absurd h (ent_ne (sa := 0) (sb := 6) hsa hsb hent), fun _ => ⟨_, _, _, rfl⟩⟩
theorem pair_step {GW : Kd → Kd → (Nat → Prop) → World → Value → Prop} (HG : GLaws GW) (n : Nat) (IH : ∀ m, n = m + 1 → PairSaid GW m) : PairSaid GW n := by
  intro a b hbn hna hnb c d w T path hT hc hd hps
  obtain ⟨sa, hsa, ha6, ha0, haw⟩ := hc.sort
  obtain ⟨sb, hsb, hb6, hb0, hbw⟩ := hd.sort
  obtain ⟨a1, a2, p1, p2, rfl⟩ := hc.form
  obtain ⟨b1, b2, q1, q2, rfl⟩ := hd.form
  by_cases h0b : sb = 0
  · refine pair_no n a b sa sb hsa hsb ha6 hb6 (by omega) ?_ a1 a2 b1 b2 p1 p2 q1 q2 w T path hT
    unfold pF
    split
    · exact decide_eq_false (by omega)
    · rw [if_pos (by omega)]
  by_cases h0a : sa = 0
  · by_cases h6 : sb = 6
    · exact pair_none HG n a b (by omega) (by omega) a1 a2 b1 b2 p1 p2 q1 q2 w T path hT
    · refine pair_no n a b sa sb hsa hsb ha6 hb6 (by omega) ?_ a1 a2 b1 b2 p1 p2 q1 q2 w T path hT
      unfold pF
      rw [if_pos (by omega)]
      exact decide_eq_false (by omega)
  have ha := haw h0a
  have hb := hbw h0b
  have hkn := hbn (by omega)
  have hpos := ksz_lenU b
  obtain ⟨m, rfl⟩ : ∃ m, n = m + 1 := ⟨n - 1, by omega⟩
  have IHm := IH m rfl
  by_cases h6 : sb = 6
  · by_cases h6a : sa = 6
    · exact pair_each HG m IHm a b hna hnb hkn a1 a2 b1 b2 p1 p2 q1 q2 w T path hT hps ha hb _ (Or.inr ⟨rfl, by omega, by omega⟩)
    · exact pair_into HG m IHm a b hna hnb hkn a1 a2 b1 b2 p1 p2 q1 q2 w T path hT hps ha hb sa hsa h0a (by omega) (by omega)
  by_cases hab : sa = sb
  · subst hab
    by_cases h4 : sa = 4
    · exact pair_each HG m IHm a b hna hnb hkn a1 a2 b1 b2 p1 p2 q1 q2 w T path hT hps ha hb _ (Or.inl ⟨rfl, by omega, by omega⟩)
    by_cases h5 : sa = 5
    · exact pair_form HG m IHm a b hna hnb hkn a1 a2 b1 b2 p1 p2 q1 q2 w T path hT hps ha hb (by omega) (by omega)
    · refine pair_leaf HG (m + 1) a b sa hsa hsb (by omega) (by omega) ?_ a1 a2 b1 b2 p1 p2 q1 q2 w T path hT
      rw [pF_fit (by omega) (by omega)]
      refine fit_leaf (by omega) (by omega) (by omega) ?_ ?_
      · rcases ha.sh with h' | h' | h' <;> omega
      · rcases hb.sh with h' | h' | h' <;> omega
  · refine pair_no (m + 1) a b sa sb hsa hsb ha6 hb6 (by omega) ?_ a1 a2 b1 b2 p1 p2 q1 q2 w T path hT
    rw [pF_fit (by omega) (by omega)]
    exact fit_ne (by omega) (by omega)
theorem pair_all {GW : Kd → Kd → (Nat → Prop) → World → Value → Prop} (HG : GLaws GW) (n : Nat) : PairSaid GW n := by
  induction n with
  | zero => exact pair_step HG 0 (fun m h => by omega)
  | succ n IH =>
    refine pair_step HG (n + 1) (fun m h => ?_)
    obtain rfl : n = m := by omega
    exact IH
end Go.Proofs.YtenpghndgdemnaaGreatDoor

/- The walks of the program's ofWhole at the table of widenings, and of KindFits. Conditions: errors.errorType holds the handle of the type error. -/

namespace Go.Proofs.YtenpghndgdemnaaGreatDoor
open Go Go.RowKit

/-- The library's variable holds the handle of the type error. -/
def ErrT (w : World) : Prop := w.cell? ⟨0, 0, none⟩ = some (.iface 134 (.agg #[.pointer (some ⟨1, 87, none⟩)]))
theorem ErrT.on {w W : World} (h : ErrT w) (hb : Below w.heap.size w W) : ErrT W := by
  unfold ErrT
  rw [World.cell?_of_block (w := w) (hb.block _ (World.block_lt_of_cell? w _ h))]
  exact h
/-- What ofWhole gives. -/
def WhE (GW : Kd → Kd → (Nat → Prop) → World → Value → Prop) (a b : Kd) (w w' : World) (e : Ending) : Prop :=
  ∃ fv, e = .returned (.tuple #[fv, .bool (fitsD a b)]) ∧ (fitsD a b = true → (∃ f b c, fv = .func f b c) ∧ GW a b (New w w') w' fv)
set_option maxRecDepth 100000 in
set_option maxHeartbeats 3200000 in
theorem ofWhole_any {GW : Kd → Kd → (Nat → Prop) → World → Value → Prop} (HG : GLaws GW) (a b : Kd) (P Q : Nat → Prop) (c d : C3) (w : World) (T : Nat) (hT : WT w T) (hE : ErrT w) (hP : ∀ x, P x → x < w.heap.size) (hQ : ∀ x, Q x → x < w.heap.size) (ha : KRep P w a c) (hb : KRep Q w b d) (hwa : wKd a ≤ 1048576) (hwb : wKd b ≤ 1048576) :
    Calls Tryz.prog 29 #[.pointer (some ⟨T, 0, none⟩), .agg #[c.c0, c.c1, c.c2], .agg #[d.c0, d.c1, d.c2]] w fun e w' => Below w.heap.size w w' ∧ WhE GW a b w w' e := by
  have ha' : KRep (fun x => x < w.heap.size) w a c := KRep.carry (fun _ _ => rfl) hP _ _ ha
  have hb' : KRep (fun x => x < w.heap.size) w b d := KRep.carry (fun _ _ => rfl) hQ _ _ hb
  have hca : ∀ W, Below w.heap.size w W → KRep (fun x => x < W.heap.size) W a c := fun W hW => KRep.carry (fun x hx => hW.block x hx) (fun _ hx => Nat.lt_of_lt_of_le hx hW.size) _ _ ha'
  have hcb : ∀ W, Below w.heap.size w W → KRep (fun x => x < W.heap.size) W b d := fun W hW => KRep.carry (fun x hx => hW.block x hx) (fun _ hx => Nat.lt_of_lt_of_le hx hW.size) _ _ hb'
  have HOA : Hid (∀ W, Below w.heap.size w W → Calls Tryz.prog 26 #[.agg #[c.c0, c.c1, c.c2]] W fun e w' => e = .returned (.bool (decide (0 < qT a 1))) ∧ Below W.heap.size W w') := fun W hW => implKindOk_any a _ c W (fun _ h => h) (hca W hW) hwa
  have HOB : Hid (∀ W, Below w.heap.size w W → Calls Tryz.prog 26 #[.agg #[d.c0, d.c1, d.c2]] W fun e w' => e = .returned (.bool (decide (0 < qT b 1))) ∧ Below W.heap.size W w') := fun W hW => implKindOk_any b _ d W (fun _ h => h) (hcb W hW) hwb
  have HF : Hid (∀ W, 0 < qT a 1 → 0 < qT b 1 → Below w.heap.size w W → Calls Tryz.prog 66 #[.pointer (some ⟨T, 0, none⟩), .agg #[c.c0, c.c1, c.c2], .agg #[d.c0, d.c1, d.c2], .string ⟨#[]⟩] W fun e w' => Below W.heap.size W w' ∧ ∃ fv er, e = .returned (.tuple #[fv, er]) ∧ PR (fitF 40 a b) (GW a b) (New W w') w' fv er) := fun W h1 h2 hW => by
    have hKa : KW W a c := ⟨hca W hW, (ok_of_qT h1).1⟩
    have hKb : KW W b d := ⟨hcb W hW, (ok_of_qT h2).1⟩
    refine (pair_all HG 40 a b (fun _ => (ok_of_qT h2).2) (ok_of_qT h1).2 (ok_of_qT h2).2 c d W T ⟨#[]⟩ (hT.on hW) (Or.inl hKa) (Or.inl hKb) (by decide)).mono fun e w' ⟨k1, fv, er, k2, k3⟩ => ⟨k1, fv, er, k2, ?_⟩
    have := k3.1
    rwa [pF_fit (by rcases hKa.sh with h' | h' | h' <;> omega) (by rcases hKb.sh with h' | h' | h' <;> omega)] at this
  have HET : Hid (∀ W, Below w.heap.size w W → ErrT W) := fun W hW => hE.on hW
  obtain ⟨c0, c1, c2⟩ := c
  obtain ⟨d0, d1, d2⟩ := d
  obtain ⟨e0, -, ⟨a3, cap3, e1, -⟩, a4, cap4, e2, -⟩ := ha.open
  obtain ⟨g0, -, ⟨b3, bap3, g1, -⟩, b4, bap4, g2, -⟩ := hb.open
  simp only at e0 e1 e2 g0 g1 g2
  subst e0 e1 e2 g0 g1 g2
  obtain ⟨hra, hrb, hbw⟩ := pr_boxes w a.sort b.sort a3 a4 b3 b4 a.names.length a.kids.length cap3 cap4 b.names.length b.kids.length bap3 bap4
  have x0 := hra.cell (i := 0) (by omega); have x1 := hra.cell (i := 1) (by omega); have x2 := hra.cell (i := 2) (by omega)
  simp only [row3] at x0 x1 x2
  have HRA := hide hra; have HRB := hide hrb; have HBW := hide hbw
  clear hra hrb hbw ha hb ha' hb' hca hcb hP hQ hT hE hwa hwb
  go_enter Tryz.func29, Tryz.ntmps29
  go_wp2_with fail
  generalize ((w.alloc (.cells #[.int .i64 a.sort, .slice a3 a.names.length cap3, .slice a4 a.kids.length cap4] 26)).alloc (.cells #[.int .i64 b.sort, .slice b3 b.names.length bap3, .slice b4 b.kids.length bap4] 26)) = W0 at x0 x1 x2 HRA HRB HBW ⊢
  refine (unhide HOA _ (unhide HBW)).mono ?_
  rintro e W1 ⟨rfl, hb1⟩
  have hbw1 := (unhide HBW).trans (hb1.mono (unhide HBW).size)
  have HRA1 := hide ((unhide HRA).of_block (hb1.block _ (unhide HRA).lt))
  have HRB1 := hide ((unhide HRB).of_block (hb1.block _ (unhide HRB).lt))
  have HB1 := hide hbw1
  clear hb1 hbw1 HRA HRB HBW x0 x1 x2
  by_cases hqa : 0 < qT a 1
  · rw [decide_eq_true hqa]
    have y0 := (unhide HRB1).cell (i := 0) (by omega); have y1 := (unhide HRB1).cell (i := 1) (by omega); have y2 := (unhide HRB1).cell (i := 2) (by omega)
    simp only [row3] at y0 y1 y2
    go_wp2_with fail
    refine (unhide HOB _ (unhide HB1)).mono ?_
    rintro e W2 ⟨rfl, hb2⟩
    have hbw2 := (unhide HB1).trans (hb2.mono (unhide HB1).size)
    have HRA2 := hide ((unhide HRA1).of_block (hb2.block _ (unhide HRA1).lt))
    have HRB2 := hide ((unhide HRB1).of_block (hb2.block _ (unhide HRB1).lt))
    have HB2 := hide hbw2
    clear hb2 hbw2 HRA1 HRB1 HB1 y0 y1 y2
    by_cases hqb : 0 < qT b 1
    · rw [decide_eq_true hqb]
      have HFT := hide (show fitsD a b = fitF 40 a b by unfold fitsD; rw [decide_eq_true hqa, decide_eq_true hqb]; rfl)
      have x0 := (unhide HRA2).cell (i := 0) (by omega); have x1 := (unhide HRA2).cell (i := 1) (by omega); have x2 := (unhide HRA2).cell (i := 2) (by omega)
      have y0 := (unhide HRB2).cell (i := 0) (by omega); have y1 := (unhide HRB2).cell (i := 1) (by omega); have y2 := (unhide HRB2).cell (i := 2) (by omega)
      simp only [row3] at x0 x1 x2 y0 y1 y2
      have HQA := hide hqa; have HQB := hide hqb
      clear hqa hqb
      go_wp2_with fail
      refine (unhide HF _ (unhide HQA) (unhide HQB) (unhide HB2)).mono ?_
      rintro e W3 ⟨hb3, fv, er, rfl, hpr⟩
      have hbw3 := (unhide HB2).trans (hb3.mono (unhide HB2).size)
      have HB3 := hide hbw3
      have HSZ := hide (unhide HB2).size
      clear HRA2 HRB2 HB2 x0 x1 x2 y0 y1 y2 hb3 hbw3
      have HBA := hide ((unhide HB3).alloc (unhide HB3).size (.cells #[.int .i64 0, .int .i64 0, .string ByteArray.empty] 91))
      rcases hpr with ⟨hfy, rfl, ⟨fn, bs, cs, rfl⟩, hgw⟩ | ⟨hfn, -, x, y, p, rfl⟩
      · have HE2 : Hid (fitsD a b = true ∧ GW a b (New w (W3.alloc (.cells #[.int .i64 0, .int .i64 0, .string ByteArray.empty] 91))) (W3.alloc (.cells #[.int .i64 0, .int .i64 0, .string ByteArray.empty] 91)) (.func fn bs cs)) :=
          ⟨(unhide HFT).trans hfy, HG.on a b _ _ _ _ _ hgw (fun z hz => ⟨Nat.le_trans (unhide HSZ) hz.1, by have := hz.2; rw [World.size_alloc]; omega⟩) (fun z hz => Below.heap_alloc _ _ _ hz.2)⟩
        clear hgw hfy HFT HF HOA HOB HB3 HSZ
        go_wp2_with (go_at_call 56; refine (as_nil _ _).mono ?_; rintro e W4 ⟨rfl, hw4⟩; have hw5 := hw4.symm; subst hw5)
        go_ret2
        exact ⟨unhide HBA, .func fn bs cs, (by rw [(unhide HE2).1]; rfl), fun _ => ⟨⟨_, _, _, rfl⟩, (unhide HE2).2⟩⟩
      · have HE2 := hide ((unhide HFT).trans hfn)
        have HTH : Hid ((W3.alloc (.cells #[.int .i64 0, .int .i64 0, .string ByteArray.empty] 91)).there W3.heap.size 0 3) := there3f (row3_alloc W3 _ _ _ _)
        have HEW := hide (unhide HET _ (unhide HBA))
        have HSZ3 := hide (unhide HB3).size
        clear hfn HFT HF HOA HOB HB3 HSZ
        go_wp2_with (go_at_call 56; refine (as_hit x y p W3.heap.size (W3.alloc (.cells #[.int .i64 0, .int .i64 0, .string ByteArray.empty] 91)) (unhide HEW) (unhide HTH)).mono ?_; rintro e W4 ⟨rfl, hw4⟩; have HB4 : Hid (Below w.heap.size w W4) := (unhide HBA).trans ⟨hw4.os, hw4.tape, hw4.output, hw4.size, fun i hi => hw4.at (Nat.lt_of_lt_of_le hi (unhide HBA).size) (Nat.ne_of_lt (Nat.lt_of_lt_of_le hi (unhide HSZ3)))⟩; clear hw4)
        go_ret2
        exact ⟨unhide HB4, .nilFunc, (by rw [unhide HE2]; rfl), fun h => by rw [unhide HE2] at h; cases h⟩
    · rw [decide_eq_false hqb]
      have HFT := hide (show fitsD a b = false by unfold fitsD; rw [decide_eq_false hqb]; simp)
      clear hqa hqb
      go_wp2_with fail
      go_ret2
      exact ⟨unhide HB2, .nilFunc, (by rw [unhide HFT]; rfl), fun h => by rw [unhide HFT] at h; cases h⟩
  · rw [decide_eq_false hqa]
    have HFT := hide (show fitsD a b = false by unfold fitsD; rw [decide_eq_false hqa]; rfl)
    clear hqa
    go_wp2_with fail
    go_ret2
    exact ⟨unhide HB1, .nilFunc, (by rw [unhide HFT]; rfl), fun h => by rw [unhide HFT] at h; cases h⟩
theorem cell_onQ {w w' : World} (hb : Below w.heap.size w w') {a : Addr} {v : Value} (h : w.cell? a = some v) : w'.cell? a = some v := by
  rw [World.cell?_of_block (w := w) (hb.block a.block (World.block_lt_of_cell? w _ h))]
  exact h
/-- Nothing is said of widenings. -/
theorem gTrue : GLaws (fun _ _ _ _ _ => True) := ⟨fun _ _ _ _ _ _ _ _ _ _ => trivial, fun _ _ _ _ _ _ => trivial, fun _ _ _ _ _ _ => trivial, fun _ _ _ _ _ _ _ _ _ _ _ _ _ _ _ => trivial, fun _ _ _ _ _ _ _ _ _ _ _ _ _ _ _ _ => trivial, fun _ _ _ _ _ _ _ _ _ _ _ _ _ => trivial⟩
set_option maxRecDepth 100000 in
set_option maxHeartbeats 3200000 in
theorem implKindFits_any (a b : Kd) (P Q : Nat → Prop) (c d : C3) (w : World) (hE : ErrT w) (hP : ∀ x, P x → x < w.heap.size) (hQ : ∀ x, Q x → x < w.heap.size) (ha : KRep P w a c) (hb : KRep Q w b d) (hwa : wKd a ≤ 1048576) (hwb : wKd b ≤ 1048576) :
    Calls Tryz.prog 11 #[.agg #[c.c0, c.c1, c.c2], .agg #[d.c0, d.c1, d.c2]] w fun e w' => e = .returned (.bool (fitsD a b)) ∧ Below w.heap.size w w' := by
  have ha' : KRep (fun x => x < w.heap.size) w a c := KRep.carry (fun _ _ => rfl) hP _ _ ha
  have hb' : KRep (fun x => x < w.heap.size) w b d := KRep.carry (fun _ _ => rfl) hQ _ _ hb
  have HW : Hid (∀ W T, Below w.heap.size w W → WT W T → Calls Tryz.prog 29 #[.pointer (some ⟨T, 0, none⟩), .agg #[c.c0, c.c1, c.c2], .agg #[d.c0, d.c1, d.c2]] W fun e w' => Below W.heap.size W w' ∧ ∃ fv, e = .returned (.tuple #[fv, .bool (fitsD a b)])) := fun W T hW hT =>
    (ofWhole_any gTrue a b (fun x => x < w.heap.size) (fun x => x < w.heap.size) c d W T hT (hE.on hW) (fun x hx => Nat.lt_of_lt_of_le hx hW.size) (fun x hx => Nat.lt_of_lt_of_le hx hW.size) (KRep.carry (fun x hx => hW.block x hx) (fun _ h => h) _ _ ha') (KRep.carry (fun x hx => hW.block x hx) (fun _ h => h) _ _ hb') hwa hwb).mono fun e w' ⟨h1, fv, h2, _⟩ => ⟨h1, fv, h2⟩
  obtain ⟨c0, c1, c2⟩ := c
  obtain ⟨d0, d1, d2⟩ := d
  obtain ⟨e0, -, ⟨a3, cap3, e1, -⟩, a4, cap4, e2, -⟩ := ha.open
  obtain ⟨g0, -, ⟨b3, bap3, g1, -⟩, b4, bap4, g2, -⟩ := hb.open
  simp only at e0 e1 e2 g0 g1 g2
  subst e0 e1 e2 g0 g1 g2
  obtain ⟨hra, hrb, hbw⟩ := pr_boxes w a.sort b.sort a3 a4 b3 b4 a.names.length a.kids.length cap3 cap4 b.names.length b.kids.length bap3 bap4
  have HRA := hide hra; have HRB := hide hrb; have HBW := hide hbw
  clear hra hrb hbw ha hb ha' hb' hP hQ hE hwa hwb
  go_enter Tryz.func11, Tryz.ntmps11
  go_upto_region 1 with fail
  generalize ((w.alloc (.cells #[.int .i64 a.sort, .slice a3 a.names.length cap3, .slice a4 a.kids.length cap4] 26)).alloc (.cells #[.int .i64 b.sort, .slice b3 b.names.length bap3, .slice b4 b.kids.length bap4] 26)) = W0 at HRA HRB HBW ⊢
  have x0 := (unhide HRA).cell (i := 0) (by omega); have x1 := (unhide HRA).cell (i := 1) (by omega); have x2 := (unhide HRA).cell (i := 2) (by omega)
  have y0 := (unhide HRB).cell (i := 0) (by omega); have y1 := (unhide HRB).cell (i := 1) (by omega); have y2 := (unhide HRB).cell (i := 2) (by omega)
  simp only [row3] at x0 x1 x2 y0 y1 y2
  clear HRA HRB
  go_region_held3 (fun W => W.cell? ⟨w.heap.size, 0, none⟩ = some (.int .i64 a.sort) ∧ W.cell? ⟨w.heap.size, 1, none⟩ = some (.slice a3 a.names.length cap3) ∧ W.cell? ⟨w.heap.size, 2, none⟩ = some (.slice a4 a.kids.length cap4) ∧ W.cell? ⟨w.heap.size + 1, 0, none⟩ = some (.int .i64 b.sort) ∧ W.cell? ⟨w.heap.size + 1, 1, none⟩ = some (.slice b3 b.names.length bap3) ∧ W.cell? ⟨w.heap.size + 1, 2, none⟩ = some (.slice b4 b.kids.length bap4)) (first | exact ⟨x0, x1, x2, y0, y1, y2⟩ | exact HS2 | exact HS1 | go_keep)
    (first
      | (go_at_call 28
         refine (newWidenings_any W0.drew).mono ?_
         rintro e W1 ⟨rfl, hb1, ht1⟩
         have HS1 : W1.cell? ⟨w.heap.size, 0, none⟩ = some (.int .i64 a.sort) ∧ W1.cell? ⟨w.heap.size, 1, none⟩ = some (.slice a3 a.names.length cap3) ∧ W1.cell? ⟨w.heap.size, 2, none⟩ = some (.slice a4 a.kids.length cap4) ∧ W1.cell? ⟨w.heap.size + 1, 0, none⟩ = some (.int .i64 b.sort) ∧ W1.cell? ⟨w.heap.size + 1, 1, none⟩ = some (.slice b3 b.names.length bap3) ∧ W1.cell? ⟨w.heap.size + 1, 2, none⟩ = some (.slice b4 b.kids.length bap4) := ⟨cell_onP hb1 x0, cell_onP hb1 x1, cell_onP hb1 x2, cell_onP hb1 y0, cell_onP hb1 y1, cell_onP hb1 y2⟩
         have HB1 := hide ((unhide HBW).drew.trans (hb1.mono (unhide HBW).size))
         have HT1 := hide ht1
         clear hb1 ht1)
      | (go_at_call 29
         refine (unhide HW W1 _ (unhide HB1) (unhide HT1)).mono ?_
         rintro e W2 ⟨hb2, fv, rfl⟩
         have HS2 : W2.cell? ⟨w.heap.size, 0, none⟩ = some (.int .i64 a.sort) ∧ W2.cell? ⟨w.heap.size, 1, none⟩ = some (.slice a3 a.names.length cap3) ∧ W2.cell? ⟨w.heap.size, 2, none⟩ = some (.slice a4 a.kids.length cap4) ∧ W2.cell? ⟨w.heap.size + 1, 0, none⟩ = some (.int .i64 b.sort) ∧ W2.cell? ⟨w.heap.size + 1, 1, none⟩ = some (.slice b3 b.names.length bap3) ∧ W2.cell? ⟨w.heap.size + 1, 2, none⟩ = some (.slice b4 b.kids.length bap4) := ⟨cell_onQ hb2 HS1.1, cell_onQ hb2 HS1.2.1, cell_onQ hb2 HS1.2.2.1, cell_onQ hb2 HS1.2.2.2.1, cell_onQ hb2 HS1.2.2.2.2.1, cell_onQ hb2 HS1.2.2.2.2.2⟩
         have HB2 := hide ((unhide HB1).trans (hb2.mono (unhide HB1).size))
         clear hb2))
  all_goals
    clear HS1 HS2 x0 x1 x2 y0 y1 y2 HW HB1 HT1 HBW
    go_wp2_with fail
    go_ret
    exact ⟨rfl, unhide HB2⟩
end Go.Proofs.YtenpghndgdemnaaGreatDoor
