/- The program's ofPair at the table of widenings, whatever the two schemas (the other sorts), and ofWhole, KindFits. Conditions: the table of widenings lies in its block. -/
import Derived.Test.YtcpfelaffclalaaGreatDoorPart16
import Derived.Test.YtcpfelaffclalaaGreatDoorPart11
import Derived.Test.YtcpfelaffclalaaGreatDoorPart08
import Derived.Test.YtcpfelaffclalaaGreatDoorPart03
import Derived.Test.YtcpfelaffclalaaGreatDoorPart10
import Derived.Test.YtcpfelaffclalaaGreatDoorPart01
import Derived.Test.YtcpfelaffclalaaGreatDoorRows
import Derived.Test.YtcpfelaffclalaaGreatDoorPart00
import Derived.Deep.OwnRows
import Derived.Deep.RegionWith
namespace Go.Proofs.YtcpfelaffclalaaGreatDoor
open Go Go.RowKit

theorem ksz_lenU (k : Kd) : k.kids.length < ksz k := by
  have : ∀ l : List Kd, l.length ≤ klsz l := fun l => by
    induction l with
    | nil => simp
    | cons a r ih =>
      obtain ⟨s, ns, ks⟩ := a
      rw [klsz, ksz, List.length_cons]
      omega
  obtain ⟨s, ns, ks⟩ := k
  have := this ks
  rw [ksz]
  show ks.length < _
  omega
theorem fit_leaf {n : Nat} {a b : Kd} (hb : b.sort ≠ 6) (h : a.sort = b.sort) (h4 : a.sort ≠ 4) (hna : a.names.length = 0) (hnb : b.names.length = 0) : fitF (n + 1) a b = true := by
  rw [fit_eq hb h h4, hna, hnb]
  rfl
section
variable {GW : Kd → Kd → (Nat → Prop) → World → Value → Prop} (HG : GLaws GW) (n : Nat) (IH : PairSaid GW n) (a b : Kd) (hna : ksz a ≤ 40) (hnb : ksz b ≤ 40) (hn : ksz b ≤ n + 1) (a1 a2 b1 b2 : Option Addr) (p1 p2 q1 q2 : Nat) (w : World) (T : Nat) (path : ByteArray) (hT : WT w T) (hps : path.size + (n + 1) * 100 ≤ 900000)
  (ha : KW w a ⟨.int .i64 a.sort, .slice a1 a.names.length p1, .slice a2 a.kids.length p2⟩) (hb : KW w b ⟨.int .i64 b.sort, .slice b1 b.names.length q1, .slice b2 b.kids.length q2⟩)
include HG IH hna hnb hn hT hps ha hb
theorem pair_into (sa : Nat) (hsa : a.sort = (sa : Int)) (h0 : sa ≠ 0) (h6 : sa ≤ 5) (h5 : b.sort = 6) :
    Calls Tryz.prog 58 #[.pointer (some ⟨T, 0, none⟩), .agg #[.int .i64 a.sort, .slice a1 a.names.length p1, .slice a2 a.kids.length p2], .agg #[.int .i64 b.sort, .slice b1 b.names.length q1, .slice b2 b.kids.length q2], .string path] w fun e w' => Below w.heap.size w w' ∧ ∃ fv er, e = .returned (.tuple #[fv, er]) ∧ PFR GW (n + 1) a b T (New w w') w' fv er := by
  have hkb : b.kids.length = 1 := by rcases hb.sh with h' | h' | h' <;> omega
  obtain ⟨yb, yo, yc, y1, y2, s1, s2, ey, hyl, y0, y3, y4, hy⟩ := hb.kid (i := 0) (by omega)
  simp only [Value.slice.injEq, true_and] at ey
  obtain ⟨rfl, rfl⟩ := ey
  have hmb : b.kids[0]'(by omega) ∈ b.kids := List.getElem_mem _
  have hzb := ksz_kid hmb
  have hsy : (b.kids[0]'(by omega)).sort ≠ 0 := by rcases hy.sh with h' | h' | h' <;> omega
  have hp : pF (n + 1) a b = pF n a (b.kids[0]'(by omega)) := by
    rw [pF_fit (by omega) hsy, pF_fit (by omega) (by omega)]
    exact fit_xm h5 (by omega) _
  have hps2 : path.size ≤ 1000000 := by omega
  have hoka := ha.ok
  have hokb := hb.ok
  have hent : ent T sa 6 = wv T 54 := by
    rcases (show sa = 1 ∨ sa = 2 ∨ sa = 3 ∨ sa = 4 ∨ sa = 5 by omega) with rfl | rfl | rfl | rfl | rfl <;> rfl
  refine pair_do HG (n + 1) a b sa 6 54 hsa h5 (by omega) (by omega) T hent enInto _ _ _ _ _ _ _ _ w path hT fun W hW => ?_
  rw [hkb]
  have hIH : ∀ V, Below W.heap.size W V → Calls Tryz.prog 58 #[.pointer (some ⟨T, 0, none⟩), .agg #[.int .i64 a.sort, .slice a1 a.names.length p1, .slice a2 a.kids.length p2], .agg #[.int .i64 (b.kids[0]'(by omega)).sort, .slice y1 (b.kids[0]'(by omega)).names.length s1, .slice y2 (b.kids[0]'(by omega)).kids.length s2], .string (path ++ ⟨#[63]⟩)] V fun e w' => Below V.heap.size V w' ∧ ∃ fv er, e = .returned (.tuple #[fv, er]) ∧ PFR GW n a (b.kids[0]'(by omega)) T (New V w') w' fv er := fun V hV => by
    have hwV : Below w.heap.size w V := hW.trans (hV.mono hW.size)
    exact IH _ _ (fun _ => by omega) (by omega) (by omega) ⟨_, _, _⟩ ⟨_, _, _⟩ V T _ (hT.on hwV) (Or.inl (ha.on hwV)) (Or.inl (hy.on hwV)) (szP1 _ hps)
  have hbox : ∀ e w', InBox 86 (PFR GW n a (b.kids[0]'(by omega)) T) W w' e → ∃ fv er, e = .returned (.tuple #[fv, er]) ∧ PFR GW (n + 1) a b T (New W w') w' fv er := fun e w' h7 =>
    h7.pfr hp (ent_ne hsa h5 hent) (fun B fv h8 h9 h10 h11 => HG.into a b _ _ B fv h5 (by omega) (by omega) (by omega) hoka hokb h8 h9 h10 h11)
  by_cases hne : ent T a.sort.toNat (b.kids[0]'(by omega)).sort.toNat = .nilFunc
  · refine (intoMaybe_walkN T a.sort b.sort a1 a2 b1 a.names.length a.kids.length p1 p2 b.names.length q1 q2 yb yo _ y1 y2 _ _ s1 s2 path W (PFR GW n a (b.kids[0]'(by omega)) T) (by rw [hW.cell hyl]; exact y0) (by rw [hW.cell hyl]; exact y3) (by rw [hW.cell hyl]; exact y4) (Nat.lt_of_lt_of_le hyl hW.size) hps2 (fun V hV => ?_) (PFR.on HG)).mono fun e w' ⟨h8, h7⟩ => ⟨h8, hbox e w' h7⟩
    refine (hIH V hV).mono fun e w' ⟨k1, fv, er, k2, k3⟩ => ?_
    have k4 := k3.2.1 hne
    subst k4
    exact ⟨k1, er, k2, k3⟩
  · refine (intoMaybe_walkF T a.sort b.sort a1 a2 b1 a.names.length a.kids.length p1 p2 b.names.length q1 q2 yb yo _ y1 y2 _ _ s1 s2 path W (PFR GW n a (b.kids[0]'(by omega)) T) (by rw [hW.cell hyl]; exact y0) (by rw [hW.cell hyl]; exact y3) (by rw [hW.cell hyl]; exact y4) (Nat.lt_of_lt_of_le hyl hW.size) hps2 (fun V hV => ?_) (PFR.on HG)).mono fun e w' ⟨h8, h7⟩ => ⟨h8, hbox e w' h7⟩
    refine (hIH V hV).mono fun e w' ⟨k1, fv, er, k2, k3⟩ => ?_
    obtain ⟨f, bs, cs, k4⟩ := k3.2.2 hne
    subst k4
    exact ⟨k1, f, bs, cs, er, k2, k3⟩
theorem pair_form (h4 : a.sort = 5) (h5 : b.sort = 5) :
    Calls Tryz.prog 58 #[.pointer (some ⟨T, 0, none⟩), .agg #[.int .i64 a.sort, .slice a1 a.names.length p1, .slice a2 a.kids.length p2], .agg #[.int .i64 b.sort, .slice b1 b.names.length q1, .slice b2 b.kids.length q2], .string path] w fun e w' => Below w.heap.size w w' ∧ ∃ fv er, e = .returned (.tuple #[fv, er]) ∧ PFR GW (n + 1) a b T (New w w') w' fv er := by
  obtain ⟨hla, hra⟩ : a.kids.length = a.names.length ∧ riseB a.names = true := by
    rcases ha.sh with h' | h' | h'
    · omega
    · omega
    · exact h'.2
  obtain ⟨hlb, hrb⟩ : b.kids.length = b.names.length ∧ riseB b.names = true := by
    rcases hb.sh with h' | h' | h'
    · omega
    · omega
    · exact h'.2
  have hza : ∀ k, k ∈ a.kids → k.sort ≠ 0 := fun k hk => by
    obtain ⟨i, hi, rfl⟩ := List.mem_iff_getElem.1 hk
    obtain ⟨_, _, _, _, _, _, _, _, _, _, _, _, hx⟩ := ha.kid hi
    rcases hx.sh with h' | h' | h' <;> omega
  have hzb : ∀ k, k ∈ b.kids → k.sort ≠ 0 := fun k hk => by
    obtain ⟨i, hi, rfl⟩ := List.mem_iff_getElem.1 hk
    obtain ⟨_, _, _, _, _, _, _, _, _, _, _, _, hx⟩ := hb.kid hi
    rcases hx.sh with h' | h' | h' <;> omega
  have hp : pF (n + 1) a b = (uniN a.names b.names).all fun nm => pF n (kidZ a nm) (kidZ b nm) := by
    rw [pF_fit (by omega) (by omega)]
    exact fit_union h4 h5 hla hlb (rise_nodup hra) (rise_nodup hrb) hza hzb _ (fun nm => uniN_mem nm)
  have hnm : ∀ nm, nm ∈ uniN a.names b.names → nm.size ≤ 8 := fun nm hm => by
    rcases (uniN_mem nm).1 hm with h | h
    · exact rise_szU hra h
    · exact rise_szU hrb h
  have hlA : a.names.length ≤ 1000 := by have := ksz_lenU a; omega
  have hlB : b.names.length ≤ 1000 := by have := ksz_lenU b; omega
  have hent : ent T 5 5 = wv T 56 := rfl
  have hoka := ha.ok
  have hokb := hb.ok
  refine pair_do HG (n + 1) a b 5 5 56 h4 h5 (by omega) (by omega) T hent enForm _ _ _ _ _ _ _ _ w path hT fun W hW => ?_
  refine (ofForm_walk a b T a1 a2 b1 b2 p1 p2 q1 q2 path W (fun nm => pF n (kidZ a nm) (kidZ b nm)) (fun nm => GW (kidZ a nm) (kidZ b nm)) (fun nm => HG.on (kidZ a nm) (kidZ b nm)) (ha.on hW) (hb.on hW) h4 h5 hlA hlB (by omega) (fun nm hm => by have := hnm nm hm; omega) (fun nm hm V x y hV hx hy => ?_)).mono fun e w' ⟨h6, h7⟩ => ⟨h6, ?_⟩
  · have hwV : Below w.heap.size w V := hW.trans (hV.mono hW.size)
    exact (IH _ _ (kidZ_lt hn nm) (kidZ_sz hna nm) (kidZ_sz hnb nm) x y V T _ (hT.on hwV) hx hy (szP3 hps (hnm nm hm))).mono fun e w' ⟨k1, fv, er, k2, k3⟩ => ⟨k1, fv, er, k2, k3.1⟩
  · obtain ⟨g1, g2, er, rfl, h8⟩ := h7
    refine ⟨_, _, rfl, ?_, fun h => absurd h (ent_ne h4 h5 hent), fun _ => ⟨_, _, _, rfl⟩⟩
    rcases h8 with ⟨e1, e2, e3⟩ | ⟨e1, e2⟩
    · exact Or.inl ⟨hp.trans e1, e2, ⟨_, _, _, rfl⟩, HG.form a b _ _ g1 g2 h4 h5 hlA hlB hoka hokb e3⟩
    · exact Or.inr ⟨hp.trans e1, Or.inr ⟨_, _, _, rfl⟩, e2⟩
end
theorem pair_leaf {GW : Kd → Kd → (Nat → Prop) → World → Value → Prop} (HG : GLaws GW) (n : Nat) (a b : Kd) (s : Nat) (hsa : a.sort = (s : Int)) (hsb : b.sort = (s : Int)) (h1 : 1 ≤ s) (h3 : s ≤ 3) (hp : pF n a b = true) (a1 a2 b1 b2 : Option Addr) (p1 p2 q1 q2 : Nat) (w : World) (T : Nat) (path : ByteArray) (hT : WT w T) :
    Calls Tryz.prog 58 #[.pointer (some ⟨T, 0, none⟩), .agg #[.int .i64 a.sort, .slice a1 a.names.length p1, .slice a2 a.kids.length p2], .agg #[.int .i64 b.sort, .slice b1 b.names.length q1, .slice b2 b.kids.length q2], .string path] w fun e w' => Below w.heap.size w w' ∧ ∃ fv er, e = .returned (.tuple #[fv, er]) ∧ PFR GW n a b T (New w w') w' fv er := by
  have hent : ent T s s = wv T 53 := by
    rcases (show s = 1 ∨ s = 2 ∨ s = 3 by omega) with rfl | rfl | rfl <;> rfl
  refine pair_do HG n a b s s 53 hsa hsb (by omega) (by omega) T hent enLeaf _ _ _ _ _ _ _ _ w path hT fun W hW => ?_
  exact (ofLeaf_walk T _ _ _ _ _ _ _ _ _ _ _ _ _ _ path W).mono fun e w' ⟨k1, k2⟩ => ⟨k1, _, _, k2, Or.inl ⟨hp, rfl, ⟨_, _, _, rfl⟩, HG.leaf a b _ _ (by omega) (by omega)⟩, fun h => absurd h (ent_ne hsa hsb hent), fun _ => ⟨_, _, _, rfl⟩⟩
theorem pair_none {GW : Kd → Kd → (Nat → Prop) → World → Value → Prop} (HG : GLaws GW) (n : Nat) (a b : Kd) (hsa : a.sort = 0) (hsb : b.sort = 6) (a1 a2 b1 b2 : Option Addr) (p1 p2 q1 q2 : Nat) (w : World) (T : Nat) (path : ByteArray) (hT : WT w T) :
    Calls Tryz.prog 58 #[.pointer (some ⟨T, 0, none⟩), .agg #[.int .i64 a.sort, .slice a1 a.names.length p1, .slice a2 a.kids.length p2], .agg #[.int .i64 b.sort, .slice b1 b.names.length q1, .slice b2 b.kids.length q2], .string path] w fun e w' => Below w.heap.size w w' ∧ ∃ fv er, e = .returned (.tuple #[fv, er]) ∧ PFR GW n a b T (New w w') w' fv er := by
  have hent : ent T 0 6 = wv T 52 := rfl
  have hp : pF n a b = true := by unfold pF; rw [if_pos hsa]; exact decide_eq_true hsb
  refine pair_do HG n a b 0 6 52 hsa hsb (by omega) (by omega) T hent enNone _ _ _ _ _ _ _ _ w path hT fun W hW => ?_
  exact (ofNone_walk T _ _ _ _ _ _ _ _ _ _ _ _ _ _ path W).mono fun e w' ⟨k1, k2⟩ => ⟨k1, _, _, k2, Or.inl ⟨hp, rfl, ⟨_, _, _, rfl⟩, HG.zero a b _ _ hsa hsb⟩, fun h => absurd h (ent_ne (sa := 0) (sb := 6) hsa hsb hent), fun _ => ⟨_, _, _, rfl⟩⟩
theorem pair_step {GW : Kd → Kd → (Nat → Prop) → World → Value → Prop} (HG : GLaws GW) (n : Nat) (IH : ∀ m, n = m + 1 → PairSaid GW m) : PairSaid GW n := by
  intro a b hbn hna hnb c d w T path hT hc hd hps
  obtain ⟨sa, hsa, ha6, ha0, haw⟩ := hc.sort
  obtain ⟨sb, hsb, hb6, hb0, hbw⟩ := hd.sort
  obtain ⟨a1, a2, p1, p2, rfl⟩ := hc.form
  obtain ⟨b1, b2, q1, q2, rfl⟩ := hd.form
  by_cases h0b : sb = 0
  · refine pair_no n a b sa sb hsa hsb ha6 hb6 (by omega) ?_ a1 a2 b1 b2 p1 p2 q1 q2 w T path hT
    unfold pF
    split
    · exact decide_eq_false (by omega)
    · rw [if_pos (by omega)]
  by_cases h0a : sa = 0
  · by_cases h6 : sb = 6
    · exact pair_none HG n a b (by omega) (by omega) a1 a2 b1 b2 p1 p2 q1 q2 w T path hT
    · refine pair_no n a b sa sb hsa hsb ha6 hb6 (by omega) ?_ a1 a2 b1 b2 p1 p2 q1 q2 w T path hT
      unfold pF
      rw [if_pos (by omega)]
      exact decide_eq_false (by omega)
  have ha := haw h0a
  have hb := hbw h0b
  have hkn := hbn (by omega)
  have hpos := ksz_lenU b
  obtain ⟨m, rfl⟩ : ∃ m, n = m + 1 := ⟨n - 1, by omega⟩
  have IHm := IH m rfl
  by_cases h6 : sb = 6
  · by_cases h6a : sa = 6
    · exact pair_each HG m IHm a b hna hnb hkn a1 a2 b1 b2 p1 p2 q1 q2 w T path hT hps ha hb _ (Or.inr ⟨rfl, by omega, by omega⟩)
    · exact pair_into HG m IHm a b hna hnb hkn a1 a2 b1 b2 p1 p2 q1 q2 w T path hT hps ha hb sa hsa h0a (by omega) (by omega)
  by_cases hab : sa = sb
  · subst hab
    by_cases h4 : sa = 4
    · exact pair_each HG m IHm a b hna hnb hkn a1 a2 b1 b2 p1 p2 q1 q2 w T path hT hps ha hb _ (Or.inl ⟨rfl, by omega, by omega⟩)
    by_cases h5 : sa = 5
    · exact pair_form HG m IHm a b hna hnb hkn a1 a2 b1 b2 p1 p2 q1 q2 w T path hT hps ha hb (by omega) (by omega)
    · refine pair_leaf HG (m + 1) a b sa hsa hsb (by omega) (by omega) ?_ a1 a2 b1 b2 p1 p2 q1 q2 w T path hT
      rw [pF_fit (by omega) (by omega)]
      refine fit_leaf (by omega) (by omega) (by omega) ?_ ?_
      · rcases ha.sh with h' | h' | h' <;> omega
      · rcases hb.sh with h' | h' | h' <;> omega
  · refine pair_no (m + 1) a b sa sb hsa hsb ha6 hb6 (by omega) ?_ a1 a2 b1 b2 p1 p2 q1 q2 w T path hT
    rw [pF_fit (by omega) (by omega)]
    exact fit_ne (by omega) (by omega)
theorem pair_all {GW : Kd → Kd → (Nat → Prop) → World → Value → Prop} (HG : GLaws GW) (n : Nat) : PairSaid GW n := by
  induction n with
  | zero => exact pair_step HG 0 (fun m h => by omega)
  | succ n IH =>
    refine pair_step HG (n + 1) (fun m h => ?_)
    obtain rfl : n = m := by omega
    exact IH
end Go.Proofs.YtcpfelaffclalaaGreatDoor

/- The walks of the program's ofWhole at the table of widenings, and of KindFits. Conditions: errors.errorType holds the handle of the type error. -/

namespace Go.Proofs.YtcpfelaffclalaaGreatDoor
open Go Go.RowKit

/-- The library's variable holds the handle of the type error. -/
def ErrT (w : World) : Prop := w.cell? ⟨0, 0, none⟩ = some (.iface 163 (.agg #[.pointer (some ⟨2, 89, none⟩)]))
theorem ErrT.on {w W : World} (h : ErrT w) (hb : Below w.heap.size w W) : ErrT W := by
  unfold ErrT
  rw [World.cell?_of_block (w := w) (hb.block _ (World.block_lt_of_cell? w _ h))]
  exact h
/-- What ofWhole gives. -/
def WhE (GW : Kd → Kd → (Nat → Prop) → World → Value → Prop) (a b : Kd) (w w' : World) (e : Ending) : Prop :=
  ∃ fv, e = .returned (.tuple #[fv, .bool (fitsD a b)]) ∧ (fitsD a b = true → (∃ f b c, fv = .func f b c) ∧ GW a b (New w w') w' fv)
set_option maxRecDepth 100000 in
set_option maxHeartbeats 3200000 in
theorem ofWhole_any {GW : Kd → Kd → (Nat → Prop) → World → Value → Prop} (HG : GLaws GW) (a b : Kd) (P Q : Nat → Prop) (c d : C3) (w : World) (T : Nat) (hT : WT w T) (hE : ErrT w) (hP : ∀ x, P x → x < w.heap.size) (hQ : ∀ x, Q x → x < w.heap.size) (ha : KRep P w a c) (hb : KRep Q w b d) (hwa : wKd a ≤ 1048576) (hwb : wKd b ≤ 1048576) :
    Calls Tryz.prog 29 #[.pointer (some ⟨T, 0, none⟩), .agg #[c.c0, c.c1, c.c2], .agg #[d.c0, d.c1, d.c2]] w fun e w' => Below w.heap.size w w' ∧ WhE GW a b w w' e := by
  have ha' : KRep (fun x => x < w.heap.size) w a c := KRep.carry (fun _ _ => rfl) hP _ _ ha
  have hb' : KRep (fun x => x < w.heap.size) w b d := KRep.carry (fun _ _ => rfl) hQ _ _ hb
  have hca : ∀ W, Below w.heap.size w W → KRep (fun x => x < W.heap.size) W a c := fun W hW => KRep.carry (fun x hx => hW.block x hx) (fun _ hx => Nat.lt_of_lt_of_le hx hW.size) _ _ ha'
  have hcb : ∀ W, Below w.heap.size w W → KRep (fun x => x < W.heap.size) W b d := fun W hW => KRep.carry (fun x hx => hW.block x hx) (fun _ hx => Nat.lt_of_lt_of_le hx hW.size) _ _ hb'
  have HOA : Hid (∀ W, Below w.heap.size w W → Calls Tryz.prog 48 #[.agg #[c.c0, c.c1, c.c2]] W fun e w' => e = .returned (.bool (decide (0 < qT a 1))) ∧ Below W.heap.size W w') := fun W hW => implKindOk_any a _ c W (fun _ h => h) (hca W hW) hwa
  have HOB : Hid (∀ W, Below w.heap.size w W → Calls Tryz.prog 48 #[.agg #[d.c0, d.c1, d.c2]] W fun e w' => e = .returned (.bool (decide (0 < qT b 1))) ∧ Below W.heap.size W w') := fun W hW => implKindOk_any b _ d W (fun _ h => h) (hcb W hW) hwb
  have HF : Hid (∀ W, 0 < qT a 1 → 0 < qT b 1 → Below w.heap.size w W → Calls Tryz.prog 58 #[.pointer (some ⟨T, 0, none⟩), .agg #[c.c0, c.c1, c.c2], .agg #[d.c0, d.c1, d.c2], .string ⟨#[]⟩] W fun e w' => Below W.heap.size W w' ∧ ∃ fv er, e = .returned (.tuple #[fv, er]) ∧ PR (fitF 40 a b) (GW a b) (New W w') w' fv er) := fun W h1 h2 hW => by
    have hKa : KW W a c := ⟨hca W hW, (ok_of_qT h1).1⟩
    have hKb : KW W b d := ⟨hcb W hW, (ok_of_qT h2).1⟩
    refine (pair_all HG 40 a b (fun _ => (ok_of_qT h2).2) (ok_of_qT h1).2 (ok_of_qT h2).2 c d W T ⟨#[]⟩ (hT.on hW) (Or.inl hKa) (Or.inl hKb) (by decide)).mono fun e w' ⟨k1, fv, er, k2, k3⟩ => ⟨k1, fv, er, k2, ?_⟩
    have := k3.1
    rwa [pF_fit (by rcases hKa.sh with h' | h' | h' <;> omega) (by rcases hKb.sh with h' | h' | h' <;> omega)] at this
  have HET : Hid (∀ W, Below w.heap.size w W → ErrT W) := fun W hW => hE.on hW
  obtain ⟨c0, c1, c2⟩ := c
  obtain ⟨d0, d1, d2⟩ := d
  obtain ⟨e0, -, ⟨a3, cap3, e1, -⟩, a4, cap4, e2, -⟩ := ha.open
  obtain ⟨g0, -, ⟨b3, bap3, g1, -⟩, b4, bap4, g2, -⟩ := hb.open
  simp only at e0 e1 e2 g0 g1 g2
  subst e0 e1 e2 g0 g1 g2
  obtain ⟨hra, hrb, hbw⟩ := pr_boxes w a.sort b.sort a3 a4 b3 b4 a.names.length a.kids.length cap3 cap4 b.names.length b.kids.length bap3 bap4
  have x0 := hra.cell (i := 0) (by omega); have x1 := hra.cell (i := 1) (by omega); have x2 := hra.cell (i := 2) (by omega)
  simp only [row3] at x0 x1 x2
  have HRA := hide hra; have HRB := hide hrb; have HBW := hide hbw
  clear hra hrb hbw ha hb ha' hb' hca hcb hP hQ hT hE hwa hwb
  go_enter Tryz.func29, Tryz.ntmps29
  go_wp2_with fail
  generalize ((w.alloc (.cells #[.int .i64 a.sort, .slice a3 a.names.length cap3, .slice a4 a.kids.length cap4] 30)).alloc (.cells #[.int .i64 b.sort, .slice b3 b.names.length bap3, .slice b4 b.kids.length bap4] 30)) = W0 at x0 x1 x2 HRA HRB HBW ⊢
  refine (unhide HOA _ (unhide HBW)).mono ?_
  rintro e W1 ⟨rfl, hb1⟩
  have hbw1 := (unhide HBW).trans (hb1.mono (unhide HBW).size)
  have HRA1 := hide ((unhide HRA).of_block (hb1.block _ (unhide HRA).lt))
  have HRB1 := hide ((unhide HRB).of_block (hb1.block _ (unhide HRB).lt))
  have HB1 := hide hbw1
  clear hb1 hbw1 HRA HRB HBW x0 x1 x2
  by_cases hqa : 0 < qT a 1
  · rw [decide_eq_true hqa]
    have y0 := (unhide HRB1).cell (i := 0) (by omega); have y1 := (unhide HRB1).cell (i := 1) (by omega); have y2 := (unhide HRB1).cell (i := 2) (by omega)
    simp only [row3] at y0 y1 y2
    go_wp2_with fail
    refine (unhide HOB _ (unhide HB1)).mono ?_
    rintro e W2 ⟨rfl, hb2⟩
    have hbw2 := (unhide HB1).trans (hb2.mono (unhide HB1).size)
    have HRA2 := hide ((unhide HRA1).of_block (hb2.block _ (unhide HRA1).lt))
    have HRB2 := hide ((unhide HRB1).of_block (hb2.block _ (unhide HRB1).lt))
    have HB2 := hide hbw2
    clear hb2 hbw2 HRA1 HRB1 HB1 y0 y1 y2
    by_cases hqb : 0 < qT b 1
    · rw [decide_eq_true hqb]
      have HFT := hide (show fitsD a b = fitF 40 a b by unfold fitsD; rw [decide_eq_true hqa, decide_eq_true hqb]; rfl)
      have x0 := (unhide HRA2).cell (i := 0) (by omega); have x1 := (unhide HRA2).cell (i := 1) (by omega); have x2 := (unhide HRA2).cell (i := 2) (by omega)
      have y0 := (unhide HRB2).cell (i := 0) (by omega); have y1 := (unhide HRB2).cell (i := 1) (by omega); have y2 := (unhide HRB2).cell (i := 2) (by omega)
      simp only [row3] at x0 x1 x2 y0 y1 y2
      have HQA := hide hqa; have HQB := hide hqb
      clear hqa hqb
      go_wp2_with fail
      refine (unhide HF _ (unhide HQA) (unhide HQB) (unhide HB2)).mono ?_
      rintro e W3 ⟨hb3, fv, er, rfl, hpr⟩
      have hbw3 := (unhide HB2).trans (hb3.mono (unhide HB2).size)
      have HB3 := hide hbw3
      have HSZ := hide (unhide HB2).size
      clear HRA2 HRB2 HB2 x0 x1 x2 y0 y1 y2 hb3 hbw3
      have HBA := hide ((unhide HB3).alloc (unhide HB3).size (.cells #[.int .i64 0, .int .i64 0, .string ByteArray.empty] 93))
      rcases hpr with ⟨hfy, rfl, ⟨fn, bs, cs, rfl⟩, hgw⟩ | ⟨hfn, -, x, y, p, rfl⟩
      · have HE2 : Hid (fitsD a b = true ∧ GW a b (New w (W3.alloc (.cells #[.int .i64 0, .int .i64 0, .string ByteArray.empty] 93))) (W3.alloc (.cells #[.int .i64 0, .int .i64 0, .string ByteArray.empty] 93)) (.func fn bs cs)) :=
          ⟨(unhide HFT).trans hfy, HG.on a b _ _ _ _ _ hgw (fun z hz => ⟨Nat.le_trans (unhide HSZ) hz.1, by have := hz.2; rw [World.size_alloc]; omega⟩) (fun z hz => Below.heap_alloc _ _ _ hz.2)⟩
        clear hgw hfy HFT HF HOA HOB HB3 HSZ
        go_wp2_with (go_at_call 59; refine (as_nil _ _).mono ?_; rintro e W4 ⟨rfl, hw4⟩; have hw5 := hw4.symm; subst hw5)
        go_ret2
        exact ⟨unhide HBA, .func fn bs cs, (by rw [(unhide HE2).1]; rfl), fun _ => ⟨⟨_, _, _, rfl⟩, (unhide HE2).2⟩⟩
      · have HE2 := hide ((unhide HFT).trans hfn)
        have HTH : Hid ((W3.alloc (.cells #[.int .i64 0, .int .i64 0, .string ByteArray.empty] 93)).there W3.heap.size 0 3) := there3f (row3_alloc W3 _ _ _ _)
        have HEW := hide (unhide HET _ (unhide HBA))
        have HSZ3 := hide (unhide HB3).size
        clear hfn HFT HF HOA HOB HB3 HSZ
        go_wp2_with (go_at_call 59; refine (as_hit x y p W3.heap.size (W3.alloc (.cells #[.int .i64 0, .int .i64 0, .string ByteArray.empty] 93)) (unhide HEW) (unhide HTH)).mono ?_; rintro e W4 ⟨rfl, hw4⟩; have HB4 : Hid (Below w.heap.size w W4) := (unhide HBA).trans ⟨hw4.os, hw4.tape, hw4.output, hw4.size, fun i hi => hw4.at (Nat.lt_of_lt_of_le hi (unhide HBA).size) (Nat.ne_of_lt (Nat.lt_of_lt_of_le hi (unhide HSZ3)))⟩; clear hw4)
        go_ret2
        exact ⟨unhide HB4, .nilFunc, (by rw [unhide HE2]; rfl), fun h => by rw [unhide HE2] at h; cases h⟩
    · rw [decide_eq_false hqb]
      have HFT := hide (show fitsD a b = false by unfold fitsD; rw [decide_eq_false hqb]; simp)
      clear hqa hqb
      go_wp2_with fail
      go_ret2
      exact ⟨unhide HB2, .nilFunc, (by rw [unhide HFT]; rfl), fun h => by rw [unhide HFT] at h; cases h⟩
  · rw [decide_eq_false hqa]
    have HFT := hide (show fitsD a b = false by unfold fitsD; rw [decide_eq_false hqa]; rfl)
    clear hqa
    go_wp2_with fail
    go_ret2
    exact ⟨unhide HB1, .nilFunc, (by rw [unhide HFT]; rfl), fun h => by rw [unhide HFT] at h; cases h⟩
theorem cell_onQ {w w' : World} (hb : Below w.heap.size w w') {a : Addr} {v : Value} (h : w.cell? a = some v) : w'.cell? a = some v := by
  rw [World.cell?_of_block (w := w) (hb.block a.block (World.block_lt_of_cell? w _ h))]
  exact h
end Go.Proofs.YtcpfelaffclalaaGreatDoor

/- What the program's widenings do: GWd; the closures of ofNone, ofLeaf, intoMaybe. Conditions: a widening that is asked for is taken by its contract (a hypothesis). -/

namespace Go.Proofs.YtcpfelaffclalaaGreatDoor
open Go Go.RowKit

/-- A tree in memory of its own, laid since w. -/
def TE (t : Tr) (w : World) (e : Ending) (w' : World) : Prop := ∃ (d : C5) (F : List Nat), e = .returned (.agg #[d.c0, d.c1, d.c2, d.c3, d.c4]) ∧ Own w' t d F ∧ F.Nodup ∧ (∀ b, b ∈ F → w.heap.size ≤ b ∧ b < w'.heap.size) ∧ Below w.heap.size w w'
/-- A widening, and what it does in every later world. -/
def WidC (n : Nat) (a b : Kd) (P : Nat → Prop) (W : World) (fv : Value) : Prop :=
  wOk n a b ∧ ∃ (f : Nat) (caps : Array Value), fv = .func (.func f) #[] caps ∧ (∀ args w, (callFunc f args).run Tryz.prog w = .ok (.enter f args) w) ∧
    ∀ W', (∀ x, P x → x < W.heap.size → W'.heap[x]? = W.heap[x]?) → ∀ (t : Tr) (c : C5), Rep (fun x => x < W'.heap.size) W' t c → (a.sort = 0 ∨ (hT t a = true ∧ okH t = true)) →
      Calls Tryz.prog f (#[.agg #[c.c0, c.c1, c.c2, c.c3, c.c4]] ++ caps) W' (TE (widF n a b t) W')
def GWd (a b : Kd) (P : Nat → Prop) (W : World) (fv : Value) : Prop := ∃ n, WidC n a b P W fv
theorem WidC.le {n m : Nat} {a b : Kd} {P : Nat → Prop} {W : World} {fv : Value} (h : WidC n a b P W fv) (hm : n ≤ m) : WidC m a b P W fv := by
  obtain ⟨h1, f, caps, h2, h3, h4⟩ := h
  have h5 := wOk_le h1 hm
  refine ⟨h5, f, caps, h2, h3, fun W' hW t c hr ht => ?_⟩
  rw [← wid_fuel n m a b t h1 h5]
  exact h4 W' hW t c hr ht
theorem lt_same {W W' : World} {x : Nat} (h : W'.heap[x]? = W.heap[x]?) (hx : x < W.heap.size) : x < W'.heap.size := by
  rw [Array.getElem?_eq_getElem hx] at h
  exact (Array.getElem?_eq_some_iff.1 h).1
theorem WidC.on {n : Nat} {a b : Kd} {P Q : Nat → Prop} {W W' : World} {fv : Value} (h : WidC n a b P W fv) (h1 : ∀ x, P x → Q x) (h2 : ∀ x, P x → W'.heap[x]? = W.heap[x]?) : WidC n a b Q W' fv := by
  obtain ⟨k1, f, caps, k2, k3, k4⟩ := h
  exact ⟨k1, f, caps, k2, k3, fun W'' hW t c hr ht => k4 W'' (fun x hx hl => (hW x (h1 x hx) (lt_same (h2 x hx) hl)).trans (h2 x hx)) t c hr ht⟩
theorem own_leaf {w : World} {s n : Int} {tx : ByteArray} (hs : I64 s) (hn : I64 n) (ht : tx.size ≤ 9223372036854775807) : Own w (.mk s n tx [] []) ⟨.int .i64 s, .int .i64 n, .string tx, .slice none 0 0, .slice none 0 0⟩ [] := by
  rw [Own]
  exact ⟨rfl, rfl, rfl, hs, hn, ht, [], [], rfl, ⟨none, 0, rfl, by simp, Or.inl ⟨rfl, rfl⟩⟩, none, 0, rfl, by simp, Or.inl ⟨rfl, rfl⟩⟩
theorem enW (f : Nat) {fn : Func} (h : Tryz.prog.funcs[f]? = some fn) (h2 : (fn.name == "runtime.NumGoroutine") = false) {c : Code} (h3 : fn.body = some c) : ∀ args w, (callFunc f args).run Tryz.prog w = .ok (.enter f args) w := enters_of h h2 h3
set_option maxRecDepth 100000 in
set_option maxHeartbeats 1600000 in
theorem none1_any (t : Tr) (c : C5) (n : Nat) (a b : Kd) (ha : a.sort = 0) (w : World) (hr : Rep (fun x => x < w.heap.size) w t c) : Calls Tryz.prog 83 #[.agg #[c.c0, c.c1, c.c2, c.c3, c.c4]] w (TE (widF (n + 1) a b t) w) := by
  rw [widF_zero ha]
  obtain ⟨c0, c1, c2, c3, c4⟩ := c
  obtain ⟨g0, g1, g2, -, -, -, ⟨a5, cap5, g3, -, -⟩, a6, cap6, g4, -, -⟩ := hr.open
  simp only at g0 g1 g2 g3 g4
  subst g0 g1 g2 g3 g4
  clear hr
  have HB : Hid (Below w.heap.size w ((w.alloc (.cells #[.int .i64 t.sort, .int .i64 t.num, .string t.text, .slice a5 t.names.length cap5, .slice a6 t.kids.length cap6] 39)).alloc (.cells #[.int .i64 6, .int .i64 0, .string ByteArray.empty, .slice none 0 0, .slice none 0 0] 39))) := ((Below.refl _ _).alloc (Nat.le_refl _) _).alloc (by simp) _
  go_enter Tryz.func83, Tryz.ntmps83
  go_wp2_with fail
  refine bodyPost_ret (v := .agg #[.int .i64 6, .int .i64 0, .string ⟨#[]⟩, .slice none 0 0, .slice none 0 0]) (by simp [results, Tryz.results83, go_sem]) rfl ?_
  exact ⟨⟨_, _, _, _, _⟩, [], rfl, own_leaf (s := 6) (n := 0) (tx := ByteArray.empty) ⟨by decide, by decide⟩ ⟨by decide, by decide⟩ (by decide), List.nodup_nil, fun b hb => by simp at hb, unhide HB⟩
/-- The two boxes of a widening. -/
theorem wd_boxes (w : World) (s n : Int) (tx : ByteArray) (a5 a6 : Option Addr) (n5 cap5 n6 cap6 : Nat) : ((w.alloc (.cells #[.int .i64 s, .int .i64 n, .string tx, .slice a5 n5 cap5, .slice a6 n6 cap6] 39)).alloc (.cells #[.int .i64 0, .int .i64 0, .string ⟨#[]⟩, .slice none 0 0, .slice none 0 0] 39)).rowIs w.heap.size 39 5 (row5 (.int .i64 s) (.int .i64 n) (.string tx) (.slice a5 n5 cap5) (.slice a6 n6 cap6)) ∧ ((w.alloc (.cells #[.int .i64 s, .int .i64 n, .string tx, .slice a5 n5 cap5, .slice a6 n6 cap6] 39)).alloc (.cells #[.int .i64 0, .int .i64 0, .string ⟨#[]⟩, .slice none 0 0, .slice none 0 0] 39)).rowIs (w.heap.size + 1) 39 5 (row5 (.int .i64 0) (.int .i64 0) (.string ⟨#[]⟩) (.slice none 0 0) (.slice none 0 0)) ∧ Below w.heap.size w ((w.alloc (.cells #[.int .i64 s, .int .i64 n, .string tx, .slice a5 n5 cap5, .slice a6 n6 cap6] 39)).alloc (.cells #[.int .i64 0, .int .i64 0, .string ⟨#[]⟩, .slice none 0 0, .slice none 0 0] 39)) ∧ ((w.alloc (.cells #[.int .i64 s, .int .i64 n, .string tx, .slice a5 n5 cap5, .slice a6 n6 cap6] 39)).alloc (.cells #[.int .i64 0, .int .i64 0, .string ⟨#[]⟩, .slice none 0 0, .slice none 0 0] 39)).heap.size = w.heap.size + 2 := by
  have h2 := row5_alloc (w.alloc (.cells #[.int .i64 s, .int .i64 n, .string tx, .slice a5 n5 cap5, .slice a6 n6 cap6] 39)) (.int .i64 0) (.int .i64 0) (.string ⟨#[]⟩) (.slice none 0 0) (.slice none 0 0) 39
  rw [World.size_alloc] at h2
  exact ⟨(row5_alloc w _ _ _ _ _ _).alloc _, h2, ((Below.refl _ _).alloc (Nat.le_refl _) _).alloc (by simp) _, by simp⟩
theorem ldIntW (w : World) (ad : Addr) (v : Value) (h : w.cell? ad = some v) : (Instr.loadAt 3 (.pointer (some ad))).run Tryz.prog w = .ok v w := by
  simp [Instr.loadAt, Instr.sureAddr, loadVar, Tryz.isAgg3, h, go_sem]
theorem sizeTr : (Tryz.prog.info? 39).map (·.size) = some 5 := by kernel_rfl
theorem there5w {w : World} {b : Nat} {T : TypeId} {n : Nat} {f : Nat → Value} (h : w.rowIs b T n f) : w.there b 0 n := there49 h
/-- Below but for one block. -/
structure BelowBut (C : Nat) (w w' : World) : Prop where
  os : w'.os = w.os
  tape : w'.tape = w.tape
  output : w'.output = w.output
  size : w.heap.size ≤ w'.heap.size
  block : ∀ b, b < w.heap.size → b ≠ C → w'.heap[b]? = w.heap[b]?
theorem below_but {C n : Nat} {w w' : World} (h : BelowBut C w w') (hn : n ≤ C ∧ n ≤ w.heap.size) : Below n w w' := ⟨h.os, h.tape, h.output, h.size, fun b hb => h.block b (by omega) (by omega)⟩
noncomputable def lfOps : Array Oper := fops Tryz.f84 1
theorem lf_neat : Region.noSelect lfOps = true ∧ neat lfOps = true := ⟨by kernel_rfl, by kernel_rfl⟩
theorem set5_row {W : World} {C : Nat} {T : TypeId} {f : Nat → Value} (h : W.rowIs C T 5 f) (v0 v1 v2 v3 v4 : Value) : BelowBut C W (W.setCells C 0 [v0, v1, v2, v3, v4]) ∧ (W.setCells C 0 [v0, v1, v2, v3, v4]).rowIs C T 5 (row5 v0 v1 v2 v3 v4) := by
  obtain ⟨h1, h2⟩ := set_row C [v0, v1, v2, v3, v4] 0 W T 5 f h (by simp)
  exact ⟨⟨h1.os, h1.tape, h1.output, h1.size, fun b hb hne => h1.at hb hne⟩, h2.congr (fun i hi => by
    match i, hi with
    | 0, _ => rfl
    | 1, _ => rfl
    | 2, _ => rfl
    | 3, _ => rfl
    | 4, _ => rfl)⟩
theorem BelowBut.of_below {C : Nat} {w w' : World} (h : Below w.heap.size w w') : BelowBut C w w' := ⟨h.os, h.tape, h.output, h.size, fun b hb _ => h.block b hb⟩
theorem BelowBut.trans {C : Nat} {a b c : World} (h : BelowBut C a b) (k : BelowBut C b c) : BelowBut C a c := ⟨k.os.trans h.os, k.tape.trans h.tape, k.output.trans h.output, Nat.le_trans h.size k.size, fun x hx hne => (k.block x (Nat.lt_of_lt_of_le hx h.size) hne).trans (h.block x hx hne)⟩
set_option maxRecDepth 100000 in
set_option maxHeartbeats 3200000 in
theorem lf1 (A C : Nat) (s n : Int) (tx : ByteArray) (c3 c4 : Value) (f2 : Nat → Value) (W0 : World) {l : List Value} (Q : Exit → Act → World → Prop) (hQ : ∀ c a d v w, Q (.panic c) (Act.put a d v) w → Q (.panic c) a w) (htx : tx.size ≤ 1000) (hne : A ≠ C) (hA : W0.drew.rowIs A 39 5 (row5 (.int .i64 s) (.int .i64 n) (.string tx) c3 c4)) (hC : W0.drew.rowIs C 39 5 f2)
    (hl : lookL [(1, .pointer (some ⟨A, 0, none⟩)), (2, .pointer (some ⟨C, 0, none⟩))] l = (11, ([(1, .pointer (some ⟨A, 0, none⟩)), (2, .pointer (some ⟨C, 0, none⟩))] : List (Nat × Value)).map (·.2)))
    (hend : ∀ (u : Nat → Value) (W : World), BelowBut C W0.drew W → W.rowIs C 39 5 (row5 (.int .i64 s) (.int .i64 n) (.string tx) (.slice none 0 0) (.slice none 0 0)) → Q .normal ⟨(frL u 11 [(2, .pointer (some ⟨C, 0, none⟩))]).toArray, []⟩ W) : (Code.region 1 lfOps true).wp Tryz.prog Q ⟨l.toArray, []⟩ W0 := by
  obtain ⟨v0, rfl⟩ := look_fr hl
  have hq : NtQ lfOps Q := ⟨lf_neat, hQ⟩
  refine T_start (S := fun W => BelowBut C W0.drew W) (by kernel_rfl) (BelowBut.of_below (Below.refl _ _)) ?_
  clear hl hQ
  generalize W0.drew = B at hA hC hend ⊢
  refine T_z hq [0, 2, 4] (by kernel_rfl) ?_
  refine T_a hq [1, 3, 5] (fun w' h => .cons (ldIntW _ ⟨A, 0, none⟩ (.int .i64 s) ((hA.of_block (h.block _ hA.lt hne)).cell (i := 0) (by omega))) (.cons (ldIntW _ ⟨A, 1, none⟩ (.int .i64 n) ((hA.of_block (h.block _ hA.lt hne)).cell (i := 1) (by omega))) (.cons (ldStrF _ ⟨A, 2, none⟩ (.string tx) ((hA.of_block (h.block _ hA.lt hne)).cell (i := 2) (by omega))) Lds.nil))) (by kernel_rfl) ?_
  refine T_fr 9 11 [6, 7, 8] [(2, .pointer (some ⟨C, 0, none⟩)), (4, .int .i64 s), (6, .int .i64 n), (8, .string tx)] (by kernel_rfl) fun u => ?_
  refine T_one 6 (by kernel_rfl) fun hB => ?_
  refine O_go (clone_any tx B (by omega)) (by kernel_rfl) ?_
  rintro e W1 ⟨rfl, hb1⟩
  refine ⟨_, rfl, BelowBut.of_below hb1, ?_⟩
  refine T_z hq [7] (by kernel_rfl) ?_
  refine T_fr 9 11 [8] [(2, .pointer (some ⟨C, 0, none⟩)), (10, .agg #[.int .i64 s, .int .i64 n, .string tx, .slice none 0 0, .slice none 0 0])] (by kernel_rfl) fun u => ?_
  refine T_one 8 (by kernel_rfl) fun _ => ?_
  obtain ⟨k1, k2⟩ := set5_row (hC.of_block (hb1.block _ hC.lt)) (.int .i64 s) (.int .i64 n) (.string tx) (.slice none 0 0) (.slice none 0 0)
  have k3 := (BelowBut.of_below (C := C) hb1).trans k1
  refine O_store_mid none 39 (.tmp 2) (.tmp 10) C 0 #[.int .i64 s, .int .i64 n, .string tx, .slice none 0 0, .slice none 0 0] (by kernel_rfl) (by kernel_rfl) (by kernel_rfl) (there5w (hC.of_block (hb1.block _ hC.lt))) sizeTr (by rw [← Array.all_toList]; rfl) k3 ?_
  exact T_end 11 [(2, .pointer (some ⟨C, 0, none⟩))] (by kernel_rfl) (by kernel_rfl) fun _ u => hend u _ k3 k2
set_option maxRecDepth 100000 in
set_option maxHeartbeats 1600000 in
theorem leaf1_any (t : Tr) (c : C5) (n : Nat) (a b : Kd) (h : a.sort = b.sort) (h1 : a.sort = 1 ∨ a.sort = 2 ∨ a.sort = 3) (w : World) (hr : Rep (fun x => x < w.heap.size) w t c) (htx : t.text.size ≤ 1000) : Calls Tryz.prog 84 #[.agg #[c.c0, c.c1, c.c2, c.c3, c.c4]] w (TE (widF (n + 1) a b t) w) := by
  rw [widF_leaf h h1]
  obtain ⟨c0, c1, c2, c3, c4⟩ := c
  obtain ⟨g0, g1, g2, i0, i1, i2, ⟨a5, cap5, g3, -, -⟩, a6, cap6, g4, -, -⟩ := hr.open
  simp only at g0 g1 g2 g3 g4
  subst g0 g1 g2 g3 g4
  clear hr
  obtain ⟨hr1, hr2, hbw, hsz⟩ := wd_boxes w t.sort t.num t.text a5 a6 t.names.length cap5 t.kids.length cap6
  have HO := hide (fun w' => own_leaf (w := w') i0 i1 i2)
  have HR1 := hide hr1; have HR2 := hide hr2; have HBW := hide hbw; have HSZ := hide hsz; have HTX := hide htx
  clear hr1 hr2 hbw hsz htx i0 i1 i2 h h1
  go_enter Tryz.func84, Tryz.ntmps84
  go_upto_region 1 with fail
  generalize ((w.alloc (.cells #[.int .i64 t.sort, .int .i64 t.num, .string t.text, .slice a5 t.names.length cap5, .slice a6 t.kids.length cap6] 39)).alloc (.cells #[.int .i64 0, .int .i64 0, .string ⟨#[]⟩, .slice none 0 0, .slice none 0 0] 39)) = W0 at HR1 HR2 HBW HSZ ⊢
  refine wp_swap (c' := Code.region 1 lfOps true) (by kernel_rfl) ?_
  refine wp_region_noPanic ?_
  refine lf1 w.heap.size (w.heap.size + 1) t.sort t.num t.text (.slice a5 t.names.length cap5) (.slice a6 t.kids.length cap6) _ W0 _ (fun c a d v w h => h) (unhide HTX) (by omega) (unhide HR1).drew (unhide HR2).drew (by kernel_rfl) ?_
  intro u W hW hrw
  refine NoPanic.normal ?_
  have HB1 := hide ((unhide HBW).drew.trans (below_but hW ⟨by omega, (unhide HBW).size⟩))
  have m0 := hrw.cell (i := 0) (by omega); have m1 := hrw.cell (i := 1) (by omega); have m2 := hrw.cell (i := 2) (by omega); have m3 := hrw.cell (i := 3) (by omega); have m4 := hrw.cell (i := 4) (by omega)
  simp only [row5] at m0 m1 m2 m3 m4
  clear hW hrw HR1 HR2 HBW HSZ HTX
  have hfr : frL u 11 [(2, .pointer (some ⟨w.heap.size + 1, 0, none⟩))] = u 0 :: u 1 :: .pointer (some ⟨w.heap.size + 1, 0, none⟩) :: (List.range 8).map (fun i => u (i + 3)) := by kernel_rfl
  rw [hfr]
  simp only [List.range, List.range.loop, List.map_cons, List.map_nil]
  go_wp2_with fail
  refine bodyPost_ret (v := .agg #[.int .i64 t.sort, .int .i64 t.num, .string t.text, .slice none 0 0, .slice none 0 0]) (by simp [results, Tryz.results84, go_sem, m0, m1, m2, m3, m4]) rfl ?_
  exact ⟨⟨_, _, _, _, _⟩, [], rfl, unhide HO W, List.nodup_nil, fun b hb => by simp at hb, unhide HB1⟩
end Go.Proofs.YtcpfelaffclalaaGreatDoor

/- The walk of the law's own eqStringS: two slices of the same strings are the same. No conditions. -/

namespace Go.Proofs.YtcpfelaffclalaaGreatDoor
open Go Go.RowKit

set_option maxHeartbeats 400000 in
theorem eqStringS_any (v u : Value) (ss : List ByteArray) (w : World) {P Q : Nat → Prop} (hv : StrsAt P w v ss) (hu : StrsAt Q w u ss) (hP : ∀ b, P b → b < w.heap.size) (hQ : ∀ b, Q b → b < w.heap.size) :
    Calls Tryz.prog 30 #[v, u] w fun e w' => e = .returned (.bool true) ∧ Below w.heap.size w w' := by
  obtain ⟨a, cap, rfl, hlen, hc⟩ := hv
  obtain ⟨a2, cap2, rfl, -, hc2⟩ := hu
  have HC := hide hc; have HC2 := hide hc2; have HP := hide hP; have HQ := hide hQ
  clear hc hc2 hP hQ
  have hne : ((ss.length : Int) != (ss.length : Int)) = false := by simp
  go_enter Tryz.func30, Tryz.ntmps30
  go_wp2_with fail
  clear hne
  go_loopw [5] (fun i wr => ∃ (k : Nat), k ≤ ss.length ∧ i = .int .i64 k ∧ Below w.heap.size w wr) (fun i _ => ss.length - (intOf i).toNat)
  case atStart => exact ⟨0, Nat.zero_le _, rfl, Below.refl _ _⟩
  case round =>
    obtain ⟨k, hk, rfl, hb⟩ := hrel
    by_cases hlt : k < ss.length
    · obtain ⟨b, o, rfl, hpb, hcell, -⟩ := unhide HC k hlt
      obtain ⟨b2, o2, rfl, hpb2, hcell2, -⟩ := unhide HC2 k hlt
      have e1 : wr.cell? ⟨b, o + k, none⟩ = some (.string ss[k]) := by rw [hb.cell (unhide HP b hpb)]; exact hcell
      have e2 : wr.cell? ⟨b2, o2 + k, none⟩ = some (.string ss[k]) := by rw [hb.cell (unhide HQ b2 hpb2)]; exact hcell2
      clear hcell hcell2 hpb hpb2
      go_wp2_with fail
      go_region
      go_wp2_with fail
      go_roundw
      case rel => exact ⟨k + 1, by omega, by go_num, hb.drew⟩
      case measure => simp [intOf]; omega
    · go_wp2_with fail
      go_ret
      exact ⟨rfl, hb⟩
end Go.Proofs.YtcpfelaffclalaaGreatDoor
