/- The walks of kindClaim's holds and of namedKind's kidFor. No conditions but those on the trees' and schemas' shapes that are told. -/
import Derived.Test.YtcpfelaffclalaaGreatDoorPart08
import Derived.Sort.Walk0
import Derived.Deep.RegionWith
namespace Go.Proofs.YtcpfelaffclalaaGreatDoor
open Go Go.RowKit Go.Maps

end Go.Proofs.YtcpfelaffclalaaGreatDoor

/- Of names that rise: they are just the kept ones, if and only if they are the same. No program, no conditions. -/

namespace Go.Proofs.YtcpfelaffclalaaGreatDoor
open Go Go.RowKit Go.Maps

def nlt (a b : ByteArray) : Prop := Op.bytesLess a.toList b.toList = true
theorem nlt_iff (a b : ByteArray) : nlt a b ↔ a.toList < b.toList := by unfold nlt; rw [bytesLess_eq, decide_eq_true_eq]
theorem nlt_irrefl (a : ByteArray) : ¬ nlt a a := by rw [nlt_iff]; exact List.lt_irrefl _
theorem nlt_trans {a b c : ByteArray} (h : nlt a b) (k : nlt b c) : nlt a c := by
  rw [nlt_iff] at *; exact List.lt_trans h k

theorem rise_step {ns : List ByteArray} (h : riseB ns = true) (i : Nat) (hi : i + 1 < ns.length) : nlt ns[i] ns[i + 1] := by
  unfold riseB at h
  rw [List.all_eq_true] at h
  have hg := h (i + 1) (List.mem_range.2 hi)
  unfold good at hg
  rw [Bool.and_eq_true, getD_lt _ _ hi, getD_lt _ _ (show i + 1 - 1 < ns.length by omega)] at hg
  have := hg.2
  rw [decide_eq_false (by omega), Bool.false_or] at this
  exact this
theorem rise_lt {ns : List ByteArray} (h : riseB ns = true) (i : Nat) : ∀ (d : Nat) (hd : i + d + 1 < ns.length), nlt (ns[i]'(by omega)) ns[i + d + 1]
  | 0, hd => rise_step h i hd
  | d + 1, hd => nlt_trans (rise_lt h i d (by omega)) (rise_step h (i + d + 1) hd)
theorem rise_pairs {ns : List ByteArray} (h : riseB ns = true) : ns.Pairwise nlt := by
  rw [List.pairwise_iff_getElem]
  intro i j hi hj hij
  obtain ⟨d, rfl⟩ : ∃ d, j = i + d + 1 := ⟨j - i - 1, by omega⟩
  exact rise_lt h i d hj
theorem rise_nodup {ns : List ByteArray} (h : riseB ns = true) : ns.Nodup :=
  (rise_pairs h).imp (fun {a b} hab e => by subst e; exact nlt_irrefl _ hab)
end Go.Proofs.YtcpfelaffclalaaGreatDoor

/- The walks of the specification's l3Fits, KindFits: whether a schema fits into another one; of what was there nothing has turned. No conditions. -/

namespace Go.Proofs.YtcpfelaffclalaaGreatDoor
open Go Go.RowKit

/-- A schema in the world, whose parts are ok. -/
structure KW (w : World) (k : Kd) (c : C3) : Prop where
  rep : KRep (fun x => x < w.heap.size) w k c
  ok : okD k = true
theorem KW.on {w w' : World} {k : Kd} {c : C3} (h : KW w k c) (hb : Below w.heap.size w w') : KW w' k c :=
  ⟨KRep.carry (fun x hx => hb.block x hx) (fun _ hx => Nat.lt_of_lt_of_le hx hb.size) _ _ h.rep, h.ok⟩
/-- A kid of a schema. -/
theorem KW.kid {w : World} {k : Kd} {c : C3} (h : KW w k c) {i : Nat} (hi : i < k.kids.length) : ∃ (b o cap : Nat) (a1 a2 : Option Addr) (p1 p2 : Nat), c.c2 = .slice (some ⟨b, o, none⟩) k.kids.length cap ∧ b < w.heap.size ∧ w.cell? ⟨b, o + i * 3, none⟩ = some (.int .i64 k.kids[i].sort) ∧ w.cell? ⟨b, o + i * 3 + 1, none⟩ = some (.slice a1 k.kids[i].names.length p1) ∧ w.cell? ⟨b, o + i * 3 + 2, none⟩ = some (.slice a2 k.kids[i].kids.length p2) ∧ KW w k.kids[i] ⟨.int .i64 k.kids[i].sort, .slice a1 k.kids[i].names.length p1, .slice a2 k.kids[i].kids.length p2⟩ := by
  have hok := h.ok
  rw [okD_eq, Bool.and_eq_true] at hok
  obtain ⟨-, -, -, a, cap, e2, -, hks⟩ := h.rep.open
  obtain ⟨zb, zo, ⟨z0, z1, z2⟩, rfl, hpz, ⟨y0, y1, y2⟩, hrz⟩ := hks i hi
  obtain ⟨f0, -, ⟨a9, cap9, f1, -⟩, b9, cbp9, f2, -⟩ := hrz.open
  simp only at f0 f1 f2 y0 y1 y2
  subst f0 f1 f2
  exact ⟨zb, zo, cap, a9, b9, cap9, cbp9, e2, hpz, y0, y1, y2, hrz, okDs_get hok.2 i hi⟩
theorem KW.form {w : World} {k : Kd} {c : C3} (h : KW w k c) : ∃ (a1 a2 : Option Addr) (p1 p2 : Nat), c = ⟨.int .i64 k.sort, .slice a1 k.names.length p1, .slice a2 k.kids.length p2⟩ := by
  obtain ⟨c0, c1, c2⟩ := c
  obtain ⟨e0, -, ⟨a3, cap3, e1, -⟩, a, cap, e2, -⟩ := h.rep.open
  simp only at e0 e1 e2
  exact ⟨a3, a, cap3, cap, by rw [e0, e1, e2]⟩
theorem KW.name {w : World} {k : Kd} {c : C3} (h : KW w k c) {i : Nat} (hi : i < k.names.length) : ∃ (b o cap : Nat), c.c1 = .slice (some ⟨b, o, none⟩) k.names.length cap ∧ b < w.heap.size ∧ w.cell? ⟨b, o + i, none⟩ = some (.string k.names[i]) := by
  obtain ⟨-, -, ⟨a3, cap3, e1, -, hnc⟩, -⟩ := h.rep.open
  obtain ⟨nb, no, rfl, hpn, hcn, -⟩ := hnc i hi
  exact ⟨nb, no, cap3, e1, hpn, hcn⟩
theorem KW.sh {w : World} {k : Kd} {c : C3} (h : KW w k c) : ((k.sort = 1 ∨ k.sort = 2 ∨ k.sort = 3) ∧ k.kids.length = 0 ∧ k.names.length = 0) ∨ ((k.sort = 4 ∨ k.sort = 6) ∧ k.kids.length = 1 ∧ k.names.length = 0) ∨ (k.sort = 5 ∧ k.kids.length = k.names.length ∧ riseB k.names = true) := by
  have hok := h.ok
  rw [okD_eq, Bool.and_eq_true] at hok
  exact shB_cases hok.1
def FitsSaid (n : Nat) : Prop := ∀ (a b : Kd), ksz b ≤ n → ∀ (c d : C3) (w : World), KW w a c → KW w b d →
    Calls Tryz.prog 25 #[.agg #[c.c0, c.c1, c.c2], .agg #[d.c0, d.c1, d.c2]] w fun e w' => e = .returned (.bool (fitF n a b)) ∧ Below w.heap.size w w'
/-- The two boxes of l3Fits. -/
theorem ft_boxes (w : World) (a b : Kd) (a1 a2 b1 b2 : Option Addr) (p1 p2 q1 q2 : Nat) : ((w.alloc (.cells #[.int .i64 a.sort, .slice a1 a.names.length p1, .slice a2 a.kids.length p2] 30)).alloc (.cells #[.int .i64 b.sort, .slice b1 b.names.length q1, .slice b2 b.kids.length q2] 30)).rowIs w.heap.size 30 3 (row3 (.int .i64 a.sort) (.slice a1 a.names.length p1) (.slice a2 a.kids.length p2)) ∧ ((w.alloc (.cells #[.int .i64 a.sort, .slice a1 a.names.length p1, .slice a2 a.kids.length p2] 30)).alloc (.cells #[.int .i64 b.sort, .slice b1 b.names.length q1, .slice b2 b.kids.length q2] 30)).rowIs (w.heap.size + 1) 30 3 (row3 (.int .i64 b.sort) (.slice b1 b.names.length q1) (.slice b2 b.kids.length q2)) ∧ Below w.heap.size w ((w.alloc (.cells #[.int .i64 a.sort, .slice a1 a.names.length p1, .slice a2 a.kids.length p2] 30)).alloc (.cells #[.int .i64 b.sort, .slice b1 b.names.length q1, .slice b2 b.kids.length q2] 30)) := by
  have h2 := row3_alloc (w.alloc (.cells #[.int .i64 a.sort, .slice a1 a.names.length p1, .slice a2 a.kids.length p2] 30)) (.int .i64 b.sort) (.slice b1 b.names.length q1) (.slice b2 b.kids.length q2) 30
  rw [World.size_alloc] at h2
  exact ⟨(row3_alloc w _ _ _ _).alloc _, h2, ((Below.refl _ _).alloc (Nat.le_refl _) _).alloc (by simp) _⟩
section
variable (n : Nat) (IH : FitsSaid n) (a b : Kd) (hn : ksz b ≤ n + 1) (w : World) (a1 a2 b1 b2 : Option Addr) (p1 p2 q1 q2 : Nat)
  (ha : KW w a ⟨.int .i64 a.sort, .slice a1 a.names.length p1, .slice a2 a.kids.length p2⟩) (hb : KW w b ⟨.int .i64 b.sort, .slice b1 b.names.length q1, .slice b2 b.kids.length q2⟩)
include IH hn ha hb
set_option maxRecDepth 100000 in
set_option maxHeartbeats 1600000 in
theorem fits_46 (h : (a.sort = 6 ∧ b.sort = 6) ∨ (a.sort = 4 ∧ b.sort = 4)) :
    Calls Tryz.prog 25 #[.agg #[.int .i64 a.sort, .slice a1 a.names.length p1, .slice a2 a.kids.length p2], .agg #[.int .i64 b.sort, .slice b1 b.names.length q1, .slice b2 b.kids.length q2]] w fun e w' => e = .returned (.bool (fitF (n + 1) a b)) ∧ Below w.heap.size w w' := by
  have hka : a.kids.length = 1 := by rcases ha.sh with h | h | h <;> omega
  have hkb : b.kids.length = 1 := by rcases hb.sh with h | h | h <;> omega
  have hfit : fitF (n + 1) a b = fitF n (a.kids[0]'(by omega)) (b.kids[0]'(by omega)) := by
    rcases h with h | h
    · exact fit_mm h.2 h.1 _ _
    · exact fit_ll h.2 h.1 _ _
  obtain ⟨hra, hrb, hbw⟩ := ft_boxes w a b a1 a2 b1 b2 p1 p2 q1 q2
  obtain ⟨xb, xo, xc, x1, x2, r1, r2, ex, hxl, x0, x3, x4, hx⟩ := ha.kid (i := 0) (by omega)
  obtain ⟨yb, yo, yc, y1, y2, s1, s2, ey, hyl, y0, y3, y4, hy⟩ := hb.kid (i := 0) (by omega)
  simp only [Value.slice.injEq] at ex ey
  obtain ⟨rfl, -, rfl⟩ := ex
  obtain ⟨rfl, -, rfl⟩ := ey
  rw [hfit]
  have hsm : ksz (b.kids[0]'(by omega)) ≤ n := by have := ksz_kid (List.getElem_mem (show 0 < b.kids.length by omega)); omega
  have hcall : ∀ W, Below w.heap.size w W → Calls Tryz.prog 25 #[.agg #[.int .i64 (a.kids[0]'(by omega)).sort, .slice x1 (a.kids[0]'(by omega)).names.length r1, .slice x2 (a.kids[0]'(by omega)).kids.length r2], .agg #[.int .i64 (b.kids[0]'(by omega)).sort, .slice y1 (b.kids[0]'(by omega)).names.length s1, .slice y2 (b.kids[0]'(by omega)).kids.length s2]] W fun e w' => e = .returned (.bool (fitF n (a.kids[0]'(by omega)) (b.kids[0]'(by omega)))) ∧ Hid (Below w.heap.size w w') := fun W hW =>
    (IH _ _ hsm ⟨_, _, _⟩ ⟨_, _, _⟩ W (hx.on hW) (hy.on hW)).mono fun e w' ⟨h1, h2⟩ => ⟨h1, hW.trans (h2.mono hW.size)⟩
  generalize (a.kids[0]'(by omega)) = ka at *
  generalize (b.kids[0]'(by omega)) = kb at *
  rw [hka] at hra hbw ⊢
  rw [hkb] at hrb hbw ⊢
  rw [hkb] at hra
  rw [hka] at hrb
  have HCALL := hide hcall
  clear IH hn ha hb hx hy hsm hcall hfit
  have hxl' : xb ≠ w.heap.size ∧ xb ≠ w.heap.size + 1 := ⟨by omega, by omega⟩
  have g0 := (hbw.cell (show (⟨xb, xo + 0 * 3, none⟩ : Addr).block < w.heap.size from hxl)); have g1 := (hbw.cell (show (⟨xb, xo + 0 * 3 + 1, none⟩ : Addr).block < w.heap.size from hxl)); have g2 := (hbw.cell (show (⟨xb, xo + 0 * 3 + 2, none⟩ : Addr).block < w.heap.size from hxl))
  have h0 := (hbw.cell (show (⟨yb, yo + 0 * 3, none⟩ : Addr).block < w.heap.size from hyl)); have h1 := (hbw.cell (show (⟨yb, yo + 0 * 3 + 1, none⟩ : Addr).block < w.heap.size from hyl)); have h2 := (hbw.cell (show (⟨yb, yo + 0 * 3 + 2, none⟩ : Addr).block < w.heap.size from hyl))
  rw [x0] at g0; rw [x3] at g1; rw [x4] at g2; rw [y0] at h0; rw [y3] at h1; rw [y4] at h2
  simp only [Nat.zero_mul, Nat.add_zero] at g0 g1 g2 h0 h1 h2
  have HBW := hide hbw
  have e0 := hra.cell (i := 0) (by omega); have e2 := hra.cell (i := 2) (by omega); have f0 := hrb.cell (i := 0) (by omega); have f2 := hrb.cell (i := 2) (by omega)
  simp only [row3] at e0 e2 f0 f2
  clear x0 x3 x4 y0 y3 y4 hra hrb hxl'
  rcases h with ⟨hs1, hs2⟩ | ⟨hs1, hs2⟩
  · have ht1 : (b.sort == 6) = true := by rw [hs2]; rfl
    have ht2 : (a.sort == 6) = true := by rw [hs1]; rfl
    clear hs1 hs2 hka hkb hbw
    go_enter Tryz.func25, Tryz.ntmps25
    go_wp2_with fail
    generalize ((w.alloc (.cells #[.int .i64 a.sort, .slice a1 a.names.length p1, .slice (some ⟨xb, xo, none⟩) 1 p2] 30)).alloc (.cells #[.int .i64 b.sort, .slice b1 b.names.length q1, .slice (some ⟨yb, yo, none⟩) 1 q2] 30)) = W0 at *
    go_region_with (go_at_call 25; refine (unhide HCALL _ ((unhide HBW).drew)).mono ?_; rintro e w6 ⟨rfl, HB6⟩)
    all_goals
      go_wp2_with fail
      go_ret
      exact ⟨rfl, unhide HB6⟩
  · have ht1 : (b.sort == 6) = false := by rw [hs2]; rfl
    have ht2 : (a.sort != b.sort) = false := by rw [hs1, hs2]; rfl
    have ht3 : (a.sort == 4) = true := by rw [hs1]; rfl
    clear hs1 hs2 hka hkb hbw
    go_enter Tryz.func25, Tryz.ntmps25
    go_wp2_with fail
    generalize ((w.alloc (.cells #[.int .i64 a.sort, .slice a1 a.names.length p1, .slice (some ⟨xb, xo, none⟩) 1 p2] 30)).alloc (.cells #[.int .i64 b.sort, .slice b1 b.names.length q1, .slice (some ⟨yb, yo, none⟩) 1 q2] 30)) = W0 at *
    go_region_with (go_at_call 25; refine (unhide HCALL _ ((unhide HBW).drew)).mono ?_; rintro e w6 ⟨rfl, HB6⟩)
    all_goals
      go_wp2_with fail
      go_ret
      exact ⟨rfl, unhide HB6⟩
set_option maxRecDepth 100000 in
set_option maxHeartbeats 1600000 in
theorem fits_xm (hs1 : a.sort ≠ 6) (hs2 : b.sort = 6) :
    Calls Tryz.prog 25 #[.agg #[.int .i64 a.sort, .slice a1 a.names.length p1, .slice a2 a.kids.length p2], .agg #[.int .i64 b.sort, .slice b1 b.names.length q1, .slice b2 b.kids.length q2]] w fun e w' => e = .returned (.bool (fitF (n + 1) a b)) ∧ Below w.heap.size w w' := by
  have hkb : b.kids.length = 1 := by rcases hb.sh with h | h | h <;> omega
  have hfit : fitF (n + 1) a b = fitF n a (b.kids[0]'(by omega)) := fit_xm hs2 hs1 _
  obtain ⟨hra, hrb, hbw⟩ := ft_boxes w a b a1 a2 b1 b2 p1 p2 q1 q2
  obtain ⟨yb, yo, yc, y1, y2, s1, s2, ey, hyl, y0, y3, y4, hy⟩ := hb.kid (i := 0) (by omega)
  simp only [Value.slice.injEq] at ey
  obtain ⟨rfl, -, rfl⟩ := ey
  rw [hfit]
  have hsm : ksz (b.kids[0]'(by omega)) ≤ n := by have := ksz_kid (List.getElem_mem (show 0 < b.kids.length by omega)); omega
  have hcall : ∀ W, Below w.heap.size w W → Calls Tryz.prog 25 #[.agg #[.int .i64 a.sort, .slice a1 a.names.length p1, .slice a2 a.kids.length p2], .agg #[.int .i64 (b.kids[0]'(by omega)).sort, .slice y1 (b.kids[0]'(by omega)).names.length s1, .slice y2 (b.kids[0]'(by omega)).kids.length s2]] W fun e w' => e = .returned (.bool (fitF n a (b.kids[0]'(by omega)))) ∧ Hid (Below w.heap.size w w') := fun W hW =>
    (IH _ _ hsm ⟨_, _, _⟩ ⟨_, _, _⟩ W (ha.on hW) (hy.on hW)).mono fun e w' ⟨h1, h2⟩ => ⟨h1, hW.trans (h2.mono hW.size)⟩
  generalize (b.kids[0]'(by omega)) = kb at *
  rw [hkb] at hra hrb hbw ⊢
  have HCALL := hide hcall
  clear IH hn ha hb hy hsm hcall hfit
  have h0 := (hbw.cell (show (⟨yb, yo + 0 * 3, none⟩ : Addr).block < w.heap.size from hyl)); have h1 := (hbw.cell (show (⟨yb, yo + 0 * 3 + 1, none⟩ : Addr).block < w.heap.size from hyl)); have h2 := (hbw.cell (show (⟨yb, yo + 0 * 3 + 2, none⟩ : Addr).block < w.heap.size from hyl))
  rw [y0] at h0; rw [y3] at h1; rw [y4] at h2
  simp only [Nat.zero_mul, Nat.add_zero] at h0 h1 h2
  have HBW := hide hbw
  have e0 := hra.cell (i := 0) (by omega); have e1 := hra.cell (i := 1) (by omega); have e2 := hra.cell (i := 2) (by omega); have f0 := hrb.cell (i := 0) (by omega); have f2 := hrb.cell (i := 2) (by omega)
  simp only [row3] at e0 e1 e2 f0 f2
  have ht1 : (b.sort == 6) = true := by rw [hs2]; rfl
  have ht2 : (a.sort == 6) = false := by rw [beq_eq_false_iff_ne]; exact hs1
  clear y0 y3 y4 hra hrb hs1 hs2 hkb hbw
  go_enter Tryz.func25, Tryz.ntmps25
  go_wp2_with fail
  generalize ((w.alloc (.cells #[.int .i64 a.sort, .slice a1 a.names.length p1, .slice a2 a.kids.length p2] 30)).alloc (.cells #[.int .i64 b.sort, .slice b1 b.names.length q1, .slice (some ⟨yb, yo, none⟩) 1 q2] 30)) = W0 at *
  go_region_with (go_at_call 25; refine (unhide HCALL _ ((unhide HBW).drew)).mono ?_; rintro e w6 ⟨rfl, HB6⟩)
  all_goals
    go_wp2_with fail
    go_ret
    exact ⟨rfl, unhide HB6⟩
end
set_option maxRecDepth 100000 in
set_option maxHeartbeats 1600000 in
theorem fits_ne (n : Nat) (a b : Kd) (w : World) (a1 a2 b1 b2 : Option Addr) (p1 p2 q1 q2 : Nat) (hs1 : a.sort ≠ b.sort) (hs2 : b.sort ≠ 6) :
    Calls Tryz.prog 25 #[.agg #[.int .i64 a.sort, .slice a1 a.names.length p1, .slice a2 a.kids.length p2], .agg #[.int .i64 b.sort, .slice b1 b.names.length q1, .slice b2 b.kids.length q2]] w fun e w' => e = .returned (.bool (fitF (n + 1) a b)) ∧ Below w.heap.size w w' := by
  rw [fit_ne hs2 hs1]
  obtain ⟨hra, hrb, hbw⟩ := ft_boxes w a b a1 a2 b1 b2 p1 p2 q1 q2
  have ht1 : (b.sort == 6) = false := by rw [beq_eq_false_iff_ne]; exact hs2
  have ht2 : (a.sort != b.sort) = true := by simpa using hs1
  have HBW := hide hbw
  clear hra hrb hbw hs1 hs2
  go_enter Tryz.func25, Tryz.ntmps25
  go_wp2_with fail
  go_ret
  exact ⟨rfl, unhide HBW⟩
end Go.Proofs.YtcpfelaffclalaaGreatDoor
