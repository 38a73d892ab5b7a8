/- The walk of the specification's l4Reader.num: it answers some number; where the bytes are those of a number, just that. No conditions. -/
import Derived.Test.YtffdofllebbcgaaDoorWUnS
import Derived.Test.YtffdofllebbcgaaDoorWUnN
import Derived.Test.YtffdofllebbcgaaDoorMerged07
import Derived.Test.YtffdofllebbcgaaDoorMerged11
import Derived.Test.YtffdofllebbcgaaDoorMerged03
namespace Go.Proofs.YtffdofllebbcgaaDoor
open Go Go.RowKit

theorem sevB_head {m : Nat} {l rest : List UInt8} {x : UInt8} (h : x :: l = sevB m ++ rest) : (m ≤ 127 ∧ x.toNat = m ∧ l = rest) ∨ (127 < m ∧ x.toNat = 128 + m % 128 ∧ l = sevB (m / 128) ++ rest) := by
  by_cases hm : 127 < m
  · rw [sevB_more hm] at h
    simp only [List.cons_append, List.cons.injEq] at h
    refine Or.inr ⟨hm, ?_, h.2⟩
    rw [h.1]; simp; omega
  · rw [sevB_last hm] at h
    simp only [List.cons_append, List.nil_append, List.cons.injEq] at h
    refine Or.inl ⟨by omega, ?_, h.2⟩
    rw [h.1]; simp; omega

/-- What is known of the loop of num, if the bytes were those of a number. -/
def NumOk (b : List UInt8) (a0 a' : Nat) (bad0 bad' : Bool) (j n p : Nat) : Prop :=
  ∀ m rest, bad0 = false → m ≤ 999999999 → b.drop a0 = sevB m ++ rest → bad' = false ∧ ∃ m', b.drop a' = sevB m' ++ rest ∧ n + m' * p = m ∧ (j = 0 ∨ 0 < m')

theorem pow_five {j : Nat} (h : j ≤ 5) : 128 ^ j ≤ 34359738368 ∧ 0 < 128 ^ j := by
  rcases (show j = 0 ∨ j = 1 ∨ j = 2 ∨ j = 3 ∨ j = 4 ∨ j = 5 by omega) with rfl | rfl | rfl | rfl | rfl | rfl <;> decide

/-- What the specification's num comes to. -/
def NuEnd (R : Nat) (w w' : World) (v : Value) (b : List UInt8) (a : Nat) (bad : Bool) (e : Ending) : Prop :=
  ∃ (u : Int) (a' : Nat) (bad' : Bool), e = .returned (.int .i64 u) ∧ I64 u ∧ SR R w' v b a' bad' ∧ But R w w' ∧ (bad = false → ∀ x rest, x.natAbs ≤ 999999999 → b.drop a = numB x ++ rest → u = x ∧ bad' = false ∧ b.drop a' = rest)

/-- The specification's one, whatever comes. -/
theorem one_any (R : Nat) (w : World) (v : Value) (b : List UInt8) (a : Nat) (bad : Bool) (h : SR R w v b a bad) :
    Calls Tryd.prog 37 #[.pointer (some ⟨R, 0, none⟩)] w fun e w' => ∃ (x a1 : Nat) (bad1 : Bool), e = .returned (.int .i64 (x : Int)) ∧ x ≤ 255 ∧ Hid (SR R w' v b a1 bad1) ∧ Hid (But R w w') ∧ Hid ((∃ l, b.drop a = UInt8.ofNat x :: l ∧ l = b.drop a1 ∧ bad1 = bad ∧ a < a1) ∨ (b.drop a = [] ∧ x = 0 ∧ bad1 = true ∧ a1 = a)) := by
  by_cases hlt : a < b.length
  · refine (one_yes R w v b a bad h hlt).mono ?_
    rintro e w' ⟨rfl, h1, h2⟩
    have := b[a].toNat_lt
    exact ⟨b[a].toNat, a + 1, bad, rfl, by omega, h1, h2, Or.inl ⟨b.drop (a + 1), by rw [u8_back]; exact List.drop_eq_getElem_cons hlt, rfl, rfl, by omega⟩⟩
  · refine (one_no R w v b a bad h (by omega)).mono ?_
    rintro e w' ⟨rfl, h1, h2⟩
    exact ⟨0, a, true, rfl, by omega, h1, h2, Or.inr ⟨List.drop_eq_nil_of_le (by omega), rfl, rfl, rfl⟩⟩

theorem NumOk.more {b : List UInt8} {a0 a' a2 : Nat} {bad0 bad' bad2 : Bool} {j n p x : Nat} (h : NumOk b a0 a' bad0 bad' j n p) (hx : x ≤ 255) (h128 : ¬ x < 128)
    (hc : (∃ l, b.drop a' = UInt8.ofNat x :: l ∧ l = b.drop a2 ∧ bad2 = bad' ∧ a' < a2) ∨ (b.drop a' = [] ∧ x = 0 ∧ bad2 = true ∧ a2 = a')) : NumOk b a0 a2 bad0 bad2 (j + 1) (n + x % 128 * p) (p * 128) := by
  intro m rest h0 hm hd
  obtain ⟨h1, m', h2, h3, h4⟩ := h m rest h0 hm hd
  rcases hc with ⟨l, e1, e2, e3, -⟩ | ⟨-, e2, -⟩
  · rw [e1] at h2
    have hxx : (UInt8.ofNat x).toNat = x := by simp; omega
    rcases sevB_head h2 with ⟨q1, q2, -⟩ | ⟨q1, q2, q3⟩
    · omega
    · refine ⟨by rw [e3]; exact h1, m' / 128, by rw [← e2]; exact q3, ?_, Or.inr (by omega)⟩
      have hx2 : x % 128 = m' % 128 := by omega
      rw [hx2, ← h3]
      have : m' * p = m' % 128 * p + m' / 128 * (p * 128) := by
        have h5 : m' = m' % 128 + m' / 128 * 128 := by omega
        rw [Nat.mul_comm p 128, ← Nat.mul_assoc, ← Nat.add_mul, ← h5]
      omega
  · omega

theorem NumOk.last {b : List UInt8} {a0 a' a2 : Nat} {bad0 bad' bad2 : Bool} {j n p x : Nat} (h : NumOk b a0 a' bad0 bad' j n p) (hx : x ≤ 255) (h128 : x < 128)
    (hc : (∃ l, b.drop a' = UInt8.ofNat x :: l ∧ l = b.drop a2 ∧ bad2 = bad' ∧ a' < a2) ∨ (b.drop a' = [] ∧ x = 0 ∧ bad2 = true ∧ a2 = a')) (m : Nat) (rest : List UInt8) (h0 : bad0 = false) (hm : m ≤ 999999999) (hd : b.drop a0 = sevB m ++ rest) :
    n + x % 128 * p = m ∧ bad2 = false ∧ b.drop a2 = rest := by
  obtain ⟨h1, m', h2, h3, h4⟩ := h m rest h0 hm hd
  rcases hc with ⟨l, e1, e2, e3, -⟩ | ⟨e1, -, -⟩
  · rw [e1] at h2
    have hxx : (UInt8.ofNat x).toNat = x := by simp; omega
    rcases sevB_head h2 with ⟨q1, q2, q3⟩ | ⟨q1, q2, -⟩
    · refine ⟨?_, by rw [e3]; exact h1, by rw [← e2]; exact q3⟩
      rw [Nat.mod_eq_of_lt h128, show x = m' from by omega]; exact h3
    · omega
  · rw [e1] at h2
    by_cases hm' : 127 < m'
    · rw [sevB_more hm'] at h2; cases h2
    · rw [sevB_last hm'] at h2; cases h2

theorem NumOk.over {b : List UInt8} {a0 a' : Nat} {bad0 bad' : Bool} {n p : Nat} (h : NumOk b a0 a' bad0 bad' 5 n p) (hp : p = 34359738368) (m : Nat) (rest : List UInt8) (h0 : bad0 = false) (hm : m ≤ 999999999) (hd : b.drop a0 = sevB m ++ rest) : False := by
  obtain ⟨-, m', -, h3, h4⟩ := h m rest h0 hm hd
  subst hp
  omega

set_option maxRecDepth 100000 in
set_option maxHeartbeats 3200000 in
theorem numS_any (R : Nat) (w : World) (v : Value) (b : List UInt8) (a : Nat) (bad : Bool) (h : SR R w v b a bad) :
    Calls Tryd.prog 61 #[.pointer (some ⟨R, 0, none⟩)] w fun e w' => NuEnd R w w' v b a bad e := by
  have HN := hide (one_any R w v b a bad h)
  clear h
  go_enter Tryd.func61, Tryd.ntmps61
  go_wp2_with fail
  refine (unhide HN).mono ?_
  rintro e w1 ⟨ng, a1, bad1, rfl, hng, HS1, HB1, HC1⟩
  have HFIN : Hid (bad = false → ∀ (x : Int) rest, x.natAbs ≤ 999999999 → b.drop a = numB x ++ rest → bad1 = false ∧ b.drop a1 = sevB x.natAbs ++ rest ∧ (x < 0 ↔ ng = 1)) := fun hb x rest hx hd => by
    rcases HC1.out with ⟨l, e1, e2, e3, -⟩ | ⟨e1, -⟩
    · rw [e1, numB, List.cons_append] at hd
      simp only [List.cons.injEq] at hd
      refine ⟨by rw [e3]; exact hb, by rw [← e2]; exact hd.2, ?_⟩
      have hv := congrArg UInt8.toNat hd.1
      rw [show (UInt8.ofNat ng).toNat = ng from by simp; omega] at hv
      by_cases hneg : x < 0
      · rw [if_pos hneg] at hv; simp at hv; omega
      · rw [if_neg hneg] at hv; simp at hv; omega
    · rw [e1, numB] at hd; cases hd
  clear HN HC1
  go_wp2_with fail
  go_loopw [4, 5, 6] (fun nn pl kk wr => ∃ (j n p a' : Nat) (bad' : Bool), nn = .int .i64 (n : Int) ∧ pl = .int .i64 (p : Int) ∧ kk = .int .i64 (j : Int) ∧ j ≤ 5 ∧ Hid (p = 128 ^ j) ∧ n < p ∧ p ≤ 34359738368 ∧ Hid (SR R wr v b a' bad') ∧ Hid (But R w wr) ∧ Hid (NumOk b a1 a' bad1 bad' j n p)) (fun _ _ kk _ => 5 - (intOf kk).toNat)
  case atStart => exact ⟨0, 0, 1, a1, bad1, rfl, rfl, rfl, by omega, rfl, by omega, by omega, HS1, HB1, fun m rest h0 _ hd => ⟨h0, m, hd, by omega, Or.inl rfl⟩⟩
  case round =>
    clear HS1 HB1
    obtain ⟨j, n, p, a', bad', rfl, rfl, rfl, hj, HP, hnp, hp9, HS, HB, HNO⟩ := hrel
    by_cases hj5 : j < 5
    · have hpb := pow_bound (r := j) hj5
      rw [← HP.out] at hpb
      obtain ⟨hpb1, hpb0⟩ := hpb
      have HN := hide (one_any R wr v b a' bad' HS.out)
      have hp2 : p * 128 = 128 ^ (j + 1) := by rw [HP.out, Nat.pow_succ]
      have HP2 := hide hp2
      clear hp2 HP
      go_wp2_with fail
      refine (unhide HN).mono ?_
      rintro e w2 ⟨x, a2, bad2, rfl, hx, HS2, HB2, HC2⟩
      obtain ⟨q, hq⟩ : ∃ q, q = x % 128 * p := ⟨_, rfl⟩
      have hqi : ((x : Int) % 128) * (p : Int) = (q : Int) := by rw [hq]; simp
      have hqb : q ≤ 127 * 268435456 := by rw [hq]; exact Nat.mul_le_mul (by omega) hpb1
      have hql : q ≤ 127 * p := by rw [hq]; exact Nat.mul_le_mul_right p (by omega)
      by_cases h128 : x < 128
      · have hl := fun m rest h0 hm hd => NumOk.last HNO.out hx h128 HC2.out m rest h0 hm hd
        rw [← hq] at hl
        have HL := hide hl
        have HB3 := hide (HB.out.trans HB2.out)
        clear hl hq HN HNO HC2
        by_cases hn1 : ng = 1
        · subst hn1
          go_wp2_with fail
          go_ret
          refine ⟨_, a2, bad2, rfl, ⟨by omega, by omega⟩, HS2.out, unhide HB3, fun hb y rest hy hd => ?_⟩
          obtain ⟨g1, g2, g3⟩ := HFIN.out hb y rest hy hd
          obtain ⟨k1, k2, k3⟩ := unhide HL _ rest g1 (by omega) g2
          have := g3.2 (by first | rfl | trivial)
          exact ⟨by omega, k2, k3⟩
        · have hn1b : ((ng : Int) == 1) = false := by simp; omega
          go_wp2_with fail
          go_ret
          refine ⟨_, a2, bad2, rfl, ⟨by omega, by omega⟩, HS2.out, unhide HB3, fun hb y rest hy hd => ?_⟩
          obtain ⟨g1, g2, g3⟩ := HFIN.out hb y rest hy hd
          obtain ⟨k1, k2, k3⟩ := unhide HL _ rest g1 (by omega) g2
          have : ¬ y < 0 := fun hh => hn1 (g3.1 hh)
          exact ⟨by omega, k2, k3⟩
      · have hm := NumOk.more HNO.out hx h128 HC2.out
        rw [← hq] at hm
        have HM := hide hm
        have HB3 := hide (HB.out.trans HB2.out)
        clear hm hq HN HNO HC2
        go_wp2_with fail
        go_roundw
        case rel => exact ⟨j + 1, n + q, p * 128, a2, bad2, rfl, by go_num, by go_num, by omega, HP2, by omega, by omega, HS2, HB3, HM⟩
        case measure => simp [intOf]; omega
    · have hj6 : j = 5 := by omega
      have hpp : p = 34359738368 := by rw [HP.out, hj6]
      subst hj6
      have HOV := hide (fun m rest h0 hm hd => NumOk.over HNO.out hpp m rest h0 hm hd)
      clear HNO HP
      by_cases hn1 : ng = 1
      · subst hn1
        go_wp2_with fail
        go_ret
        refine ⟨_, a', bad', rfl, ⟨by omega, by omega⟩, HS.out, HB.out, fun hb y rest hy hd => ?_⟩
        obtain ⟨g1, g2, g3⟩ := HFIN.out hb y rest hy hd
        exact (unhide HOV _ rest g1 (by omega) g2).elim
      · have hn1b : ((ng : Int) == 1) = false := by simp; omega
        go_wp2_with fail
        go_ret
        refine ⟨_, a', bad', rfl, ⟨by omega, by omega⟩, HS.out, HB.out, fun hb y rest hy hd => ?_⟩
        obtain ⟨g1, g2, g3⟩ := HFIN.out hb y rest hy hd
        exact (unhide HOV _ rest g1 (by omega) g2).elim
end Go.Proofs.YtffdofllebbcgaaDoor

/- The first tree of a schema, as plain data; trees gathered in a row of the call's own. Definitions and small laws; no program walked, no conditions. -/

namespace Go.Proofs.YtffdofllebbcgaaDoor
open Go Go.RowKit

mutual
/-- The first tree of a schema that is ok. -/
def fT : Kd → Tr
  | .mk s ns ks => if s = 5 then .mk 5 0 ByteArray.empty ns (fTs ks) else .mk s 0 ByteArray.empty [] []
def fTs : List Kd → List Tr
  | [] => []
  | t :: r => fT t :: fTs r
end
theorem fT_form {t : Kd} (h : t.sort = 5) : fT t = .mk 5 0 ByteArray.empty t.names (fTs t.kids) := by
  obtain ⟨s, ns, ks⟩ := t; have h' : s = 5 := h; rw [fT, if_pos h']; rfl
theorem fT_else {t : Kd} (h : t.sort ≠ 5) : fT t = .mk t.sort 0 ByteArray.empty [] [] := by
  obtain ⟨s, ns, ks⟩ := t; have h' : s ≠ 5 := h; rw [fT, if_neg h']; rfl
theorem fTs_map (ks : List Kd) : fTs ks = ks.map fT := by
  induction ks with
  | nil => rw [fTs]; rfl
  | cons a r ih => rw [fTs, ih]; rfl

def c5l (c : C5) : List Value := [c.c0, c.c1, c.c2, c.c3, c.c4]

/-- Trees whose cells stand in a row, each in blocks of its own. -/
def OwnL (w : World) : List Tr → List Value → List Nat → Prop
  | [], xs, G => xs = [] ∧ G = []
  | t :: r, xs, G => ∃ c F G' xs', xs = c5l c ++ xs' ∧ G = F ++ G' ∧ Own w t c F ∧ OwnL w r xs' G'

theorem OwnL.snoc {w : World} {ks : List Tr} {xs : List Value} {G F : List Nat} {t : Tr} {c : C5} (h : OwnL w ks xs G) (ht : Own w t c F) : OwnL w (ks ++ [t]) (xs ++ c5l c) (G ++ F) := by
  induction ks generalizing xs G with
  | nil =>
    obtain ⟨rfl, rfl⟩ := h
    exact ⟨c, F, [], [], by simp, by simp, ht, rfl, rfl⟩
  | cons a r ih =>
    obtain ⟨d, F1, G', xs', rfl, rfl, h1, h2⟩ := h
    exact ⟨d, F1, G' ++ F, xs' ++ c5l c, by simp, by simp, h1, ih h2⟩

theorem OwnL.carry {w w' : World} {ks : List Tr} {xs : List Value} {G : List Nat} (h : OwnL w ks xs G) (hb : ∀ b, b ∈ G → w'.heap[b]? = w.heap[b]?) : OwnL w' ks xs G := by
  induction ks generalizing xs G with
  | nil => exact h
  | cons a r ih =>
    obtain ⟨d, F1, G', xs', rfl, rfl, h1, h2⟩ := h
    exact ⟨d, F1, G', xs', rfl, rfl, Own.carry a d F1 (fun b hb' => hb b (by simp [hb'])) h1, ih h2 (fun b hb' => hb b (by simp [hb']))⟩

theorem OwnL.ownK {w : World} {g : Nat} {ks : List Tr} {xs : List Value} {G : List Nat} {o : Nat} (h : OwnL w ks xs G) (hc : ∀ j u, xs[j]? = some u → w.cell? ⟨g, o + j, none⟩ = some u) : OwnK w g o ks G := by
  induction ks generalizing xs G o with
  | nil => rw [OwnK]; exact h.2
  | cons a r ih =>
    obtain ⟨d, F1, G', xs', rfl, rfl, h1, h2⟩ := h
    rw [OwnK]
    refine ⟨F1, G', d, rfl, ⟨hc 0 _ rfl, hc 1 _ rfl, hc 2 _ rfl, hc 3 _ rfl, hc 4 _ rfl⟩, h1, ih h2 (fun j u hj => ?_)⟩
    have := hc (5 + j) u (by
      rw [List.getElem?_append_right (by simp [c5l]), show 5 + j - (c5l d).length = j from by simp [c5l]]; exact hj)
    rw [show o + 5 + j = o + (5 + j) from by omega]; exact this

/-- What the loop has gathered: trees in a row of the call's own. -/
structure GotO (base : Nat) (w : World) (v : Value) (ks : List Tr) (xs : List Value) (G : List Nat) : Prop where
  row : w.ownsRow base 32 5 v ks.length xs
  own : OwnL w ks xs G
  nodup : G.Nodup
  lt : ∀ b, b ∈ G → base ≤ b ∧ b < w.heap.size ∧ v.ownBlock ≠ some b

theorem GotO.start (base : Nat) (w : World) : GotO base w (.slice none 0 0) [] [] [] :=
  ⟨World.ownsRow_nil _ _ _ _, ⟨rfl, rfl⟩, List.nodup_nil, fun b hb => by simp at hb⟩

/-- A world in which nothing at or beyond the base has turned that was there. -/
theorem GotO.kept {base : Nat} {w w' : World} {v : Value} {ks : List Tr} {xs : List Value} {G : List Nat} (h : GotO base w v ks xs G) (hg : w.grownBy w' none) : GotO base w' v ks xs G :=
  ⟨h.row.kept hg (by
      rcases e : v.ownBlock with _ | g
      · exact Or.inl rfl
      · exact Or.inr (by simp)), h.own.carry (fun b hb => hg.block b (h.lt b hb).2.1 (by simp)), h.nodup, fun b hb => ⟨(h.lt b hb).1, Nat.lt_of_lt_of_le (h.lt b hb).2.1 hg.size, (h.lt b hb).2.2⟩⟩

/-- One tree more: its blocks are newer than all that was gathered. -/
theorem GotO.push {base m : Nat} {w w' : World} {v v' : Value} {ks : List Tr} {xs : List Value} {G F : List Nat} {t : Tr} {c : C5} (h : GotO base w v ks xs G) (ht : Own w t c F) (hnd : F.Nodup) (hF : ∀ b, b ∈ F → m ≤ b ∧ b < w.heap.size)
    (hGm : ∀ b, b ∈ G → b < m) (hvm : ∀ b, v.ownBlock = some b → b < m) (hbm : base ≤ m)
    (hown : w'.ownsRow base 32 5 v' (ks.length + 1) (xs ++ c5l c)) (hg : w.grownBy w' v.ownBlock) (hv : v'.ownBlock = v.ownBlock ∨ ∃ g, v'.ownBlock = some g ∧ w.heap.size ≤ g) :
    GotO base w' v' (ks ++ [t]) (xs ++ c5l c) (G ++ F) := by
  have hkG : ∀ b, b ∈ G → w'.heap[b]? = w.heap[b]? := fun b hb => hg.block b (h.lt b hb).2.1 (fun e => (h.lt b hb).2.2 e.symm)
  have hkF : ∀ b, b ∈ F → w'.heap[b]? = w.heap[b]? := fun b hb => hg.block b (hF b hb).2 (fun e => by have := hvm b e.symm; have := (hF b hb).1; omega)
  refine ⟨by simpa using hown, (h.own.carry hkG).snoc (Own.carry t c F hkF ht), List.nodup_append.2 ⟨h.nodup, hnd, fun a ha b hb e => by have := hGm a ha; have := (hF b hb).1; omega⟩, fun b hb => ?_⟩
  rcases List.mem_append.1 hb with hb | hb
  · refine ⟨(h.lt b hb).1, Nat.lt_of_lt_of_le (h.lt b hb).2.1 hg.size, ?_⟩
    rcases hv with e | ⟨g, e, hge⟩
    · rw [e]; exact (h.lt b hb).2.2
    · rw [e]; intro e2; simp only [Option.some.injEq] at e2; have := (h.lt b hb).2.1; omega
  · refine ⟨by have := (hF b hb).1; omega, Nat.lt_of_lt_of_le (hF b hb).2 hg.size, ?_⟩
    rcases hv with e | ⟨g, e, hge⟩
    · rw [e]; intro e2; have := hvm b e2; have := (hF b hb).1; omega
    · rw [e]; intro e2; simp only [Option.some.injEq] at e2; have := (hF b hb).2; omega

theorem freeOfHeap {w : World} {g : Nat} {cur : Array Value} {e : TypeId} (h : w.heap[g]? = some (.cells cur e (0, 0))) : FreeB w g := fun o => by simp [World.frozen?, h]

/-- A row of strings of the call's own. -/
theorem strsOwn_of_row {base : Nat} {w : World} {v : Value} {ss : List ByteArray} (h : w.ownsRow base 9 1 v ss.length (ss.map Value.string)) (hs : ∀ x, x ∈ ss → x.size ≤ 9223372036854775807) :
    ∃ F, StrsOwn w v ss F ∧ F.Nodup ∧ (∀ b, b ∈ F → base ≤ b ∧ b < w.heap.size) ∧ ∀ b, b ∈ F → v.ownBlock = some b := by
  rcases h.2 with ⟨hv, hn0⟩ | ⟨g, cap, cur, hv, hgb, hh, hle, hm2, hsz, htk⟩
  · have hss : ss = [] := List.eq_nil_of_length_eq_zero hn0
    subst hss
    exact ⟨[], ⟨none, 0, hv, by simp, Or.inl ⟨rfl, rfl⟩⟩, List.nodup_nil, fun b hb => by simp at hb, fun b hb => by simp at hb⟩
  · refine ⟨[g], ⟨some ⟨g, 0, none⟩, cap, hv, by unfold maxLen at hm2; omega, Or.inr ⟨g, rfl, rfl, freeOfHeap hh, fun i hi => ⟨?_, hs _ (List.getElem_mem hi)⟩⟩⟩, by simp, fun b hb => ?_, fun b hb => by simp at hb; subst hb; rw [hv]; rfl⟩
    · have h1 : (ss.map Value.string)[i]? = some (.string ss[i]) := by simp [hi]
      rw [← htk, List.getElem?_take_of_lt (by omega)] at h1
      simp only [World.cell?, hh]
      simpa using h1
    · simp at hb; subst hb
      exact ⟨hgb, (Array.getElem?_eq_some_iff.1 hh).1⟩

/-- What was gathered is a slice of trees in blocks of its own. -/
theorem GotO.done {base : Nat} {w : World} {v : Value} {ks : List Tr} {xs : List Value} {G : List Nat} (h : GotO base w v ks xs G) :
    ∃ F, KidsOwn w v ks F ∧ F.Nodup ∧ (∀ b, b ∈ F → base ≤ b ∧ b < w.heap.size) ∧ ∀ b, b ∈ F → v.ownBlock = some b ∨ b ∈ G := by
  rcases h.row.2 with ⟨hv, hn0⟩ | ⟨g, cap, cur, hv, hgb, hh, hle, hm2, hsz, htk⟩
  · have hks : ks = [] := List.eq_nil_of_length_eq_zero hn0
    subst hks
    exact ⟨[], ⟨none, 0, hv, by simp, Or.inl ⟨rfl, rfl⟩⟩, List.nodup_nil, fun b hb => by simp at hb, fun b hb => by simp at hb⟩
  · have hob : v.ownBlock = some g := by rw [hv]; rfl
    refine ⟨g :: G, ⟨some ⟨g, 0, none⟩, cap, hv, by unfold maxLen at hm2; omega, Or.inr ⟨g, G, rfl, rfl, freeOfHeap hh, h.own.ownK (fun j u hj => ?_)⟩⟩, List.nodup_cons.2 ⟨fun hm => (h.lt g hm).2.2 hob, h.nodup⟩, fun b hb => ?_, fun b hb => by
        rcases List.mem_cons.1 hb with rfl | hb
        · exact Or.inl hob
        · exact Or.inr hb⟩
    · have hj' : cur.toList[j]? = some u := by
        rw [← htk] at hj
        rw [List.getElem?_take] at hj
        split at hj
        · exact hj
        · cases hj
      simp only [Nat.zero_add, World.cell?, hh]
      simpa using hj'
    · rcases List.mem_cons.1 hb with rfl | hb
      · exact ⟨hgb, (Array.getElem?_eq_some_iff.1 hh).1⟩
      · exact ⟨(h.lt b hb).1, (h.lt b hb).2.1⟩

theorem cell_five (w : World) (c : C5) (t : TypeId) : ∀ j u, (c5l c)[j]? = some u → (w.alloc (.cells #[c.c0, c.c1, c.c2, c.c3, c.c4] t)).cell? ((⟨w.heap.size, 0, none⟩ : Addr).add j) = some u := by
  intro j u hj
  have hrow := row5_alloc w c.c0 c.c1 c.c2 c.c3 c.c4 t
  rw [Addr.add_lit, Nat.zero_add]
  match j with
  | 0 => rw [hrow.cell (by omega)]; exact hj
  | 1 => rw [hrow.cell (by omega)]; exact hj
  | 2 => rw [hrow.cell (by omega)]; exact hj
  | 3 => rw [hrow.cell (by omega)]; exact hj
  | 4 => rw [hrow.cell (by omega)]; exact hj
  | j + 5 => simp [c5l] at hj

theorem Own.one {w : World} {t : Tr} {c : C5} {F : List Nat} (h : Own w t c F) : ∀ u ∈ c5l c, u.oneCell' = true := by
  obtain ⟨h0, h1, h2, -, -, -, F1, F2, -, ⟨a, cap, h3, -⟩, a2, cap2, h4, -⟩ := h.open
  intro u hu
  simp only [c5l, h0, h1, h2, h3, h4, List.mem_cons, List.not_mem_nil, or_false] at hu
  rcases hu with rfl | rfl | rfl | rfl | rfl <;> rfl
end Go.Proofs.YtffdofllebbcgaaDoor
