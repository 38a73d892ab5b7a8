/- The walk of the specification's EventPack: whatever event comes in, its bytes in new memory, or none. No conditions. -/
import Derived.Test.YtbigchdhpdgicaaDoorPart06
import Derived.Test.YtbigchdhpdgicaaDoorPart13
import Derived.Deep.RegionLaw
import Derived.Deep.CutRange
import Derived.Test.YtbigchdhpdgicaaDoorPart00
import Derived.Test.YtbigchdhpdgicaaDoorRows
import Derived.Lib.ItoaNum
import Derived.Lib.ItoaLen
import Derived.Lib.ItoaMem
import Derived.Deep.RegionWith
import Derived.WalkSmall
import Derived.Test.YtbigchdhpdgicaaDoorPart04
namespace Go.Proofs.YtbigchdhpdgicaaDoor
open Go Go.RowKit

theorem l4Tree_all : ∀ n, TrSaid n
  | 0 => fun t h => by omega
  | n + 1 => l4Tree_step n (l4Tree_all n)

/-- What EventPack gives. -/
def packB (ty : ByteArray) (ver : Int) (t : Tr) : List UInt8 := if evOkB ty ver t then eventB ty ver t else []

theorem evOk_parts {ty : ByteArray} {ver : Int} {t : Tr} (h : evOkB ty ver t = true) : 1 ≤ ty.size ∧ ty.size ≤ 8 ∧ 1 ≤ ver ∧ ver ≤ 12 ∧ t.sort = 5 ∧ 0 < pT t 1 := by
  unfold evOkB nameOkB at h
  simp at h
  omega

theorem ByRow.empty {w : World} {g base : Nat} {f : Nat → Value} (h : w.rowIs g 5 0 f) (hb : base ≤ g) : ByRow base w (.slice (some ⟨g, 0, none⟩) 0 0) [] := by
  obtain ⟨c, h1, h2, -⟩ := h
  exact ⟨rfl, Or.inr ⟨g, 0, c, rfl, hb, h1, Nat.le_refl _, by decide, h2, by simp [bc]⟩⟩

set_option maxRecDepth 100000 in
set_option maxHeartbeats 3200000 in
theorem specEventPack_any (ty : ByteArray) (ver : Int) (t : Tr) (P : Nat → Prop) (c : C5) (w : World) (hP : ∀ b, P b → b < w.heap.size) (hrep : Rep P w t c) (hty : ty.size ≤ 9223372036854775807) (hver : I64 ver) :
    Calls Tryd.prog 23 #[.agg #[.string ty, .int .i64 ver, c.c0, c.c1, c.c2, c.c3, c.c4]] w fun e w' => ByNew w w' e (packB ty ver t) := by
  obtain ⟨c0, c1, c2, c3, c4⟩ := c
  have hbx : ∀ (W : World) o, Below W.heap.size W (W.alloc o) := fun W o => (Below.refl _ _).alloc (Nat.le_refl _) o
  have hok := fun (W : World) (hW : Below w.heap.size w W) => specEventOk_any ty ver t P ⟨c0, c1, c2, c3, c4⟩ W (fun b hb => Nat.lt_of_lt_of_le (hP b hb) hW.size) (Rep.carry (fun b hb => hW.block b (hP b hb)) (fun _ h => h) _ _ hrep) hty hver
  have HOK := hide hok; have HBX := hide hbx
  clear hok hbx
  by_cases h : evOkB ty ver t = true
  · obtain ⟨-, h8, hv1, hv12, -, hpt⟩ := evOk_parts h
    have HE : Hid (packB ty ver t = (shortB ty ++ [UInt8.ofNat ver.toNat]) ++ treeB t) := by show packB ty ver t = _; rw [packB, if_pos h]; rfl
    have hlen : ((shortB ty ++ [UInt8.ofNat ver.toNat]) ++ treeB t).length ≤ 9000 := eventB_len h8 hpt
    have HLEN := hide hlen
    have HSH := hide (fun W => l4Short_any ty W (by omega))
    have HTR := hide (fun (W : World) (hW : Below w.heap.size w W) => l4Tree_all (tsz t + 1) t (by omega) P ⟨c0, c1, c2, c3, c4⟩ 1 W (fun b hb => Nat.lt_of_lt_of_le (hP b hb) hW.size) (Rep.carry (fun b hb => hW.block b (hP b hb)) (fun _ h => h) _ _ hrep) hpt)
    rw [h] at HOK
    have HK := hide (bcI ver (by omega) (by omega))
    have hwrap : IntKind.u8.wrap ver = ver := wraps_u8 ver (by omega) (by omega)
    have hsl := shortB_len ty
    have HSL := hide hsl
    clear h hpt hlen hsl hP hrep hver
    go_enter Tryd.func23, Tryd.ntmps23
    go_wp2_with fail
    refine (unhide HOK _ (unhide HBX _ _)).mono ?_
    rintro e w1 ⟨rfl, hb1⟩
    obtain ⟨q1, hs1, hb01⟩ := ebox1 hb1
    have hbo : Below (w.heap.size + 1) (w.alloc (.cells #[.string ty, .int .i64 ver, c0, c1, c2, c3, c4] 43)) w1 := by have := hb1; rw [World.size_alloc] at this; exact this
    have k0 := q1.cell (i := 0) (by omega); have k1 := q1.cell (i := 1) (by omega)
    simp only [row7] at k0 k1
    have k0a : ∀ ob, (w1.alloc ob).cell? ⟨w.heap.size, 0, none⟩ = some (.string ty) := fun ob => (q1.alloc ob).cell (i := 0) (by omega)
    have Q1 := hide q1; have HB1 := hide hb01; have HBO := hide hbo
    clear q1 hb1 hb01 hbo
    go_upto_region 3 with fail
    go_cut [3] from 8 (fun s3 wx => ∃ a3 n3 cap3, s3 = .slice a3 n3 cap3 ∧ Hid (TAt w (.cells #[.string ty, .int .i64 ver, c0, c1, c2, c3, c4] 43) wx (.slice a3 n3 cap3) n3 (shortB ty ++ [UInt8.ofNat ver.toNat])))
    case first =>
      go_region_law (first
        | (rw [if_pos (by first | rfl | simp [Region.wanted])]; go_simp; refine (unhide HSH w1.drew).mono ?_
           rintro e w2 ⟨a2, n2, cap2, rfl, hn2, hr2, hb2⟩
           have hb12 : Below w1.heap.size w1 w2 := (Below.refl _ w1).drew.trans hb2
           have k1' := ((unhide Q1).of_block (hb12.block w.heap.size (by omega))).cell (i := 1) (by omega)
           simp only [row7] at k1'
           have HR2 := hide ((ByRow.base (base' := w.heap.size + 1) hr2 hs1))
           have HN2 := hide hn2
           have HB12 := hide hb12
           clear hr2 hn2 hb12 hb2)
        | (rw [if_pos (by first | rfl | simp [Region.wanted])]; go_simp; refine (unhide HSH (w1.alloc (.cells #[.int .u8 ver] 5)).drew).mono ?_
           rintro e w2 ⟨a2, n2, cap2, rfl, hn2, hr2, hb2⟩
           have hz : (w1.alloc (.cells #[.int .u8 ver] 5)).drew.heap.size = w1.heap.size + 1 := World.size_alloc _ _
           have hb12 : Below w1.heap.size w1 w2 := ((Below.refl _ w1).alloc (Nat.le_refl _) (.cells #[.int .u8 ver] 5)).drew.trans (hb2.mono (by omega))
           have HCB : Hid (∀ j u, (bc [UInt8.ofNat ver.toNat])[j]? = some u → w2.cell? ((⟨w1.heap.size, 0, none⟩ : Addr).add j) = some u) := fun j u hj => by
             rw [unhide HK] at hj
             have h1 := cell_one w1 _ 5 j u hj
             rw [Addr.add_lit] at h1 ⊢
             rw [World.cell?_of_block (w := w1.alloc (.cells #[.int .u8 ver] 5)) (hb2.block w1.heap.size (by omega))]
             exact h1
           have HR2B := hide ((ByRow.base (base' := w.heap.size + 1) hr2 (by omega)))
           have HN2 := hide hn2
           have HB12 := hide hb12
           clear hr2 hn2 hb12 hb2 hz)
        | (refine step_append_bytes _ (by rfl) _ _ (by rfl) (w.heap.size + 1) (.slice a2 n2 cap2) (shortB ty) [UInt8.ofNat ver.toNat] (by rfl) (World.ownsRow.alloc (unhide HR2) _) ⟨w2.heap.size, 0, none⟩ 1 1 (by rfl) (by rfl) (by decide) (by rw [unhide HK]; exact cell_one _ _ _) (by rw [unhide HSL]; simp; omega) (by have := (unhide HB12).size; simp; omega) ?_
           intro a3 n3 cap3 w3 HN3 HR3 HG3
           have HT3 : Hid (TAt w (.cells #[.string ty, .int .i64 ver, c0, c1, c2, c3, c4] 43) w3 (.slice a3 n3 cap3) n3 (shortB ty ++ [UInt8.ofNat ver.toNat])) := ⟨HR3.out, (unhide HBO).trans (((unhide HB12).mono hs1).trans (((Below.refl _ w2).alloc (by have := (unhide HB12).size; omega) _).trans (ByRow.below (World.ownsRow.alloc (unhide HR2) _) HG3.out (by have := (unhide HB12).size; simp; omega)))), HN3.out⟩
           clear HR3 HN3 HG3)
        | (refine step_append_bytes _ (by rfl) _ _ (by rfl) (w.heap.size + 1) (.slice a2 n2 cap2) (shortB ty) [UInt8.ofNat ver.toNat] (by rfl) (unhide HR2B) ⟨w1.heap.size, 0, none⟩ 1 1 (by rfl) (by rfl) (by decide) (unhide HCB) (by rw [unhide HSL]; simp; omega) (by have := (unhide HB12).size; omega) ?_
           intro a3 n3 cap3 w3 HN3 HR3 HG3
           have HT3 : Hid (TAt w (.cells #[.string ty, .int .i64 ver, c0, c1, c2, c3, c4] 43) w3 (.slice a3 n3 cap3) n3 (shortB ty ++ [UInt8.ofNat ver.toNat])) := ⟨HR3.out, (unhide HBO).trans (((unhide HB12).mono hs1).trans (ByRow.below (unhide HR2B) HG3.out (by have := (unhide HB12).size; omega))), HN3.out⟩
           clear HR3 HN3 HG3))
      all_goals
        go_wp2_with fail
        go_meet
        exact ⟨a3, n3, cap3, rfl, HT3⟩
    case rest =>
      obtain ⟨a3, n3, cap3, rfl, HT3⟩ := hcut
      have qc := (row7_alloc w (.string ty) (.int .i64 ver) c0 c1 c2 c3 c4 43).of_block (HT3.out.below.block _ (by omega))
      clear k0 k1 k0a
      have k2 := qc.cell (i := 2) (by omega); have k3 := qc.cell (i := 3) (by omega); have k4 := qc.cell (i := 4) (by omega); have k5 := qc.cell (i := 5) (by omega); have k6 := qc.cell (i := 6) (by omega)
      simp only [row7] at k2 k3 k4 k5 k6
      clear qc
      go_wp2_with fail
      refine (unhide HTR _ HT3.out.old).mono ?_
      intro e w6 hnew6
      obtain ⟨g6, n6, cap6, rfl, hn6, hc6, hb6⟩ := hnew6.form (by rw [treeB_eq]; simp)
      have HC6 := hide hc6; have HB6 := hide hb6; have HN6 := hide hn6; have HBS := hide (Nat.le_trans HT3.out.size hb6.size)
      clear hnew6 hc6 hb6 hn6 k2 k3 k4 k5 k6
      go_wp2_with (at_builtin; refine append_bytes _ rfl _ _ rfl (w.heap.size + 1) (.slice a3 n3 cap3) (shortB ty ++ [UInt8.ofNat ver.toNat]) (treeB t) rfl (HT3.out.row.stay (unhide HB6)) ⟨g6, 0, none⟩ n6 cap6 rfl (unhide HN6) (unhide HC6) (by have := unhide HLEN; rw [List.length_append] at this; omega) (unhide HBS) ?_; intro a7 n7 cap7 w7 HN7 HR7 HG7)
      have hst7 := HT3.out.app (unhide HB6) HN7.out HR7.out HG7.out
      rw [← HE.out] at hst7
      have HST7 := hide hst7
      clear hst7 HN7 HR7 HG7 HB6 HN6 HC6 HBS
      go_ret
      exact (unhide HST7).end
  · have HE : Hid (packB ty ver t = []) := by show packB ty ver t = _; rw [packB, if_neg h]
    have hf : evOkB ty ver t = false := by simpa using h
    rw [hf] at HOK
    clear h hf hP hrep hver
    go_enter Tryd.func23, Tryd.ntmps23
    go_wp2_with fail
    refine (unhide HOK _ (unhide HBX _ _)).mono ?_
    rintro e w1 ⟨rfl, hb1⟩
    obtain ⟨-, -, hb01⟩ := ebox1 hb1
    have HB1 := hide hb01
    clear hb1 hb01
    go_wp2_with fail
    go_ret
    refine ⟨_, _, _, rfl, by rw [HE.out]; rfl, by rw [HE.out]; exact ByRow.empty (f := fun _ => .int .u8 0) (World.rowIs_alloc w1 #[] 5 _ (fun i hi => by have hi' : i < 0 := hi; omega)) (unhide HB1).size, (unhide HB1).alloc (unhide HB1).size _⟩
end Go.Proofs.YtbigchdhpdgicaaDoor

/- The bytes of a record, as lists; whether a record is ok. No program, no conditions. -/

namespace Go.Proofs.YtbigchdhpdgicaaDoor
open Go Go.RowKit

def bA (l : List UInt8) : ByteArray := ⟨l.toArray⟩
theorem bA_append (a b : List UInt8) : bA a ++ bA b = bA (a ++ b) := by apply ByteArray.ext; simp [bA]
theorem bA_size (l : List UInt8) : (bA l).size = l.length := by show l.toArray.size = _; simp
def twoB (n : Nat) : List UInt8 := [UInt8.ofNat (n / 256), UInt8.ofNat (n % 256)]
def evB (e : Ev) : List UInt8 := packB e.ty e.ver e.t
def evsB : List Ev → List UInt8
  | [] => []
  | e :: r => twoB (evB e).length ++ evB e ++ evsB r
theorem evB_len (e : Ev) : (evB e).length ≤ 9000 := by
  unfold evB packB
  split
  · rename_i h
    obtain ⟨-, h8, -, -, -, hpt⟩ := evOk_parts h
    exact eventB_len h8 hpt
  · simp
theorem evsB_append (a b : List Ev) : evsB (a ++ b) = evsB a ++ evsB b := by
  induction a with
  | nil => rfl
  | cons x r ih => simp [evsB, ih]
theorem evsB_take (es : List Ev) (k : Nat) (h : k < es.length) : evsB (es.take (k + 1)) = evsB (es.take k) ++ (twoB (evB es[k]).length ++ evB es[k]) := by
  rw [List.take_succ_eq_append_getElem h, evsB_append]; simp [evsB]
theorem evsB_len (es : List Ev) : (evsB es).length ≤ es.length * 9002 := by
  induction es with
  | nil => simp [evsB]
  | cons e r ih => have := evB_len e; simp [evsB, twoB]; omega
def headT (key : ByteArray) (n : Nat) : List UInt8 := shortB key ++ [UInt8.ofNat n]
def recB (key : ByteArray) (es : List Ev) : List UInt8 := headT key es.length ++ evsB es
def evOkE (e : Ev) : Bool := evOkB e.ty e.ver e.t
def headB (pos : Int) (key : ByteArray) (n : Nat) : Bool := decide (1 ≤ pos ∧ pos ≤ 999999) && (nameOkB key && decide (1 ≤ (n : Int) ∧ (n : Int) ≤ 40))
def recOkB (pos : Int) (key : ByteArray) (es : List Ev) : Bool := headB pos key es.length && es.all evOkE && decide ((recB key es).length ≤ 2000)
def recPackB (pos : Int) (key : ByteArray) (es : List Ev) : List UInt8 := if recOkB pos key es then recB key es else []
theorem evB_nil {e : Ev} (h : evOkE e = false) : evB e = [] := by
  have h' : evOkB e.ty e.ver e.t = false := h
  unfold evB packB; rw [h']; rfl
theorem evB_pos {e : Ev} (h : evOkE e = true) : 0 < (evB e).length := by
  have h' : evOkB e.ty e.ver e.t = true := h
  unfold evB packB; rw [if_pos h']
  unfold eventB
  simp [shortB]
theorem name_size {key : ByteArray} (h : nameOkB key = true) : key.size ≤ 8 := by unfold nameOkB at h; simp at h; omega
theorem headB_parts {pos : Int} {key : ByteArray} {n : Nat} (h : headB pos key n = true) : (1 ≤ pos ∧ pos ≤ 999999) ∧ nameOkB key = true ∧ 1 ≤ (n : Int) ∧ (n : Int) ≤ 40 := by
  unfold headB at h
  simp only [Bool.and_eq_true, decide_eq_true_eq] at h
  exact h
theorem all_take_succ {es : List Ev} {k : Nat} (h : k < es.length) (p : Ev → Bool) : (es.take (k + 1)).all p = ((es.take k).all p && p es[k]) := by
  rw [List.take_succ_eq_append_getElem h, List.all_append]; simp only [List.all_cons, List.all_nil, Bool.and_true]
theorem all_false_at {es : List Ev} {k : Nat} (h : k < es.length) {p : Ev → Bool} (hp : p es[k] = false) : es.all p = false := by
  rw [List.all_eq_false]; exact ⟨_, List.getElem_mem h, by simp [hp]⟩

theorem ByRow.strA {base : Nat} {w : World} {v : Value} {l : List UInt8} (h : ByRow base w v l) : Sem.run Tryd.prog (convert 55 9 v) w = .ok (.string (bA l)) w := h.str
theorem ByRow.strB {base : Nat} {w : World} {v : Value} {l : List UInt8} (h : ByRow base w v l) (o : Obj) : Sem.run Tryd.prog (convert 55 9 v) (w.alloc o) = .ok (.string (bA l)) (w.alloc o) := ByRow.str (World.ownsRow.alloc h o)

/-- A short row of bytes that was just built, read as a string. -/
theorem conv_kept1 {W w' : World} {a : Int} (h : Below (W.alloc (.cells #[.int .u8 a] 5)).heap.size (W.alloc (.cells #[.int .u8 a] 5)) w') (ha : 0 ≤ a ∧ a < 256) :
    Sem.run Tryd.prog (convert 55 9 (.slice (some ⟨W.heap.size, 0, none⟩) 1 1)) w' = .ok (.string (bA [UInt8.ofNat a.toNat])) w' := by
  have := run_convert_bytes_back (P := Tryd.prog) w' 55 9 5 ⟨W.heap.size, 0, none⟩ 1 [UInt8.ofNat a.toNat] Tryd.underlying55 Tryd.underlying5 Tryd.underlying9 (fun j hj => by
    have hj' : j < 1 := by simpa using hj
    obtain rfl : j = 0 := by omega
    rw [Addr.add_lit, h.cell (by simp)]
    have e : ((UInt8.ofNat a.toNat).toNat : Int) = a := by rw [UInt8.toNat_ofNat']; omega
    simp only [List.getElem_cons_zero]; rw [e]; go_simp)
  simpa [bA] using this
theorem conv_cell1 {w' : World} {g : Nat} {a : Int} (h : w'.cell? ⟨g, 0, none⟩ = some (.int .u8 a)) (ha : 0 ≤ a ∧ a < 256) :
    Sem.run Tryd.prog (convert 55 9 (.slice (some ⟨g, 0, none⟩) 1 1)) w' = .ok (.string (bA [UInt8.ofNat a.toNat])) w' := by
  have := run_convert_bytes_back (P := Tryd.prog) w' 55 9 5 ⟨g, 0, none⟩ 1 [UInt8.ofNat a.toNat] Tryd.underlying55 Tryd.underlying5 Tryd.underlying9 (fun j hj => by
    have hj' : j < 1 := by simpa using hj
    obtain rfl : j = 0 := by omega
    rw [Addr.add_lit, h]
    have e : ((UInt8.ofNat a.toNat).toNat : Int) = a := by rw [UInt8.toNat_ofNat']; omega
    simp only [List.getElem_cons_zero]; rw [e])
  simpa [bA] using this
theorem conv_kept2 {W w' : World} {a b : Int} (h : Below (W.alloc (.cells #[.int .u8 a, .int .u8 b] 5)).heap.size (W.alloc (.cells #[.int .u8 a, .int .u8 b] 5)) w') (ha : 0 ≤ a ∧ a < 256) (hb : 0 ≤ b ∧ b < 256) :
    Sem.run Tryd.prog (convert 55 9 (.slice (some ⟨W.heap.size, 0, none⟩) 2 2)) w' = .ok (.string (bA [UInt8.ofNat a.toNat, UInt8.ofNat b.toNat])) w' := by
  have := run_convert_bytes_back (P := Tryd.prog) w' 55 9 5 ⟨W.heap.size, 0, none⟩ 2 [UInt8.ofNat a.toNat, UInt8.ofNat b.toNat] Tryd.underlying55 Tryd.underlying5 Tryd.underlying9 (fun j hj => by
    have hj' : j < 2 := by simpa using hj
    have e : ((UInt8.ofNat a.toNat).toNat : Int) = a := by rw [UInt8.toNat_ofNat']; omega
    have e2 : ((UInt8.ofNat b.toNat).toNat : Int) = b := by rw [UInt8.toNat_ofNat']; omega
    rw [Addr.add_lit, h.cell (by simp)]
    rcases (show j = 0 ∨ j = 1 by omega) with rfl | rfl
    · simp only [List.getElem_cons_zero]; rw [e]; go_simp
    · simp only [List.getElem_cons_zero, List.getElem_cons_succ]; rw [e2]; go_simp)
  simpa [bA] using this
end Go.Proofs.YtbigchdhpdgicaaDoor

/- Digits as bytes and strings; small laws. No program walked, no conditions. -/

namespace Go.Proofs.YtbigchdhpdgicaaDoor
open Go Go.RowKit

/-- A digit's byte. -/
def dg (m : Int) : UInt8 := UInt8.ofNat (48 + m.toNat)
theorem dg_nat {m : Int} (h0 : 0 ≤ m) (h1 : m < 10) : ((dg m).toNat : Int) = 48 + m := by unfold dg; rw [UInt8.toNat_ofNat']; omega
theorem dec_small {n : Int} (h : n < 10) : Lib.decDigits n.toNat = [dg n] := by rw [Lib.decDigits, dif_pos (by omega)]; rfl
theorem dec_big {n : Int} (h : ¬ n < 10) : Lib.decDigits n.toNat = Lib.decDigits (n / 10).toNat ++ [dg (n % 10)] := by
  rw [Lib.decDigits, dif_neg (by omega), show (n / 10).toNat = n.toNat / 10 from by omega, show dg (n % 10) = UInt8.ofNat (48 + n.toNat % 10) from by unfold dg; rw [show (n % 10).toNat = n.toNat % 10 from by omega]]

/-- One byte, as a string. -/
theorem conv_one (W : World) (b cap : Nat) (m : Int) (h0 : 0 ≤ m) (h1 : m < 10) (hc : W.cell? ⟨b, 0, none⟩ = some (.int .u8 (48 + m))) :
    Sem.run Tryd.prog (convert 55 9 (.slice (some ⟨b, 0, none⟩) 1 cap)) W = .ok (.string ⟨#[dg m]⟩) W := by
  have := run_convert_bytes_back (P := Tryd.prog) W 55 9 5 ⟨b, 0, none⟩ cap [dg m] Tryd.underlying55 Tryd.underlying5 Tryd.underlying9 (fun j hj => by
    have hj0 : j = 0 := by simpa using hj
    subst hj0
    rw [Addr.add_lit, hc]
    simp only [List.getElem_cons_zero]
    rw [dg_nat h0 h1])
  simpa using this

theorem quo10 {n : Int} (h0 : 0 ≤ n) (h1 : n ≤ 999999999) : IntKind.i64.wrap (n.tdiv 10) = n / 10 := by
  rw [IntKind.wrap_i64, Int.tdiv_eq_ediv_of_nonneg h0]; omega
theorem rem10 {n : Int} (h0 : 0 ≤ n) : IntKind.i64.wrap (48 + n.tmod 10) = 48 + n % 10 := by
  rw [IntKind.wrap_i64, Int.tmod_eq_emod_of_nonneg h0]; omega
theorem rem10b (n : Int) : IntKind.u8.wrap (48 + n % 10) = 48 + n % 10 := by
  rw [IntKind.wrap_u8]; omega

theorem ba_append (a b : List UInt8) : ((⟨a.toArray⟩ : ByteArray) ++ (⟨b.toArray⟩ : ByteArray)) = ⟨(a ++ b).toArray⟩ := by
  apply ByteArray.ext
  simp
theorem ret_str {a b : ByteArray} (h : a = b) : Ending.returned (.string a) = .returned (.string b) := by rw [h]
theorem bc1 {w w1 : World} {o : Obj} (h : Below w.drew.heap.size w.drew w1) : Below w.heap.size w (w1.alloc o) :=
  (((Below.refl _ w).drew).trans h).alloc h.size o
theorem bc2 {w w1 : World} {o : Obj} (h : Below (w.alloc o).drew.heap.size (w.alloc o).drew w1) : Below w.heap.size w w1 :=
  (((Below.refl _ w).alloc (Nat.le_refl _) o).drew).trans (h.mono (by simp))
end Go.Proofs.YtbigchdhpdgicaaDoor

/- Records as bytes: what LogFrame gives, and the walks of both sides' functions. No conditions but that a string's length is one. -/

namespace Go.Proofs.YtbigchdhpdgicaaDoor
open Go Go.RowKit

/-- A byte. -/
def hb (x : Int) : UInt8 := UInt8.ofNat x.toNat
theorem hb_nat {x : Int} (h0 : 0 ≤ x) (h1 : x < 256) : ((hb x).toNat : Int) = x := by unfold hb; rw [UInt8.toNat_ofNat']; omega
/-- Whether a record of that position with so many bytes is one. -/
def frOk (p : Int) (n : Nat) : Bool := decide (1 ≤ p ∧ p ≤ 999999 ∧ n ≤ 2000)
def frB (p : Int) (x : ByteArray) : ByteArray := if frOk p x.size = true then (⟨#[hb (x.size / 256), hb (x.size % 256)]⟩ ++ ⟨#[hb (p / 65536), hb (p / 256 % 256), hb (p % 256)]⟩) ++ x else ByteArray.empty

theorem frInS (a b c : Int) (w : World) : Calls Tryd.prog 13 #[.int .i64 a, .int .i64 b, .int .i64 c] w fun e w' => e = .returned (.bool (decide (b ≤ a ∧ a ≤ c))) ∧ Below w.heap.size w w' := by
  go_enter Tryd.func13, Tryd.ntmps13
  by_cases h1 : b ≤ a
  · by_cases h2 : a ≤ c
    · go_wp2_with fail
      go_ret
      exact ⟨by simp [h2]; omega, Below.refl _ _⟩
    · go_wp2_with fail
      go_ret
      exact ⟨by simp; omega, Below.refl _ _⟩
  · go_wp2_with fail
    go_ret
    exact ⟨by simp; omega, Below.refl _ _⟩
theorem frInP (a b c : Int) (w : World) : Calls Tryd.prog 33 #[.int .i64 a, .int .i64 b, .int .i64 c] w fun e w' => e = .returned (.bool (decide (b ≤ a ∧ a ≤ c))) ∧ Below w.heap.size w w' := by
  go_enter Tryd.func33, Tryd.ntmps33
  by_cases h1 : b ≤ a
  · by_cases h2 : a ≤ c
    · go_wp2_with fail
      go_ret
      exact ⟨by simp [h2]; omega, Below.refl _ _⟩
    · go_wp2_with fail
      go_ret
      exact ⟨by simp; omega, Below.refl _ _⟩
  · go_wp2_with fail
    go_ret
    exact ⟨by simp; omega, Below.refl _ _⟩
end Go.Proofs.YtbigchdhpdgicaaDoor
