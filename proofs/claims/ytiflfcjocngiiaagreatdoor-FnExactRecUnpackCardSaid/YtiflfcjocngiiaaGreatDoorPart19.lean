/- Lists of events as plain data, and how they lie in memory. No program, no conditions. -/
import Derived.Test.YtiflfcjocngiiaaGreatDoorPart10
import Derived.Test.YtiflfcjocngiiaaGreatDoorPart03
import Derived.Test.YtiflfcjocngiiaaGreatDoorPart16
import Derived.Deep.RegionLaw
import Derived.Deep.CutRange
import Derived.Test.YtiflfcjocngiiaaGreatDoorPart18
import Derived.Test.YtiflfcjocngiiaaGreatDoorRows
import Derived.Test.YtiflfcjocngiiaaGreatDoorPart00
import Derived.Lib.ItoaNum
import Derived.Lib.ItoaLen
import Derived.Lib.ItoaMem
import Derived.Deep.RegionWith
import Derived.WalkSmall
namespace Go.Proofs.YtiflfcjocngiiaaGreatDoor
open Go Go.RowKit

structure Ev where
  ty : ByteArray
  ver : Int
  t : Tr
/-- Seven cells lie at an offset of a block. -/
def E7at (w : World) (b o : Nat) (ty : ByteArray) (ver : Int) (c : C5) : Prop :=
  w.cell? ⟨b, o, none⟩ = some (.string ty) ∧ w.cell? ⟨b, o + 1, none⟩ = some (.int .i64 ver) ∧ w.cell? ⟨b, o + 2, none⟩ = some c.c0 ∧ w.cell? ⟨b, o + 3, none⟩ = some c.c1 ∧ w.cell? ⟨b, o + 4, none⟩ = some c.c2 ∧ w.cell? ⟨b, o + 5, none⟩ = some c.c3 ∧ w.cell? ⟨b, o + 6, none⟩ = some c.c4
theorem E7at.carry {w w' : World} {b o : Nat} {ty : ByteArray} {ver : Int} {c : C5} (h : E7at w b o ty ver c) (hb : w'.heap[b]? = w.heap[b]?) : E7at w' b o ty ver c := by
  have e : ∀ o', w'.cell? ⟨b, o', none⟩ = w.cell? ⟨b, o', none⟩ := fun o' => World.cell?_of_block (w := w) hb
  obtain ⟨h0, h1, h2, h3, h4, h5, h6⟩ := h
  exact ⟨by rw [e]; exact h0, by rw [e]; exact h1, by rw [e]; exact h2, by rw [e]; exact h3, by rw [e]; exact h4, by rw [e]; exact h5, by rw [e]; exact h6⟩

/-- One event of a list. -/
def EvOne (P : Nat → Prop) (w : World) (b o : Nat) (e : Ev) : Prop := ∃ c : C5, E7at w b o e.ty e.ver c ∧ Rep P w e.t c ∧ e.ty.size ≤ 9223372036854775807 ∧ I64 e.ver
theorem EvOne.carry {P Q : Nat → Prop} {w w' : World} {b o : Nat} {e : Ev} (h : EvOne P w b o e) (hb : w'.heap[b]? = w.heap[b]?) (hP : ∀ b, P b → w'.heap[b]? = w.heap[b]?) (hQ : ∀ b, P b → Q b) : EvOne Q w' b o e := by
  obtain ⟨c, h1, h2, h3, h4⟩ := h
  exact ⟨c, h1.carry hb, Rep.carry hP hQ _ _ h2, h3, h4⟩

/-- A slice value whose events lie in the world, in blocks of which 'P' holds. -/
def EvsAt (P : Nat → Prop) (w : World) (v : Value) (es : List Ev) : Prop :=
  ∃ a cap, v = .slice a es.length cap ∧ es.length ≤ 9223372036854775807 ∧ ∀ i, (h : i < es.length) → ∃ b o, a = some ⟨b, o, none⟩ ∧ P b ∧ EvOne P w b (o + i * 7) es[i]
theorem EvsAt.carry {P Q : Nat → Prop} {w w' : World} {v : Value} {es : List Ev} (h : EvsAt P w v es) (hP : ∀ b, P b → w'.heap[b]? = w.heap[b]?) (hQ : ∀ b, P b → Q b) : EvsAt Q w' v es := by
  obtain ⟨a, cap, h1, h2, h3⟩ := h
  refine ⟨a, cap, h1, h2, fun i hi => ?_⟩
  obtain ⟨b, o, e, p, hc⟩ := h3 i hi
  exact ⟨b, o, e, hQ b p, hc.carry (hP b p) hP hQ⟩
end Go.Proofs.YtiflfcjocngiiaaGreatDoor

/- The walk of the specification's EventPack: whatever event comes in, its bytes in new memory, or none. No conditions. -/

namespace Go.Proofs.YtiflfcjocngiiaaGreatDoor
open Go Go.RowKit

theorem l4Tree_all : ∀ n, TrSaid n
  | 0 => fun t h => by omega
  | n + 1 => l4Tree_step n (l4Tree_all n)

/-- What EventPack gives. -/
def packB (ty : ByteArray) (ver : Int) (t : Tr) : List UInt8 := if evOkB ty ver t then eventB ty ver t else []

theorem evOk_parts {ty : ByteArray} {ver : Int} {t : Tr} (h : evOkB ty ver t = true) : 1 ≤ ty.size ∧ ty.size ≤ 8 ∧ 1 ≤ ver ∧ ver ≤ 12 ∧ t.sort = 5 ∧ 0 < pT t 1 := by
  unfold evOkB nameOkB at h
  simp at h
  omega

theorem ByRow.empty {w : World} {g base : Nat} {f : Nat → Value} (h : w.rowIs g 5 0 f) (hb : base ≤ g) : ByRow base w (.slice (some ⟨g, 0, none⟩) 0 0) [] := by
  obtain ⟨c, h1, h2, -⟩ := h
  exact ⟨rfl, Or.inr ⟨g, 0, c, rfl, hb, h1, Nat.le_refl _, by decide, h2, by simp [bc]⟩⟩

set_option maxRecDepth 100000 in
set_option maxHeartbeats 3200000 in
theorem specEventPack_any (ty : ByteArray) (ver : Int) (t : Tr) (P : Nat → Prop) (c : C5) (w : World) (hP : ∀ b, P b → b < w.heap.size) (hrep : Rep P w t c) (hty : ty.size ≤ 9223372036854775807) (hver : I64 ver) :
    Calls Tryz.prog 24 #[.agg #[.string ty, .int .i64 ver, c.c0, c.c1, c.c2, c.c3, c.c4]] w fun e w' => ByNew w w' e (packB ty ver t) := by
  obtain ⟨c0, c1, c2, c3, c4⟩ := c
  have hbx : ∀ (W : World) o, Below W.heap.size W (W.alloc o) := fun W o => (Below.refl _ _).alloc (Nat.le_refl _) o
  have hok := fun (W : World) (hW : Below w.heap.size w W) => specEventOk_any ty ver t P ⟨c0, c1, c2, c3, c4⟩ W (fun b hb => Nat.lt_of_lt_of_le (hP b hb) hW.size) (Rep.carry (fun b hb => hW.block b (hP b hb)) (fun _ h => h) _ _ hrep) hty hver
  have HOK := hide hok; have HBX := hide hbx
  clear hok hbx
  by_cases h : evOkB ty ver t = true
  · obtain ⟨-, h8, hv1, hv12, -, hpt⟩ := evOk_parts h
    have HE : Hid (packB ty ver t = (shortB ty ++ [UInt8.ofNat ver.toNat]) ++ treeB t) := by show packB ty ver t = _; rw [packB, if_pos h]; rfl
    have hlen : ((shortB ty ++ [UInt8.ofNat ver.toNat]) ++ treeB t).length ≤ 9000 := eventB_len h8 hpt
    have HLEN := hide hlen
    have HSH := hide (fun W => l4Short_any ty W (by omega))
    have HTR := hide (fun (W : World) (hW : Below w.heap.size w W) => l4Tree_all (tsz t + 1) t (by omega) P ⟨c0, c1, c2, c3, c4⟩ 1 W (fun b hb => Nat.lt_of_lt_of_le (hP b hb) hW.size) (Rep.carry (fun b hb => hW.block b (hP b hb)) (fun _ h => h) _ _ hrep) hpt)
    rw [h] at HOK
    have HK := hide (bcI ver (by omega) (by omega))
    have hwrap : IntKind.u8.wrap ver = ver := wraps_u8 ver (by omega) (by omega)
    have hsl := shortB_len ty
    have HSL := hide hsl
    clear h hpt hlen hsl hP hrep hver
    go_enter Tryz.func24, Tryz.ntmps24
    go_wp2_with fail
    refine (unhide HOK _ (unhide HBX _ _)).mono ?_
    rintro e w1 ⟨rfl, hb1⟩
    obtain ⟨q1, hs1, hb01⟩ := ebox1 hb1
    have hbo : Below (w.heap.size + 1) (w.alloc (.cells #[.string ty, .int .i64 ver, c0, c1, c2, c3, c4] 41)) w1 := by have := hb1; rw [World.size_alloc] at this; exact this
    have k0 := q1.cell (i := 0) (by omega); have k1 := q1.cell (i := 1) (by omega)
    simp only [row7] at k0 k1
    have k0a : ∀ ob, (w1.alloc ob).cell? ⟨w.heap.size, 0, none⟩ = some (.string ty) := fun ob => (q1.alloc ob).cell (i := 0) (by omega)
    have Q1 := hide q1; have HB1 := hide hb01; have HBO := hide hbo
    clear q1 hb1 hb01 hbo
    go_upto_region 3 with fail
    go_cut [3] from 8 (fun s3 wx => ∃ a3 n3 cap3, s3 = .slice a3 n3 cap3 ∧ Hid (TAt w (.cells #[.string ty, .int .i64 ver, c0, c1, c2, c3, c4] 41) wx (.slice a3 n3 cap3) n3 (shortB ty ++ [UInt8.ofNat ver.toNat])))
    case first =>
      go_region_law (first
        | (rw [if_pos (by first | rfl | simp [Region.wanted])]; go_simp; refine (unhide HSH w1.drew).mono ?_
           rintro e w2 ⟨a2, n2, cap2, rfl, hn2, hr2, hb2⟩
           have hb12 : Below w1.heap.size w1 w2 := (Below.refl _ w1).drew.trans hb2
           have k1' := ((unhide Q1).of_block (hb12.block w.heap.size (by omega))).cell (i := 1) (by omega)
           simp only [row7] at k1'
           have HR2 := hide ((ByRow.base (base' := w.heap.size + 1) hr2 hs1))
           have HN2 := hide hn2
           have HB12 := hide hb12
           clear hr2 hn2 hb12 hb2)
        | (rw [if_pos (by first | rfl | simp [Region.wanted])]; go_simp; refine (unhide HSH (w1.alloc (.cells #[.int .u8 ver] 5)).drew).mono ?_
           rintro e w2 ⟨a2, n2, cap2, rfl, hn2, hr2, hb2⟩
           have hz : (w1.alloc (.cells #[.int .u8 ver] 5)).drew.heap.size = w1.heap.size + 1 := World.size_alloc _ _
           have hb12 : Below w1.heap.size w1 w2 := ((Below.refl _ w1).alloc (Nat.le_refl _) (.cells #[.int .u8 ver] 5)).drew.trans (hb2.mono (by omega))
           have HCB : Hid (∀ j u, (bc [UInt8.ofNat ver.toNat])[j]? = some u → w2.cell? ((⟨w1.heap.size, 0, none⟩ : Addr).add j) = some u) := fun j u hj => by
             rw [unhide HK] at hj
             have h1 := cell_one w1 _ 5 j u hj
             rw [Addr.add_lit] at h1 ⊢
             rw [World.cell?_of_block (w := w1.alloc (.cells #[.int .u8 ver] 5)) (hb2.block w1.heap.size (by omega))]
             exact h1
           have HR2B := hide ((ByRow.base (base' := w.heap.size + 1) hr2 (by omega)))
           have HN2 := hide hn2
           have HB12 := hide hb12
           clear hr2 hn2 hb12 hb2 hz)
        | (refine step_append_bytes _ (by rfl) _ _ (by rfl) (w.heap.size + 1) (.slice a2 n2 cap2) (shortB ty) [UInt8.ofNat ver.toNat] (by rfl) (World.ownsRow.alloc (unhide HR2) _) ⟨w2.heap.size, 0, none⟩ 1 1 (by rfl) (by rfl) (by decide) (by rw [unhide HK]; exact cell_one _ _ _) (by rw [unhide HSL]; simp; omega) (by have := (unhide HB12).size; simp; omega) ?_
           intro a3 n3 cap3 w3 HN3 HR3 HG3
           have HT3 : Hid (TAt w (.cells #[.string ty, .int .i64 ver, c0, c1, c2, c3, c4] 41) w3 (.slice a3 n3 cap3) n3 (shortB ty ++ [UInt8.ofNat ver.toNat])) := ⟨HR3.out, (unhide HBO).trans (((unhide HB12).mono hs1).trans (((Below.refl _ w2).alloc (by have := (unhide HB12).size; omega) _).trans (ByRow.below (World.ownsRow.alloc (unhide HR2) _) HG3.out (by have := (unhide HB12).size; simp; omega)))), HN3.out⟩
           clear HR3 HN3 HG3)
        | (refine step_append_bytes _ (by rfl) _ _ (by rfl) (w.heap.size + 1) (.slice a2 n2 cap2) (shortB ty) [UInt8.ofNat ver.toNat] (by rfl) (unhide HR2B) ⟨w1.heap.size, 0, none⟩ 1 1 (by rfl) (by rfl) (by decide) (unhide HCB) (by rw [unhide HSL]; simp; omega) (by have := (unhide HB12).size; omega) ?_
           intro a3 n3 cap3 w3 HN3 HR3 HG3
           have HT3 : Hid (TAt w (.cells #[.string ty, .int .i64 ver, c0, c1, c2, c3, c4] 41) w3 (.slice a3 n3 cap3) n3 (shortB ty ++ [UInt8.ofNat ver.toNat])) := ⟨HR3.out, (unhide HBO).trans (((unhide HB12).mono hs1).trans (ByRow.below (unhide HR2B) HG3.out (by have := (unhide HB12).size; omega))), HN3.out⟩
           clear HR3 HN3 HG3))
      all_goals
        go_wp2_with fail
        go_meet
        exact ⟨a3, n3, cap3, rfl, HT3⟩
    case rest =>
      obtain ⟨a3, n3, cap3, rfl, HT3⟩ := hcut
      have qc := (row7_alloc w (.string ty) (.int .i64 ver) c0 c1 c2 c3 c4 41).of_block (HT3.out.below.block _ (by omega))
      clear k0 k1 k0a
      have k2 := qc.cell (i := 2) (by omega); have k3 := qc.cell (i := 3) (by omega); have k4 := qc.cell (i := 4) (by omega); have k5 := qc.cell (i := 5) (by omega); have k6 := qc.cell (i := 6) (by omega)
      simp only [row7] at k2 k3 k4 k5 k6
      clear qc
      go_wp2_with fail
      refine (unhide HTR _ HT3.out.old).mono ?_
      intro e w6 hnew6
      obtain ⟨g6, n6, cap6, rfl, hn6, hc6, hb6⟩ := hnew6.form (by rw [treeB_eq]; simp)
      have HC6 := hide hc6; have HB6 := hide hb6; have HN6 := hide hn6; have HBS := hide (Nat.le_trans HT3.out.size hb6.size)
      clear hnew6 hc6 hb6 hn6 k2 k3 k4 k5 k6
      go_wp2_with (at_builtin; refine append_bytes _ rfl _ _ rfl (w.heap.size + 1) (.slice a3 n3 cap3) (shortB ty ++ [UInt8.ofNat ver.toNat]) (treeB t) rfl (HT3.out.row.stay (unhide HB6)) ⟨g6, 0, none⟩ n6 cap6 rfl (unhide HN6) (unhide HC6) (by have := unhide HLEN; rw [List.length_append] at this; omega) (unhide HBS) ?_; intro a7 n7 cap7 w7 HN7 HR7 HG7)
      have hst7 := HT3.out.app (unhide HB6) HN7.out HR7.out HG7.out
      rw [← HE.out] at hst7
      have HST7 := hide hst7
      clear hst7 HN7 HR7 HG7 HB6 HN6 HC6 HBS
      go_ret
      exact (unhide HST7).end
  · have HE : Hid (packB ty ver t = []) := by show packB ty ver t = _; rw [packB, if_neg h]
    have hf : evOkB ty ver t = false := by simpa using h
    rw [hf] at HOK
    clear h hf hP hrep hver
    go_enter Tryz.func24, Tryz.ntmps24
    go_wp2_with fail
    refine (unhide HOK _ (unhide HBX _ _)).mono ?_
    rintro e w1 ⟨rfl, hb1⟩
    obtain ⟨-, -, hb01⟩ := ebox1 hb1
    have HB1 := hide hb01
    clear hb1 hb01
    go_wp2_with fail
    go_ret
    refine ⟨_, _, _, rfl, by rw [HE.out]; rfl, by rw [HE.out]; exact ByRow.empty (f := fun _ => .int .u8 0) (World.rowIs_alloc w1 #[] 5 _ (fun i hi => by have hi' : i < 0 := hi; omega)) (unhide HB1).size, (unhide HB1).alloc (unhide HB1).size _⟩
end Go.Proofs.YtiflfcjocngiiaaGreatDoor

/- The bytes of a record, as lists; whether a record is ok. No program, no conditions. -/

namespace Go.Proofs.YtiflfcjocngiiaaGreatDoor
open Go Go.RowKit

def bA (l : List UInt8) : ByteArray := ⟨l.toArray⟩
theorem bA_append (a b : List UInt8) : bA a ++ bA b = bA (a ++ b) := by apply ByteArray.ext; simp [bA]
theorem bA_size (l : List UInt8) : (bA l).size = l.length := by show l.toArray.size = _; simp
def twoB (n : Nat) : List UInt8 := [UInt8.ofNat (n / 256), UInt8.ofNat (n % 256)]
def evB (e : Ev) : List UInt8 := packB e.ty e.ver e.t
def evsB : List Ev → List UInt8
  | [] => []
  | e :: r => twoB (evB e).length ++ evB e ++ evsB r
theorem evB_len (e : Ev) : (evB e).length ≤ 9000 := by
  unfold evB packB
  split
  · rename_i h
    obtain ⟨-, h8, -, -, -, hpt⟩ := evOk_parts h
    exact eventB_len h8 hpt
  · simp
theorem evsB_append (a b : List Ev) : evsB (a ++ b) = evsB a ++ evsB b := by
  induction a with
  | nil => rfl
  | cons x r ih => simp [evsB, ih]
theorem evsB_take (es : List Ev) (k : Nat) (h : k < es.length) : evsB (es.take (k + 1)) = evsB (es.take k) ++ (twoB (evB es[k]).length ++ evB es[k]) := by
  rw [List.take_succ_eq_append_getElem h, evsB_append]; simp [evsB]
theorem evsB_len (es : List Ev) : (evsB es).length ≤ es.length * 9002 := by
  induction es with
  | nil => simp [evsB]
  | cons e r ih => have := evB_len e; simp [evsB, twoB]; omega
def headT (key : ByteArray) (n : Nat) : List UInt8 := shortB key ++ [UInt8.ofNat n]
def recB (key : ByteArray) (es : List Ev) : List UInt8 := headT key es.length ++ evsB es
def evOkE (e : Ev) : Bool := evOkB e.ty e.ver e.t
def headB (pos : Int) (key : ByteArray) (n : Nat) : Bool := decide (1 ≤ pos ∧ pos ≤ 999999) && (nameOkB key && decide (1 ≤ (n : Int) ∧ (n : Int) ≤ 40))
def recOkB (pos : Int) (key : ByteArray) (es : List Ev) : Bool := headB pos key es.length && es.all evOkE && decide ((recB key es).length ≤ 2000)
def recPackB (pos : Int) (key : ByteArray) (es : List Ev) : List UInt8 := if recOkB pos key es then recB key es else []
theorem evB_nil {e : Ev} (h : evOkE e = false) : evB e = [] := by
  have h' : evOkB e.ty e.ver e.t = false := h
  unfold evB packB; rw [h']; rfl
theorem evB_pos {e : Ev} (h : evOkE e = true) : 0 < (evB e).length := by
  have h' : evOkB e.ty e.ver e.t = true := h
  unfold evB packB; rw [if_pos h']
  unfold eventB
  simp [shortB]
theorem name_size {key : ByteArray} (h : nameOkB key = true) : key.size ≤ 8 := by unfold nameOkB at h; simp at h; omega
theorem headB_parts {pos : Int} {key : ByteArray} {n : Nat} (h : headB pos key n = true) : (1 ≤ pos ∧ pos ≤ 999999) ∧ nameOkB key = true ∧ 1 ≤ (n : Int) ∧ (n : Int) ≤ 40 := by
  unfold headB at h
  simp only [Bool.and_eq_true, decide_eq_true_eq] at h
  exact h
theorem all_take_succ {es : List Ev} {k : Nat} (h : k < es.length) (p : Ev → Bool) : (es.take (k + 1)).all p = ((es.take k).all p && p es[k]) := by
  rw [List.take_succ_eq_append_getElem h, List.all_append]; simp only [List.all_cons, List.all_nil, Bool.and_true]
theorem all_false_at {es : List Ev} {k : Nat} (h : k < es.length) {p : Ev → Bool} (hp : p es[k] = false) : es.all p = false := by
  rw [List.all_eq_false]; exact ⟨_, List.getElem_mem h, by simp [hp]⟩

theorem ByRow.strA {base : Nat} {w : World} {v : Value} {l : List UInt8} (h : ByRow base w v l) : Sem.run Tryz.prog (convert 31 9 v) w = .ok (.string (bA l)) w := h.str
theorem ByRow.strB {base : Nat} {w : World} {v : Value} {l : List UInt8} (h : ByRow base w v l) (o : Obj) : Sem.run Tryz.prog (convert 31 9 v) (w.alloc o) = .ok (.string (bA l)) (w.alloc o) := ByRow.str (World.ownsRow.alloc h o)

/-- A short row of bytes that was just built, read as a string. -/
theorem conv_kept1 {W w' : World} {a : Int} (h : Below (W.alloc (.cells #[.int .u8 a] 5)).heap.size (W.alloc (.cells #[.int .u8 a] 5)) w') (ha : 0 ≤ a ∧ a < 256) :
    Sem.run Tryz.prog (convert 31 9 (.slice (some ⟨W.heap.size, 0, none⟩) 1 1)) w' = .ok (.string (bA [UInt8.ofNat a.toNat])) w' := by
  have := run_convert_bytes_back (P := Tryz.prog) w' 31 9 5 ⟨W.heap.size, 0, none⟩ 1 [UInt8.ofNat a.toNat] Tryz.underlying31 Tryz.underlying5 Tryz.underlying9 (fun j hj => by
    have hj' : j < 1 := by simpa using hj
    obtain rfl : j = 0 := by omega
    rw [Addr.add_lit, h.cell (by simp)]
    have e : ((UInt8.ofNat a.toNat).toNat : Int) = a := by rw [UInt8.toNat_ofNat']; omega
    simp only [List.getElem_cons_zero]; rw [e]; go_simp)
  simpa [bA] using this
theorem conv_cell1 {w' : World} {g : Nat} {a : Int} (h : w'.cell? ⟨g, 0, none⟩ = some (.int .u8 a)) (ha : 0 ≤ a ∧ a < 256) :
    Sem.run Tryz.prog (convert 31 9 (.slice (some ⟨g, 0, none⟩) 1 1)) w' = .ok (.string (bA [UInt8.ofNat a.toNat])) w' := by
  have := run_convert_bytes_back (P := Tryz.prog) w' 31 9 5 ⟨g, 0, none⟩ 1 [UInt8.ofNat a.toNat] Tryz.underlying31 Tryz.underlying5 Tryz.underlying9 (fun j hj => by
    have hj' : j < 1 := by simpa using hj
    obtain rfl : j = 0 := by omega
    rw [Addr.add_lit, h]
    have e : ((UInt8.ofNat a.toNat).toNat : Int) = a := by rw [UInt8.toNat_ofNat']; omega
    simp only [List.getElem_cons_zero]; rw [e])
  simpa [bA] using this
theorem conv_kept2 {W w' : World} {a b : Int} (h : Below (W.alloc (.cells #[.int .u8 a, .int .u8 b] 5)).heap.size (W.alloc (.cells #[.int .u8 a, .int .u8 b] 5)) w') (ha : 0 ≤ a ∧ a < 256) (hb : 0 ≤ b ∧ b < 256) :
    Sem.run Tryz.prog (convert 31 9 (.slice (some ⟨W.heap.size, 0, none⟩) 2 2)) w' = .ok (.string (bA [UInt8.ofNat a.toNat, UInt8.ofNat b.toNat])) w' := by
  have := run_convert_bytes_back (P := Tryz.prog) w' 31 9 5 ⟨W.heap.size, 0, none⟩ 2 [UInt8.ofNat a.toNat, UInt8.ofNat b.toNat] Tryz.underlying31 Tryz.underlying5 Tryz.underlying9 (fun j hj => by
    have hj' : j < 2 := by simpa using hj
    have e : ((UInt8.ofNat a.toNat).toNat : Int) = a := by rw [UInt8.toNat_ofNat']; omega
    have e2 : ((UInt8.ofNat b.toNat).toNat : Int) = b := by rw [UInt8.toNat_ofNat']; omega
    rw [Addr.add_lit, h.cell (by simp)]
    rcases (show j = 0 ∨ j = 1 by omega) with rfl | rfl
    · simp only [List.getElem_cons_zero]; rw [e]; go_simp
    · simp only [List.getElem_cons_zero, List.getElem_cons_succ]; rw [e2]; go_simp)
  simpa [bA] using this
end Go.Proofs.YtiflfcjocngiiaaGreatDoor

/- Of a row of bytes there is but one event; no program walked, no conditions. -/

namespace Go.Proofs.YtiflfcjocngiiaaGreatDoor
open Go Go.RowKit

theorem UpE.same {b : List UInt8} {ty ty' : ByteArray} {ver ver' : Int} {t t' : Tr} (h : UpE b ty ver t) (h' : UpE b ty' ver' t') : ty' = ty ∧ ver' = ver ∧ t' = t := by
  have f := evOk_facts h.1
  have f' := evOk_facts h'.1
  have p1 := starts_ptx (l := b) (rest := []) h.1 (by rw [List.append_nil, h.2])
  have p2 := starts_ptx (l := b) (rest := []) h'.1 (by rw [List.append_nil, h'.2])
  rw [p1] at p2
  simp only [Option.some.injEq, Prod.mk.injEq, List.cons.injEq] at p2
  obtain ⟨e1, e2, e3⟩ := p2
  have hl : (treeB t).length = (treeB t').length := by
    have := congrArg List.length e3
    simpa using this
  have q1 := ptree_done t 1 f.2.2.2.2.2.2 (treeB t).length [] (Nat.le_refl _)
  have q2 := ptree_done t' 1 f'.2.2.2.2.2.2 (treeB t).length [] (by omega)
  rw [e3, q2] at q1
  simp only [Option.some.injEq, Prod.mk.injEq, and_true] at q1
  have hv := congrArg UInt8.toNat e2
  rw [show (UInt8.ofNat ver.toNat).toNat = ver.toNat from by simp; omega, show (UInt8.ofNat ver'.toNat).toNat = ver'.toNat from by simp; omega] at hv
  exact ⟨e1.symm, by omega, q1⟩
end Go.Proofs.YtiflfcjocngiiaaGreatDoor

/- What both programs read of a record's bytes, as a function; of a record's own bytes it is that record. No program, no conditions. -/

namespace Go.Proofs.YtiflfcjocngiiaaGreatDoor
open Go Go.RowKit

/-- The event whose bytes they are. -/
noncomputable def evF (b : List UInt8) : Option Ev := by
  classical
  exact if h : ∃ e : Ev, UpE b e.ty e.ver e.t then some h.choose else none
theorem evF_some {b : List UInt8} {e : Ev} (h : UpE b e.ty e.ver e.t) : evF b = some e := by
  have hex : ∃ e : Ev, UpE b e.ty e.ver e.t := ⟨e, h⟩
  unfold evF
  rw [dif_pos hex]
  obtain ⟨h1, h2, h3⟩ := UpE.same h hex.choose_spec
  congr 1
  generalize hex.choose = x at h1 h2 h3 ⊢
  obtain ⟨a, b', c⟩ := x
  obtain ⟨a', b'', c'⟩ := e
  simp only at h1 h2 h3
  subst h1 h2 h3
  rfl
theorem evF_none {b : List UInt8} (h : ∀ ty ver t, ¬ UpE b ty ver t) : evF b = none := by
  unfold evF
  rw [dif_neg]
  rintro ⟨e, he⟩
  exact h _ _ _ he
/-- Two bytes as a number. -/
def twoN (x y : UInt8) : Nat := x.toNat * 256 + y.toNat
/-- So many events. -/
noncomputable def evsF : Nat → List UInt8 → Option (List Ev)
  | 0, _ => some []
  | n + 1, x :: y :: r => if twoN x y ≤ r.length then
      match evF (r.take (twoN x y)) with
      | none => none
      | some e => (evsF n (r.drop (twoN x y))).map (e :: ·)
    else none
  | _ + 1, _ => none
/-- A key and events. -/
noncomputable def recF (b : List UInt8) : Option (ByteArray × List Ev) := match ptx b with
  | none => none
  | some (_, []) => none
  | some (k, n :: r) => (evsF n.toNat r).map (k, ·)
theorem twoN_twoB {n : Nat} (h : n ≤ 9000) : ∃ x y, twoB n = [x, y] ∧ twoN x y = n := by
  refine ⟨_, _, rfl, ?_⟩
  unfold twoN
  have h1 : (UInt8.ofNat (n / 256)).toNat = n / 256 := by simp [UInt8.toNat_ofNat']; omega
  have h2 : (UInt8.ofNat (n % 256)).toNat = n % 256 := by simp [UInt8.toNat_ofNat']
  rw [h1, h2]; omega
theorem evF_evB {e : Ev} (h : evOkE e = true) : evF (evB e) = some e := by
  refine evF_some ⟨h, ?_⟩
  have h' : evOkB e.ty e.ver e.t = true := h
  unfold evB packB
  rw [if_pos h']
theorem evsF_evsB : ∀ (es : List Ev) (rest : List UInt8), es.all evOkE = true → evsF es.length (evsB es ++ rest) = some es
  | [], rest, _ => by simp [evsF]
  | e :: es, rest, h => by
    simp only [List.all_cons, Bool.and_eq_true] at h
    obtain ⟨x, y, h1, h2⟩ := twoN_twoB (evB_len e)
    have ih := evsF_evsB es rest h.2
    simp only [evsB, h1, List.length_cons, List.cons_append, List.nil_append, List.append_assoc, evsF, h2]
    rw [if_pos (by simp), List.take_append_of_le_length (Nat.le_refl _), List.take_length, evF_evB h.1]
    simp only [List.drop_append_of_le_length (Nat.le_refl _), List.drop_length, List.nil_append, ih, Option.map_some]
theorem recF_recB {pos : Int} {key : ByteArray} {es : List Ev} (h : recOkB pos key es = true) : recF (recB key es) = some (key, es) := by
  unfold recOkB at h
  simp only [Bool.and_eq_true] at h
  obtain ⟨⟨h1, h2⟩, -⟩ := h
  obtain ⟨-, hk, -, hn⟩ := headB_parts h1
  have hsz := name_size hk
  unfold recF recB headT
  rw [List.append_assoc, ptx_done key _ (by omega)]
  simp only [List.cons_append, List.nil_append]
  have hn2 : (UInt8.ofNat es.length).toNat = es.length := by simp [UInt8.toNat_ofNat']; omega
  have := evsF_evsB es [] h2
  rw [List.append_nil] at this
  rw [hn2, this]
  rfl
/-- The record whose bytes they are. -/
def RuIs (pos : Int) (b : List UInt8) : Option (ByteArray × List Ev) → Prop
  | some (k, es) => recOkB pos k es = true ∧ recB k es = b
  | none => ∀ k es, recOkB pos k es = true → recB k es ≠ b
theorem ru_none {pos : Int} {b : List UInt8} (h : recF b = none) : RuIs pos b none := fun k es h1 h2 => by
  rw [← h2, recF_recB h1] at h; cases h
theorem ru_other {pos : Int} {b : List UInt8} {k : ByteArray} {es : List Ev} (h : recF b = some (k, es)) (hne : recPackB pos k es ≠ b) : RuIs pos b none := fun k' es' h1 h2 => by
  rw [← h2, recF_recB h1] at h
  simp only [Option.some.injEq, Prod.mk.injEq] at h
  obtain ⟨rfl, rfl⟩ := h
  refine hne ?_
  unfold recPackB
  rw [if_pos h1, h2]
theorem ru_same {pos : Int} {b : List UInt8} {k : ByteArray} {es : List Ev} (hb : b ≠ []) (he : recPackB pos k es = b) : RuIs pos b (some (k, es)) := by
  unfold recPackB at he
  split at he
  · next h => exact ⟨h, he⟩
  · exact absurd he.symm hb
theorem RuIs.same {pos : Int} {b : List UInt8} {k k' : ByteArray} {es es' : List Ev} (h : RuIs pos b (some (k, es))) (h' : RuIs pos b (some (k', es'))) : k' = k ∧ es' = es := by
  have h1 := recF_recB h.1
  have h2 := recF_recB h'.1
  rw [h.2] at h1
  rw [h'.2, h1] at h2
  simp only [Option.some.injEq, Prod.mk.injEq] at h2
  exact ⟨h2.1.symm, h2.2.symm⟩
end Go.Proofs.YtiflfcjocngiiaaGreatDoor

/- Digits as bytes and strings; small laws. No program walked, no conditions. -/

namespace Go.Proofs.YtiflfcjocngiiaaGreatDoor
open Go Go.RowKit

/-- A digit's byte. -/
def dg (m : Int) : UInt8 := UInt8.ofNat (48 + m.toNat)
theorem dg_nat {m : Int} (h0 : 0 ≤ m) (h1 : m < 10) : ((dg m).toNat : Int) = 48 + m := by unfold dg; rw [UInt8.toNat_ofNat']; omega
/-- One byte, as a string. -/
theorem conv_one (W : World) (b cap : Nat) (m : Int) (h0 : 0 ≤ m) (h1 : m < 10) (hc : W.cell? ⟨b, 0, none⟩ = some (.int .u8 (48 + m))) :
    Sem.run Tryz.prog (convert 31 9 (.slice (some ⟨b, 0, none⟩) 1 cap)) W = .ok (.string ⟨#[dg m]⟩) W := by
  have := run_convert_bytes_back (P := Tryz.prog) W 31 9 5 ⟨b, 0, none⟩ cap [dg m] Tryz.underlying31 Tryz.underlying5 Tryz.underlying9 (fun j hj => by
    have hj0 : j = 0 := by simpa using hj
    subst hj0
    rw [Addr.add_lit, hc]
    simp only [List.getElem_cons_zero]
    rw [dg_nat h0 h1])
  simpa using this

theorem rem10 {n : Int} (h0 : 0 ≤ n) : IntKind.i64.wrap (48 + n.tmod 10) = 48 + n % 10 := by
  rw [IntKind.wrap_i64, Int.tmod_eq_emod_of_nonneg h0]; omega
theorem rem10b (n : Int) : IntKind.u8.wrap (48 + n % 10) = 48 + n % 10 := by
  rw [IntKind.wrap_u8]; omega

theorem ret_str {a b : ByteArray} (h : a = b) : Ending.returned (.string a) = .returned (.string b) := by rw [h]
theorem bc1 {w w1 : World} {o : Obj} (h : Below w.drew.heap.size w.drew w1) : Below w.heap.size w (w1.alloc o) :=
  (((Below.refl _ w).drew).trans h).alloc h.size o
theorem bc2 {w w1 : World} {o : Obj} (h : Below (w.alloc o).drew.heap.size (w.alloc o).drew w1) : Below w.heap.size w w1 :=
  (((Below.refl _ w).alloc (Nat.le_refl _) o).drew).trans (h.mono (by simp))
end Go.Proofs.YtiflfcjocngiiaaGreatDoor
