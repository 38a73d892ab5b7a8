/- The program's recordCounter in memory, and the walks of its want, put. No conditions. -/
import Derived.Test.YtbigchdhpdgicaaDoorPart04
import Derived.Deep.CutRange
import Derived.Test.YtbigchdhpdgicaaDoorRows
import Derived.Test.YtbigchdhpdgicaaDoorPart00
import Derived.Lib.ItoaNum
import Derived.Lib.ItoaLen
import Derived.Lib.ItoaMem
import Derived.Deep.RegionWith
import Derived.WalkSmall
import Derived.Deep.OwnRows
import Derived.Handy
import Derived.Test.YtbigchdhpdgicaaDoorPart01
namespace Go.Proofs.YtbigchdhpdgicaaDoor
open Go Go.RowKit

/-- A record's fault is raised. -/
abbrev rfE : Ending := .panicked [{ v := .iface 60 (.agg #[]), recovered := false }]

set_option maxHeartbeats 400000 in
theorem want_yes (B : Nat) (w : World) : Calls Tryd.prog 32 #[.pointer (some ⟨B, 0, none⟩), .bool true] w fun e w' => e = .returned (.tuple #[]) ∧ w' = w := by
  go_enter Tryd.func32, Tryd.ntmps32
  go_wp2_with fail
  go_end0
  exact ⟨rfl, rfl⟩

set_option maxHeartbeats 400000 in
theorem want_no (B : Nat) (w : World) : Calls Tryd.prog 32 #[.pointer (some ⟨B, 0, none⟩), .bool false] w fun e w' => e = rfE ∧ w' = w := by
  go_enter Tryd.func32, Tryd.ntmps32
  go_wp2_with fail
  exact ⟨rfl, rfl, rfl⟩

/-- The counter: the bytes that were put, and how many there may be. -/
structure Rw (base B : Nat) (w : World) (v : Value) (l : List UInt8) : Prop where
  cells : w.rowIs B 65 2 (rowO v (.int .i64 2000))
  row : ByRow base w v l
  lt : base ≤ B
theorem Rw.alloc {base B : Nat} {w : World} {v : Value} {l : List UInt8} (h : Rw base B w v l) (o : Obj) : Rw base B (w.alloc o) v l :=
  ⟨h.cells.alloc o, World.ownsRow.alloc h.row o, h.lt⟩
theorem Rw.size {base B : Nat} {w : World} {v : Value} {l : List UInt8} (h : Rw base B w v l) : base ≤ w.heap.size := by
  have := h.cells.lt; have := h.lt; omega
theorem Rw.on {base B : Nat} {w w' : World} {v : Value} {l : List UInt8} (h : Rw base B w v l) (hb : Below w.heap.size w w') : Rw base B w' v l :=
  ⟨h.cells.of_block (hb.block _ h.cells.lt), h.row.stay hb, h.lt⟩
/-- What a call that puts bytes comes to. -/
def RwEnd (base B : Nat) (w w' : World) (v : Value) (e : Ending) (l : List UInt8) : Prop := e = .returned (.tuple #[]) ∧ (Sp base B w w' ∧ ∀ b, b < w.heap.size → b ≠ B → v.ownBlock ≠ some b → w'.heap[b]? = w.heap[b]?) ∧ ∃ a n cap, n = l.length ∧ Rw base B w' (.slice a n cap) l
theorem rowO_pk0 {w : World} {B : Nat} {T : TypeId} {x y : Value} (h : w.rowIs B T 2 (rowO x y)) (v : Value) : (w.setCell ⟨B, 0, none⟩ v).rowIs B T 2 (rowO v y) :=
  (h.set 0 v).congr fun i hi => by
    rcases (show i = 0 ∨ i = 1 by omega) with rfl | rfl <;> rfl
theorem Rw.stored {base B : Nat} {w2 w3 : World} {v v' : Value} {l l' : List UInt8} (h : Rw base B w2 v l) (hg : w2.grownBy w3 v.ownBlock) (h3 : ByRow base w3 v' l') :
    w3.rowIs B 65 2 (rowO v (.int .i64 2000)) ∧ Rw base B (w3.setCell ⟨B, 0, none⟩ v') v' l' ∧ Sp base B w2 (w3.setCell ⟨B, 0, none⟩ v') := by
  have hr3 : w3.rowIs B 65 2 (rowO v (.int .i64 2000)) := h.cells.of_block (hg.block B h.cells.lt (fun e => ByRow.apart h.row h.cells (by decide) e.symm))
  exact ⟨hr3, ⟨rowO_pk0 hr3 v', ownsRow_setCell_other h3 (ByRow.apart h3 hr3 (by decide)) v', h.lt⟩, (Sp.grown h.row hg).trans (Sp.but (But.set w3 0 v'))⟩

set_option maxRecDepth 100000 in
set_option maxHeartbeats 1600000 in
theorem rwput_any (base B : Nat) (w : World) (a : Option Addr) (n cap : Nat) (l news : List UInt8) (ad : Addr) (m c : Nat) (h : Rw base B w (.slice a n cap) l) (hm : m = news.length) (hc : ∀ j u, (bc news)[j]? = some u → w.cell? (ad.add j) = some u) (hl : l.length + news.length ≤ 1099511627776) :
    Calls Tryd.prog 46 #[.pointer (some ⟨B, 0, none⟩), .slice (some ad) m c] w fun e w' => RwEnd base B w w' (.slice a n cap) e (l ++ news) := by
  have k0 := h.cells.cell (i := 0) (by omega)
  simp only [rowO] at k0
  have H := hide h; have HC := hide hc; have HM := hide hm; have HL := hide hl
  clear h hc hm hl
  go_enter Tryd.func46, Tryd.ntmps46
  go_wp2_with (at_builtin; refine append_bytes _ rfl _ _ rfl base (.slice a n cap) l news rfl (unhide H).row ad m c rfl (unhide HM) (unhide HC) (unhide HL) (unhide H).size ?_
               intro a' n' cap' w3 HN3 HR3 HG3
               have hst := (unhide H).stored HG3.out HR3.out
               obtain ⟨hr3, hw3, hsp3⟩ := hst
               have m2 := hr3.cell (i := 0) (by omega)
               have f2 := hr3.frozen 0
               simp only [rowO] at m2
               have HW3 := hide hw3
               have HSP3 := hide (And.intro hsp3 (fun b (hb : b < w.heap.size) (hne : b ≠ B) (hno : (Value.slice a n cap).ownBlock ≠ some b) => (Below.heap_setCell w3 ⟨B, 0, none⟩ (.slice a' n' cap') b hne).trans (HG3.out.block b hb (fun e => hno e.symm))))
               clear hr3 hw3 hsp3 HR3 HG3)
  go_end0
  exact ⟨rfl, unhide HSP3, a', n', cap', HN3.out, unhide HW3⟩

set_option maxRecDepth 100000 in
set_option maxHeartbeats 1600000 in
theorem rcput_yes (base B : Nat) (w : World) (a : Option Addr) (n cap : Nat) (l news : List UInt8) (ad : Addr) (m c : Nat) (h : Rw base B w (.slice a n cap) l) (hm : m = news.length) (hc : ∀ j u, (bc news)[j]? = some u → w.cell? (ad.add j) = some u) (hnl : n = l.length) (hl : l.length + news.length ≤ 2000) :
    Calls Tryd.prog 35 #[.pointer (some ⟨B, 0, none⟩), .slice (some ad) m c] w fun e w' => RwEnd base B w w' (.slice a n cap) e (l ++ news) := by
  have k0 := h.cells.cell (i := 0) (by omega); have k1 := h.cells.cell (i := 1) (by omega)
  simp only [rowO] at k0 k1
  have hle : decide ((n : Int) + m ≤ 2000) = true := by simp; omega
  have hle2 : (n : Int) + m ≤ 2000 := by omega
  have HP := hide (fun (k : Nat) => rwput_any base B (w.drewN k) a n cap l news ad m c ⟨h.cells.of_block (by simp), h.row.stay (below_drewN (Below.refl _ _) _), h.lt⟩ hm (fun j u hj => hc j u hj) (by omega))
  have HSPD := hide (fun (k : Nat) => (Sp.but (But.of_below (below_drewN (Below.refl w.heap.size w) k)) : Sp base B w (w.drewN k)))
  clear h hm hc hnl hl
  go_enter Tryd.func35, Tryd.ntmps35
  go_wp2_with fail
  go_quiet ((go_at_call 32; exact Calls.quiet_of_same (want_yes _ _)))
  go_wp2_with fail
  refine (unhide HP _).mono ?_
  rintro e w' ⟨rfl, ⟨hsp, hfr⟩, hend⟩
  have HSP := hide (And.intro ((unhide HSPD _).trans hsp) hfr); have HEND := hide hend
  clear hsp hfr hend HP HSPD
  go_wp2_with fail
  go_end0
  exact ⟨rfl, unhide HSP, unhide HEND⟩

set_option maxRecDepth 100000 in
set_option maxHeartbeats 1600000 in
theorem rcput_no (base B : Nat) (w : World) (a : Option Addr) (n cap : Nat) (l news : List UInt8) (ad : Addr) (m c : Nat) (h : Rw base B w (.slice a n cap) l) (hm : m = news.length) (hnl : n = l.length) (hl : 2000 < l.length + news.length) (hl2 : l.length + news.length ≤ 1099511627776) :
    Calls Tryd.prog 35 #[.pointer (some ⟨B, 0, none⟩), .slice (some ad) m c] w fun e w' => e = rfE ∧ Below w.heap.size w w' := by
  have k0 := h.cells.cell (i := 0) (by omega); have k1 := h.cells.cell (i := 1) (by omega)
  simp only [rowO] at k0 k1
  have hle : decide ((n : Int) + m ≤ 2000) = false := by simp; omega
  have hwr : IntKind.i64.wrap ((n : Int) + m) = (n : Int) + m := by rw [IntKind.wrap_i64]; omega
  clear h hm hnl hl hl2
  go_enter Tryd.func35, Tryd.ntmps35
  go_wp2_with fail
  go_region_law (rw [if_pos (by first | rfl | simp [Region.wanted])]; go_simp; refine (want_no _ _).mono ?_; rintro e w2 ⟨rfl, rfl⟩; refine dead_end (by assumption) { tmps := #[], defers := [] } w (And.intro rfl (And.intro rfl (Below.refl _ _).drew)) (fun HF => ?_))
  all_goals exact (unhide HF).elim
end Go.Proofs.YtbigchdhpdgicaaDoor

/- Digits as bytes and strings; small laws. No program walked, no conditions. -/

namespace Go.Proofs.YtbigchdhpdgicaaDoor
open Go Go.RowKit

/-- A digit's byte. -/
def dg (m : Int) : UInt8 := UInt8.ofNat (48 + m.toNat)
theorem dg_nat {m : Int} (h0 : 0 ≤ m) (h1 : m < 10) : ((dg m).toNat : Int) = 48 + m := by unfold dg; rw [UInt8.toNat_ofNat']; omega
theorem dec_small {n : Int} (h : n < 10) : Lib.decDigits n.toNat = [dg n] := by rw [Lib.decDigits, dif_pos (by omega)]; rfl
theorem dec_big {n : Int} (h : ¬ n < 10) : Lib.decDigits n.toNat = Lib.decDigits (n / 10).toNat ++ [dg (n % 10)] := by
  rw [Lib.decDigits, dif_neg (by omega), show (n / 10).toNat = n.toNat / 10 from by omega, show dg (n % 10) = UInt8.ofNat (48 + n.toNat % 10) from by unfold dg; rw [show (n % 10).toNat = n.toNat % 10 from by omega]]

/-- One byte, as a string. -/
theorem conv_one (W : World) (b cap : Nat) (m : Int) (h0 : 0 ≤ m) (h1 : m < 10) (hc : W.cell? ⟨b, 0, none⟩ = some (.int .u8 (48 + m))) :
    Sem.run Tryd.prog (convert 55 9 (.slice (some ⟨b, 0, none⟩) 1 cap)) W = .ok (.string ⟨#[dg m]⟩) W := by
  have := run_convert_bytes_back (P := Tryd.prog) W 55 9 5 ⟨b, 0, none⟩ cap [dg m] Tryd.underlying55 Tryd.underlying5 Tryd.underlying9 (fun j hj => by
    have hj0 : j = 0 := by simpa using hj
    subst hj0
    rw [Addr.add_lit, hc]
    simp only [List.getElem_cons_zero]
    rw [dg_nat h0 h1])
  simpa using this

theorem quo10 {n : Int} (h0 : 0 ≤ n) (h1 : n ≤ 999999999) : IntKind.i64.wrap (n.tdiv 10) = n / 10 := by
  rw [IntKind.wrap_i64, Int.tdiv_eq_ediv_of_nonneg h0]; omega
theorem rem10 {n : Int} (h0 : 0 ≤ n) : IntKind.i64.wrap (48 + n.tmod 10) = 48 + n % 10 := by
  rw [IntKind.wrap_i64, Int.tmod_eq_emod_of_nonneg h0]; omega
theorem rem10b (n : Int) : IntKind.u8.wrap (48 + n % 10) = 48 + n % 10 := by
  rw [IntKind.wrap_u8]; omega

theorem ba_append (a b : List UInt8) : ((⟨a.toArray⟩ : ByteArray) ++ (⟨b.toArray⟩ : ByteArray)) = ⟨(a ++ b).toArray⟩ := by
  apply ByteArray.ext
  simp
theorem ret_str {a b : ByteArray} (h : a = b) : Ending.returned (.string a) = .returned (.string b) := by rw [h]
theorem bc1 {w w1 : World} {o : Obj} (h : Below w.drew.heap.size w.drew w1) : Below w.heap.size w (w1.alloc o) :=
  (((Below.refl _ w).drew).trans h).alloc h.size o
theorem bc2 {w w1 : World} {o : Obj} (h : Below (w.alloc o).drew.heap.size (w.alloc o).drew w1) : Below w.heap.size w w1 :=
  (((Below.refl _ w).alloc (Nat.le_refl _) o).drew).trans (h.mono (by simp))
end Go.Proofs.YtbigchdhpdgicaaDoor

/- Records as bytes: what LogFrame gives, and the walks of both sides' functions. No conditions but that a string's length is one. -/

namespace Go.Proofs.YtbigchdhpdgicaaDoor
open Go Go.RowKit

/-- A byte. -/
def hb (x : Int) : UInt8 := UInt8.ofNat x.toNat
theorem hb_nat {x : Int} (h0 : 0 ≤ x) (h1 : x < 256) : ((hb x).toNat : Int) = x := by unfold hb; rw [UInt8.toNat_ofNat']; omega
/-- Whether a record of that position with so many bytes is one. -/
def frOk (p : Int) (n : Nat) : Bool := decide (1 ≤ p ∧ p ≤ 999999 ∧ n ≤ 2000)
def frB (p : Int) (x : ByteArray) : ByteArray := if frOk p x.size = true then (⟨#[hb (x.size / 256), hb (x.size % 256)]⟩ ++ ⟨#[hb (p / 65536), hb (p / 256 % 256), hb (p % 256)]⟩) ++ x else ByteArray.empty

theorem frInS (a b c : Int) (w : World) : Calls Tryd.prog 13 #[.int .i64 a, .int .i64 b, .int .i64 c] w fun e w' => e = .returned (.bool (decide (b ≤ a ∧ a ≤ c))) ∧ Below w.heap.size w w' := by
  go_enter Tryd.func13, Tryd.ntmps13
  by_cases h1 : b ≤ a
  · by_cases h2 : a ≤ c
    · go_wp2_with fail
      go_ret
      exact ⟨by simp [h2]; omega, Below.refl _ _⟩
    · go_wp2_with fail
      go_ret
      exact ⟨by simp; omega, Below.refl _ _⟩
  · go_wp2_with fail
    go_ret
    exact ⟨by simp; omega, Below.refl _ _⟩
theorem frInP (a b c : Int) (w : World) : Calls Tryd.prog 33 #[.int .i64 a, .int .i64 b, .int .i64 c] w fun e w' => e = .returned (.bool (decide (b ≤ a ∧ a ≤ c))) ∧ Below w.heap.size w w' := by
  go_enter Tryd.func33, Tryd.ntmps33
  by_cases h1 : b ≤ a
  · by_cases h2 : a ≤ c
    · go_wp2_with fail
      go_ret
      exact ⟨by simp [h2]; omega, Below.refl _ _⟩
    · go_wp2_with fail
      go_ret
      exact ⟨by simp; omega, Below.refl _ _⟩
  · go_wp2_with fail
    go_ret
    exact ⟨by simp; omega, Below.refl _ _⟩
end Go.Proofs.YtbigchdhpdgicaaDoor

/- The walk of the program's bytesOf, LogFrame. No conditions but that a string's length is one. -/

namespace Go.Proofs.YtbigchdhpdgicaaDoor
open Go Go.RowKit

theorem bytes2 (w : World) : Calls Tryd.prog 101 #[.agg #[]] w fun e w' => e = .returned (.int .i64 2) ∧ Below w.heap.size w w' := by
  go_enter Tryd.func101, Tryd.ntmps101
  go_wp2_with fail
  go_ret
  exact ⟨rfl, (Below.refl _ _).alloc (Nat.le_refl _) _⟩

theorem wrapU (x : Int) : IntKind.u8.wrap x = x % 256 := by rw [IntKind.wrap_u8]
/-- So many bytes. -/
def rwB (l : List Int) (k : Nat) : Value := .int .u8 (l.getD k 0)
theorem conv_row (W : World) (b : Nat) (l : List Int) (hl : ∀ x, x ∈ l → 0 ≤ x ∧ x < 256) (h : W.rowIs b 5 l.length (rwB l)) :
    Sem.run Tryd.prog (convert 55 9 (.slice (some ⟨b, 0, none⟩) l.length l.length)) W = .ok (.string ⟨(l.map hb).toArray⟩) W := by
  have := run_convert_bytes_back (P := Tryd.prog) W 55 9 5 ⟨b, 0, none⟩ l.length (l.map hb) Tryd.underlying55 Tryd.underlying5 Tryd.underlying9 (fun j hj => by
    have hj' : j < l.length := by simpa using hj
    have hx := hl l[j] (List.getElem_mem hj')
    rw [Addr.add_lit, Nat.zero_add, h.cell hj']
    unfold rwB
    rw [List.getElem_map, hb_nat hx.1 hx.2, List.getD_eq_getElem?_getD, List.getElem?_eq_getElem hj']
    rfl)
  simpa using this

set_option maxRecDepth 100000 in
set_option maxHeartbeats 1600000 in
theorem bytesOf2_any (n : Int) (h0 : 0 ≤ n) (h1 : n < 65536) (w : World) : Calls Tryd.prog 48 #[.int .i64 n] w fun e w' => e = .returned (.string ⟨#[hb (n / 256), hb (n % 256)]⟩) ∧ Below w.heap.size w w' := by
  have hmk : ∀ W : World, Sem.run Tryd.prog (Instr.makeSlice 55 (.int .i64 2) (.int .i64 2)) W = .ok (.slice (some ⟨W.heap.size, 0, none⟩) 2 2) (W.alloc (.cells (madeCells #[.int .u8 0] 2) 5)) := run_make_row' (P := Tryd.prog) 55 5 (.int .u8 0) 1 Tryd.underlying55 (by kernel_rfl) rfl .i64 .i64 2 (by omega) (by omega)
  go_enter Tryd.func48, Tryd.ntmps48
  go_wp2_with fail
  refine (bytes2 _).mono ?_
  rintro e w1 ⟨rfl, hb1⟩
  have hb01 := ((Below.refl _ w).alloc (Nat.le_refl _) _).trans (hb1.mono (by simp))
  have HB := hide hb01
  have hz := hb01.size
  clear hb1 hb01
  go_wp2_with fail
  clear hmk
  go_loopw [0, 5] (fun q i wr => Below w1.heap.size w1 wr ∧ ((q = .int .i64 (n) ∧ i = .int .i64 (1) ∧ Hid (wr.rowIs w1.heap.size 5 2 (rwB [0, 0]))) ∨ (q = .int .i64 (n / 256) ∧ i = .int .i64 (0) ∧ Hid (wr.rowIs w1.heap.size 5 2 (rwB [0, (n) % 256]))) ∨ (q = .int .i64 (n / 256 / 256) ∧ i = .int .i64 (-1) ∧ Hid (wr.rowIs w1.heap.size 5 2 (rwB [(n / 256) % 256, (n) % 256]))))) (fun _ i _ => (intOf i + 1).toNat)
  case atStart => exact ⟨(Below.refl _ _).alloc (Nat.le_refl _) _, Or.inl ⟨rfl, rfl, hide ((World.rowIs_made w1 (.int .u8 0) 2 _).congr (fun k hk => by rcases (show k = 0 ∨ k = 1 by omega) with rfl | rfl <;> rfl))⟩⟩
  case round =>
    obtain ⟨hb, hrel⟩ := hrel
    rcases hrel with ⟨rfl, rfl, HR⟩ | ⟨rfl, rfl, HR⟩ | ⟨rfl, rfl, HR⟩
    · have hf := HR.out.frozen 1
      have hcc := HR.out.cell (i := 1) (by omega)
      go_wp2_with fail
      go_roundw
      case rel =>
        refine ⟨hb.setCell (Nat.le_refl _) _, Or.inr (Or.inl ?_)⟩
        refine ⟨by first | rfl | (go_num), by first | rfl | (go_num), hide ((HR.out.set 1 _).congr (fun k hk => ?_))⟩
        rcases (show k = 0 ∨ k = 1 by omega) with rfl | rfl <;> first | rfl | (unfold rwB; simp; done) | (unfold rwB; simp; omega)
      case measure => simp [intOf]
    · have hf := HR.out.frozen 0
      have hcc := HR.out.cell (i := 0) (by omega)
      go_wp2_with fail
      go_roundw
      case rel =>
        refine ⟨hb.setCell (Nat.le_refl _) _, Or.inr (Or.inr ?_)⟩
        refine ⟨by first | rfl | (go_num), by first | rfl | (go_num), hide ((HR.out.set 0 _).congr (fun k hk => ?_))⟩
        rcases (show k = 0 ∨ k = 1 by omega) with rfl | rfl <;> first | rfl | (unfold rwB; simp; done) | (unfold rwB; simp; omega)
      case measure => simp [intOf]
    · have hcv := conv_row wr w1.heap.size [(n / 256) % 256, (n) % 256] (by intro x hx; simp only [List.mem_cons, List.not_mem_nil, or_false] at hx; rcases hx with rfl | rfl <;> omega) HR.out
      simp only [List.length_cons, List.length_nil, Nat.zero_add, Nat.reduceAdd] at hcv
      go_wp2_with fail
      go_ret
      refine ⟨?_, (unhide HB).trans (hb.mono hz)⟩
      exact ret_str (by rw [show n / 256 % 256 = n / 256 by omega])

end Go.Proofs.YtbigchdhpdgicaaDoor

/- The walks of the program's byteWriter: tree and kids. Conditions: the tree is ok, and its bytes fit. -/

namespace Go.Proofs.YtbigchdhpdgicaaDoor
open Go Go.RowKit

def TrP (n : Nat) : Prop := ∀ (t : Tr), tsz t < n → ∀ (P : Nat → Prop) (c : C5) (d : Int) (base B : Nat) (w : World) (a : Option Addr) (len cap : Nat) (l : List UInt8), (∀ b, P b → b < base) → Rep P w t c → 0 < pT t d → Wr base B w (.slice a len cap) l → l.length + (treeB t).length ≤ 9000 →
    Calls Tryd.prog 62 #[.pointer (some ⟨B, 0, none⟩), .agg #[c.c0, c.c1, c.c2, c.c3, c.c4]] w fun e w' => WrEnd base B w w' e (l ++ treeB t)

theorem Sp.rep {base B : Nat} {w w' : World} {P : Nat → Prop} {t : Tr} {c : C5} (h : Sp base B w w') (hb : base ≤ B) (hw : base ≤ w.heap.size) (hP : ∀ b, P b → b < base) (hr : Rep P w t c) : Rep P w' t c :=
  Rep.carry (fun b hbb => (h.below hb hw).block b (hP b hbb)) (fun _ h => h) _ _ hr

theorem Wr.len {base B : Nat} {w : World} {a : Option Addr} {n cap : Nat} {l : List UInt8} (h : Wr base B w (.slice a n cap) l) : n = l.length := by
  obtain ⟨a', cap', hv⟩ := h.row.slice
  simp only [Value.slice.injEq] at hv
  exact hv.2.1

set_option maxRecDepth 100000 in
set_option maxHeartbeats 3200000 in
theorem kids_any (n : Nat) (IH : TrP n) (t : Tr) (hn : tsz t ≤ n) (P : Nat → Prop) (c : C5) (d : Int) (base B : Nat) (w : World) (a : Option Addr) (len cap : Nat) (l : List UInt8) (hP : ∀ b, P b → b < base) (hrep : Rep P w t c) (hok : 0 < pT t d) (h : Wr base B w (.slice a len cap) l)
    (hl : l.length + (UInt8.ofNat t.kids.length :: kidsB (decide (t.sort = 5)) t.names t.kids).length ≤ 9000) :
    Calls Tryd.prog 66 #[.pointer (some ⟨B, 0, none⟩), .agg #[c.c0, c.c1, c.c2, c.c3, c.c4]] w fun e w' => WrEnd base B w w' e (l ++ (UInt8.ofNat t.kids.length :: kidsB (decide (t.sort = 5)) t.names t.kids)) := by
  obtain ⟨c0, c1, c2, c3, c4⟩ := c
  obtain ⟨e0, e1, e2, -, -, -, hns, ak, capk, e4, -, hks⟩ := hrep.open
  simp only at e0 e1 e2 e4 hns
  subst e0 e1 e2 e4
  obtain ⟨a3, cap3, rfl, -, hns⟩ := hns
  have hso := ok_sort hok
  have hmany := ok_many hok
  have hnm := ok_names hok
  have HKID := hide (fun k hk => ok_kid hok k hk)
  have HTS := hide (fun (k : Tr) (hk : k ∈ t.kids) => tsz_kid hk)
  have hbB := h.lt
  have hbw := h.size
  have hBw := h.cells.lt
  have hwa := fun o => h.alloc o
  have HPUT := hide (fun o => put_any base B (w.alloc o) a len cap l t.kids.length (hwa o) (by omega) (by omega) (by simp at hl; omega))
  have HBD : Hid (∀ k, (hk : k < t.kids.length) → ((l ++ [UInt8.ofNat t.kids.length]) ++ kidsB (decide (t.sort = 5)) t.names (t.kids.take k)).length + ((if decide (t.sort = 5) then shortB (t.names.getD k ByteArray.empty) else []).length + (treeB t.kids[k]).length) ≤ 9000) := fun k hk => by
    have h1 := kidsB_le (decide (t.sort = 5)) t.names t.kids (k + 1)
    rw [kidsB_take _ _ _ _ hk] at h1
    simp only [List.length_append, List.length_cons, List.length_nil] at h1 hl ⊢
    omega
  have HE : Hid (∀ ks, (l ++ [UInt8.ofNat t.kids.length]) ++ kidsB (decide (t.sort = 5)) t.names ks = l ++ (UInt8.ofNat t.kids.length :: kidsB (decide (t.sort = 5)) t.names ks)) := fun ks => by simp
  have HP := hide hP; have HKS := hide hks; have HNS := hide hns; have HI := hide IH; have HNM := hide hnm; have HHN := hide hn
  have HLT := hide hbB; have HBW := hide hbw; have HBL := hide hBw
  clear hso hok hnm hks hns IH hP hl hrep h hwa hn
  generalize hd5 : decide (t.sort = 5) = f at *
  have HD5 := hide hd5
  clear hd5
  have hf5 : (t.sort == 5) = f := by rw [← unhide HD5]; rfl
  go_enter Tryd.func66, Tryd.ntmps66
  go_wp2_with fail
  refine (unhide HPUT _).mono ?_
  rintro e w1 ⟨rfl, hsp1, a1, n1, cap1, hn1, hw1⟩
  rw [Int.toNat_natCast] at hw1 hn1
  have hr1 := hsp1.box (row5_alloc w (.int .i64 t.sort) (.int .i64 t.num) (.string t.text) (.slice a3 t.names.length cap3) (.slice ak t.kids.length capk) 41) (by omega) (by decide)
  have hspw := (Sp.alloc base B w (.cells #[.int .i64 t.sort, .int .i64 t.num, .string t.text, .slice a3 t.names.length cap3, .slice ak t.kids.length capk] 41)).trans hsp1
  have k4 := hr1.cell (i := 4) (by omega)
  simp only [row5] at k4
  have HR1 := hide hr1; have HSP1 := hide hspw; have HW1 := hide hw1
  clear hr1 hspw hw1 hsp1 hn1 HPUT
  go_wp2_with fail
  go_loopw [14] (fun i wr => ∃ (k : Nat) (ar : Option Addr) (nr cr : Nat), k ≤ t.kids.length ∧ i = .int .i64 k ∧ Hid (Wr base B wr (.slice ar nr cr) ((l ++ [UInt8.ofNat t.kids.length]) ++ kidsB f t.names (t.kids.take k))) ∧ Hid (Sp base B w wr) ∧ Hid (wr.rowIs w.heap.size 41 5 (row5 (.int .i64 t.sort) (.int .i64 t.num) (.string t.text) (.slice a3 t.names.length cap3) (.slice ak t.kids.length capk)))) (fun i _ => t.kids.length - (intOf i).toNat)
  case atStart => exact ⟨0, a1, n1, cap1, Nat.zero_le _, rfl, by rw [List.take_zero, kidsB, List.append_nil]; exact HW1, HSP1, HR1⟩
  case round =>
    clear HW1 HSP1 HR1 k4
    obtain ⟨k, ar, nr, cr, hk, rfl, HW, HSP, HBX⟩ := hrel
    by_cases hlt : k < t.kids.length
    · obtain ⟨b, o, ck, rfl, hpb, hcell, hrepk⟩ := unhide HKS k hlt
      obtain ⟨x0, x1, x2, x3, x4⟩ := ck
      obtain ⟨g0, g1, g2, -, -, -, ⟨y3, ycap3, g3, -⟩, y4, ycap4, g4, -⟩ := hrepk.open
      simp only at g0 g1 g2 g3 g4
      subst g0 g1 g2 g3 g4
      have hBwr : B < wr.heap.size := HW.out.cells.lt
      have hcw := hcell.carry ((HSP.out.below (unhide HLT) (unhide HBW)).block b (unhide HP b hpb))
      obtain ⟨e0, e1, e2, e3, e4⟩ := hcw
      simp only at e0 e1 e2 e3 e4
      have hsm : tsz t.kids[k] < n := by have := unhide HTS t.kids[k] (List.getElem_mem hlt); have := unhide HHN; omega
      have HCALL := hide (fun (W : World) (hW : Sp base B w W) (a5 : Option Addr) (n5 cap5 : Nat) (l5 : List UInt8) (hw5 : Wr base B W (.slice a5 n5 cap5) l5) (hl5 : l5.length + (treeB t.kids[k]).length ≤ 9000) => unhide HI t.kids[k] hsm P ⟨.int .i64 t.kids[k].sort, .int .i64 t.kids[k].num, .string t.kids[k].text, .slice y3 t.kids[k].names.length ycap3, .slice y4 t.kids[k].kids.length ycap4⟩ (d + 1) base B W a5 n5 cap5 l5 (unhide HP) (hW.rep (unhide HLT) (unhide HBW) (unhide HP) hrepk) (unhide HKID k hlt) hw5 hl5)
      have hbd := unhide HBD k hlt
      have hnext := kidsB_take f t.names t.kids k hlt
      have b0 := HBX.out.cell (i := 0) (by omega); have b3 := HBX.out.cell (i := 3) (by omega)
      simp only [row5] at b0 b3
      have ba0 : ∀ ob, (wr.alloc ob).cell? ⟨w.heap.size, 0, none⟩ = some (.int .i64 t.sort) := fun ob => by have := (HBX.out.alloc ob).cell (i := 0) (by omega); simpa only [row5] using this
      have ba3 : ∀ ob, (wr.alloc ob).cell? ⟨w.heap.size, 3, none⟩ = some (.slice a3 t.names.length cap3) := fun ob => by have := (HBX.out.alloc ob).cell (i := 3) (by omega); simpa only [row5] using this
      have HSPA := hide (HSP.out.trans (Sp.alloc base B wr (.cells #[.int .i64 t.kids[k].sort, .int .i64 t.kids[k].num, .string t.kids[k].text, .slice y3 t.kids[k].names.length ycap3, .slice y4 t.kids[k].kids.length ycap4] 41)))
      have HWA := hide (HW.out.alloc (.cells #[.int .i64 t.kids[k].sort, .int .i64 t.kids[k].num, .string t.kids[k].text, .slice y3 t.kids[k].names.length ycap3, .slice y4 t.kids[k].kids.length ycap4] 41))
      have HBXA := hide (HBX.out.alloc (.cells #[.int .i64 t.kids[k].sort, .int .i64 t.kids[k].num, .string t.kids[k].text, .slice y3 t.kids[k].names.length ycap3, .slice y4 t.kids[k].kids.length ycap4] 41))
      have HKB := hide (row5_alloc wr (.int .i64 t.kids[k].sort) (.int .i64 t.kids[k].num) (.string t.kids[k].text) (.slice y3 t.kids[k].names.length ycap3) (.slice y4 t.kids[k].kids.length ycap4) 41)
      clear hcell hrepk hsm hpb
      cases f with
      | false =>
          have HLB : Hid (((l ++ [UInt8.ofNat t.kids.length]) ++ kidsB false t.names (t.kids.take k)).length + (treeB t.kids[k]).length ≤ 9000) := by
            simp only [Bool.false_eq_true, if_false, List.length_nil, Nat.zero_add] at hbd
            exact hbd
          have HNEXT : Hid (((l ++ [UInt8.ofNat t.kids.length]) ++ kidsB false t.names (t.kids.take k)) ++ treeB t.kids[k] = (l ++ [UInt8.ofNat t.kids.length]) ++ kidsB false t.names (t.kids.take (k + 1))) := by
            show _ = _
            rw [hnext]; simp
          clear hbd hnext
          go_wp2_with fail
          refine (unhide HCALL _ (unhide HSPA) ar nr cr _ (unhide HWA) (unhide HLB)).mono ?_
          rintro e w6 ⟨rfl, hsp6, a6, n6, cap6, -, hw6⟩
          have HSP6 := hide ((unhide HSPA).trans hsp6)
          have HBX6 := hide (hsp6.box (unhide HBXA) (by have := unhide HBL; omega) (by decide))
          rw [unhide HNEXT] at hw6
          have HW6 := hide hw6
          clear hw6 hsp6
          go_wp2_with fail
          go_roundw
          case rel => exact ⟨k + 1, a6, n6, cap6, by omega, by go_num, HW6, HSP6, HBX6⟩
          case measure => simp [intOf]; omega
      | true =>
          obtain ⟨hnl, hn8⟩ := unhide HNM (by simpa using unhide HD5)
          have hkn : k < t.names.length := by omega
          obtain ⟨b', o', rfl, hpb', hcell', -⟩ := unhide HNS k hkn
          have hpl := unhide HP b' hpb'
          have ec : wr.cell? ⟨b', o' + k, none⟩ = some (.string t.names[k]) := by rw [World.cell?_of_block (w := w) ((HSP.out.below (unhide HLT) (unhide HBW)).block b' hpl)]; exact hcell'
          have eca : ∀ ob, (wr.alloc ob).cell? ⟨b', o' + k, none⟩ = some (.string t.names[k]) := fun ob => by rw [World.cell?_of_block (w := wr) (Below.heap_alloc _ _ _ (by have h1 := unhide HBW; have h2 := HSP.out.size; exact Nat.lt_of_lt_of_le hpl (Nat.le_trans h1 h2)))]; exact ec
          have h8 := hn8 _ (List.getElem_mem hkn)
          have hgd := getD_lt t.names k hkn
          rw [hgd] at hbd hnext
          have HLA : Hid (((l ++ [UInt8.ofNat t.kids.length]) ++ kidsB true t.names (t.kids.take k)).length + (shortB t.names[k]).length ≤ 9000) := by
            simp only [if_true] at hbd
            show _ ≤ _
            omega
          have HLB : Hid ((((l ++ [UInt8.ofNat t.kids.length]) ++ kidsB true t.names (t.kids.take k)) ++ shortB t.names[k]).length + (treeB t.kids[k]).length ≤ 9000) := by
            simp only [if_true] at hbd
            show _ ≤ _
            rw [List.length_append]
            omega
          have HNEXT : Hid ((((l ++ [UInt8.ofNat t.kids.length]) ++ kidsB true t.names (t.kids.take k)) ++ shortB t.names[k]) ++ treeB t.kids[k] = (l ++ [UInt8.ofNat t.kids.length]) ++ kidsB true t.names (t.kids.take (k + 1))) := by
            show _ = _
            rw [hnext]; simp
          have HTX := hide (text_any base B _ ar nr cr _ t.names[k] (unhide HWA) (by omega) (unhide HLA))
          clear hbd hnext hgd h8 hn8 hcell' hpb' hnl hpl ec
          go_wp2_with fail
          refine (unhide HTX).mono ?_
          rintro e w4 ⟨rfl, hsp4, a4, n4, cap4, -, hw4⟩
          have hkb4 := hsp4.box (unhide HKB) (by omega) (by decide)
          have m0 := hkb4.cell (i := 0) (by omega); have m1 := hkb4.cell (i := 1) (by omega); have m2 := hkb4.cell (i := 2) (by omega); have m3 := hkb4.cell (i := 3) (by omega); have m4 := hkb4.cell (i := 4) (by omega)
          simp only [row5] at m0 m1 m2 m3 m4
          have HSP4 := hide ((unhide HSPA).trans hsp4)
          have HBX4 := hide (hsp4.box (unhide HBXA) (by have := unhide HBL; omega) (by decide))
          have HW4 := hide hw4
          clear hw4 hsp4 hkb4 HTX HSPA HWA HBXA HKB eca ba0 ba3 b0 b3 HSP HW HBX
          go_wp2_with fail
          refine (unhide HCALL _ (unhide HSP4) a4 n4 cap4 _ (unhide HW4) (unhide HLB)).mono ?_
          rintro e w6 ⟨rfl, hsp6, a6, n6, cap6, -, hw6⟩
          have HSP6 := hide ((unhide HSP4).trans hsp6)
          have HBX6 := hide (hsp6.box (unhide HBX4) (by have := unhide HBL; omega) (by decide))
          rw [unhide HNEXT] at hw6
          have HW6 := hide hw6
          clear hw6 hsp6
          go_wp2_with fail
          go_roundw
          case rel => exact ⟨k + 1, a6, n6, cap6, by omega, by go_num, HW6, HSP6, HBX6⟩
          case measure => simp [intOf]; omega
    · go_wp2_with fail
      go_end0
      have hfin := HW.out
      rw [List.take_of_length_le (by omega), HE.out] at hfin
      exact ⟨rfl, HSP.out, ar, nr, cr, hfin.len, hfin⟩
end Go.Proofs.YtbigchdhpdgicaaDoor

/- The walks of the program's byteWriter: tree, event; and of EventPack. Conditions: the table treeFields is as the program lays it. -/

namespace Go.Proofs.YtbigchdhpdgicaaDoor
open Go Go.RowKit

set_option maxRecDepth 100000 in
set_option maxHeartbeats 3200000 in
theorem trP_step (n : Nat) (IH : TrP n) : TrP (n + 1) := by
  intro t hn P c d base B w a len cap l hP hrep hok h hl
  obtain ⟨c0, c1, c2, c3, c4⟩ := c
  have hrep0 := hrep
  obtain ⟨e0, e1, e2, -, -, -, hns, ak, capk, e4, -, hks⟩ := hrep.open
  simp only at e0 e1 e2 e4 hns
  subst e0 e1 e2 e4
  obtain ⟨a3, cap3, rfl, -, hns⟩ := hns
  have hso := ok_sort hok
  have hs1 : 1 ≤ t.sort := by omega
  have hs6 : t.sort ≤ 6 := by omega
  have htb := treeB_eq t
  have hBw := h.cells.lt
  have hbB := h.lt
  have hbw := h.size
  have hl1 : l.length + 1 ≤ 9000 := by rw [htb] at hl; simp at hl; omega
  have HPUT := hide (fun o => put_any base B (w.alloc o) a len cap l t.sort (h.alloc o) (by omega) (by omega) hl1)
  rcases (show t.sort = 1 ∨ t.sort = 2 ∨ t.sort = 3 ∨ (t.sort ≠ 1 ∧ t.sort ≠ 2 ∧ t.sort ≠ 3) by omega) with hs | hs | hs | ⟨hx1, hx2, hx3⟩
  · obtain ⟨hn0, hn9⟩ := ok_num hok hs
    have HE : Hid ((l ++ [UInt8.ofNat t.sort.toNat]) ++ numB t.num = l ++ treeB t) := by show _ = _; rw [htb, if_pos hs]; simp
    have hl2 : (l ++ [UInt8.ofNat t.sort.toNat]).length + (numB t.num).length ≤ 9000 := by rw [← List.length_append, HE.out, List.length_append]; exact hl
    have hq1 : (t.sort == 1) = true := by simpa using hs
    clear hs
    clear h hso htb hok hks hns hrep hrep0 hP
    go_enter Tryd.func62, Tryd.ntmps62
    go_wp2_with fail
    refine (unhide HPUT _).mono ?_
    rintro e w1 ⟨rfl, hsp1, a1, n1, cap1, -, hw1⟩
    have hr1 := hsp1.box (row5_alloc w (.int .i64 t.sort) (.int .i64 t.num) (.string t.text) (.slice a3 t.names.length cap3) (.slice ak t.kids.length capk) 41) (by omega) (by decide)
    have HSP1 := hide ((Sp.alloc base B w (.cells #[.int .i64 t.sort, .int .i64 t.num, .string t.text, .slice a3 t.names.length cap3, .slice ak t.kids.length capk] 41)).trans hsp1)
    have k0 := hr1.cell (i := 0) (by omega); have k1 := hr1.cell (i := 1) (by omega); have k2 := hr1.cell (i := 2) (by omega); have k3 := hr1.cell (i := 3) (by omega); have k4 := hr1.cell (i := 4) (by omega)
    simp only [row5] at k0 k1 k2 k3 k4
    have HC := hide (numPk_any base B w1 a1 n1 cap1 _ t.num hw1 hn0 hn9 hl2)
    clear hr1 hsp1 hw1 HPUT
    go_wp2_with fail
    refine (unhide HC).mono ?_
    rintro e w2 ⟨rfl, hsp2, hend⟩
    have HEND := hide hend; have HSP2 := hide ((unhide HSP1).trans hsp2)
    clear hend hsp2 HC
    go_wp2_with fail
    go_end0
    rw [HE.out] at HEND
    exact ⟨rfl, unhide HSP2, unhide HEND⟩
  · have htx := ok_text hok hs
    have HE : Hid ((l ++ [UInt8.ofNat t.sort.toNat]) ++ shortB t.text = l ++ treeB t) := by show _ = _; rw [htb, if_neg (by omega), if_pos hs]; simp
    have hl2 : (l ++ [UInt8.ofNat t.sort.toNat]).length + (shortB t.text).length ≤ 9000 := by rw [← List.length_append, HE.out, List.length_append]; exact hl
    have hq1 : (t.sort == 1) = false := by simp; omega
    have hq2 : (t.sort == 2) = true := by simpa using hs
    clear hs
    clear h hso htb hok hks hns hrep hrep0 hP
    go_enter Tryd.func62, Tryd.ntmps62
    go_wp2_with fail
    refine (unhide HPUT _).mono ?_
    rintro e w1 ⟨rfl, hsp1, a1, n1, cap1, -, hw1⟩
    have hr1 := hsp1.box (row5_alloc w (.int .i64 t.sort) (.int .i64 t.num) (.string t.text) (.slice a3 t.names.length cap3) (.slice ak t.kids.length capk) 41) (by omega) (by decide)
    have HSP1 := hide ((Sp.alloc base B w (.cells #[.int .i64 t.sort, .int .i64 t.num, .string t.text, .slice a3 t.names.length cap3, .slice ak t.kids.length capk] 41)).trans hsp1)
    have k0 := hr1.cell (i := 0) (by omega); have k1 := hr1.cell (i := 1) (by omega); have k2 := hr1.cell (i := 2) (by omega); have k3 := hr1.cell (i := 3) (by omega); have k4 := hr1.cell (i := 4) (by omega)
    simp only [row5] at k0 k1 k2 k3 k4
    have HC := hide (text_any base B w1 a1 n1 cap1 _ t.text hw1 (by omega) hl2)
    clear hr1 hsp1 hw1 HPUT
    go_wp2_with fail
    refine (unhide HC).mono ?_
    rintro e w2 ⟨rfl, hsp2, hend⟩
    have HEND := hide hend; have HSP2 := hide ((unhide HSP1).trans hsp2)
    clear hend hsp2 HC
    go_wp2_with fail
    go_end0
    rw [HE.out] at HEND
    exact ⟨rfl, unhide HSP2, unhide HEND⟩
  · obtain ⟨hf0, hf1⟩ := ok_flag hok hs
    have HE : Hid ((l ++ [UInt8.ofNat t.sort.toNat]) ++ [UInt8.ofNat t.num.toNat] = l ++ treeB t) := by show _ = _; rw [htb, if_neg (by omega), if_neg (by omega), if_pos hs]; simp
    have hl2 : (l ++ [UInt8.ofNat t.sort.toNat]).length + 1 ≤ 9000 := by have := congrArg List.length HE.out; simp only [List.length_append, List.length_cons, List.length_nil] at this hl ⊢; omega
    have hq1 : (t.sort == 1) = false := by simp; omega
    have hq2 : (t.sort == 2) = false := by simp; omega
    have hq3 : (t.sort == 3) = true := by simpa using hs
    clear hs
    clear h hso htb hok hks hns hrep hrep0 hP
    go_enter Tryd.func62, Tryd.ntmps62
    go_wp2_with fail
    refine (unhide HPUT _).mono ?_
    rintro e w1 ⟨rfl, hsp1, a1, n1, cap1, -, hw1⟩
    have hr1 := hsp1.box (row5_alloc w (.int .i64 t.sort) (.int .i64 t.num) (.string t.text) (.slice a3 t.names.length cap3) (.slice ak t.kids.length capk) 41) (by omega) (by decide)
    have HSP1 := hide ((Sp.alloc base B w (.cells #[.int .i64 t.sort, .int .i64 t.num, .string t.text, .slice a3 t.names.length cap3, .slice ak t.kids.length capk] 41)).trans hsp1)
    have k0 := hr1.cell (i := 0) (by omega); have k1 := hr1.cell (i := 1) (by omega); have k2 := hr1.cell (i := 2) (by omega); have k3 := hr1.cell (i := 3) (by omega); have k4 := hr1.cell (i := 4) (by omega)
    simp only [row5] at k0 k1 k2 k3 k4
    have HC := hide (put_any base B w1 a1 n1 cap1 _ t.num hw1 hf0 (by omega) hl2)
    clear hr1 hsp1 hw1 HPUT
    go_wp2_with fail
    refine (unhide HC).mono ?_
    rintro e w2 ⟨rfl, hsp2, hend⟩
    have HEND := hide hend; have HSP2 := hide ((unhide HSP1).trans hsp2)
    clear hend hsp2 HC
    go_wp2_with fail
    go_end0
    rw [HE.out] at HEND
    exact ⟨rfl, unhide HSP2, unhide HEND⟩
  · have HE : Hid ((l ++ [UInt8.ofNat t.sort.toNat]) ++ (UInt8.ofNat t.kids.length :: kidsB (decide (t.sort = 5)) t.names t.kids) = l ++ treeB t) := by show _ = _; rw [htb, if_neg hx1, if_neg hx2, if_neg hx3]; simp
    have hl2 : (l ++ [UInt8.ofNat t.sort.toNat]).length + (UInt8.ofNat t.kids.length :: kidsB (decide (t.sort = 5)) t.names t.kids).length ≤ 9000 := by rw [← List.length_append, HE.out, List.length_append]; exact hl
    have hq1 : (t.sort == 1) = false := by simp; omega
    have hq2 : (t.sort == 2) = false := by simp; omega
    have hq3 : (t.sort == 3) = false := by simp; omega
    have HKC := hide (fun (w1 : World) (hsp : Sp base B w w1) (a1 : Option Addr) (n1 cap1 : Nat) (l1 : List UInt8) (hw1 : Wr base B w1 (.slice a1 n1 cap1) l1) (hl1 : l1.length + (UInt8.ofNat t.kids.length :: kidsB (decide (t.sort = 5)) t.names t.kids).length ≤ 9000) => kids_any n IH t (by omega) P ⟨.int .i64 t.sort, .int .i64 t.num, .string t.text, .slice a3 t.names.length cap3, .slice ak t.kids.length capk⟩ d base B w1 a1 n1 cap1 l1 hP (hsp.rep hbB hbw hP hrep0) hok hw1 hl1)
    have HL2 := hide hl2
    clear hx1 hx2 hx3 hl2
    clear h hso htb hok hks hns hrep hrep0 hP
    go_enter Tryd.func62, Tryd.ntmps62
    go_wp2_with fail
    refine (unhide HPUT _).mono ?_
    rintro e w1 ⟨rfl, hsp1, a1, n1, cap1, -, hw1⟩
    have hr1 := hsp1.box (row5_alloc w (.int .i64 t.sort) (.int .i64 t.num) (.string t.text) (.slice a3 t.names.length cap3) (.slice ak t.kids.length capk) 41) (by omega) (by decide)
    have HSP1 := hide ((Sp.alloc base B w (.cells #[.int .i64 t.sort, .int .i64 t.num, .string t.text, .slice a3 t.names.length cap3, .slice ak t.kids.length capk] 41)).trans hsp1)
    have k0 := hr1.cell (i := 0) (by omega); have k1 := hr1.cell (i := 1) (by omega); have k2 := hr1.cell (i := 2) (by omega); have k3 := hr1.cell (i := 3) (by omega); have k4 := hr1.cell (i := 4) (by omega)
    simp only [row5] at k0 k1 k2 k3 k4
    have HC := hide (unhide HKC w1 (unhide HSP1) a1 n1 cap1 _ hw1 (unhide HL2))
    clear hr1 hsp1 hw1 HPUT HKC HL2
    go_wp2_with fail
    refine (unhide HC).mono ?_
    rintro e w2 ⟨rfl, hsp2, hend⟩
    have HEND := hide hend; have HSP2 := hide ((unhide HSP1).trans hsp2)
    clear hend hsp2 HC
    go_wp2_with fail
    go_end0
    rw [HE.out] at HEND
    exact ⟨rfl, unhide HSP2, unhide HEND⟩

theorem trP_all : ∀ n, TrP n
  | 0 => fun t h => by omega
  | n + 1 => trP_step n (trP_all n)
end Go.Proofs.YtbigchdhpdgicaaDoor

/- The walks of the program's byteWriter.event, and of EventPack. Conditions: the table treeFields is as the program lays it. -/

namespace Go.Proofs.YtbigchdhpdgicaaDoor
open Go Go.RowKit

set_option maxRecDepth 100000 in
set_option maxHeartbeats 1600000 in
theorem event_any (ty : ByteArray) (ver : Int) (t : Tr) (P : Nat → Prop) (c : C5) (base B : Nat) (w : World) (a : Option Addr) (len cap : Nat) (l : List UInt8) (hP : ∀ b, P b → b < base) (hrep : Rep P w t c) (hok : evOkB ty ver t = true) (h : Wr base B w (.slice a len cap) l) (hl : l.length + (eventB ty ver t).length ≤ 9000) :
    Calls Tryd.prog 57 #[.pointer (some ⟨B, 0, none⟩), .agg #[.string ty, .int .i64 ver, c.c0, c.c1, c.c2, c.c3, c.c4]] w fun e w' => WrEnd base B w w' e (l ++ eventB ty ver t) := by
  obtain ⟨c0, c1, c2, c3, c4⟩ := c
  obtain ⟨-, h8, hv1, hv12, -, hpt⟩ := evOk_parts hok
  have hBw := h.cells.lt
  have hbB := h.lt
  have hbw := h.size
  simp only [eventB, List.length_append, List.length_cons, List.length_nil] at hl
  have HTX := hide (fun o => text_any base B (w.alloc o) a len cap l ty (h.alloc o) (by omega) (by omega))
  have HE : Hid (((l ++ shortB ty) ++ [UInt8.ofNat ver.toNat]) ++ treeB t = l ++ eventB ty ver t) := by show _ = _; simp [eventB]
  have HTR := hide (fun (w1 : World) (hsp : Sp base B w w1) (a1 : Option Addr) (n1 cap1 : Nat) (l1 : List UInt8) (hw1 : Wr base B w1 (.slice a1 n1 cap1) l1) (hl1 : l1.length + (treeB t).length ≤ 9000) => trP_all (tsz t + 1) t (by omega) P ⟨c0, c1, c2, c3, c4⟩ 1 base B w1 a1 n1 cap1 l1 hP (hsp.rep hbB hbw hP hrep) hpt hw1 hl1)
  clear hrep hok h hpt hP
  go_enter Tryd.func57, Tryd.ntmps57
  go_wp2_with fail
  refine (unhide HTX _).mono ?_
  rintro e w1 ⟨rfl, hsp1, a1, n1, cap1, -, hw1⟩
  have hr1 := hsp1.box (row7_alloc w (.string ty) (.int .i64 ver) c0 c1 c2 c3 c4 43) (by omega) (by decide)
  have k1 := hr1.cell (i := 1) (by omega)
  simp only [row7] at k1
  have HPU := hide (put_any base B w1 a1 n1 cap1 _ ver hw1 (by omega) (by omega) (by simp; omega))
  have HSP1 := hide ((Sp.alloc base B w (.cells #[.string ty, .int .i64 ver, c0, c1, c2, c3, c4] 43)).trans hsp1); have HR1 := hide hr1
  clear hr1 hsp1 hw1 HTX
  go_wp2_with fail
  refine (unhide HPU).mono ?_
  rintro e w2 ⟨rfl, hsp2, a2, n2, cap2, -, hw2⟩
  have hr2 := hsp2.box (unhide HR1) (by omega) (by decide)
  have j2 := hr2.cell (i := 2) (by omega); have j3 := hr2.cell (i := 3) (by omega); have j4 := hr2.cell (i := 4) (by omega); have j5 := hr2.cell (i := 5) (by omega); have j6 := hr2.cell (i := 6) (by omega)
  simp only [row7] at j2 j3 j4 j5 j6
  have HSP2 := hide ((unhide HSP1).trans hsp2)
  have HC := hide (unhide HTR w2 (unhide HSP2) a2 n2 cap2 _ hw2 (by simp; omega))
  rw [HE.out] at HC
  clear hr2 hsp2 hw2 HPU HR1 HSP1 k1 HTR
  go_wp2_with fail
  refine (unhide HC).mono ?_
  rintro e w3 ⟨rfl, hsp3, hend⟩
  have HEND := hide hend; have HSP3 := hide ((unhide HSP2).trans hsp3)
  clear hend hsp3 HC
  go_wp2_with fail
  go_end0
  exact ⟨rfl, unhide HSP3, unhide HEND⟩

set_option maxRecDepth 100000 in
set_option maxHeartbeats 800000 in
/-- The work that EventPack hands to treeTry. -/
theorem packWork_any (ty : ByteArray) (ver : Int) (t : Tr) (P : Nat → Prop) (c : C5) (base B X Y : Nat) (w : World) (a : Option Addr) (len cap : Nat) (l : List UInt8) (hP : ∀ b, P b → b < base) (hrep : Rep P w t c) (hok : evOkB ty ver t = true) (h : Wr base B w (.slice a len cap) l) (hl : l.length + (eventB ty ver t).length ≤ 9000)
    (hX : w.rowIs X 43 7 (row7 (.string ty) (.int .i64 ver) c.c0 c.c1 c.c2 c.c3 c.c4)) (hY : w.rowIs Y 89 1 (fun _ => .pointer (some ⟨B, 0, none⟩))) :
    Calls Tryd.prog 56 #[.pointer (some ⟨Y, 0, none⟩), .pointer (some ⟨X, 0, none⟩)] w fun e w' => WrEnd base B w w' e (l ++ eventB ty ver t) := by
  have HC := hide (event_any ty ver t P c base B w a len cap l hP hrep hok h hl)
  obtain ⟨c0, c1, c2, c3, c4⟩ := c
  have j0 := hX.cell (i := 0) (by omega); have j1 := hX.cell (i := 1) (by omega); have j2 := hX.cell (i := 2) (by omega); have j3 := hX.cell (i := 3) (by omega); have j4 := hX.cell (i := 4) (by omega); have j5 := hX.cell (i := 5) (by omega); have j6 := hX.cell (i := 6) (by omega)
  have y0 := hY.cell (i := 0) (by omega)
  simp only [row7] at j0 j1 j2 j3 j4 j5 j6
  clear hX hY h hrep hP
  go_enter Tryd.func56, Tryd.ntmps56
  go_wp2_with fail
  refine (unhide HC).mono ?_
  rintro e w3 ⟨rfl, hsp3, hend⟩
  have HEND := hide hend; have HSP3 := hide hsp3
  clear hend hsp3 HC
  go_wp2_with fail
  go_end0
  exact ⟨rfl, unhide HSP3, unhide HEND⟩

theorem enterPack (caps : Array Value) (W : World) : Sem.run Tryd.prog (callFunc 56 caps) W = .ok (.enter 56 caps) W := by
  kernel_rfl
end Go.Proofs.YtbigchdhpdgicaaDoor

/- As WTry, of work that may look at what treeTry itself has laid: a cell of its own with no in it. No conditions. -/

namespace Go.Proofs.YtbigchdhpdgicaaDoor
open Go Go.RowKit

set_option maxRecDepth 100000 in
set_option maxHeartbeats 400000 in
/-- Work that comes to its end. -/
theorem treeTry_yes2 (f : FuncId) (caps : Array Value) (w : World) (R : World → Prop) (hent : ∀ W, Sem.run Tryd.prog (callFunc f caps) W = .ok (.enter f caps) W)
    (hwork : Calls Tryd.prog f caps (w.alloc (.cells #[.bool false] 4)) fun e w' => e = .returned (.tuple #[]) ∧ R w' ∧ w'.heap[w.heap.size]? = (w.alloc (.cells #[.bool false] 4)).heap[w.heap.size]?) :
    Calls Tryd.prog 55 #[.func (.func f) #[] caps] w fun e w' => e = .returned (.bool true) ∧ ∃ w1, R w1 ∧ But w.heap.size w1 w' := by
  have hmf : ∀ (fn : Fn) (first cap : Array Value) (w : World), (Instr.makeFunc fn first cap).run Tryd.prog w = .ok (.func fn first cap) w := fun _ _ _ _ => rfl
  have HW := hide hwork; clear hwork
  go_enter_defers Tryd.func55, Tryd.ntmps55
  go_wp2_with fail
  refine (unhide HW).mono ?_
  rintro e w1 ⟨rfl, hr, hbk⟩
  obtain ⟨hc, hz⟩ := cell_new1 hbk
  have HR := hide hr
  clear hr hbk
  go_wp2_with fail
  refine leaves_cons (f := 59) (args := #[.pointer (some ⟨w.heap.size, 0, none⟩)]) (by simp) (by simp [go_sem]) ?_
  refine (try_returning ⟨w.heap.size, 0, none⟩ true _ ?_ ?_).mono ?_
  · simp [go_sem, hc]
  · simp [go_sem, hz]
  rintro e u' w'' ⟨rfl, rfl, rfl⟩
  simp [Leaves, settle, results, Tryd.results55, go_sem, hc]
  exact ⟨w1, unhide HR, (But.set w1 0 _).trans (But.set _ 0 _)⟩

set_option maxRecDepth 100000 in
set_option maxHeartbeats 400000 in
/-- Work that raises a fault. -/
theorem treeTry_no2 (f : FuncId) (caps : Array Value) (w : World) (R : World → Prop) (hent : ∀ W, Sem.run Tryd.prog (callFunc f caps) W = .ok (.enter f caps) W)
    (hwork : Calls Tryd.prog f caps (w.alloc (.cells #[.bool false] 4)) fun e w' => e = fltE ∧ R w' ∧ w'.heap[w.heap.size]? = (w.alloc (.cells #[.bool false] 4)).heap[w.heap.size]?) :
    Calls Tryd.prog 55 #[.func (.func f) #[] caps] w fun e w' => e = .returned (.bool false) ∧ ∃ w1, R w1 ∧ But w.heap.size w1 w' := by
  have hmf : ∀ (fn : Fn) (first cap : Array Value) (w : World), (Instr.makeFunc fn first cap).run Tryd.prog w = .ok (.func fn first cap) w := fun _ _ _ _ => rfl
  have HW := hide hwork; clear hwork
  go_enter_defers Tryd.func55, Tryd.ntmps55
  go_wp2_with fail
  refine (unhide HW).mono ?_
  rintro e w1 ⟨rfl, hr, hbk⟩
  obtain ⟨hc, hz⟩ := cell_new1 hbk
  have HR := hide hr
  clear hr hbk
  go_wp2_with fail
  refine leaves_cons (f := 59) (args := #[.pointer (some ⟨w.heap.size, 0, none⟩)]) (by simp) (by simp [go_sem]) ?_
  refine (try_panicking ⟨w.heap.size, 0, none⟩ false 112 _ [] _ hc hz).mono ?_
  rintro e u' w'' ⟨rfl, rfl, rfl⟩
  simp [Leaves, settle, results, Tryd.results55, go_sem, hc]
  exact ⟨w1, unhide HR, But.set w1 0 _⟩
end Go.Proofs.YtbigchdhpdgicaaDoor

/- The walk of the program's EventPack. Conditions: the table treeFields is as the program lays it. -/

namespace Go.Proofs.YtbigchdhpdgicaaDoor
open Go Go.RowKit

/-- What EventPack's world holds: the event's box, the writer, the writer's address. -/
structure PkAt (base : Nat) (w : World) (ty : ByteArray) (ver : Int) (c : C5) (v : Value) (l : List UInt8) : Prop where
  box : w.rowIs base 43 7 (row7 (.string ty) (.int .i64 ver) c.c0 c.c1 c.c2 c.c3 c.c4)
  wr : Wr base (base + 1) w v l
  ptr : w.rowIs (base + 1 + 1) 89 1 (fun _ => .pointer (some ⟨base + 1, 0, none⟩))

theorem PkAt.on {base : Nat} {w w' : World} {ty : ByteArray} {ver : Int} {c : C5} {v : Value} {l : List UInt8} (h : PkAt base w ty ver c v l) (hb : Below w.heap.size w w') : PkAt base w' ty ver c v l :=
  ⟨h.box.of_block (hb.block _ h.box.lt), ⟨h.wr.cells.of_block (hb.block _ h.wr.cells.lt), h.wr.row.stay hb, h.wr.lt⟩, h.ptr.of_block (hb.block _ h.ptr.lt)⟩

theorem row1_alloc (w : World) (x : Value) (t : TypeId) : (w.alloc (.cells #[x] t)).rowIs w.heap.size t 1 (fun _ => x) :=
  World.rowIs_alloc w #[x] t _ (fun i hi => by
    have hi' : i < 1 := hi
    match i, hi' with
    | 0, _ => rfl)

theorem PkAt.start (w : World) (ty : ByteArray) (ver : Int) (c0 c1 c2 c3 c4 : Value) : PkAt w.heap.size (((w.alloc (.cells #[.string ty, .int .i64 ver, c0, c1, c2, c3, c4] 43)).alloc (.cells #[.int .i64 0, .int .i64 9000, .slice none 0 0] 95)).alloc (.cells #[.pointer (some ⟨w.heap.size + 1, 0, none⟩)] 89)) ty ver ⟨c0, c1, c2, c3, c4⟩ (.slice none 0 0) [] := by
  refine ⟨((row7_alloc w (.string ty) (.int .i64 ver) c0 c1 c2 c3 c4 _).alloc _).alloc _, ⟨?_, ⟨rfl, Or.inl ⟨rfl, rfl⟩⟩, Nat.le_succ _⟩, ?_⟩
  · have := (row3_alloc (w.alloc (.cells #[.string ty, .int .i64 ver, c0, c1, c2, c3, c4] 43)) (.int .i64 0) (.int .i64 9000) (.slice none 0 0) 95).alloc (.cells #[.pointer (some ⟨w.heap.size + 1, 0, none⟩)] 89)
    rw [World.size_alloc] at this
    exact this
  · have := row1_alloc ((w.alloc (.cells #[.string ty, .int .i64 ver, c0, c1, c2, c3, c4] 43)).alloc (.cells #[.int .i64 0, .int .i64 9000, .slice none 0 0] 95)) (.pointer (some ⟨w.heap.size + 1, 0, none⟩)) 89
    rw [World.size_alloc, World.size_alloc] at this
    exact this

set_option maxRecDepth 100000 in
/-- treeTry over EventPack's work, where the event is ok. -/
theorem packTry_any (ty : ByteArray) (ver : Int) (t : Tr) (P : Nat → Prop) (c : C5) (base : Nat) (w : World) (hP : ∀ b, P b → b < base) (hrep : Rep P w t c) (hok : evOkB ty ver t = true) (h : PkAt base w ty ver c (.slice none 0 0) []) :
    Calls Tryd.prog 55 #[.func (.func 56) #[] #[.pointer (some ⟨base + 1 + 1, 0, none⟩), .pointer (some ⟨base, 0, none⟩)]] w fun e w' =>
      e = .returned (.bool true) ∧ (∃ a n cap, n = (eventB ty ver t).length ∧ PkAt base w' ty ver c (.slice a n cap) (eventB ty ver t)) ∧ Below base w w' := by
  obtain ⟨-, h8, -, -, -, hpt⟩ := evOk_parts hok
  have hlen : ([] : List UInt8).length + (eventB ty ver t).length ≤ 9000 := by have := eventB_len (ver := ver) h8 hpt; simpa using this
  have hpl := h.ptr.lt
  have hb0 : Below w.heap.size w (w.alloc (.cells #[.bool false] 4)) := (Below.refl _ _).alloc (Nat.le_refl _) _
  have h1 := h.on hb0
  have hrep1 : Rep P (w.alloc (.cells #[.bool false] 4)) t c := Rep.carry (fun b hb => hb0.block b (by have := hP b hb; omega)) (fun _ h => h) _ _ hrep
  have hbl := row1_alloc w (.bool false) 4
  refine (treeTry_yes2 56 _ w (fun w1 => Sp base (base + 1) (w.alloc (.cells #[.bool false] 4)) w1 ∧ ∃ a n cap, n = (eventB ty ver t).length ∧ Wr base (base + 1) w1 (.slice a n cap) (eventB ty ver t)) (enterPack _) ?_).mono ?_
  · refine (packWork_any ty ver t P c base (base + 1) base (base + 1 + 1) _ none 0 0 [] hP hrep1 hok h1.wr hlen h1.box h1.ptr).mono ?_
    rintro e w' ⟨he, hsp, hend⟩
    rw [List.nil_append] at hend
    refine ⟨he, ⟨hsp, hend⟩, ?_⟩
    exact hsp.block _ hbl.lt (by omega) (Or.inr fun cs f e => by
      obtain ⟨c', hb', _⟩ := hbl
      rw [e] at hb'
      simp at hb')
  · rintro e w' ⟨rfl, w1, ⟨hsp, a, n, cap, hn, hw⟩, hb⟩
    have hs1 := hsp.size
    rw [World.size_alloc] at hs1
    have hbl1 : w1.rowIs w.heap.size 4 1 (fun _ => .bool false) := hsp.box hbl (by omega) (by decide)
    have hne : (Value.slice a n cap).ownBlock ≠ some w.heap.size := ByRow.apart hw.row hbl1 (by decide)
    have hbox1 := hsp.box h1.box (by omega) (by decide)
    have hptr1 := hsp.box h1.ptr (by omega) (by decide)
    refine ⟨rfl, ⟨a, n, cap, hn, hbox1.of_block (hb.at hbox1.lt (by omega)), ⟨hw.cells.of_block (hb.at hw.cells.lt (by omega)), World.ownsRow.kept hw.row hb (Or.inr hne), hw.lt⟩, hptr1.of_block (hb.at hptr1.lt (by omega))⟩, ?_⟩
    have hlow : Below base w w1 := ((Below.refl base w).alloc (by omega) (.cells #[.bool false] 4)).trans (hsp.below (by omega) (by simp; omega))
    exact ⟨hb.os.trans hlow.os, hb.tape.trans hlow.tape, hb.output.trans hlow.output, Nat.le_trans hlow.size hb.size, fun b hbb => (hb.at (by omega) (by omega)).trans (hlow.block b hbb)⟩

set_option maxRecDepth 100000 in
theorem newWriter_any (w : World) : Calls Tryd.prog 53 #[.int .i64 9000] w fun e w' => e = .returned (.pointer (some ⟨w.heap.size, 0, none⟩)) ∧ w' = w.alloc (.cells #[.int .i64 0, .int .i64 9000, .slice none 0 0] 95) := by
  go_enter Tryd.func53, Tryd.ntmps53
  go_wp2_with fail
  go_ret
  exact ⟨rfl, rfl⟩

set_option maxRecDepth 100000 in
set_option maxHeartbeats 1600000 in
theorem implEventPack_any (ty : ByteArray) (ver : Int) (t : Tr) (P : Nat → Prop) (c : C5) (w : World) (hP : ∀ b, P b → b < w.heap.size) (hrep : Rep P w t c) (hty : ty.size ≤ 9223372036854775807) (hver : I64 ver) (hT : Tab w) :
    Calls Tryd.prog 47 #[.agg #[.string ty, .int .i64 ver, c.c0, c.c1, c.c2, c.c3, c.c4]] w fun e w' => ByNew w w' e (packB ty ver t) := by
  have hmf : ∀ (fn : Fn) (first cap : Array Value) (w : World), (Instr.makeFunc fn first cap).run Tryd.prog w = .ok (.func fn first cap) w := fun _ _ _ _ => rfl
  obtain ⟨c0, c1, c2, c3, c4⟩ := c
  have hok := fun (W : World) (hW : Below w.heap.size w W) => implEventOk_any ty ver t P ⟨c0, c1, c2, c3, c4⟩ W (fun b hb => Nat.lt_of_lt_of_le (hP b hb) hW.size) (Rep.carry (fun b hb => hW.block b (hP b hb)) (fun _ h => h) _ _ hrep) hty hver (hT.of_block (hW.block 0 hT.lt))
  have hbx : ∀ o o2 o3, Below w.heap.size w (((w.alloc o).alloc o2).alloc o3) := fun o o2 o3 => (((Below.refl _ _).alloc (Nat.le_refl _) o).alloc (by simp) o2).alloc (by simp; omega) o3
  have HST := hide (PkAt.start w ty ver c0 c1 c2 c3 c4)
  have HTRY := hide (fun (W : World) (hW : Below w.heap.size w W) (hk : evOkB ty ver t = true) (h : PkAt w.heap.size W ty ver ⟨c0, c1, c2, c3, c4⟩ (.slice none 0 0) []) => packTry_any ty ver t P ⟨c0, c1, c2, c3, c4⟩ w.heap.size W hP (Rep.carry (fun b hb => hW.block b (hP b hb)) (fun _ h => h) _ _ hrep) hk h)
  have HOK := hide hok; have HBX := hide hbx
  clear hok hbx hP hrep hT hty hver
  by_cases h : evOkB ty ver t = true
  · have HE : Hid (packB ty ver t = eventB ty ver t) := by show packB ty ver t = _; rw [packB, if_pos h]
    have HK := hide h
    rw [h] at HOK
    clear h
    go_enter Tryd.func47, Tryd.ntmps47
    go_wp2_with (go_at_call 53; refine (newWriter_any _).mono ?_; rintro e w' ⟨rfl, rfl⟩)
    refine (unhide HOK _ (unhide HBX _ _ _)).mono ?_
    rintro e w2 ⟨rfl, hb2⟩
    have HP2 := hide ((unhide HST).on hb2)
    have HB2 := hide ((unhide HBX _ _ _).trans (hb2.mono (unhide HBX _ _ _).size))
    clear hb2 HOK HST HBX
    have HT := hide (unhide HTRY w2 (unhide HB2) (unhide HK) (unhide HP2))
    clear HTRY HP2
    go_wp2_with fail
    refine (unhide HT).mono ?_
    rintro e w3 ⟨rfl, ⟨a, n, cap, hn, hp3⟩, hb3⟩
    have y0 := hp3.ptr.cell (i := 0) (by omega)
    have r2 := hp3.wr.cells.cell (i := 2) (by omega)
    simp only [row3] at y0 r2
    have HP3 := hide hp3; have HB3 := hide ((unhide HB2).trans hb3); have HN := hide hn
    clear hp3 hb3 hn HT HB2
    go_wp2_with fail
    go_ret
    rw [HE.out]
    exact ⟨a, n, cap, rfl, unhide HN, (unhide HP3).wr.row, unhide HB3⟩
  · have HE : Hid (packB ty ver t = []) := by show packB ty ver t = _; rw [packB, if_neg h]
    have hf : evOkB ty ver t = false := by simpa using h
    rw [hf] at HOK
    clear h hf HTRY
    go_enter Tryd.func47, Tryd.ntmps47
    go_wp2_with (go_at_call 53; refine (newWriter_any _).mono ?_; rintro e w' ⟨rfl, rfl⟩)
    refine (unhide HOK _ (unhide HBX _ _ _)).mono ?_
    rintro e w2 ⟨rfl, hb2⟩
    have HB2 := hide ((unhide HBX _ _ _).trans (hb2.mono (unhide HBX _ _ _).size))
    clear hb2 HOK HST HBX
    go_wp2_with fail
    go_ret
    rw [HE.out]
    exact ⟨none, 0, 0, rfl, rfl, ⟨rfl, Or.inl ⟨rfl, rfl⟩⟩, unhide HB2⟩
end Go.Proofs.YtbigchdhpdgicaaDoor
