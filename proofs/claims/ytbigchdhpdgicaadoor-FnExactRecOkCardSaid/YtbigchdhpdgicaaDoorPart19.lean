/- The walk of the program's bytesOf, LogFrame. No conditions but that a string's length is one. -/
import Derived.Test.YtbigchdhpdgicaaDoorPart14
import Derived.Deep.OwnRows
import Derived.Handy
import Derived.Test.YtbigchdhpdgicaaDoorPart17
import Derived.Test.YtbigchdhpdgicaaDoorPart18
namespace Go.Proofs.YtbigchdhpdgicaaDoor
open Go Go.RowKit

theorem bytes2 (w : World) : Calls Tryd.prog 101 #[.agg #[]] w fun e w' => e = .returned (.int .i64 2) ∧ Below w.heap.size w w' := by
  go_enter Tryd.func101, Tryd.ntmps101
  go_wp2_with fail
  go_ret
  exact ⟨rfl, (Below.refl _ _).alloc (Nat.le_refl _) _⟩

theorem wrapU (x : Int) : IntKind.u8.wrap x = x % 256 := by rw [IntKind.wrap_u8]
/-- So many bytes. -/
def rwB (l : List Int) (k : Nat) : Value := .int .u8 (l.getD k 0)
theorem conv_row (W : World) (b : Nat) (l : List Int) (hl : ∀ x, x ∈ l → 0 ≤ x ∧ x < 256) (h : W.rowIs b 5 l.length (rwB l)) :
    Sem.run Tryd.prog (convert 55 9 (.slice (some ⟨b, 0, none⟩) l.length l.length)) W = .ok (.string ⟨(l.map hb).toArray⟩) W := by
  have := run_convert_bytes_back (P := Tryd.prog) W 55 9 5 ⟨b, 0, none⟩ l.length (l.map hb) Tryd.underlying55 Tryd.underlying5 Tryd.underlying9 (fun j hj => by
    have hj' : j < l.length := by simpa using hj
    have hx := hl l[j] (List.getElem_mem hj')
    rw [Addr.add_lit, Nat.zero_add, h.cell hj']
    unfold rwB
    rw [List.getElem_map, hb_nat hx.1 hx.2, List.getD_eq_getElem?_getD, List.getElem?_eq_getElem hj']
    rfl)
  simpa using this

set_option maxRecDepth 100000 in
set_option maxHeartbeats 1600000 in
theorem bytesOf2_any (n : Int) (h0 : 0 ≤ n) (h1 : n < 65536) (w : World) : Calls Tryd.prog 48 #[.int .i64 n] w fun e w' => e = .returned (.string ⟨#[hb (n / 256), hb (n % 256)]⟩) ∧ Below w.heap.size w w' := by
  have hmk : ∀ W : World, Sem.run Tryd.prog (Instr.makeSlice 55 (.int .i64 2) (.int .i64 2)) W = .ok (.slice (some ⟨W.heap.size, 0, none⟩) 2 2) (W.alloc (.cells (madeCells #[.int .u8 0] 2) 5)) := run_make_row' (P := Tryd.prog) 55 5 (.int .u8 0) 1 Tryd.underlying55 (by kernel_rfl) rfl .i64 .i64 2 (by omega) (by omega)
  go_enter Tryd.func48, Tryd.ntmps48
  go_wp2_with fail
  refine (bytes2 _).mono ?_
  rintro e w1 ⟨rfl, hb1⟩
  have hb01 := ((Below.refl _ w).alloc (Nat.le_refl _) _).trans (hb1.mono (by simp))
  have HB := hide hb01
  have hz := hb01.size
  clear hb1 hb01
  go_wp2_with fail
  clear hmk
  go_loopw [0, 5] (fun q i wr => Below w1.heap.size w1 wr ∧ ((q = .int .i64 (n) ∧ i = .int .i64 (1) ∧ Hid (wr.rowIs w1.heap.size 5 2 (rwB [0, 0]))) ∨ (q = .int .i64 (n / 256) ∧ i = .int .i64 (0) ∧ Hid (wr.rowIs w1.heap.size 5 2 (rwB [0, (n) % 256]))) ∨ (q = .int .i64 (n / 256 / 256) ∧ i = .int .i64 (-1) ∧ Hid (wr.rowIs w1.heap.size 5 2 (rwB [(n / 256) % 256, (n) % 256]))))) (fun _ i _ => (intOf i + 1).toNat)
  case atStart => exact ⟨(Below.refl _ _).alloc (Nat.le_refl _) _, Or.inl ⟨rfl, rfl, hide ((World.rowIs_made w1 (.int .u8 0) 2 _).congr (fun k hk => by rcases (show k = 0 ∨ k = 1 by omega) with rfl | rfl <;> rfl))⟩⟩
  case round =>
    obtain ⟨hb, hrel⟩ := hrel
    rcases hrel with ⟨rfl, rfl, HR⟩ | ⟨rfl, rfl, HR⟩ | ⟨rfl, rfl, HR⟩
    · have hf := HR.out.frozen 1
      have hcc := HR.out.cell (i := 1) (by omega)
      go_wp2_with fail
      go_roundw
      case rel =>
        refine ⟨hb.setCell (Nat.le_refl _) _, Or.inr (Or.inl ?_)⟩
        refine ⟨by first | rfl | (go_num), by first | rfl | (go_num), hide ((HR.out.set 1 _).congr (fun k hk => ?_))⟩
        rcases (show k = 0 ∨ k = 1 by omega) with rfl | rfl <;> first | rfl | (unfold rwB; simp; done) | (unfold rwB; simp; omega)
      case measure => simp [intOf]
    · have hf := HR.out.frozen 0
      have hcc := HR.out.cell (i := 0) (by omega)
      go_wp2_with fail
      go_roundw
      case rel =>
        refine ⟨hb.setCell (Nat.le_refl _) _, Or.inr (Or.inr ?_)⟩
        refine ⟨by first | rfl | (go_num), by first | rfl | (go_num), hide ((HR.out.set 0 _).congr (fun k hk => ?_))⟩
        rcases (show k = 0 ∨ k = 1 by omega) with rfl | rfl <;> first | rfl | (unfold rwB; simp; done) | (unfold rwB; simp; omega)
      case measure => simp [intOf]
    · have hcv := conv_row wr w1.heap.size [(n / 256) % 256, (n) % 256] (by intro x hx; simp only [List.mem_cons, List.not_mem_nil, or_false] at hx; rcases hx with rfl | rfl <;> omega) HR.out
      simp only [List.length_cons, List.length_nil, Nat.zero_add, Nat.reduceAdd] at hcv
      go_wp2_with fail
      go_ret
      refine ⟨?_, (unhide HB).trans (hb.mono hz)⟩
      exact ret_str (by rw [show n / 256 % 256 = n / 256 by omega])

end Go.Proofs.YtbigchdhpdgicaaDoor

/- The walks of the program's recordCounter: event. No conditions. -/

namespace Go.Proofs.YtbigchdhpdgicaaDoor
open Go Go.RowKit

/-- What an event that is put comes to. -/
def evFits (l : List UInt8) (e : Ev) : Prop := evOkE e = true ∧ l.length + 2 + (evB e).length ≤ 2000
theorem two_eq (n : Nat) : (⟨#[hb ((n : Int) / 256), hb ((n : Int) % 256)]⟩ : ByteArray) = bA (twoB n) := by
  unfold bA twoB hb
  congr 1

set_option maxRecDepth 100000 in
set_option maxHeartbeats 3200000 in
theorem rcevent_yes (base B : Nat) (w : World) (a : Option Addr) (n cap : Nat) (l : List UInt8) (ev : Ev) (P : Nat → Prop) (c : C5) (hP : ∀ b, P b → b < w.heap.size) (hrep : Rep P w ev.t c) (hty : ev.ty.size ≤ 9223372036854775807) (hver : I64 ev.ver) (hT : Tab w) (h : Rw base B w (.slice a n cap) l) (hnl : n = l.length) (hf : evFits l ev) :
    Calls Tryd.prog 36 #[.pointer (some ⟨B, 0, none⟩), .agg #[.string ev.ty, .int .i64 ev.ver, c.c0, c.c1, c.c2, c.c3, c.c4]] w fun e w' => e = .returned (.tuple #[]) ∧ Sp base B w w' ∧ ∃ a n cap, n = (l ++ (twoB (evB ev).length ++ evB ev)).length ∧ Rw base B w' (.slice a n cap) (l ++ (twoB (evB ev).length ++ evB ev)) := by
  obtain ⟨c0, c1, c2, c3, c4⟩ := c
  obtain ⟨hok, hfit⟩ := hf
  have hbx : ∀ o, Below w.heap.size w (w.alloc o) := fun o => (Below.refl _ _).alloc (Nat.le_refl _) o
  have HPK := hide (fun o => implEventPack_any ev.ty ev.ver ev.t P ⟨c0, c1, c2, c3, c4⟩ (w.alloc o) (fun b hb => Nat.lt_of_lt_of_le (hP b hb) (hbx o).size) (Rep.carry (fun b hb => (hbx o).block b (hP b hb)) (fun _ h => h) _ _ hrep) hty hver (hT.of_block ((hbx o).block 0 hT.lt)))
  have HPOS := hide (evB_pos hok)
  have HFIT := hide hfit; have H := hide h; have HNL := hide hnl; have HBX := hide hbx
  have HEV : Hid (evB ev = packB ev.ty ev.ver ev.t) := hide rfl
  clear hbx hP hrep hty hver hT hok hfit h hnl
  go_enter Tryd.func36, Tryd.ntmps36
  go_wp2_with fail
  refine (unhide HPK _).mono ?_
  rintro e w1 ⟨a1, n1, cap1, rfl, hn1, hrow1, hb1⟩
  rw [← HEV.out] at hrow1 hn1
  have hb01 := (unhide HBX _).trans (hb1.mono (unhide HBX _).size)
  have hpos := unhide HPOS
  obtain ⟨g1, cap1', hv1, hg1, hg1lt, hcell1⟩ := hrow1.form hpos
  simp only [Value.slice.injEq] at hv1
  obtain ⟨rfl, -, rfl⟩ := hv1
  rw [World.size_alloc] at hg1
  have hst1 := (unhide H).on hb01
  have hgt : decide (0 < n1) = true := decide_eq_true (by omega)
  have hn2000 : (n1 : Int) < 65536 := by have := unhide HFIT; omega
  have HB01 := hide hb01; have HST1 := hide hst1; have HN1 := hide hn1; have HCE := hide hcell1; have HG1 := hide (And.intro hg1 hg1lt)
  clear hb01 hst1 hrow1 hb1 HPK hn1 hcell1 hpos hg1 hg1lt
  go_wp2_with fail
  refine (want_yes _ _).mono ?_
  rintro e w2 ⟨rfl, hw2⟩
  have hw2' := hw2.symm
  subst hw2'
  have HB2 := hide (fun W => bytesOf2_any (n1 : Int) (by omega) hn2000 W)
  rw [two_eq n1] at HB2
  go_wp2_with fail
  refine (unhide HB2 _).mono ?_
  rintro e w3 ⟨rfl, hb3⟩
  clear hgt
  obtain ⟨cap3, W4, hrun4, hgrow4, hlt4, hcell4⟩ := bytes_of w3 (bA (twoB n1))
  have hb34 : Below w3.heap.size w3 W4 := (Below.refl _ _).grown hgrow4 (Nat.le_refl _) (by simp)
  have hb14 : Below w1.heap.size w1 W4 := hb3.trans (hb34.mono hb3.size)
  have hsz4 : (bA (twoB n1)).size = 2 := by rw [bA_size]; rfl
  rw [hsz4] at hrun4
  have hst4 := (unhide HST1).on hb14
  have hs14 := hb14.size
  have HPUT := hide (rcput_yes base B W4 a n cap l (twoB n1) ⟨w3.heap.size, 0, none⟩ 2 cap3 hst4 rfl hcell4 (unhide HNL) (by have := unhide HFIT; show _ + 2 ≤ _; omega))
  have HHB := hide hb14; have HST4 := hide hst4
  clear hb34 hb14 hst4 hcell4 hgrow4 hsz4 HB2
  go_wp2_with fail
  refine (unhide HPUT).mono ?_
  rintro e w5 ⟨rfl, ⟨hsp5, hfr5⟩, a5, n5, cap5, hn5, hst5⟩
  have hown := (unhide HST1).row.own
  have hcell5 : ∀ j u, (bc (evB ev))[j]? = some u → w5.cell? ((⟨g1, 0, none⟩ : Addr).add j) = some u := fun j u hj => by
    have hblk : w5.heap[g1]? = w1.heap[g1]? := (hfr5 g1 (by have := (unhide HG1).2; omega) (by have := (unhide H).cells.lt; have := (unhide HG1).1; omega) (fun e => by have := ((unhide H).row.own g1 e).2; have := (unhide HG1).1; omega)).trans ((unhide HHB).block g1 (unhide HG1).2)
    rw [Addr.add_lit, World.cell?_of_block (w := w1) hblk]
    have := unhide HCE j u hj
    rw [Addr.add_lit] at this
    exact this
  have HPUT2 := hide (rcput_yes base B w5 a5 n5 cap5 (l ++ twoB n1) (evB ev) ⟨g1, 0, none⟩ n1 cap1 hst5 (unhide HN1) hcell5 hn5 (by have := unhide HFIT; rw [List.length_append]; show _ + 2 + _ ≤ _; omega))
  have HSP5 := hide (((Sp.but (But.of_below (unhide HB01)) : Sp base B w w1).trans (Sp.but (But.of_below (unhide HHB)))).trans hsp5)
  clear hsp5 hfr5 hn5 hst5 hcell5 hown HPUT
  go_wp2_with fail
  refine (unhide HPUT2).mono ?_
  rintro e w6 ⟨rfl, ⟨hsp6, -⟩, hend⟩
  rw [List.append_assoc, unhide HN1] at hend
  have HSP6 := hide ((unhide HSP5).trans hsp6); have HEND := hide hend
  clear hsp6 hend HPUT2
  go_wp2_with fail
  go_end0
  exact ⟨rfl, unhide HSP6, unhide HEND⟩
end Go.Proofs.YtbigchdhpdgicaaDoor

/- The walk of the program's recordCounter.event where the event is not ok, or does not fit. No conditions. -/

namespace Go.Proofs.YtbigchdhpdgicaaDoor
open Go Go.RowKit

set_option maxRecDepth 100000 in
set_option maxHeartbeats 3200000 in
theorem rcevent_no (base B : Nat) (w : World) (a : Option Addr) (n cap : Nat) (l : List UInt8) (ev : Ev) (P : Nat → Prop) (c : C5) (hP : ∀ b, P b → b < w.heap.size) (hrep : Rep P w ev.t c) (hty : ev.ty.size ≤ 9223372036854775807) (hver : I64 ev.ver) (hT : Tab w) (h : Rw base B w (.slice a n cap) l) (hnl : n = l.length) (hl : l.length ≤ 2000) (hf : ¬ evFits l ev) :
    Calls Tryd.prog 36 #[.pointer (some ⟨B, 0, none⟩), .agg #[.string ev.ty, .int .i64 ev.ver, c.c0, c.c1, c.c2, c.c3, c.c4]] w fun e w' => e = rfE ∧ Sp base B w w' := by
  obtain ⟨c0, c1, c2, c3, c4⟩ := c
  have hbx : ∀ o, Below w.heap.size w (w.alloc o) := fun o => (Below.refl _ _).alloc (Nat.le_refl _) o
  have HPK := hide (fun o => implEventPack_any ev.ty ev.ver ev.t P ⟨c0, c1, c2, c3, c4⟩ (w.alloc o) (fun b hb => Nat.lt_of_lt_of_le (hP b hb) (hbx o).size) (Rep.carry (fun b hb => (hbx o).block b (hP b hb)) (fun _ h => h) _ _ hrep) hty hver (hT.of_block ((hbx o).block 0 hT.lt)))
  have H := hide h; have HNL := hide hnl; have HBX := hide hbx; have HL := hide hl; have HF := hide hf
  have HEV : Hid (evB ev = packB ev.ty ev.ver ev.t) := hide rfl
  have HEL := hide (evB_len ev)
  clear hbx hP hrep hty hver hT h hnl hl hf
  go_enter Tryd.func36, Tryd.ntmps36
  go_wp2_with fail
  refine (unhide HPK _).mono ?_
  rintro e w1 ⟨a1, n1, cap1, rfl, hn1, hrow1, hb1⟩
  rw [← HEV.out] at hrow1 hn1
  have hb01 := (unhide HBX _).trans (hb1.mono (unhide HBX _).size)
  have HB01 := hide hb01
  by_cases hok : evOkE ev = true
  · have hpos := evB_pos hok
    obtain ⟨g1, cap1', hv1, hg1, hg1lt, hcell1⟩ := hrow1.form hpos
    simp only [Value.slice.injEq] at hv1
    obtain ⟨rfl, -, rfl⟩ := hv1
    rw [World.size_alloc] at hg1
    have hst1 := (unhide H).on hb01
    have hgt : decide (0 < n1) = true := decide_eq_true (by omega)
    have hn2000 : (n1 : Int) < 65536 := by have := unhide HEL; omega
    have HFIT := hide (show 2000 < l.length + 2 + (evB ev).length from Classical.byContradiction fun hh => unhide HF ⟨hok, by omega⟩)
    have HST1 := hide hst1; have HN1 := hide hn1; have HCE := hide hcell1; have HG1 := hide (And.intro hg1 hg1lt)
    clear hb01 hst1 hrow1 hb1 HPK hn1 hcell1 hpos hg1 hg1lt hok HF
    go_wp2_with fail
    refine (want_yes _ _).mono ?_
    rintro e w2 ⟨rfl, hw2⟩
    have hw2' := hw2.symm
    subst hw2'
    have HB2 := hide (fun W => bytesOf2_any (n1 : Int) (by omega) hn2000 W)
    rw [two_eq n1] at HB2
    go_wp2_with fail
    refine (unhide HB2 _).mono ?_
    rintro e w3 ⟨rfl, hb3⟩
    clear hgt
    obtain ⟨cap3, W4, hrun4, hgrow4, hlt4, hcell4⟩ := bytes_of w3 (bA (twoB n1))
    have hb34 : Below w3.heap.size w3 W4 := (Below.refl _ _).grown hgrow4 (Nat.le_refl _) (by simp)
    have hb14 : Below w1.heap.size w1 W4 := hb3.trans (hb34.mono hb3.size)
    have hsz4 : (bA (twoB n1)).size = 2 := by rw [bA_size]; rfl
    rw [hsz4] at hrun4
    have hst4 := (unhide HST1).on hb14
    have hs14 := hb14.size
    have HHB := hide hb14
    by_cases h2 : l.length + 2 ≤ 2000
    · have HPUT := hide (rcput_yes base B W4 a n cap l (twoB n1) ⟨w3.heap.size, 0, none⟩ 2 cap3 hst4 rfl hcell4 (unhide HNL) h2)
      clear hb34 hb14 hst4 hcell4 hgrow4 hsz4 HB2 h2
      go_wp2_with fail
      refine (unhide HPUT).mono ?_
      rintro e w5 ⟨rfl, ⟨hsp5, hfr5⟩, a5, n5, cap5, hn5, hst5⟩
      have HPUT2 := hide (rcput_no base B w5 a5 n5 cap5 (l ++ twoB n1) (evB ev) ⟨g1, 0, none⟩ n1 cap1 hst5 (unhide HN1) hn5 (by have := unhide HFIT; rw [List.length_append]; show 2000 < _ + 2 + _; omega) (by have := unhide HEL; have := unhide HL; rw [List.length_append]; show _ + 2 + _ ≤ _; omega))
      have HSP5 := hide (((Sp.but (But.of_below (unhide HB01)) : Sp base B w w1).trans (Sp.but (But.of_below (unhide HHB)))).trans hsp5)
      clear hsp5 hfr5 hn5 hst5 HPUT
      go_wp2_with fail
      refine (unhide HPUT2).mono ?_
      rintro e w6 ⟨rfl, hb6⟩
      have HB6 := hide ((unhide HSP5).trans (Sp.but (But.of_below hb6)))
      clear hb6
      go_wp2_with fail
      exact ⟨rfl, rfl, unhide HB6⟩
    · have HPUT := hide (rcput_no base B W4 a n cap l (twoB n1) ⟨w3.heap.size, 0, none⟩ 2 cap3 hst4 rfl (unhide HNL) (by show 2000 < _ + 2; omega) (by have := unhide HL; show _ + 2 ≤ _; omega))
      clear hb34 hb14 hst4 hcell4 hgrow4 hsz4 HB2 h2
      go_wp2_with fail
      refine (unhide HPUT).mono ?_
      rintro e w5 ⟨rfl, hb5⟩
      have HB5 := hide ((((Sp.but (But.of_below (unhide HB01)) : Sp base B w w1).trans (Sp.but (But.of_below (unhide HHB))))).trans (Sp.but (But.of_below hb5)))
      clear hb5
      go_wp2_with fail
      exact ⟨rfl, rfl, unhide HB5⟩
  · have hn0 : n1 = 0 := by rw [hn1, evB_nil (by simpa using hok)]; rfl
    subst hn0
    clear hok hb01 hrow1 hn1 hb1 HPK
    go_wp2_with fail
    refine (want_no _ _).mono ?_
    rintro e w2 ⟨rfl, hw2⟩
    have hw2' := hw2.symm
    subst hw2'
    have HB5 := hide (Sp.but (But.of_below (unhide HB01)) : Sp base B w w1)
    go_wp2_with fail
    exact ⟨rfl, rfl, unhide HB5⟩
end Go.Proofs.YtbigchdhpdgicaaDoor
