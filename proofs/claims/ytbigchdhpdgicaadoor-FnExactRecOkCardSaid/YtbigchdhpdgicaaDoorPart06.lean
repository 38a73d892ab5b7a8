/- The walks of the program's recordCounter: event. No conditions. -/
import Derived.Test.YtbigchdhpdgicaaDoorPart05
import Derived.WideLaws
import Derived.Test.YtbigchdhpdgicaaDoorPart04
import Derived.Deep.CutRange
import Derived.Test.YtbigchdhpdgicaaDoorPart01
import Derived.Test.YtbigchdhpdgicaaDoorRows
import Derived.Test.YtbigchdhpdgicaaDoorPart00
import Derived.Deep.OwnRows
import Derived.Deep.RegionWith
namespace Go.Proofs.YtbigchdhpdgicaaDoor
open Go Go.RowKit

/-- What an event that is put comes to. -/
def evFits (l : List UInt8) (e : Ev) : Prop := evOkE e = true ∧ l.length + 2 + (evB e).length ≤ 2000
theorem two_eq (n : Nat) : (⟨#[hb ((n : Int) / 256), hb ((n : Int) % 256)]⟩ : ByteArray) = bA (twoB n) := by
  unfold bA twoB hb
  congr 1

set_option maxRecDepth 100000 in
set_option maxHeartbeats 3200000 in
theorem rcevent_yes (base B : Nat) (w : World) (a : Option Addr) (n cap : Nat) (l : List UInt8) (ev : Ev) (P : Nat → Prop) (c : C5) (hP : ∀ b, P b → b < w.heap.size) (hrep : Rep P w ev.t c) (hty : ev.ty.size ≤ 9223372036854775807) (hver : I64 ev.ver) (hT : Tab w) (h : Rw base B w (.slice a n cap) l) (hnl : n = l.length) (hf : evFits l ev) :
    Calls Tryd.prog 36 #[.pointer (some ⟨B, 0, none⟩), .agg #[.string ev.ty, .int .i64 ev.ver, c.c0, c.c1, c.c2, c.c3, c.c4]] w fun e w' => e = .returned (.tuple #[]) ∧ Sp base B w w' ∧ ∃ a n cap, n = (l ++ (twoB (evB ev).length ++ evB ev)).length ∧ Rw base B w' (.slice a n cap) (l ++ (twoB (evB ev).length ++ evB ev)) := by
  obtain ⟨c0, c1, c2, c3, c4⟩ := c
  obtain ⟨hok, hfit⟩ := hf
  have hbx : ∀ o, Below w.heap.size w (w.alloc o) := fun o => (Below.refl _ _).alloc (Nat.le_refl _) o
  have HPK := hide (fun o => implEventPack_any ev.ty ev.ver ev.t P ⟨c0, c1, c2, c3, c4⟩ (w.alloc o) (fun b hb => Nat.lt_of_lt_of_le (hP b hb) (hbx o).size) (Rep.carry (fun b hb => (hbx o).block b (hP b hb)) (fun _ h => h) _ _ hrep) hty hver (hT.of_block ((hbx o).block 0 hT.lt)))
  have HPOS := hide (evB_pos hok)
  have HFIT := hide hfit; have H := hide h; have HNL := hide hnl; have HBX := hide hbx
  have HEV : Hid (evB ev = packB ev.ty ev.ver ev.t) := hide rfl
  clear hbx hP hrep hty hver hT hok hfit h hnl
  go_enter Tryd.func36, Tryd.ntmps36
  go_wp2_with fail
  refine (unhide HPK _).mono ?_
  rintro e w1 ⟨a1, n1, cap1, rfl, hn1, hrow1, hb1⟩
  rw [← HEV.out] at hrow1 hn1
  have hb01 := (unhide HBX _).trans (hb1.mono (unhide HBX _).size)
  have hpos := unhide HPOS
  obtain ⟨g1, cap1', hv1, hg1, hg1lt, hcell1⟩ := hrow1.form hpos
  simp only [Value.slice.injEq] at hv1
  obtain ⟨rfl, -, rfl⟩ := hv1
  rw [World.size_alloc] at hg1
  have hst1 := (unhide H).on hb01
  have hgt : decide (0 < n1) = true := decide_eq_true (by omega)
  have hn2000 : (n1 : Int) < 65536 := by have := unhide HFIT; omega
  have HB01 := hide hb01; have HST1 := hide hst1; have HN1 := hide hn1; have HCE := hide hcell1; have HG1 := hide (And.intro hg1 hg1lt)
  clear hb01 hst1 hrow1 hb1 HPK hn1 hcell1 hpos hg1 hg1lt
  go_wp2_with fail
  refine (want_yes _ _).mono ?_
  rintro e w2 ⟨rfl, hw2⟩
  have hw2' := hw2.symm
  subst hw2'
  have HB2 := hide (fun W => bytesOf2_any (n1 : Int) (by omega) hn2000 W)
  rw [two_eq n1] at HB2
  go_wp2_with fail
  refine (unhide HB2 _).mono ?_
  rintro e w3 ⟨rfl, hb3⟩
  clear hgt
  obtain ⟨cap3, W4, hrun4, hgrow4, hlt4, hcell4⟩ := bytes_of w3 (bA (twoB n1))
  have hb34 : Below w3.heap.size w3 W4 := (Below.refl _ _).grown hgrow4 (Nat.le_refl _) (by simp)
  have hb14 : Below w1.heap.size w1 W4 := hb3.trans (hb34.mono hb3.size)
  have hsz4 : (bA (twoB n1)).size = 2 := by rw [bA_size]; rfl
  rw [hsz4] at hrun4
  have hst4 := (unhide HST1).on hb14
  have hs14 := hb14.size
  have HPUT := hide (rcput_yes base B W4 a n cap l (twoB n1) ⟨w3.heap.size, 0, none⟩ 2 cap3 hst4 rfl hcell4 (unhide HNL) (by have := unhide HFIT; show _ + 2 ≤ _; omega))
  have HHB := hide hb14; have HST4 := hide hst4
  clear hb34 hb14 hst4 hcell4 hgrow4 hsz4 HB2
  go_wp2_with fail
  refine (unhide HPUT).mono ?_
  rintro e w5 ⟨rfl, ⟨hsp5, hfr5⟩, a5, n5, cap5, hn5, hst5⟩
  have hown := (unhide HST1).row.own
  have hcell5 : ∀ j u, (bc (evB ev))[j]? = some u → w5.cell? ((⟨g1, 0, none⟩ : Addr).add j) = some u := fun j u hj => by
    have hblk : w5.heap[g1]? = w1.heap[g1]? := (hfr5 g1 (by have := (unhide HG1).2; omega) (by have := (unhide H).cells.lt; have := (unhide HG1).1; omega) (fun e => by have := ((unhide H).row.own g1 e).2; have := (unhide HG1).1; omega)).trans ((unhide HHB).block g1 (unhide HG1).2)
    rw [Addr.add_lit, World.cell?_of_block (w := w1) hblk]
    have := unhide HCE j u hj
    rw [Addr.add_lit] at this
    exact this
  have HPUT2 := hide (rcput_yes base B w5 a5 n5 cap5 (l ++ twoB n1) (evB ev) ⟨g1, 0, none⟩ n1 cap1 hst5 (unhide HN1) hcell5 hn5 (by have := unhide HFIT; rw [List.length_append]; show _ + 2 + _ ≤ _; omega))
  have HSP5 := hide (((Sp.but (But.of_below (unhide HB01)) : Sp base B w w1).trans (Sp.but (But.of_below (unhide HHB)))).trans hsp5)
  clear hsp5 hfr5 hn5 hst5 hcell5 hown HPUT
  go_wp2_with fail
  refine (unhide HPUT2).mono ?_
  rintro e w6 ⟨rfl, ⟨hsp6, -⟩, hend⟩
  rw [List.append_assoc, unhide HN1] at hend
  have HSP6 := hide ((unhide HSP5).trans hsp6); have HEND := hide hend
  clear hsp6 hend HPUT2
  go_wp2_with fail
  go_end0
  exact ⟨rfl, unhide HSP6, unhide HEND⟩
end Go.Proofs.YtbigchdhpdgicaaDoor

/- The walk of the program's recordCounter.event where the event is not ok, or does not fit. No conditions. -/

namespace Go.Proofs.YtbigchdhpdgicaaDoor
open Go Go.RowKit

set_option maxRecDepth 100000 in
set_option maxHeartbeats 3200000 in
theorem rcevent_no (base B : Nat) (w : World) (a : Option Addr) (n cap : Nat) (l : List UInt8) (ev : Ev) (P : Nat → Prop) (c : C5) (hP : ∀ b, P b → b < w.heap.size) (hrep : Rep P w ev.t c) (hty : ev.ty.size ≤ 9223372036854775807) (hver : I64 ev.ver) (hT : Tab w) (h : Rw base B w (.slice a n cap) l) (hnl : n = l.length) (hl : l.length ≤ 2000) (hf : ¬ evFits l ev) :
    Calls Tryd.prog 36 #[.pointer (some ⟨B, 0, none⟩), .agg #[.string ev.ty, .int .i64 ev.ver, c.c0, c.c1, c.c2, c.c3, c.c4]] w fun e w' => e = rfE ∧ Sp base B w w' := by
  obtain ⟨c0, c1, c2, c3, c4⟩ := c
  have hbx : ∀ o, Below w.heap.size w (w.alloc o) := fun o => (Below.refl _ _).alloc (Nat.le_refl _) o
  have HPK := hide (fun o => implEventPack_any ev.ty ev.ver ev.t P ⟨c0, c1, c2, c3, c4⟩ (w.alloc o) (fun b hb => Nat.lt_of_lt_of_le (hP b hb) (hbx o).size) (Rep.carry (fun b hb => (hbx o).block b (hP b hb)) (fun _ h => h) _ _ hrep) hty hver (hT.of_block ((hbx o).block 0 hT.lt)))
  have H := hide h; have HNL := hide hnl; have HBX := hide hbx; have HL := hide hl; have HF := hide hf
  have HEV : Hid (evB ev = packB ev.ty ev.ver ev.t) := hide rfl
  have HEL := hide (evB_len ev)
  clear hbx hP hrep hty hver hT h hnl hl hf
  go_enter Tryd.func36, Tryd.ntmps36
  go_wp2_with fail
  refine (unhide HPK _).mono ?_
  rintro e w1 ⟨a1, n1, cap1, rfl, hn1, hrow1, hb1⟩
  rw [← HEV.out] at hrow1 hn1
  have hb01 := (unhide HBX _).trans (hb1.mono (unhide HBX _).size)
  have HB01 := hide hb01
  by_cases hok : evOkE ev = true
  · have hpos := evB_pos hok
    obtain ⟨g1, cap1', hv1, hg1, hg1lt, hcell1⟩ := hrow1.form hpos
    simp only [Value.slice.injEq] at hv1
    obtain ⟨rfl, -, rfl⟩ := hv1
    rw [World.size_alloc] at hg1
    have hst1 := (unhide H).on hb01
    have hgt : decide (0 < n1) = true := decide_eq_true (by omega)
    have hn2000 : (n1 : Int) < 65536 := by have := unhide HEL; omega
    have HFIT := hide (show 2000 < l.length + 2 + (evB ev).length from Classical.byContradiction fun hh => unhide HF ⟨hok, by omega⟩)
    have HST1 := hide hst1; have HN1 := hide hn1; have HCE := hide hcell1; have HG1 := hide (And.intro hg1 hg1lt)
    clear hb01 hst1 hrow1 hb1 HPK hn1 hcell1 hpos hg1 hg1lt hok HF
    go_wp2_with fail
    refine (want_yes _ _).mono ?_
    rintro e w2 ⟨rfl, hw2⟩
    have hw2' := hw2.symm
    subst hw2'
    have HB2 := hide (fun W => bytesOf2_any (n1 : Int) (by omega) hn2000 W)
    rw [two_eq n1] at HB2
    go_wp2_with fail
    refine (unhide HB2 _).mono ?_
    rintro e w3 ⟨rfl, hb3⟩
    clear hgt
    obtain ⟨cap3, W4, hrun4, hgrow4, hlt4, hcell4⟩ := bytes_of w3 (bA (twoB n1))
    have hb34 : Below w3.heap.size w3 W4 := (Below.refl _ _).grown hgrow4 (Nat.le_refl _) (by simp)
    have hb14 : Below w1.heap.size w1 W4 := hb3.trans (hb34.mono hb3.size)
    have hsz4 : (bA (twoB n1)).size = 2 := by rw [bA_size]; rfl
    rw [hsz4] at hrun4
    have hst4 := (unhide HST1).on hb14
    have hs14 := hb14.size
    have HHB := hide hb14
    by_cases h2 : l.length + 2 ≤ 2000
    · have HPUT := hide (rcput_yes base B W4 a n cap l (twoB n1) ⟨w3.heap.size, 0, none⟩ 2 cap3 hst4 rfl hcell4 (unhide HNL) h2)
      clear hb34 hb14 hst4 hcell4 hgrow4 hsz4 HB2 h2
      go_wp2_with fail
      refine (unhide HPUT).mono ?_
      rintro e w5 ⟨rfl, ⟨hsp5, hfr5⟩, a5, n5, cap5, hn5, hst5⟩
      have HPUT2 := hide (rcput_no base B w5 a5 n5 cap5 (l ++ twoB n1) (evB ev) ⟨g1, 0, none⟩ n1 cap1 hst5 (unhide HN1) hn5 (by have := unhide HFIT; rw [List.length_append]; show 2000 < _ + 2 + _; omega) (by have := unhide HEL; have := unhide HL; rw [List.length_append]; show _ + 2 + _ ≤ _; omega))
      have HSP5 := hide (((Sp.but (But.of_below (unhide HB01)) : Sp base B w w1).trans (Sp.but (But.of_below (unhide HHB)))).trans hsp5)
      clear hsp5 hfr5 hn5 hst5 HPUT
      go_wp2_with fail
      refine (unhide HPUT2).mono ?_
      rintro e w6 ⟨rfl, hb6⟩
      have HB6 := hide ((unhide HSP5).trans (Sp.but (But.of_below hb6)))
      clear hb6
      go_wp2_with fail
      exact ⟨rfl, rfl, unhide HB6⟩
    · have HPUT := hide (rcput_no base B W4 a n cap l (twoB n1) ⟨w3.heap.size, 0, none⟩ 2 cap3 hst4 rfl (unhide HNL) (by show 2000 < _ + 2; omega) (by have := unhide HL; show _ + 2 ≤ _; omega))
      clear hb34 hb14 hst4 hcell4 hgrow4 hsz4 HB2 h2
      go_wp2_with fail
      refine (unhide HPUT).mono ?_
      rintro e w5 ⟨rfl, hb5⟩
      have HB5 := hide ((((Sp.but (But.of_below (unhide HB01)) : Sp base B w w1).trans (Sp.but (But.of_below (unhide HHB))))).trans (Sp.but (But.of_below hb5)))
      clear hb5
      go_wp2_with fail
      exact ⟨rfl, rfl, unhide HB5⟩
  · have hn0 : n1 = 0 := by rw [hn1, evB_nil (by simpa using hok)]; rfl
    subst hn0
    clear hok hb01 hrow1 hn1 hb1 HPK
    go_wp2_with fail
    refine (want_no _ _).mono ?_
    rintro e w2 ⟨rfl, hw2⟩
    have hw2' := hw2.symm
    subst hw2'
    have HB5 := hide (Sp.but (But.of_below (unhide HB01)) : Sp base B w w1)
    go_wp2_with fail
    exact ⟨rfl, rfl, unhide HB5⟩
end Go.Proofs.YtbigchdhpdgicaaDoor

/- The walk of the program's recordCounter.record: the bytes of a record that is ok, a fault else. No conditions. -/

namespace Go.Proofs.YtbigchdhpdgicaaDoor
open Go Go.RowKit

theorem headT_len (key : ByteArray) (n : Nat) : (headT key n).length = key.size + 2 := by unfold headT; rw [List.length_append, shortB_len]; rfl
theorem recB_ge {key : ByteArray} {es : List Ev} {k : Nat} (h : k < es.length) : (headT key es.length ++ evsB (es.take k)).length + 2 + (evB es[k]).length ≤ (recB key es).length := by
  have h1 : evsB es = evsB (es.take (k + 1)) ++ evsB (es.drop (k + 1)) := by rw [← evsB_append, List.take_append_drop]
  unfold recB
  rw [h1, evsB_take es k h]
  simp [twoB]; omega
theorem not_fits {pos : Int} {key : ByteArray} {es : List Ev} {k : Nat} (h : k < es.length) (hf : ¬ evFits (headT key es.length ++ evsB (es.take k)) es[k]) : recOkB pos key es = false := by
  by_cases ho : evOkE es[k] = true
  · have := recB_ge (key := key) h
    have hl : ¬ (recB key es).length ≤ 2000 := fun hl => hf ⟨ho, by omega⟩
    unfold recOkB; rw [decide_eq_false hl, Bool.and_false]
  · exact recOk_all' (all_false_at h (by simpa using ho))
where
  recOk_all' {pos : Int} {key : ByteArray} {es : List Ev} (h : es.all evOkE = false) : recOkB pos key es = false := by unfold recOkB; rw [h, Bool.and_false]; rfl

/-- What the loop has put. -/
structure RcI (base B : Nat) (w wr : World) (key : ByteArray) (es : List Ev) (k : Nat) (v : Value) (n : Nat) (l : List UInt8) : Prop where
  st : Rw base B wr v l
  sp : Sp base B w wr
  len : n = l.length
  eq : l = headT key es.length ++ evsB (es.take k)
  ok : (es.take k).all evOkE = true
  le : l.length ≤ 2000

/-- What the walk comes to. -/
def RcPost (base B : Nat) (w w' : World) (e : Ending) (pos : Int) (key : ByteArray) (es : List Ev) : Prop :=
  (recOkB pos key es = true ∧ e = .returned (.tuple #[]) ∧ Sp base B w w' ∧ ∃ a n cap, Rw base B w' (.slice a n cap) (recB key es)) ∨ (recOkB pos key es = false ∧ e = rfE ∧ Sp base B w w')

set_option maxRecDepth 100000 in
set_option maxHeartbeats 6400000 in
theorem rcrecord_any (base B : Nat) (w : World) (pos : Int) (key : ByteArray) (es : List Ev) (P : Nat → Prop) (v : Value) (hP : ∀ b, P b → b < base) (hv : EvsAt P w v es) (hk : key.size ≤ 9223372036854775807) (hT : Tab w) (hTb : 0 < base) (h : Rw base B w (.slice none 0 0) []) :
    Calls Tryd.prog 26 #[.pointer (some ⟨B, 0, none⟩), .agg #[.int .i64 pos, .string key, v]] w fun e w' => RcPost base B w w' e pos key es := by
  obtain ⟨W0, hW0⟩ : ∃ W0, w.alloc (.cells #[.int .i64 pos, .string key, v] 29) = W0 := ⟨_, rfl⟩
  have hb0 : Below w.heap.size w W0 := by rw [← hW0]; exact (Below.refl _ _).alloc (Nat.le_refl _) _
  have hr0 : W0.rowIs w.heap.size 29 3 (row3 (.int .i64 pos) (.string key) v) := by rw [← hW0]; exact row3_alloc w _ _ _ _
  have hst0 := h.on hb0
  have hbs := h.size
  have hBw := h.cells.lt
  have HEVS := hide (fun (W : World) (hW : Below base w W) => hv.carry (fun b hb => hW.block b (hP b hb)) (fun _ h => h))
  obtain ⟨a, cap, rfl, -, -⟩ := hv
  have HP := hide hP
  have HTB := hide (fun (W : World) (hW : Below base w W) => hT.of_block (hW.block 0 hTb))
  have HB0 := hide hb0; have HR0 := hide hr0; have HST0 := hide hst0; have HLT := hide h.lt
  have HI := hide (fun (W : World) (x y z : Int) => frInP x y z W)
  have HNM := hide (fun W => nameOk_any key W hk)
  have HKK := hide (fun (W : World) (hW : Sp base B W0 W) => (⟨((unhide HR0).of_block (by have := hW.box (unhide HR0) (by omega) (by decide); exact hW.block _ (unhide HR0).lt (by omega) (Or.inr fun cs fz e => by obtain ⟨c, hb, _⟩ := unhide HR0; rw [e] at hb; simp at hb))).cell (i := 0) (by omega), (hW.box (unhide HR0) (by omega) (by decide)).cell (i := 1) (by omega), (hW.box (unhide HR0) (by omega) (by decide)).cell (i := 2) (by omega)⟩ : W.cell? ⟨w.heap.size, 0, none⟩ = some (.int .i64 pos) ∧ W.cell? ⟨w.heap.size, 1, none⟩ = some (.string key) ∧ W.cell? ⟨w.heap.size, 2, none⟩ = some (.slice a es.length cap)))
  obtain ⟨k0, k1, k2⟩ := unhide HKK W0 (Sp.refl _ _ _)
  have HNO := hide (fun (hf : headB pos key es.length = false) => (show recOkB pos key es = false by unfold recOkB; rw [hf]; rfl))
  clear hb0 hr0 hst0 hP hT h
  subst hW0
  go_enter Tryd.func26, Tryd.ntmps26
  generalize hW0 : w.alloc (.cells #[.int .i64 pos, .string key, .slice a es.length cap] 29) = W0 at *
  have HFA := hide (fun (W : World) (hW : Below W0.heap.size W0 W) => ((Sp.but (But.of_below (unhide HB0))).trans (Sp.but (But.of_below hW)) : Sp base B w W))
  by_cases h1 : 1 ≤ pos ∧ pos ≤ 999999
  · have D1 := hide (decide_eq_true h1)
    clear h1
    go_wp2_with fail
    refine (unhide HI _ _ _ _).mono ?_
    rintro e w1 ⟨rfl, hb1⟩
    rw [unhide D1]
    clear k0 k1 k2
    obtain ⟨k0, k1, k2⟩ := unhide HKK w1 (Sp.but (But.of_below hb1))
    have HB1 := hide hb1
    clear hb1
    go_wp2_with fail
    refine (unhide HNM _).mono ?_
    rintro e w2 ⟨rfl, hw2⟩
    have hw2' := hw2.symm
    subst hw2'
    by_cases h2 : nameOkB key = true
    · have H2 := hide h2
      rw [h2]
      clear h2
      go_wp2_with fail
      refine (unhide HI _ _ _ _).mono ?_
      rintro e w3 ⟨rfl, hb3⟩
      have HB3 := hide ((unhide HB1).trans (hb3.mono (unhide HB1).size))
      by_cases h3 : 1 ≤ (es.length : Int) ∧ (es.length : Int) ≤ 40
      · have HHD := hide (show headB pos key es.length = true by unfold headB; rw [unhide D1, unhide H2, decide_eq_true h3]; rfl)
        rw [decide_eq_true h3]
        have hn40 : es.length ≤ 40 := by omega
        have hk8 := name_size (unhide H2)
        clear h3 k0 k1 k2 hb3 HB1
        obtain ⟨k0, k1, k2⟩ := unhide HKK w3 (Sp.but (But.of_below (unhide HB3)))
        go_wp2_with fail
        refine (want_yes _ _).mono ?_
        rintro e w4 ⟨rfl, hw4⟩
        have hw4' := hw4.symm
        subst hw4'
        have hwk : IntKind.u8.wrap (key.size : Int) = (key.size : Int) := by rw [IntKind.wrap_u8]; omega
        have hst3 := (unhide HST0).on (unhide HB3)
        have HP1 := hide (rcput_yes base B (w3.alloc (.cells #[.int .u8 (key.size : Int)] 5)) none 0 0 [] [UInt8.ofNat key.size] ⟨w3.heap.size, 0, none⟩ 1 1 (hst3.alloc _) rfl (by have := byte_one w3 (UInt8.ofNat key.size) 5; rw [u8_nat _ (by omega)] at this; exact this) rfl (by simp))
        clear hst3
        go_wp2_with fail
        refine (unhide HP1).mono ?_
        rintro e w5 ⟨rfl, ⟨hsp5, -⟩, a5, n5, cap5, hn5, hst5⟩
        have hsp05 : Sp base B W0 w5 := ((Sp.but (But.of_below (unhide HB3))).trans (Sp.alloc base B w3 (.cells #[.int .u8 (key.size : Int)] 5))).trans hsp5
        clear hsp5 HP1 k0 k1 k2 hwk
        obtain ⟨k0, k1, k2⟩ := unhide HKK w5 hsp05
        obtain ⟨cap6, W6, hrun6, hgrow6, hlt6, hcell6⟩ := bytes_of w5 key
        have hb56 : Below w5.heap.size w5 W6 := (Below.refl _ _).grown hgrow6 (Nat.le_refl _) (by simp)
        have HP2 := hide (rcput_yes base B W6 a5 n5 cap5 ([] ++ [UInt8.ofNat key.size]) key.data.toList ⟨w5.heap.size, 0, none⟩ key.size cap6 (hst5.on hb56) (by simp) hcell6 hn5 (by simp; omega))
        have HSP6 := hide (hsp05.trans (Sp.but (But.of_below hb56)))
        clear hb56 hgrow6 hlt6 hcell6 hst5 hsp05 hn5
        go_wp2_with fail
        refine (unhide HP2).mono ?_
        rintro e w7 ⟨rfl, ⟨hsp7, -⟩, a7, n7, cap7, hn7, hst7⟩
        have hsp07 := (unhide HSP6).trans hsp7
        clear hsp7 HP2 k0 k1 k2 hrun6 HSP6
        obtain ⟨k0, k1, k2⟩ := unhide HKK w7 hsp07
        have hwk : IntKind.u8.wrap (es.length : Int) = (es.length : Int) := by rw [IntKind.wrap_u8]; omega
        have HP3 := hide (rcput_yes base B (w7.alloc (.cells #[.int .u8 (es.length : Int)] 5)) a7 n7 cap7 _ [UInt8.ofNat es.length] ⟨w7.heap.size, 0, none⟩ 1 1 (hst7.alloc _) rfl (by have := byte_one w7 (UInt8.ofNat es.length) 5; rw [u8_nat _ (by omega)] at this; exact this) hn7 (by simp; omega))
        have HSP7 := hide (hsp07.trans (Sp.alloc base B w7 (.cells #[.int .u8 (es.length : Int)] 5)))
        have HEQ : Hid (([] ++ [UInt8.ofNat key.size]) ++ key.data.toList ++ [UInt8.ofNat es.length] = headT key es.length) := by show _ = _; simp [headT, shortB]
        rw [HEQ.out] at HP3
        clear hst7 hn7 hsp07 HEQ
        go_wp2_with fail
        refine (unhide HP3).mono ?_
        rintro e w8 ⟨rfl, ⟨hsp8, -⟩, a8, n8, cap8, hn8, hst8⟩
        have hsp08 := (unhide HSP7).trans hsp8
        clear hsp8 HP3 k0 k1 k2 hwk HSP7
        obtain ⟨k0, k1, k2⟩ := unhide HKK w8 hsp08
        have HI0 := hide (show RcI base B w w8 key es 0 (.slice a8 n8 cap8) n8 (headT key es.length) from ⟨hst8, (Sp.but (But.of_below (unhide HB0))).trans hsp08, hn8, by simp [evsB], rfl, by rw [headT_len]; omega⟩)
        clear hn8 hst8 hsp08 HKK HR0 HB3 HB0 HST0 HI HNM
        go_wp2_with fail
        go_loopw [44] (fun i wr => ∃ (k : Nat) (ar : Option Addr) (nr cr : Nat) (lr : List UInt8), k ≤ es.length ∧ i = .int .i64 k ∧ Hid (RcI base B w wr key es k (.slice ar nr cr) nr lr)) (fun i _ => es.length - (intOf i).toNat)
        case atStart => exact ⟨0, a8, n8, cap8, _, Nat.zero_le _, rfl, HI0⟩
        case round =>
          obtain ⟨k, ar, nr, cr, lr, hk', rfl, HA⟩ := hrel
          have hbw := HA.out.sp.below (unhide HLT) hbs
          by_cases hlt : k < es.length
          · obtain ⟨a', cap', heq, -, hc⟩ := unhide HEVS wr hbw
            simp only [Value.slice.injEq, true_and] at heq
            obtain ⟨rfl, rfl⟩ := heq
            obtain ⟨b, o, rfl, hpb, c, hcell, hrep, hty, hver⟩ := hc k hlt
            obtain ⟨c0, c1, c2, c3, c4⟩ := c
            obtain ⟨g0, g1, g2, -, -, -, ⟨a3, cap3, g3, -⟩, a4, cap4, g4, -⟩ := hrep.open
            simp only at g0 g1 g2 g3 g4
            subst g0 g1 g2 g3 g4
            obtain ⟨e0, e1, e2, e3, e4, e5, e6⟩ := hcell
            simp only at e0 e1 e2 e3 e4 e5 e6
            have hPw : ∀ o b, P b → b < (wr.alloc o).heap.size := fun o b hb => by have := unhide HP b hb; have := hbw.size; simp; omega
            have hrepA : ∀ o, Rep P (wr.alloc o) es[k].t ⟨.int .i64 es[k].t.sort, .int .i64 es[k].t.num, .string es[k].t.text, .slice a3 es[k].t.names.length cap3, .slice a4 es[k].t.kids.length cap4⟩ := fun o => Rep.carry (fun b hb => ((Below.refl _ wr).alloc (Nat.le_refl _) o).block b (by have := unhide HP b hb; have := hbw.size; omega)) (fun _ h => h) _ _ hrep
            have hTA : ∀ o, Tab (wr.alloc o) := fun o => (unhide HTB wr hbw).of_block (((Below.refl _ wr).alloc (Nat.le_refl _) o).block _ (unhide HTB wr hbw).lt)
            have HBW := hide hbw
            by_cases hf : evFits lr es[k]
            · have HCALL := hide (fun o => rcevent_yes base B (wr.alloc o) ar nr cr lr es[k] P _ (hPw o) (hrepA o) hty hver (hTA o) (HA.out.st.alloc o) HA.out.len hf)
              have HT := hide (evsB_take es k hlt); have HTK := hide (all_take_succ hlt evOkE); have HF := hide hf
              clear hc hrep hpb hty hver hbw hPw hrepA hTA hf
              go_wp2_with fail
              refine (unhide HCALL _).mono ?_
              rintro e w9 ⟨rfl, hsp9, a9, n9, cap9, hn9, hst9⟩
              have HN : Hid (RcI base B w w9 key es (k + 1) (.slice a9 n9 cap9) n9 (lr ++ (twoB (evB es[k]).length ++ evB es[k]))) :=
                ⟨hst9, HA.out.sp.trans ((Sp.alloc base B wr _).trans hsp9), hn9, by rw [unhide HT, HA.out.eq, List.append_assoc], by rw [unhide HTK, HA.out.ok, (unhide HF).1]; rfl, by have := (unhide HF).2; rw [List.length_append, List.length_append]; show _ + (2 + _) ≤ _; omega⟩
              clear hsp9 hn9 hst9 HCALL e0 e1 e2 e3 e4 e5 e6
              go_wp2_with fail
              go_roundw
              case rel => exact ⟨k + 1, a9, n9, cap9, _, by omega, by go_num, HN⟩
              case measure => simp [intOf]; omega
            · have HCALL := hide (fun o => rcevent_no base B (wr.alloc o) ar nr cr lr es[k] P _ (hPw o) (hrepA o) hty hver (hTA o) (HA.out.st.alloc o) HA.out.len HA.out.le hf)
              have HN := hide (show recOkB pos key es = false from not_fits hlt (by rw [← HA.out.eq]; exact hf))
              clear hc hrep hpb hty hver hbw hPw hrepA hTA hf
              go_wp2_with fail
              refine (unhide HCALL _).mono ?_
              rintro e w9 ⟨rfl, hb9⟩
              have HB9 := hide (HA.out.sp.trans ((Sp.alloc base B wr _).trans hb9))
              clear hb9 HCALL e0 e1 e2 e3 e4 e5 e6
              go_wp2_with fail
              exact ⟨rfl, Or.inr ⟨unhide HN, rfl, unhide HB9⟩⟩
          · obtain rfl : k = es.length := by omega
            have hall := HA.out.ok
            have heq := HA.out.eq
            rw [List.take_length] at hall heq
            have hok : recOkB pos key es = true := by
              unfold recOkB; rw [unhide HHD, hall]
              have : (recB key es).length ≤ 2000 := by have := HA.out.le; rw [heq] at this; exact this
              rw [decide_eq_true this]; rfl
            have HOK := hide hok; have HEQ := hide heq
            clear hall heq hok hbw
            go_wp2_with fail
            go_end0
            refine Or.inl ⟨unhide HOK, rfl, HA.out.sp, ar, nr, cr, ?_⟩
            have := HA.out.st
            rw [unhide HEQ] at this
            exact this
      · have HN := hide (unhide HNO (by unfold headB; rw [decide_eq_false h3, Bool.and_false, Bool.and_false]))
        rw [decide_eq_false h3]
        clear h3 hb3
        go_wp2_with fail
        refine (want_no _ _).mono ?_
        rintro e w4 ⟨rfl, hw4⟩
        have hw4' := hw4.symm
        subst hw4'
        go_wp2_with fail
        exact ⟨rfl, Or.inr ⟨unhide HN, rfl, unhide HFA _ (unhide HB3)⟩⟩
    · have h2' : nameOkB key = false := by simpa using h2
      have HN := hide (unhide HNO (by unfold headB; rw [h2', Bool.false_and, Bool.and_false]))
      rw [h2']
      clear h2 h2'
      go_wp2_with fail
      refine (want_no _ _).mono ?_
      rintro e w4 ⟨rfl, hw4⟩
      have hw4' := hw4.symm
      subst hw4'
      go_wp2_with fail
      exact ⟨rfl, Or.inr ⟨unhide HN, rfl, unhide HFA _ (unhide HB1)⟩⟩
  · have D1 := hide (decide_eq_false h1)
    have HN := hide (unhide HNO (by unfold headB; rw [decide_eq_false h1, Bool.false_and]))
    clear h1
    go_wp2_with fail
    refine (unhide HI _ _ _ _).mono ?_
    rintro e w1 ⟨rfl, hb1⟩
    rw [unhide D1]
    have HB1 := hide hb1
    clear hb1
    go_wp2_with fail
    refine (want_no _ _).mono ?_
    rintro e w4 ⟨rfl, hw4⟩
    have hw4' := hw4.symm
    subst hw4'
    go_wp2_with fail
    exact ⟨rfl, Or.inr ⟨unhide HN, rfl, unhide HFA _ (unhide HB1)⟩⟩
end Go.Proofs.YtbigchdhpdgicaaDoor

/- The walk of the program's packedRecord and its deferred function; RecOk, RecPack. No conditions. -/

namespace Go.Proofs.YtbigchdhpdgicaaDoor
open Go Go.RowKit

set_option maxHeartbeats 1600000 in
theorem packed_panicking (p q : Addr) (x y : Value) (older : List PanicEntry) (w : World) (hc : w.cell? p = some x) (hz : w.frozen? p = false) (hd : w.cell? q = some y) (hy : w.frozen? q = false) (hpl : p.block < w.heap.size) (hql : q.block < w.heap.size) (hne : p.block ≠ q.block) :
    CallsD Tryd.prog 25 #[.pointer (some p), .pointer (some q)] (.panicking ({ v := .iface 60 (.agg #[]), recovered := false } :: older)) w fun e u' w' =>
      e = .returned (.tuple #[]) ∧ u' = .panicking ({ v := .iface 60 (.agg #[]), recovered := true } :: older) ∧ w' = ((w.alloc (.cells #[] 60)).setCell p (.string ByteArray.empty)).setCell q (.bool false) := by
  have hta : ∀ W, Sem.run Tryd.prog (Instr.typeAssert (.iface 60 (.agg #[])) 20 60 true) W = .ok (.tuple #[.agg #[], .bool true]) W := fun W => by kernel_rfl
  refine callsD_of_wpS Tryd.func25 rfl fun c₀ cs hu => ?_
  have b1 := fun o => ((Below.refl w.heap.size w).alloc (Nat.le_refl _) o).block p.block hpl
  have b2 := fun o => ((Below.refl w.heap.size w).alloc (Nat.le_refl _) o).block q.block hql
  have hc1 : ∀ o, (w.alloc o).cell? p = some x := fun o => by rw [World.cell?_of_block (a := p) (b1 o)]; exact hc
  have hz1 : ∀ o, (w.alloc o).frozen? p = false := fun o => by rw [World.frozen?_of_block (a := p) (b1 o)]; exact hz
  have hd1 : ∀ o, (w.alloc o).cell? q = some y := fun o => by rw [World.cell?_of_block (a := q) (b2 o)]; exact hd
  have hy1 : ∀ o, (w.alloc o).frozen? q = false := fun o => by rw [World.frozen?_of_block (a := q) (b2 o)]; exact hy
  have hd2 : ∀ o v, ((w.alloc o).setCell p v).cell? q = some y := fun o v => by rw [World.cell?_of_block (a := q) (w := w.alloc o) (Below.heap_setCell _ _ _ _ hne.symm)]; exact hd1 o
  apply wpS_seq
  apply wpS_region
  simp [wpOpsS, go_sem, recoverD, hu, Tryd.ntmps25, hta, Exit.thenS]
  apply wpS_seq
  apply wpS_region
  simp [wpOpsS, go_sem, Exit.thenS]
  refine wpS_cond (t := true) (by simp [Act.eval, Array.replicate]) ?_
  simp only [if_true]
  apply wpS_region
  simp [wpOpsS, go_sem, bodyPostS, results, Tryd.results25, hc1, hz1, hy1, hd2]
  rfl

set_option maxHeartbeats 1600000 in
theorem packed_returning (p q : Addr) (w : World) :
    CallsD Tryd.prog 25 #[.pointer (some p), .pointer (some q)] .returning w fun e u' w' => e = .returned (.tuple #[]) ∧ u' = .returning ∧ w' = w.alloc (.cells #[] 60) := by
  have hta : ∀ W, Sem.run Tryd.prog (Instr.typeAssert .nilIface 20 60 true) W = .ok (.tuple #[.agg #[], .bool false]) W := fun W => by kernel_rfl
  refine callsD_of_wpS Tryd.func25 rfl fun c₀ cs hu => ?_
  apply wpS_seq
  apply wpS_region
  simp [wpOpsS, go_sem, recoverD, hu, Tryd.ntmps25, hta, Exit.thenS]
  apply wpS_seq
  apply wpS_region
  simp [wpOpsS, go_sem, Exit.thenS]
  refine wpS_cond (t := false) (by simp [Act.eval, Array.replicate]) ?_
  simp only [Bool.false_eq_true, if_false]
  refine wpS_of_wp (wp_skip ?_)
  cases c₀
  simp_all [bodyPostS, results, Tryd.results25]

theorem Rw.start (w : World) (o0 o1 o2 : Obj) : Rw w.heap.size (w.heap.size + 1 + 1 + 1) ((((w.alloc o0).alloc o1).alloc o2).alloc (.cells #[.slice none 0 0, .int .i64 2000] 65)) (.slice none 0 0) [] := by
  refine ⟨?_, ⟨rfl, Or.inl ⟨rfl, rfl⟩⟩, by omega⟩
  have := rowO_alloc (((w.alloc o0).alloc o1).alloc o2) (.slice none 0 0) (.int .i64 2000) 65
  rw [World.size_alloc, World.size_alloc, World.size_alloc] at this
  exact this

set_option maxRecDepth 100000 in
set_option maxHeartbeats 3200000 in
theorem packedRecord_any (pos : Int) (key : ByteArray) (es : List Ev) (P : Nat → Prop) (v : Value) (w : World) (hP : ∀ b, P b → b < w.heap.size) (hv : EvsAt P w v es) (hk : key.size ≤ 9223372036854775807) (hT : Tab w) :
    Calls Tryd.prog 18 #[.agg #[.int .i64 pos, .string key, v]] w fun e w' => e = .returned (.tuple #[.string (bA (recPackB pos key es)), .bool (recOkB pos key es)]) ∧ Below w.heap.size w w' := by
  have hmf : ∀ (fn : Fn) (first cap : Array Value) (w : World), (Instr.makeFunc fn first cap).run Tryd.prog w = .ok (.func fn first cap) w := fun _ _ _ _ => rfl
  have hbx : ∀ o0 o1 o2 o3, Below w.heap.size w ((((w.alloc o0).alloc o1).alloc o2).alloc o3) := fun o0 o1 o2 o3 => ((((Below.refl _ _).alloc (Nat.le_refl _) o0).alloc (by simp) o1).alloc (by simp; omega) o2).alloc (by simp; omega) o3
  have HREC := hide (fun o0 o1 o2 => rcrecord_any w.heap.size (w.heap.size + 1 + 1 + 1) ((((w.alloc o0).alloc o1).alloc o2).alloc (.cells #[.slice none 0 0, .int .i64 2000] 65)) pos key es P v hP (hv.carry (fun b hb => (hbx _ _ _ _).block b (hP b hb)) (fun _ h => h)) hk (hT.of_block ((hbx _ _ _ _).block _ hT.lt)) hT.lt (Rw.start w o0 o1 o2))
  have HBX := hide hbx
  have HR1 := hide (fun o0 o2 o3 => (show ((((w.alloc o0).alloc (.cells #[.string ByteArray.empty] 9)).alloc o2).alloc o3).rowIs (w.heap.size + 1) 9 1 (fun _ => .string ByteArray.empty) from by
    have := ((row1_alloc (w.alloc o0) (.string ByteArray.empty) 9).alloc o2).alloc o3
    rw [World.size_alloc] at this; exact this))
  have HR2 := hide (fun o0 o1 o3 => (show ((((w.alloc o0).alloc o1).alloc (.cells #[.bool false] 4)).alloc o3).rowIs (w.heap.size + 1 + 1) 4 1 (fun _ => .bool false) from by
    have := (row1_alloc ((w.alloc o0).alloc o1) (.bool false) 4).alloc o3
    rw [World.size_alloc, World.size_alloc] at this; exact this))
  obtain ⟨a, cap, rfl, -, -⟩ := hv
  clear hbx hP hT
  go_enter_defers Tryd.func18, Tryd.ntmps18
  go_wp2_with fail
  refine (unhide HREC _ _ _).mono ?_
  rintro e w1 hpost
  rcases hpost with ⟨hok, rfl, hsp, a1, n1, cap1, hst⟩ | ⟨hok, rfl, hsp⟩
  · have q1 := hsp.box (unhide HR1 _ _ _) (by omega) (by decide)
    have q2 := hsp.box (unhide HR2 _ _ _) (by omega) (by decide)
    have r1 := q1.cell (i := 0) (by omega); have r2 := q2.cell (i := 0) (by omega)
    have z1 := q1.frozen 0; have z2 := q2.frozen 0
    have k0 := hst.cells.cell (i := 0) (by omega)
    simp only [rowO] at k0
    have hcv := hst.row.strA
    have HOK := hide hok; have HB := hide ((unhide HBX _ _ _ _).trans (hsp.below (by omega) (unhide HBX _ _ _ _).size))
    have HS := hide (And.intro q1.lt q2.lt)
    clear hok hsp q1 q2 hst HREC HBX HR1 HR2
    go_wp2_with fail
    refine leaves_cons (f := 25) (args := #[.pointer (some ⟨w.heap.size + 1, 0, none⟩), .pointer (some ⟨w.heap.size + 1 + 1, 0, none⟩)]) (by simp) (by simp [go_sem]) ?_
    refine (packed_returning ⟨w.heap.size + 1, 0, none⟩ ⟨w.heap.size + 1 + 1, 0, none⟩ _).mono ?_
    rintro e u' w'' ⟨rfl, rfl, rfl⟩
    obtain ⟨hlt1, hlt⟩ := unhide HS
    simp [Leaves, settle, results, Tryd.results18, go_sem, r1, r2, hlt, hlt1]
    refine ⟨⟨by unfold recPackB; rw [if_pos (unhide HOK)], unhide HOK⟩, ?_⟩
    exact (((unhide HB).setCell (by simp) _).setCell (by simp; omega) _).alloc (by have := (unhide HB).size; simp; omega) _
  · have q1 := hsp.box (unhide HR1 _ _ _) (by omega) (by decide)
    have q2 := hsp.box (unhide HR2 _ _ _) (by omega) (by decide)
    have r1 := q1.cell (i := 0) (by omega); have r2 := q2.cell (i := 0) (by omega)
    have z1 := q1.frozen 0; have z2 := q2.frozen 0
    have HOK := hide hok; have HB := hide ((unhide HBX _ _ _ _).trans (hsp.below (by omega) (unhide HBX _ _ _ _).size))
    have HS := hide (And.intro q1.lt q2.lt)
    clear hok hsp q1 q2 HREC HBX HR1 HR2
    go_wp2_with fail
    refine leaves_cons (f := 25) (args := #[.pointer (some ⟨w.heap.size + 1, 0, none⟩), .pointer (some ⟨w.heap.size + 1 + 1, 0, none⟩)]) (by simp) (by simp [go_sem]) ?_
    refine (packed_panicking ⟨w.heap.size + 1, 0, none⟩ ⟨w.heap.size + 1 + 1, 0, none⟩ _ _ [] _ r1 z1 r2 z2 (unhide HS).1 (unhide HS).2 (by simp)).mono ?_
    rintro e u' w'' ⟨rfl, rfl, rfl⟩
    obtain ⟨hlt1, hlt⟩ := unhide HS
    simp [Leaves, settle, results, Tryd.results18, go_sem, r1, r2, hlt, hlt1]
    refine ⟨⟨by (unfold recPackB; rw [if_neg (by rw [unhide HOK]; decide)]; rfl), unhide HOK⟩, ?_⟩
    exact (((unhide HB).setCell (by simp) _).setCell (by simp; omega) _).alloc (by have := (unhide HB).size; simp; omega) _

set_option maxRecDepth 100000 in
set_option maxHeartbeats 1600000 in
theorem implRecOk_any (pos : Int) (key : ByteArray) (es : List Ev) (P : Nat → Prop) (v : Value) (w : World) (hP : ∀ b, P b → b < w.heap.size) (hv : EvsAt P w v es) (hk : key.size ≤ 9223372036854775807) (hT : Tab w) :
    Calls Tryd.prog 8 #[.agg #[.int .i64 pos, .string key, v]] w fun e w' => e = .returned (.bool (recOkB pos key es)) ∧ Below w.heap.size w w' := by
  have hbx : ∀ o, Below w.heap.size w (w.alloc o) := fun o => (Below.refl _ _).alloc (Nat.le_refl _) o
  have HC := hide (fun o => packedRecord_any pos key es P v (w.alloc o) (fun b hb => Nat.lt_of_lt_of_le (hP b hb) (hbx o).size) (hv.carry (fun b hb => (hbx o).block b (hP b hb)) (fun _ h => h)) hk (hT.of_block ((hbx o).block _ hT.lt)))
  have HBX := hide hbx
  obtain ⟨a, cap, rfl, -, -⟩ := hv
  clear hbx hP hT
  go_enter Tryd.func8, Tryd.ntmps8
  go_wp2_with fail
  refine (unhide HC _).mono ?_
  rintro e w1 ⟨rfl, hb1⟩
  have HB := hide ((unhide HBX _).trans (hb1.mono (unhide HBX _).size))
  clear hb1 HC
  go_wp2_with fail
  go_ret
  exact ⟨rfl, unhide HB⟩

set_option maxRecDepth 100000 in
set_option maxHeartbeats 1600000 in
theorem implRecPack_any (pos : Int) (key : ByteArray) (es : List Ev) (P : Nat → Prop) (v : Value) (w : World) (hP : ∀ b, P b → b < w.heap.size) (hv : EvsAt P w v es) (hk : key.size ≤ 9223372036854775807) (hT : Tab w) :
    Calls Tryd.prog 11 #[.agg #[.int .i64 pos, .string key, v]] w fun e w' => e = .returned (.string (bA (recPackB pos key es))) ∧ Below w.heap.size w w' := by
  have hbx : ∀ o, Below w.heap.size w (w.alloc o) := fun o => (Below.refl _ _).alloc (Nat.le_refl _) o
  have HC := hide (fun o => packedRecord_any pos key es P v (w.alloc o) (fun b hb => Nat.lt_of_lt_of_le (hP b hb) (hbx o).size) (hv.carry (fun b hb => (hbx o).block b (hP b hb)) (fun _ h => h)) hk (hT.of_block ((hbx o).block _ hT.lt)))
  have HBX := hide hbx
  obtain ⟨a, cap, rfl, -, -⟩ := hv
  clear hbx hP hT
  go_enter Tryd.func11, Tryd.ntmps11
  go_wp2_with fail
  refine (unhide HC _).mono ?_
  rintro e w1 ⟨rfl, hb1⟩
  have HB := hide ((unhide HBX _).trans (hb1.mono (unhide HBX _).size))
  clear hb1 HC
  go_wp2_with fail
  go_ret
  exact ⟨rfl, unhide HB⟩
end Go.Proofs.YtbigchdhpdgicaaDoor

/- The walks of the specification's l61Text, RecOk, RecPack. No conditions. -/

namespace Go.Proofs.YtbigchdhpdgicaaDoor
open Go Go.RowKit

set_option maxRecDepth 100000 in
set_option maxHeartbeats 3200000 in
theorem l61Text_any (pos : Int) (key : ByteArray) (es : List Ev) (P : Nat → Prop) (v : Value) (w : World) (hP : ∀ b, P b → b < w.heap.size) (hv : EvsAt P w v es) (hk : key.size ≤ 8) (hn : es.length ≤ 40) :
    Calls Tryd.prog 16 #[.agg #[.int .i64 pos, .string key, v]] w fun e w' => e = .returned (.string (bA (recB key es))) ∧ Below w.heap.size w w' := by
  obtain ⟨W0, hW0⟩ : ∃ W0, w.alloc (.cells #[.int .i64 pos, .string key, v] 29) = W0 := ⟨_, rfl⟩
  have hb0 : Below w.heap.size w W0 := by rw [← hW0]; exact (Below.refl _ _).alloc (Nat.le_refl _) _
  have hr0 : W0.rowIs w.heap.size 29 3 (row3 (.int .i64 pos) (.string key) v) := by rw [← hW0]; exact row3_alloc w _ _ _ _
  obtain ⟨a, cap, rfl, -, hc⟩ := hv
  have HC := hide hc; have HP := hide hP
  clear hc hP
  have k1 := hr0.cell (i := 1) (by omega); have k2 := hr0.cell (i := 2) (by omega)
  simp only [row3] at k1 k2
  have k1a := fun o => (show (W0.alloc o).cell? ⟨w.heap.size, 1, none⟩ = some (.string key) from (((Below.refl _ W0).alloc (Nat.le_refl _) o).cell (World.block_lt_of_cell? W0 _ k1)).trans k1)
  have k2a := fun o => (show (W0.alloc o).cell? ⟨w.heap.size, 2, none⟩ = some (.slice a es.length cap) from (((Below.refl _ W0).alloc (Nat.le_refl _) o).cell (World.block_lt_of_cell? W0 _ k2)).trans k2)
  have HSH := hide (fun W => l4Short_any key W (by omega))
  have HB0 := hide hb0; have HR0 := hide hr0
  have hsz1 : ¬ ((9223372036854775807 : Int) < ((bA (shortB key)).size : Int) + ((bA [UInt8.ofNat es.length]).size : Int)) := by rw [bA_size, bA_size, shortB_len]; simp; omega
  have hsz1' : ¬ ((9223372036854775807 : Nat) < (bA (shortB key)).size + (bA [UInt8.ofNat es.length]).size) := by rw [bA_size, bA_size, shortB_len]; simp; omega
  have hwu : IntKind.u8.wrap (es.length : Int) = (es.length : Int) := by rw [IntKind.wrap_u8]; omega
  have HEL := hide (show (((es.length : Nat) : Int)).toNat = es.length from Int.toNat_natCast _)
  clear hb0 hr0
  subst hW0
  go_enter Tryd.func16, Tryd.ntmps16
  generalize hW0 : w.alloc (.cells #[.int .i64 pos, .string key, .slice a es.length cap] 29) = W0 at *
  have hcz := conv_cell1 (w' := (W0.alloc (.cells #[.int .u8 (es.length : Int)] 5)).drew) (g := W0.heap.size) (a := (es.length : Int)) (by go_simp) (by omega)
  simp only [Int.toNat_natCast] at hcz
  go_upto_region 1 with fail
  go_cut [3] from 6 (fun s wx => s = .string (bA (headT key es.length)) ∧ Hid (Below W0.heap.size W0 wx))
  case first =>
    go_region_with (go_at_call 22
                    refine (unhide HSH _).mono ?_
                    rintro e w1 ⟨a1, n1, cap1, rfl, hn1, hrow1, hb1⟩
                    have hst := hrow1.strA
                    have hsta := fun o => hrow1.strB o
                    have j2 : w1.cell? ⟨w.heap.size, 2, none⟩ = some (.slice a es.length cap) := by rw [hb1.cell (by first | exact World.block_lt_of_cell? _ _ k2 | exact World.block_lt_of_cell? _ _ (k2a _))]; first | exact k2 | exact k2a _
                    try (have hcc : w1.cell? ⟨W0.heap.size, 0, none⟩ = some (.int .u8 (es.length : Int)) := by (rw [hb1.cell (by simp)]; go_simp)
                         have hcv := conv_cell1 hcc (by omega)
                         simp only [Int.toNat_natCast] at hcv)
                    have hcw := fun (x : Int) (hx : 0 ≤ x ∧ x < 256) => conv_kept1 (Below.refl (w1.alloc (.cells #[.int .u8 x] 5)).heap.size (w1.alloc (.cells #[.int .u8 x] 5))) hx
                    have hcw := hcw (es.length : Int) (by omega)
                    simp only [Int.toNat_natCast] at hcw
                    have HB1 := hide hb1
                    clear hn1 hrow1 hb1)
    all_goals
      go_wp2_with fail
      go_meet
      case rel => exact ⟨by rw [bA_append]; rfl, by first | exact bc1 (unhide HB1) | exact bc2 (unhide HB1)⟩
  case rest =>
    obtain ⟨rfl, HBc⟩ := hcut
    clear k1 k2 k1a k2a HSH hsz1 hsz1' hwu hcz HEL
    have HHT := hide (show (headT key es.length).length ≤ 10 by unfold headT; rw [List.length_append, shortB_len]; simp; omega)
    go_wp2_with fail
    go_loopw [3, 4] (fun s i wr => ∃ (k : Nat) (S : ByteArray), k ≤ es.length ∧ i = .int .i64 k ∧ s = .string S ∧ Hid (S = bA (headT key es.length ++ evsB (es.take k))) ∧ Hid (Below W0.heap.size W0 wr)) (fun _ i _ => es.length - (intOf i).toNat)
    case atStart => exact ⟨0, _, Nat.zero_le _, rfl, rfl, hide (by simp [evsB]), HBc⟩
    case round =>
      obtain ⟨k, S, hk', rfl, rfl, HS, HB⟩ := hrel
      have hb := HB.out
      have hrow := (unhide HR0).of_block (hb.block _ (unhide HR0).lt)
      have k2 := hrow.cell (i := 2) (by omega)
      simp only [row3] at k2
      by_cases hlt : k < es.length
      · obtain ⟨b, o, rfl, hpb, c, hcell, hrep, hty, hver⟩ := unhide HC k hlt
        have hb0 := (unhide HB0).trans (hb.mono (unhide HB0).size)
        have hcell' := hcell.carry (hb0.block b (unhide HP b hpb))
        obtain ⟨c0, c1, c2, c3, c4⟩ := c
        obtain ⟨e0, e1, e2, e3, e4, e5, e6⟩ := hcell'
        simp only at e0 e1 e2 e3 e4 e5 e6
        have HCALL := hide (specEventPack_any es[k].ty es[k].ver es[k].t P ⟨c0, c1, c2, c3, c4⟩ wr (fun b hb' => Nat.lt_of_lt_of_le (unhide HP b hb') hb0.size) (Rep.carry (fun b hb' => hb0.block b (unhide HP b hb')) (fun _ h => h) _ _ hrep) hty hver)
        have HT := hide (evsB_take es k hlt)
        have hSz : S.size ≤ 400000 := by
          rw [HS.out, bA_size, List.length_append]
          have h1 := unhide HHT; have h2 := evsB_len (es.take k); rw [List.length_take] at h2; omega
        have HLE := hide (evB_len es[k])
        have HEV : Hid (evB es[k] = packB es[k].ty es[k].ver es[k].t) := hide rfl
        clear hrep hcell hpb hty hver hb hb0 hrow
        go_wp2_with fail
        refine (unhide HCALL).mono ?_
        rintro e w1 ⟨a1, n1, cap1, rfl, hn1, hrow1, hb1⟩
        rw [← HEV.out] at hrow1 hn1
        have hst := hrow1.strB (.cells #[.int .u8 ((n1 : Int) / 256), .int .u8 ((n1 : Int) % 256)] 5)
        have hn9 : (n1 : Int) ≤ 9000 := by have := unhide HLE; omega
        have hcv := conv_kept2 (Below.refl (w1.alloc (.cells #[.int .u8 ((n1 : Int) / 256), .int .u8 ((n1 : Int) % 256)] 5)).heap.size _) (by omega) (by omega)
        have hw1 : IntKind.u8.wrap ((n1 : Int) / 256) = (n1 : Int) / 256 := by rw [IntKind.wrap_u8]; omega
        have hw2 : IntKind.u8.wrap ((n1 : Int) % 256) = (n1 : Int) % 256 := by rw [IntKind.wrap_u8]; omega
        obtain ⟨B2, hB2⟩ : ∃ B2, B2 = bA [UInt8.ofNat ((n1 : Int) / 256).toNat, UInt8.ofNat ((n1 : Int) % 256).toNat] := ⟨_, rfl⟩
        obtain ⟨B3, hB3⟩ : ∃ B3, B3 = bA (evB es[k]) := ⟨_, rfl⟩
        rw [← hB2] at hcv
        rw [← hB3] at hst
        have hz2 : B2.size ≤ 2 := by rw [hB2, bA_size]; simp
        have hz3 : B3.size ≤ 9000 := by rw [hB3, bA_size]; exact unhide HLE
        have hs1 : ¬ ((9223372036854775807 : Nat) < S.size + B2.size) := by omega
        have hs2 : ¬ ((9223372036854775807 : Nat) < (S ++ B2).size + B3.size) := by rw [ByteArray.size_append]; omega
        have HE : Hid (S ++ B2 ++ B3 = bA (headT key es.length ++ evsB (es.take (k + 1)))) := by
          show _ = _
          rw [HS.out, hB2, hB3, bA_append, bA_append, unhide HT, hn1]
          congr 1
          simp [twoB]
          exact ⟨by congr 1 <;> omega, by congr 1 <;> omega⟩
        have HBN := hide ((HB.out.trans (hb1.mono HB.out.size)).alloc (by have := HB.out.size; have := hb1.size; omega) (.cells #[.int .u8 ((n1 : Int) / 256), .int .u8 ((n1 : Int) % 256)] 5))
        clear hn1 hrow1 hb1 HCALL e0 e1 e2 e3 e4 e5 e6 hB2 hB3 hz2 hz3 hSz
        go_wp2_with fail
        go_roundw
        case rel => exact ⟨k + 1, _, by omega, by go_num, rfl, HE, HBN⟩
        case measure => simp [intOf]; omega
      · go_wp2_with fail
        go_ret
        obtain rfl : k = es.length := by omega
        refine ⟨ret_str ?_, (unhide HB0).trans (HB.out.mono (unhide HB0).size)⟩
        rw [HS.out, List.take_length]; rfl
end Go.Proofs.YtbigchdhpdgicaaDoor

/- The walks of the specification's RecOk, RecPack. No conditions. -/

namespace Go.Proofs.YtbigchdhpdgicaaDoor
open Go Go.RowKit

theorem recOk_head {pos : Int} {key : ByteArray} {es : List Ev} (h : headB pos key es.length = false) : recOkB pos key es = false := by unfold recOkB; rw [h]; rfl
theorem recOk_all {pos : Int} {key : ByteArray} {es : List Ev} (h : es.all evOkE = false) : recOkB pos key es = false := by unfold recOkB; rw [h, Bool.and_false]; rfl
theorem recOk_len {pos : Int} {key : ByteArray} {es : List Ev} (h : headB pos key es.length = true) (ha : es.all evOkE = true) : recOkB pos key es = decide ((recB key es).length ≤ 2000) := by unfold recOkB; rw [h, ha]; rfl

set_option maxRecDepth 100000 in
set_option maxHeartbeats 3200000 in
theorem specRecOk_any (pos : Int) (key : ByteArray) (es : List Ev) (P : Nat → Prop) (v : Value) (w : World) (hP : ∀ b, P b → b < w.heap.size) (hv : EvsAt P w v es) (hk : key.size ≤ 9223372036854775807) :
    Calls Tryd.prog 6 #[.agg #[.int .i64 pos, .string key, v]] w fun e w' => e = .returned (.bool (recOkB pos key es)) ∧ Below w.heap.size w w' := by
  obtain ⟨W0, hW0⟩ : ∃ W0, w.alloc (.cells #[.int .i64 pos, .string key, v] 29) = W0 := ⟨_, rfl⟩
  have hb0 : Below w.heap.size w W0 := by rw [← hW0]; exact (Below.refl _ _).alloc (Nat.le_refl _) _
  have hr0 : W0.rowIs w.heap.size 29 3 (row3 (.int .i64 pos) (.string key) v) := by rw [← hW0]; exact row3_alloc w _ _ _ _
  have HTX := hide (fun (W : World) (hW : Below w.heap.size w W) (hk8 : key.size ≤ 8) (hn : es.length ≤ 40) => l61Text_any pos key es P v W (fun b hb => Nat.lt_of_lt_of_le (hP b hb) hW.size) (hv.carry (fun b hb => hW.block b (hP b hb)) (fun _ h => h)) hk8 hn)
  obtain ⟨a, cap, rfl, -, hc⟩ := hv
  have HC := hide hc; have HP := hide hP
  have HI := hide (fun (W : World) (x y z : Int) => frInS x y z W)
  have HNM := hide (fun W => l6NameOk_any key W hk)
  have HB0 := hide hb0; have HR0 := hide hr0
  have kk := fun (W : World) (hW : Below W0.heap.size W0 W) => (⟨((unhide HR0).of_block (hW.block _ (unhide HR0).lt)).cell (i := 0) (by omega), ((unhide HR0).of_block (hW.block _ (unhide HR0).lt)).cell (i := 1) (by omega), ((unhide HR0).of_block (hW.block _ (unhide HR0).lt)).cell (i := 2) (by omega)⟩ : W.cell? ⟨w.heap.size, 0, none⟩ = some (.int .i64 pos) ∧ W.cell? ⟨w.heap.size, 1, none⟩ = some (.string key) ∧ W.cell? ⟨w.heap.size, 2, none⟩ = some (.slice a es.length cap))
  have HKK := hide kk
  obtain ⟨k0, k1, k2⟩ := kk W0 (Below.refl _ _)
  clear hc hP hb0 hr0 kk
  subst hW0
  go_enter Tryd.func6, Tryd.ntmps6
  generalize hW0 : w.alloc (.cells #[.int .i64 pos, .string key, .slice a es.length cap] 29) = W0 at *
  have HF : Hid (headB pos key es.length = false → recOkB pos key es = false) := hide recOk_head
  by_cases h1 : 1 ≤ pos ∧ pos ≤ 999999
  · have D1 := hide (decide_eq_true h1)
    clear h1
    go_wp2_with fail
    refine (unhide HI _ _ _ _).mono ?_
    rintro e w1 ⟨rfl, hb1⟩
    rw [unhide D1]
    clear k0 k1 k2
    obtain ⟨k0, k1, k2⟩ := unhide HKK w1 hb1
    have HB1 := hide hb1
    clear hb1
    go_wp2_with fail
    refine (unhide HNM _).mono ?_
    rintro e w2 ⟨rfl, rfl⟩
    by_cases h2 : nameOkB key = true
    · have H2 := hide h2
      rw [h2]
      clear h2
      go_wp2_with fail
      refine (unhide HI _ _ _ _).mono ?_
      rintro e w3 ⟨rfl, hb3⟩
      by_cases h3 : 1 ≤ (es.length : Int) ∧ (es.length : Int) ≤ 40
      · have HHD := hide (show headB pos key es.length = true by unfold headB; rw [unhide D1, unhide H2, decide_eq_true h3]; rfl)
        rw [decide_eq_true h3]
        have hn40 : es.length ≤ 40 := by omega
        have HB3 := hide ((unhide HB1).trans (hb3.mono (unhide HB1).size))
        clear h3 k0 k1 k2 hb3 HB1
        go_wp2_with fail
        go_loopw [3] (fun i wr => ∃ (k : Nat), k ≤ es.length ∧ i = .int .i64 k ∧ Hid ((es.take k).all evOkE = true) ∧ Hid (Below W0.heap.size W0 wr)) (fun i _ => es.length - (intOf i).toNat)
        case atStart => exact ⟨0, Nat.zero_le _, rfl, hide rfl, HB3⟩
        case round =>
          obtain ⟨k, hk', rfl, HA, HB⟩ := hrel
          have hb := HB.out
          obtain ⟨k0, k1, k2⟩ := unhide HKK wr hb
          have hb0 := (unhide HB0).trans (hb.mono (unhide HB0).size)
          by_cases hlt : k < es.length
          · obtain ⟨b, o, rfl, hpb, c, hcell, hrep, hty, hver⟩ := unhide HC k hlt
            have hcell' := hcell.carry (hb0.block b (unhide HP b hpb))
            obtain ⟨c0, c1, c2, c3, c4⟩ := c
            obtain ⟨e0, e1, e2, e3, e4, e5, e6⟩ := hcell'
            simp only at e0 e1 e2 e3 e4 e5 e6
            have HCALL := hide (specEventOk_any es[k].ty es[k].ver es[k].t P ⟨c0, c1, c2, c3, c4⟩ wr (fun b hb' => Nat.lt_of_lt_of_le (unhide HP b hb') hb0.size) (Rep.carry (fun b hb' => hb0.block b (unhide HP b hb')) (fun _ h => h) _ _ hrep) hty hver)
            have HTK := hide (all_take_succ hlt evOkE)
            have HAF := hide (fun hp => @recOk_all pos key es (all_false_at hlt hp))
            have HEE : Hid (evOkE es[k] = evOkB es[k].ty es[k].ver es[k].t) := hide rfl
            clear hrep hcell hpb hty hver hb hb0
            go_wp2_with fail
            refine (unhide HCALL).mono ?_
            rintro e w1' ⟨rfl, hb1'⟩
            rw [← HEE.out]
            have HBN := hide (HB.out.trans (hb1'.mono HB.out.size))
            clear hb1' HCALL e0 e1 e2 e3 e4 e5 e6
            by_cases hev : evOkE es[k] = true
            · have HN : Hid ((es.take (k + 1)).all evOkE = true) := by show _ = _; rw [unhide HTK, HA.out, hev]; rfl
              rw [hev]
              clear hev
              go_wp2_with fail
              go_roundw
              case rel => exact ⟨k + 1, by omega, by go_num, HN, HBN⟩
              case measure => simp [intOf]; omega
            · have hev' : evOkE es[k] = false := by simpa using hev
              have HN := hide (unhide HAF hev')
              rw [hev']
              clear hev hev'
              go_wp2_with fail
              go_ret
              exact ⟨by (rw [unhide HN]; rfl), (unhide HB0).trans ((unhide HBN).mono (unhide HB0).size)⟩
          · obtain rfl : k = es.length := by omega
            have hall := HA.out
            rw [List.take_length] at hall
            have HE := hide (recOk_len (unhide HHD) hall)
            have HT := hide (unhide HTX wr hb0 (name_size (unhide H2)) hn40)
            have HW0 := hide hb0
            have hrs : (bA (recB key es)).size = (recB key es).length := bA_size _
            have hrl : (recB key es).length ≤ 400000 := by
              unfold recB headT
              have h1 := evsB_len es; have h2 := name_size (unhide H2)
              rw [List.length_append, List.length_append, shortB_len]; simp; omega
            generalize recB key es = R at *
            clear hall HA hb hb0
            go_wp2_with fail
            refine (unhide HT).mono ?_
            rintro e w5 ⟨rfl, hb5⟩
            have HBN := hide ((unhide HW0).trans (hb5.mono (unhide HW0).size))
            clear hb5 HT k0 k1 k2
            by_cases hle : R.length ≤ 2000
            · have hle2 : ((bA R).size : Int) ≤ 2000 := by omega
              have HD := hide (decide_eq_true hle)
              clear hle hrs
              go_wp2_with fail
              go_ret
              exact ⟨by (rw [unhide HE, unhide HD]; rfl), unhide HBN⟩
            · have hle2 : decide (((bA R).size : Int) ≤ 2000) = false := decide_eq_false (by omega)
              have HD := hide (decide_eq_false hle)
              clear hle hrs
              go_wp2_with fail
              go_ret
              exact ⟨by (rw [unhide HE, unhide HD]; rfl), unhide HBN⟩
      · have HN := hide (unhide HF (by unfold headB; rw [decide_eq_false h3, Bool.and_false, Bool.and_false]))
        rw [decide_eq_false h3]
        have HB3 := hide ((unhide HB1).trans (hb3.mono (unhide HB1).size))
        clear h3 hb3
        go_wp2_with fail
        go_ret
        exact ⟨by (rw [unhide HN]; rfl), (unhide HB0).trans ((unhide HB3).mono (unhide HB0).size)⟩
    · have h2' : nameOkB key = false := by simpa using h2
      have HN := hide (unhide HF (by unfold headB; rw [h2', Bool.false_and, Bool.and_false]))
      rw [h2']
      clear h2 h2'
      go_wp2_with fail
      go_ret
      exact ⟨by (rw [unhide HN]; rfl), (unhide HB0).trans ((unhide HB1).mono (unhide HB0).size)⟩
  · have D1 := hide (decide_eq_false h1)
    have HN := hide (unhide HF (by unfold headB; rw [decide_eq_false h1, Bool.false_and]))
    clear h1
    go_wp2_with fail
    refine (unhide HI _ _ _ _).mono ?_
    rintro e w1 ⟨rfl, hb1⟩
    rw [unhide D1]
    have HB1 := hide hb1
    clear hb1
    go_wp2_with fail
    go_ret
    exact ⟨by (rw [unhide HN]; rfl), (unhide HB0).trans ((unhide HB1).mono (unhide HB0).size)⟩

set_option maxRecDepth 100000 in
set_option maxHeartbeats 1600000 in
theorem specRecPack_any (pos : Int) (key : ByteArray) (es : List Ev) (P : Nat → Prop) (v : Value) (w : World) (hP : ∀ b, P b → b < w.heap.size) (hv : EvsAt P w v es) (hk : key.size ≤ 9223372036854775807) :
    Calls Tryd.prog 10 #[.agg #[.int .i64 pos, .string key, v]] w fun e w' => e = .returned (.string (bA (recPackB pos key es))) ∧ Below w.heap.size w w' := by
  have hbx : ∀ o, Below w.heap.size w (w.alloc o) := fun o => (Below.refl _ _).alloc (Nat.le_refl _) o
  have HOK := hide (fun (W : World) (hW : Below w.heap.size w W) => specRecOk_any pos key es P v W (fun b hb => Nat.lt_of_lt_of_le (hP b hb) hW.size) (hv.carry (fun b hb => hW.block b (hP b hb)) (fun _ h => h)) hk)
  have HTX := hide (fun (W : World) (hW : Below w.heap.size w W) (hk8 : key.size ≤ 8) (hn : es.length ≤ 40) => l61Text_any pos key es P v W (fun b hb => Nat.lt_of_lt_of_le (hP b hb) hW.size) (hv.carry (fun b hb => hW.block b (hP b hb)) (fun _ h => h)) hk8 hn)
  have HBX := hide hbx
  obtain ⟨a, cap, rfl, -, -⟩ := hv
  clear hbx hP
  go_enter Tryd.func10, Tryd.ntmps10
  go_wp2_with fail
  refine (unhide HOK _ (unhide HBX _)).mono ?_
  rintro e w1 ⟨rfl, hb1⟩
  obtain ⟨q1, hs1, hb01⟩ := kbox1 hb1
  have k0 := q1.cell (i := 0) (by omega); have k1 := q1.cell (i := 1) (by omega); have k2 := q1.cell (i := 2) (by omega)
  simp only [row3] at k0 k1 k2
  have HB := hide hb01
  clear hb1 q1 HOK hb01
  by_cases h : recOkB pos key es = true
  · have HH := hide h
    have hh : headB pos key es.length = true := by
      refine Classical.byContradiction fun hn => ?_
      rw [recOk_head (by simpa using hn)] at h; cases h
    obtain ⟨-, hnm, -, hn40⟩ := headB_parts hh
    have HT := hide (unhide HTX w1 (unhide HB) (name_size hnm) (by omega))
    rw [h]
    clear h hh hnm hn40 HTX
    go_wp2_with fail
    refine (unhide HT).mono ?_
    rintro e w2 ⟨rfl, hb2⟩
    have HB2 := hide ((unhide HB).trans (hb2.mono (unhide HB).size))
    clear hb2 HT
    go_wp2_with fail
    go_ret
    exact ⟨by (unfold recPackB; rw [if_pos (unhide HH)]; rfl), unhide HB2⟩
  · have h' : recOkB pos key es = false := by simpa using h
    have HH := hide h
    rw [h']
    clear h h'
    go_wp2_with fail
    go_ret
    exact ⟨by (unfold recPackB; rw [if_neg (unhide HH)]; rfl), unhide HB⟩
end Go.Proofs.YtbigchdhpdgicaaDoor

/- The walk of the law's own eqStringS: two slices of the same strings are the same. No conditions. -/

namespace Go.Proofs.YtbigchdhpdgicaaDoor
open Go Go.RowKit

set_option maxHeartbeats 400000 in
theorem eqStringS_any (v u : Value) (ss : List ByteArray) (w : World) {P Q : Nat → Prop} (hv : StrsAt P w v ss) (hu : StrsAt Q w u ss) (hP : ∀ b, P b → b < w.heap.size) (hQ : ∀ b, Q b → b < w.heap.size) :
    Calls Tryd.prog 49 #[v, u] w fun e w' => e = .returned (.bool true) ∧ Below w.heap.size w w' := by
  obtain ⟨a, cap, rfl, hlen, hc⟩ := hv
  obtain ⟨a2, cap2, rfl, -, hc2⟩ := hu
  have HC := hide hc; have HC2 := hide hc2; have HP := hide hP; have HQ := hide hQ
  clear hc hc2 hP hQ
  have hne : ((ss.length : Int) != (ss.length : Int)) = false := by simp
  go_enter Tryd.func49, Tryd.ntmps49
  go_wp2_with fail
  clear hne
  go_loopw [5] (fun i wr => ∃ (k : Nat), k ≤ ss.length ∧ i = .int .i64 k ∧ Below w.heap.size w wr) (fun i _ => ss.length - (intOf i).toNat)
  case atStart => exact ⟨0, Nat.zero_le _, rfl, Below.refl _ _⟩
  case round =>
    obtain ⟨k, hk, rfl, hb⟩ := hrel
    by_cases hlt : k < ss.length
    · obtain ⟨b, o, rfl, hpb, hcell, -⟩ := unhide HC k hlt
      obtain ⟨b2, o2, rfl, hpb2, hcell2, -⟩ := unhide HC2 k hlt
      have e1 : wr.cell? ⟨b, o + k, none⟩ = some (.string ss[k]) := by rw [hb.cell (unhide HP b hpb)]; exact hcell
      have e2 : wr.cell? ⟨b2, o2 + k, none⟩ = some (.string ss[k]) := by rw [hb.cell (unhide HQ b2 hpb2)]; exact hcell2
      clear hcell hcell2 hpb hpb2
      go_wp2_with fail
      go_region
      go_wp2_with fail
      go_roundw
      case rel => exact ⟨k + 1, by omega, by go_num, hb.drew⟩
      case measure => simp [intOf]; omega
    · go_wp2_with fail
      go_ret
      exact ⟨rfl, hb⟩
end Go.Proofs.YtbigchdhpdgicaaDoor
