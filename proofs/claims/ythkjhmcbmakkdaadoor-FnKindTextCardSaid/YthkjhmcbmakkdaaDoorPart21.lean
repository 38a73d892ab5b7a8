/- The walk of the specification's reader of schemas, further: forms; and the whole of it. For texts of at most 2^20 bytes. -/
import Derived.Test.YthkjhmcbmakkdaaDoorPart19
namespace Go.Proofs.YthkjhmcbmakkdaaDoor
open Go Go.RowKit

/-- What is read of the fields of a form. -/
def FX (d : Nat) (inp : List UInt8) : Option (List ByteArray × List Kd × List UInt8) := if inp.head? = some 123 then klp (krd d) (inp.length + 1) [] [] inp.tail else none
theorem krd_FX (d : Nat) {inp : List UInt8} (h1 : inp.head? ≠ some 110) (h2 : inp.head? ≠ some 116) (h3 : inp.head? ≠ some 102) (h4 : inp.head? ≠ some 91) (h5 : inp.head? ≠ some 63) : krd (d + 1) inp = match FX d inp with
      | none => none
      | some (ns, ks, rest) => some (.mk 5 ns ks, rest) := by
  rw [krd_form d h1 h2 h3 h4 h5, FX]
  split
  · rcases klp (krd d) (inp.length + 1) [] [] inp.tail with _ | ⟨ns, ks, rest⟩ <;> rfl
  · rfl

/-- How far a form is read. -/
def FRel (X : Option (List ByteArray × List Kd × List UInt8)) (d : Nat) (s : ByteArray) (a : Nat) (bad : Bool) (ns : List ByteArray) (ks : List Kd) : Prop :=
  (bad = false ∧ a ≤ s.size ∧ ks.length ≤ a ∧ ∃ f, (lf s a).length < f ∧ klp (krd d) f ns ks (lf s a) = X) ∨ (bad = true ∧ X = none ∧ a ≤ s.size + d)
theorem FRel.at {X : Option (List ByteArray × List Kd × List UInt8)} {d : Nat} {s : ByteArray} {a : Nat} {bad : Bool} {ns : List ByteArray} {ks : List Kd} (h : FRel X d s a bad ns ks) : a ≤ s.size + d := by
  rcases h with ⟨-, h, -⟩ | ⟨-, -, h⟩ <;> omega

/-- Behind the comma. -/
def M1 (X : Option (List ByteArray × List Kd × List UInt8)) (s : ByteArray) (a n a1 : Nat) (bad1 : Bool) : Prop := a1 ≤ s.size ∧ ((bad1 = false ∧ kcma n (lf s a) = some (lf s a1)) ∨ (bad1 = true ∧ X = none))
/-- Behind the colon. -/
def M3 (X : Option (List ByteArray × List Kd × List UInt8)) (s : ByteArray) (a n a1 a3 : Nat) (bad3 : Bool) : Prop :=
  a3 ≤ s.size ∧ ((bad3 = false ∧ kcma n (lf s a) = some (lf s a1) ∧ knam (lf s a1) = some (⟨((lf s a1).takeWhile nameByte).toArray⟩, lf s a3)) ∨ (bad3 = true ∧ X = none))

section
variable {X : Option (List ByteArray × List Kd × List UInt8)} {d : Nat} {s : ByteArray} {a : Nat} {ns : List ByteArray} {ks : List Kd}
theorem m1_zero (ha : a ≤ s.size) (h0 : ks.length = 0) : M1 X s a ks.length a false := ⟨ha, Or.inl ⟨rfl, by unfold kcma; rw [if_pos h0]⟩⟩
theorem m1_eat (ha : a ≤ s.size) (hne : (lf s a).head? ≠ some 125) {f : Nat} (hf : (lf s a).length < f) (hX : klp (krd d) f ns ks (lf s a) = X) (h0 : 0 < ks.length) :
    (pre (w1 44) s a = true ∧ M1 X s a ks.length (a + 1) false) ∨ (pre (w1 44) s a = false ∧ M1 X s a ks.length a true) := by
  rw [pre_one]
  obtain ⟨f, rfl⟩ : ∃ g, f = g + 1 := ⟨f - 1, by omega⟩
  rw [klp, if_neg hne] at hX
  by_cases h44 : (lf s a).head? = some 44
  · refine Or.inl ⟨decide_eq_true h44, ?_, Or.inl ⟨rfl, by unfold kcma; rw [if_neg (by omega), if_pos h44, lf_next]⟩⟩
    have := lf_len s a
    cases hl : lf s a with
    | nil => rw [hl] at h44; simp at h44
    | cons c r => rw [hl] at this; simp at this; omega
  · refine Or.inr ⟨decide_eq_false h44, ha, Or.inr ⟨rfl, ?_⟩⟩
    rw [← hX]
    have : kcma ks.length (lf s a) = none := by unfold kcma; rw [if_neg (by omega), if_neg h44]
    rw [this]
theorem m3_eat {a1 : Nat} {bad1 : Bool} (hne : (lf s a).head? ≠ some 125) {f : Nat} (hf : (lf s a).length < f) (hX : klp (krd d) f ns ks (lf s a) = X) (h1 : M1 X s a ks.length a1 bad1) :
    (pre (w1 58) s (a1 + rn nameByte s a1) = true ∧ M3 X s a ks.length a1 (a1 + rn nameByte s a1 + 1) bad1) ∨ (pre (w1 58) s (a1 + rn nameByte s a1) = false ∧ M3 X s a ks.length a1 (a1 + rn nameByte s a1) true) := by
  rw [pre_one]
  obtain ⟨ha1, h1⟩ := h1
  have hle := rn_le nameByte s a1 ha1
  obtain ⟨f, rfl⟩ : ∃ g, f = g + 1 := ⟨f - 1, by omega⟩
  rw [klp, if_neg hne] at hX
  by_cases h58 : (lf s (a1 + rn nameByte s a1)).head? = some 58
  · have hroom : a1 + rn nameByte s a1 + 1 ≤ s.size := by
      have := lf_len s (a1 + rn nameByte s a1)
      cases hl : lf s (a1 + rn nameByte s a1) with
      | nil => rw [hl] at h58; simp at h58
      | cons c r => rw [hl] at this; simp at this; omega
    refine Or.inl ⟨decide_eq_true h58, hroom, ?_⟩
    rcases h1 with ⟨h1, h2⟩ | ⟨h1, h2⟩
    · refine Or.inl ⟨h1, h2, ?_⟩
      unfold knam
      rw [← rn_drop, if_pos h58, lf_next]
    · exact Or.inr ⟨h1, h2⟩
  · refine Or.inr ⟨decide_eq_false h58, hle, Or.inr ⟨rfl, ?_⟩⟩
    rcases h1 with ⟨h1, h2⟩ | ⟨h1, h2⟩
    · rw [← hX, h2]
      have : knam (lf s a1) = none := by unfold knam; rw [← rn_drop, if_neg h58]
      simp only [this]
    · exact h2
theorem m4_bad {a1 a3 : Nat} (h3 : M3 X s a ks.length a1 a3 true) (ns' : List ByteArray) (ks' : List Kd) : FRel X d s a3 true ns' ks' := by
  obtain ⟨h, h3⟩ := h3
  rcases h3 with ⟨h, -⟩ | ⟨-, h2⟩
  · cases h
  · exact Or.inr ⟨rfl, h2, by omega⟩
theorem m4_sub {a1 a3 a4 : Nat} {bad4 : Bool} {k : Kd} (ha : a ≤ s.size) (hka : ks.length ≤ a) (hne : (lf s a).head? ≠ some 125) {f : Nat} (hf : (lf s a).length < f) (hX : klp (krd d) f ns ks (lf s a) = X) (h3 : M3 X s a ks.length a1 a3 false)
    (h4 : KOut d s (lf s a3) k a4 bad4) : FRel X d s a4 bad4 (ns ++ [⟨((lf s a1).takeWhile nameByte).toArray⟩]) (ks ++ [k]) ∧ (bad4 = false → a < a4 ∧ a4 ≤ s.size) := by
  obtain ⟨h, h3⟩ := h3
  rcases h3 with ⟨-, h3, h5⟩ | ⟨h, -⟩
  · obtain ⟨f, rfl⟩ : ∃ g, f = g + 1 := ⟨f - 1, by omega⟩
    rw [klp, if_neg hne, h3] at hX
    simp only [h5] at hX
    rcases h4 with ⟨e1, e2, e3⟩ | ⟨e1, e2, e3⟩
    · rw [e2] at hX
      have l1 := congrArg List.length (kcma_some h3)
      have l2 := congrArg List.length (knam_some h5)
      have l3 := congrArg List.length (krd_sound _ _ _ _ e2)
      simp only [List.length_append, List.length_cons, List.length_nil] at l1 l2 l3
      have q1 := lf_len s a
      have q4 := lf_len s a4
      refine ⟨Or.inl ⟨e1, e3, ?_, f, by omega, hX⟩, fun _ => ⟨by omega, e3⟩⟩
      simp only [List.length_append, List.length_cons, List.length_nil]
      omega
    · rw [e2] at hX
      exact ⟨Or.inr ⟨e1, hX.symm, e3⟩, fun h => by rw [e1] at h; cases h⟩
  · cases h
/-- The form is read to its end. -/
theorem m_end (hhd : (lf s a).head? = some 125) {f : Nat} (hf : (lf s a).length < f) (hX : klp (krd d) f ns ks (lf s a) = X) : X = some (ns, ks, lf s (a + 1)) ∧ a + 1 ≤ s.size := by
  obtain ⟨f, rfl⟩ : ∃ g, f = g + 1 := ⟨f - 1, by omega⟩
  rw [klp, if_pos hhd] at hX
  refine ⟨by rw [← hX, lf_next], ?_⟩
  have := lf_len s a
  cases hl : lf s a with
  | nil => rw [hl] at hhd; simp at hhd
  | cons c r => rw [hl] at this; simp at this; omega
end

theorem Kw.touch {w W W' : World} {R : Nat} {s : ByteArray} {a : Nat} {bad : Bool} {row : Option Nat} (h : Kw w R s a bad W) (hg : W.grownBy W' row) (hr : ∀ b, row = some b → w.heap.size < b) (hR : R < w.heap.size) : Kw w R s a bad W' :=
  ⟨World.rowIs.of_block h.rdr (hg.block R h.rdr.lt (fun e => by have := hr R e.symm; omega)), h.box.of_block (hg.block _ h.box.lt (fun e => by have := hr _ e.symm; omega)),
    ⟨hg.os.trans h.but.os, hg.tape.trans h.but.tape, hg.output.trans h.but.output, Nat.le_trans h.but.size hg.size, fun i hi hne => (hg.block i (Nat.lt_of_lt_of_le hi h.but.size) (fun e => by have := hr i e.symm; omega)).trans (h.but.block i hi hne)⟩, h.ne⟩

/-- How much of a reader is left, off its block. -/
def kleft (w : World) (R : Nat) (s : ByteArray) : Nat := match w.cell? ⟨R, 2, none⟩ with
  | some (.bool true) => 0
  | _ => 1 + (s.size - atOf w R)
theorem Kw.left {w W : World} {R : Nat} {s : ByteArray} {a : Nat} {bad : Bool} (h : Kw w R s a bad W) : kleft W R s = if bad = true then 0 else 1 + (s.size - a) := by
  unfold kleft
  rw [h.rdr.cells.2.2.1, h.rdr.atOf]
  cases bad <;> simp

theorem form_fin {w W : World} {R B : Nat} {s : ByteArray} {a a5 at' d n : Nat} {bad : Bool} {aN aK : Option Addr} {capN capK : Nat} {ns : List ByteArray} {ks : List Kd} {xs : List Value} {G : List Nat} (hD : DInv (B + 1) B W 5 (.slice aN n capN) (.slice aK n capK) ns ks xs G) (hK : Kw w R s a bad W) (hR : R < w.heap.size) (hB : w.heap.size < B) (hn : ∀ x, x ∈ ns → x.size ≤ 1048576) (ho : KOut (d + 1) s (lf s at') (.mk 5 ns ks) a5 bad) :
    KREnd (d + 1) w R s at' (.returned (.agg #[.int .i64 5, .slice aN n capN, .slice aK n capK])) (set3 (W.setCell ⟨R, 1, none⟩ (.int .i64 a5)) w.heap.size ⟨.int .i64 5, .slice aN n capN, .slice aK n capK⟩) := by
  obtain ⟨F, h1, h2, h3⟩ := hD.done ⟨by decide, by decide⟩ (fun x hx => by have := hn x hx; omega)
  have hk2 : Kw w R s a5 bad (W.setCell ⟨R, 1, none⟩ (.int .i64 a5)) := hK.next (But.set _ _ _) (hK.rdr.set1 a5)
  have hsz : (W.setCell ⟨R, 1, none⟩ (.int .i64 a5)).heap.size = W.heap.size := by simp [World.setCell]
  have h4 : OwnD (W.setCell ⟨R, 1, none⟩ (.int .i64 a5)) (.mk 5 ns ks) ⟨.int .i64 5, .slice aN n capN, .slice aK n capK⟩ F := OwnD.but h1 (But.set _ _ _) (fun b hb => by have := h3 b hb; omega)
  obtain ⟨q1, q2, q3, q4⟩ := hk2.fin h4 (fun b hb => by rw [hsz]; have := h3 b hb; omega)
  exact ⟨.mk 5 ns ks, ⟨_, _, _⟩, F, a5, bad, rfl, q1, h2, q2, q3, ho, q4⟩
theorem drewN_grown (W : World) (m : Nat) : W.grownBy (W.drewN m) none := ⟨rfl, rfl, rfl, Nat.le_refl _, fun _ _ _ => rfl⟩

theorem infoKindR : (Tryd.prog.info? 26).map (fun i => (i.zero, i.size, i.bytes)) = some (some (.agg #[.int .i64 0, .slice none 0 0, .slice none 0 0]), 3, 56) := by kernel_rfl
theorem infoStrR : (Tryd.prog.info? 9).map (fun i => (i.zero, i.size, i.bytes)) = some (some (.string ByteArray.empty), 1, 16) := by kernel_rfl

set_option maxRecDepth 100000 in
set_option maxHeartbeats 6400000 in
theorem l2Kind_form (d : Nat) (IH : KRSaid d) (w : World) (R : Nat) (s : ByteArray) (at' : Nat) (hs : s.size ≤ 1048576) (h : Rdr w R s at' false) (ha : at' ≤ s.size) (hd : d + 1 ≤ 6)
    (n1 : bv s at' ≠ 110) (n2 : bv s at' ≠ 116) (n3 : bv s at' ≠ 102) (n4 : bv s at' ≠ 63) (n5 : bv s at' ≠ 91) :
    KREnds (d + 1) w R s at' (6 - d) := by
  have hdd : decide ((6 : Int) < 6 - (d : Int)) = false := by simp; omega
  have hd1 : (6 : Int) - (d : Int) + 1 = 7 - d := by omega
  have HWR := hide (show IntKind.i64.wrap (7 - (d : Int)) = 7 - d by rw [IntKind.wrap_i64]; omega)
  have hlt := h.lt
  have hkw := Kw.start h
  obtain ⟨c0, c1, c2, f1, f2⟩ := h.cells
  have hlk := look_any _ R s at' false hkw.rdr
  have hX := krd_FX d (inp := lf s at') (fun e => n1 ((bv_head s at' 110 (by decide)).1 e)) (fun e => n2 ((bv_head s at' 116 (by decide)).1 e)) (fun e => n3 ((bv_head s at' 102 (by decide)).1 e)) (fun e => n5 ((bv_head s at' 91 (by decide)).1 e)) (fun e => n4 ((bv_head s at' 63 (by decide)).1 e))
  have heat : ∀ W, Rdr W R s at' false → Calls Tryd.prog 57 #[.pointer (some ⟨R, 0, none⟩), .string (w1 123)] W fun e w' => ∃ a1 bad1, e = .returned (.tuple #[]) ∧ Rdr w' R s a1 bad1 ∧ FRel (FX d (lf s at')) d s a1 bad1 [] [] ∧ But R W w' := fun W hW => by
    by_cases h123 : (lf s at').head? = some 123
    · have hl := lf_len s at'
      have hroom : at' + 1 ≤ s.size := by
        cases hl2 : lf s at' with
        | nil => rw [hl2] at h123; simp at h123
        | cons c r => rw [hl2] at hl; simp at hl; omega
      refine (eat_yes W R s (w1 123) at' false hs hW (by omega) (by decide) (by decide) (by rw [pre_one, h123]; simp)).mono fun e w' ⟨h1, h2, h3⟩ => ⟨at' + 1, false, h1, h2, Or.inl ⟨rfl, hroom, by simp, (lf s at').length + 1, ?_, ?_⟩, h3⟩
      · rw [lf_next]; simp; omega
      · rw [FX, if_pos h123, lf_next]
    · exact (eat_no W R s (w1 123) at' false hs hW (by omega) (by decide) (by decide) (by rw [pre_one]; simp [h123])).mono fun e w' ⟨h1, h2, h3⟩ => ⟨at', true, h1, h2, Or.inr ⟨rfl, by rw [FX, if_neg h123], by omega⟩, h3⟩
  generalize FX d (lf s at') = X at *
  have HX := hide hX
  generalize hv : bv s at' = v at *
  have HLK := hide hlk; have HKW := hide hkw; have HEA := hide heat
  have HI := hide IH
  clear hlk hkw h heat hX IH hv
  unfold KREnds
  go_enter Tryd.func35, Tryd.ntmps35
  go_wp2_with (first
    | (go_at_call 56; refine (unhide HLK).mono ?_; rintro e w1 ⟨rfl, m, rfl⟩)
    | (go_at_call 57; refine (unhide HEA _ ((unhide HKW).drewN _).rdr).mono ?_; rintro e w2 ⟨a1, bad1, rfl, hr2, hf2, hb2⟩; have HK2 := hide (((unhide HKW).drewN _).next hb2 hr2); have HF2 := hide hf2; clear hr2 hb2 hf2 HEA))
  have hbx := (unhide HK2).box.lt
  obtain ⟨W2, hW2⟩ : ∃ W2, w2.alloc (.cells #[.int .i64 5, .slice none 0 0, .slice none 0 0] 26) = W2 := ⟨_, rfl⟩
  have hs2 : W2.heap.size = w2.heap.size + 1 := by rw [← hW2]; simp
  have hk2 : Kw w R s a1 bad1 W2 := by rw [← hW2]; exact (unhide HK2).touch (World.grownBy_alloc w2 _ none) (fun b e => by cases e) hlt
  have hinv : DInv (w2.heap.size + 1) w2.heap.size W2 5 (.slice none 0 0) (.slice none 0 0) [] [] [] [] :=
    ⟨by omega, by rw [← hW2]; exact row3_alloc w2 _ _ _ _, World.ownsRow_nil _ _ _ _, GotD.start _ _, fun b hb => by simp [Value.ownBlock] at hb, by omega⟩
  rw [hW2]
  have HK := hide hk2; have HINV := hide hinv
  obtain ⟨i0, hi, hz0, hz1, hz2⟩ := info_parts infoKindR
  obtain ⟨j0, hj, hy0, hy1, hy2⟩ := info_parts infoStrR
  have HII := hide hi; have HZ0 := hide hz0; have HZ1 := hide hz1; have HZ2 := hide hz2
  have HJJ := hide hj; have HY0 := hide hy0; have HY1 := hide hy1; have HY2 := hide hy2
  clear hW2 hk2 hinv HK2 hi hz0 hz1 hz2 hj hy0 hy1 hy2 hs2
  generalize w2.heap.size = B at *
  go_loopw [] (fun wr => ∃ (ns : List ByteArray) (ks : List Kd) (n : Nat) (aN : Option Addr) (capN : Nat) (aK : Option Addr) (capK : Nat) (xs : List Value) (G : List Nat) (a : Nat) (bad : Bool), Hid (ns.length = n ∧ ks.length = n ∧ ∀ x, x ∈ ns → x.size ≤ 1048576) ∧ Hid (FRel X d s a bad ns ks) ∧ Hid (DInv (B + 1) B wr 5 (.slice aN n capN) (.slice aK n capK) ns ks xs G) ∧ Hid (Kw w R s a bad wr)) (fun wr => kleft wr R s)
  case atStart => exact ⟨[], [], 0, none, 0, none, 0, [], [], a1, bad1, hide ⟨rfl, rfl, fun x hx => by simp at hx⟩, HF2, HINV, HK⟩
  case round =>
    obtain ⟨ns, ks, n, aN, capN, aK, capK, xs, G, a, bad, HN, HF, HD, HW⟩ := hrel
    obtain ⟨y0, y1, y2, g1, g2⟩ := HW.out.rdr.cells
    have hleft := HW.out.left
    have HLEFT := hide hleft; clear hleft
    obtain ⟨r0, r1, r2, z0, z1, z2⟩ := HW.out.cells
    have b0 := HD.out.cells.cell (i := 0) (by omega); have b1 := HD.out.cells.cell (i := 1) (by omega); have b2 := HD.out.cells.cell (i := 2) (by omega)
    simp only [row3] at b0 b1 b2
    have HLK2 := hide (fun W (hW : W.heap = wr.heap) => look_any W R s a bad (HW.out.rdr.heap hW))
    cases hbad : bad
    · subst hbad
      have hf : a ≤ s.size ∧ ks.length ≤ a ∧ ∃ f, (lf s a).length < f ∧ klp (krd d) f ns ks (lf s a) = X := by
        rcases HF.out with ⟨-, h⟩ | ⟨h, -⟩
        · exact h
        · cases h
      obtain ⟨hale, hka, f, hfl, hXf⟩ := hf
      by_cases h125 : bv s a = 125
      · have hhd : (lf s a).head? = some 125 := (bv_head s a 125 (by decide)).2 h125
        obtain ⟨hxe, hroom⟩ := m_end hhd hfl hXf
        have hout : KOut (d + 1) s (lf s at') (.mk 5 ns ks) (a + 1) false := Or.inl ⟨rfl, by rw [unhide HX, hxe], hroom⟩
        have HOUT := hide hout
        rw [h125] at HLK2
        clear hxe hout hXf hfl
        go_wp2_with (go_at_call 56; refine (unhide HLK2 _ (by rfl)).mono ?_; rintro e w' ⟨rfl, m, rfl⟩)
        refine bodyPost_ret (v := .agg #[.int .i64 5, .slice aN n capN, .slice aK n capK]) (by simp [results, Tryd.results35, go_sem, r0, r1, r2]) rfl ?_
        exact form_fin (HD.out.kept (drewN_grown wr m) (fun b e => by cases e)) (HW.out.drewN m) hlt hbx HN.out.2.2 (unhide HOUT)
      · have hne : (lf s a).head? ≠ some 125 := fun e => h125 ((bv_head s a 125 (by decide)).1 e)
        have hn1 := HN.out.1
        have hn2 := HN.out.2.1
        have hnb : n ≤ 1048576 := by omega
        have heat1 : 0 < n → ∀ W, Rdr W R s a false → Calls Tryd.prog 57 #[.pointer (some ⟨R, 0, none⟩), .string (w1 44)] W fun e w' => ∃ a1 bad1, e = .returned (.tuple #[]) ∧ Rdr w' R s a1 bad1 ∧ M1 X s a ks.length a1 bad1 ∧ But R W w' := fun h0 W hW => by
          rcases m1_eat hale hne hfl hXf (by omega) with ⟨hp, ho⟩ | ⟨hp, ho⟩
          · exact (eat_yes W R s (w1 44) a false hs hW (by omega) (by decide) (by decide) hp).mono fun e w' ⟨h1, h2, h3⟩ => ⟨_, _, h1, h2, ho, h3⟩
          · exact (eat_no W R s (w1 44) a false hs hW (by omega) (by decide) (by decide) hp).mono fun e w' ⟨h1, h2, h3⟩ => ⟨_, _, h1, h2, ho, h3⟩
        have heat3 : ∀ W a1 bad1, Rdr W R s (a1 + rn nameByte s a1) bad1 → M1 X s a ks.length a1 bad1 → Calls Tryd.prog 57 #[.pointer (some ⟨R, 0, none⟩), .string (w1 58)] W fun e w' => ∃ a3 bad3, e = .returned (.tuple #[]) ∧ Rdr w' R s a3 bad3 ∧ M3 X s a ks.length a1 a3 bad3 ∧ But R W w' := fun W a1 bad1 hW h1 => by
          have hle := rn_le nameByte s a1 h1.1
          rcases m3_eat hne hfl hXf h1 with ⟨hp, ho⟩ | ⟨hp, ho⟩
          · exact (eat_yes W R s (w1 58) _ bad1 hs hW (by omega) (by decide) (by decide) hp).mono fun e w' ⟨h1, h2, h3⟩ => ⟨_, _, h1, h2, ho, h3⟩
          · exact (eat_no W R s (w1 58) _ bad1 hs hW (by omega) (by decide) (by decide) hp).mono fun e w' ⟨h1, h2, h3⟩ => ⟨_, _, h1, h2, ho, h3⟩
        have hsub : ∀ W a1 a3 bad3, Rdr W R s a3 bad3 → M3 X s a ks.length a1 a3 bad3 → Calls Tryd.prog 35 #[.pointer (some ⟨R, 0, none⟩), .int .i64 (7 - d)] W fun e w' => ∃ (k : Kd) (x0 : Int) (ap : Option Addr) (np cp : Nat) (aq : Option Addr) (nq cq : Nat) (F : List Nat) (a4 : Nat) (bad4 : Bool), e = .returned (.agg #[.int .i64 x0, .slice ap np cp, .slice aq nq cq]) ∧ Hid (OwnD w' k ⟨.int .i64 x0, .slice ap np cp, .slice aq nq cq⟩ F) ∧ F.Nodup ∧ Hid (∀ b, b ∈ F → W.heap.size ≤ b ∧ b < w'.heap.size) ∧ Hid (Rdr w' R s a4 bad4) ∧ Hid (FRel X d s a4 bad4 (ns ++ [⟨((lf s a1).takeWhile nameByte).toArray⟩]) (ks ++ [k]) ∧ (bad4 = false → a < a4 ∧ a4 ≤ s.size)) ∧ Hid (But R W w') ∧ W.heap.size ≤ w'.heap.size := fun W a1 a3 bad3 hW h3 => by
          cases bad3
          · refine (unhide HI W R s a3 hs hW h3.1 (by omega)).mono ?_
            rintro e w' ⟨k, ⟨x0, x1, x2⟩, F, a4, bad4, rfl, ho, hnd, hF, hr, hout, hb⟩
            obtain ⟨p0, -, F1, F2, -, ⟨ap, cp, p1, -⟩, aq, cq, p2, -⟩ := ho.open
            simp only at p0 p1 p2
            subst p0 p1 p2
            exact ⟨k, _, _, _, _, _, _, _, F, a4, bad4, rfl, ho, hnd, hF, hr, m4_sub hale hka hne hfl hXf h3 hout, hb, hb.size⟩
          · refine (l2Kind_bad W R s a3 _ hW).mono ?_
            rintro e w' ⟨rfl, hr, hb⟩
            exact ⟨.mk 0 [] [], _, _, _, _, _, _, _, [], a3, true, rfl, OwnD.leaf _ _ ⟨by decide, by decide⟩, List.nodup_nil, fun b hb => by simp at hb, hr, ⟨m4_bad h3 _ _, fun h => by cases h⟩, hb, hb.size⟩
        have hm0 : n = 0 → M1 X s a ks.length a false := fun h => m1_zero hale (by omega)
        have HE1 := hide heat1; have HE3 := hide heat3; have HSUB := hide hsub; have HM0 := hide hm0
        generalize bv s a = v2 at *
        clear heat1 heat3 hsub hm0 hXf hfl hne HI
        rcases Nat.eq_zero_or_pos n with h0 | h0
        · have HM1 := hide (unhide HM0 h0)
          have hz : decide ((0 : Int) < (n : Int)) = false := by simp; omega
          clear HE1 HM0
          go_wp2_with (go_at_call 56; refine (unhide HLK2 _ (by rfl)).mono ?_; rintro e w' ⟨rfl, m, rfl⟩)
          have HK3 := hide (HW.out.drewN m)
          have HD3 := hide (HD.out.kept (drewN_grown wr m) (fun b e => by cases e))
          obtain ⟨W3, hW3⟩ : ∃ W3, wr.drewN m = W3 := ⟨_, rfl⟩
          rw [hW3] at HK3 HD3 ⊢
          obtain ⟨a1, ha1⟩ : ∃ a1, a1 = a := ⟨_, rfl⟩
          obtain ⟨bad1, hb1⟩ : ∃ b, b = false := ⟨_, rfl⟩
          rw [← ha1, ← hb1] at HK3
          have HM1' : Hid (M1 X s a ks.length a1 bad1) := by rw [ha1, hb1]; exact HM1
          clear HM1
          have HM1 := HM1'
          clear HM1' hW3 ha1 hb1 HD HW HLK2 y0 y1 y2 g1 g2 r0 r1 r2 z0 z1 z2 b0 b1 b2 hz h0
          have hnm : (⟨((lf s a1).takeWhile nameByte).toArray⟩ : ByteArray).size ≤ 1048576 := by
            have h1 := (List.takeWhile_prefix (p := nameByte) (l := lf s a1)).length_le
            have h2 := lf_len s a1
            show ((lf s a1).takeWhile nameByte).toArray.size ≤ _
            simp only [List.size_toArray]
            omega
          have hname := fun W (hW : Rdr W R s a1 bad1) => name_any W R s a1 bad1 hs hW (unhide HM1).1
          have hsub1 := fun W a3 bad3 => unhide HSUB W a1 a3 bad3
          have heat31 := fun W (hW : Rdr W R s (a1 + rn nameByte s a1) bad1) => unhide HE3 W a1 bad1 hW (unhide HM1)
          generalize (⟨((lf s a1).takeWhile nameByte).toArray⟩ : ByteArray) = nm at *
          have HNM := hide hnm; clear hnm
          have hcallN : Calls Tryd.prog 58 #[.pointer (some ⟨R, 0, none⟩)] W3.drew fun e w4 => e = .returned (.string nm) ∧ Hid (Kw w R s (a1 + rn nameByte s a1) bad1 w4) ∧ Hid (DInv (B + 1) B w4 5 (.slice aN n capN) (.slice aK n capK) ns ks xs G) ∧ w4.cell? ⟨B, 1, none⟩ = some (.slice aN n capN) ∧ (∀ ob, (w4.alloc ob).cell? ⟨B, 1, none⟩ = some (.slice aN n capN)) ∧ B < w4.heap.size := by
            refine (hname W3.drew (unhide HK3).drew.rdr).mono ?_
            rintro e w4 ⟨rfl, hr4, hb4⟩
            have hk4 := (unhide HK3).drew.next hb4 hr4
            have hd4 := ((unhide HD3).kept (drewN_grown W3 1) (fun b e => by cases e)).kept hb4 (fun b e => by cases e; exact ⟨by omega, by omega⟩)
            exact ⟨rfl, hk4, hd4, hd4.cells.cell (i := 1) (by omega), fun ob => (hd4.cells.alloc ob).cell (i := 1) (by omega), by have := hd4.size; omega⟩
          have HCN := hide hcallN; have HE31 := hide heat31; have HS1 := hide hsub1
          have e1 := (unhide HD3).cells.cell (i := 1) (by omega)
          simp only [row3] at e1
          have e1a : ∀ ob, (W3.alloc ob).cell? ⟨B, 1, none⟩ = some (.slice aN n capN) := fun ob => (((unhide HD3).cells.alloc ob).cell (i := 1) (by omega))
          clear hname hcallN hsub1 heat31 HE3 HSUB
          go_cut [] from 62 to 95 (fun wx => ∃ g1 cap1, Hid (DInv (B + 1) B wx 5 (.slice (some ⟨g1, 0, none⟩) (n + 1) cap1) (.slice aK n capK) (ns ++ [nm]) ks xs G) ∧ Hid (Kw w R s (a1 + rn nameByte s a1) bad1 wx))
          case first =>
            go_region_law (first
              | ((refine step_append_lies _ (by rfl) _ _ _ (by rfl) (B + 1) 9 j0 (.string ByteArray.empty) 1 16 Tryd.underlying23 (unhide HJJ) (unhide HY0) (unhide HY1) (unhide HY2) rfl (by decide) (.slice aN n capN) n (ns.map Value.string) (by rfl) (by have := (unhide HD4).names; rw [hn1] at this; exact this.alloc _) ⟨w4.heap.size, 0, none⟩ 1 1 [.string nm] (by rfl) (by rfl) (cell_one w4 _ _) (fun u hu => by simp at hu; subst hu; rfl) (by decide) (by unfold maxLen; omega) (by omega) (by simp; omega) (w4.heap.size + 1) (by simp) ?_; intro g1 cap1 w5 hown5 hgrow5 hat5 hlt5; have u1 := (DInv.atN (unhide HD4) hgrow5).cell (i := 1) (by omega); have uz := (DInv.atN (unhide HD4) hgrow5).frozen 1; simp only [row3] at u1))
              | (rw [if_pos (by first | rfl | simp [Region.wanted])]; go_simp; refine (unhide HCN).mono ?_; rintro e w4 ⟨rfl, HK4, HD4, t1, t1a, hBlt⟩))
            all_goals
              have hz4 : ∀ o, (w4.alloc o).heap.size = w4.heap.size + 1 := fun o => World.size_alloc _ _
              have hinv5 := DInv.name ((unhide HD4).kept (World.grownBy_alloc w4 (.cells #[.string nm] 9) none) (fun b e => by cases e)) (by rw [hn1]; exact hown5) hgrow5 (hat5.elim (fun e => Or.inl (by rw [e]; rfl)) (fun e => Or.inr ⟨g1, rfl, by rw [hz4, e]; exact Nat.le_refl _⟩))
              have hkw5 : Kw w R s (a1 + rn nameByte s a1) bad1 (w5.setCell ⟨B, 1, none⟩ (.slice (some ⟨g1, 0, none⟩) (n + 1) cap1)) :=
                (((unhide HK4).touch (World.grownBy_alloc w4 (.cells #[.string nm] 9) none) (fun b e => by cases e) hlt).touch hgrow5 (fun b e => by have := ((unhide HD4).names.lt b e).1; omega) hlt).touch (But.set (B := B) _ _ _) (fun b e => by cases e; exact hbx) hlt
              have HI5 := hide hinv5; have HKW5 := hide hkw5
              clear hinv5 hkw5 hown5 hgrow5 hat5 hlt5 uz u1
              go_wp2_with fail
              go_meet
              exact ⟨g1, cap1, unhide HI5, unhide HKW5⟩
          case rest =>
            obtain ⟨g1, cap1, HD5, HK5⟩ := hcut
            clear HD3 HK3 HCN e1 e1a
            go_wp2_with (go_at_call 57; refine (unhide HE31 _ (unhide HK5).rdr).mono ?_; rintro e w6 ⟨a3, bad3, rfl, hr6, hm6, hb6⟩; have HK6 := hide ((unhide HK5).next hb6 hr6); have HD6 := hide ((unhide HD5).kept hb6 (fun b e => by cases e; exact ⟨by omega, by omega⟩)); have HM6 := hide hm6; clear hr6 hm6 hb6)
            have hcallK : ∀ dp : Int, dp = 7 - d → Calls Tryd.prog 35 #[.pointer (some ⟨R, 0, none⟩), .int .i64 dp] w6.drew fun e w7 => ∃ (k : Kd) (x0 : Int) (ap : Option Addr) (np cp : Nat) (aq : Option Addr) (nq cq : Nat) (F : List Nat) (a4 : Nat) (bad4 : Bool), e = .returned (.agg #[.int .i64 x0, .slice ap np cp, .slice aq nq cq]) ∧ Hid (OwnD w7 k ⟨.int .i64 x0, .slice ap np cp, .slice aq nq cq⟩ F) ∧ F.Nodup ∧ Hid (∀ b, b ∈ F → w6.heap.size ≤ b ∧ b < w7.heap.size) ∧ Hid (Kw w R s a4 bad4 w7) ∧ Hid (FRel X d s a4 bad4 (ns ++ [nm]) (ks ++ [k]) ∧ (bad4 = false → a < a4 ∧ a4 ≤ s.size)) ∧ Hid (DInv (B + 1) B w7 5 (.slice (some ⟨g1, 0, none⟩) (n + 1) cap1) (.slice aK n capK) (ns ++ [nm]) ks xs G) ∧ w7.cell? ⟨B, 2, none⟩ = some (.slice aK n capK) ∧ (∀ ob, (w7.alloc ob).cell? ⟨B, 2, none⟩ = some (.slice aK n capK)) ∧ w6.heap.size ≤ w7.heap.size := by
              rintro dp rfl
              refine (unhide HS1 w6.drew a3 bad3 (unhide HK6).drew.rdr (unhide HM6)).mono ?_
              rintro e w7 ⟨k, x0, ap, np, cp, aq, nq, cq, F, a4, bad4, rfl, ho, hnd, hF, hr, hfr, hb, hsz⟩
              have hd7 := ((unhide HD6).kept (drewN_grown w6 1) (fun b e => by cases e)).kept (unhide hb) (fun b e => by cases e; exact ⟨by omega, by omega⟩)
              exact ⟨k, x0, ap, np, cp, aq, nq, cq, F, a4, bad4, rfl, ho, hnd, hF, (unhide HK6).drew.next (unhide hb) (unhide hr), hfr, hd7, hd7.cells.cell (i := 2) (by omega), fun ob => (hd7.cells.alloc ob).cell (i := 2) (by omega), hsz⟩
            have HCK := hide hcallK
            have e2 := (unhide HD6).cells.cell (i := 2) (by omega)
            simp only [row3] at e2
            have e2a : ∀ ob, (w6.alloc ob).cell? ⟨B, 2, none⟩ = some (.slice aK n capK) := fun ob => (((unhide HD6).cells.alloc ob).cell (i := 2) (by omega))
            have hsz6 := (unhide HD6).size
            clear hcallK HS1 HE31 HD5 HK5 HM6
            go_region_law (first
              | ((refine step_append_lies _ (by rfl) _ _ _ (by rfl) (B + 1) 26 i0 _ 3 56 Tryd.underlying24 (unhide HII) (unhide HZ0) (unhide HZ1) (unhide HZ2) rfl (by decide) (.slice aK n capK) n xs (by rfl) (by have := (unhide HD7).got.row; rw [hn2] at this; exact this.alloc _) ⟨w7.heap.size, 0, none⟩ 1 1 (c3l ⟨.int .i64 x0, .slice ap np cp, .slice aq nq cq⟩) (by rfl) (by rfl) (cell_three w7 _ _) (unhide HOW).one (by decide) (by unfold maxLen; omega) (by omega) (by simp; omega) (w7.heap.size + 1) (by simp) ?_; intro g2 cap2 w8 hown8 hgrow8 hat8 hlt8; have u2 := (DInv.atK (unhide HD7) hgrow8).cell (i := 2) (by omega); have uz2 := (DInv.atK (unhide HD7) hgrow8).frozen 2; simp only [row3] at u2))
              | (rw [if_pos (by first | rfl | simp [Region.wanted])]; go_simp; refine (unhide HCK _ (by first | exact unhide HWR | omega)).mono ?_; rintro e w7 ⟨k, x0, ap, np, cp, aq, nq, cq, F, a4, bad4, rfl, HOW, hFn, HFL, HK7, HFR, HD7, t2c, t2d, hs7⟩))
            all_goals
              have hz7 : ∀ o, (w7.alloc o).heap.size = w7.heap.size + 1 := fun o => World.size_alloc _ _
              have hinv8 := DInv.kid (m := w6.heap.size) ((unhide HD7).kept (World.grownBy_alloc w7 (.cells #[.int .i64 x0, .slice ap np cp, .slice aq nq cq] 26) none) (fun b e => by cases e)) (OwnD.carry k _ F (fun b hb => Below.heap_alloc _ _ _ (unhide HFL b hb).2) (unhide HOW)) hFn (fun b hb => ⟨(unhide HFL b hb).1, by rw [hz7]; have := (unhide HFL b hb).2; omega⟩)
                (fun b hb => ((unhide HD6).got.lt b hb).2.1) (fun b hb => ((unhide HD6).got.row.lt b hb).2) (fun b hb => ((unhide HD6).names.lt b hb).2) (unhide HD6).size (by rw [hn2]; exact hown8) hgrow8 (hat8.elim (fun e => Or.inl (by rw [e]; rfl)) (fun e => Or.inr ⟨g2, rfl, by rw [hz7, e]; exact Nat.le_refl _⟩))
              have hkw8 : Kw w R s a4 bad4 (w8.setCell ⟨B, 2, none⟩ (.slice (some ⟨g2, 0, none⟩) (n + 1) cap2)) :=
                (((unhide HK7).touch (World.grownBy_alloc w7 (.cells #[.int .i64 x0, .slice ap np cp, .slice aq nq cq] 26) none) (fun b e => by cases e) hlt).touch hgrow8 (fun b e => by have := ((unhide HD7).got.row.lt b e).1; omega) hlt).touch (But.set (B := B) _ _ _) (fun b e => by cases e; exact hbx) hlt
              have HI8 := hide hinv8; have HKW8 := hide hkw8
              clear hinv8 hkw8 hown8 hgrow8 hat8 hlt8 u2 uz2
              go_wp2_with fail
              go_roundw
              case rel => exact ⟨ns ++ [nm], ks ++ [k], n + 1, some ⟨g1, 0, none⟩, cap1, some ⟨g2, 0, none⟩, cap2, _, _, a4, bad4, hide ⟨by simp [hn1], by simp [hn2], fun x hx => by rcases List.mem_append.1 hx with hx | hx; exact HN.out.2.2 x hx; simp at hx; rw [hx]; exact unhide HNM⟩, hide (unhide HFR).1, HI8, HKW8⟩
              case measure =>
                rw [(unhide HKW8).left, unhide HLEFT]
                cases bad4
                · have := (unhide HFR).2 rfl
                  simp; omega
                · simp; omega
        · have hz : decide ((0 : Int) < (n : Int)) = true := by simp; omega
          have HE1' := hide (unhide HE1 h0)
          clear HE1 HM0
          go_wp2_with (first
            | (go_at_call 56; refine (unhide HLK2 _ (by rfl)).mono ?_; rintro e w' ⟨rfl, m, rfl⟩)
            | (go_at_call 57; refine (unhide HE1' _ (HW.out.drewN _).rdr).mono ?_; rintro e W3 ⟨a1, bad1, rfl, hr3, hm3, hb3⟩; have HK3 := hide ((HW.out.drewN m).next hb3 hr3); have HD3 := hide ((HD.out.kept (drewN_grown wr m) (fun b e => by cases e)).kept hb3 (fun b e => by cases e; exact ⟨by omega, by omega⟩)); have HM1 := hide hm3; clear hr3 hm3 hb3))
          clear HD HW HLK2 y0 y1 y2 g1 g2 r0 r1 r2 z0 z1 z2 b0 b1 b2 hz h0 HE1'
          have hnm : (⟨((lf s a1).takeWhile nameByte).toArray⟩ : ByteArray).size ≤ 1048576 := by
            have h1 := (List.takeWhile_prefix (p := nameByte) (l := lf s a1)).length_le
            have h2 := lf_len s a1
            show ((lf s a1).takeWhile nameByte).toArray.size ≤ _
            simp only [List.size_toArray]
            omega
          have hname := fun W (hW : Rdr W R s a1 bad1) => name_any W R s a1 bad1 hs hW (unhide HM1).1
          have hsub1 := fun W a3 bad3 => unhide HSUB W a1 a3 bad3
          have heat31 := fun W (hW : Rdr W R s (a1 + rn nameByte s a1) bad1) => unhide HE3 W a1 bad1 hW (unhide HM1)
          generalize (⟨((lf s a1).takeWhile nameByte).toArray⟩ : ByteArray) = nm at *
          have HNM := hide hnm; clear hnm
          have hcallN : Calls Tryd.prog 58 #[.pointer (some ⟨R, 0, none⟩)] W3.drew fun e w4 => e = .returned (.string nm) ∧ Hid (Kw w R s (a1 + rn nameByte s a1) bad1 w4) ∧ Hid (DInv (B + 1) B w4 5 (.slice aN n capN) (.slice aK n capK) ns ks xs G) ∧ w4.cell? ⟨B, 1, none⟩ = some (.slice aN n capN) ∧ (∀ ob, (w4.alloc ob).cell? ⟨B, 1, none⟩ = some (.slice aN n capN)) ∧ B < w4.heap.size := by
            refine (hname W3.drew (unhide HK3).drew.rdr).mono ?_
            rintro e w4 ⟨rfl, hr4, hb4⟩
            have hk4 := (unhide HK3).drew.next hb4 hr4
            have hd4 := ((unhide HD3).kept (drewN_grown W3 1) (fun b e => by cases e)).kept hb4 (fun b e => by cases e; exact ⟨by omega, by omega⟩)
            exact ⟨rfl, hk4, hd4, hd4.cells.cell (i := 1) (by omega), fun ob => (hd4.cells.alloc ob).cell (i := 1) (by omega), by have := hd4.size; omega⟩
          have HCN := hide hcallN; have HE31 := hide heat31; have HS1 := hide hsub1
          have e1 := (unhide HD3).cells.cell (i := 1) (by omega)
          simp only [row3] at e1
          have e1a : ∀ ob, (W3.alloc ob).cell? ⟨B, 1, none⟩ = some (.slice aN n capN) := fun ob => (((unhide HD3).cells.alloc ob).cell (i := 1) (by omega))
          clear hname hcallN hsub1 heat31 HE3 HSUB
          go_cut [] from 62 to 95 (fun wx => ∃ g1 cap1, Hid (DInv (B + 1) B wx 5 (.slice (some ⟨g1, 0, none⟩) (n + 1) cap1) (.slice aK n capK) (ns ++ [nm]) ks xs G) ∧ Hid (Kw w R s (a1 + rn nameByte s a1) bad1 wx))
          case first =>
            go_region_law (first
              | ((refine step_append_lies _ (by rfl) _ _ _ (by rfl) (B + 1) 9 j0 (.string ByteArray.empty) 1 16 Tryd.underlying23 (unhide HJJ) (unhide HY0) (unhide HY1) (unhide HY2) rfl (by decide) (.slice aN n capN) n (ns.map Value.string) (by rfl) (by have := (unhide HD4).names; rw [hn1] at this; exact this.alloc _) ⟨w4.heap.size, 0, none⟩ 1 1 [.string nm] (by rfl) (by rfl) (cell_one w4 _ _) (fun u hu => by simp at hu; subst hu; rfl) (by decide) (by unfold maxLen; omega) (by omega) (by simp; omega) (w4.heap.size + 1) (by simp) ?_; intro g1 cap1 w5 hown5 hgrow5 hat5 hlt5; have u1 := (DInv.atN (unhide HD4) hgrow5).cell (i := 1) (by omega); have uz := (DInv.atN (unhide HD4) hgrow5).frozen 1; simp only [row3] at u1))
              | (rw [if_pos (by first | rfl | simp [Region.wanted])]; go_simp; refine (unhide HCN).mono ?_; rintro e w4 ⟨rfl, HK4, HD4, t1, t1a, hBlt⟩))
            all_goals
              have hz4 : ∀ o, (w4.alloc o).heap.size = w4.heap.size + 1 := fun o => World.size_alloc _ _
              have hinv5 := DInv.name ((unhide HD4).kept (World.grownBy_alloc w4 (.cells #[.string nm] 9) none) (fun b e => by cases e)) (by rw [hn1]; exact hown5) hgrow5 (hat5.elim (fun e => Or.inl (by rw [e]; rfl)) (fun e => Or.inr ⟨g1, rfl, by rw [hz4, e]; exact Nat.le_refl _⟩))
              have hkw5 : Kw w R s (a1 + rn nameByte s a1) bad1 (w5.setCell ⟨B, 1, none⟩ (.slice (some ⟨g1, 0, none⟩) (n + 1) cap1)) :=
                (((unhide HK4).touch (World.grownBy_alloc w4 (.cells #[.string nm] 9) none) (fun b e => by cases e) hlt).touch hgrow5 (fun b e => by have := ((unhide HD4).names.lt b e).1; omega) hlt).touch (But.set (B := B) _ _ _) (fun b e => by cases e; exact hbx) hlt
              have HI5 := hide hinv5; have HKW5 := hide hkw5
              clear hinv5 hkw5 hown5 hgrow5 hat5 hlt5 uz u1
              go_wp2_with fail
              go_meet
              exact ⟨g1, cap1, unhide HI5, unhide HKW5⟩
          case rest =>
            obtain ⟨g1, cap1, HD5, HK5⟩ := hcut
            clear HD3 HK3 HCN e1 e1a
            go_wp2_with (go_at_call 57; refine (unhide HE31 _ (unhide HK5).rdr).mono ?_; rintro e w6 ⟨a3, bad3, rfl, hr6, hm6, hb6⟩; have HK6 := hide ((unhide HK5).next hb6 hr6); have HD6 := hide ((unhide HD5).kept hb6 (fun b e => by cases e; exact ⟨by omega, by omega⟩)); have HM6 := hide hm6; clear hr6 hm6 hb6)
            have hcallK : ∀ dp : Int, dp = 7 - d → Calls Tryd.prog 35 #[.pointer (some ⟨R, 0, none⟩), .int .i64 dp] w6.drew fun e w7 => ∃ (k : Kd) (x0 : Int) (ap : Option Addr) (np cp : Nat) (aq : Option Addr) (nq cq : Nat) (F : List Nat) (a4 : Nat) (bad4 : Bool), e = .returned (.agg #[.int .i64 x0, .slice ap np cp, .slice aq nq cq]) ∧ Hid (OwnD w7 k ⟨.int .i64 x0, .slice ap np cp, .slice aq nq cq⟩ F) ∧ F.Nodup ∧ Hid (∀ b, b ∈ F → w6.heap.size ≤ b ∧ b < w7.heap.size) ∧ Hid (Kw w R s a4 bad4 w7) ∧ Hid (FRel X d s a4 bad4 (ns ++ [nm]) (ks ++ [k]) ∧ (bad4 = false → a < a4 ∧ a4 ≤ s.size)) ∧ Hid (DInv (B + 1) B w7 5 (.slice (some ⟨g1, 0, none⟩) (n + 1) cap1) (.slice aK n capK) (ns ++ [nm]) ks xs G) ∧ w7.cell? ⟨B, 2, none⟩ = some (.slice aK n capK) ∧ (∀ ob, (w7.alloc ob).cell? ⟨B, 2, none⟩ = some (.slice aK n capK)) ∧ w6.heap.size ≤ w7.heap.size := by
              rintro dp rfl
              refine (unhide HS1 w6.drew a3 bad3 (unhide HK6).drew.rdr (unhide HM6)).mono ?_
              rintro e w7 ⟨k, x0, ap, np, cp, aq, nq, cq, F, a4, bad4, rfl, ho, hnd, hF, hr, hfr, hb, hsz⟩
              have hd7 := ((unhide HD6).kept (drewN_grown w6 1) (fun b e => by cases e)).kept (unhide hb) (fun b e => by cases e; exact ⟨by omega, by omega⟩)
              exact ⟨k, x0, ap, np, cp, aq, nq, cq, F, a4, bad4, rfl, ho, hnd, hF, (unhide HK6).drew.next (unhide hb) (unhide hr), hfr, hd7, hd7.cells.cell (i := 2) (by omega), fun ob => (hd7.cells.alloc ob).cell (i := 2) (by omega), hsz⟩
            have HCK := hide hcallK
            have e2 := (unhide HD6).cells.cell (i := 2) (by omega)
            simp only [row3] at e2
            have e2a : ∀ ob, (w6.alloc ob).cell? ⟨B, 2, none⟩ = some (.slice aK n capK) := fun ob => (((unhide HD6).cells.alloc ob).cell (i := 2) (by omega))
            have hsz6 := (unhide HD6).size
            clear hcallK HS1 HE31 HD5 HK5 HM6
            go_region_law (first
              | ((refine step_append_lies _ (by rfl) _ _ _ (by rfl) (B + 1) 26 i0 _ 3 56 Tryd.underlying24 (unhide HII) (unhide HZ0) (unhide HZ1) (unhide HZ2) rfl (by decide) (.slice aK n capK) n xs (by rfl) (by have := (unhide HD7).got.row; rw [hn2] at this; exact this.alloc _) ⟨w7.heap.size, 0, none⟩ 1 1 (c3l ⟨.int .i64 x0, .slice ap np cp, .slice aq nq cq⟩) (by rfl) (by rfl) (cell_three w7 _ _) (unhide HOW).one (by decide) (by unfold maxLen; omega) (by omega) (by simp; omega) (w7.heap.size + 1) (by simp) ?_; intro g2 cap2 w8 hown8 hgrow8 hat8 hlt8; have u2 := (DInv.atK (unhide HD7) hgrow8).cell (i := 2) (by omega); have uz2 := (DInv.atK (unhide HD7) hgrow8).frozen 2; simp only [row3] at u2))
              | (rw [if_pos (by first | rfl | simp [Region.wanted])]; go_simp; refine (unhide HCK _ (by first | exact unhide HWR | omega)).mono ?_; rintro e w7 ⟨k, x0, ap, np, cp, aq, nq, cq, F, a4, bad4, rfl, HOW, hFn, HFL, HK7, HFR, HD7, t2c, t2d, hs7⟩))
            all_goals
              have hz7 : ∀ o, (w7.alloc o).heap.size = w7.heap.size + 1 := fun o => World.size_alloc _ _
              have hinv8 := DInv.kid (m := w6.heap.size) ((unhide HD7).kept (World.grownBy_alloc w7 (.cells #[.int .i64 x0, .slice ap np cp, .slice aq nq cq] 26) none) (fun b e => by cases e)) (OwnD.carry k _ F (fun b hb => Below.heap_alloc _ _ _ (unhide HFL b hb).2) (unhide HOW)) hFn (fun b hb => ⟨(unhide HFL b hb).1, by rw [hz7]; have := (unhide HFL b hb).2; omega⟩)
                (fun b hb => ((unhide HD6).got.lt b hb).2.1) (fun b hb => ((unhide HD6).got.row.lt b hb).2) (fun b hb => ((unhide HD6).names.lt b hb).2) (unhide HD6).size (by rw [hn2]; exact hown8) hgrow8 (hat8.elim (fun e => Or.inl (by rw [e]; rfl)) (fun e => Or.inr ⟨g2, rfl, by rw [hz7, e]; exact Nat.le_refl _⟩))
              have hkw8 : Kw w R s a4 bad4 (w8.setCell ⟨B, 2, none⟩ (.slice (some ⟨g2, 0, none⟩) (n + 1) cap2)) :=
                (((unhide HK7).touch (World.grownBy_alloc w7 (.cells #[.int .i64 x0, .slice ap np cp, .slice aq nq cq] 26) none) (fun b e => by cases e) hlt).touch hgrow8 (fun b e => by have := ((unhide HD7).got.row.lt b e).1; omega) hlt).touch (But.set (B := B) _ _ _) (fun b e => by cases e; exact hbx) hlt
              have HI8 := hide hinv8; have HKW8 := hide hkw8
              clear hinv8 hkw8 hown8 hgrow8 hat8 hlt8 u2 uz2
              go_wp2_with fail
              go_roundw
              case rel => exact ⟨ns ++ [nm], ks ++ [k], n + 1, some ⟨g1, 0, none⟩, cap1, some ⟨g2, 0, none⟩, cap2, _, _, a4, bad4, hide ⟨by simp [hn1], by simp [hn2], fun x hx => by rcases List.mem_append.1 hx with hx | hx; exact HN.out.2.2 x hx; simp at hx; rw [hx]; exact unhide HNM⟩, hide (unhide HFR).1, HI8, HKW8⟩
              case measure =>
                rw [(unhide HKW8).left, unhide HLEFT]
                cases bad4
                · have := (unhide HFR).2 rfl
                  simp; omega
                · simp; omega
    · subst hbad
      have hx : X = none ∧ a ≤ s.size + d := by
        rcases HF.out with ⟨h, -⟩ | ⟨-, h⟩
        · cases h
        · exact h
      have hout : KOut (d + 1) s (lf s at') (.mk 5 ns ks) (a + 1) true := Or.inr ⟨rfl, by rw [unhide HX, hx.1], by have := hx.2; omega⟩
      have HOUT := hide hout
      have haa := hx.2
      clear hx hout
      go_wp2_with fail
      refine bodyPost_ret (v := .agg #[.int .i64 5, .slice aN n capN, .slice aK n capK]) (by simp [results, Tryd.results35, go_sem, r0, r1, r2]) rfl ?_
      exact form_fin HD.out HW.out hlt hbx HN.out.2.2 (unhide HOUT)

theorem l2Kind_step (d : Nat) (IH : KRSaid d) : KRSaid (d + 1) := by
  intro w R s at' hs h ha hd
  have e : (7 : Int) - ((d + 1 : Nat) : Int) = 6 - (d : Int) := by omega
  rw [e]
  by_cases h1 : bv s at' = 110
  · exact l2Kind_num d w R s at' hs h ha hd h1
  by_cases h2 : bv s at' = 116
  · exact l2Kind_text d w R s at' hs h ha hd h2
  by_cases h3 : bv s at' = 102
  · exact l2Kind_flag d w R s at' hs h ha hd h3
  by_cases h4 : bv s at' = 63
  · exact l2Kind_maybe d IH w R s at' hs h ha hd h4
  by_cases h5 : bv s at' = 91
  · exact l2Kind_list d IH w R s at' hs h ha hd h5
  exact l2Kind_form d IH w R s at' hs h ha hd h1 h2 h3 h4 h5
theorem l2Kind_all : ∀ d, KRSaid d
  | 0 => l2Kind_zero
  | d + 1 => l2Kind_step d (l2Kind_all d)
end Go.Proofs.YthkjhmcbmakkdaaDoor
