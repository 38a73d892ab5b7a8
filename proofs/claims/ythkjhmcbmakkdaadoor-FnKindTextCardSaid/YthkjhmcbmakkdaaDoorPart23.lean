/- The walk of the program's reader of schemas: what its worlds hold; forms. For texts of at most 2^20 bytes. -/
import Derived.Test.YthkjhmcbmakkdaaDoorPart20
import Derived.Test.YthkjhmcbmakkdaaDoorPart21
import Derived.Test.YthkjhmcbmakkdaaDoorPart22
namespace Go.Proofs.YthkjhmcbmakkdaaDoor
open Go Go.RowKit

/-- How a reading ends: with a schema in blocks of its own, or with a fault. -/
def KPEnd (o : Option (Kd × List UInt8)) (w : World) (R : Nat) (s : ByteArray) (e : Ending) (w' : World) : Prop :=
  (∃ (k : Kd) (c : C3) (F : List Nat) (a2 : Nat), o = some (k, lf s a2) ∧ a2 ≤ s.size ∧ e = .returned (.agg #[c.c0, c.c1, c.c2]) ∧ OwnD w' k c F ∧ F.Nodup ∧ (∀ b, b ∈ F → w.heap.size ≤ b ∧ b < w'.heap.size) ∧ PRdr w' R s a2 ∧ But R w w') ∨ (o = none ∧ e = fltE ∧ But R w w')
theorem KPEnd.no {o : Option (Kd × List UInt8)} {w : World} {R : Nat} {s : ByteArray} {w' : World} (h : o = none) (hb : But R w w') : KPEnd o w R s fltE w' := Or.inr ⟨h, rfl, hb⟩

def KPSaid (d : Nat) : Prop := ∀ (w : World) (R : Nat) (s : ByteArray) (a : Nat), s.size ≤ 1048576 → PRdr w R s a → a ≤ s.size → KTab w → 0 ≠ R → (lf s a).length < d →
  Calls Tryd.prog 54 #[.pointer (some ⟨R, 0, none⟩)] w fun e w' => KPEnd (krd d (lf s a)) w R s e w'

/-- What the world holds while a reading runs: the reader, the box of the answer, still empty, the table. -/
structure Pw (w : World) (R : Nat) (s : ByteArray) (a : Nat) (W : World) : Prop where
  rdr : PRdr W R s a
  box : W.rowIs w.heap.size 26 3 (row3 (.int .i64 0) (.slice none 0 0) (.slice none 0 0))
  but : But R w W
  ne : w.heap.size ≠ R
  tab : KTab W
  tabR : 0 ≠ R
theorem Pw.start {w : World} {R : Nat} {s : ByteArray} {a : Nat} (h : PRdr w R s a) (ht : KTab w) (hR : 0 ≠ R) : Pw w R s a (w.alloc (.cells #[.int .i64 0, .slice none 0 0, .slice none 0 0] 26)) :=
  ⟨h.alloc _, row3_alloc w _ _ _ _, But.alloc _ _ _, fun e => by have := h.lt; omega, ht.below ((Below.refl _ _).alloc (Nat.le_refl _) _), hR⟩
theorem Pw.next {w W W' : World} {R : Nat} {s : ByteArray} {a a' : Nat} (h : Pw w R s a W) (hb : But R W W') (hr : PRdr W' R s a') : Pw w R s a' W' :=
  ⟨hr, h.box.of_block (hb.at h.box.lt h.ne), h.but.trans hb, h.ne, h.tab.of_block (hb.at h.tab.lt h.tabR), h.tabR⟩
theorem Pw.drewN {w W : World} {R : Nat} {s : ByteArray} {a : Nat} (h : Pw w R s a W) (n : Nat) : Pw w R s a (W.drewN n) := h.next (but_drewN (But.refl _ _) n) (h.rdr.drewN n)
theorem Pw.drew {w W : World} {R : Nat} {s : ByteArray} {a : Nat} (h : Pw w R s a W) : Pw w R s a W.drew := h.drewN 1
theorem Pw.cells {w W : World} {R : Nat} {s : ByteArray} {a : Nat} (h : Pw w R s a W) :
    W.cell? ⟨w.heap.size, 0, none⟩ = some (.int .i64 0) ∧ W.cell? ⟨w.heap.size, 1, none⟩ = some (.slice none 0 0) ∧ W.cell? ⟨w.heap.size, 2, none⟩ = some (.slice none 0 0) ∧ W.frozen? ⟨w.heap.size, 0, none⟩ = false ∧ W.frozen? ⟨w.heap.size, 1, none⟩ = false ∧ W.frozen? ⟨w.heap.size, 2, none⟩ = false :=
  ⟨h.box.cell (i := 0) (by omega), h.box.cell (i := 1) (by omega), h.box.cell (i := 2) (by omega), h.box.frozen 0, h.box.frozen 1, h.box.frozen 2⟩
theorem Pw.touch {w W W' : World} {R : Nat} {s : ByteArray} {a : Nat} {row : Option Nat} (h : Pw w R s a W) (hg : W.grownBy W' row) (hr : ∀ b, row = some b → w.heap.size < b) (hR : R < w.heap.size) (hT : 0 < w.heap.size) : Pw w R s a W' :=
  ⟨World.rowIs.of_block h.rdr (hg.block R h.rdr.lt (fun e => by have := hr R e.symm; omega)), h.box.of_block (hg.block _ h.box.lt (fun e => by have := hr _ e.symm; omega)),
    ⟨hg.os.trans h.but.os, hg.tape.trans h.but.tape, hg.output.trans h.but.output, Nat.le_trans h.but.size hg.size, fun i hi hne => (hg.block i (Nat.lt_of_lt_of_le hi h.but.size) (fun e => by have := hr i e.symm; omega)).trans (h.but.block i hi hne)⟩, h.ne,
    h.tab.of_block (hg.block _ h.tab.lt (fun e => by have := hr _ e.symm; omega)), h.tabR⟩
theorem Pw.fin {w W : World} {R : Nat} {s : ByteArray} {a : Nat} (h : Pw w R s a W) (ha : a ≤ s.size) {k : Kd} {c : C3} {F : List Nat} (ho : OwnD W k c F) (hnd : F.Nodup) (hF : ∀ b, b ∈ F → w.heap.size + 1 ≤ b ∧ b < W.heap.size) {o : Option (Kd × List UInt8)} (hk : o = some (k, lf s a)) :
    KPEnd o w R s (.returned (.agg #[c.c0, c.c1, c.c2])) (set3 W w.heap.size c) := by
  refine Or.inl ⟨k, c, F, a, hk, ha, rfl, OwnD.carry k c F (fun b hb => set3_heap _ _ _ _ (by have := (hF b hb).1; omega)) ho, hnd, fun b hb => ?_, World.rowIs.of_block h.rdr (set3_heap _ _ _ _ h.ne.symm), ?_⟩
  · rw [set3_size]; have := hF b hb; omega
  · exact ⟨h.but.os, h.but.tape, h.but.output, by rw [set3_size]; exact h.but.size, fun i hi hne => (set3_heap _ _ _ _ (by omega)).trans (h.but.block i hi hne)⟩

/-- What a form comes to. -/
def FXo (d : Nat) (inp : List UInt8) : Option (Kd × List UInt8) := match FX d inp with
  | none => none
  | some (ns, ks, rest) => some (.mk 5 ns ks, rest)

set_option maxRecDepth 100000 in
set_option maxHeartbeats 6400000 in
theorem form_any (d : Nat) (IH : KPSaid d) (w : World) (R : Nat) (s : ByteArray) (at' : Nat) (hs : s.size ≤ 1048576) (h : PRdr w R s at') (ha : at' ≤ s.size) (hT : KTab w) (hTR : 0 ≠ R) (hd : (lf s at').length ≤ d) :
    Calls Tryd.prog 74 #[.pointer (some ⟨R, 0, none⟩)] w fun e w' => KPEnd (FXo d (lf s at')) w R s e w' := by
  have hlt := h.lt
  have hTlt := hT.lt
  have hpw := Pw.start h hT hTR
  have hpw2 := hpw.touch (World.grownBy_alloc _ (.cells #[.int .i64 5, .slice none 0 0, .slice none 0 0] 26) none) (fun b e => by cases e) hlt hTlt
  have HPW := hide hpw2
  clear hpw hpw2
  by_cases h123 : (lf s at').head? = some 123
  · have hroom : at' + 1 ≤ s.size := by
      have := lf_len s at'
      cases hl : lf s at' with
      | nil => rw [hl] at h123; simp at h123
      | cons c r => rw [hl] at this; simp at this; omega
    have hX : FX d (lf s at') = klp (krd d) ((lf s at').length + 1) [] [] (lf s (at' + 1)) := by rw [FX, if_pos h123, lf_next]
    have htk := take_yes _ R s (w1 123) at' hs (unhide HPW).rdr ha (by decide) (by decide) (by rw [pre_one, h123]; simp)
    have HTK := hide htk
    have hl1 : (lf s (at' + 1)).length < (lf s at').length + 1 := by rw [lf_len, lf_len]; omega
    have hl2 : (lf s (at' + 1)).length < d := by
      have := lf_len s at'
      have := lf_len s (at' + 1)
      omega
    have hY : FXo d (lf s at') = match FX d (lf s at') with
      | none => none
      | some (ns, ks, rest) => some (.mk 5 ns ks, rest) := rfl
    generalize FXo d (lf s at') = Y at *
    generalize FX d (lf s at') = X at *
    have HY := hide hY; clear hY
    have HX := hide hX
    have HI := hide IH
    clear htk h hT hX IH
    go_enter Tryd.func74, Tryd.ntmps74
    go_wp2_with (go_at_call 73; refine (unhide HTK).mono ?_; rintro e w2 ⟨rfl, hr2, hb2⟩; have HW2 := hide ((unhide HPW).next hb2 hr2); have hinv0 := (row3_alloc (w.alloc (.cells #[.int .i64 0, .slice none 0 0, .slice none 0 0] 26)) (.int .i64 5) (.slice none 0 0) (.slice none 0 0) 26); rw [World.size_alloc] at hinv0; have hinv1 := hinv0.of_block (hb2.at hinv0.lt (by omega)); have HBX := hide hinv1; have hs2 := hb2.size; simp only [World.size_alloc] at hs2; clear hr2 hb2 hinv0 hinv1 HTK HPW)
    have hbx : w.heap.size < w.heap.size + 1 := by omega
    have hinv : DInv (w.heap.size + 1 + 1) (w.heap.size + 1) w2 5 (.slice none 0 0) (.slice none 0 0) [] [] [] [] :=
      ⟨by omega, unhide HBX, World.ownsRow_nil _ _ _ _, GotD.start _ _, fun b hb => by simp [Value.ownBlock] at hb, by omega⟩
    have HINV := hide hinv
    have HF2 := hide (show FRel X d s (at' + 1) false [] [] from Or.inl ⟨rfl, hroom, by simp, _, hl1, (unhide HX).symm⟩)
    obtain ⟨i0, hi, hz0, hz1, hz2⟩ := info_parts infoKindR
    obtain ⟨j0, hj, hy0, hy1, hy2⟩ := info_parts infoStrR
    have HII := hide hi; have HZ0 := hide hz0; have HZ1 := hide hz1; have HZ2 := hide hz2
    have HJJ := hide hj; have HY0 := hide hy0; have HY1 := hide hy1; have HY2 := hide hy2
    clear hinv HBX hi hz0 hz1 hz2 hj hy0 hy1 hy2 hs2 HX hl1
    generalize hBB : w.heap.size + 1 = B at *
    clear hBB
    go_loopw [] (fun wr => ∃ (ns : List ByteArray) (ks : List Kd) (n : Nat) (aN : Option Addr) (capN : Nat) (aK : Option Addr) (capK : Nat) (xs : List Value) (G : List Nat) (a : Nat), Hid (ns.length = n ∧ ks.length = n ∧ (∀ x, x ∈ ns → x.size ≤ 1048576) ∧ (lf s a).length < d) ∧ Hid (FRel X d s a false ns ks) ∧ Hid (DInv (B + 1) B wr 5 (.slice aN n capN) (.slice aK n capK) ns ks xs G) ∧ Hid (Pw w R s a wr)) (fun wr => s.size - patOf wr R)
    case atStart => exact ⟨[], [], 0, none, 0, none, 0, [], [], at' + 1, hide ⟨rfl, rfl, fun x hx => by simp at hx, hl2⟩, HF2, HINV, HW2⟩
    case round =>
      obtain ⟨ns, ks, n, aN, capN, aK, capK, xs, G, a, HN, HF, HD, HW⟩ := hrel
      have hf : a ≤ s.size ∧ ks.length ≤ a ∧ ∃ f, (lf s a).length < f ∧ klp (krd d) f ns ks (lf s a) = X := by
        rcases HF.out with ⟨-, h⟩ | ⟨h, -⟩
        · exact h
        · cases h
      obtain ⟨hale, hka, f, hfl, hXf⟩ := hf
      have hat := HW.out.rdr.atOf
      have HAT := hide hat; clear hat
      have b2 := HD.out.cells.cell (i := 2) (by omega)
      simp only [row3] at b2
      have hn1 := HN.out.1
      have hn2 := HN.out.2.1
      have hnb : n ≤ 1048576 := by omega
      have hBlt := HD.out.size
      by_cases h125 : (lf s a).head? = some 125
      · obtain ⟨hxe, hroom2⟩ := m_end h125 hfl hXf
        have hmo : Calls Tryd.prog 85 #[.pointer (some ⟨R, 0, none⟩), .string (w1 125), .int .i64 n] wr.drew fun e w3 => e = .returned (.bool false) ∧ Hid (Pw w R s (a + 1) w3) ∧ Hid (DInv (B + 1) B w3 5 (.slice aN n capN) (.slice aK n capK) ns ks xs G) := by
          refine (more_end wr.drew R s a n hs HW.out.drew.rdr hale (by rw [pre_one, h125]; simp)).mono ?_
          rintro e w3 ⟨rfl, hr3, hb3⟩
          exact ⟨rfl, HW.out.drew.next hb3 hr3, (HD.out.kept (drewN_grown wr 1) (fun b e => by cases e)).kept hb3 (fun b e => by cases e; exact ⟨by omega, by omega⟩)⟩
        have HMO := hide hmo
        have HXE := hide hxe
        clear hmo hxe hXf hfl HI
        go_wp2_with fail
        go_region_law (rw [if_pos (by first | rfl | simp [Region.wanted])]; go_simp; refine (unhide HMO).mono ?_; rintro e w3 ⟨rfl, HW3, HD3⟩; have k0 := (unhide HD3).cells.cell (i := 0) (by omega); have k1 := (unhide HD3).cells.cell (i := 1) (by omega); have k2 := (unhide HD3).cells.cell (i := 2) (by omega); obtain ⟨r0, r1, r2, z0, z1, z2⟩ := (unhide HW3).cells; simp only [row3] at k0 k1 k2)
        go_wp2_with fail
        obtain ⟨F, h1, h2, h3⟩ := (unhide HD3).done ⟨by decide, by decide⟩ (fun x hx => by have := HN.out.2.2.1 x hx; omega)
        refine bodyPost_ret (v := .agg #[.int .i64 5, .slice aN n capN, .slice aK n capK]) (by simp [results, Tryd.results74, go_sem, r0, r1, r2]) rfl ?_
        exact (unhide HW3).fin hroom2 h1 h2 (fun b hb => by have := h3 b hb; omega) (by rw [unhide HY, unhide HXE])
      · have hmc : (∃ a1, (∀ W, PRdr W R s a → Calls Tryd.prog 85 #[.pointer (some ⟨R, 0, none⟩), .string (w1 125), .int .i64 n] W fun e w' => e = .returned (.bool true) ∧ PRdr w' R s a1 ∧ But R W w') ∧ M1 X s a ks.length a1 false) ∨ ((∀ W, PRdr W R s a → Calls Tryd.prog 85 #[.pointer (some ⟨R, 0, none⟩), .string (w1 125), .int .i64 n] W fun e w' => e = fltE ∧ ∃ m, w' = W.drewN m) ∧ X = none) := by
          have hp : pre (w1 125) s a = false := by rw [pre_one]; simp [h125]
          rcases Nat.eq_zero_or_pos n with h0 | h0
          · exact Or.inl ⟨a, fun W hW => by rw [h0]; exact more_first W R s a hW hale hp, m1_zero hale (by omega)⟩
          · rcases m1_eat hale h125 hfl hXf (by omega) with ⟨hp2, ho⟩ | ⟨hp2, ho⟩
            · exact Or.inl ⟨a + 1, fun W hW => more_comma W R s a n h0 hs hW hale hp hp2, ho⟩
            · refine Or.inr ⟨fun W hW => more_none W R s a n h0 hW hale hp hp2, ?_⟩
              rcases ho.2 with ⟨h, -⟩ | ⟨-, h⟩
              · cases h
              · exact h
        rcases hmc with ⟨a1, hmo, hm1⟩ | ⟨hmo, hxn⟩
        · have hmo2 : Calls Tryd.prog 85 #[.pointer (some ⟨R, 0, none⟩), .string (w1 125), .int .i64 n] wr.drew fun e w3 => e = .returned (.bool true) ∧ Hid (Pw w R s a1 w3) ∧ Hid (DInv (B + 1) B w3 5 (.slice aN n capN) (.slice aK n capK) ns ks xs G) := by
            refine (hmo wr.drew HW.out.drew.rdr).mono ?_
            rintro e w3 ⟨rfl, hr3, hb3⟩
            exact ⟨rfl, HW.out.drew.next hb3 hr3, (HD.out.kept (drewN_grown wr 1) (fun b e => by cases e)).kept hb3 (fun b e => by cases e; exact ⟨by omega, by omega⟩)⟩
          have HMO := hide hmo2
          have hnm : (⟨((lf s a1).takeWhile nameByte).toArray⟩ : ByteArray).size ≤ 1048576 := by
            have h1 := (List.takeWhile_prefix (p := nameByte) (l := lf s a1)).length_le
            have h2 := lf_len s a1
            show ((lf s a1).takeWhile nameByte).toArray.size ≤ _
            simp only [List.size_toArray]
            omega
          have hle2 := rn_le nameByte s a1 hm1.1
          have hrun := fun W (hW : PRdr W R s a1) => run_any W R s a1 hs hW hm1.1
          -- what comes behind the name: a colon and a schema, or a fault
          have hcolon := m3_eat h125 hfl hXf hm1
          have hm4 := fun a3 a4 bad4 k (h3 : M3 X s a ks.length a1 a3 false) (h4 : KOut d s (lf s a3) k a4 bad4) => m4_sub hale hka h125 hfl hXf h3 h4
          have hlen3 : ∀ a3, M3 X s a ks.length a1 a3 false → (lf s a3).length < (lf s a).length := fun a3 h3 => by
            rcases h3.2 with ⟨-, e1, e2⟩ | ⟨h, -⟩
            · have l1 := congrArg List.length (kcma_some e1)
              have l2 := congrArg List.length (knam_some e2)
              simp only [List.length_append, List.length_cons, List.length_nil] at l1 l2
              omega
            · cases h
          have hld := HN.out.2.2.2
          generalize (⟨((lf s a1).takeWhile nameByte).toArray⟩ : ByteArray) = nm at *
          have HNM := hide hnm; have HRUN := hide hrun; have HCO := hide hcolon; have HM4 := hide hm4; have HL3 := hide hlen3; have HLD := hide hld
          clear hmo hmo2 hXf hfl hnm hrun hcolon hm4 hlen3 hm1 h125 hld
          go_wp2_with fail
          go_region_law (rw [if_pos (by first | rfl | simp [Region.wanted])]; go_simp; refine (unhide HMO).mono ?_; rintro e W3 ⟨rfl, HK3, HD3⟩)
          have hcallN : Calls Tryd.prog 86 #[.pointer (some ⟨R, 0, none⟩), .func (.func 83) #[] #[]] W3.drew fun e w4 => e = .returned (.string nm) ∧ Hid (Pw w R s (a1 + rn nameByte s a1) w4) ∧ Hid (DInv (B + 1) B w4 5 (.slice aN n capN) (.slice aK n capK) ns ks xs G) ∧ w4.cell? ⟨B, 1, none⟩ = some (.slice aN n capN) ∧ B < w4.heap.size := by
            refine (unhide HRUN W3.drew (unhide HK3).drew.rdr).mono ?_
            rintro e w4 ⟨rfl, hr4, hb4⟩
            have hk4 := (unhide HK3).drew.next hb4 hr4
            have hd4 := ((unhide HD3).kept (drewN_grown W3 1) (fun b e => by cases e)).kept hb4 (fun b e => by cases e; exact ⟨by omega, by omega⟩)
            exact ⟨rfl, hk4, hd4, hd4.cells.cell (i := 1) (by omega), by have := hd4.size; omega⟩
          have hcallC : ∀ w4, Pw w R s (a1 + rn nameByte s a1) w4 → DInv (B + 1) B w4 5 (.slice aN n capN) (.slice aK n capK) ns ks xs G → Calls Tryd.prog 76 #[.string nm] w4 fun e w5 => e = .returned (.string nm) ∧ Hid (Pw w R s (a1 + rn nameByte s a1) w5) ∧ Hid (DInv (B + 1) B w5 5 (.slice aN n capN) (.slice aK n capK) ns ks xs G) ∧ w5.cell? ⟨B, 1, none⟩ = some (.slice aN n capN) ∧ (∀ ob, (w5.alloc ob).cell? ⟨B, 1, none⟩ = some (.slice aN n capN)) ∧ B < w5.heap.size := fun w4 hk4 hd4 => by
            refine (clone_any nm w4 (by have := unhide HNM; omega)).mono ?_
            rintro e w5 ⟨rfl, hb5⟩
            have hg5 : w4.grownBy w5 none := ⟨hb5.os, hb5.tape, hb5.output, hb5.size, fun i hi _ => hb5.block i hi⟩
            have hd5 := hd4.kept hg5 (fun b e => by cases e)
            exact ⟨rfl, hk4.touch hg5 (fun b e => by cases e) hlt hTlt, hd5, hd5.cells.cell (i := 1) (by omega), fun ob => (hd5.cells.alloc ob).cell (i := 1) (by omega), by have := hd5.size; omega⟩
          have HCN := hide hcallN; have HCC := hide hcallC
          have e1 := (unhide HD3).cells.cell (i := 1) (by omega)
          simp only [row3] at e1
          clear hcallN hcallC HD HW HMO b2
          go_wp2_with fail
          go_cut [] from 9 to 36 (fun wx => ∃ g1 cap1, Hid (DInv (B + 1) B wx 5 (.slice (some ⟨g1, 0, none⟩) (n + 1) cap1) (.slice aK n capK) (ns ++ [nm]) ks xs G) ∧ Hid (Pw w R s (a1 + rn nameByte s a1) wx))
          case first =>
            go_region_law (first
              | ((refine step_append_lies _ (by rfl) _ _ _ (by rfl) (B + 1) 9 j0 (.string ByteArray.empty) 1 16 Tryd.underlying23 (unhide HJJ) (unhide HY0) (unhide HY1) (unhide HY2) rfl (by decide) (.slice aN n capN) n (ns.map Value.string) (by rfl) (by have := (unhide HD5).names; rw [hn1] at this; exact this.alloc _) ⟨w5.heap.size, 0, none⟩ 1 1 [.string nm] (by rfl) (by rfl) (cell_one w5 _ _) (fun u hu => by simp at hu; subst hu; rfl) (by decide) (by unfold maxLen; omega) (by omega) (by simp; omega) (w5.heap.size + 1) (by simp) ?_; intro g1 cap1 w6 hown6 hgrow6 hat6 hlt6; have u1 := (DInv.atN (unhide HD5) hgrow6).cell (i := 1) (by omega); have uz := (DInv.atN (unhide HD5) hgrow6).frozen 1; simp only [row3] at u1))
              | (rw [if_pos (by first | rfl | simp [Region.wanted])]; go_simp; refine (unhide HCN).mono ?_; rintro e w4 ⟨rfl, HK4, HD4, t1, hBlt4⟩)
              | (rw [if_pos (by first | rfl | simp [Region.wanted])]; go_simp; refine (unhide HCC _ (unhide HK4) (unhide HD4)).mono ?_; rintro e w5 ⟨rfl, HK5, HD5, t1b, t1c, hBlt5⟩))
            all_goals
              have hz5 : ∀ o, (w5.alloc o).heap.size = w5.heap.size + 1 := fun o => World.size_alloc _ _
              have hinv6 := DInv.name ((unhide HD5).kept (World.grownBy_alloc w5 (.cells #[.string nm] 9) none) (fun b e => by cases e)) (by rw [hn1]; exact hown6) hgrow6 (hat6.elim (fun e => Or.inl (by rw [e]; rfl)) (fun e => Or.inr ⟨g1, rfl, by rw [hz5, e]; exact Nat.le_refl _⟩))
              have hkw6 : Pw w R s (a1 + rn nameByte s a1) (w6.setCell ⟨B, 1, none⟩ (.slice (some ⟨g1, 0, none⟩) (n + 1) cap1)) :=
                (((unhide HK5).touch (World.grownBy_alloc w5 (.cells #[.string nm] 9) none) (fun b e => by cases e) hlt hTlt).touch hgrow6 (fun b e => by have := ((unhide HD5).names.lt b e).1; omega) hlt hTlt).touch (But.set (B := B) _ _ _) (fun b e => by cases e; exact hbx) hlt hTlt
              have HI6 := hide hinv6; have HKW6 := hide hkw6
              clear hinv6 hkw6 hown6 hgrow6 hat6 hlt6 uz u1
              go_wp2_with fail
              go_meet
              exact ⟨g1, cap1, unhide HI6, unhide HKW6⟩
          case rest =>
            obtain ⟨g1, cap1, HD5, HK5⟩ := hcut
            clear HD3 HK3 HCN HCC e1
            rcases unhide HCO with ⟨hp58, hm3⟩ | ⟨hp58, hm3⟩
            · have HTK := hide (fun W (hW : PRdr W R s (a1 + rn nameByte s a1)) => take_yes W R s (w1 58) (a1 + rn nameByte s a1) hs hW hle2 (by decide) (by decide) hp58)
              have hl3 := unhide HL3 _ hm3
              have hld := unhide HLD
              have hkind := fun W (hW : Pw w R s (a1 + rn nameByte s a1 + 1) W) => unhide HI W R s (a1 + rn nameByte s a1 + 1) hs hW.rdr hm3.1 hW.tab hW.tabR (by omega)
              have HM3 := hide hm3
              generalize ha3 : a1 + rn nameByte s a1 + 1 = a3 at *
              have HA3 := hide ha3
              cases hkr : krd d (lf s a3) with
              | none =>
                have hxn : X = none := by
                  rcases (unhide HM4 a3 a3 true (.mk 0 [] []) hm3 (Or.inr ⟨rfl, hkr, by have := hm3.1; omega⟩)).1 with ⟨h, -⟩ | ⟨-, h, -⟩
                  · cases h
                  · exact h
                have HXN := hide (show Y = none by rw [unhide HY, hxn])
                have HKI := hide hkind; have HKR := hide hkr
                clear hkind hm3 hkr hxn HM4 HL3 HLD hl3 hld ha3
                go_wp2_with (go_at_call 73; refine (unhide HTK _ (unhide HK5).rdr).mono ?_; rintro e w6 ⟨rfl, hr6, hb6⟩; have HK6 := hide ((unhide HK5).next hb6 hr6); have HD6 := hide ((unhide HD5).kept hb6 (fun b e => by cases e; exact ⟨by omega, by omega⟩)); clear hr6 hb6)
                rw [show a1 + rn nameByte s a1 + (w1 58).size = a3 from unhide HA3] at HK6
                have hcallK : Calls Tryd.prog 54 #[.pointer (some ⟨R, 0, none⟩)] w6.drew fun e w7 => e = fltE ∧ Hid (But R w w7) := by
                  refine (unhide HKI w6.drew (unhide HK6).drew).mono ?_
                  rintro e w7 (⟨k, c, F, a4, hc, -⟩ | ⟨-, rfl, hb⟩)
                  · rw [unhide HKR] at hc; cases hc
                  · exact ⟨rfl, (unhide HK6).drew.but.trans hb⟩
                have HCK := hide hcallK
                have e2 := (unhide HD6).cells.cell (i := 2) (by omega)
                simp only [row3] at e2
                clear hcallK HKI HTK HD5 HK5
                refine wp_region_any (by kernel_rfl) ?_
                change wpAny _ _ _ _ _ _ _ (World.drew _)
                refine wpAny_take (i := 0) (v := .pointer (some ⟨B, 2, none⟩)) rfl (by kernel_rfl) (by kernel_rfl) (by kernel_rfl) (fun _ _ _ h => h) (Or.inl ⟨by rfl, fun w => by go_simp⟩) ?_
                refine wpAny_take (i := 2) (v := .pointer (some ⟨R, 0, none⟩)) rfl (by kernel_rfl) (by kernel_rfl) (by kernel_rfl) (fun _ _ _ h => h) (Or.inl ⟨by rfl, fun w => by go_simp⟩) ?_
                refine wpAny_ready (rs := [1, 3]) (by kernel_rfl) (by simp) ?_
                refine AllReady.cons rfl (fun K hK => ?_) (AllReady.cons rfl (fun K hK => ?_) AllReady.nil)
                · go_simp
                  refine hK _ _ ?_; clear hK K
                  refine wpAny_ready (rs := [3]) (by kernel_rfl) (by simp) ?_
                  refine AllReady.cons rfl (fun K hK => ?_) AllReady.nil
                  go_simp
                  refine (unhide HCK).mono ?_
                  rintro e w7 ⟨rfl, HB7⟩
                  exact And.intro rfl (KPEnd.no (unhide HXN) (unhide HB7))
                · go_simp
                  refine (unhide HCK).mono ?_
                  rintro e w7 ⟨rfl, HB7⟩
                  exact And.intro rfl (KPEnd.no (unhide HXN) (unhide HB7))
              | some kr =>
                obtain ⟨k, rest⟩ := kr
                have hout : ∀ a4, a4 ≤ s.size → rest = lf s a4 → FRel X d s a4 false (ns ++ [nm]) (ks ++ [k]) ∧ a < a4 ∧ (lf s a4).length < d := fun a4 h4 hr => by
                  have h5 := unhide HM4 a3 a4 false k hm3 (Or.inl ⟨rfl, by rw [hkr, hr], h4⟩)
                  refine ⟨h5.1, (h5.2 rfl).1, ?_⟩
                  have := congrArg List.length (krd_sound _ _ _ _ hkr)
                  rw [hr, List.length_append] at this
                  omega
                have HOUT := hide hout
                have HKI := hide hkind; have HKR := hide hkr
                clear hkind hm3 hkr hout HM4 HL3 HLD hl3 hld ha3
                go_wp2_with (go_at_call 73; refine (unhide HTK _ (unhide HK5).rdr).mono ?_; rintro e w6 ⟨rfl, hr6, hb6⟩; have HK6 := hide ((unhide HK5).next hb6 hr6); have HD6 := hide ((unhide HD5).kept hb6 (fun b e => by cases e; exact ⟨by omega, by omega⟩)); clear hr6 hb6)
                rw [show a1 + rn nameByte s a1 + (w1 58).size = a3 from unhide HA3] at HK6
                have hcallK : Calls Tryd.prog 54 #[.pointer (some ⟨R, 0, none⟩)] w6.drew fun e w7 => ∃ (x0 : Int) (ap : Option Addr) (np cp : Nat) (aq : Option Addr) (nq cq : Nat) (F : List Nat) (a4 : Nat), e = .returned (.agg #[.int .i64 x0, .slice ap np cp, .slice aq nq cq]) ∧ Hid (OwnD w7 k ⟨.int .i64 x0, .slice ap np cp, .slice aq nq cq⟩ F) ∧ F.Nodup ∧ Hid (∀ b, b ∈ F → w6.heap.size ≤ b ∧ b < w7.heap.size) ∧ Hid (Pw w R s a4 w7) ∧ Hid (FRel X d s a4 false (ns ++ [nm]) (ks ++ [k]) ∧ a < a4 ∧ (lf s a4).length < d) ∧ Hid (a4 ≤ s.size) ∧ Hid (DInv (B + 1) B w7 5 (.slice (some ⟨g1, 0, none⟩) (n + 1) cap1) (.slice aK n capK) (ns ++ [nm]) ks xs G) ∧ w7.cell? ⟨B, 2, none⟩ = some (.slice aK n capK) ∧ (∀ ob, (w7.alloc ob).cell? ⟨B, 2, none⟩ = some (.slice aK n capK)) ∧ w6.heap.size ≤ w7.heap.size := by
                  refine (unhide HKI w6.drew (unhide HK6).drew).mono ?_
                  rintro e w7 (⟨k', ⟨y0, y1, y2⟩, F, a4, hc, h4, rfl, ho, hnd, hF, hr, hb⟩ | ⟨hc, -⟩)
                  · rw [unhide HKR] at hc
                    simp only [Option.some.injEq, Prod.mk.injEq] at hc
                    obtain ⟨rfl, hc⟩ := hc
                    have hd7 := ((unhide HD6).kept (drewN_grown w6 1) (fun b e => by cases e)).kept hb (fun b e => by cases e; exact ⟨by omega, by omega⟩)
                    obtain ⟨p0, -, F1, F2, -, ⟨ap, cp, p1, -⟩, aq, cq, p2, -⟩ := ho.open
                    simp only at p0 p1 p2
                    subst p0 p1 p2
                    exact ⟨_, _, _, _, _, _, _, F, a4, rfl, ho, hnd, hF, (unhide HK6).drew.next hb hr, unhide HOUT a4 h4 hc, h4, hd7, hd7.cells.cell (i := 2) (by omega), fun ob => (hd7.cells.alloc ob).cell (i := 2) (by omega), hb.size⟩
                  · rw [unhide HKR] at hc; cases hc
                have HCK := hide hcallK
                have e2 := (unhide HD6).cells.cell (i := 2) (by omega)
                simp only [row3] at e2
                have hsz6 := (unhide HD6).size
                clear hcallK HKI HTK HD5 HK5 HOUT
                go_region_law (first
                  | ((refine step_append_lies _ (by rfl) _ _ _ (by rfl) (B + 1) 26 i0 _ 3 56 Tryd.underlying24 (unhide HII) (unhide HZ0) (unhide HZ1) (unhide HZ2) rfl (by decide) (.slice aK n capK) n xs (by rfl) (by have := (unhide HD7).got.row; rw [hn2] at this; exact this.alloc _) ⟨w7.heap.size, 0, none⟩ 1 1 (c3l ⟨.int .i64 x0, .slice ap np cp, .slice aq nq cq⟩) (by rfl) (by rfl) (cell_three w7 _ _) (unhide HOW).one (by decide) (by unfold maxLen; omega) (by omega) (by simp; omega) (w7.heap.size + 1) (by simp) ?_; intro g2 cap2 w8 hown8 hgrow8 hat8 hlt8; have u2 := (DInv.atK (unhide HD7) hgrow8).cell (i := 2) (by omega); have uz2 := (DInv.atK (unhide HD7) hgrow8).frozen 2; simp only [row3] at u2))
                  | (rw [if_pos (by first | rfl | simp [Region.wanted])]; go_simp; refine (unhide HCK).mono ?_; rintro e w7 ⟨x0, ap, np, cp, aq, nq, cq, F, a4, rfl, HOW, hFn, HFL, HK7, HFR, HA4, HD7, t2c, t2d, hs7⟩))
                all_goals
                  have hz7 : ∀ o, (w7.alloc o).heap.size = w7.heap.size + 1 := fun o => World.size_alloc _ _
                  have hinv8 := DInv.kid (m := w6.heap.size) ((unhide HD7).kept (World.grownBy_alloc w7 (.cells #[.int .i64 x0, .slice ap np cp, .slice aq nq cq] 26) none) (fun b e => by cases e)) (OwnD.carry k _ F (fun b hb => Below.heap_alloc _ _ _ (unhide HFL b hb).2) (unhide HOW)) hFn (fun b hb => ⟨(unhide HFL b hb).1, by rw [hz7]; have := (unhide HFL b hb).2; omega⟩)
                    (fun b hb => ((unhide HD6).got.lt b hb).2.1) (fun b hb => ((unhide HD6).got.row.lt b hb).2) (fun b hb => ((unhide HD6).names.lt b hb).2) (unhide HD6).size (by rw [hn2]; exact hown8) hgrow8 (hat8.elim (fun e => Or.inl (by rw [e]; rfl)) (fun e => Or.inr ⟨g2, rfl, by rw [hz7, e]; exact Nat.le_refl _⟩))
                  have hkw8 : Pw w R s a4 (w8.setCell ⟨B, 2, none⟩ (.slice (some ⟨g2, 0, none⟩) (n + 1) cap2)) :=
                    (((unhide HK7).touch (World.grownBy_alloc w7 (.cells #[.int .i64 x0, .slice ap np cp, .slice aq nq cq] 26) none) (fun b e => by cases e) hlt hTlt).touch hgrow8 (fun b e => by have := ((unhide HD7).got.row.lt b e).1; omega) hlt hTlt).touch (But.set (B := B) _ _ _) (fun b e => by cases e; exact hbx) hlt hTlt
                  have HI8 := hide hinv8; have HKW8 := hide hkw8
                  clear hinv8 hkw8 hown8 hgrow8 hat8 hlt8 u2 uz2
                  go_wp2_with fail
                  go_roundw
                  case rel => exact ⟨ns ++ [nm], ks ++ [k], n + 1, some ⟨g1, 0, none⟩, cap1, some ⟨g2, 0, none⟩, cap2, _, _, a4, hide ⟨by simp [hn1], by simp [hn2], fun x hx => by rcases List.mem_append.1 hx with hx | hx; exact HN.out.2.2.1 x hx; simp at hx; rw [hx]; exact unhide HNM, (unhide HFR).2.2⟩, hide (unhide HFR).1, HI8, HKW8⟩
                  case measure =>
                    rw [(unhide HKW8).rdr.atOf, unhide HAT]
                    have := (unhide HFR).2.1
                    have := unhide HA4
                    omega
            · have HTK := hide (fun W (hW : PRdr W R s (a1 + rn nameByte s a1)) => take_no W R s (w1 58) (a1 + rn nameByte s a1) hW hle2 hp58)
              have hxn : X = none := by
                rcases hm3.2 with ⟨h, -⟩ | ⟨-, h⟩
                · cases h
                · exact h
              have HXN := hide (show Y = none by rw [unhide HY, hxn])
              clear hm3 hxn HM4 HL3 HLD HI
              go_wp2_with (go_at_call 73; refine (unhide HTK _ (unhide HK5).rdr).mono ?_; rintro e w6 ⟨rfl, m, rfl⟩)
              exact ⟨rfl, KPEnd.no (unhide HXN) (but_drewN (unhide HK5).but m)⟩
        · have hmo2 : Calls Tryd.prog 85 #[.pointer (some ⟨R, 0, none⟩), .string (w1 125), .int .i64 n] wr.drew fun e w3 => e = fltE ∧ Hid (But R w w3) := by
            refine (hmo wr.drew HW.out.drew.rdr).mono ?_
            rintro e w3 ⟨rfl, m, rfl⟩
            exact ⟨rfl, but_drewN HW.out.drew.but m⟩
          have HMO := hide hmo2
          have HXN := hide (show Y = none by rw [unhide HY, hxn])
          clear hmo hmo2 hxn hXf hfl HI
          go_wp2_with fail
          go_region_law (rw [if_pos (by first | rfl | simp [Region.wanted])]; go_simp; refine (unhide HMO).mono ?_; rintro e w3 ⟨rfl, HB3⟩; refine dead_end (by assumption) { tmps := #[], defers := [] } w (And.intro rfl (KPEnd.no (unhide HXN) (unhide HB3))) (fun HF => ?_))
          all_goals exact (unhide HF).elim
  · have hX : FX d (lf s at') = none := by rw [FX, if_neg h123]
    have htk := take_no _ R s (w1 123) at' (unhide HPW).rdr ha (by rw [pre_one]; simp [h123])
    have HTK := hide htk
    have HB := hide ((unhide HPW).but)
    unfold FXo
    rw [hX]
    clear htk h hT HPW
    go_enter Tryd.func74, Tryd.ntmps74
    go_wp2_with (go_at_call 73; refine (unhide HTK).mono ?_; rintro e w2 ⟨rfl, m, rfl⟩)
    exact ⟨rfl, KPEnd.no rfl (but_drewN (unhide HB) m)⟩
end Go.Proofs.YthkjhmcbmakkdaaDoor
