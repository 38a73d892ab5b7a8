/- The walk of the program's byteCursor.event. No conditions. -/
import Derived.Test.YtiflfcjocngiiaaGreatDoorPart10
import Derived.Test.YtiflfcjocngiiaaGreatDoorPart16
import Derived.Test.YtiflfcjocngiiaaGreatDoorPart11
namespace Go.Proofs.YtiflfcjocngiiaaGreatDoor
open Go Go.RowKit

/-- These bytes begin with those of an event that is ok. -/
def Starts (l : List UInt8) : Prop := ∃ ty ver t rest, evOkB ty ver t = true ∧ l = eventB ty ver t ++ rest

theorem evOk_facts {ty : ByteArray} {ver : Int} {t : Tr} (h : evOkB ty ver t = true) : nameOkB ty = true ∧ 1 ≤ ty.size ∧ ty.size ≤ 8 ∧ 1 ≤ ver ∧ ver ≤ 12 ∧ t.sort = 5 ∧ 0 < pT t 1 := by
  have h0 := h
  unfold evOkB at h
  simp only [Bool.and_eq_true, decide_eq_true_eq] at h
  have hn := h.1.1.1
  unfold nameOkB at hn
  simp at hn
  exact ⟨h.1.1.1, by omega, by omega, by omega, by omega, h.1.2, h.2⟩

theorem starts_ptx {l : List UInt8} {ty : ByteArray} {ver : Int} {t : Tr} {rest : List UInt8} (h : evOkB ty ver t = true) (hl : l = eventB ty ver t ++ rest) : ptx l = some (ty, UInt8.ofNat ver.toNat :: (treeB t ++ rest)) := by
  have hf := evOk_facts h
  rw [hl, eventB]
  have := ptx_done ty (UInt8.ofNat ver.toNat :: (treeB t ++ rest)) (by omega)
  simpa using this

/-- What reading an event comes to. -/
def EvEnd (R : Nat) (w w' : World) (v : Value) (b : List UInt8) (a : Nat) (e : Ending) : Prop :=
  But R w w' ∧ ((∃ (ty : ByteArray) (ver : Nat) (t : Tr) (c : C5) (F : List Nat) (a' : Nat), e = .returned (.agg #[.string ty, .int .i64 (ver : Int), c.c0, c.c1, c.c2, c.c3, c.c4]) ∧ Own w' t c F ∧ F.Nodup ∧ (∀ x, x ∈ F → w.heap.size ≤ x ∧ x < w'.heap.size) ∧ Cu R w' v b a' ∧ b.drop a = eventB ty ver t ++ b.drop a' ∧ ver ≤ 255 ∧ ty.size ≤ 255 ∧ (∀ (ty0 : ByteArray) (ver0 : Int) (t0 : Tr) (rest0 : List UInt8), evOkB ty0 ver0 t0 = true → b.drop a = eventB ty0 ver0 t0 ++ rest0 → ty0 = ty ∧ ver0 = ver ∧ t0 = t ∧ rest0 = b.drop a'))
    ∨ (e = fltE ∧ ¬ Starts (b.drop a)))

/-- The boxes of an event that is being read. -/
structure TwoE (R X Y : Nat) (w wr : World) (t0 t1 : Value) (c : C5) : Prop where
  but : But R w wr
  rX : wr.rowIs X 41 7 (row7 (.string ⟨#[]⟩) (.int .i64 0) (.int .i64 0) (.int .i64 0) (.string ⟨#[]⟩) (.slice none 0 0) (.slice none 0 0))
  rY : wr.rowIs Y 41 7 (row7 t0 t1 c.c0 c.c1 c.c2 c.c3 c.c4)
  lt : w.heap.size ≤ X ∧ X < Y
  hR : R < w.heap.size

theorem TwoE.on {R X Y : Nat} {w wr w' : World} {t0 t1 : Value} {c : C5} (h : TwoE R X Y w wr t0 t1 c) (hb : But R wr w') : TwoE R X Y w w' t0 t1 c := by
  have := h.lt; have := h.hR
  exact ⟨h.but.trans hb, h.rX.of_block (hb.at h.rX.lt (by omega)), h.rY.of_block (hb.at h.rY.lt (by omega)), h.lt, h.hR⟩

abbrev ev0 : Obj := .cells #[.string ⟨#[]⟩, .int .i64 0, .int .i64 0, .int .i64 0, .string ⟨#[]⟩, .slice none 0 0, .slice none 0 0] 41
theorem TwoE.start {R a : Nat} {w : World} {v : Value} {b : List UInt8} (h : Cu R w v b a) : TwoE R w.heap.size (w.heap.size + 1) w ((w.alloc ev0).alloc ev0) (.string ⟨#[]⟩) (.int .i64 0) ⟨.int .i64 0, .int .i64 0, .string ⟨#[]⟩, .slice none 0 0, .slice none 0 0⟩ := by
  refine ⟨(But.alloc R w _).trans (But.alloc R _ _), (row7_alloc w _ _ _ _ _ _ _ _).alloc _, ?_, ⟨Nat.le_refl _, by omega⟩, h.cells.lt⟩
  have := row7_alloc (w.alloc ev0) (.string ⟨#[]⟩) (.int .i64 0) (.int .i64 0) (.int .i64 0) (.string ⟨#[]⟩) (.slice none 0 0) (.slice none 0 0) 41
  rw [World.size_alloc] at this
  exact this

theorem TwoE.ty {R X Y : Nat} {w wr : World} {t0 t1 : Value} {c : C5} (h : TwoE R X Y w wr t0 t1 c) (u : Value) : TwoE R X Y w (wr.setCell ⟨Y, 0, none⟩ u) u t1 c := by
  have := h.lt; have := h.hR
  exact ⟨but_set h.but (by omega) _ _, h.rX.setOther (by simp; omega) _, (h.rY.set 0 u).congr (fun i hi => by rcases (show i = 0 ∨ i = 1 ∨ i = 2 ∨ i = 3 ∨ i = 4 ∨ i = 5 ∨ i = 6 by omega) with rfl | rfl | rfl | rfl | rfl | rfl | rfl <;> rfl), h.lt, h.hR⟩
theorem TwoE.ver {R X Y : Nat} {w wr : World} {t0 t1 : Value} {c : C5} (h : TwoE R X Y w wr t0 t1 c) (u : Value) : TwoE R X Y w (wr.setCell ⟨Y, 1, none⟩ u) t0 u c := by
  have := h.lt; have := h.hR
  exact ⟨but_set h.but (by omega) _ _, h.rX.setOther (by simp; omega) _, (h.rY.set 1 u).congr (fun i hi => by rcases (show i = 0 ∨ i = 1 ∨ i = 2 ∨ i = 3 ∨ i = 4 ∨ i = 5 ∨ i = 6 by omega) with rfl | rfl | rfl | rfl | rfl | rfl | rfl <;> rfl), h.lt, h.hR⟩

set_option maxRecDepth 100000 in
set_option maxHeartbeats 6400000 in
theorem eventP_any (R : Nat) (w : World) (v : Value) (b : List UInt8) (a : Nat) (h : Cu R w v b a) :
    Calls Tryz.prog 54 #[.pointer (some ⟨R, 0, none⟩)] w fun e w' => EvEnd R w w' v b a e := by
  have hT0 := TwoE.start h
  have hcu0 : Cu R ((w.alloc ev0).alloc ev0) v b a := h.on (((Below.refl _ w).alloc (Nat.le_refl _) ev0).alloc (by simp) ev0)
  have hsm := h.small
  clear h
  cases hp : ptx (b.drop a) with
  | none =>
    have HNO : Hid (¬ Starts (b.drop a)) := fun ⟨ty, ver, t, rest, ho, hl⟩ => by rw [starts_ptx ho hl] at hp; cases hp
    have HTX := hide (textP_no R _ v b a hcu0 hp)
    have HT0 := hide hT0
    clear hcu0 hp hT0
    go_enter Tryz.func54, Tryz.ntmps54
    go_wp2_with fail
    refine (unhide HTX).mono ?_
    rintro e w1 ⟨rfl, hb1⟩
    exact ⟨rfl, ((unhide HT0).on hb1).but, Or.inr ⟨rfl, unhide HNO⟩⟩
  | some y =>
    obtain ⟨ty, l1⟩ := y
    have hty := ptx_sound hp
    have HTX := hide (textP_yes R _ v b a ty l1 hcu0 hp)
    have HT0 := hide hT0
    have HTE := hide (fun W => typeEnd_any ty W (by have := hty.2; omega))
    have hst : ∀ ty0 ver0 t0 rest0, evOkB ty0 ver0 t0 = true → b.drop a = eventB ty0 ver0 t0 ++ rest0 → ty = ty0 ∧ l1 = UInt8.ofNat ver0.toNat :: (treeB t0 ++ rest0) := fun ty0 ver0 t0 rest0 ho hl => by
      rw [starts_ptx ho hl] at hp
      simp only [Option.some.injEq, Prod.mk.injEq] at hp
      exact ⟨hp.1.symm, hp.2.symm⟩
    clear hcu0 hT0
    by_cases hte : tE ty = ty.size
    · have hq : ((tE ty : Int) == (ty.size : Int)) = true := by simp [hte]
      have hqd : decide ((tE ty : Int) = (ty.size : Int)) = true := by simp [hte]
      have HST := hide hst; have HTY := hide hty
      clear hst hp hte hty
      generalize tE ty = k at *
      go_enter Tryz.func54, Tryz.ntmps54
      go_wp2_with fail
      refine (unhide HTX).mono ?_
      rintro e w1 ⟨rfl, ⟨a', ha', hcu1, hl1⟩, hb1⟩
      have hT1 := (unhide HT0).on hb1
      have y0 := hT1.rY.cell (i := 0) (by omega); have yf := hT1.rY.frozen
      simp only [row7] at y0
      have hT1a := hT1.ty (.string ty)
      have hcu1a := hcu1.set (X := w.heap.size + 1) (by have := hT1.hR; omega) 0 (.string ty)
      have hlt1 := hT1.lt
      have HT1 := hide hT1a; have HCU1 := hide hcu1a; have HL1 := hide hl1; have HA1 := hide ha'
      clear hT1 hT1a hcu1 hcu1a hb1 HTX HT0 hl1 ha'
      go_wp2_with fail
      go_cut [] from 7 to 14 (fun wx => Hid (TwoE R w.heap.size (w.heap.size + 1) w wx (.string ty) (.int .i64 0) ⟨.int .i64 0, .int .i64 0, .string ⟨#[]⟩, .slice none 0 0, .slice none 0 0⟩) ∧ Hid (Cu R wx v b a'))
      case first =>
        go_region_law (first
          | (rw [if_pos (by first | rfl | simp [Region.wanted])]; go_simp; refine (unhide HTE _).mono ?_
             rintro e w2 ⟨rfl, hb2⟩
             have HB2 := hide (But.of_below (B := R) ((Below.refl _ (w1.setCell ⟨w.heap.size + 1, 0, none⟩ (.string ty))).drew.trans hb2))
             have y0b := ((unhide HT1).on (unhide HB2)).rY.cell (i := 0) (by omega)
             simp only [row7] at y0b
             have HBB := hide ((Below.refl _ (w1.setCell ⟨w.heap.size + 1, 0, none⟩ (.string ty))).drew.trans hb2)
             clear hb2)
          | (rw [if_pos (by first | rfl | simp [Region.wanted])]; go_simp; refine (treeWant_yes _).mono ?_; rintro e w3 ⟨rfl, rfl⟩))
        all_goals
          go_wp2_with fail
          go_meet
          exact ⟨(unhide HT1).on (unhide HB2), (unhide HCU1).on (unhide HBB)⟩
      case rest =>
        obtain ⟨HTC, HCC⟩ := hcut
        clear HT1 HCU1 HTE y0 yf
        by_cases hlt : a' < b.length
        · have hd1 := List.drop_eq_getElem_cons hlt
          have hx8 := b[a'].toNat_lt
          have HNX := hide (nextP_yes R wc v b a' HCC.out hlt)
          have HTR := hide (fun (W : World) (hW : Cu R W v b (a' + 1)) => treeP_all (b.length + 1) R W v b (a' + 1) hW (by simp; omega))
          have y1 := HTC.out.rY.cell (i := 1) (by omega); have yf := HTC.out.rY.frozen
          simp only [row7] at y1
          cases ht : ptree (b.length + 1) (b.drop (a' + 1)) with
          | none =>
            have HNO : Hid (¬ Starts (b.drop a)) := fun ⟨ty0, ver0, t0, rest0, ho, hl⟩ => by
              obtain ⟨-, h2⟩ := unhide HST ty0 ver0 t0 rest0 ho hl
              rw [unhide HL1, hd1] at h2
              simp only [List.cons.injEq] at h2
              have hlen : (treeB t0 ++ rest0).length ≤ b.length := by rw [← h2.2]; simp
              rw [h2.2, ptree_done t0 1 (evOk_facts ho).2.2.2.2.2.2 _ rest0 (by simp at hlen; omega)] at ht
              cases ht
            rw [ht] at HTR
            clear ht hd1
            generalize b[a'].toNat = x at *
            go_wp2_with fail
            refine (unhide HNX).mono ?_
            rintro e w2 ⟨rfl, hcu2, hb2⟩
            have hT2 := HTC.out.on hb2
            have z1 := hT2.rY.cell (i := 1) (by omega); have zf := hT2.rY.frozen
            simp only [row7] at z1
            have HN2 := hide (unhide HTR _ (hcu2.set (X := w.heap.size + 1) (by have := hT2.hR; omega) 1 (.int .i64 (x : Int))))
            have HT2 := hide (hT2.ver (.int .i64 (x : Int)))
            clear hcu2 hb2 hT2 HNX HTR y1 yf
            go_wp2_with fail
            refine (unhide HN2).mono ?_
            rintro e w3 ⟨hb3, rfl⟩
            exact ⟨rfl, ((unhide HT2).on hb3).but, Or.inr ⟨rfl, unhide HNO⟩⟩
          | some y =>
            obtain ⟨t, rest⟩ := y
            have hsd := ptree_sound _ _ _ _ ht
            rw [ht] at HTR
            have HEQ : Hid (∀ a2, rest = b.drop a2 → b.drop a = eventB ty (b[a'].toNat : Nat) t ++ b.drop a2) := fun a2 h2 => by
              rw [(unhide HTY).1, unhide HL1, hd1, hsd, h2, eventB]
              simp
            have HCO : Hid (∀ a2, rest = b.drop a2 → ∀ (ty0 : ByteArray) (ver0 : Int) (t0 : Tr) (rest0 : List UInt8), evOkB ty0 ver0 t0 = true → b.drop a = eventB ty0 ver0 t0 ++ rest0 → ty0 = ty ∧ ver0 = (b[a'].toNat : Nat) ∧ t0 = t ∧ rest0 = b.drop a2) := fun a2 h2 ty0 ver0 t0 rest0 ho hl => by
              obtain ⟨e1, e2⟩ := unhide HST ty0 ver0 t0 rest0 ho hl
              rw [unhide HL1, hd1] at e2
              simp only [List.cons.injEq] at e2
              have hf := evOk_facts ho
              have hlen : (treeB t0 ++ rest0).length ≤ b.length := by rw [← e2.2]; simp
              rw [e2.2, ptree_done t0 1 hf.2.2.2.2.2.2 _ rest0 (by simp at hlen; omega)] at ht
              simp only [Option.some.injEq, Prod.mk.injEq] at ht
              have hv := congrArg UInt8.toNat e2.1
              rw [show (UInt8.ofNat ver0.toNat).toNat = ver0.toNat from by simp; omega] at hv
              exact ⟨e1.symm, by omega, ht.1, by rw [ht.2, h2]⟩
            have hb255 : b[a'].toNat ≤ 255 := by omega
            clear ht hd1 hsd
            generalize b[a'].toNat = x at *
            go_wp2_with fail
            refine (unhide HNX).mono ?_
            rintro e w2 ⟨rfl, hcu2, hb2⟩
            have hT2 := HTC.out.on hb2
            have z1 := hT2.rY.cell (i := 1) (by omega); have zf := hT2.rY.frozen
            simp only [row7] at z1
            have HN2 := hide (unhide HTR _ (hcu2.set (X := w.heap.size + 1) (by have := hT2.hR; omega) 1 (.int .i64 (x : Int))))
            have HT2 := hide (hT2.ver (.int .i64 (x : Int)))
            clear hcu2 hb2 hT2 HNX HTR y1 yf
            go_wp2_with fail
            refine (unhide HN2).mono ?_
            rintro e w3 ⟨hb3, ⟨c0, c1, c2, c3, c4⟩, F, rfl, ho, hnd, hF, a3, ha3, hcu3, hr3⟩
            have hT3 := (unhide HT2).on hb3
            obtain ⟨g0, g1, g2, -, -, -, F1, F2, -, ⟨ap, cp, g3, -⟩, aq, cq, g4, -⟩ := ho.open
            simp only at g0 g1 g2 g3 g4
            subst g0 g1 g2 g3 g4
            have p0 := hT3.rX.cell (i := 0) (by omega); have p1 := hT3.rX.cell (i := 1) (by omega); have p2 := hT3.rX.cell (i := 2) (by omega); have p3 := hT3.rX.cell (i := 3) (by omega); have p4 := hT3.rX.cell (i := 4) (by omega); have p5 := hT3.rX.cell (i := 5) (by omega); have p6 := hT3.rX.cell (i := 6) (by omega); have pf := hT3.rX.frozen
            have q0 := hT3.rY.cell (i := 0) (by omega); have q1 := hT3.rY.cell (i := 1) (by omega); have q2 := hT3.rY.cell (i := 2) (by omega); have q3 := hT3.rY.cell (i := 3) (by omega); have q4 := hT3.rY.cell (i := 4) (by omega); have q5 := hT3.rY.cell (i := 5) (by omega); have q6 := hT3.rY.cell (i := 6) (by omega); have qf := hT3.rY.frozen
            simp only [row7] at p0 p1 p2 p3 p4 p5 p6 q0 q1 q2 q3 q4 q5 q6
            have hmid : w.heap.size + 2 ≤ w2.heap.size := by have := (unhide HT2).rY.lt; simp at this; omega
            have HT3 := hide hT3; have HCU3 := hide hcu3; have HO := hide ho; have HF := hide hF; have HE3 := hide (unhide HEQ a3 hr3); have HC3 := hide (unhide HCO a3 hr3)
            clear hT3 hcu3 hb3 ho hF hr3 HN2 HT2 HEQ HCO z1 zf HTC HCC
            go_wp2_with fail
            refine bodyPost_ret (v := .agg #[.string ty, .int .i64 (x : Int), .int .i64 t.sort, .int .i64 t.num, .string t.text, .slice ap t.names.length cp, .slice aq t.kids.length cq]) (by simp [results, Tryz.results54, go_sem, p0, p1, p2, p3, p4, p5, p6]) rfl ?_
            have hR3 := (unhide HT3).hR
            refine ⟨?_, Or.inl ⟨ty, x, t, ⟨_, _, _, _, _⟩, F, a3, rfl, Own.carry _ _ F (fun y hy => by have := (unhide HF y hy).1; rw [size_setCell] at this; repeat rw [Below.heap_setCell _ _ _ _ (by simp <;> omega)]) (unhide HO), hnd, fun y hy => ⟨by have := (unhide HF y hy).1; rw [size_setCell] at this; omega, by simp only [size_setCell]; exact (unhide HF y hy).2⟩, ?_, unhide HE3, hb255, by have := (unhide HTY).2; omega, unhide HC3⟩⟩
            · repeat refine but_set ?_ (by omega) _ _
              exact (unhide HT3).but
            · repeat refine Cu.set ?_ (by omega) _ _
              exact unhide HCU3
        · have HNX := hide (nextP_no R wc v b a' HCC.out (by omega))
          have HNO : Hid (¬ Starts (b.drop a)) := fun ⟨ty0, ver0, t0, rest0, ho, hl⟩ => by
            obtain ⟨-, h2⟩ := unhide HST ty0 ver0 t0 rest0 ho hl
            rw [unhide HL1, List.drop_eq_nil_of_le (by omega)] at h2
            cases h2
          have HTB := hide HTC.out
          clear HCC HTC HST
          go_wp2_with fail
          refine (unhide HNX).mono ?_
          rintro e w2 ⟨rfl, hb2⟩
          exact ⟨rfl, ((unhide HTB).on hb2).but, Or.inr ⟨rfl, unhide HNO⟩⟩
    · have HNO : Hid (¬ Starts (b.drop a)) := fun ⟨ty0, ver0, t0, rest0, ho, hl⟩ => by
        obtain ⟨rfl, -⟩ := hst ty0 ver0 t0 rest0 ho hl
        exact hte (tE_name (evOk_facts ho).1)
      have hq : ((tE ty : Int) == (ty.size : Int)) = false := by simp; omega
      clear hst hp hte
      generalize tE ty = k at *
      go_enter Tryz.func54, Tryz.ntmps54
      go_wp2_with fail
      refine (unhide HTX).mono ?_
      rintro e w1 ⟨rfl, ⟨a', ha', hcu1, hl1⟩, hb1⟩
      have hT1 := (unhide HT0).on hb1
      have y0 := hT1.rY.cell (i := 0) (by omega); have yf := hT1.rY.frozen
      simp only [row7] at y0
      have hT1a := hT1.ty (.string ty)
      have hcu1a := hcu1.set (X := w.heap.size + 1) (by have := hT1.hR; omega) 0 (.string ty)
      have hlt1 := hT1.lt
      have HT1 := hide hT1a; have HCU1 := hide hcu1a; have HL1 := hide hl1; have HA1 := hide ha'
      clear hT1 hT1a hcu1 hcu1a hb1 HTX HT0 hl1 ha'
      go_wp2_with fail
      go_region_law (first
        | (rw [if_pos (by first | rfl | simp [Region.wanted])]; go_simp; refine (unhide HTE _).mono ?_
           rintro e w2 ⟨rfl, hb2⟩
           have HB2 := hide (But.of_below (B := R) ((Below.refl _ (w1.setCell ⟨w.heap.size + 1, 0, none⟩ (.string ty))).drew.trans hb2))
           have y0b := ((unhide HT1).on (unhide HB2)).rY.cell (i := 0) (by omega)
           simp only [row7] at y0b
           have HBB := hide ((Below.refl _ (w1.setCell ⟨w.heap.size + 1, 0, none⟩ (.string ty))).drew.trans hb2)
           clear hb2)
        | (rw [if_pos (by first | rfl | simp [Region.wanted])]; go_simp; refine (treeWant_no _).mono ?_; rintro e w3 ⟨rfl, rfl⟩; refine dead_end (by assumption) { tmps := #[], defers := [] } w (And.intro rfl ⟨((unhide HT1).on (unhide HB2)).but, Or.inr ⟨rfl, unhide HNO⟩⟩) (fun HF => ?_)))
      all_goals exact (unhide HF).elim
end Go.Proofs.YtiflfcjocngiiaaGreatDoor

/- As WTry, of work that may look at what treeTry itself has laid: a cell of its own with no in it. No conditions. -/

namespace Go.Proofs.YtiflfcjocngiiaaGreatDoor
open Go Go.RowKit

set_option maxRecDepth 100000 in
set_option maxHeartbeats 400000 in
/-- Work that comes to its end. -/
theorem treeTry_yes2 (f : FuncId) (caps : Array Value) (w : World) (R : World → Prop) (hent : ∀ W, Sem.run Tryz.prog (callFunc f caps) W = .ok (.enter f caps) W)
    (hwork : Calls Tryz.prog f caps (w.alloc (.cells #[.bool false] 4)) fun e w' => e = .returned (.tuple #[]) ∧ R w' ∧ w'.heap[w.heap.size]? = (w.alloc (.cells #[.bool false] 4)).heap[w.heap.size]?) :
    Calls Tryz.prog 13 #[.func (.func f) #[] caps] w fun e w' => e = .returned (.bool true) ∧ ∃ w1, R w1 ∧ But w.heap.size w1 w' := by
  have hmf : ∀ (fn : Fn) (first cap : Array Value) (w : World), (Instr.makeFunc fn first cap).run Tryz.prog w = .ok (.func fn first cap) w := fun _ _ _ _ => rfl
  have HW := hide hwork; clear hwork
  go_enter_defers Tryz.func13, Tryz.ntmps13
  go_wp2_with fail
  refine (unhide HW).mono ?_
  rintro e w1 ⟨rfl, hr, hbk⟩
  obtain ⟨hc, hz⟩ := cell_new1 hbk
  have HR := hide hr
  clear hr hbk
  go_wp2_with fail
  refine leaves_cons (f := 27) (args := #[.pointer (some ⟨w.heap.size, 0, none⟩)]) (by simp) (by simp [go_sem]) ?_
  refine (try_returning ⟨w.heap.size, 0, none⟩ true _ ?_ ?_).mono ?_
  · simp [go_sem, hc]
  · simp [go_sem, hz]
  rintro e u' w'' ⟨rfl, rfl, rfl⟩
  simp [Leaves, settle, results, Tryz.results13, go_sem, hc]
  exact ⟨w1, unhide HR, (But.set w1 0 _).trans (But.set _ 0 _)⟩

set_option maxRecDepth 100000 in
set_option maxHeartbeats 400000 in
/-- Work that raises a fault. -/
theorem treeTry_no2 (f : FuncId) (caps : Array Value) (w : World) (R : World → Prop) (hent : ∀ W, Sem.run Tryz.prog (callFunc f caps) W = .ok (.enter f caps) W)
    (hwork : Calls Tryz.prog f caps (w.alloc (.cells #[.bool false] 4)) fun e w' => e = fltE ∧ R w' ∧ w'.heap[w.heap.size]? = (w.alloc (.cells #[.bool false] 4)).heap[w.heap.size]?) :
    Calls Tryz.prog 13 #[.func (.func f) #[] caps] w fun e w' => e = .returned (.bool false) ∧ ∃ w1, R w1 ∧ But w.heap.size w1 w' := by
  have hmf : ∀ (fn : Fn) (first cap : Array Value) (w : World), (Instr.makeFunc fn first cap).run Tryz.prog w = .ok (.func fn first cap) w := fun _ _ _ _ => rfl
  have HW := hide hwork; clear hwork
  go_enter_defers Tryz.func13, Tryz.ntmps13
  go_wp2_with fail
  refine (unhide HW).mono ?_
  rintro e w1 ⟨rfl, hr, hbk⟩
  obtain ⟨hc, hz⟩ := cell_new1 hbk
  have HR := hide hr
  clear hr hbk
  go_wp2_with fail
  refine leaves_cons (f := 27) (args := #[.pointer (some ⟨w.heap.size, 0, none⟩)]) (by simp) (by simp [go_sem]) ?_
  refine (try_panicking ⟨w.heap.size, 0, none⟩ false 77 _ [] _ hc hz).mono ?_
  rintro e u' w'' ⟨rfl, rfl, rfl⟩
  simp [Leaves, settle, results, Tryz.results13, go_sem, hc]
  exact ⟨w1, unhide HR, But.set w1 0 _⟩
end Go.Proofs.YtiflfcjocngiiaaGreatDoor
