/- The walk of the program's (*byteCursor).record: the record that bytes say, or a fault. Conditions: the table treeFields is as its text lays it. -/
import Derived.Test.YtiflfcjocngiiaaGreatDoorPart18
import Derived.Test.YtiflfcjocngiiaaGreatDoorPart19
import Derived.Test.YtiflfcjocngiiaaGreatDoorPart21
namespace Go.Proofs.YtiflfcjocngiiaaGreatDoor
open Go Go.RowKit

theorem infoEvD : ∃ i, Tryz.prog.info? 41 = some i ∧ i.zero = some (.agg z7) ∧ i.size = 7 ∧ i.bytes = 104 := by
  have := infoEvent
  cases h : Tryz.prog.info? 41 with
  | none => rw [h] at this; cases this
  | some i =>
    rw [h] at this
    simp only [Option.map_some, Option.some.injEq, Prod.mk.injEq] at this
    exact ⟨i, rfl, this.1, this.2.1, this.2.2⟩
/-- A record while it is read by the program. -/
structure RuP (R : Nat) (w W : World) (v : Value) (b : List UInt8) (a Y : Nat) (pos : Int) (key : ByteArray) (u : Value) (es : List Ev) (cs : List C5) (Fs : List (List Nat)) : Prop where
  hR : R < w.heap.size
  hY : w.heap.size < Y
  but : But R w W
  cu : Cu R W v b a
  b4 : W.rowIs w.heap.size 24 3 (row3 (.int .i64 0) (.string ByteArray.empty) (.slice none 0 0))
  b5 : W.rowIs Y 24 3 (row3 (.int .i64 pos) (.string key) u)
  got : GotE (Y + 1) W u es cs Fs
section
variable {R : Nat} {w W W' : World} {v : Value} {b : List UInt8} {a a' Y : Nat} {pos : Int} {key : ByteArray} {u : Value} {es : List Ev} {cs : List C5} {Fs : List (List Nat)}
theorem RuP.step (h : RuP R w W v b a Y pos key u es cs Fs) (hcu : Cu R W' v b a') (hb : But R W W') : RuP R w W' v b a' Y pos key u es cs Fs := by
  have hR := h.hR; have hY := h.hY
  exact ⟨h.hR, h.hY, h.but.trans hb, hcu, h.b4.of_block (hb.at h.b4.lt (by omega)), h.b5.of_block (hb.at h.b5.lt (by omega)), h.got.keep hb.size (fun x hx hl => hb.at hl (by omega))⟩
theorem RuP.on (h : RuP R w W v b a Y pos key u es cs Fs) (hb : Below W.heap.size W W') : RuP R w W' v b a Y pos key u es cs Fs := h.step (h.cu.on hb) (But.of_below hb)
theorem RuP.form (h : RuP R w W v b a Y pos key u es cs Fs) : ∃ (ad : Option Addr) (cap : Nat), u = .slice ad es.length cap := by
  rcases h.got.row.2 with ⟨hv, h0⟩ | ⟨g, c, x, hv, _⟩
  · exact ⟨none, 0, by rw [hv, h0]⟩
  · exact ⟨_, _, hv⟩
theorem RuP.top (h : RuP R w W v b a Y pos key u es cs Fs) : Y + 1 ≤ W.heap.size := h.b5.lt
/-- Another event stands behind the events. -/
theorem RuP.add {u' : Value} {ob : Obj} {es' : List Ev} {cs' : List C5} {Fs' : List (List Nat)} (h : RuP R w W v b a Y pos key u es cs Fs) (hgot : GotE (Y + 1) W' u' es' cs' Fs') (hg : (W.alloc ob).grownBy W' u.ownBlock) : W'.rowIs Y 24 3 (row3 (.int .i64 pos) (.string key) u) ∧ RuP R w (W'.setCell ⟨Y, 2, none⟩ u') v b a Y pos key u' es' cs' Fs' := by
  have hR := h.hR; have hY := h.hY; have hbs := h.but.size
  have hsz := hg.size
  rw [World.size_alloc] at hsz
  have hlow : ∀ x, x < Y + 1 → x < W.heap.size → W'.heap[x]? = W.heap[x]? := fun x hx hl => by
    rw [hg.block x (by rw [World.size_alloc]; omega) (fun e => by have := (h.got.row.lt x e.symm).1; omega), Below.heap_alloc _ _ _ hl]
  have hset : But Y W' (W'.setCell ⟨Y, 2, none⟩ u') := But.set W' 2 _
  have h5 := h.b5.of_block (hlow Y (by omega) h.b5.lt)
  have hRl := h.cu.cells.lt
  have hcR := h.cu.cells.of_block (hlow R (by omega) hRl)
  have hblk : ∀ x, x < Y → x < W.heap.size → (W'.setCell ⟨Y, 2, none⟩ u').heap[x]? = W.heap[x]? := fun x hx hl => by
    rw [hset.at (by omega) (by omega), hlow x (by omega) hl]
  refine ⟨h5, ⟨h.hR, h.hY, ⟨hg.os.trans h.but.os, hg.tape.trans h.but.tape, hg.output.trans h.but.output, by rw [World.size_setCell]; omega, fun x h1 hne => ?_⟩, ⟨h.cu.cells.of_block (hblk R (by omega) hRl), h.cu.row.of_block (fun x e => hblk x (by have := h.cu.own x e; omega) (h.cu.row.own x e).2), h.cu.own, h.cu.le, h.cu.small⟩, h.b4.of_block (hblk _ (by omega) h.b4.lt), row3_pk2 h5 u', hgot.keep (by rw [World.size_setCell]; exact Nat.le_refl _) (fun x hx hl => hset.at hl (by omega))⟩⟩
  rw [hblk x (by omega) (by omega)]
  exact h.but.at h1 (fun e => hne (by rw [e]))
/-- The record is given back. -/
theorem RuP.fin (h : RuP R w W v b a Y pos key u es cs Fs) (hl : es.length ≤ 1048576) (x y z : Value) : But R w (((W.setCell ⟨w.heap.size, 0, none⟩ x).setCell ⟨w.heap.size, 1, none⟩ y).setCell ⟨w.heap.size, 2, none⟩ z) ∧ ∃ F, EvsOwn (((W.setCell ⟨w.heap.size, 0, none⟩ x).setCell ⟨w.heap.size, 1, none⟩ y).setCell ⟨w.heap.size, 2, none⟩ z) u es F ∧ F.Nodup ∧ (∀ q, q ∈ F → w.heap.size ≤ q ∧ q < (((W.setCell ⟨w.heap.size, 0, none⟩ x).setCell ⟨w.heap.size, 1, none⟩ y).setCell ⟨w.heap.size, 2, none⟩ z).heap.size) := by
  have hR := h.hR; have hY := h.hY; have hbs := h.but.size
  have hb : But w.heap.size W (((W.setCell ⟨w.heap.size, 0, none⟩ x).setCell ⟨w.heap.size, 1, none⟩ y).setCell ⟨w.heap.size, 2, none⟩ z) := ((But.set W 0 x).trans (But.set _ 1 y)).trans (But.set _ 2 z)
  obtain ⟨F, h1, h2, h3⟩ := h.got.evs hl
  refine ⟨⟨hb.os.trans h.but.os, hb.tape.trans h.but.tape, hb.output.trans h.but.output, Nat.le_trans hbs hb.size, fun q hq hne => ?_⟩, F, h1.carry (fun q hq => hb.at (h3 q hq).2 (by have := (h3 q hq).1; omega)), h2, fun q hq => ?_⟩
  · rw [hb.at (by omega) (by omega)]
    exact h.but.at hq (fun e => hne (by rw [e]))
  · have := h3 q hq
    simp only [World.size_setCell]; omega
end
theorem cell_7R (w : World) (x0 x1 x2 x3 x4 x5 x6 : Value) (t : TypeId) : ∀ j v, [x0, x1, x2, x3, x4, x5, x6][j]? = some v → (w.alloc (.cells #[x0, x1, x2, x3, x4, x5, x6] t)).cell? ((⟨w.heap.size, 0, none⟩ : Addr).add j) = some v := by
  intro j v hj
  have hj7 : j < 7 := by
    rcases Nat.lt_or_ge j 7 with h | h
    · exact h
    · rw [List.getElem?_eq_none (by simpa using h)] at hj; cases hj
  rw [Addr.add_lit, Nat.zero_add, World.cell?_alloc_mark]
  simpa using hj
/-- What reading a record comes to. -/
def RpEnd (R : Nat) (w w' : World) (b : List UInt8) (pos : Int) (e : Ending) : Prop :=
  But R w w' ∧ ((∃ (key : ByteArray) (es : List Ev) (u : Value) (F : List Nat), recF b = some (key, es) ∧ e = .returned (.agg #[.int .i64 pos, .string key, u]) ∧ EvsOwn w' u es F ∧ F.Nodup ∧ (∀ x, x ∈ F → w.heap.size ≤ x ∧ x < w'.heap.size)) ∨ (recF b = none ∧ e = fltE))
theorem recF_notext {b : List UInt8} (h : ptx (b.drop 0) = none) : recF b = none := by
  rw [List.drop_zero] at h
  unfold recF; rw [h]
/-- What is read behind the key. -/
noncomputable def recR (k : ByteArray) : List UInt8 → Option (ByteArray × List Ev)
  | [] => none
  | n :: r => (evsF n.toNat r).map (k, ·)
theorem recF_text {b rest : List UInt8} {k : ByteArray} (h : ptx (b.drop 0) = some (k, rest)) : recF b = recR k rest := by
  rw [List.drop_zero] at h
  unfold recF; rw [h]
  cases rest <;> rfl
theorem evsF_short {n : Nat} {l : List UInt8} (h : l.length < 2) : evsF (n + 1) l = none := by
  match l, h with
  | [], _ => rfl
  | [x], _ => rfl
theorem evsF_long {n : Nat} {b : List UInt8} {a : Nat} (h : a + 1 < b.length) (hs : ¬ twoN b[a] b[a + 1] ≤ b.length - (a + 2)) : evsF (n + 1) (b.drop a) = none := by
  rw [List.drop_eq_getElem_cons (by omega), List.drop_eq_getElem_cons (i := a + 1) (by omega), evsF, if_neg]
  rw [List.length_drop]; exact hs
theorem evsF_bad {n : Nat} {b : List UInt8} {a : Nat} (h : a + 1 < b.length) (hs : twoN b[a] b[a + 1] ≤ b.length - (a + 2)) (he : evF ((b.drop (a + 2)).take (twoN b[a] b[a + 1])) = none) : evsF (n + 1) (b.drop a) = none := by
  rw [List.drop_eq_getElem_cons (by omega), List.drop_eq_getElem_cons (i := a + 1) (by omega), evsF, if_pos (by rw [List.length_drop]; exact hs), he]
theorem evsF_good {n : Nat} {b : List UInt8} {a : Nat} {e : Ev} (h : a + 1 < b.length) (hs : twoN b[a] b[a + 1] ≤ b.length - (a + 2)) (he : evF ((b.drop (a + 2)).take (twoN b[a] b[a + 1])) = some e) : evsF (n + 1) (b.drop a) = (evsF n (b.drop (a + 2 + twoN b[a] b[a + 1]))).map (e :: ·) := by
  rw [List.drop_eq_getElem_cons (by omega), List.drop_eq_getElem_cons (i := a + 1) (by omega), evsF, if_pos (by rw [List.length_drop]; exact hs), he, List.drop_drop]
theorem evs_none {b : List UInt8} {key : ByteArray} {n m : Nat} {l1 l2 : List UInt8} {es : List Ev} (hrf : recF b = (evsF n l1).map (key, ·)) (hev : evsF n l1 = (evsF m l2).map (es ++ ·)) (h : evsF m l2 = none) : recF b = none := by
  rw [hrf, hev, h]; rfl
theorem evs_more {n m : Nat} {l1 l2 l3 : List UInt8} {es : List Ev} {e : Ev} (hev : evsF n l1 = (evsF (m + 1) l2).map (es ++ ·)) (h : evsF (m + 1) l2 = (evsF m l3).map (e :: ·)) : evsF n l1 = (evsF m l3).map ((es ++ [e]) ++ ·) := by
  rw [hev, h]
  cases evsF m l3 <;> simp
theorem evs_done {b : List UInt8} {key : ByteArray} {n m : Nat} {l1 l2 : List UInt8} {es : List Ev} (hrf : recF b = (evsF n l1).map (key, ·)) (hev : evsF n l1 = (evsF m l2).map (es ++ ·)) (h : m = 0) : recF b = some (key, es) := by
  subst h
  rw [hrf, hev]
  simp [evsF]
set_option maxRecDepth 100000 in
set_option maxHeartbeats 3200000 in
theorem recordP_any (R : Nat) (w : World) (v : Value) (b : List UInt8) (pos : Int) (h : Cu R w v b 0) (hT : Tab w) (hRT : 0 < R) :
    Calls Tryz.prog 16 #[.pointer (some ⟨R, 0, none⟩), .int .i64 pos] w fun e w' => RpEnd R w w' b pos e := by
  obtain ⟨i0, hi0, hi1, hi2, hi3⟩ := infoEvD
  have HI0 := hide hi0; have HI1 := hide hi1; have HI2 := hide hi2; have HI3 := hide hi3
  have hR := h.cells.lt
  have hb0 : ∀ o, Below w.heap.size w (w.alloc o) := fun o => (Below.refl _ _).alloc (Nat.le_refl _) o
  have hrow4 := row3_alloc w (.int .i64 0) (.string ByteArray.empty) (.slice none 0 0) 24
  clear hi0 hi1 hi2 hi3
  cases hp : ptx (b.drop 0) with
  | none =>
    have HX := hide (fun o => textP_no R (w.alloc o) v b 0 (h.on (hb0 o)) hp)
    have HN := hide (recF_notext hp)
    clear h hp
    go_enter Tryz.func16, Tryz.ntmps16
    go_wp2_with fail
    refine (unhide HX _).mono ?_
    rintro e w1 ⟨rfl, hb1⟩
    exact ⟨rfl, (But.alloc R w _).trans hb1, Or.inr ⟨unhide HN, rfl⟩⟩
  | some kr =>
    obtain ⟨key, rest⟩ := kr
    have HX := hide (fun o => textP_yes R (w.alloc o) v b 0 key rest (h.on (hb0 o)) hp)
    have HRF := hide (recF_text hp)
    clear h hp
    go_enter Tryz.func16, Tryz.ntmps16
    go_wp2_with fail
    refine (unhide HX _).mono ?_
    rintro e w1 ⟨rfl, ⟨a1, ha1, hcu1, hrest⟩, hb1⟩
    have hs1 := hb1.size
    rw [World.size_alloc] at hs1
    have hru : RuP R w (w1.alloc (.cells #[.int .i64 pos, .string key, .slice none 0 0] 24)) v b a1 w1.heap.size pos key (.slice none 0 0) [] [] [] := by
      have hbA : Below w1.heap.size w1 (w1.alloc (.cells #[.int .i64 pos, .string key, .slice none 0 0] 24)) := (Below.refl _ _).alloc (Nat.le_refl _) _
      exact ⟨hR, by omega, ((But.alloc R w _).trans hb1).trans (But.of_below hbA), hcu1.on hbA, (hrow4.of_block (hb1.at (by simp) (by omega))).alloc _, row3_alloc _ _ _ _ _, GotE.nil _ _⟩
    have HRU := hide hru
    have HRS := hide hrest
    clear hru hcu1 hb1 hrest HX hrow4 hb0
    go_upto_region 2 with fail
    generalize w1.alloc (.cells #[.int .i64 pos, .string key, .slice none 0 0] 24) = W1 at HRU ⊢
    generalize w1.heap.size = Y at HRU ⊢
    have h1 := unhide HRU
    by_cases hlen : a1 < b.length
    case neg =>
      have HN := hide (show recF b = none by rw [HRF.out, HRS.out, List.drop_eq_nil_of_le (by omega)]; rfl)
      have HX := hide (nextP_no R W1 v b a1 h1.cu (by omega))
      have HB := hide h1.but
      clear h1 HRU HRF HRS
      go_wp2_with fail
      refine (unhide HX).mono ?_
      rintro e w2 ⟨rfl, hb2⟩
      exact ⟨rfl, (unhide HB).trans hb2, Or.inr ⟨unhide HN, rfl⟩⟩
    have HX := hide (nextP_yes R W1 v b a1 h1.cu hlen)
    have HRF2 := hide (show recF b = (evsF b[a1].toNat (b.drop (a1 + 1))).map (key, ·) by rw [HRF.out, HRS.out, List.drop_eq_getElem_cons hlen]; rfl)
    have hn8 := b[a1].toNat_lt
    generalize b[a1].toNat = n at HX HRF2 hn8
    clear h1 HRF HRS hlen
    go_wp2_with fail
    refine (unhide HX).mono ?_
    rintro e w2 ⟨rfl, hcu2, hb2⟩
    have HRU2 := hide ((unhide HRU).step hcu2 hb2)
    clear hcu2 hb2 HX HRU
    go_wp2_with fail
    go_loopw [16] (fun vi wr => ∃ (i a : Nat) (u : Value) (es : List Ev) (cs : List C5) (Fs : List (List Nat)), i ≤ n ∧ vi = .int .i64 i ∧ Hid (i = es.length) ∧ Hid (evsF n (b.drop (a1 + 1)) = (evsF (n - i) (b.drop a)).map (es ++ ·)) ∧ Hid (RuP R w wr v b a Y pos key u es cs Fs)) (fun vi _ => n - (intOf vi).toNat)
    case atStart => exact ⟨0, a1 + 1, _, [], [], [], Nat.zero_le _, rfl, rfl, hide (by simp), HRU2⟩
    case round =>
      clear HRU2
      obtain ⟨i, a, u, es, cs, Fs, hi, rfl, HL, HEV, HRU⟩ := hrel
      by_cases hlt : i < n
      · obtain ⟨m, hm⟩ : ∃ m, n - i = m + 1 := ⟨n - i - 1, by omega⟩
        have hm2 : n - (i + 1) = m := by omega
        rw [hm] at HEV
        have hil : (i : Int) < (n : Int) := by omega
        have h0 := HRU.out
        have hsm := h0.cu.small
        clear hm
        by_cases hl1 : a + 1 < b.length
        case neg =>
          have HN := hide (evs_none HRF2.out HEV.out (evsF_short (by rw [List.length_drop]; omega)))
          by_cases hl0 : a < b.length
          · have HX := hide (nextP_yes R wr v b a h0.cu hl0)
            have HB := hide h0.but
            generalize b[a].toNat = x0 at HX
            clear h0 HEV HRF2
            go_wp2_with fail
            refine (unhide HX).mono ?_
            rintro e w3 ⟨rfl, hcu3, hb3⟩
            have HX2 := hide (nextP_no R w3 v b (a + 1) hcu3 (by omega))
            have HB3 := hide ((unhide HB).trans hb3)
            clear hcu3 hb3 HX HB
            go_wp2_with fail
            refine (unhide HX2).mono ?_
            rintro e w4 ⟨rfl, hb4⟩
            exact ⟨rfl, (unhide HB3).trans hb4, Or.inr ⟨unhide HN, rfl⟩⟩
          · have HX := hide (nextP_no R wr v b a h0.cu (by omega))
            have HB := hide h0.but
            clear h0 HEV HRF2
            go_wp2_with fail
            refine (unhide HX).mono ?_
            rintro e w3 ⟨rfl, hb3⟩
            exact ⟨rfl, (unhide HB).trans hb3, Or.inr ⟨unhide HN, rfl⟩⟩
        have HX := hide (nextP_yes R wr v b a h0.cu (by omega))
        have hx8 := b[a].toNat_lt; have hy8 := b[a + 1].toNat_lt
        have HLONG := hide (fun (hs : ¬ twoN b[a] b[a + 1] ≤ b.length - (a + 2)) => evsF_long (n := m) hl1 hs)
        have HBAD := hide (fun (hs : twoN b[a] b[a + 1] ≤ b.length - (a + 2)) he => evsF_bad (n := m) hl1 hs he)
        have HGOOD := hide (fun (e : Ev) (hs : twoN b[a] b[a + 1] ≤ b.length - (a + 2)) he => evsF_good (n := m) (e := e) hl1 hs he)
        have HNX : Hid (∀ (W : World), Cu R W v b (a + 1) → Calls Tryz.prog 29 #[.pointer (some ⟨R, 0, none⟩)] W fun e w' => e = .returned (.int .i64 (b[a + 1].toNat : Int)) ∧ Cu R w' v b (a + 1 + 1) ∧ But R W w') := fun W hW => nextP_yes R W v b (a + 1) hW hl1
        unfold twoN at HLONG HBAD HGOOD
        generalize b[a].toNat = x0 at *
        generalize b[a + 1].toNat = y0 at *
        clear h0
        go_wp2_with fail
        refine (unhide HX).mono ?_
        rintro e w3 ⟨rfl, hcu3, hb3⟩
        have HX2 := hide (unhide HNX w3 hcu3)
        have HR3 := hide (HRU.out.step hcu3 hb3)
        clear hcu3 hb3 HX HNX HRU
        go_wp2_with fail
        refine (unhide HX2).mono ?_
        rintro e w4 ⟨rfl, hcu4, hb4⟩
        have HR4 := hide ((unhide HR3).step hcu4 hb4)
        clear hcu4 hb4 HX2 HR3
        have hs64 : x0 * 256 + y0 ≤ 65535 := by omega
        have hsi : (x0 : Int) * 256 + (y0 : Int) = ((x0 * 256 + y0 : Nat) : Int) := by omega
        generalize x0 * 256 + y0 = s at *
        have h4 := unhide HR4
        by_cases hfit : s ≤ b.length - (a + 2)
        case neg =>
          have HN := hide (evs_none HRF2.out HEV.out (unhide HLONG hfit))
          have HX := hide (takeP_no R w4 v b (a + 1 + 1) s h4.cu (by omega) (by omega))
          have HB := hide h4.but
          clear h4 HR4 HEV HRF2 HLONG HBAD HGOOD
          go_wp2_with fail
          refine (unhide HX).mono ?_
          rintro e w5 ⟨rfl, hb5⟩
          exact ⟨rfl, (unhide HB).trans hb5, Or.inr ⟨unhide HN, rfl⟩⟩
        have HX := hide (takeP_in R w4 v b (a + 1 + 1) s h4.cu (by omega))
        clear h4 HLONG
        go_wp2_with fail
        refine (unhide HX).mono ?_
        rintro e w5 ⟨⟨v5, rfl, hby5, hown5⟩, hcu5, hb5⟩
        have h5 := (unhide HR4).step hcu5 hb5
        have hT5 : Tab w5 := hT.of_block (h5.but.at (by have := h5.hR; omega) (by omega))
        have HUP := hide (implEventUnpack_in w5 v5 _ hby5 (by rw [List.length_take]; omega) hT5)
        have H5 := hide h5
        clear h5 hcu5 hb5 hby5 hown5 HX HR4 hT5
        go_wp2_with fail
        refine (unhide HUP).mono ?_
        rintro e w6 ⟨hb6, ⟨ty, ver, tr, c, F, rfl, ho6, hnd6, hF6, hup⟩ | ⟨rfl, hno⟩⟩
        · obtain ⟨e0, e1, e2, -, -, -, F1, F2, -, hn3, hk4⟩ := ho6.open
          obtain ⟨c0, c1, c2, c3, c4⟩ := c
          simp only at e0 e1 e2 hn3 hk4
          obtain ⟨a3, p3, g3, -, -⟩ := hn3
          obtain ⟨a4, p4, g4, -, -⟩ := hk4
          subst e0 e1 e2 g3 g4
          have hev := evF_some (e := ⟨ty, ver, tr⟩) hup
          have HEV2 := hide (evs_more HEV.out (unhide HGOOD _ hfit hev))
          have hty : ty.size ≤ 9223372036854775807 := by have := (evOk_parts hup.1).2.1; omega
          have hver : I64 ver := by obtain ⟨-, -, h3, h4, -, -⟩ := evOk_parts hup.1; exact ⟨by omega, by omega⟩
          have hs6 := hb6.size
          have h5 := unhide H5
          have h6 := h5.on hb6
          obtain ⟨W7, hW7⟩ : ∃ W7, W7 = w6.alloc (.cells #[.string ty, .int .i64 ver, .int .i64 tr.sort, .int .i64 tr.num, .string tr.text, .slice a3 tr.names.length p3, .slice a4 tr.kids.length p4] 41) := ⟨_, rfl⟩
          have hbA : Below w6.heap.size w6 W7 := by rw [hW7]; exact (Below.refl _ _).alloc (Nat.le_refl _) _
          have h7 := h6.on hbA
          have hr8 : W7.rowIs w6.heap.size 41 7 (row7 (.string ty) (.int .i64 ver) (.int .i64 tr.sort) (.int .i64 tr.num) (.string tr.text) (.slice a3 tr.names.length p3) (.slice a4 tr.kids.length p4)) := by rw [hW7]; exact row7_alloc _ _ _ _ _ _ _ _ _
          have ho7 := Own.carry _ _ F (fun x hx => hbA.block x (hF6 x hx).2) ho6
          have hF7 : ∀ x, x ∈ F → Y + 1 ≤ x ∧ x < W7.heap.size ∧ x ∉ Fs.flatten ∧ u.ownBlock ≠ some x := fun x hx => ⟨by have := (hF6 x hx).1; have := h5.top; omega, by have := (hF6 x hx).2; have := hbA.size; omega, fun hm => by have := (h5.got.lt x hm).2.1; have := (hF6 x hx).1; omega, fun e => by have := (h5.got.row.lt x e).2; have := (hF6 x hx).1; omega⟩
          have q0 := hr8.cell (i := 0) (by omega); have q1 := hr8.cell (i := 1) (by omega); have q2 := hr8.cell (i := 2) (by omega); have q3 := hr8.cell (i := 3) (by omega); have q4 := hr8.cell (i := 4) (by omega); have q5 := hr8.cell (i := 5) (by omega); have q6 := hr8.cell (i := 6) (by omega)
          simp only [row7] at q0 q1 q2 q3 q4 q5 q6
          obtain ⟨ad, cap, hu⟩ := h7.form
          subst hu
          have d2 := h7.b5.cell (i := 2) (by omega)
          simp only [row3] at d2
          have hl256 : es.length ≤ 256 := by have := HL.out; omega
          have H7 := hide h7; have HO7 := hide ho7; have HF7 := hide hF7; have HND := hide hnd6; have HTY := hide hty; have HVER := hide hver
          have htop := h7.top
          clear h5 h6 h7 hbA hr8 ho7 hF7 hup hev ho6 hF6 hnd6 hb6 HUP H5 HEV HGOOD HBAD
          go_upto_region 7 with fail
          rw [← hW7]
          clear hW7
          generalize w6.heap.size = g8 at q0 q1 q2 q3 q4 q5 q6 ⊢
          go_wp2_with (first
            | (go_at_call 32; refine (treeWant_yes _).mono ?_; rintro e wt ⟨rfl, hwt⟩; have hwt' := hwt.symm; subst hwt')
            | (at_builtin; (refine append_row _ rfl _ _ 22 rfl (Y + 1) 41 i0 (.agg z7) 7 104 Tryz.underlying22 (unhide HI0) (unhide HI1) (unhide HI2) (unhide HI3) rfl (by decide) (.slice ad es.length cap) es.length _ rfl (World.ownsRow.alloc (unhide H7).got.row _) ⟨W7.heap.size, 0, none⟩ 1 1 [.string ty, .int .i64 ver, .int .i64 tr.sort, .int .i64 tr.num, .string tr.text, .slice a3 tr.names.length p3, .slice a4 tr.kids.length p4] rfl rfl (cell_7R W7 _ _ _ _ _ _ _ _) (fun x hx => by simp at hx; rcases hx with rfl | rfl | rfl | rfl | rfl | rfl | rfl <;> rfl) (by decide) (by unfold maxLen; omega) (by omega) (by rw [World.size_alloc]; omega) ?_; intro v8 w8 hown8 hgrow8 hat8; obtain ⟨g9, cap9, hv8, -, -⟩ := hown8.form (by omega); subst hv8; have hgot := (unhide H7).got.add (e := ⟨ty, ver, tr⟩) (c := ⟨.int .i64 tr.sort, .int .i64 tr.num, .string tr.text, .slice a3 tr.names.length p3, .slice a4 tr.kids.length p4⟩) (unhide HO7) (unhide HTY) (unhide HVER) (unhide HND) (unhide HF7) hown8 hgrow8 (by rcases hat8 with h | ⟨g, h, h2⟩; exact Or.inl h; exact Or.inr (fun x hx => by rw [h] at hx; cases hx; rw [World.size_alloc] at h2; omega)); have hadd := (unhide H7).add hgot hgrow8; have r2 := hadd.1.cell (i := 2) (by omega); have rf := hadd.1.frozen 2; simp only [row3] at r2; have HADD := hide hadd.2; clear hgot hadd hown8 hgrow8 hat8 d2 q0 q1 q2 q3 q4 q5 q6)))
          go_roundw
          case rel => exact ⟨i + 1, _, _, es ++ [⟨ty, ver, tr⟩], _, _, by omega, by go_num, hide (by have := HL.out; simp; omega), hide (by rw [hm2]; exact unhide HEV2), HADD⟩
          case measure => simp [intOf]; omega
        · have HN := hide (evs_none HRF2.out HEV.out (unhide HBAD hfit (evF_none hno)))
          have HB := hide (fun o => (unhide H5).but.trans (But.of_below (hb6.alloc hb6.size o)))
          clear H5 HEV HRF2 HBAD HGOOD HUP hb6 hno
          go_wp2_with fail
          refine (treeWant_no _).mono ?_
          rintro e w7 ⟨rfl, rfl⟩
          exact ⟨rfl, unhide HB _, Or.inr ⟨unhide HN, rfl⟩⟩
      · have h0 := HRU.out
        have hil : ¬ ((i : Int) < (n : Int)) := by omega
        have HN := hide (evs_done HRF2.out HEV.out (by omega))
        obtain ⟨ad, cap, rfl⟩ := h0.form
        have m0 := h0.b4.cell (i := 0) (by omega); have m1 := h0.b4.cell (i := 1) (by omega); have m2 := h0.b4.cell (i := 2) (by omega); have f4 := h0.b4.frozen
        have d0 := h0.b5.cell (i := 0) (by omega); have d1 := h0.b5.cell (i := 1) (by omega); have d2 := h0.b5.cell (i := 2) (by omega)
        simp only [row3] at m0 m1 m2 d0 d1 d2
        have hl : es.length ≤ 1048576 := by have := HL.out; omega
        have HF := hide h0
        clear h0 HRU HEV HRF2
        go_wp2_with fail
        refine bodyPost_ret (v := .agg #[.int .i64 pos, .string key, .slice ad es.length cap]) (by simp [results, Tryz.results16, go_sem, m0, m1, m2]) rfl ?_
        obtain ⟨g1, F, g2, g3, g4⟩ := (unhide HF).fin hl (.int .i64 pos) (.string key) (.slice ad es.length cap)
        exact ⟨g1, Or.inl ⟨key, es, _, F, unhide HN, rfl, g2, g3, g4⟩⟩
end Go.Proofs.YtiflfcjocngiiaaGreatDoor
