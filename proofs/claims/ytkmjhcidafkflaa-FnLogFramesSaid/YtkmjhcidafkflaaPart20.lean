/- The walks of the specification's l45Frames, DrawLogRecords: some records, all ok, and their bytes; nothing turns but the reader. No conditions. -/
import Derived.Test.YtkmjhcidafkflaaPart12
import Derived.Test.YtkmjhcidafkflaaPart16
import Derived.Test.YtkmjhcidafkflaaPart18
import Derived.Test.YtkmjhcidafkflaaPart19
namespace Go.Proofs.Ytkmjhcidafkflaa
open Go Go.RowKit

def rw2D (x y : Value) : Nat → Value
  | 0 => x
  | _ => y
/-- Records have been drawn. -/
def FrDr (R : Nat) (w w' : World) (e : Ending) : Prop :=
  ∃ (L : List Rc) (vL : Value) (F : List Nat), e = .returned (.tuple #[vL, .string (catB L)]) ∧ L.length ≤ 5 ∧ (∀ r, r ∈ L → okR r) ∧ (∃ a cap, vL = .slice a L.length cap ∧ L.length ≤ cap) ∧ RcsOwn w' vL L F ∧ (∀ b, b ∈ F → w.heap.size ≤ b ∧ b < w'.heap.size) ∧ But R w w'

theorem own_cap {w : World} {base : Nat} {e : TypeId} {size : Nat} {a : Option Addr} {n cap : Nat} {xs : List Value} (h : w.ownsRow base e size (.slice a n cap) n xs) : n ≤ cap := by
  rcases h.2 with ⟨hv, h0⟩ | ⟨g, c, u, hv, _, _, hle, _⟩
  · omega
  · simp only [Value.slice.injEq] at hv
    omega
theorem okR_of {p : Int} {d : ByteArray} (h1 : 1 ≤ p) (h2 : p ≤ 999999) (h3 : d.size ≤ 2000) : okR ⟨p, d⟩ := by
  unfold okR frOk; exact decide_eq_true ⟨h1, h2, h3⟩

set_option maxRecDepth 100000 in
set_option maxHeartbeats 3200000 in
theorem l45Frames_any (R : Nat) (w : World) (v : Value) (b : List UInt8) (h : DR R w v b 0) :
    Calls Try.prog 19 #[.pointer (some ⟨R, 0, none⟩)] w fun e w' => FrDr R w w' e := by
  obtain ⟨j0, hj, hy0, hy1, hy2⟩ := infoRecD
  have HJJ := hide hj; have HY0 := hide hy0; have HY1 := hide hy1; have HY2 := hide hy2
  have HEMP := hide (empty_row (base := w.heap.size) (size := 2) (World.rowIs_alloc w #[] 29 (fun _ => .bool false) (fun i hi => by simp at hi)) (Nat.le_refl _))
  have HPK := hide (fun (W : World) (q n : Nat) (hD : DR R W v b q) (hn : 1 ≤ n ∧ n ≤ 1000000) (hq : q ≤ 100000000) => pick_any R W v b q n hD hn (by omega))
  have HP1 := hide (fun o => pick_any R (w.alloc o) v b 0 4 (h.on ((Below.refl _ _).alloc (Nat.le_refl _) o)) (by omega) (by omega))
  have HDA := hide (fun (W : World) (q : Nat) (i : Int) (hD : DR R W v b q) (hq : q ≤ 10000000) (h0 : 0 ≤ i) (h1 : i ≤ 999999) => l45Data_any R W v b q i hD hq h0 h1)
  have hR := h.cells.lt
  clear h hj hy0 hy1 hy2
  go_enter Try.func19, Try.ntmps19
  go_wp2_with fail
  refine (unhide HP1 _).mono ?_
  rintro e w1 ⟨r1, rfl, hr1, HD1, HB1⟩
  have HE1 := hide (ownsRow_keepR (unhide HEMP) (fun g e => HB1.out.at ((unhide HEMP).lt g e).2 (by have := ((unhide HEMP).lt g e).1; omega)))
  have HP2 := hide (unhide HPK w1 1 6 HD1.out (by omega) (by omega))
  have HB01 := hide ((But.alloc R w (.cells #[] 29)).trans HB1.out)
  clear HP1 HEMP HB1
  go_wp2_with fail
  refine (unhide HP2).mono ?_
  rintro e w2 ⟨r2, rfl, hr2, HD2, HB2⟩
  have HE2 := hide (ownsRow_keepR (unhide HE1) (fun g e => HB2.out.at ((unhide HE1).lt g e).2 (by have := ((unhide HE1).lt g e).1; omega)))
  have HB02 := hide (HB01.out.trans HB2.out)
  clear HP2 HE1 HB2 HB01 HD1
  go_wp2_with fail
  go_loopw [4, 5, 6, 7] (fun vo oo pp nn wr => ∃ (L : List Rc) (n m p : Nat) (pos : Int) (ao : Option Addr) (co : Nat) (out : ByteArray), n + m ≤ 5 ∧ vo = .slice ao n co ∧ oo = .string out ∧ pp = .int .i64 pos ∧ nn = .int .i64 m ∧ 1 ≤ pos ∧ pos ≤ 220000 + 400 * n ∧ p ≤ 10 + 10 * n ∧ out.size ≤ 3000 * n ∧ Hid (n = L.length) ∧ Hid (out = catB L) ∧ Hid (∀ r, r ∈ L → okR r) ∧ Hid (wr.ownsRow w.heap.size 29 2 (.slice ao n co) n (L.map Rc.cs).flatten) ∧ Hid (DR R wr v b p) ∧ Hid (But R w wr)) (fun _ _ _ nn _ => (intOf nn).toNat)
  case atStart => exact ⟨[], 0, r2, 2, _, _, _, _, by omega, rfl, rfl, rfl, rfl, by omega, by omega, by omega, by show 0 ≤ _; omega, rfl, rfl, fun r hr => (by cases hr), HE2, HD2, HB02⟩
  case round =>
    clear HE2 HD2 HB02
    obtain ⟨L, n, m, p, pos, ao, co, out, hnm, rfl, rfl, rfl, rfl, hp1, hp2, hp, hos, HL, HOUT, HOK, HO, HD, HB⟩ := hrel
    by_cases hm0 : m = 0
    · subst hm0
      have hsz := HB.out.size
      go_wp2_with fail
      go_returns
      obtain ⟨F, h1, -, h3, -⟩ := FlatOwn.of_row (rs := L.map Rc.cs) (n := 2) (by rw [List.length_map, ← HL.out]; exact HO.out) (fun r hr => by obtain ⟨x, -, rfl⟩ := List.mem_map.1 hr; rfl)
      refine ⟨L, .slice ao n co, F, ?_, by have := HL.out; omega, HOK.out, ⟨ao, co, by rw [← HL.out], by rw [← HL.out]; exact own_cap HO.out⟩, ⟨h1, fun r hr => by have := of_decide_eq_true (HOK.out r hr); show r.data.size ≤ _; omega⟩, h3, HB.out⟩
      show Ending.returned (.tuple #[.slice ao n co, .string out]) = _
      rw [HOUT.out]
    have hmp : 0 < m := by omega
    have HDT := hide (unhide HDA wr p pos HD.out (by omega) (by omega) (by omega))
    clear hm0
    go_wp2_with fail
    refine (unhide HDT).mono ?_
    rintro e w3 ⟨d, p3, rfl, hd, hp3, HD3, HB3⟩
    have HO3 := hide (ownsRow_keepR HO.out (fun g e => HB3.out.at (HO.out.lt g e).2 (by have := (HO.out.lt g e).1; omega)))
    have HB03 := hide (HB.out.trans HB3.out)
    have HGL := hide (fun g (e : Value.ownBlock (.slice ao n co) = some g) => (unhide HO3).lt g e)
    have hs3 := HB3.out.size
    have hs03 := HB.out.size
    obtain ⟨O8, hO8⟩ : ∃ O8, O8 = Obj.cells #[.int .i64 pos, .string d] 29 := ⟨_, rfl⟩
    have HD4 := hide (HD3.out.on ((Below.refl _ _).alloc (Nat.le_refl _) O8))
    have HP4 := hide (unhide HPK _ p3 2 (unhide HD4) (by omega) (by omega))
    rw [hO8] at HD4 HP4
    have HBX := hide (World.rowIs_alloc w3 #[.int .i64 pos, .string d] 29 (rw2D (.int .i64 pos) (.string d)) (fun i hi => by
      have hi2 : i < 2 := by simpa using hi
      rcases (show i = 0 ∨ i = 1 by omega) with rfl | rfl <;> rfl))
    have HOA := hide (World.ownsRow.alloc (unhide HO3) (.cells #[.int .i64 pos, .string d] 29))
    have HBA := hide ((unhide HB03).trans (But.alloc R w3 (.cells #[.int .i64 pos, .string d] 29)))
    clear HDT HO HB HB3 HD HO3 HB03 hO8
    go_wp2_with fail
    refine (unhide HP4).mono ?_
    rintro e w4 ⟨r4, rfl, hr4, HD5, HB4⟩
    have HP5 := hide (unhide HPK w4 (p3 + 1) 300 HD5.out (by omega) (by omega))
    have HB5 := hide ((unhide HBA).trans HB4.out)
    have HX4 := hide (World.rowIs.of_block (unhide HBX) (HB4.out.at (by simp) (by omega)))
    have HO4 := hide (ownsRow_keepR (unhide HOA) (fun g e => HB4.out.at ((unhide HOA).lt g e).2 (by have := ((unhide HOA).lt g e).1; omega)))
    have hs4 := HB4.out.size
    rw [World.size_alloc] at hs4
    clear HP4 HBA HBX HOA HB4 HD4
    go_wp2_with fail
    refine (unhide HP5).mono ?_
    rintro e w5 ⟨r5, rfl, hr5, HD6, HB6⟩
    have HB7 := hide ((unhide HB5).trans HB6.out)
    have x5 := World.rowIs.of_block (unhide HX4) (HB6.out.at (by omega) (by omega))
    have HO5 := hide (ownsRow_keepR (unhide HO4) (fun g e => HB6.out.at ((unhide HO4).lt g e).2 (by have := ((unhide HO4).lt g e).1; omega)))
    have hs5 := HB6.out.size
    have k0 := x5.cell (i := 0) (by simp); have k1 := x5.cell (i := 1) (by simp)
    simp only [rw2D] at k0 k1
    have HX5 := hide x5
    clear HP5 HB5 HX4 HO4 HB6 HD5 x5
    obtain ⟨pr, hpr, hpr1, hpr2⟩ : ∃ pr : Int, (r4 : Int) * (r5 : Int) = pr ∧ 0 ≤ pr ∧ pr < 300 := by
      rcases (show r4 = 0 ∨ r4 = 1 by omega) with rfl | rfl
      · exact ⟨0, by simp, by omega, by omega⟩
      · exact ⟨r5, by simp, by omega, by omega⟩
    have HSPF := hide (fun W => specLogFrame_any pos d (by omega) W)
    have HDO := hide HD6.out
    go_wp2_with (at_builtin; (refine append_row _ rfl _ _ 23 rfl w.heap.size 29 j0 (.agg #[.int .i64 0, .string ByteArray.empty]) 2 24 Try.underlying23 (unhide HJJ) (unhide HY0) (unhide HY1) (unhide HY2) rfl (by decide) (.slice ao n co) n ((L.map Rc.cs).flatten) rfl (World.ownsRow.alloc (unhide HO5) _) ⟨w5.heap.size, 0, none⟩ 1 1 [.int .i64 pos, .string d] rfl rfl (cell_two _ _ _ _) (fun u hu => by simp at hu; rcases hu with rfl | rfl <;> rfl) (by decide) (by unfold maxLen; omega) (by omega) (by simp; omega) ?_; intro v' w6 hown6 hgrow6 hat6; obtain ⟨g6, cap6, rfl, -, -⟩ := hown6.form (by omega); have HO6 := hide hown6; have hgb6 : ∀ x, x < w5.heap.size → (∀ y, Value.ownBlock (.slice ao n co) = some y → x ≠ y) → w6.heap[x]? = w5.heap[x]? := (fun x hx hne => by rw [hgrow6.block x (by simp; omega) (fun e => hne x e.symm rfl), Below.heap_alloc _ _ _ hx]); have HX6 := hide (World.rowIs.of_block (unhide HX5) (hgb6 _ (by omega) (fun y e => by have := (unhide HGL y e).2; omega))); have HD7 := hide ((unhide HDO).block (fun g hg => hgb6 g (by omega) (fun y e => by have := (unhide HGL y e).1; omega)) ((unhide HDO).cells.of_block (hgb6 R (by omega) (fun y e => by have := (unhide HGL y e).1; omega)))); have HB8 := hide (show But R w w6 from ⟨hgrow6.os.trans (unhide HB7).os, hgrow6.tape.trans (unhide HB7).tape, hgrow6.output.trans (unhide HB7).output, by have := hgrow6.size; have := (unhide HB7).size; simp at *; omega, fun k hk hne => (hgb6 k (by omega) (fun y e => by have := (unhide HGL y e).1; omega)).trans ((unhide HB7).block k hk hne)⟩); have hs6 : w5.heap.size + 1 ≤ w6.heap.size := (by have := hgrow6.size; simpa using this); have k0' := World.rowIs.cell (unhide HX6) (i := 0) (by simp); have k1' := World.rowIs.cell (unhide HX6) (i := 1) (by simp); simp only [rw2D] at k0' k1'; clear hown6 hgrow6 hat6 hgb6))
    refine (unhide HSPF _).mono ?_
    rintro e w7 ⟨rfl, hb7⟩
    have HD8 := hide ((unhide HD7).on hb7)
    have HB9 := hide ((unhide HB8).trans (But.of_below hb7))
    have HO7 := hide (ownsRow_keepR (unhide HO6) (fun g e => hb7.block g ((unhide HO6).lt g e).2))
    have hok := okR_of (p := pos) (d := d) hp1 (by omega) hd
    have hfsz : (frB pos d).size = 5 + d.size := by
      have := frL_len hok
      unfold frL at this
      rw [size_list] at this
      exact this
    have HFS := hide hfsz; have HOKR := hide hok
    clear hb7 HB8 HO6 HD7 HX6 k0 k1 k0' k1' HX5 hok
    have hap : (out ++ frB pos d).size = out.size + (5 + d.size) := by rw [ByteArray.size_append, hfsz]
    generalize hfr : frB pos d = fr at *
    have HFR := hide hfr
    have hl2 : ¬ (9223372036854775807 < out.size + fr.size) := by omega
    clear hfr hfsz
    go_wp2_with fail
    go_roundw
    case rel => exact ⟨L ++ [⟨pos, d⟩], n + 1, m - 1, p3 + 1 + 1, pos + 1 + pr, some ⟨g6, 0, none⟩, cap6, out ++ fr, by omega, rfl, rfl, by first | rfl | go_num, by first | rfl | go_num, by omega, by omega, by omega, by omega, hide (by have := HL.out; simp; omega), hide (by rw [catB_snoc, ← HOUT.out, unhide HFR]), hide (fun r hr => by
        rcases List.mem_append.1 hr with h | h
        · exact HOK.out r h
        · simp only [List.mem_singleton] at h; subst h; exact unhide HOKR), hide (by have := unhide HO7; simpa [Rc.cs] using this), HD8, HB9⟩
    case measure => simp [intOf]; omega
end Go.Proofs.Ytkmjhcidafkflaa
