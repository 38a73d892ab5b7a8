/- The walk of the program's RecUnpack. Conditions: the table treeFields is as its text lays it; the text has at most 2^20 bytes. -/
import Derived.Test.YtiflfcjocngiiaaGreatDoorPart23
import Derived.Test.YtiflfcjocngiiaaGreatDoorPart26
import Derived.Test.YtiflfcjocngiiaaGreatDoorPart01
import Derived.Test.YtiflfcjocngiiaaGreatDoorPart06
import Derived.Test.YtiflfcjocngiiaaGreatDoorPart20
import Derived.Deep.RegionWith
namespace Go.Proofs.YtiflfcjocngiiaaGreatDoor
open Go Go.RowKit

/-- A record that was read is given back. -/
def RuEnd (w w' : World) (pos : Int) (X : List UInt8) (e : Ending) : Prop :=
  Below w.heap.size w w' ∧ ((∃ (key : ByteArray) (es : List Ev) (u : Value) (F : List Nat), RuIs pos X (some (key, es)) ∧ e = .returned (.tuple #[.agg #[.int .i64 pos, .string key, u], .bool true]) ∧ EvsOwn w' u es F ∧ F.Nodup ∧ ∀ x, x ∈ F → w.heap.size ≤ x ∧ x < w'.heap.size) ∨
  (RuIs pos X none ∧ e = .returned (.tuple #[.agg #[.int .i64 0, .string ByteArray.empty, .slice none 0 0], .bool false])))
theorem ru_long {pos : Int} {b : List UInt8} (h : 2000 < b.length) : RuIs pos b none := fun k es h1 h2 => by
  unfold recOkB at h1
  simp only [Bool.and_eq_true, decide_eq_true_eq] at h1
  rw [h2] at h1
  omega
theorem RwAt.on {X : Nat} {w w' : World} {s : ByteArray} {pos : Int} (h : RwAt X w s pos) (hb : Below w.heap.size w w') : RwAt X w' s pos :=
  ⟨h.bp.of_block (hb.block _ h.bp.lt), h.bd.of_block (hb.block _ h.bd.lt), h.br.of_block (hb.block _ h.br.lt), h.small⟩
theorem row1_ru (w : World) (v : Value) (t : TypeId) : (w.alloc (.cells #[v] t)).rowIs w.heap.size t 1 (fun _ => v) := World.rowIs_alloc w #[v] t _ (fun i hi => by
  have hi' : i < 1 := hi
  match i, hi' with
  | 0, _ => rfl)
theorem enterRec (caps : Array Value) (W : World) : Sem.run Tryz.prog (callFunc 14 caps) W = .ok (.enter 14 caps) W := by
  kernel_rfl
def rc0 : Obj := .cells #[.int .i64 0, .string ByteArray.empty, .slice none 0 0] 24
/-- The boxes of RecUnpack. -/
theorem rw_start (w : World) (s : ByteArray) (pos : Int) (hs : s.size ≤ 1048576) : RwAt w.heap.size ((((w.alloc (.cells #[.int .i64 pos] 3)).alloc (.cells #[.string s] 9)).alloc rc0).alloc rc0) s pos ∧ ((((w.alloc (.cells #[.int .i64 pos] 3)).alloc (.cells #[.string s] 9)).alloc rc0).alloc rc0).rowIs (w.heap.size + 2) 24 3 (row3 (.int .i64 0) (.string ByteArray.empty) (.slice none 0 0)) ∧ Below w.heap.size w ((((w.alloc (.cells #[.int .i64 pos] 3)).alloc (.cells #[.string s] 9)).alloc rc0).alloc rc0) := by
  have h1 := row1_ru (w.alloc (.cells #[.int .i64 pos] 3)) (.string s) 9
  have h2 := row3_alloc ((w.alloc (.cells #[.int .i64 pos] 3)).alloc (.cells #[.string s] 9)) (.int .i64 0) (.string ByteArray.empty) (.slice none 0 0) 24
  have h3 := row3_alloc (((w.alloc (.cells #[.int .i64 pos] 3)).alloc (.cells #[.string s] 9)).alloc rc0) (.int .i64 0) (.string ByteArray.empty) (.slice none 0 0) 24
  simp only [World.size_alloc] at h1 h2 h3
  exact ⟨⟨(((row1_ru w _ _).alloc _).alloc _).alloc _, (h1.alloc _).alloc _, h3, hs⟩, h2.alloc _, ((((Below.refl _ _).alloc (Nat.le_refl _) _).alloc (by simp) _).alloc (by simp; omega) _).alloc (by simp; omega) _⟩
theorem lstU_loop (s : ByteArray) (n : Nat) : ∀ (i : Nat) (r : List UInt8), s.size - i = n → ByteArray.toList.loop s i r = r.reverse ++ s.data.toList.drop i := by
  induction n with
  | zero =>
    intro i r h
    unfold ByteArray.toList.loop
    rw [if_neg (by omega), List.drop_eq_nil_of_le (by simp only [Array.length_toList]; show s.size ≤ i; omega), List.append_nil]
  | succ n ih =>
    intro i r h
    unfold ByteArray.toList.loop
    have hi : i < s.size := by omega
    have e : s.get! i = s.data.toList[i]'(by simpa using hi) := by
      obtain ⟨d⟩ := s
      exact getElem!_pos d i hi
    have hdrop : s.data.toList.drop i = s.data.toList[i]'(by simpa using hi) :: s.data.toList.drop (i + 1) := List.drop_eq_getElem_cons (by simpa using hi)
    rw [if_pos hi, ih (i + 1) _ (by omega), hdrop, e, List.reverse_cons, List.append_assoc]
    rfl
theorem lstU_data (s : ByteArray) : s.toList = s.data.toList := by
  have := lstU_loop s s.size 0 [] (by omega)
  rw [List.drop_zero] at this
  exact this
theorem recF_nil : recF [] = none := by
  unfold recF; rfl
theorem bA_back {l : List UInt8} {s : ByteArray} (h : bA l = s) : l = s.data.toList := by rw [← h]; simp [bA]
theorem bA_diff {l : List UInt8} {s : ByteArray} (h : ¬ bA l = s) : ((bA l).toList == s.toList) = false ∧ l ≠ s.data.toList := by
  have hne : l ≠ s.data.toList := fun e => h (by
    rw [e]; apply ByteArray.ext; simp [bA])
  refine ⟨?_, hne⟩
  rw [beq_eq_false_iff_ne, lstU_data, lstU_data]
  intro e
  exact hne (by simpa [bA] using e)
/-- The record is put into the box of the answer. -/
theorem RuEnd.yes {w W : World} {pos : Int} {X : List UInt8} {key : ByteArray} {es : List Ev} {u : Value} {F : List Nat} (B : Nat) (hB : w.heap.size ≤ B) (hb : Below w.heap.size w W) (he : EvsOwn W u es F) (hnd : F.Nodup) (hF : ∀ x, x ∈ F → B < x ∧ x < W.heap.size) (hi : RuIs pos X (some (key, es))) (a b c : Value) : RuEnd w (((W.setCell ⟨B, 0, none⟩ a).setCell ⟨B, 1, none⟩ b).setCell ⟨B, 2, none⟩ c) pos X (.returned (.tuple #[.agg #[.int .i64 pos, .string key, u], .bool true])) := by
  have h3 : But B W (((W.setCell ⟨B, 0, none⟩ a).setCell ⟨B, 1, none⟩ b).setCell ⟨B, 2, none⟩ c) := ((But.set W 0 a).trans (But.set _ 1 b)).trans (But.set _ 2 c)
  have hs := hb.size
  refine ⟨hb.trans ⟨h3.os, h3.tape, h3.output, h3.size, fun i hi => h3.at (by omega) (by omega)⟩, Or.inl ⟨key, es, u, F, hi, rfl, he.carry (fun x hx => h3.at (hF x hx).2 (by have := (hF x hx).1; omega)), hnd, fun x hx => ⟨by have := (hF x hx).1; omega, by have := (hF x hx).2; have := h3.size; omega⟩⟩⟩
theorem RuEnd.no {w W : World} {pos : Int} {X : List UInt8} (B : Nat) (hB : w.heap.size ≤ B) (hb : Below w.heap.size w W) (hi : RuIs pos X none) (a b c : Value) : RuEnd w (((W.setCell ⟨B, 0, none⟩ a).setCell ⟨B, 1, none⟩ b).setCell ⟨B, 2, none⟩ c) pos X (.returned (.tuple #[.agg #[.int .i64 0, .string ByteArray.empty, .slice none 0 0], .bool false])) := by
  have h3 : But B W (((W.setCell ⟨B, 0, none⟩ a).setCell ⟨B, 1, none⟩ b).setCell ⟨B, 2, none⟩ c) := ((But.set W 0 a).trans (But.set _ 1 b)).trans (But.set _ 2 c)
  have hs := hb.size
  exact ⟨hb.trans ⟨h3.os, h3.tape, h3.output, h3.size, fun i hi => h3.at (by omega) (by omega)⟩, Or.inr ⟨hi, rfl⟩⟩
end Go.Proofs.YtiflfcjocngiiaaGreatDoor

/- How many marks a tree that is ok takes, against its parts. No program, no conditions. -/

namespace Go.Proofs.YtiflfcjocngiiaaGreatDoor
open Go Go.RowKit

mutual
theorem cT_pT : ∀ (t : Tr) (d : Int), 0 < pT t d → (cT t : Int) + 1 ≤ 4 * pT t d
  | .mk s n tx ns ks, d => by
    intro h
    have hs := ok_names h
    have hb := (ok_bare h).2.2.1
    have he := (ok_alone h).2.2
    have h' := h
    rw [he] at h' ⊢
    simp only [Tr.sort, Tr.names, Tr.kids] at *
    have hk := cK_pK ks d 1 h'
    have hn : ns.length ≤ ks.length := by
      by_cases h5 : s = 5
      · rw [(hs h5).1]; exact Nat.le_refl _
      · rw [hb h5]; simp
    rw [cT]
    omega
theorem cK_pK : ∀ (ks : List Tr) (d n : Int), 0 < pK ks d n → (cK ks : Int) + ks.length + 4 * n ≤ 4 * pK ks d n
  | [], d, n, h => by rw [cK, pK]; simp
  | t :: r, d, n, h => by
    rw [pK] at h ⊢
    split at h
    · omega
    · rename_i hh
      rw [if_neg hh]
      have hh' := not_or.1 hh
      have hp : 0 < pT t (d + 1) := by have := pT_bd t (d + 1); omega
      have i1 := cT_pT t (d + 1) hp
      have i2 := cK_pK r d _ h
      rw [cK]
      simp only [List.length_cons]
      omega
end
end Go.Proofs.YtiflfcjocngiiaaGreatDoor

/- The walk of heldStringS: of what was marked it tells the next mark, and turns nothing that was there. For marks up to 2^40. -/

namespace Go.Proofs.YtiflfcjocngiiaaGreatDoor
open Go Go.RowKit

set_option maxHeartbeats 400000 in
theorem heldStringS_any (v : Value) (ss : List ByteArray) (k : Nat) (w : World) {P : Nat → Prop} (hv : StrsAt P w v (mS k ss)) (hP : ∀ b, P b → b < w.heap.size) (hk0 : 0 < k) (hk : k + ss.length ≤ 1099511627776) :
    Calls Tryz.prog 38 #[v, .int .i64 k] w fun e w' => e = .returned (.int .i64 (k + ss.length : Nat)) ∧ Below w.heap.size w w' := by
  obtain ⟨a, cap, rfl, hlen, hc⟩ := hv
  rw [mS_len] at hlen
  have hc' : ∀ i, i < ss.length → ∃ b o, a = some ⟨b, o, none⟩ ∧ P b ∧ w.cell? ⟨b, o + i, none⟩ = some (.string (mtx (k + i))) := fun i hi => by
    obtain ⟨b, o, e, hp, hcell, _⟩ := hc i (by rw [mS_len]; exact hi)
    rw [mS_get] at hcell
    exact ⟨b, o, e, hp, hcell⟩
  rw [mS_len]
  have HC := hide hc'; have HP := hide hP
  clear hc hc' hP
  go_enter Tryz.func38, Tryz.ntmps38
  go_wp2_with fail
  go_loopw [1, 5] (fun kk i wr => ∃ (j : Nat), j ≤ ss.length ∧ kk = .int .i64 (k + j : Nat) ∧ i = .int .i64 j ∧ Below w.heap.size w wr) (fun _ i _ => ss.length - (intOf i).toNat)
  case atStart => exact ⟨0, Nat.zero_le _, rfl, rfl, Below.refl _ _⟩
  case round =>
    obtain ⟨j, hj, rfl, rfl, hb⟩ := hrel
    by_cases hlt : j < ss.length
    · obtain ⟨b, o, rfl, hpb, hcell⟩ := unhide HC j hlt
      have e1 : wr.cell? ⟨b, o + j, none⟩ = some (.string (mtx (k + j))) := by rw [hb.cell (unhide HP b hpb)]; exact hcell
      have hcall := (markText_any (k + j) wr.drew (by omega) (by omega)).mono (fun e w' (h : e = .returned (.string (mtx (k + j))) ∧ Below wr.drew.heap.size wr.drew w') => (⟨h.1, h.2, by rw [h.2.cell (World.block_lt_of_cell? wr _ e1)]; exact e1⟩ : e = .returned (.string (mtx (k + j))) ∧ Below wr.drew.heap.size wr.drew w' ∧ w'.cell? ⟨b, o + j, none⟩ = some (.string (mtx (k + j)))))
      have HCALL := hide hcall
      clear hcell hpb hcall
      go_wp2_with fail
      go_region_with (go_at_call 35; refine (unhide HCALL).mono ?_; rintro e w' ⟨rfl, hb', hc'⟩)
      all_goals
        have hb2 := hb.drew.trans (hb'.mono hb.drew.size)
        go_wp2_with fail
        go_roundw
        case rel => exact ⟨j + 1, by omega, by go_num, by go_num, hb2⟩
        case measure => simp [intOf]; omega
    · go_wp2_with fail
      go_ret
      obtain rfl : j = ss.length := by omega
      exact ⟨rfl, hb⟩
end Go.Proofs.YtiflfcjocngiiaaGreatDoor

/- The walks of heldTreeS, heldTree: of what was marked they tell the next mark, and turn nothing that was there. For marks up to 2^40. -/

namespace Go.Proofs.YtiflfcjocngiiaaGreatDoor
open Go Go.RowKit

def HeldSaid (n : Nat) : Prop := ∀ (ks : List Tr), lsz ks < n → ∀ (P : Nat → Prop) (a : Option Addr) (cap k : Nat) (w : World), (∀ b, P b → b < w.heap.size) → ks.length ≤ 9223372036854775807 →
    (∀ i, (hi : i < ks.length) → ∃ b o c, a = some ⟨b, o, none⟩ ∧ P b ∧ C5.at w b (o + i * 5) c ∧ Rep P w (mT (k + cK (ks.take i)) ks[i]) c) → 0 < k → k + cK ks ≤ 1099511627776 →
    Calls Tryz.prog 39 #[.slice a ks.length cap, .int .i64 k] w fun e w' => e = .returned (.int .i64 (k + cK ks : Nat)) ∧ Below w.heap.size w w'

theorem heldTree_kids {P : Nat → Prop} {w : World} {k : Nat} {ks : List Tr} {a : Option Addr}
    (h : ∀ i, (hi : i < (mK k ks).length) → ∃ b o c, a = some ⟨b, o, none⟩ ∧ P b ∧ C5.at w b (o + i * 5) c ∧ Rep P w (mK k ks)[i] c) :
    ∀ i, (hi : i < ks.length) → ∃ b o c, a = some ⟨b, o, none⟩ ∧ P b ∧ C5.at w b (o + i * 5) c ∧ Rep P w (mT (k + cK (ks.take i)) ks[i]) c := fun i hi => by
  obtain ⟨b, o, c, h1, h2, h3, h4⟩ := h i (by rw [mK_len]; exact hi)
  rw [mK_get] at h4
  exact ⟨b, o, c, h1, h2, h3, h4⟩

set_option maxHeartbeats 800000 in
theorem heldTreeS_step (n : Nat) (IH : HeldSaid n) : HeldSaid (n + 1) := by
  intro ks hn P a cap k w hP hlen hc hk0 hk
  have HC := hide hc; have HP := hide hP; have HI := hide IH
  clear hc hP IH
  go_enter Tryz.func39, Tryz.ntmps39
  go_wp2_with fail
  go_loopw [1, 5] (fun kk i wr => ∃ (j : Nat), j ≤ ks.length ∧ kk = .int .i64 (k + cK (ks.take j) : Nat) ∧ i = .int .i64 j ∧ Below w.heap.size w wr) (fun _ i _ => ks.length - (intOf i).toNat)
  case atStart => exact ⟨0, Nat.zero_le _, by simp [cK], rfl, Below.refl _ _⟩
  case round =>
    obtain ⟨j, hj, rfl, rfl, hb⟩ := hrel
    by_cases hlt : j < ks.length
    · have hle := cK_take_le ks (j + 1)
      have hsuc := cK_take_succ ks j hlt
      rw [cT_eq] at hsuc
      obtain ⟨b, o, c, rfl, hpb, hat, hrep⟩ := unhide HC j hlt
      have hat' := hat.carry (hb.block b (unhide HP b hpb))
      have hsm : lsz ks[j].kids < n := by have := lsz_kid (List.getElem_mem hlt); omega
      have hle2 : cK (ks.take j) + (3 + ks[j].names.length + cK ks[j].kids) ≤ cK ks := by omega
      have HS := hide hsuc
      generalize hq : k + cK (ks.take j) = q at *
      have HQ := hide hq
      have hq1 : 0 < q := by omega
      have hq2 : q + 3 + ks[j].names.length + cK ks[j].kids ≤ 1099511627776 := by omega
      rw [mT_eq] at hrep
      generalize ks[j].names = nms at *
      generalize ks[j].kids = kds at *
      obtain ⟨e0, e1, e2, -, -, -, hns, a4, cap4, e4, hl4, hks⟩ := hrep.open
      simp only [Tr.sort, Tr.num, Tr.text, Tr.names, Tr.kids] at e0 e1 e2 hns e4 hl4 hks
      obtain ⟨c0, c1, c2, c3, c4⟩ := c
      simp only at e0 e1 e2 e4 hns
      subst e0 e1 e2 e4
      have hks' := heldTree_kids hks
      rw [mK_len] at hl4
      have HNS := hide hns; have HKS := hide hks'
      obtain ⟨y0, y1, y2, y3, y4⟩ := hat'
      simp only [mK_len] at y0 y1 y2 y3 y4
      have hblt : b < wr.heap.size := Nat.lt_of_lt_of_le (unhide HP b hpb) hb.size
      have hcall := (markText_any (q + 2) wr.drew (by omega) (by omega)).mono (fun e w' (h : e = .returned (.string (mtx (q + 2))) ∧ Below wr.drew.heap.size wr.drew w') => (⟨h.1, h.2, (h.2.cell (p := ⟨b, o + j * 5 + 2, none⟩) hblt).trans y2, (h.2.cell (p := ⟨b, o + j * 5 + 3, none⟩) hblt).trans y3, (h.2.cell (p := ⟨b, o + j * 5 + 4, none⟩) hblt).trans y4⟩ :
        e = .returned (.string (mtx (q + 2))) ∧ Below wr.drew.heap.size wr.drew w' ∧ w'.cell? ⟨b, o + j * 5 + 2, none⟩ = some (.string (mtx (q + 2))) ∧ w'.cell? ⟨b, o + j * 5 + 3, none⟩ = some c3 ∧ w'.cell? ⟨b, o + j * 5 + 4, none⟩ = some (.slice a4 kds.length cap4)))
      have HCALL := hide hcall
      have hqi : (q : Int) ≤ 1099511627776 := by omega
      clear hle hle2 hsuc hrep hat hks hns hks' hcall hpb
      go_wp2_with fail
      go_region_with (go_at_call 35; refine (unhide HCALL).mono ?_; rintro e w' ⟨rfl, hb', x2, x3, x4⟩)
      all_goals
        have hb2 := hb.drew.trans (hb'.mono hb.drew.size)
        have HB2 := hide hb2
        clear hb' hb2 y0 y1 y2 y3 y4
        go_wp2_with fail
        refine (heldStringS_any c3 nms (q + 3) w' (P := P) (HNS.out.carry (fun b hb => HB2.out.block b (HP.out b hb)) (fun _ h => h)) (fun b hb => Nat.lt_of_lt_of_le (HP.out b hb) HB2.out.size) (by omega) (by omega)).mono ?_
        rintro e w3 ⟨rfl, hb3⟩
        have z4 : w3.cell? ⟨b, o + j * 5 + 4, none⟩ = some (.slice a4 kds.length cap4) := (hb3.cell (p := ⟨b, o + j * 5 + 4, none⟩) (World.block_lt_of_cell? w' _ x4)).trans x4
        have hb4 := HB2.out.trans (hb3.mono HB2.out.size)
        have HB4 := hide hb4
        clear hb3 hb4 x2 x3 x4
        go_wp2_with fail
        refine (HI.out kds hsm P a4 cap4 (q + 3 + nms.length) w3 (fun b hb => Nat.lt_of_lt_of_le (HP.out b hb) HB4.out.size) hl4 (fun i hi => ?_) (by omega) (by omega)).mono ?_
        · obtain ⟨b, o, c, h1, h2, h3, h4⟩ := HKS.out i hi
          exact ⟨b, o, c, h1, h2, h3.carry (HB4.out.block b (HP.out b h2)), Rep.carry (fun b hb => HB4.out.block b (HP.out b hb)) (fun _ h => h) _ _ h4⟩
        rintro e w5 ⟨rfl, hb5⟩
        have hb6 := HB4.out.trans (hb5.mono HB4.out.size)
        clear hb5
        go_wp2_with fail
        go_roundw
        case rel =>
          refine ⟨j + 1, by omega, ?_, by go_num, hb6⟩
          rw [HS.out]; congr 2; have := HQ.out; omega
        case measure => simp [intOf]; omega
    · go_wp2_with fail
      go_ret
      obtain rfl : j = ks.length := by omega
      rw [List.take_length]
      exact ⟨rfl, hb⟩

theorem heldTreeS_all : ∀ n, HeldSaid n
  | 0 => fun t h => by omega
  | n + 1 => heldTreeS_step n (heldTreeS_all n)

end Go.Proofs.YtiflfcjocngiiaaGreatDoor
