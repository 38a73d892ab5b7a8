/- The walk of heldStringS: of what was marked it tells the next mark, and turns nothing that was there. For marks up to 2^40. -/
import Derived.Test.YtgamonfmgngilaaGreatDoorPart38
import Derived.Deep.RegionWith
import Derived.Deep.CutRange
import Derived.Test.YtgamonfmgngilaaGreatDoorRows
import Derived.Test.YtgamonfmgngilaaGreatDoorPart00
import Derived.Deep.OwnRows
namespace Go.Proofs.YtgamonfmgngilaaGreatDoor
open Go Go.RowKit

set_option maxHeartbeats 400000 in
theorem heldStringS_any (v : Value) (ss : List ByteArray) (k : Nat) (w : World) {P : Nat → Prop} (hv : StrsAt P w v (mS k ss)) (hP : ∀ b, P b → b < w.heap.size) (hk0 : 0 < k) (hk : k + ss.length ≤ 1099511627776) :
    Calls Tryz.prog 80 #[v, .int .i64 k] w fun e w' => e = .returned (.int .i64 (k + ss.length : Nat)) ∧ Below w.heap.size w w' := by
  obtain ⟨a, cap, rfl, hlen, hc⟩ := hv
  rw [mS_len] at hlen
  have hc' : ∀ i, i < ss.length → ∃ b o, a = some ⟨b, o, none⟩ ∧ P b ∧ w.cell? ⟨b, o + i, none⟩ = some (.string (mtx (k + i))) := fun i hi => by
    obtain ⟨b, o, e, hp, hcell, _⟩ := hc i (by rw [mS_len]; exact hi)
    rw [mS_get] at hcell
    exact ⟨b, o, e, hp, hcell⟩
  rw [mS_len]
  have HC := hide hc'; have HP := hide hP
  clear hc hc' hP
  go_enter Tryz.func80, Tryz.ntmps80
  go_wp2_with fail
  go_loopw [1, 5] (fun kk i wr => ∃ (j : Nat), j ≤ ss.length ∧ kk = .int .i64 (k + j : Nat) ∧ i = .int .i64 j ∧ Below w.heap.size w wr) (fun _ i _ => ss.length - (intOf i).toNat)
  case atStart => exact ⟨0, Nat.zero_le _, rfl, rfl, Below.refl _ _⟩
  case round =>
    obtain ⟨j, hj, rfl, rfl, hb⟩ := hrel
    by_cases hlt : j < ss.length
    · obtain ⟨b, o, rfl, hpb, hcell⟩ := unhide HC j hlt
      have e1 : wr.cell? ⟨b, o + j, none⟩ = some (.string (mtx (k + j))) := by rw [hb.cell (unhide HP b hpb)]; exact hcell
      have hcall := (markText_any (k + j) wr.drew (by omega) (by omega)).mono (fun e w' (h : e = .returned (.string (mtx (k + j))) ∧ Below wr.drew.heap.size wr.drew w') => (⟨h.1, h.2, by rw [h.2.cell (World.block_lt_of_cell? wr _ e1)]; exact e1⟩ : e = .returned (.string (mtx (k + j))) ∧ Below wr.drew.heap.size wr.drew w' ∧ w'.cell? ⟨b, o + j, none⟩ = some (.string (mtx (k + j)))))
      have HCALL := hide hcall
      clear hcell hpb hcall
      go_wp2_with fail
      go_region_with (go_at_call 111; refine (unhide HCALL).mono ?_; rintro e w' ⟨rfl, hb', hc'⟩)
      all_goals
        have hb2 := hb.drew.trans (hb'.mono hb.drew.size)
        go_wp2_with fail
        go_roundw
        case rel => exact ⟨j + 1, by omega, by go_num, by go_num, hb2⟩
        case measure => simp [intOf]; omega
    · go_wp2_with fail
      go_ret
      obtain rfl : j = ss.length := by omega
      exact ⟨rfl, hb⟩
end Go.Proofs.YtgamonfmgngilaaGreatDoor

/- The walks of heldTreeS, heldTree: of what was marked they tell the next mark, and turn nothing that was there. For marks up to 2^40. -/

namespace Go.Proofs.YtgamonfmgngilaaGreatDoor
open Go Go.RowKit

def HeldSaid (n : Nat) : Prop := ∀ (ks : List Tr), lsz ks < n → ∀ (P : Nat → Prop) (a : Option Addr) (cap k : Nat) (w : World), (∀ b, P b → b < w.heap.size) → ks.length ≤ 9223372036854775807 →
    (∀ i, (hi : i < ks.length) → ∃ b o c, a = some ⟨b, o, none⟩ ∧ P b ∧ C5.at w b (o + i * 5) c ∧ Rep P w (mT (k + cK (ks.take i)) ks[i]) c) → 0 < k → k + cK ks ≤ 1099511627776 →
    Calls Tryz.prog 81 #[.slice a ks.length cap, .int .i64 k] w fun e w' => e = .returned (.int .i64 (k + cK ks : Nat)) ∧ Below w.heap.size w w'

theorem heldTree_kids {P : Nat → Prop} {w : World} {k : Nat} {ks : List Tr} {a : Option Addr}
    (h : ∀ i, (hi : i < (mK k ks).length) → ∃ b o c, a = some ⟨b, o, none⟩ ∧ P b ∧ C5.at w b (o + i * 5) c ∧ Rep P w (mK k ks)[i] c) :
    ∀ i, (hi : i < ks.length) → ∃ b o c, a = some ⟨b, o, none⟩ ∧ P b ∧ C5.at w b (o + i * 5) c ∧ Rep P w (mT (k + cK (ks.take i)) ks[i]) c := fun i hi => by
  obtain ⟨b, o, c, h1, h2, h3, h4⟩ := h i (by rw [mK_len]; exact hi)
  rw [mK_get] at h4
  exact ⟨b, o, c, h1, h2, h3, h4⟩

set_option maxHeartbeats 800000 in
theorem heldTreeS_step (n : Nat) (IH : HeldSaid n) : HeldSaid (n + 1) := by
  intro ks hn P a cap k w hP hlen hc hk0 hk
  have HC := hide hc; have HP := hide hP; have HI := hide IH
  clear hc hP IH
  go_enter Tryz.func81, Tryz.ntmps81
  go_wp2_with fail
  go_loopw [1, 5] (fun kk i wr => ∃ (j : Nat), j ≤ ks.length ∧ kk = .int .i64 (k + cK (ks.take j) : Nat) ∧ i = .int .i64 j ∧ Below w.heap.size w wr) (fun _ i _ => ks.length - (intOf i).toNat)
  case atStart => exact ⟨0, Nat.zero_le _, by simp [cK], rfl, Below.refl _ _⟩
  case round =>
    obtain ⟨j, hj, rfl, rfl, hb⟩ := hrel
    by_cases hlt : j < ks.length
    · have hle := cK_take_le ks (j + 1)
      have hsuc := cK_take_succ ks j hlt
      rw [cT_eq] at hsuc
      obtain ⟨b, o, c, rfl, hpb, hat, hrep⟩ := unhide HC j hlt
      have hat' := hat.carry (hb.block b (unhide HP b hpb))
      have hsm : lsz ks[j].kids < n := by have := lsz_kid (List.getElem_mem hlt); omega
      have hle2 : cK (ks.take j) + (3 + ks[j].names.length + cK ks[j].kids) ≤ cK ks := by omega
      have HS := hide hsuc
      generalize hq : k + cK (ks.take j) = q at *
      have HQ := hide hq
      have hq1 : 0 < q := by omega
      have hq2 : q + 3 + ks[j].names.length + cK ks[j].kids ≤ 1099511627776 := by omega
      rw [mT_eq] at hrep
      generalize ks[j].names = nms at *
      generalize ks[j].kids = kds at *
      obtain ⟨e0, e1, e2, -, -, -, hns, a4, cap4, e4, hl4, hks⟩ := hrep.open
      simp only [Tr.sort, Tr.num, Tr.text, Tr.names, Tr.kids] at e0 e1 e2 hns e4 hl4 hks
      obtain ⟨c0, c1, c2, c3, c4⟩ := c
      simp only at e0 e1 e2 e4 hns
      subst e0 e1 e2 e4
      have hks' := heldTree_kids hks
      rw [mK_len] at hl4
      have HNS := hide hns; have HKS := hide hks'
      obtain ⟨y0, y1, y2, y3, y4⟩ := hat'
      simp only [mK_len] at y0 y1 y2 y3 y4
      have hblt : b < wr.heap.size := Nat.lt_of_lt_of_le (unhide HP b hpb) hb.size
      have hcall := (markText_any (q + 2) wr.drew (by omega) (by omega)).mono (fun e w' (h : e = .returned (.string (mtx (q + 2))) ∧ Below wr.drew.heap.size wr.drew w') => (⟨h.1, h.2, (h.2.cell (p := ⟨b, o + j * 5 + 2, none⟩) hblt).trans y2, (h.2.cell (p := ⟨b, o + j * 5 + 3, none⟩) hblt).trans y3, (h.2.cell (p := ⟨b, o + j * 5 + 4, none⟩) hblt).trans y4⟩ :
        e = .returned (.string (mtx (q + 2))) ∧ Below wr.drew.heap.size wr.drew w' ∧ w'.cell? ⟨b, o + j * 5 + 2, none⟩ = some (.string (mtx (q + 2))) ∧ w'.cell? ⟨b, o + j * 5 + 3, none⟩ = some c3 ∧ w'.cell? ⟨b, o + j * 5 + 4, none⟩ = some (.slice a4 kds.length cap4)))
      have HCALL := hide hcall
      have hqi : (q : Int) ≤ 1099511627776 := by omega
      clear hle hle2 hsuc hrep hat hks hns hks' hcall hpb
      go_wp2_with fail
      go_region_with (go_at_call 111; refine (unhide HCALL).mono ?_; rintro e w' ⟨rfl, hb', x2, x3, x4⟩)
      all_goals
        have hb2 := hb.drew.trans (hb'.mono hb.drew.size)
        have HB2 := hide hb2
        clear hb' hb2 y0 y1 y2 y3 y4
        go_wp2_with fail
        refine (heldStringS_any c3 nms (q + 3) w' (P := P) (HNS.out.carry (fun b hb => HB2.out.block b (HP.out b hb)) (fun _ h => h)) (fun b hb => Nat.lt_of_lt_of_le (HP.out b hb) HB2.out.size) (by omega) (by omega)).mono ?_
        rintro e w3 ⟨rfl, hb3⟩
        have z4 : w3.cell? ⟨b, o + j * 5 + 4, none⟩ = some (.slice a4 kds.length cap4) := (hb3.cell (p := ⟨b, o + j * 5 + 4, none⟩) (World.block_lt_of_cell? w' _ x4)).trans x4
        have hb4 := HB2.out.trans (hb3.mono HB2.out.size)
        have HB4 := hide hb4
        clear hb3 hb4 x2 x3 x4
        go_wp2_with fail
        refine (HI.out kds hsm P a4 cap4 (q + 3 + nms.length) w3 (fun b hb => Nat.lt_of_lt_of_le (HP.out b hb) HB4.out.size) hl4 (fun i hi => ?_) (by omega) (by omega)).mono ?_
        · obtain ⟨b, o, c, h1, h2, h3, h4⟩ := HKS.out i hi
          exact ⟨b, o, c, h1, h2, h3.carry (HB4.out.block b (HP.out b h2)), Rep.carry (fun b hb => HB4.out.block b (HP.out b hb)) (fun _ h => h) _ _ h4⟩
        rintro e w5 ⟨rfl, hb5⟩
        have hb6 := HB4.out.trans (hb5.mono HB4.out.size)
        clear hb5
        go_wp2_with fail
        go_roundw
        case rel =>
          refine ⟨j + 1, by omega, ?_, by go_num, hb6⟩
          rw [HS.out]; congr 2; have := HQ.out; omega
        case measure => simp [intOf]; omega
    · go_wp2_with fail
      go_ret
      obtain rfl : j = ks.length := by omega
      rw [List.take_length]
      exact ⟨rfl, hb⟩

theorem heldTreeS_all : ∀ n, HeldSaid n
  | 0 => fun t h => by omega
  | n + 1 => heldTreeS_step n (heldTreeS_all n)

set_option maxHeartbeats 400000 in
theorem heldTree_any (t : Tr) (s n : Int) (tx : ByteArray) (P : Nat → Prop) (c : C5) (k : Nat) (w : World) (hP : ∀ b, P b → b < w.heap.size) (h : Rep P w (.mk s n tx (mS k t.names) (mK (k + t.names.length) t.kids)) c) (hk0 : 0 < k) (hk : k + t.names.length + cK t.kids ≤ 1099511627776) :
    Calls Tryz.prog 45 #[.agg #[c.c0, c.c1, c.c2, c.c3, c.c4], .int .i64 k] w fun e w' => e = .returned (.int .i64 (k + t.names.length + cK t.kids : Nat)) ∧ Below w.heap.size w w' := by
  generalize t.names = nms at *
  generalize t.kids = kds at *
  obtain ⟨-, -, -, -, -, -, hns, a4, cap4, e4, hl4, hks⟩ := h.open
  simp only [Tr.names, Tr.kids] at hns e4 hl4 hks
  obtain ⟨c0, c1, c2, c3, c4⟩ := c
  simp only at hns e4
  rw [mK_len] at hl4 e4
  subst e4
  have HN := hide hns; have HK := hide (heldTree_kids hks); have HP := hide hP
  clear hns hks hP h
  go_enter Tryz.func45, Tryz.ntmps45
  go_wp2_with fail
  have hbx : Below w.heap.size w (w.alloc (.cells #[c0, c1, c2, c3, .slice a4 kds.length cap4] 26)) := (Below.refl _ _).alloc (Nat.le_refl _) _
  refine (heldStringS_any c3 nms k _ (P := P) (HN.out.carry (fun b hb => hbx.block b (HP.out b hb)) (fun _ h => h)) (fun b hb => Nat.lt_of_lt_of_le (HP.out b hb) hbx.size) (by omega) (by omega)).mono ?_
  rintro e w1 ⟨rfl, hb1⟩
  obtain ⟨q0, hsz, hb01⟩ := box1 hb1
  have k4 := q0.cell (i := 4) (by omega)
  simp only [row5] at k4
  have HB1 := hide hb01
  clear hb1 q0 hb01 hbx
  go_wp2_with fail
  refine (heldTreeS_all (lsz kds + 1) kds (by omega) P a4 cap4 (k + nms.length) w1 (fun b hb => Nat.lt_of_lt_of_le (HP.out b hb) HB1.out.size) hl4 (fun i hi => ?_) (by omega) (by omega)).mono ?_
  · obtain ⟨b, o, c, h1, h2, h3, h4⟩ := HK.out i hi
    exact ⟨b, o, c, h1, h2, h3.carry (HB1.out.block b (HP.out b h2)), Rep.carry (fun b hb => HB1.out.block b (HP.out b hb)) (fun _ h => h) _ _ h4⟩
  rintro e w2 ⟨rfl, hb2⟩
  have hb3 := HB1.out.trans (hb2.mono HB1.out.size)
  go_wp2_with fail
  go_ret
  exact ⟨rfl, hb3⟩
end Go.Proofs.YtgamonfmgngilaaGreatDoor

/- The walks of the law's own markEvent and heldEvent, over an event that owns its memory. No conditions but on the number of marks. -/

namespace Go.Proofs.YtgamonfmgngilaaGreatDoor
open Go Go.RowKit

set_option maxRecDepth 100000 in
set_option maxHeartbeats 800000 in
theorem markEvent_own (ty : ByteArray) (ver : Int) (t : Tr) (c : C5) (F : List Nat) (k : Nat) (w : World) (h : Own w t c F) (hnd : F.Nodup) (hlt : ∀ x, x ∈ F → x < w.heap.size) (hk0 : 0 < k) (hk : k + t.names.length + cK t.kids ≤ 1099511627776) :
    Calls Tryz.prog 19 #[.agg #[.string ty, .int .i64 ver, c.c0, c.c1, c.c2, c.c3, c.c4], .int .i64 k] w fun e w' => e = .returned (.int .i64 (k + t.names.length + cK t.kids : Nat)) ∧ Own w' (.mk t.sort t.num t.text (mS k t.names) (mK (k + t.names.length) t.kids)) c F ∧ Exc F w w' := by
  obtain ⟨c0, c1, c2, c3, c4⟩ := c
  have hlk : ∀ o, Exc F w (w.alloc o) := fun o => Exc.of_below ((Below.refl _ _).alloc (Nat.le_refl _) o)
  have HC := hide (fun o => markTree_any t ⟨c0, c1, c2, c3, c4⟩ F k (w.alloc o) (Own.carry t _ F (fun x hx => Below.heap_alloc _ _ _ (hlt x hx)) h) hnd (fun x hx => by rw [World.size_alloc]; have := hlt x hx; omega) hk0 hk)
  have HLK := hide hlk
  clear h hlk hlt hnd
  go_enter Tryz.func19, Tryz.ntmps19
  go_wp2_with fail
  refine (unhide HC _).mono ?_
  rintro e w2 ⟨rfl, ho2, hl2⟩
  have HL2 := hide ((unhide HLK _).trans hl2)
  have HO2 := hide ho2
  clear hl2 ho2
  go_wp2_with fail
  go_ret
  exact ⟨rfl, unhide HO2, unhide HL2⟩

set_option maxRecDepth 100000 in
set_option maxHeartbeats 800000 in
theorem heldEvent_any (ty : ByteArray) (ver : Int) (t : Tr) (s n : Int) (tx : ByteArray) (P : Nat → Prop) (c : C5) (k : Nat) (w : World) (hP : ∀ b, P b → b < w.heap.size) (h : Rep P w (.mk s n tx (mS k t.names) (mK (k + t.names.length) t.kids)) c) (hk0 : 0 < k) (hk : k + t.names.length + cK t.kids ≤ 1099511627776) :
    Calls Tryz.prog 20 #[.agg #[.string ty, .int .i64 ver, c.c0, c.c1, c.c2, c.c3, c.c4], .int .i64 k] w fun e w' => e = .returned (.int .i64 (k + t.names.length + cK t.kids : Nat)) ∧ Below w.heap.size w w' := by
  obtain ⟨c0, c1, c2, c3, c4⟩ := c
  have hbx : ∀ o, Below w.heap.size w (w.alloc o) := fun o => (Below.refl _ _).alloc (Nat.le_refl _) o
  have HC := hide (fun o => heldTree_any t s n tx P ⟨c0, c1, c2, c3, c4⟩ k (w.alloc o) (fun b hb => Nat.lt_of_lt_of_le (hP b hb) (hbx o).size) (Rep.carry (fun b hb => (hbx o).block b (hP b hb)) (fun _ h => h) _ _ h) hk0 hk)
  have HBX := hide hbx
  clear h hbx hP
  generalize hm : k + t.names.length + cK t.kids = m at *
  have hmi : decide ((m : Int) < 0) = false := by simp
  go_enter Tryz.func20, Tryz.ntmps20
  go_wp2_with fail
  refine (unhide HC _).mono ?_
  rintro e w2 ⟨rfl, hl2⟩
  have HL2 := hide ((unhide HBX _).trans (hl2.mono (unhide HBX _).size))
  clear hl2
  go_wp2_with fail
  go_ret
  exact ⟨rfl, unhide HL2⟩
end Go.Proofs.YtgamonfmgngilaaGreatDoor

/- Small laws of lists of strings, of a cell that is set. No program walked but one fact of its types; no conditions. -/

namespace Go.Proofs.YtgamonfmgngilaaGreatDoor
open Go Go.RowKit

theorem wS_take (ss : List ByteArray) (k : Nat) (h : k < ss.length) : wS (ss.take (k + 1)) = wS (ss.take k) + ss[k].size + 1 := by
  induction ss generalizing k with
  | nil => simp at h
  | cons a r ih =>
    cases k with
    | zero => simp [wS]
    | succ k => simp only [List.take_succ_cons, wS, List.getElem_cons_succ]; rw [ih k (by simpa using h)]; omega

theorem infoString : (Tryz.prog.info? 9).map (fun i => (i.zero, i.size, i.bytes)) = some (some (.string ByteArray.empty), 1, 16) := by kernel_rfl
theorem size_setCell (w : World) (a : Addr) (v : Value) : (w.setCell a v).heap.size = w.heap.size := by simp [World.setCell]
end Go.Proofs.YtgamonfmgngilaaGreatDoor

/- The walk of the law's own eqStringS: two slices of the same strings are the same. No conditions. -/

namespace Go.Proofs.YtgamonfmgngilaaGreatDoor
open Go Go.RowKit

set_option maxHeartbeats 400000 in
theorem eqStringS_any (v u : Value) (ss : List ByteArray) (w : World) {P Q : Nat → Prop} (hv : StrsAt P w v ss) (hu : StrsAt Q w u ss) (hP : ∀ b, P b → b < w.heap.size) (hQ : ∀ b, Q b → b < w.heap.size) :
    Calls Tryz.prog 76 #[v, u] w fun e w' => e = .returned (.bool true) ∧ Below w.heap.size w w' := by
  obtain ⟨a, cap, rfl, hlen, hc⟩ := hv
  obtain ⟨a2, cap2, rfl, -, hc2⟩ := hu
  have HC := hide hc; have HC2 := hide hc2; have HP := hide hP; have HQ := hide hQ
  clear hc hc2 hP hQ
  have hne : ((ss.length : Int) != (ss.length : Int)) = false := by simp
  go_enter Tryz.func76, Tryz.ntmps76
  go_wp2_with fail
  clear hne
  go_loopw [5] (fun i wr => ∃ (k : Nat), k ≤ ss.length ∧ i = .int .i64 k ∧ Below w.heap.size w wr) (fun i _ => ss.length - (intOf i).toNat)
  case atStart => exact ⟨0, Nat.zero_le _, rfl, Below.refl _ _⟩
  case round =>
    obtain ⟨k, hk, rfl, hb⟩ := hrel
    by_cases hlt : k < ss.length
    · obtain ⟨b, o, rfl, hpb, hcell, -⟩ := unhide HC k hlt
      obtain ⟨b2, o2, rfl, hpb2, hcell2, -⟩ := unhide HC2 k hlt
      have e1 : wr.cell? ⟨b, o + k, none⟩ = some (.string ss[k]) := by rw [hb.cell (unhide HP b hpb)]; exact hcell
      have e2 : wr.cell? ⟨b2, o2 + k, none⟩ = some (.string ss[k]) := by rw [hb.cell (unhide HQ b2 hpb2)]; exact hcell2
      clear hcell hcell2 hpb hpb2
      go_wp2_with fail
      go_region
      go_wp2_with fail
      go_roundw
      case rel => exact ⟨k + 1, by omega, by go_num, hb.drew⟩
      case measure => simp [intOf]; omega
    · go_wp2_with fail
      go_ret
      exact ⟨rfl, hb⟩
end Go.Proofs.YtgamonfmgngilaaGreatDoor

/- The walks of eqStringS, eqTree, eqTreeS: of two trees that lie in memory as one and the same they answer true, and turn nothing that was there. No conditions. -/

namespace Go.Proofs.YtgamonfmgngilaaGreatDoor
open Go Go.RowKit

def EqSaid (n : Nat) : Prop := ∀ (t : Tr), tsz t < n → ∀ (P Q : Nat → Prop) (c d : C5) (w : World), (∀ b, P b → b < w.heap.size) → (∀ b, Q b → b < w.heap.size) → Rep P w t c → Rep Q w t d →
    Calls Tryz.prog 43 #[.agg #[c.c0, c.c1, c.c2, c.c3, c.c4], .agg #[d.c0, d.c1, d.c2, d.c3, d.c4]] w fun e w' => e = .returned (.bool true) ∧ Below w.heap.size w w'

set_option maxHeartbeats 400000 in
theorem eqTreeS_any (n : Nat) (IH : EqSaid n) (t : Tr) (hn : tsz t ≤ n) (P Q : Nat → Prop) (a a2 : Option Addr) (cap cap2 : Nat) (w : World) (hP : ∀ b, P b → b < w.heap.size) (hQ : ∀ b, Q b → b < w.heap.size)
    (hlen : t.kids.length ≤ 9223372036854775807)
    (hc : ∀ i, (hi : i < t.kids.length) → ∃ b o c, a = some ⟨b, o, none⟩ ∧ P b ∧ C5.at w b (o + i * 5) c ∧ Rep P w t.kids[i] c)
    (hc2 : ∀ i, (hi : i < t.kids.length) → ∃ b o c, a2 = some ⟨b, o, none⟩ ∧ Q b ∧ C5.at w b (o + i * 5) c ∧ Rep Q w t.kids[i] c) :
    Calls Tryz.prog 77 #[.slice a t.kids.length cap, .slice a2 t.kids.length cap2] w fun e w' => e = .returned (.bool true) ∧ Below w.heap.size w w' := by
  generalize hks : t.kids = ks at *
  have HK := hide hks; clear hks
  have HC := hide hc; clear hc
  have HC2 := hide hc2; clear hc2
  have HP := hide hP; clear hP
  have HQ := hide hQ; clear hQ
  have HI := hide IH; clear IH
  go_enter Tryz.func77, Tryz.ntmps77
  go_wp2_with fail
  go_loopw [5] (fun i wr => ∃ (k : Nat), k ≤ ks.length ∧ i = .int .i64 k ∧ Below w.heap.size w wr) (fun i _ => ks.length - (intOf i).toNat)
  case atStart => exact ⟨0, Nat.zero_le _, rfl, Below.refl _ _⟩
  case round =>
    obtain ⟨k, hk, rfl, hb⟩ := hrel
    by_cases hlt : k < ks.length
    · obtain ⟨b, o, c, rfl, hpb, hcell, hrep⟩ := unhide HC k hlt
      obtain ⟨b2, o2, d, rfl, hpb2, hcell2, hrep2⟩ := unhide HC2 k hlt
      have hcell' := hcell.carry (hb.block b (unhide HP b hpb))
      have hcell2' := hcell2.carry (hb.block b2 (unhide HQ b2 hpb2))
      obtain ⟨c0, c1, c2, c3, c4⟩ := c
      obtain ⟨d0, d1, d2, d3, d4⟩ := d
      obtain ⟨e0, e1, e2, e3, e4⟩ := hcell'
      obtain ⟨g0, g1, g2, g3, g4⟩ := hcell2'
      simp only at e0 e1 e2 e3 e4 g0 g1 g2 g3 g4
      have hmem : ks[k] ∈ t.kids := by rw [unhide HK]; exact List.getElem_mem hlt
      have hsm : tsz ks[k] < n := by have := tsz_kid hmem; omega
      have hcall := unhide HI ks[k] hsm P Q ⟨c0, c1, c2, c3, c4⟩ ⟨d0, d1, d2, d3, d4⟩ wr.drew (fun b hb' => Nat.lt_of_lt_of_le (unhide HP b hb') hb.size) (fun b hb' => Nat.lt_of_lt_of_le (unhide HQ b hb') hb.size) (Rep.carry (w' := wr.drew) (fun b hb' => hb.drew.block b (unhide HP b hb')) (fun _ h => h) _ _ hrep) (Rep.carry (w' := wr.drew) (fun b hb' => hb.drew.block b (unhide HQ b hb')) (fun _ h => h) _ _ hrep2)
      have HCALL := hide hcall
      clear hrep hcell hpb hrep2 hcell2 hpb2 hmem hcall HC HC2
      go_wp2_with fail
      go_region_with (go_at_call 43; refine (unhide HCALL).mono ?_; rintro e w' ⟨rfl, hb'⟩)
      all_goals
        have hb2 := hb.drew.trans (hb'.mono hb.drew.size)
        go_wp2_with fail
        go_roundw
        case rel => exact ⟨k + 1, by omega, by go_num, hb2⟩
        case measure => simp [intOf]; omega
    · go_wp2_with fail
      go_ret
      exact ⟨rfl, hb⟩

set_option maxHeartbeats 400000 in
theorem eqTree_step (n : Nat) (IH : EqSaid n) : EqSaid (n + 1) := by
  intro t hn P Q c d w hP hQ hrep hrep2
  obtain ⟨c0, c1, c2, c3, c4⟩ := c
  obtain ⟨d0, d1, d2, d3, d4⟩ := d
  obtain ⟨e0, e1, e2, -, -, -, hns, a, cap, e4, hlen, hks⟩ := hrep.open
  obtain ⟨g0, g1, g2, -, -, -, hns2, a2, cap2, g4, -, hks2⟩ := hrep2.open
  simp only at e0 e1 e2 e4 hns g0 g1 g2 g4 hns2
  subst e0 e1 e2 e4 g0 g1 g2 g4
  have HP := hide hP; have HK := hide hks; have HN := hide hns; have HI := hide IH; have HQ := hide hQ; have HK2 := hide hks2; have HN2 := hide hns2
  clear hP hQ hks hns hks2 hns2 IH hrep hrep2
  have hbx : ∀ o o2, Below w.heap.size w ((w.alloc o).alloc o2) := fun o o2 => ((Below.refl _ _).alloc (Nat.le_refl _) o).alloc (by simp) o2
  have HBX := hide hbx; clear hbx
  go_enter Tryz.func43, Tryz.ntmps43
  go_wp2_with fail
  refine (eqStringS_any c3 d3 t.names _ (P := P) (Q := Q) ((unhide HN).carry (fun b hb => (unhide HBX _ _).block b (unhide HP b hb)) (fun _ h => h)) ((unhide HN2).carry (fun b hb => (unhide HBX _ _).block b (unhide HQ b hb)) (fun _ h => h)) (fun b hb => Nat.lt_of_lt_of_le (unhide HP b hb) (unhide HBX _ _).size) (fun b hb => Nat.lt_of_lt_of_le (unhide HQ b hb) (unhide HBX _ _).size)).mono ?_
  rintro e w1 ⟨rfl, hb1⟩
  obtain ⟨q0, q1, hsz1, hb01⟩ := box2 hb1
  have k0 := q0.cell (i := 4) (by omega)
  have k1 := q1.cell (i := 4) (by omega)
  simp only [row5] at k0 k1
  have HB1 := hide hb01
  clear hb1 q0 q1 hb01
  go_wp2_with fail
  refine (eqTreeS_any n (unhide HI) t (by omega) P Q a a2 cap cap2 w1 (fun b hb => Nat.lt_of_lt_of_le (unhide HP b hb) (unhide HB1).size) (fun b hb => Nat.lt_of_lt_of_le (unhide HQ b hb) (unhide HB1).size) hlen (fun i hi => ?_) (fun i hi => ?_)).mono ?_
  · obtain ⟨b, o, c, h1, h2, h3, h4⟩ := unhide HK i hi
    exact ⟨b, o, c, h1, h2, h3.carry ((unhide HB1).block b (unhide HP b h2)), Rep.carry (fun b hb => (unhide HB1).block b (unhide HP b hb)) (fun _ h => h) _ _ h4⟩
  · obtain ⟨b, o, c, h1, h2, h3, h4⟩ := unhide HK2 i hi
    exact ⟨b, o, c, h1, h2, h3.carry ((unhide HB1).block b (unhide HQ b h2)), Rep.carry (fun b hb => (unhide HB1).block b (unhide HQ b hb)) (fun _ h => h) _ _ h4⟩
  rintro e w2 ⟨rfl, hb2⟩
  have hb3 := (unhide HB1).trans (hb2.mono (unhide HB1).size)
  go_wp2_with fail
  go_ret
  exact ⟨rfl, hb3⟩

theorem eqTree_all : ∀ n, EqSaid n
  | 0 => fun t h => by omega
  | n + 1 => eqTree_step n (eqTree_all n)

theorem eqTree_any (t : Tr) (P Q : Nat → Prop) (c d : C5) (w : World) (hP : ∀ b, P b → b < w.heap.size) (hQ : ∀ b, Q b → b < w.heap.size) (h1 : Rep P w t c) (h2 : Rep Q w t d) :
    Calls Tryz.prog 43 #[.agg #[c.c0, c.c1, c.c2, c.c3, c.c4], .agg #[d.c0, d.c1, d.c2, d.c3, d.c4]] w fun e w' => e = .returned (.bool true) ∧ Below w.heap.size w w' :=
  eqTree_all (tsz t + 1) t (by omega) P Q c d w hP hQ h1 h2
end Go.Proofs.YtgamonfmgngilaaGreatDoor
