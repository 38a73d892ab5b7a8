/- The walks of the program's plainTree and plainTrees, further: forms; kids; the whole. For trees that are ok. -/
import Derived.Test.YtbkagahmiibclaaGreatDoorPart32
namespace Go.Proofs.YtbkagahmiibclaaGreatDoor
open Go Go.RowKit

/-- What the world holds while the fields of a form are copied. -/
structure PG (w : World) (vN vK : Value) (W : World) : Prop where
  below : Below w.heap.size w W
  box : W.rowIs w.heap.size 26 5 (row5 (.int .i64 0) (.int .i64 0) (.string ⟨#[]⟩) (.slice none 0 0) (.slice none 0 0))
  f0 : W.cell? ⟨w.heap.size + 1, 0, none⟩ = some vN
  f1 : W.cell? ⟨w.heap.size + 1, 1, none⟩ = some vK
theorem PG.lt {w W : World} {vN vK : Value} (h : PG w vN vK W) : w.heap.size + 2 ≤ W.heap.size := by have := World.block_lt_of_cell? W _ h.f0; simp at this; omega
theorem PG.next {w W W' : World} {vN vK : Value} (h : PG w vN vK W) (hb : Below W.heap.size W W') : PG w vN vK W' := by
  have hl := h.lt
  exact ⟨h.below.trans (hb.mono h.below.size), h.box.of_block (hb.block _ (by omega)), by rw [World.cell?_of_block (w := W) (a := ⟨w.heap.size + 1, 0, none⟩) (hb.block _ (by show w.heap.size + 1 < _; omega))]; exact h.f0, by rw [World.cell?_of_block (w := W) (a := ⟨w.heap.size + 1, 1, none⟩) (hb.block _ (by show w.heap.size + 1 < _; omega))]; exact h.f1⟩
theorem PG.drewN {w W : World} {vN vK : Value} (h : PG w vN vK W) (n : Nat) : PG w vN vK (W.drewN n) := ⟨below_drewN h.below n, h.box, h.f0, h.f1⟩

/-- Both copies are made. -/
def PBoth (w W : World) (ns : List ByteArray) (ks : List Tr) (vN vK : Value) : Prop := ∃ F, Own W (.mk 5 0 ByteArray.empty ns ks) ⟨.int .i64 5, .int .i64 0, .string ByteArray.empty, vN, vK⟩ F ∧ F.Nodup ∧ (∀ b, b ∈ F → w.heap.size < b ∧ b < W.heap.size) ∧ Below w.heap.size w W

theorem pboth {w W : World} {ns : List ByteArray} {ks : List Tr} {vN vK : Value} {F1 F2 : List Nat} {m : Nat} (h1 : StrsOwn W vN ns F1) (h2 : KidsOwn W vK ks F2) (n1 : F1.Nodup) (n2 : F2.Nodup) (l1 : ∀ b, b ∈ F1 → w.heap.size < b ∧ b < W.heap.size) (l2 : ∀ b, b ∈ F2 → w.heap.size < b ∧ b < W.heap.size)
    (hap : (∀ b, b ∈ F1 → b < m) ∧ (∀ b, b ∈ F2 → m ≤ b) ∨ (∀ b, b ∈ F1 → m ≤ b) ∧ (∀ b, b ∈ F2 → b < m)) (hb : Below w.heap.size w W) : PBoth w W ns ks vN vK := by
  refine ⟨F1 ++ F2, Own.make (t := .mk 5 0 ByteArray.empty ns ks) rfl rfl rfl (show I64 5 from ⟨by decide, by decide⟩) (show I64 0 from ⟨by decide, by decide⟩) (by simp [Tr.text]) h1 h2, ?_, fun b hb => ?_, hb⟩
  · rw [List.nodup_append]
    refine ⟨n1, n2, fun a ha b hb e => ?_⟩
    subst e
    rcases hap with ⟨p1, p2⟩ | ⟨p1, p2⟩
    · have := p1 a ha; have := p2 a hb; omega
    · have := p1 a ha; have := p2 a hb; omega
  · rcases List.mem_append.1 hb with hb | hb
    · exact l1 b hb
    · exact l2 b hb

set_option maxRecDepth 100000 in
set_option maxHeartbeats 800000 in
theorem plain_5 (aN : Option Addr) (capN : Nat) (ns : List ByteArray) (a : Option Addr) (cap : Nat) (ks : List Tr) (w : World)
    (hns : ∀ W, Below w.heap.size w W → Calls Tryz.prog 109 #[.slice aN ns.length capN] W fun e w' => ∃ v' F, e = .returned v' ∧ StrsOwn w' v' ns F ∧ F.Nodup ∧ (∀ b, b ∈ F → W.heap.size ≤ b ∧ b < w'.heap.size) ∧ Below W.heap.size W w')
    (hks : ∀ W, Below w.heap.size w W → Calls Tryz.prog 108 #[.slice a ks.length cap] W fun e w' => PksEnd ks W e w') :
    Calls Tryz.prog 74 #[.iface 139 (.agg #[.slice aN ns.length capN, .slice a ks.length cap])] w fun e w' => PlEnd (.mk 5 0 ByteArray.empty ns ks) w e w' := by
  have hta0 : ∀ w, Sem.run Tryz.prog (Instr.typeAssert (.iface 139 (.agg #[.slice aN ns.length capN, .slice a ks.length cap])) 94 132 true) w = .ok (.tuple #[.int .i64 0, .bool false]) w := fun _ => by kernel_rfl
  have hta1 : ∀ w, Sem.run Tryz.prog (Instr.typeAssert (.iface 139 (.agg #[.slice aN ns.length capN, .slice a ks.length cap])) 94 133 true) w = .ok (.tuple #[.string ByteArray.empty, .bool false]) w := fun _ => by kernel_rfl
  have hta2 : ∀ w, Sem.run Tryz.prog (Instr.typeAssert (.iface 139 (.agg #[.slice aN ns.length capN, .slice a ks.length cap])) 94 134 true) w = .ok (.tuple #[.bool false, .bool false]) w := fun _ => by kernel_rfl
  have hta3 : ∀ w, Sem.run Tryz.prog (Instr.typeAssert (.iface 139 (.agg #[.slice aN ns.length capN, .slice a ks.length cap])) 94 136 true) w = .ok (.tuple #[.slice none 0 0, .bool false]) w := fun _ => by kernel_rfl
  have hta4 : ∀ w, Sem.run Tryz.prog (Instr.typeAssert (.iface 139 (.agg #[.slice aN ns.length capN, .slice a ks.length cap])) 94 139 true) w = .ok (.tuple #[.agg #[.slice aN ns.length capN, .slice a ks.length cap], .bool true]) w := fun _ => by kernel_rfl
  have hN1 : ∀ W, PG w (.slice aN ns.length capN) (.slice a ks.length cap) W → Calls Tryz.prog 109 #[.slice aN ns.length capN] W fun e w' => ∃ (a1 : Option Addr) (cap1 : Nat) (F1 : List Nat), e = .returned (.slice a1 ns.length cap1) ∧ Hid (StrsOwn w' (.slice a1 ns.length cap1) ns F1 ∧ F1.Nodup ∧ (∀ b, b ∈ F1 → w.heap.size < b ∧ b < w'.heap.size)) ∧ Hid (PG w (.slice aN ns.length capN) (.slice a ks.length cap) w') ∧ w'.cell? ⟨w.heap.size + 1, 1, none⟩ = some (.slice a ks.length cap) := fun W hW => by
    refine (hns W hW.below).mono ?_
    rintro e w' ⟨v', F, rfl, h1, h2, h3, h4⟩
    have hg := hW.next h4
    have hl := hW.lt
    obtain ⟨a1, cap1, rfl, -⟩ := id h1
    exact ⟨a1, cap1, F, rfl, ⟨h1, h2, fun b hb => by have := h3 b hb; omega⟩, hg, hg.f1⟩
  have hK2 : ∀ W (a1 : Option Addr) (cap1 : Nat) (F1 : List Nat), PG w (.slice aN ns.length capN) (.slice a ks.length cap) W → StrsOwn W (.slice a1 ns.length cap1) ns F1 ∧ F1.Nodup ∧ (∀ b, b ∈ F1 → w.heap.size < b ∧ b < W.heap.size) → Calls Tryz.prog 108 #[.slice a ks.length cap] W fun e w' => ∃ (a2 : Option Addr) (cap2 : Nat), e = .returned (.slice a2 ks.length cap2) ∧ Hid (PBoth w w' ns ks (.slice a1 ns.length cap1) (.slice a2 ks.length cap2)) ∧ Hid (PG w (.slice aN ns.length capN) (.slice a ks.length cap) w') := fun W a1 cap1 F1 hW ⟨k1, k2, k3⟩ => by
    refine (hks W hW.below).mono ?_
    rintro e w' ⟨a2, cap2, F, rfl, h1, h2, h3, h4⟩
    have hg := hW.next h4
    have hl := hW.lt
    exact ⟨a2, cap2, rfl, pboth (m := W.heap.size) (k1.carry (fun b hb => h4.block b (k3 b hb).2)) h1 k2 h2 (fun b hb => by have := k3 b hb; have := h4.size; omega) (fun b hb => by have := h3 b hb; omega) (Or.inl ⟨fun b hb => (k3 b hb).2, fun b hb => (h3 b hb).1⟩) hg.below, hg⟩
  have HN1 := hide hN1; have HK2 := hide hK2
  clear hN1 hK2 hns hks
  go_enter Tryz.func74, Tryz.ntmps74
  go_wp2_with fail
  obtain ⟨W0, hW0⟩ : ∃ W0, (w.alloc (.cells #[.int .i64 0, .int .i64 0, .string ⟨#[]⟩, .slice none 0 0, .slice none 0 0] 26)).alloc (.cells #[.slice aN ns.length capN, .slice a ks.length cap] 139) = W0 := ⟨_, rfl⟩
  have hg0 : PG w (.slice aN ns.length capN) (.slice a ks.length cap) W0 := by
    rw [← hW0]
    refine ⟨((Below.refl _ _).alloc (Nat.le_refl _) _).alloc (by simp) _, (row5_alloc w _ _ _ _ _ _).alloc _, ?_, ?_⟩
    · simp [go_sem]
    · simp [go_sem]
  rw [hW0]
  have e0 := hg0.f0; have e1 := hg0.f1
  have HG0 := hide hg0
  clear hg0 hW0
  go_region_with (first
    | (go_at_call 109
       refine (unhide HN1 _ (by first | exact unhide HG0 | exact (unhide HG0).drewN 1 | exact (unhide HG0).drewN 2)).mono ?_
       rintro e w2 ⟨a1, cap1, F1, rfl, HS1, HG1, e2⟩)
    | (go_at_call 108
       refine (unhide HK2 _ a1 cap1 F1 (unhide HG1) (unhide HS1)).mono ?_
       rintro e w3 ⟨a2, cap2, rfl, HPB, HG2⟩
       have r2 := (unhide HG2).box
       have y0 := r2.cell (i := 0) (by omega); have y1 := r2.cell (i := 1) (by omega); have y2 := r2.cell (i := 2) (by omega); have y3 := r2.cell (i := 3) (by omega); have y4 := r2.cell (i := 4) (by omega)
       have z0 := r2.frozen 0; have z1 := r2.frozen 1; have z2 := r2.frozen 2; have z3 := r2.frozen 3; have z4 := r2.frozen 4
       simp only [row5] at y0 y1 y2 y3 y4
       clear r2))
  all_goals
    go_wp2_with fail
    refine bodyPost_ret (v := .agg #[.int .i64 5, .int .i64 0, .string ByteArray.empty, .slice a1 ns.length cap1, .slice a2 ks.length cap2]) (by simp [results, Tryz.results74, go_sem, y0, y1, y2, y3, y4]; rfl) rfl ?_
    obtain ⟨F, h1, h2, h3, h4⟩ := unhide HPB
    exact fin_own (c := ⟨_, _, _, _, _⟩) h1 h2 h3 h4

def PlSaid (n : Nat) : Prop := ∀ (t : Tr), tsz t < n → ∀ (p l q : Int), 0 ≤ p → p ≤ 120 → wlk t p l = some q → ∀ (Q : Nat → Prop) (v : Value) (w : World), (∀ b, Q b → b < w.heap.size) → SRep Q w t v → Calls Tryz.prog 74 #[v] w fun e w' => PlEnd t w e w'

theorem wlkK_len : ∀ (ks : List Tr) (p l q : Int), 0 ≤ p → p ≤ 120 → wlkK ks p l = some q → p + ks.length ≤ q ∧ q ≤ 120 := by
  intro ks
  induction ks with
  | nil => intro p l q h0 h1 h; rw [wlkK] at h; simp only [Option.some.injEq] at h; subst h; simp; omega
  | cons t r ih =>
    intro p l q h0 h1 h
    rw [wlkK] at h
    cases hw : wlk t p l with
    | none => rw [hw] at h; cases h
    | some q1 =>
      rw [hw] at h
      have hb := wlk_bd t p l q1 h0 h1 hw
      have := ih q1 l q (by omega) hb.2 h
      simp only [List.length_cons]
      omega
theorem wlkK_get : ∀ (ks : List Tr) (p l q : Int), 0 ≤ p → p ≤ 120 → wlkK ks p l = some q → ∀ i, (hi : i < ks.length) → ∃ p' q', 0 ≤ p' ∧ p' ≤ 120 ∧ wlk ks[i] p' l = some q' := by
  intro ks
  induction ks with
  | nil => intro p l q h0 h1 h i hi; simp at hi
  | cons t r ih =>
    intro p l q h0 h1 h i hi
    rw [wlkK] at h
    cases hw : wlk t p l with
    | none => rw [hw] at h; cases h
    | some q1 =>
      rw [hw] at h
      have hb := wlk_bd t p l q1 h0 h1 hw
      cases i with
      | zero => exact ⟨p, q1, h0, h1, hw⟩
      | succ i => exact ih q1 l q (by omega) hb.2 h i (by simpa using hi)

theorem infoTreeP : (Tryz.prog.info? 26).map (fun i => (i.zero, i.size, i.bytes)) = some (some (.agg #[.int .i64 0, .int .i64 0, .string ByteArray.empty, .slice none 0 0, .slice none 0 0]), 5, 80) := by kernel_rfl

set_option maxRecDepth 100000 in
set_option maxHeartbeats 1600000 in
theorem plainTrees_any (n : Nat) (IH : PlSaid n) (ks : List Tr) (hn : ∀ t, t ∈ ks → tsz t < n) (p l q : Int) (hp0 : 0 ≤ p) (hp1 : p ≤ 120) (hwk : wlkK ks p l = some q) (Q : Nat → Prop) (a : Option Addr) (cap : Nat) (w : World) (hQ : ∀ b, Q b → b < w.heap.size) (hv : SKids Q w (.slice a ks.length cap) ks) :
    Calls Tryz.prog 108 #[.slice a ks.length cap] w fun e w' => PksEnd ks w e w' := by
  have hlen := wlkK_len ks p l q hp0 hp1 hwk
  have hkl : ks.length ≤ 120 := by omega
  have hcell : ∀ i, (hi : i < ks.length) → ∃ b x, a = some ⟨b, 0, none⟩ ∧ Q b ∧ w.cell? ⟨b, i, none⟩ = some x ∧ SRep Q w ks[i] x := fun i hi => by
    obtain ⟨a', cap', e, h⟩ := hv
    simp only [Value.slice.injEq] at e
    obtain ⟨rfl, -, rfl⟩ := e
    obtain ⟨b, e2, hb, hr⟩ := h (fun e => by rw [e] at hi; simp at hi)
    obtain ⟨x, h1, h2⟩ := hr.get i hi
    exact ⟨b, x, e2, hb, by simpa using h1, h2⟩
  have hcall : ∀ i, (hi : i < ks.length) → ∀ x W, Below w.heap.size w W → SRep Q w ks[i] x → Calls Tryz.prog 74 #[x] W fun e w' => PlEnd ks[i] W e w' := fun i hi x W hW hx => by
    obtain ⟨p', q', h0, h1, h2⟩ := wlkK_get ks p l q hp0 hp1 hwk i hi
    exact IH ks[i] (hn _ (List.getElem_mem hi)) p' l q' h0 h1 h2 Q x W (fun b hb => Nat.lt_of_lt_of_le (hQ b hb) hW.size) (SRep.carry (fun b hb => hW.block b (hQ b hb)) (fun _ h => h) _ _ hx)
  obtain ⟨i0, hi, hz0, hz1, hz2⟩ := info_parts infoTreeP
  have HII := hide hi; have HZ0 := hide hz0; have HZ1 := hide hz1; have HZ2 := hide hz2
  have HC := hide hcell; have HCALL := hide hcall; have HQ := hide hQ
  clear hcell hcall hQ hi hz0 hz1 hz2 IH hn hwk hv hlen
  go_enter Tryz.func108, Tryz.ntmps108
  go_wp2_with fail
  go_loopw [3, 8] (fun s i wr => ∃ (k : Nat) (a' : Option Addr) (cap' : Nat) (xs : List Value) (G : List Nat), k ≤ ks.length ∧ i = .int .i64 k ∧ s = .slice a' k cap' ∧ Hid (GotO w.heap.size wr (.slice a' k cap') (ks.take k) xs G) ∧ Hid (Below w.heap.size w wr)) (fun _ i _ => ks.length - (intOf i).toNat)
  case atStart => exact ⟨0, none, 0, [], [], Nat.zero_le _, rfl, rfl, GotO.start _ _, Below.refl _ _⟩
  case round =>
    obtain ⟨k, a', cap', xs, G, hk, rfl, rfl, HG, HB⟩ := hrel
    have hsw := HB.out.size
    have hkk : (ks.take k).length = k := by simp; omega
    have HKL := hide hkk; clear hkk
    by_cases hlt : k < ks.length
    · obtain ⟨b, x, rfl, hqb, hce, hrp⟩ := unhide HC k hlt
      have e0 : wr.cell? ⟨b, k, none⟩ = some x := by rw [World.cell?_of_block (w := w) (a := ⟨b, k, none⟩) (HB.out.block b (unhide HQ b hqb))]; exact hce
      have hcl := unhide HCALL k hlt x wr HB.out hrp
      obtain ⟨T, y, rfl⟩ := hrp.iface
      have htk : ks.take (k + 1) = ks.take k ++ [ks[k]] := List.take_succ_eq_append_getElem hlt
      generalize ks[k] = tk at *
      have HCL := hide hcl; have HTK := hide htk
      clear hcl htk hce hrp hqb
      go_wp2_with fail
      refine (unhide HCL).mono ?_
      rintro e w2 ⟨⟨d0, d1, d2, d3, d4⟩, F, rfl, hown, hFn, hFl, hb2⟩
      have hs2 := hb2.size
      have hg2 : wr.grownBy w2 none := ⟨hb2.os, hb2.tape, hb2.output, hb2.size, fun i hi _ => hb2.block i hi⟩
      have hgot2 := HG.out.kept hg2
      have hGm : ∀ b, b ∈ G → b < wr.heap.size := fun b hb => (HG.out.lt b hb).2.1
      have hvm : ∀ b, (Value.slice a' k cap').ownBlock = some b → b < wr.heap.size := fun b hb => (HG.out.row.lt b hb).2
      obtain ⟨y0, y1, y2, -, -, -, F1, F2, -, ⟨a7, cap7, y3, -⟩, a8, cap8, y4, -⟩ := hown.open
      have hone := hown.one
      simp only at y0 y1 y2 y3 y4
      subst y0 y1 y2 y3 y4
      have HOWN := hide hown; have HFL := hide hFl; have HGOT := hide hgot2; have HGM := hide hGm; have HVM := hide hvm; have HONE := hide hone; have HB2 := hide (HB.out.trans (hb2.mono hsw))
      clear hown hFl hb2 hg2 hgot2 hGm hvm hone e0 HCL
      go_wp2_with (at_builtin; refine append_row _ rfl _ _ 24 rfl w.heap.size 26 i0 _ 5 80 Tryz.underlying24 (unhide HII) (unhide HZ0) (unhide HZ1) (unhide HZ2) rfl (by decide) (.slice a' k cap') k xs rfl (by have := (unhide HGOT).row; rw [unhide HKL] at this; exact this.alloc _) ⟨w2.heap.size, 0, none⟩ 1 1 (c5l ⟨_, _, _, _, _⟩) rfl rfl (cell_five _ _ _) (unhide HONE) (by decide) (by unfold maxLen; omega) (by omega) (by simp; omega) ?_; intro v' w4 hown4 hgrow4 hv4)
      obtain ⟨g', cap'', hv''⟩ : ∃ g' cap'', v' = .slice (some ⟨g', 0, none⟩) (k + 1) cap'' := by
        rcases hown4.2 with ⟨_, h⟩ | ⟨g', cap'', _, h, _⟩
        · omega
        · exact ⟨g', cap'', h⟩
      have hal := World.grownBy_alloc w2 (.cells #[.int .i64 tk.sort, .int .i64 tk.num, .string tk.text, .slice a7 tk.names.length cap7, .slice a8 tk.kids.length cap8] 26) none
      have hlt4 := (unhide HGOT).row.lt
      have hpush := GotO.push (m := wr.heap.size) ((unhide HGOT).kept hal) (Own.carry tk _ F (fun b hb => hal.block b (unhide HFL b hb).2 (by simp)) (unhide HOWN)) hFn (fun b hb => ⟨(unhide HFL b hb).1, by have := (unhide HFL b hb).2; simp; omega⟩) (unhide HGM) (unhide HVM) (by omega) (by rw [unhide HKL]; exact hown4) hgrow4 hv4
      rw [← unhide HTK] at hpush
      have hb4 : Below w.heap.size w2 w4 := ((Below.refl _ w2).alloc (by omega) _).trans ((Below.refl _ _).grown hgrow4 (by simp; omega) (fun k e => (hlt4 k e).1))
      subst hv''
      have HPU := hide hpush; have HB4 := hide ((unhide HB2).trans hb4)
      clear hown4 hgrow4 hv4 hpush hb4 hlt4 hal
      go_roundw
      case rel => exact ⟨k + 1, some ⟨g', 0, none⟩, cap'', _, _, by omega, by go_num, rfl, unhide HPU, unhide HB4⟩
      case measure => simp [intOf]; omega
    · obtain rfl : k = ks.length := by omega
      have hg := HG.out
      rw [List.take_length] at hg
      obtain ⟨F, hKO, hnd, hFl, -⟩ := hg.done
      have HKO := hide hKO; have HFL := hide hFl
      clear hg hKO hFl
      go_wp2_with fail
      go_ret
      exact ⟨a', cap', F, rfl, unhide HKO, hnd, unhide HFL, HB.out⟩

theorem plainTree_step (n : Nat) (IH : PlSaid n) : PlSaid (n + 1) := by
  intro t hn p l q hp0 hp1 hw Q v w hQ hr
  obtain ⟨h1, h2, ho, hnb, hk⟩ := wlk_open hw
  have hlen := wlkK_len t.kids (p + 1) (l + 1) q (by omega) h1 hk
  have hkn : ∀ k, k ∈ t.kids → tsz k < n := fun k hk => by have := tsz_kid hk; omega
  have hpk : ∀ (a : Option Addr) (cap : Nat) (W : World), Below w.heap.size w W → SKids Q w (.slice a t.kids.length cap) t.kids → Calls Tryz.prog 108 #[.slice a t.kids.length cap] W fun e w' => PksEnd t.kids W e w' := fun a cap W hW hs =>
    plainTrees_any n IH t.kids hkn (p + 1) (l + 1) q (by omega) h1 hk Q a cap W (fun b hb => Nat.lt_of_lt_of_le (hQ b hb) hW.size) (hs.carry (fun b hb => hW.block b (hQ b hb)) (fun _ h => h))
  have hba : ∀ o, Below w.heap.size w (w.alloc o) := fun o => (Below.refl _ _).alloc (Nat.le_refl _) o
  rcases shapes ho hnb with ⟨m, rfl, hm⟩ | ⟨x, rfl, hx⟩ | ⟨m, rfl, hm⟩ | ⟨ks, rfl, hks⟩ | ⟨ns, ks, rfl, hnl, hri⟩ | ⟨ks, rfl, hks⟩
  · rw [SRep] at hr
    rcases hr with ⟨-, rfl⟩ | ⟨h, -⟩ | ⟨h, -⟩ | ⟨h, -⟩ | ⟨h, -⟩ | ⟨h, -⟩
    · exact plain_1 m hm w
    all_goals exact absurd h (by decide)
  · rw [SRep] at hr
    rcases hr with ⟨h, -⟩ | ⟨-, rfl⟩ | ⟨h, -⟩ | ⟨h, -⟩ | ⟨h, -⟩ | ⟨h, -⟩
    · exact absurd h (by decide)
    · refine plain_2 x ?_ w
      unfold textOkB at hx
      simp only [Bool.and_eq_true, decide_eq_true_eq] at hx
      omega
    all_goals exact absurd h (by decide)
  · rw [SRep] at hr
    rcases hr with ⟨h, -⟩ | ⟨h, -⟩ | ⟨-, rfl⟩ | ⟨h, -⟩ | ⟨h, -⟩ | ⟨h, -⟩
    · exact absurd h (by decide)
    · exact absurd h (by decide)
    · rcases hm with rfl | rfl
      · exact plain_3b w
      · exact plain_3a w
    all_goals exact absurd h (by decide)
  · rw [SRep] at hr
    rcases hr with ⟨h, -⟩ | ⟨h, -⟩ | ⟨h, -⟩ | ⟨-, a, cap, rfl, hkk⟩ | ⟨h, -⟩ | ⟨h, -⟩
    · exact absurd h (by decide)
    · exact absurd h (by decide)
    · exact absurd h (by decide)
    · exact plain_4 a cap ks w (fun o => hpk a cap (w.alloc o) (hba o) ⟨a, cap, rfl, hkk⟩)
    all_goals exact absurd h (by decide)
  · rw [SRep] at hr
    rcases hr with ⟨h, -⟩ | ⟨h, -⟩ | ⟨h, -⟩ | ⟨h, -⟩ | ⟨-, v3, a, cap, rfl, hst, hkk⟩ | ⟨h, -⟩
    · exact absurd h (by decide)
    · exact absurd h (by decide)
    · exact absurd h (by decide)
    · exact absurd h (by decide)
    · have hst' := hst
      obtain ⟨aN, capN, rfl, hl3, -⟩ := hst
      simp only [Tr.kids] at hlen
      refine plain_5 aN capN ns a cap ks w (fun W hW => ?_) (fun W hW => hpk a cap W hW ⟨a, cap, rfl, hkk⟩)
      refine copyNames_any (.slice aN ns.length capN) ns W (P := Q) (fun b hb => Nat.lt_of_lt_of_le (hQ b hb) hW.size) (hst'.carry (fun b hb => hW.block b (hQ b hb)) (fun _ h => h)) (by omega) (fun x hx => ?_)
      obtain ⟨i, hi, rfl⟩ := List.getElem_of_mem hx
      have := rise_name hri i hi
      unfold nameOkB at this
      simp only [Bool.and_eq_true, decide_eq_true_eq] at this
      omega
    · exact absurd h (by decide)
  · rw [SRep] at hr
    rcases hr with ⟨h, -⟩ | ⟨h, -⟩ | ⟨h, -⟩ | ⟨h, -⟩ | ⟨h, -⟩ | ⟨-, a, cap, rfl, hkk⟩
    · exact absurd h (by decide)
    · exact absurd h (by decide)
    · exact absurd h (by decide)
    · exact absurd h (by decide)
    · exact absurd h (by decide)
    · exact plain_6 a cap ks w (fun o => hpk a cap (w.alloc o) (hba o) ⟨a, cap, rfl, hkk⟩)

theorem plainTree_all : ∀ n, PlSaid n
  | 0 => fun _ h => absurd h (Nat.not_lt_zero _)
  | n + 1 => plainTree_step n (plainTree_all n)
end Go.Proofs.YtbkagahmiibclaaGreatDoor
