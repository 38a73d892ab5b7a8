/- A part. -/
import Derived.Test.YtccnehcpmkgbhaaGreatDoorPart15
namespace Go.Proofs.YtccnehcpmkgbhaaGreatDoor
open Go Go.RowKit
set_option maxRecDepth 100000
set_option maxHeartbeats 1600000
structure PG (w : World) (vN vK : Value) (W : World) : Prop where
 below : Below w.heap.size w W
 box : W.rowIs w.heap.size 29 5 (row5 (.int .i64 0) (.int .i64 0) (.string ⟨#[]⟩) (.slice none 0 0) (.slice none 0 0))
 f0 : W.cell? ⟨w.heap.size + 1, 0, none⟩ = some vN
 f1 : W.cell? ⟨w.heap.size + 1, 1, none⟩ = some vK
theorem PG.lt {w W : World} {vN vK : Value} (h : PG w vN vK W) : w.heap.size + 2 ≤ W.heap.size := by have := World.block_lt_of_cell? W _ h.f0; simp at this; omega
theorem PG.next {w W W' : World} {vN vK : Value} (h : PG w vN vK W) (hb : Below W.heap.size W W') : PG w vN vK W' := by
 have hl := h.lt
 exact ⟨h.below.trans (hb.mono h.below.size), h.box.of_block (hb.block _ (by omega)), by rw [World.cell?_of_block (w := W) (a := ⟨w.heap.size + 1, 0, none⟩) (hb.block _ (by show w.heap.size + 1 < _; omega))]; exact h.f0, by rw [World.cell?_of_block (w := W) (a := ⟨w.heap.size + 1, 1, none⟩) (hb.block _ (by show w.heap.size + 1 < _; omega))]; exact h.f1⟩
theorem PG.drewN {w W : World} {vN vK : Value} (h : PG w vN vK W) (n : Nat) : PG w vN vK (W.drewN n) := ⟨below_drewN h.below n, h.box, h.f0, h.f1⟩
def PBoth (w W : World) (ns : List ByteArray) (ks : List Tr) (vN vK : Value) : Prop := ∃ F, Own W (.mk 5 0 ByteArray.empty ns ks) ⟨.int .i64 5, .int .i64 0, .string ByteArray.empty, vN, vK⟩ F ∧ F.Nodup ∧ (∀ b, b ∈ F → w.heap.size < b ∧ b < W.heap.size) ∧ Below w.heap.size w W
theorem pboth {w W : World} {ns : List ByteArray} {ks : List Tr} {vN vK : Value} {F1 F2 : List Nat} {m : Nat} (h1 : StrsOwn W vN ns F1) (h2 : KidsOwn W vK ks F2) (n1 : F1.Nodup) (n2 : F2.Nodup) (l1 : ∀ b, b ∈ F1 → w.heap.size < b ∧ b < W.heap.size) (l2 : ∀ b, b ∈ F2 → w.heap.size < b ∧ b < W.heap.size)
 (hap : (∀ b, b ∈ F1 → b < m) ∧ (∀ b, b ∈ F2 → m ≤ b) ∨ (∀ b, b ∈ F1 → m ≤ b) ∧ (∀ b, b ∈ F2 → b < m)) (hb : Below w.heap.size w W) : PBoth w W ns ks vN vK := by
 refine ⟨F1 ++ F2, Own.make (t := .mk 5 0 ByteArray.empty ns ks) rfl rfl rfl (show I64 5 from ⟨by decide, by decide⟩) (show I64 0 from ⟨by decide, by decide⟩) (by simp [Tr.text]) h1 h2, ?_, fun b hb => ?_, hb⟩
 · rw [List.nodup_append]
   refine ⟨n1, n2, fun a ha b hb e => ?_⟩
   subst e
   rcases hap with ⟨p1, p2⟩ | ⟨p1, p2⟩
   · have := p1 a ha; have := p2 a hb; omega
   · have := p1 a ha; have := p2 a hb; omega
 · rcases List.mem_append.1 hb with hb | hb
   · exact l1 b hb
   · exact l2 b hb
theorem plain_5 (aN : Option Addr) (capN : Nat) (ns : List ByteArray) (a : Option Addr) (cap : Nat) (ks : List Tr) (w : World)
 (hns : ∀ W, Below w.heap.size w W → Calls Tryz.prog 56 #[.slice aN ns.length capN] W fun e w' => ∃ v' F, e = .returned v' ∧ StrsOwn w' v' ns F ∧ F.Nodup ∧ (∀ b, b ∈ F → W.heap.size ≤ b ∧ b < w'.heap.size) ∧ Below W.heap.size W w')
 (hks : ∀ W, Below w.heap.size w W → Calls Tryz.prog 55 #[.slice a ks.length cap] W fun e w' => PksEnd ks W e w') :
 Calls Tryz.prog 29 #[.iface 106 (.agg #[.slice aN ns.length capN, .slice a ks.length cap])] w fun e w' => PlEnd (.mk 5 0 ByteArray.empty ns ks) w e w' := by
 have hta0 : ∀ w, Sem.run Tryz.prog (Instr.typeAssert (.iface 106 (.agg #[.slice aN ns.length capN, .slice a ks.length cap])) 66 98 true) w = .ok (.tuple #[.int .i64 0, .bool false]) w := fun _ => by kernel_rfl
 have hta1 : ∀ w, Sem.run Tryz.prog (Instr.typeAssert (.iface 106 (.agg #[.slice aN ns.length capN, .slice a ks.length cap])) 66 99 true) w = .ok (.tuple #[.string ByteArray.empty, .bool false]) w := fun _ => by kernel_rfl
 have hta2 : ∀ w, Sem.run Tryz.prog (Instr.typeAssert (.iface 106 (.agg #[.slice aN ns.length capN, .slice a ks.length cap])) 66 101 true) w = .ok (.tuple #[.bool false, .bool false]) w := fun _ => by kernel_rfl
 have hta3 : ∀ w, Sem.run Tryz.prog (Instr.typeAssert (.iface 106 (.agg #[.slice aN ns.length capN, .slice a ks.length cap])) 66 103 true) w = .ok (.tuple #[.slice none 0 0, .bool false]) w := fun _ => by kernel_rfl
 have hta4 : ∀ w, Sem.run Tryz.prog (Instr.typeAssert (.iface 106 (.agg #[.slice aN ns.length capN, .slice a ks.length cap])) 66 106 true) w = .ok (.tuple #[.agg #[.slice aN ns.length capN, .slice a ks.length cap], .bool true]) w := fun _ => by kernel_rfl
 have hN1 : ∀ W, PG w (.slice aN ns.length capN) (.slice a ks.length cap) W → Calls Tryz.prog 56 #[.slice aN ns.length capN] W fun e w' => ∃ (a1 : Option Addr) (cap1 : Nat) (F1 : List Nat), e = .returned (.slice a1 ns.length cap1) ∧ Hid (StrsOwn w' (.slice a1 ns.length cap1) ns F1 ∧ F1.Nodup ∧ (∀ b, b ∈ F1 → w.heap.size < b ∧ b < w'.heap.size)) ∧ Hid (PG w (.slice aN ns.length capN) (.slice a ks.length cap) w') ∧ w'.cell? ⟨w.heap.size + 1, 1, none⟩ = some (.slice a ks.length cap) := fun W hW => by
  refine (hns W hW.below).mono ?_
  rintro e w' ⟨v', F, rfl, h1, h2, h3, h4⟩
  have hg := hW.next h4
  have hl := hW.lt
  obtain ⟨a1, cap1, rfl, -⟩ := id h1
  exact ⟨a1, cap1, F, rfl, ⟨h1, h2, fun b hb => by have := h3 b hb; omega⟩, hg, hg.f1⟩
 have hK2 : ∀ W (a1 : Option Addr) (cap1 : Nat) (F1 : List Nat), PG w (.slice aN ns.length capN) (.slice a ks.length cap) W → StrsOwn W (.slice a1 ns.length cap1) ns F1 ∧ F1.Nodup ∧ (∀ b, b ∈ F1 → w.heap.size < b ∧ b < W.heap.size) → Calls Tryz.prog 55 #[.slice a ks.length cap] W fun e w' => ∃ (a2 : Option Addr) (cap2 : Nat), e = .returned (.slice a2 ks.length cap2) ∧ Hid (PBoth w w' ns ks (.slice a1 ns.length cap1) (.slice a2 ks.length cap2)) ∧ Hid (PG w (.slice aN ns.length capN) (.slice a ks.length cap) w') := fun W a1 cap1 F1 hW ⟨k1, k2, k3⟩ => by
  refine (hks W hW.below).mono ?_
  rintro e w' ⟨a2, cap2, F, rfl, h1, h2, h3, h4⟩
  have hg := hW.next h4
  have hl := hW.lt
  exact ⟨a2, cap2, rfl, pboth (m := W.heap.size) (k1.carry (fun b hb => h4.block b (k3 b hb).2)) h1 k2 h2 (fun b hb => by have := k3 b hb; have := h4.size; omega) (fun b hb => by have := h3 b hb; omega) (Or.inl ⟨fun b hb => (k3 b hb).2, fun b hb => (h3 b hb).1⟩) hg.below, hg⟩
 have HN1 := hH hN1; have HK2 := hH hK2
 clear hN1 hK2 hns hks
 go_enter Tryz.func29, Tryz.ntmps29
 go_wp2_with fail
 obtain ⟨W0, hW0⟩ : ∃ W0, (w.alloc (.cells #[.int .i64 0, .int .i64 0, .string ⟨#[]⟩, .slice none 0 0, .slice none 0 0] 29)).alloc (.cells #[.slice aN ns.length capN, .slice a ks.length cap] 106) = W0 := ⟨_, rfl⟩
 have hg0 : PG w (.slice aN ns.length capN) (.slice a ks.length cap) W0 := by
  rw [← hW0]
  refine ⟨((Below.refl _ _).alloc (Nat.le_refl _) _).alloc (by simp) _, (row5_alloc w _ _ _ _ _ _).alloc _, ?_, ?_⟩
  · simp [go_sem]
  · simp [go_sem]
 rw [hW0]
 have e0 := hg0.f0; have e1 := hg0.f1
 have HG0 := hH hg0
 clear hg0 hW0
 go_region_with (first
  | (go_at_call 56
     refine (uh HN1 _ (by first | exact uh HG0 | exact (uh HG0).drewN 1 | exact (uh HG0).drewN 2)).mono ?_
     rintro e w2 ⟨a1, cap1, F1, rfl, HS1, HG1, e2⟩)
  | (go_at_call 55
     refine (uh HK2 _ a1 cap1 F1 (uh HG1) (uh HS1)).mono ?_
     rintro e w3 ⟨a2, cap2, rfl, HPB, HG2⟩
     have r2 := (uh HG2).box
     obtain ⟨y0, y1, y2, y3, y4⟩ := cs5 r2 (by omega)
     have z0 := r2.frozen 0; have z1 := r2.frozen 1; have z2 := r2.frozen 2; have z3 := r2.frozen 3; have z4 := r2.frozen 4
     simp only [row5] at y0 y1 y2 y3 y4
     clear r2))
 all_goals
  go_wp2_with fail
  refine bodyPost_ret (v := .agg #[.int .i64 5, .int .i64 0, .string ByteArray.empty, .slice a1 ns.length cap1, .slice a2 ks.length cap2]) (by simp [results, Tryz.results29, go_sem, y0, y1, y2, y3, y4]; rfl) rfl ?_
  obtain ⟨F, h1, h2, h3, h4⟩ := uh HPB
  exact fin_own (c := ⟨_, _, _, _, _⟩) h1 h2 h3 h4
def PlSaid (n : Nat) : Prop := ∀ (t : Tr), tsz t < n → ∀ (p l q : Int), 0 ≤ p → p ≤ 120 → wlk t p l = some q → ∀ (Q : Nat → Prop) (v : Value) (w : World), (∀ b, Q b → b < w.heap.size) → SRep Q w t v → Calls Tryz.prog 29 #[v] w fun e w' => PlEnd t w e w'
theorem wlkK_len : ∀ (ks : List Tr) (p l q : Int), 0 ≤ p → p ≤ 120 → wlkK ks p l = some q → p + ks.length ≤ q ∧ q ≤ 120 := by
 intro ks
 induction ks with
 | nil => intro p l q h0 h1 h; rw [wlkK] at h; simp only [Option.some.injEq] at h; subst h; simp; omega
 | cons t r ih =>
   intro p l q h0 h1 h
   rw [wlkK] at h
   cases hw : wlk t p l with
   | none => rw [hw] at h; cases h
   | some q1 =>
     rw [hw] at h
     have hb := wlk_bd t p l q1 h0 h1 hw
     have := ih q1 l q (by omega) hb.2 h
     simp only [List.length_cons]
     omega
theorem wlkK_get : ∀ (ks : List Tr) (p l q : Int), 0 ≤ p → p ≤ 120 → wlkK ks p l = some q → ∀ i, (hi : i < ks.length) → ∃ p' q', 0 ≤ p' ∧ p' ≤ 120 ∧ wlk ks[i] p' l = some q' := by
 intro ks
 induction ks with
 | nil => intro p l q h0 h1 h i hi; simp at hi
 | cons t r ih =>
   intro p l q h0 h1 h i hi
   rw [wlkK] at h
   cases hw : wlk t p l with
   | none => rw [hw] at h; cases h
   | some q1 =>
     rw [hw] at h
     have hb := wlk_bd t p l q1 h0 h1 hw
     cases i with
     | zero => exact ⟨p, q1, h0, h1, hw⟩
     | succ i => exact ih q1 l q (by omega) hb.2 h i (by simpa using hi)
theorem infoTreeP : (Tryz.prog.info? 29).map (fun i => (i.zero, i.size, i.bytes)) = some (some (.agg #[.int .i64 0, .int .i64 0, .string ByteArray.empty, .slice none 0 0, .slice none 0 0]), 5, 80) := by kernel_rfl
theorem plainTrees_any (n : Nat) (IH : PlSaid n) (ks : List Tr) (hn : ∀ t, t ∈ ks → tsz t < n) (p l q : Int) (hp0 : 0 ≤ p) (hp1 : p ≤ 120) (hwk : wlkK ks p l = some q) (Q : Nat → Prop) (a : Option Addr) (cap : Nat) (w : World) (hQ : ∀ b, Q b → b < w.heap.size) (hv : SKids Q w (.slice a ks.length cap) ks) :
 Calls Tryz.prog 55 #[.slice a ks.length cap] w fun e w' => PksEnd ks w e w' := by
 have hlen := wlkK_len ks p l q hp0 hp1 hwk
 have hkl : ks.length ≤ 120 := by omega
 have hcell : ∀ i, (hi : i < ks.length) → ∃ b x, a = some ⟨b, 0, none⟩ ∧ Q b ∧ w.cell? ⟨b, i, none⟩ = some x ∧ SRep Q w ks[i] x := fun i hi => by
  obtain ⟨a', cap', e, h⟩ := hv
  simp only [Value.slice.injEq] at e
  obtain ⟨rfl, -, rfl⟩ := e
  obtain ⟨b, e2, hb, hr⟩ := h (fun e => by rw [e] at hi; simp at hi)
  obtain ⟨x, h1, h2⟩ := hr.get i hi
  exact ⟨b, x, e2, hb, by simpa using h1, h2⟩
 have hcall : ∀ i, (hi : i < ks.length) → ∀ x W, Below w.heap.size w W → SRep Q w ks[i] x → Calls Tryz.prog 29 #[x] W fun e w' => PlEnd ks[i] W e w' := fun i hi x W hW hx => by
  obtain ⟨p', q', h0, h1, h2⟩ := wlkK_get ks p l q hp0 hp1 hwk i hi
  exact IH ks[i] (hn _ (List.getElem_mem hi)) p' l q' h0 h1 h2 Q x W (fun b hb => Nat.lt_of_lt_of_le (hQ b hb) hW.size) (SRep.carry (fun b hb => hW.block b (hQ b hb)) (fun _ h => h) _ _ hx)
 obtain ⟨i0, hi, hz0, hz1, hz2⟩ := info_parts infoTreeP
 have HII := hH hi; have HZ0 := hH hz0; have HZ1 := hH hz1; have HZ2 := hH hz2
 have HC := hH hcell; have HCALL := hH hcall; have HQ := hH hQ
 clear hcell hcall hQ hi hz0 hz1 hz2 IH hn hwk hv hlen
 go_enter Tryz.func55, Tryz.ntmps55
 go_wp2_with fail
 go_loopw [3, 8] (fun s i wr => ∃ (k : Nat) (a' : Option Addr) (cap' : Nat) (xs : List Value) (G : List Nat), k ≤ ks.length ∧ i = .int .i64 k ∧ s = .slice a' k cap' ∧ Hid (GotO w.heap.size wr (.slice a' k cap') (ks.take k) xs G) ∧ Hid (Below w.heap.size w wr)) (fun _ i _ => ks.length - (intOf i).toNat)
 case atStart => exact ⟨0, none, 0, [], [], Nat.zero_le _, rfl, rfl, GotO.start _ _, Below.refl _ _⟩
 case round =>
  obtain ⟨k, a', cap', xs, G, hk, rfl, rfl, HG, HB⟩ := hrel
  have hsw := HB.out.size
  have hkk : (ks.take k).length = k := by simp; omega
  have HKL := hH hkk; clear hkk
  by_cases hlt : k < ks.length
  · obtain ⟨b, x, rfl, hqb, hce, hrp⟩ := uh HC k hlt
    have e0 : wr.cell? ⟨b, k, none⟩ = some x := by rw [World.cell?_of_block (w := w) (a := ⟨b, k, none⟩) (HB.out.block b (uh HQ b hqb))]; exact hce
    have hcl := uh HCALL k hlt x wr HB.out hrp
    obtain ⟨T, y, rfl⟩ := hrp.iface
    have htk : ks.take (k + 1) = ks.take k ++ [ks[k]] := List.take_succ_eq_append_getElem hlt
    generalize ks[k] = tk at *
    have HCL := hH hcl; have HTK := hH htk
    clear hcl htk hce hrp hqb
    go_wp2_with fail
    refine (uh HCL).mono ?_
    rintro e w2 ⟨⟨d0, d1, d2, d3, d4⟩, F, rfl, hown, hFn, hFl, hb2⟩
    have hs2 := hb2.size
    have hg2 : wr.grownBy w2 none := ⟨hb2.os, hb2.tape, hb2.output, hb2.size, fun i hi _ => hb2.block i hi⟩
    have hgot2 := HG.out.kept hg2
    have hGm : ∀ b, b ∈ G → b < wr.heap.size := fun b hb => (HG.out.lt b hb).2.1
    have hvm : ∀ b, (Value.slice a' k cap').ownBlock = some b → b < wr.heap.size := fun b hb => (HG.out.row.lt b hb).2
    obtain ⟨y0, y1, y2, -, -, -, F1, F2, -, ⟨a7, cap7, y3, -⟩, a8, cap8, y4, -⟩ := hown.open
    have hone := hown.one
    simp only at y0 y1 y2 y3 y4
    subst y0 y1 y2 y3 y4
    have HOWN := hH hown; have HFL := hH hFl; have HGOT := hH hgot2; have HGM := hH hGm; have HVM := hH hvm; have HONE := hH hone; have HB2 := hH (HB.out.trans (hb2.mono hsw))
    clear hown hFl hb2 hg2 hgot2 hGm hvm hone e0 HCL
    go_wp2_with (at_builtin; refine append_row _ rfl _ _ 27 rfl w.heap.size 29 i0 _ 5 80 Tryz.underlying27 (uh HII) (uh HZ0) (uh HZ1) (uh HZ2) rfl (by decide) (.slice a' k cap') k xs rfl (by have := (uh HGOT).row; rw [uh HKL] at this; exact this.alloc _) ⟨w2.heap.size, 0, none⟩ 1 1 (c5l ⟨_, _, _, _, _⟩) rfl rfl (cell_five _ _ _) (uh HONE) (by decide) (by unfold maxLen; omega) (by omega) (by simp; omega) ?_; intro v' w4 hown4 hgrow4 hv4)
    obtain ⟨g', cap'', hv''⟩ : ∃ g' cap'', v' = .slice (some ⟨g', 0, none⟩) (k + 1) cap'' := by
     rcases hown4.2 with ⟨_, h⟩ | ⟨g', cap'', _, h, _⟩
     · omega
     · exact ⟨g', cap'', h⟩
    have hal := World.grownBy_alloc w2 (.cells #[.int .i64 tk.sort, .int .i64 tk.num, .string tk.text, .slice a7 tk.names.length cap7, .slice a8 tk.kids.length cap8] 29) none
    have hlt4 := (uh HGOT).row.lt
    have hpush := GotO.push (m := wr.heap.size) ((uh HGOT).kept hal) (Own.carry tk _ F (fun b hb => hal.block b (uh HFL b hb).2 (by simp)) (uh HOWN)) hFn (fun b hb => ⟨(uh HFL b hb).1, by have := (uh HFL b hb).2; simp; omega⟩) (uh HGM) (uh HVM) (by omega) (by rw [uh HKL]; exact hown4) hgrow4 hv4
    rw [← uh HTK] at hpush
    have hb4 : Below w.heap.size w2 w4 := ((Below.refl _ w2).alloc (by omega) _).trans ((Below.refl _ _).grown hgrow4 (by simp; omega) (fun k e => (hlt4 k e).1))
    subst hv''
    have HPU := hH hpush; have HB4 := hH ((uh HB2).trans hb4)
    clear hown4 hgrow4 hv4 hpush hb4 hlt4 hal
    go_roundw
    case rel => exact ⟨k + 1, some ⟨g', 0, none⟩, cap'', _, _, by omega, by go_num, rfl, uh HPU, uh HB4⟩
    case measure => simp [intOf]; omega
  · obtain rfl : k = ks.length := by omega
    have hg := HG.out
    rw [List.take_length] at hg
    obtain ⟨F, hKO, hnd, hFl, -⟩ := hg.done
    have HKO := hH hKO; have HFL := hH hFl
    clear hg hKO hFl
    go_wp2_with fail
    go_ret
    exact ⟨a', cap', F, rfl, uh HKO, hnd, uh HFL, HB.out⟩
theorem plainTree_step (n : Nat) (IH : PlSaid n) : PlSaid (n + 1) := by
 intro t hn p l q hp0 hp1 hw Q v w hQ hr
 obtain ⟨h1, h2, ho, hnb, hk⟩ := wlk_open hw
 have hlen := wlkK_len t.kids (p + 1) (l + 1) q (by omega) h1 hk
 have hkn : ∀ k, k ∈ t.kids → tsz k < n := fun k hk => by have := tsz_kid hk; omega
 have hpk : ∀ (a : Option Addr) (cap : Nat) (W : World), Below w.heap.size w W → SKids Q w (.slice a t.kids.length cap) t.kids → Calls Tryz.prog 55 #[.slice a t.kids.length cap] W fun e w' => PksEnd t.kids W e w' := fun a cap W hW hs =>
  plainTrees_any n IH t.kids hkn (p + 1) (l + 1) q (by omega) h1 hk Q a cap W (fun b hb => Nat.lt_of_lt_of_le (hQ b hb) hW.size) (hs.carry (fun b hb => hW.block b (hQ b hb)) (fun _ h => h))
 have hba : ∀ o, Below w.heap.size w (w.alloc o) := fun o => (Below.refl _ _).alloc (Nat.le_refl _) o
 rcases shapes ho hnb with ⟨m, rfl, hm⟩ | ⟨x, rfl, hx⟩ | ⟨m, rfl, hm⟩ | ⟨ks, rfl, hks⟩ | ⟨ns, ks, rfl, hnl, hri⟩ | ⟨ks, rfl, hks⟩
 · rw [SRep] at hr
   rcases hr with ⟨-, rfl⟩ | ⟨h, -⟩ | ⟨h, -⟩ | ⟨h, -⟩ | ⟨h, -⟩ | ⟨h, -⟩
   · exact plain_1 m hm w
   all_goals exact absurd h (by decide)
 · rw [SRep] at hr
   rcases hr with ⟨h, -⟩ | ⟨-, rfl⟩ | ⟨h, -⟩ | ⟨h, -⟩ | ⟨h, -⟩ | ⟨h, -⟩
   · exact absurd h (by decide)
   · refine plain_2 x ?_ w
     unfold textOkB at hx
     simp only [Bool.and_eq_true, decide_eq_true_eq] at hx
     omega
   all_goals exact absurd h (by decide)
 · rw [SRep] at hr
   rcases hr with ⟨h, -⟩ | ⟨h, -⟩ | ⟨-, rfl⟩ | ⟨h, -⟩ | ⟨h, -⟩ | ⟨h, -⟩
   · exact absurd h (by decide)
   · exact absurd h (by decide)
   · rcases hm with rfl | rfl
     · exact plain_3b w
     · exact plain_3a w
   all_goals exact absurd h (by decide)
 · rw [SRep] at hr
   rcases hr with ⟨h, -⟩ | ⟨h, -⟩ | ⟨h, -⟩ | ⟨-, a, cap, rfl, hkk⟩ | ⟨h, -⟩ | ⟨h, -⟩
   · exact absurd h (by decide)
   · exact absurd h (by decide)
   · exact absurd h (by decide)
   · exact plain_4 a cap ks w (fun o => hpk a cap (w.alloc o) (hba o) ⟨a, cap, rfl, hkk⟩)
   all_goals exact absurd h (by decide)
 · rw [SRep] at hr
   rcases hr with ⟨h, -⟩ | ⟨h, -⟩ | ⟨h, -⟩ | ⟨h, -⟩ | ⟨-, v3, a, cap, rfl, hst, hkk⟩ | ⟨h, -⟩
   · exact absurd h (by decide)
   · exact absurd h (by decide)
   · exact absurd h (by decide)
   · exact absurd h (by decide)
   · have hst' := hst
     obtain ⟨aN, capN, rfl, hl3, -⟩ := hst
     simp only [Tr.kids] at hlen
     refine plain_5 aN capN ns a cap ks w (fun W hW => ?_) (fun W hW => hpk a cap W hW ⟨a, cap, rfl, hkk⟩)
     refine copyNames_any (.slice aN ns.length capN) ns W (P := Q) (fun b hb => Nat.lt_of_lt_of_le (hQ b hb) hW.size) (hst'.carry (fun b hb => hW.block b (hQ b hb)) (fun _ h => h)) (by omega) (fun x hx => ?_)
     obtain ⟨i, hi, rfl⟩ := List.getElem_of_mem hx
     have := rise_name hri i hi
     unfold nameOkB at this
     simp only [Bool.and_eq_true, decide_eq_true_eq] at this
     omega
   · exact absurd h (by decide)
 · rw [SRep] at hr
   rcases hr with ⟨h, -⟩ | ⟨h, -⟩ | ⟨h, -⟩ | ⟨h, -⟩ | ⟨h, -⟩ | ⟨-, a, cap, rfl, hkk⟩
   · exact absurd h (by decide)
   · exact absurd h (by decide)
   · exact absurd h (by decide)
   · exact absurd h (by decide)
   · exact absurd h (by decide)
   · exact plain_6 a cap ks w (fun o => hpk a cap (w.alloc o) (hba o) ⟨a, cap, rfl, hkk⟩)
theorem plainTree_all : ∀ n, PlSaid n
 | 0 => fun _ h => absurd h (Nat.not_lt_zero _)
 | n + 1 => plainTree_step n (plainTree_all n)

theorem try_panicking (p : Addr) (x : Bool) (u : TypeId) (pv : Value) (older : List PanicEntry) (w : World) (hc : w.cell? p = some (.bool x)) (hz : w.frozen? p = false) :
 CallsD Tryz.prog 53 #[.pointer (some p)] (.panicking ({ v := .iface u pv, recovered := false } :: older)) w fun e u' w' =>
  e = .returned (.tuple #[]) ∧ u' = .panicking ({ v := .iface u pv, recovered := true } :: older) ∧ w' = w.setCell p (.bool false) := by
 refine callsD_of_wpS Tryz.func53 rfl fun c₀ cs hu => ?_
 apply wpS_region
 simp [wpOpsS, go_sem, recoverD, hu, Tryz.ntmps53, hc, hz, bodyPostS, results, Tryz.results53]
theorem try_returning (p : Addr) (x : Bool) (w : World) (hc : w.cell? p = some (.bool x)) (hz : w.frozen? p = false) :
 CallsD Tryz.prog 53 #[.pointer (some p)] .returning w fun e u' w' => e = .returned (.tuple #[]) ∧ u' = .returning ∧ w' = w.setCell p (.bool true) := by
 refine callsD_of_wpS Tryz.func53 rfl fun c₀ cs hu => ?_
 apply wpS_region
 simp [wpOpsS, go_sem, recoverD, hu, Tryz.ntmps53, hc, hz, bodyPostS, results, Tryz.results53]
 cases c₀
 simp_all
theorem cell_new1 {w w' : World} {x : Value} {t : TypeId} (h : w'.heap[w.heap.size]? = (w.alloc (.cells #[x] t)).heap[w.heap.size]?) : w'.cell? ⟨w.heap.size, 0, none⟩ = some x ∧ w'.frozen? ⟨w.heap.size, 0, none⟩ = false := by
 rw [World.cell?_of_block (a := ⟨w.heap.size, 0, none⟩) h, World.frozen?_of_block (a := ⟨w.heap.size, 0, none⟩) h]
 exact ⟨by simp [go_sem], by simp [go_sem]⟩
theorem treeTry_yes (f : FuncId) (caps : Array Value) (w : World) (R : World → Prop) (hent : ∀ W, Sem.run Tryz.prog (callFunc f caps) W = .ok (.enter f caps) W)
 (hwork : ∀ o, Calls Tryz.prog f caps (w.alloc o) fun e w' => e = .returned (.tuple #[]) ∧ R w' ∧ w'.heap[w.heap.size]? = (w.alloc o).heap[w.heap.size]?) :
 Calls Tryz.prog 27 #[.func (.func f) #[] caps] w fun e w' => e = .returned (.bool true) ∧ ∃ w1, R w1 ∧ But w.heap.size w1 w' := by
 have hmf : ∀ (fn : Fn) (first cap : Array Value) (w : World), (Instr.makeFunc fn first cap).run Tryz.prog w = .ok (.func fn first cap) w := fun _ _ _ _ => rfl
 have HW := hH hwork; clear hwork
 go_enter_defers Tryz.func27, Tryz.ntmps27
 go_wp2_with fail
 refine (uh HW _).mono ?_
 rintro e w1 ⟨rfl, hr, hbk⟩
 obtain ⟨hc, hz⟩ := cell_new1 hbk
 have HR := hH hr
 clear hr hbk
 go_wp2_with fail
 refine leaves_cons (f := 53) (args := #[.pointer (some ⟨w.heap.size, 0, none⟩)]) (by simp) (by simp [go_sem]) ?_
 refine (try_returning ⟨w.heap.size, 0, none⟩ true _ ?_ ?_).mono ?_
 · simp [go_sem, hc]
 · simp [go_sem, hz]
 rintro e u' w'' ⟨rfl, rfl, rfl⟩
 simp [Leaves, settle, results, Tryz.results27, go_sem, hc]
 exact ⟨w1, uh HR, (But.set w1 0 _).trans (But.set _ 0 _)⟩
theorem treeTry_no (f : FuncId) (caps : Array Value) (w : World) (R : World → Prop) (hent : ∀ W, Sem.run Tryz.prog (callFunc f caps) W = .ok (.enter f caps) W)
 (hwork : ∀ o, Calls Tryz.prog f caps (w.alloc o) fun e w' => e = fltE ∧ R w' ∧ w'.heap[w.heap.size]? = (w.alloc o).heap[w.heap.size]?) :
 Calls Tryz.prog 27 #[.func (.func f) #[] caps] w fun e w' => e = .returned (.bool false) ∧ ∃ w1, R w1 ∧ But w.heap.size w1 w' := by
 have hmf : ∀ (fn : Fn) (first cap : Array Value) (w : World), (Instr.makeFunc fn first cap).run Tryz.prog w = .ok (.func fn first cap) w := fun _ _ _ _ => rfl
 have HW := hH hwork; clear hwork
 go_enter_defers Tryz.func27, Tryz.ntmps27
 go_wp2_with fail
 refine (uh HW _).mono ?_
 rintro e w1 ⟨rfl, hr, hbk⟩
 obtain ⟨hc, hz⟩ := cell_new1 hbk
 have HR := hH hr
 clear hr hbk
 go_wp2_with fail
 refine leaves_cons (f := 53) (args := #[.pointer (some ⟨w.heap.size, 0, none⟩)]) (by simp) (by simp [go_sem]) ?_
 refine (try_panicking ⟨w.heap.size, 0, none⟩ false 142 _ [] _ hc hz).mono ?_
 rintro e u' w'' ⟨rfl, rfl, rfl⟩
 simp [Leaves, settle, results, Tryz.results27, go_sem, hc]
 exact ⟨w1, uh HR, But.set w1 0 _⟩

theorem lf_zeroT (s : ByteArray) : lf s 0 = s.data.toList := by unfold lf; simp
noncomputable def rdO (s : ByteArray) : Option Tr := if s.size ≤ 10000 then progRd s.data.toList else none
theorem whl_some {s : ByteArray} {t : Tr} {rest : List UInt8} {q : Int} (h : whlO s = some (t, rest, q)) : rdO s = some t ∧ wlk t 0 0 = some q := by
 unfold whlO at h
 unfold rdO progRd
 split at h
 · rename_i h1
   rw [if_pos h1, ← lf_zeroT]
   cases hr : rdT 6 (lf s 0) 0 with
   | none => rw [hr] at h; cases h
   | some x =>
     obtain ⟨t', r', q'⟩ := x
     rw [hr] at h
     simp only at h
     split at h
     · rename_i he
       simp only [Option.some.injEq, Prod.mk.injEq] at h
       obtain ⟨rfl, rfl, rfl⟩ := h
       subst he
       have := (rdT_sound 6 _ _ _ _ _ (Nat.le_refl _) hr).2
       exact ⟨rfl, by simpa using this⟩
     · cases h
 · cases h
theorem whl_none {s : ByteArray} (h : whlO s = none) : rdO s = none := by
 unfold whlO at h
 unfold rdO progRd
 split at h
 · rename_i h1
   rw [if_pos h1, ← lf_zeroT]
   cases hr : rdT 6 (lf s 0) 0 with
   | none => rfl
   | some x =>
     obtain ⟨t', r', q'⟩ := x
     rw [hr] at h
     simp only at h
     split at h
     · cases h
     · rename_i he
       cases r' with
       | nil => exact absurd rfl he
       | cons a b => rfl
 · rename_i h1
   rw [if_neg h1]
def TAns (o : Option Tr) (w : World) (e : Ending) (w' : World) : Prop :=
 ∃ (t : Tr) (b : Bool) (c : C5) (F : List Nat), ((o = some t ∧ b = true) ∨ (o = none ∧ b = false ∧ t = .mk 0 0 ByteArray.empty [] [])) ∧ e = .returned (.tuple #[.agg #[c.c0, c.c1, c.c2, c.c3, c.c4], .bool b]) ∧ Own w' t c F ∧ F.Nodup ∧ (∀ b, b ∈ F → w.heap.size ≤ b ∧ b < w'.heap.size) ∧ Below w.heap.size w w'
theorem TAns.no {o : Option Tr} {w w' : World} (h : o = none) (hb : Below w.heap.size w w') : TAns o w (.returned (.tuple #[.agg #[.int .i64 0, .int .i64 0, .string ByteArray.empty, .slice none 0 0, .slice none 0 0], .bool false])) w' :=
 ⟨.mk 0 0 ByteArray.empty [] [], false, ⟨_, _, _, _, _⟩, [], Or.inr ⟨h, rfl, rfl⟩, rfl, Own.leafT _ 0 0 ByteArray.empty ⟨by decide, by decide⟩ ⟨by decide, by decide⟩ (by simp), List.nodup_nil, fun b hb => by simp at hb, hb⟩
def zT : C5 := ⟨.int .i64 0, .int .i64 0, .string ⟨#[]⟩, .slice none 0 0, .slice none 0 0⟩
structure Bt (w : World) (n : Nat) (s : ByteArray) (c : C5) (W : World) : Prop where
 text : W.cell? ⟨n, 0, none⟩ = some (.string s)
 ans : W.rowIs (n + 1) 29 5 (row5 zT.c0 zT.c1 zT.c2 zT.c3 zT.c4)
 read : W.rowIs (n + 2) 29 5 (row5 c.c0 c.c1 c.c2 c.c3 c.c4)
 below : Below n w W
 size : n + 3 ≤ W.heap.size
theorem Bt.kept {w W W' : World} {n : Nat} {s : ByteArray} {c : C5} {row : Option Nat} (h : Bt w n s c W) (hg : W.grownBy W' row) (hr : ∀ b, row = some b → n + 3 ≤ b) : Bt w n s c W' := by
 have hs := h.size
 have hb : ∀ i, i < n + 3 → W'.heap[i]? = W.heap[i]? := fun i hi => hg.block i (by omega) (fun e => by have := hr i e.symm; omega)
 exact ⟨by rw [World.cell?_of_block (w := W) (hb n (by omega))]; exact h.text, h.ans.of_block (hb _ (by omega)), h.read.of_block (hb _ (by omega)),
  ⟨hg.os.trans h.below.os, hg.tape.trans h.below.tape, hg.output.trans h.below.output, Nat.le_trans h.below.size hg.size, fun k hk => (hb k (by omega)).trans (h.below.block k hk)⟩, Nat.le_trans h.size hg.size⟩
theorem Bt.on {w W W' : World} {n : Nat} {s : ByteArray} {c : C5} (h : Bt w n s c W) (hb : Below W.heap.size W W') : Bt w n s c W' := h.kept (row := none) ⟨hb.os, hb.tape, hb.output, hb.size, fun i hi _ => hb.block i hi⟩ (fun b e => by cases e)
theorem Bt.put {w W : World} {n : Nat} {s : ByteArray} {c c' : C5} (h : Bt w n s c W) : Bt w n s c' (set5 W (n + 2) c') := by
 have hb : ∀ i, i < n + 2 → (set5 W (n + 2) c').heap[i]? = W.heap[i]? := fun i hi => set5_heap _ _ _ _ (by omega)
 have h1 : (set5 W (n + 2) c').cell? ⟨n, 0, none⟩ = W.cell? ⟨n, 0, none⟩ := World.cell?_of_block (a := ⟨n, 0, none⟩) (hb n (by omega))
 have h2 := h.ans.of_block (hb (n + 1) (by omega))
 have h3 := row5_set5 (c' := c') h.read
 have h4 := below_set5 h.below (n + 2) c' (by omega)
 have h5 := set5_size W (n + 2) c'
 have h6 := h.size
 have h7 := h.text
 generalize set5 W (n + 2) c' = W' at *
 exact ⟨h1.trans h7, h2, h3, h4, by omega⟩
theorem read_part (W : World) (s : ByteArray) (hs : s.size ≤ 1048576) (hE : Env W) (W1 : World) (htr : TR W1 W.heap.size s 0 0 0) (hb : Below W.heap.size W W1) :
 Calls Tryz.prog 31 #[.pointer (some ⟨W.heap.size, 0, none⟩)] W1 fun e w2 => Below W.heap.size W w2 ∧ ((∃ t q v, rdO s = some t ∧ wlk t 0 0 = some q ∧ e = .returned v ∧ SRep (fun b => b < w2.heap.size) w2 t v) ∨ (rdO s = none ∧ e = fltE)) := by
 refine (whole_walk W1 W.heap.size s hs htr (hE.below hb) hE.top).mono ?_
 rintro e w2 ⟨hb2, h⟩
 have hlt := htr.lt
 have hbb : Below W.heap.size W w2 := ⟨hb2.os.trans hb.os, hb2.tape.trans hb.tape, hb2.output.trans hb.output, Nat.le_trans hb.size hb2.size, fun i hi => (hb2.at (by omega) (by omega)).trans (hb.block i hi)⟩
 refine ⟨hbb, ?_⟩
 rcases h with ⟨t, a2, q, v, h1, -, rfl, h4, -⟩ | ⟨h1, rfl⟩
 · obtain ⟨g1, g2⟩ := whl_some h1
   exact Or.inl ⟨t, q, v, g1, g2, rfl, SRep.carry (fun _ _ => rfl) (fun b hb => hb.2) _ _ h4⟩
 · exact Or.inr ⟨whl_none h1, rfl⟩
theorem workT_yes (w : World) (n : Nat) (s : ByteArray) (hs : s.size ≤ 1048576) (W : World) (h : Bt w n s zT W) (hE : Env W) {t : Tr} (hY : rdO s = some t) :
 Calls Tryz.prog 28 #[.pointer (some ⟨n, 0, none⟩), .pointer (some ⟨n + 2, 0, none⟩)] W fun e w' => e = .returned (.tuple #[]) ∧ (∃ c F, Own w' t c F ∧ F.Nodup ∧ (∀ b, b ∈ F → W.heap.size ≤ b ∧ b < w'.heap.size) ∧ Bt w n s c w') ∧ ∀ i, n + 3 ≤ i → i < W.heap.size → w'.heap[i]? = W.heap[i]? := by
 have c0 := h.text
 have hsz := h.size
 have HNR := hH (newReader_walk s W)
 have HRP := hH (fun W1 h1 h2 => read_part W s hs hE W1 h1 h2)
 have H := hH h; have HY := hH hY
 clear h hE hY
 go_enter Tryz.func28, Tryz.ntmps28
 go_wp2_with (go_at_call 30; refine (uh HNR).mono ?_; rintro e w1 ⟨rfl, htr, hb1⟩; have HTR := hH htr; have HB1 := hH hb1; clear htr hb1 HNR)
 refine (uh HRP w1 (uh HTR) (uh HB1)).mono ?_
 rintro e w2 ⟨hb2, ⟨t', q, v, h1, h2, rfl, h4⟩ | ⟨h1, -⟩⟩
 · have ht : t' = t := by have := uh HY; rw [h1] at this; simpa using this
   subst ht
   have hpl := plainTree_all (tsz t' + 1) t' (by omega) 0 0 q (by omega) (by omega) h2 (fun b => b < w2.heap.size) v w2 (fun _ h => h) h4
   obtain ⟨T, x, rfl⟩ := h4.iface
   have HPL := hH hpl; have HB2 := hH hb2
   clear hpl h1 h2 h4 hb2 HRP HTR HB1
   go_wp2_with fail
   refine (uh HPL).mono ?_
   rintro e w3 ⟨⟨d0, d1, d2, d3, d4⟩, F, rfl, ho, hnd, hF, hb3⟩
   obtain ⟨p0, p1, p2, -, -, -, F1, F2, -, ⟨a5, cap5, p3, -⟩, a6, cap6, p4, -⟩ := ho.open
   simp only at p0 p1 p2 p3 p4
   subst p0 p1 p2 p3 p4
   have hs2 := (uh HB2).size
   have hb03 := (uh HB2).trans (hb3.mono hs2)
   have hbt := (uh H).on hb03
   obtain ⟨y0, y1, y2, y3, y4⟩ := cs5 hbt.read (by omega)
   have z0 := hbt.read.frozen 0; have z1 := hbt.read.frozen 1; have z2 := hbt.read.frozen 2; have z3 := hbt.read.frozen 3; have z4 := hbt.read.frozen 4
   simp only [row5, zT] at y0 y1 y2 y3 y4
   have hfin : (∃ c F, Own (set5 w3 (n + 2) ⟨.int .i64 t'.sort, .int .i64 t'.num, .string t'.text, .slice a5 t'.names.length cap5, .slice a6 t'.kids.length cap6⟩) t' c F ∧ F.Nodup ∧ (∀ b, b ∈ F → W.heap.size ≤ b ∧ b < (set5 w3 (n + 2) ⟨.int .i64 t'.sort, .int .i64 t'.num, .string t'.text, .slice a5 t'.names.length cap5, .slice a6 t'.kids.length cap6⟩).heap.size) ∧ Bt w n s c (set5 w3 (n + 2) ⟨.int .i64 t'.sort, .int .i64 t'.num, .string t'.text, .slice a5 t'.names.length cap5, .slice a6 t'.kids.length cap6⟩)) ∧ ∀ i, n + 3 ≤ i → i < W.heap.size → (set5 w3 (n + 2) ⟨.int .i64 t'.sort, .int .i64 t'.num, .string t'.text, .slice a5 t'.names.length cap5, .slice a6 t'.kids.length cap6⟩).heap[i]? = W.heap[i]? := by
    refine ⟨⟨⟨_, _, _, _, _⟩, F, Own.carry t' _ F (fun b hb => set5_heap _ _ _ _ (by have := (hF b hb).1; omega)) ho, hnd, fun b hb => by rw [set5_size]; have := hF b hb; omega, hbt.put⟩, fun i h1 h2 => ?_⟩
    rw [set5_heap _ _ _ _ (by omega)]
    exact hb03.block i h2
   have HFIN := hH hfin
   clear hfin hbt hb03 ho hF hb3 HPL HB2
   go_wp2_with fail
   go_end0
   exact ⟨rfl, uh HFIN⟩
 · rw [uh HY] at h1; cases h1
theorem workT_no (w : World) (n : Nat) (s : ByteArray) (hs : s.size ≤ 1048576) (W : World) (h : Bt w n s zT W) (hE : Env W) (hY : rdO s = none) :
 Calls Tryz.prog 28 #[.pointer (some ⟨n, 0, none⟩), .pointer (some ⟨n + 2, 0, none⟩)] W fun e w' => e = fltE ∧ Bt w n s zT w' ∧ ∀ i, n + 3 ≤ i → i < W.heap.size → w'.heap[i]? = W.heap[i]? := by
 have c0 := h.text
 have HNR := hH (newReader_walk s W)
 have HRP := hH (fun W1 h1 h2 => read_part W s hs hE W1 h1 h2)
 have H := hH h; have HY := hH hY
 clear h hE hY
 go_enter Tryz.func28, Tryz.ntmps28
 go_wp2_with (go_at_call 30; refine (uh HNR).mono ?_; rintro e w1 ⟨rfl, htr, hb1⟩; have HTR := hH htr; have HB1 := hH hb1; clear htr hb1 HNR)
 refine (uh HRP w1 (uh HTR) (uh HB1)).mono ?_
 rintro e w2 ⟨hb2, ⟨t', q, v, h1, -⟩ | ⟨-, rfl⟩⟩
 · rw [uh HY] at h1; cases h1
 · have HFIN := hH (And.intro ((uh H).on hb2) (fun i (_ : n + 3 ≤ i) (h2 : i < W.heap.size) => hb2.block i h2))
   clear hb2 HRP HTR HB1
   go_wp2_with fail
   exact ⟨rfl, rfl, uh HFIN⟩
theorem implTreeRead_any (w : World) (s : ByteArray) (hs : s.size ≤ 1048576) (hE : Env w) :
 Calls Tryz.prog 7 #[.string s] w fun e w' => TAns (rdO s) w e w' := by
 obtain ⟨W0, hW0⟩ : ∃ W0, ((w.alloc (.cells #[.string s] 9)).alloc (.cells #[.int .i64 0, .int .i64 0, .string ⟨#[]⟩, .slice none 0 0, .slice none 0 0] 29)).alloc (.cells #[.int .i64 0, .int .i64 0, .string ⟨#[]⟩, .slice none 0 0, .slice none 0 0] 29) = W0 := ⟨_, rfl⟩
 have hbl : Below w.heap.size w W0 := by rw [← hW0]; exact (((Below.refl _ _).alloc (Nat.le_refl _) _).alloc (by simp) _).alloc (by simp; omega) _
 have hs0 : W0.heap.size = w.heap.size + 3 := by rw [← hW0]; simp
 have hbx : Bt w w.heap.size s zT W0 := by
  refine ⟨?_, ?_, ?_, hbl, by omega⟩
  · rw [← hW0]; simp [go_sem]
  · rw [← hW0]
    have q := row5_alloc (w.alloc (.cells #[.string s] 9)) (.int .i64 0) (.int .i64 0) (.string ⟨#[]⟩) (.slice none 0 0) (.slice none 0 0) 29
    rw [World.size_alloc] at q
    exact q.alloc _
  · rw [← hW0]
    have q := row5_alloc ((w.alloc (.cells #[.string s] 9)).alloc (.cells #[.int .i64 0, .int .i64 0, .string ⟨#[]⟩, .slice none 0 0, .slice none 0 0] 29)) (.int .i64 0) (.int .i64 0) (.string ⟨#[]⟩) (.slice none 0 0) (.slice none 0 0) 29
    rw [World.size_alloc, World.size_alloc] at q
    exact q
 have hE0 : Env W0 := hE.below hbl
 have hent : ∀ W, Sem.run Tryz.prog (callFunc 28 #[.pointer (some ⟨w.heap.size, 0, none⟩), .pointer (some ⟨w.heap.size + 2, 0, none⟩)]) W = .ok (.enter 28 #[.pointer (some ⟨w.heap.size, 0, none⟩), .pointer (some ⟨w.heap.size + 2, 0, none⟩)]) W := fun W => enters_of Tryz.func28 (by kernel_rfl) rfl _ W
 have hmf : ∀ (fn : Fn) (first cap : Array Value) (w : World), (Instr.makeFunc fn first cap).run Tryz.prog w = .ok (.func fn first cap) w := fun _ _ _ _ => rfl
 cases hY : rdO s with
 | none =>
   have htry := treeTry_no 28 #[.pointer (some ⟨w.heap.size, 0, none⟩), .pointer (some ⟨w.heap.size + 2, 0, none⟩)] W0 (fun w1 => Bt w w.heap.size s zT w1) hent (fun o => (workT_no w w.heap.size s hs (W0.alloc o) (hbx.kept (World.grownBy_alloc W0 o none) (fun b e => by cases e)) (hE0.below ((Below.refl _ _).alloc (Nat.le_refl _) o)) hY).mono fun e w' ⟨h1, h2, h3⟩ => ⟨h1, h2, h3 _ (by omega) (by rw [World.size_alloc]; omega)⟩)
   have htry2 : Calls Tryz.prog 27 #[.func (.func 28) #[] #[.pointer (some ⟨w.heap.size, 0, none⟩), .pointer (some ⟨w.heap.size + 2, 0, none⟩)]] W0 fun e w' => e = .returned (.bool false) ∧ Bt w w.heap.size s zT w' := htry.mono fun e w' ⟨h1, w1, h2, h3⟩ => ⟨h1, h2.kept h3 (fun b e => by cases e; omega)⟩
   have HTR := hH htry2
   clear htry htry2 hbx hE0 hent hbl hY hE
   go_enter Tryz.func7, Tryz.ntmps7
   go_wp2_with (go_at_call 27
                refine (uh HTR).mono ?_
                rintro e w1 ⟨rfl, hb1⟩
                have HB1 := hH hb1
                obtain ⟨a0, a1, a2, a3, a4⟩ := cs5 hb1.ans (by omega)
                have z0 := hb1.ans.frozen 0; have z1 := hb1.ans.frozen 1; have z2 := hb1.ans.frozen 2; have z3 := hb1.ans.frozen 3; have z4 := hb1.ans.frozen 4
                have r0 : w1.cell? ⟨w.heap.size + 1 + 1, 0, none⟩ = some (.int .i64 0) := hb1.read.cell (i := 0) (by omega)
                have r1 : w1.cell? ⟨w.heap.size + 1 + 1, 1, none⟩ = some (.int .i64 0) := hb1.read.cell (i := 1) (by omega)
                have r2 : w1.cell? ⟨w.heap.size + 1 + 1, 2, none⟩ = some (.string ⟨#[]⟩) := hb1.read.cell (i := 2) (by omega)
                have r3 : w1.cell? ⟨w.heap.size + 1 + 1, 3, none⟩ = some (.slice none 0 0) := hb1.read.cell (i := 3) (by omega)
                have r4 : w1.cell? ⟨w.heap.size + 1 + 1, 4, none⟩ = some (.slice none 0 0) := hb1.read.cell (i := 4) (by omega)
                simp only [row5, zT] at a0 a1 a2 a3 a4
                clear hb1)
   refine bodyPost_ret (v := .tuple #[.agg #[.int .i64 0, .int .i64 0, .string ByteArray.empty, .slice none 0 0, .slice none 0 0], .bool false]) (by simp [results, Tryz.results7, go_sem, a0, a1, a2, a3, a4]; rfl) rfl ?_
   exact TAns.no rfl (below_set5 (uh HB1).below _ ⟨_, _, _, _, _⟩ (by omega))
 | some t =>
   have htry := treeTry_yes 28 #[.pointer (some ⟨w.heap.size, 0, none⟩), .pointer (some ⟨w.heap.size + 2, 0, none⟩)] W0 (fun w1 => ∃ c F, Own w1 t c F ∧ F.Nodup ∧ (∀ b, b ∈ F → W0.heap.size + 1 ≤ b ∧ b < w1.heap.size) ∧ Bt w w.heap.size s c w1) hent (fun o => (workT_yes w w.heap.size s hs (W0.alloc o) (hbx.kept (World.grownBy_alloc W0 o none) (fun b e => by cases e)) (hE0.below ((Below.refl _ _).alloc (Nat.le_refl _) o)) hY).mono fun e w' ⟨h1, ⟨c, F, h2, h3, h4, h5⟩, h6⟩ => ⟨h1, ⟨c, F, h2, h3, fun b hb => by have := h4 b hb; rw [World.size_alloc] at this; exact this, h5⟩, h6 _ (by omega) (by rw [World.size_alloc]; omega)⟩)
   have htry2 : Calls Tryz.prog 27 #[.func (.func 28) #[] #[.pointer (some ⟨w.heap.size, 0, none⟩), .pointer (some ⟨w.heap.size + 2, 0, none⟩)]] W0 fun e w1 => ∃ (a5 : Option Addr) (cap5 : Nat) (a6 : Option Addr) (cap6 : Nat) (F : List Nat), e = .returned (.bool true) ∧ Hid (Own w1 t ⟨.int .i64 t.sort, .int .i64 t.num, .string t.text, .slice a5 t.names.length cap5, .slice a6 t.kids.length cap6⟩ F) ∧ F.Nodup ∧ Hid (∀ b, b ∈ F → w.heap.size + 4 ≤ b ∧ b < w1.heap.size) ∧ Bt w w.heap.size s ⟨.int .i64 t.sort, .int .i64 t.num, .string t.text, .slice a5 t.names.length cap5, .slice a6 t.kids.length cap6⟩ w1 := htry.mono (by
    rintro e w' ⟨rfl, w1, ⟨⟨d0, d1, d2, d3, d4⟩, F, ho, hnd, hF, hb⟩, hbut⟩
    obtain ⟨p0, p1, p2, -, -, -, F1, F2, -, ⟨a5, cap5, p3, -⟩, a6, cap6, p4, -⟩ := ho.open
    simp only at p0 p1 p2 p3 p4
    subst p0 p1 p2 p3 p4
    exact ⟨_, _, _, _, F, rfl, Own.carry t _ F (fun b hb' => hbut.at (hF b hb').2 (by have := hF b hb'; omega)) ho, hnd, fun b hb' => by have := hF b hb'; have := hbut.size; omega, hb.kept hbut (fun b e => by cases e; omega)⟩)
   have HTR := hH htry2
   clear htry htry2 hbx hE0 hent hbl hY hE
   go_enter Tryz.func7, Tryz.ntmps7
   go_wp2_with (go_at_call 27
                refine (uh HTR).mono ?_
                rintro e w1 ⟨a5, cap5, a6, cap6, F, rfl, HO, hnd, HF, hb1⟩
                have HB1 := hH hb1
                obtain ⟨a0, a1, a2, a3, a4⟩ := cs5 hb1.ans (by omega)
                have z0 := hb1.ans.frozen 0; have z1 := hb1.ans.frozen 1; have z2 := hb1.ans.frozen 2; have z3 := hb1.ans.frozen 3; have z4 := hb1.ans.frozen 4
                have r0 : w1.cell? ⟨w.heap.size + 1 + 1, 0, none⟩ = some (.int .i64 t.sort) := hb1.read.cell (i := 0) (by omega)
                have r1 : w1.cell? ⟨w.heap.size + 1 + 1, 1, none⟩ = some (.int .i64 t.num) := hb1.read.cell (i := 1) (by omega)
                have r2 : w1.cell? ⟨w.heap.size + 1 + 1, 2, none⟩ = some (.string t.text) := hb1.read.cell (i := 2) (by omega)
                have r3 : w1.cell? ⟨w.heap.size + 1 + 1, 3, none⟩ = some (.slice a5 t.names.length cap5) := hb1.read.cell (i := 3) (by omega)
                have r4 : w1.cell? ⟨w.heap.size + 1 + 1, 4, none⟩ = some (.slice a6 t.kids.length cap6) := hb1.read.cell (i := 4) (by omega)
                simp only [row5, zT] at a0 a1 a2 a3 a4
                clear hb1)
   refine bodyPost_ret (v := .tuple #[.agg #[.int .i64 t.sort, .int .i64 t.num, .string t.text, .slice a5 t.names.length cap5, .slice a6 t.kids.length cap6], .bool true]) (by simp [results, Tryz.results7, go_sem, a0, a1, a2, a3, a4]) rfl ?_
   refine ⟨t, true, ⟨_, _, _, _, _⟩, F, Or.inl ⟨rfl, rfl⟩, rfl, Own.carry t _ F (fun b hb => set5_heap w1 (w.heap.size + 1) ⟨_, _, _, _, _⟩ b (by have := (uh HF b hb).1; omega)) (uh HO), hnd, fun b hb => ?_, below_set5 (uh HB1).below _ ⟨_, _, _, _, _⟩ (by omega)⟩
   have h2 := set5_size w1 (w.heap.size + 1) ⟨.int .i64 t.sort, .int .i64 t.num, .string t.text, .slice a5 t.names.length cap5, .slice a6 t.kids.length cap6⟩
   unfold set5 at h2
   simp only at h2
   rw [h2]
   have := uh HF b hb
   omega

def kcma (n : Nat) (inp : List UInt8) : Option (List UInt8) := if n = 0 then some inp else if inp.head? = some 44 then some inp.tail else none
def knam (inp : List UInt8) : Option (ByteArray × List UInt8) := if (inp.dropWhile nameByte).head? = some 58 then some (⟨(inp.takeWhile nameByte).toArray⟩, (inp.dropWhile nameByte).tail) else none
def klp (rd : List UInt8 → Option (Kd × List UInt8)) : Nat → List ByteArray → List Kd → List UInt8 → Option (List ByteArray × List Kd × List UInt8)
 | 0, _, _, _ => none
 | f + 1, ns, ks, inp =>
   if inp.head? = some 125 then some (ns, ks, inp.tail) else
   match kcma ks.length inp with
   | none => none
   | some i1 =>
     match knam i1 with
     | none => none
     | some (nm, i2) =>
       match rd i2 with
       | none => none
       | some (t, i3) => klp rd f (ns ++ [nm]) (ks ++ [t]) i3
def krd : Nat → List UInt8 → Option (Kd × List UInt8)
 | 0, _ => none
 | d + 1, inp =>
   if [110, 117, 109].isPrefixOf inp = true then some (.mk 1 [] [], inp.drop 3)
   else if [116, 101, 120, 116].isPrefixOf inp = true then some (.mk 2 [] [], inp.drop 4)
   else if [102, 108, 97, 103].isPrefixOf inp = true then some (.mk 3 [] [], inp.drop 4)
   else if inp.head? = some 91 then
    match krd d inp.tail with
    | none => none
    | some (k, rest) => if rest.head? = some 93 then some (.mk 4 [] [k], rest.tail) else none
   else if inp.head? = some 63 then
    match krd d inp.tail with
    | none => none
    | some (k, rest) => some (.mk 6 [] [k], rest)
   else if inp.head? = some 123 then
    match klp (krd d) (inp.length + 1) [] [] inp.tail with
    | none => none
    | some (ns, ks, rest) => some (.mk 5 ns ks, rest)
   else none
theorem khead {l : List UInt8} {c : UInt8} (h : l.head? = some c) : l = c :: l.tail := by
 cases l with
 | nil => simp at h
 | cons a r => simp at h; simp [h]
theorem kpre {p l : List UInt8} (h : p.isPrefixOf l = true) : l = p ++ l.drop p.length := by
 rw [List.isPrefixOf_iff_prefix] at h
 obtain ⟨r, rfl⟩ := h
 simp
theorem kcma_some {n : Nat} {inp i1 : List UInt8} (h : kcma n inp = some i1) : inp = (if 0 < n then [44] else []) ++ i1 := by
 unfold kcma at h
 split at h
 · rename_i h0
   cases h
   rw [if_neg (by omega)]; rfl
 · split at h
   · rename_i h0 h1
     cases h
     rw [if_pos (by omega)]
     exact khead h1
   · cases h
theorem knam_some {inp i2 : List UInt8} {nm : ByteArray} (h : knam inp = some (nm, i2)) : inp = nm.data.toList ++ [58] ++ i2 := by
 unfold knam at h
 split at h
 · rename_i h1
   cases h
   have e := khead h1
   have : inp = inp.takeWhile nameByte ++ inp.dropWhile nameByte := (List.takeWhile_append_dropWhile).symm
   rw [e] at this
   simpa using this
 · cases h
theorem kx4 (k : Kd) : kxT (.mk 4 [] [k]) = [91] ++ kxT k ++ [93] := by rw [kxT]; simp [kxM]
theorem kx6 (k : Kd) : kxT (.mk 6 [] [k]) = [63] ++ kxT k := by rw [kxT]; simp [kxM]
theorem kx5 (ns : List ByteArray) (ks : List Kd) : kxT (.mk 5 ns ks) = [123] ++ kxK ns 0 ks ++ [125] := by rw [kxT]; simp
theorem kx1 : kxT (.mk 1 [] []) = [110, 117, 109] := by rw [kxT]; rfl
theorem kx2 : kxT (.mk 2 [] []) = [116, 101, 120, 116] := by rw [kxT]; rfl
theorem kx3 : kxT (.mk 3 [] []) = [102, 108, 97, 103] := by rw [kxT]; rfl
theorem getD_mid (ns : List ByteArray) (nm : ByteArray) (r : List ByteArray) : (ns ++ [nm] ++ r).getD ns.length ByteArray.empty = nm := by
 rw [List.getD_eq_getElem?_getD]
 simp
theorem klp_sound (rd : List UInt8 → Option (Kd × List UInt8)) (hrd : ∀ i k r, rd i = some (k, r) → i = kxT k ++ r) :
 ∀ (f : Nat) (ns : List ByteArray) (ks : List Kd) (inp : List UInt8) (ns' : List ByteArray) (ks' : List Kd) (rest : List UInt8), ns.length = ks.length → klp rd f ns ks inp = some (ns', ks', rest) →
   ∃ nsx ksx, ns' = ns ++ nsx ∧ ks' = ks ++ ksx ∧ nsx.length = ksx.length ∧ inp = kxK ns' ks.length ksx ++ ([125] ++ rest)
 | 0, ns, ks, inp, ns', ks', rest => by intro _ h; rw [klp] at h; cases h
 | f + 1, ns, ks, inp, ns', ks', rest => by
   intro hl h
   rw [klp] at h
   split at h
   · rename_i h1
     cases h
     exact ⟨[], [], by simp, by simp, rfl, by rw [kxK]; simpa using khead h1⟩
   · split at h
     · cases h
     · rename_i i1 hc
       split at h
       · cases h
       · rename_i nm i2 hn
         split at h
         · cases h
         · rename_i t i3 hr
           obtain ⟨nsx, ksx, e1, e2, e3, e4⟩ := klp_sound rd hrd f _ _ _ _ _ _ (by simp [hl]) h
           refine ⟨nm :: nsx, t :: ksx, by rw [e1]; simp, by rw [e2]; simp, by simp [e3], ?_⟩
           rw [kcma_some hc, knam_some hn, hrd _ _ _ hr, e4, kxK, kAhead]
           have hg : ns'.getD ks.length ByteArray.empty = nm := by rw [e1, ← hl]; exact getD_mid _ _ _
           rw [hg]
           simp
theorem krd_sound : ∀ (d : Nat) (inp : List UInt8) (k : Kd) (rest : List UInt8), krd d inp = some (k, rest) → inp = kxT k ++ rest
 | 0, inp, k, rest => by intro h; rw [krd] at h; cases h
 | d + 1, inp, k, rest => by
   intro h
   rw [krd] at h
   split at h
   · rename_i h1
     cases h
     rw [kx1]; exact kpre h1
   · split at h
     · rename_i h1
       cases h
       rw [kx2]; exact kpre h1
     · split at h
       · rename_i h1
         cases h
         rw [kx3]; exact kpre h1
       · split at h
         · rename_i h1
           split at h
           · cases h
           · rename_i k' r' hk
             split at h
             · rename_i h2
               cases h
               have e := krd_sound d _ _ _ hk
               have e2 := khead h2
               have e1 := khead h1
               rw [e, e2] at e1
               rw [kx4, e1]; simp
             · cases h
         · split at h
           · rename_i h1
             split at h
             · cases h
             · rename_i k' r' hk
               cases h
               have e := krd_sound d _ _ _ hk
               have e1 := khead h1
               rw [e] at e1
               rw [kx6, e1]; simp
           · split at h
             · rename_i h1
               split at h
               · cases h
               · rename_i ns ks r' hk
                 cases h
                 obtain ⟨nsx, ksx, e1, e2, e3, e4⟩ := klp_sound (krd d) (krd_sound d) _ _ _ _ _ _ _ rfl hk
                 simp only [List.nil_append] at e1 e2
                 subst e1 e2
                 have e1 := khead h1
                 rw [e4] at e1
                 rw [kx5, e1]; simp
             · cases h
def levB : Nat → Kd → Bool
 | 0, _ => false
 | d + 1, k => k.kids.all (levB d)
theorem ktw {l rest : List UInt8} (hl : l.all nameByte = true) (hr : ∀ c, rest.head? = some c → nameByte c = false) : (l ++ rest).takeWhile nameByte = l ∧ (l ++ rest).dropWhile nameByte = rest := by
 induction l with
 | nil =>
   cases rest with
   | nil => simp
   | cons c r => have := hr c rfl; simp [this]
 | cons c l ih =>
   rw [List.all_cons, Bool.and_eq_true] at hl
   have := ih hl.2
   simp [hl.1, this.1, this.2]
theorem knam_yes {nm : ByteArray} (h : nameOkB nm = true) (rest : List UInt8) : knam (nm.data.toList ++ [58] ++ rest) = some (nm, rest) := by
 unfold nameOkB at h
 simp only [Bool.and_eq_true] at h
 have := ktw (l := nm.data.toList) (rest := [58] ++ rest) h.2 (fun c hc => by simp at hc; subst hc; decide)
 unfold knam
 rw [List.append_assoc, this.1, this.2, if_pos (by simp)]
 simp
theorem name_head {nm : ByteArray} (h : nameOkB nm = true) (r : List UInt8) : (nm.data.toList ++ r).head? ≠ some 125 := by
 unfold nameOkB at h
 simp only [Bool.and_eq_true] at h
 intro he
 cases hd : nm.data.toList with
 | nil =>
   have : nm.size = 0 := by have := congrArg List.length hd; simpa using this
   simp [this] at h
 | cons c t =>
   rw [hd] at he
   simp at he
   have := h.2
   rw [hd, List.all_cons, Bool.and_eq_true] at this
   rw [he] at this
   exact absurd this.1 (by decide)
theorem klp_yes (rd : List UInt8 → Option (Kd × List UInt8)) (NS : List ByteArray) (hNS : ∀ i, i < NS.length → nameOkB (NS.getD i ByteArray.empty) = true) (rest : List UInt8) :
 ∀ (ksx : List Kd) (f : Nat) (ks : List Kd), ksx.length < f → ks.length + ksx.length = NS.length → (∀ k ∈ ksx, ∀ r, rd (kxT k ++ r) = some (k, r)) →
   klp rd f (NS.take ks.length) ks (kxK NS ks.length ksx ++ ([125] ++ rest)) = some (NS, ks ++ ksx, rest)
 | [], f, ks => by
   intro hf hl _
   obtain ⟨f, rfl⟩ : ∃ g, f = g + 1 := ⟨f - 1, by simp at hf; omega⟩
   rw [klp, kxK, if_pos (by simp)]
   simp only [List.length_nil, Nat.add_zero] at hl
   rw [hl, List.take_length]
   simp
 | t :: r, f, ks => by
   intro hf hl hrd
   simp only [List.length_cons] at hf hl
   obtain ⟨f, rfl⟩ : ∃ g, f = g + 1 := ⟨f - 1, by omega⟩
   have hlt : ks.length < NS.length := by omega
   have hok := hNS ks.length hlt
   have hg : NS.getD ks.length ByteArray.empty = NS[ks.length] := by rw [List.getD_eq_getElem?_getD, List.getElem?_eq_getElem hlt]; rfl
   rw [klp, kxK]
   have hnot : ¬ (kAhead NS ks.length ++ kxT t ++ kxK NS (ks.length + 1) r ++ ([125] ++ rest)).head? = some 125 := by
    unfold kAhead
    by_cases h0 : 0 < ks.length
    · rw [if_pos h0]; simp
    · rw [if_neg h0]
      simp only [List.nil_append, List.append_assoc]
      exact name_head hok _
   rw [if_neg hnot]
   have hcm : kcma ks.length (kAhead NS ks.length ++ kxT t ++ kxK NS (ks.length + 1) r ++ ([125] ++ rest)) = some ((NS.getD ks.length ByteArray.empty).data.toList ++ [58] ++ (kxT t ++ (kxK NS (ks.length + 1) r ++ ([125] ++ rest)))) := by
    unfold kcma kAhead
    by_cases h0 : 0 < ks.length
    · rw [if_neg (by omega), if_pos h0, if_pos (by simp)]; simp
    · rw [if_pos (by omega), if_neg h0]; simp
   rw [hcm]
   simp only
   rw [knam_yes hok]
   simp only
   rw [hrd t (by simp)]
   simp only
   have hih := klp_yes rd NS hNS rest r f (ks ++ [t]) (by omega) (by simp; omega) (fun k hk => hrd k (by simp [hk]))
   simp only [List.length_append, List.length_cons, List.length_nil, Nat.zero_add] at hih
   rw [List.take_succ_eq_append_getElem hlt, ← hg] at hih
   rw [hih]
   simp
theorem kxK_ge (ns : List ByteArray) : ∀ (ks : List Kd) (i : Nat), ks.length ≤ (kxK ns i ks).length
 | [], i => by simp
 | t :: r, i => by
   have := kxK_ge ns r (i + 1)
   rw [kxK, kAhead]
   simp only [List.length_append, List.length_cons, List.length_nil]
   omega
theorem rise_names {ns : List ByteArray} (h : riseB ns = true) (i : Nat) (hi : i < ns.length) : nameOkB (ns.getD i ByteArray.empty) = true := by
 cases hn : nameOkB ns[i]
 · rw [rise_no hi (good_name hi hn)] at h; cases h
 · rw [List.getD_eq_getElem?_getD, List.getElem?_eq_getElem hi]; exact hn
theorem krd_yes : ∀ (d : Nat) (k : Kd) (rest : List UInt8), okD k = true → levB d k = true → krd d (kxT k ++ rest) = some (k, rest)
 | 0, k, rest => by intro _ h; rw [levB] at h; cases h
 | d + 1, .mk s ns ks, rest => by
   intro hok hlev
   rw [okD, Bool.and_eq_true] at hok
   rw [levB, List.all_eq_true] at hlev
   have hkid : ∀ k ∈ ks, ∀ r, krd d (kxT k ++ r) = some (k, r) := fun k hk r => by
    obtain ⟨i, hi, rfl⟩ := List.getElem_of_mem hk
    exact krd_yes d _ r (okDs_get hok.2 i hi) (hlev _ hk)
   rw [krd]
   rcases shB_cases hok.1 with ⟨h1, h2, h3⟩ | ⟨h1, h2, h3⟩ | ⟨h1, h2, h3⟩
   · have e1 : ks = [] := List.eq_nil_of_length_eq_zero h2
     have e2 : ns = [] := List.eq_nil_of_length_eq_zero h3
     subst e1 e2
     simp only [Kd.sort] at h1
     rcases h1 with h1 | h1 | h1 <;> subst h1
     · rw [kx1]; simp [List.isPrefixOf]
     · rw [kx2]; simp [List.isPrefixOf]
     · rw [kx3]; simp [List.isPrefixOf]
   · have e2 : ns = [] := List.eq_nil_of_length_eq_zero h3
     obtain ⟨k, rfl⟩ : ∃ k, ks = [k] := by
      have h2' : ks.length = 1 := h2
      match ks, h2' with
      | [k], _ => exact ⟨k, rfl⟩
     subst e2
     simp only [Kd.sort] at h1
     have := hkid k (by simp)
     rcases h1 with h1 | h1 <;> subst h1
     · rw [kx4]; simp [List.isPrefixOf, this]
     · rw [kx6]; simp [List.isPrefixOf, this]
   · simp only [Kd.sort, Kd.kids, Kd.names] at h1 h2 h3
     subst h1
     have hge := kxK_ge ns ks 0
     have hy := klp_yes (krd d) ns (rise_names h3) rest ks (([123] ++ kxK ns 0 ks ++ [125] ++ rest).length + 1) [] (by simp; omega) (by simp [h2]) hkid
     rw [kx5]
     simp only [List.length_nil, List.take_zero, List.nil_append] at hy
     have hh : ([123] ++ kxK ns 0 ks ++ [125] ++ rest).head? = some 123 := by simp
     have ht : ([123] ++ kxK ns 0 ks ++ [125] ++ rest).tail = kxK ns 0 ks ++ ([125] ++ rest) := by simp
     generalize hL : [123] ++ kxK ns 0 ks ++ [125] ++ rest = L at *
     have p1 : ∀ (c : UInt8) (p : List UInt8), c ≠ 123 → (c :: p).isPrefixOf L = false := fun c p hc => by
      cases L with
      | nil => simp at hh
      | cons a r => simp at hh; subst hh; simp [List.isPrefixOf, hc]
     rw [p1 110 _ (by decide), p1 116 _ (by decide), p1 102 _ (by decide), hh, ht, hy]
     simp
mutual
theorem lev_pord : ∀ (t : Kd) (d : Nat), d ≤ 6 → (pord t (7 - d)).all gdB = true → levB d t = true
 | .mk s ns ks, 0 => by
   intro _ h
   rw [pord, List.all_cons, Bool.and_eq_true, gdB, Bool.and_eq_true, decide_eq_true_eq] at h
   have := h.1.1
   simp at this
 | .mk s ns ks, d + 1 => by
   intro hd h
   rw [pord, List.all_cons, Bool.and_eq_true] at h
   rw [levB]
   have e : (7 : Int) - ((d + 1 : Nat) : Int) + 1 = 7 - (d : Int) := by omega
   rw [e] at h
   exact levs_pord ks d (by omega) h.2
theorem levs_pord : ∀ (ks : List Kd) (d : Nat), d ≤ 6 → (pordK ks (7 - d)).all gdB = true → ks.all (levB d) = true
 | [], d => by intro _ _; rfl
 | t :: r, d => by
   intro hd h
   rw [pordK, List.all_append, Bool.and_eq_true] at h
   rw [List.all_cons, lev_pord t d hd h.1, levs_pord r d hd h.2]; rfl
end
theorem lev_of_qT {t : Kd} (h : 0 < qT t 1) : levB 6 t = true := by
 have h' : decide (0 < qT t 1) = true := decide_eq_true h
 rw [qT_start, Bool.and_eq_true] at h'
 exact lev_pord t 6 (by omega) (by simpa using h'.1)
theorem levB_mono : ∀ (d : Nat) (t : Kd), levB d t = true → levB (d + 1) t = true
 | 0, t => by intro h; rw [levB] at h; cases h
 | d + 1, t => by
   intro h
   rw [levB, List.all_eq_true] at h ⊢
   exact fun k hk => levB_mono d k (h k hk)
theorem levB_le {d e : Nat} {t : Kd} (h : levB d t = true) (hde : d ≤ e) : levB e t = true := by
 induction e with
 | zero => obtain rfl : d = 0 := by omega
           exact h
 | succ e ih =>
   by_cases he : d = e + 1
   · subst he; exact h
   · exact levB_mono e t (ih (by omega))
def progK (L : List UInt8) : Option Kd :=
 if 800 < L.length then none else
 match krd (L.length + 7) L with
 | some (k, []) => if 0 < qT k 1 then some k else none
 | _ => none
def specK (L : List UInt8) : Option Kd :=
 if 800 < L.length then none else
 match krd 6 L with
 | some (k, []) => if 0 < qT k 1 ∧ kxT k = L then some k else none
 | _ => none
theorem progK_some {L : List UInt8} {k : Kd} : progK L = some k ↔ (L.length ≤ 800 ∧ 0 < qT k 1 ∧ kxT k = L) := by
 unfold progK
 constructor
 · intro h
   split at h
   · cases h
   · split at h
     · rename_i h8 k' hk
       split at h
       · rename_i hq
         cases h
         have := krd_sound _ _ _ _ hk
         exact ⟨by omega, hq, by simpa using this.symm⟩
       · cases h
     · cases h
 · rintro ⟨h8, hq, rfl⟩
   rw [if_neg (by omega)]
   have := krd_yes ((kxT k).length + 7) k [] (ok_of_qT hq).1 (levB_le (lev_of_qT hq) (by omega))
   rw [List.append_nil] at this
   rw [this]
   simp [hq]

def KOut (d : Nat) (s : ByteArray) (inp : List UInt8) (k : Kd) (a2 : Nat) (bad2 : Bool) : Prop :=
 (bad2 = false ∧ krd d inp = some (k, lf s a2) ∧ a2 ≤ s.size) ∨ (bad2 = true ∧ krd d inp = none ∧ a2 ≤ s.size + d)
def wNum : ByteArray := ⟨#[110, 117, 109]⟩
def wText : ByteArray := ⟨#[116, 101, 120, 116]⟩
def wFlag : ByteArray := ⟨#[102, 108, 97, 103]⟩
def set3 (W : World) (B : Nat) (c : C3) : World := ((W.setCell ⟨B, 0, none⟩ c.c0).setCell ⟨B, 1, none⟩ c.c1).setCell ⟨B, 2, none⟩ c.c2
theorem set3_heap (W : World) (B : Nat) (c : C3) (k : Nat) (h : k ≠ B) : (set3 W B c).heap[k]? = W.heap[k]? := by
 unfold set3; rw [Below.heap_setCell _ _ _ _ h, Below.heap_setCell _ _ _ _ h, Below.heap_setCell _ _ _ _ h]
theorem set3_size (W : World) (B : Nat) (c : C3) : (set3 W B c).heap.size = W.heap.size := by simp [set3, World.setCell]

theorem OwnD.but {W W' : World} {R : Nat} {k : Kd} {c : C3} {F : List Nat} (h : OwnD W k c F) (hb : But R W W') (hF : ∀ b, b ∈ F → R < b ∧ b < W.heap.size) : OwnD W' k c F :=
 OwnD.carry k c F (fun b hb' => hb.at (hF b hb').2 (by have := (hF b hb').1; omega)) h
theorem set3_alloc (W : World) (B : Nat) (c : C3) (o : Obj) (h : B < W.heap.size) : set3 (W.alloc o) B c = (set3 W B c).alloc o := by
 unfold set3
 rw [World.setCell_alloc_past o B 0 c.c0 h, World.setCell_alloc_past o B 1 c.c1 (by simpa [World.setCell] using h), World.setCell_alloc_past o B 2 c.c2 (by simpa [World.setCell] using h)]
end Go.Proofs.YtccnehcpmkgbhaaGreatDoor
