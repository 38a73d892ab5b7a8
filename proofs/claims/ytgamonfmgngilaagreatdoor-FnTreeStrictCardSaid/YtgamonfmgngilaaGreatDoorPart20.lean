/- The walks of the program's writers of sorted trees, further: forms; then all sorts, by recursion, and TreeWrite. The tables are as the program's and strconv's texts lay them. -/
import Derived.Test.YtgamonfmgngilaaGreatDoorPart19
import Derived.Deep.CutRange
import Derived.Test.YtgamonfmgngilaaGreatDoorPart15
import Derived.Test.YtgamonfmgngilaaGreatDoorRows
import Derived.Test.YtgamonfmgngilaaGreatDoorPart00
import Derived.Test.YtgamonfmgngilaaGreatDoorPart01
import Derived.Test.YtgamonfmgngilaaGreatDoorPart14
import Derived.Test.YtgamonfmgngilaaGreatDoorPart17
import Derived.Deep.RegionWith
namespace Go.Proofs.YtgamonfmgngilaaGreatDoor
open Go Go.RowKit

theorem step_append_runW {P : Program} (w w2 : World) {ops : Array Oper} {o : Oper} {a : Act} {K : Act → World → Prop} {Q : Exit → Act → World → Prop} {E : Prop} (hgd : o.guard = none) (s x : Operand) (t u : TypeId)
    (ho : o.op = .call { callee := .builtin .append, args := #[s, x], argTypes := #[t, u] }) (v1 v2 v' : Value) (hs : a.eval s = v1) (hx : a.eval x = v2)
    (hr : ∀ ty, (Builtin.append_ #[t, u] ty #[v1, v2]).run P w = .ok v' w2) (h : K (a.put o.dst v') w2) :
    if Region.wanted o (yielded ops a.tmps) = true then Oper.wp P o a w K Q else E := by
  have hw : Region.wanted o (yielded ops a.tmps) = true := by simp [Region.wanted, hgd]
  rw [if_pos hw]
  unfold Oper.wp execOp
  simp only [ho, resolve, invoke, builtin, Sem.run_bind, Sem.run_pure, Result.andThen_ok, List.map_toArray, List.map_cons, List.map_nil, hs, hx, hr]
  exact h

/-- A block that is no row of bytes is as it was. -/
theorem Wx.box {B g : Nat} {a b : World} {o : Obj} (h : Wx B a b) (hg : a.heap[g]? = some o) (ho : ∀ c fz, o ≠ .cells c 5 fz) : b.heap[g]? = a.heap[g]? := by
  rw [hg]; exact h.others g o hg (by simp) ho

/-- The string append, run. -/
theorem run_app_str {B : Nat} {w : World} {a : Option Addr} {n cap : Nat} {l : List UInt8} (tx : ByteArray) (hr : ByRow B w (.slice a n cap) l) (hB : B ≤ w.heap.size) (hl : l.length + tx.size ≤ 1099511627776) :
    ∃ a2 n2 cap2 w2, (∀ ty, (Builtin.append_ #[22, 9] ty #[.slice a n cap, .string tx]).run Tryz.prog w = .ok (.slice a2 n2 cap2) w2) ∧ n2 = (l ++ tx.data.toList).length ∧ ByRow B w2 (.slice a2 n2 cap2) (l ++ tx.data.toList) ∧ Wx B w w2 := by
  obtain ⟨i0, hi, hz0, hz1, hz2⟩ := info_parts infoU8
  have hsz : tx.data.toList.length = tx.size := by simp
  obtain ⟨v2, w2, g1, g2, g3, -⟩ := Lib.run_append_own_string (P := Tryz.prog) w B 22 9 0 5 i0 Tryz.underlying22 Tryz.underlying9 hi hz0 hz1 hz2 _ _ _ hr tx (by unfold maxLen; omega) (by omega) hB
  have hr2 : ByRow B w2 v2 (l ++ tx.data.toList) := by
    show w2.ownsRow B 5 1 v2 (l ++ tx.data.toList).length (bc (l ++ tx.data.toList))
    rw [bc_append, List.length_append, hsz, ← bc_str]; exact g2
  obtain ⟨a2, cap2, rfl⟩ := hr2.slice
  exact ⟨a2, _, cap2, w2, fun ty => g1, rfl, hr2, hr.wx g3 hB⟩

set_option maxRecDepth 100000 in
set_option maxHeartbeats 1600000 in
theorem wr_form (B : Nat) (w : World) (r : Value) (l : List UInt8) (ks : List Tr) (ns : List ByteArray) (v3 : Value) (a : Option Addr) (cap : Nat) (Q : Nat → Prop) (hQ : ∀ b, Q b → b < B) (hN : StrsAt Q w v3 ns) (hv : SKids Q w (.slice a ks.length cap) ks) (hkl : ks.length ≤ 1048576) (hnk : ns.length = ks.length)
    (hcall : ∀ i, (hi : i < ks.length) → ∀ x W r' L', SRep Q w ks[i] x → Wx B w W → ByRow B W r' L' → L'.length + (txT ks[i]).length ≤ 1099511627776 → CallsW x r' W (WEnd B W (L' ++ txT ks[i])))
    (hr : ByRow B w r l) (hB : B ≤ w.heap.size) (hl : l.length + 2 + (txK true ns 0 ks).length ≤ 1099511627776) :
    Calls Tryz.prog 167 #[.agg #[v3, .slice a ks.length cap], r] w (WEnd B w (l ++ ([123] ++ txK true ns 0 ks ++ [125]))) := by
  have hmf : ∀ (fn : Fn) (first cap : Array Value) (w : World), (Instr.makeFunc fn first cap).run Tryz.prog w = .ok (.func fn first cap) w := fun _ _ _ _ => rfl
  have hcell : ∀ i, (hi : i < ks.length) → ∃ b x, a = some ⟨b, 0, none⟩ ∧ Q b ∧ w.cell? ⟨b, i, none⟩ = some x ∧ SRep Q w ks[i] x := fun i hi => by
    obtain ⟨a', cap', e, h⟩ := hv
    simp only [Value.slice.injEq] at e
    obtain ⟨rfl, -, rfl⟩ := e
    obtain ⟨b, e2, hb, hr⟩ := h (fun e => by rw [e] at hi; simp at hi)
    obtain ⟨x, h1, h2⟩ := hr.get i hi
    exact ⟨b, x, e2, hb, by simpa using h1, h2⟩
  obtain ⟨aN, capN, rfl, hnl, hnc⟩ := hN
  have hlen : ∀ k, (hk : k < ks.length) → (l ++ ([123] ++ txTo true ns ks k)).length + (ahead true ns k).length + (txT ks[k]).length ≤ 1099511627776 := fun k hk => by
    have := txTo_step true ns ks k hk (l.length + 1) (by omega)
    simp only [List.length_append, List.length_cons, List.length_nil]; omega
  have hend : (l ++ ([123] ++ txTo true ns ks ks.length)).length + 1 ≤ 1099511627776 := by
    rw [txTo_all]; simp only [List.length_append, List.length_cons, List.length_nil]; omega
  have HE : Hid ((l ++ ([123] ++ txTo true ns ks ks.length)) ++ [125] = l ++ ([123] ++ txK true ns 0 ks ++ [125])) := by show _ = _; rw [txTo_all]; simp
  obtain ⟨w0, hw0⟩ : ∃ w0, w.alloc (.cells #[.slice aN ns.length capN, .slice a ks.length cap] 95) = w0 := ⟨_, rfl⟩
  have hx0 : Wx B w w0 := by rw [← hw0]; exact (Wx.refl B w).alloc hB _
  have hB0 : B ≤ w0.heap.size := Nat.le_trans hB hx0.below.size
  have hg0 : w0.heap[w.heap.size]? = some (.cells #[.slice aN ns.length capN, .slice a ks.length cap] 95) := by rw [← hw0]; show (w.heap.push _)[w.heap.size]? = _; simp
  have hr0 : ByRow B w0 r l := by rw [← hw0]; exact World.ownsRow.alloc hr _
  have hbox : ∀ W, Wx B w0 W → W.cell? ⟨w.heap.size, 0, none⟩ = some (.slice aN ns.length capN) ∧ W.cell? ⟨w.heap.size, 1, none⟩ = some (.slice a ks.length cap) := fun W hW => by
    have hb := hW.box hg0 (by intro c fz e; cases e)
    rw [hg0] at hb
    simp [World.cell?, hb]
  have hbw := hbox w0 (Wx.refl _ _)
  have d0 := hbw.1; have d1 := hbw.2
  have HR := hide hr0; have HCALL := hide hcall; have HC := hide hcell; have HLEN := hide hlen; have HENDL := hide hend; have HQ := hide hQ; have HNC := hide hnc; have HX0 := hide hx0; have HBOX := hide hbox
  have HNK := hide hnk
  clear hr hr0 hcall hcell hlen hend hQ hv hnc hx0 hbox hbw hg0 hnk
  go_enter Tryz.func167, Tryz.ntmps167
  go_upto_region 1 with fail
  try rw [hw0]
  clear hw0
  go_wp2_with (at_builtin; refine append_bytes _ rfl _ _ rfl B r l [123] rfl (World.ownsRow.alloc (unhide HR) _) ⟨w0.heap.size, 0, none⟩ 1 1 rfl rfl (one_byte _ 123 _ rfl _) (by simp; omega) (by simp; omega) ?_
               intro a1 n1 cap1 w1 HN1 HR1 HG1
               have hx1 : Wx B w0 w1 := ((Wx.refl B w0).alloc hB0 (.cells #[.int .u8 123] 5)).trans (ByRow.wx (World.ownsRow.alloc (unhide HR) _) HG1.out (by simp; omega))
               have HS1 : Hid (WSt B w0 w1 a1 n1 cap1 (l ++ ([123] ++ txTo true ns ks 0))) := ⟨by rw [HN1.out]; simp [txTo, txK], by simpa [txTo, txK] using HR1.out, hx1⟩
               have d1' := (unhide HBOX w1 hx1).2
               clear hx1 HN1 HR1 HG1)
  go_loopw [1, 13] (fun s i wr => ∃ (k : Nat) (a' : Option Addr) (n' cap' : Nat), k ≤ ks.length ∧ i = .int .i64 k ∧ s = .slice a' n' cap' ∧ Hid (WSt B w0 wr a' n' cap' (l ++ ([123] ++ txTo true ns ks k)))) (fun _ i _ => ks.length - (intOf i).toNat)
  case atStart => exact ⟨0, a1, n1, cap1, Nat.zero_le _, rfl, rfl, HS1⟩
  case round =>
    obtain ⟨k, a', n', cap', hk, rfl, rfl, HS⟩ := hrel
    have hsw : B ≤ wr.heap.size := Nat.le_trans hB0 HS.out.wx.below.size
    by_cases hlt : k < ks.length
    · obtain ⟨b, x, rfl, hqb, hce, hrp⟩ := unhide HC k hlt
      have hkn : k < ns.length := by have := unhide HNK; omega
      obtain ⟨nb, no, rfl, hpn, hcn, hsn⟩ := unhide HNC k hkn
      have hwx : ∀ W, Wx B w0 W → Wx B w W := fun W h => (unhide HX0).trans h
      have e0 : wr.cell? ⟨b, k, none⟩ = some x := by rw [(hwx _ HS.out.wx).cell (unhide HQ b hqb)]; exact hce
      have hnm : ∀ W, Wx B w0 W → W.cell? ⟨nb, no + k, none⟩ = some (.string ns[k]) := fun W h => by rw [(hwx _ h).cell (unhide HQ nb hpn)]; exact hcn
      have hcl := fun W r' L' h1 h2 h3 => unhide HCALL k hlt x W r' L' hrp (hwx W h1) h2 h3
      obtain ⟨T, y, rfl, hna⟩ := hrp.wm
      have hln := unhide HLEN k hlt
      have hsep : (ahead true ns k) = (if 0 < k then [44] else []) ++ (ns[k].data.toList ++ [58]) := by simp [ahead, List.getD, hkn]
      have HNEXT : Hid (((((l ++ ([123] ++ txTo true ns ks k)) ++ (if 0 < k then [44] else [])) ++ ns[k].data.toList) ++ [58]) ++ txT ks[k] = l ++ ([123] ++ txTo true ns ks (k + 1))) := by show _ = _; rw [txTo_succ _ _ _ _ hlt, hsep]; simp
      rw [hsep] at hln
      have hl1 : (l ++ ([123] ++ txTo true ns ks k)).length + 1 ≤ 1099511627776 := by
        have := txTo_le true ns ks k hk
        simp only [List.length_append, List.length_cons, List.length_nil]; omega
      generalize ks[k] = tk at *
      generalize ns[k] = nm at *
      generalize l ++ ([123] ++ txTo true ns ks k) = LL at *
      have hbt : ∀ W, ByRow B W (.slice a' n' cap') LL → B ≤ W.heap.size → Calls Tryz.prog 166 #[.slice a' n' cap', .int .i64 k] W (WEnd B W (LL ++ if 0 < k then [44] else [])) := fun W h1 h2 => between_any B W _ LL k h1 h2 hl1 (by omega)
      generalize (if 0 < k then [44] else [] : List UInt8) = SS at *
      have hsz : nm.data.toList.length = nm.size := by simp
      have HLA : Hid (((LL ++ SS) ++ nm.data.toList).length + 1 ≤ 1099511627776) := by show _ ≤ _; simp only [List.length_append, List.length_cons, List.length_nil] at hln ⊢; omega
      have HLB : Hid ((((LL ++ SS) ++ nm.data.toList) ++ [58]).length + (txT tk).length ≤ 1099511627776) := by show _ ≤ _; simp only [List.length_append, List.length_cons, List.length_nil] at hln ⊢; omega
      simp only [List.length_append, hsz, List.length_cons, List.length_nil] at hln
      have hcb : Calls Tryz.prog 166 #[.slice a' n' cap', .int .i64 k] wr.drew fun e w1 => ∃ a1 n1 cap1, e = .returned (.slice a1 n1 cap1) ∧ (w1.cell? ⟨w.heap.size, 0, none⟩ = some (.slice (some ⟨nb, no, none⟩) ns.length capN) ∧ w1.cell? ⟨nb, no + k, none⟩ = some (.string nm)) ∧
          ∃ a2 n2 cap2 w2, (∀ ty, (Builtin.append_ #[22, 9] ty #[.slice a1 n1 cap1, .string nm]).run Tryz.prog w1 = .ok (.slice a2 n2 cap2) w2) ∧ (w2.cell? ⟨w.heap.size, 0, none⟩ = some (.slice (some ⟨nb, no, none⟩) ns.length capN) ∧ w2.cell? ⟨nb, no + k, none⟩ = some (.string nm)) ∧ Hid (WSt B w0 w2 a2 n2 cap2 ((LL ++ SS) ++ nm.data.toList)) := by
        refine (hbt wr.drew (by exact HS.out.row) hsw).mono ?_
        rintro e w1 ⟨a1, n1, cap1, rfl, hn1, hr1, hx1⟩
        have hx01 : Wx B w0 w1 := HS.out.wx.drew.trans hx1
        have hB1 : B ≤ w1.heap.size := Nat.le_trans hB0 hx01.below.size
        obtain ⟨a2, n2, cap2, w2, g1, g2, g3, g4⟩ := run_app_str nm hr1 hB1 (by rw [List.length_append]; omega)
        exact ⟨a1, n1, cap1, rfl, ⟨(unhide HBOX w1 hx01).1, hnm w1 hx01⟩, a2, n2, cap2, w2, g1, ⟨(unhide HBOX w2 (hx01.trans g4)).1, hnm w2 (hx01.trans g4)⟩, g2, g3, hx01.trans g4⟩
      have k0 := (unhide HBOX wr HS.out.wx).1
      have k1 := hnm wr HS.out.wx
      have hi0 : (0 : Int) ≤ (k : Int) := by omega
      have hi1 : (k : Int) < (ns.length : Int) := by omega
      have HCL := hide hcl; have HCB := hide hcb
      clear hcl hce hrp hqb hsep hl1 hln hbt hcb hnm hpn hcn hsn hwx hsz
      go_wp2_with fail
      go_region_held3 (fun W => W.cell? ⟨w.heap.size, 0, none⟩ = some (.slice (some ⟨nb, no, none⟩) ns.length capN) ∧ W.cell? ⟨nb, no + k, none⟩ = some (.string nm)) (first | exact f1 | exact f2 | go_keep)
        (first
        | (go_at_call 166
           refine (unhide HCB).mono ?_
           rintro e w1 ⟨a1, n1, cap1, rfl, f1, a2, n2, cap2, w2, hrun, f2, HW2⟩)
        | (refine step_append_runW _ _ (by rfl) _ _ _ _ (by rfl) _ _ _ (by rfl) (by rfl) hrun ?_))
      clear hrun f1 f2 HCB
      have hB2 : B ≤ w2.heap.size := Nat.le_trans hB0 HW2.out.wx.below.size
      go_wp2_with fail
      go_region_held3 (fun _ => True) (trivial)
        (first
        | (refine step_append_bytes _ (by rfl) _ _ (by rfl) B (.slice a2 n2 cap2) ((LL ++ SS) ++ nm.data.toList) [58] (by rfl) (by exact World.ownsRow.alloc HW2.out.row (.cells #[.int .u8 58] 5)) ⟨w2.heap.size, 0, none⟩ 1 1 (by rfl) (by rfl) (by decide) (by exact one_byte w2 58 58 rfl 5) (by exact unhide HLA) (by simp; omega) ?_
           intro a3 n3 cap3 w3 HN3 HR3 HG3
           have HW3 : Hid (WSt B w0 w3 a3 n3 cap3 (((LL ++ SS) ++ nm.data.toList) ++ [58])) := ⟨HN3.out, HR3.out, Wx.trans (HW2.out.wx.alloc hB0 (.cells #[.int .u8 58] 5)).drew (ByRow.wx (by exact World.ownsRow.alloc HW2.out.row (.cells #[.int .u8 58] 5)) HG3.out (by simp; omega))⟩
           clear HN3 HR3 HG3)
        | (refine step_write (by rfl) _ _ (by rfl) (.iface T y) (.slice a3 n3 cap3) (by rfl) (by rfl) ((unhide HCL w3 _ _ HW3.out.wx HW3.out.row (unhide HLB)).mono ?_)
           rintro e w4 ⟨a4, n4, cap4, rfl, hn4, hr4, hx4⟩
           have HW4 : Hid (WSt B w0 w4 a4 n4 cap4 (l ++ ([123] ++ txTo true ns ks (k + 1)))) := by rw [← unhide HNEXT]; exact ⟨hn4, hr4, HW3.out.wx.trans hx4⟩
           refine ⟨_, rfl, ?_⟩
           clear hn4 hr4 hx4))
      all_goals
        go_wp2_with fail
        go_roundw
        case rel => exact ⟨k + 1, a4, n4, cap4, by omega, by go_num, rfl, HW4⟩
        case measure => simp [intOf]; omega
    · obtain rfl : k = ks.length := by omega
      go_wp2_with (at_builtin; refine append_bytes _ rfl _ _ rfl B (.slice a' n' cap') (l ++ ([123] ++ txTo true ns ks ks.length)) [125] rfl (World.ownsRow.alloc HS.out.row _) ⟨wr.heap.size, 0, none⟩ 1 1 rfl rfl (one_byte _ 125 _ rfl _) (unhide HENDL) (by simp; omega) ?_; intro a3 n3 cap3 w3 HN3 HR3 HG3)
      go_ret
      show WEnd B w (l ++ ([123] ++ txK true ns 0 ks ++ [125])) (.returned (.slice a3 n3 cap3)) w3
      rw [← unhide HE]
      exact (ByRow.wend (World.ownsRow.alloc HS.out.row _) (by simp; omega) HN3.out HR3.out HG3.out).on (((unhide HX0).trans HS.out.wx).alloc hB _)
end Go.Proofs.YtgamonfmgngilaaGreatDoor

/- The walks of the library's strings.Clone and of the program's copyNames: the same bytes; the same names, in a row of the call's own. Of what was there nothing has turned. The strings have at most 2^47 bytes. -/

namespace Go.Proofs.YtgamonfmgngilaaGreatDoor
open Go Go.RowKit

set_option maxHeartbeats 400000 in
theorem clone_any (s : ByteArray) (w : World) (hlim : s.size ≤ 140737488355328) :
    Calls Tryz.prog 56 #[.string s] w fun e w' => e = .returned (.string s) ∧ Below w.heap.size w w' := by
  have hc : ∀ W, Calls Tryz.prog 93 #[.string s] W fun e w' => e = .returned (.string s) ∧ Below W.heap.size W w' := fun W => Tryz.stringslite_Clone s W (by omega)
  have HC := hide hc; clear hc
  go_enter Tryz.func56, Tryz.ntmps56
  go_wp2_with (go_at_call 93; refine (unhide HC _).mono ?_; rintro e w' ⟨rfl, hb⟩)
  go_ret
  exact ⟨rfl, hb⟩

theorem infoStrC : (Tryz.prog.info? 9).map (fun i => (i.zero, i.size, i.bytes)) = some (some (.string ByteArray.empty), 1, 16) := by kernel_rfl

set_option maxRecDepth 100000 in
set_option maxHeartbeats 800000 in
theorem copyNames_any (v : Value) (ss : List ByteArray) (w : World) {P : Nat → Prop} (hP : ∀ b, P b → b < w.heap.size) (hv : StrsAt P w v ss) (hl : ss.length ≤ 1048576) (hsz : ∀ x, x ∈ ss → x.size ≤ 1099511627776) :
    Calls Tryz.prog 58 #[v] w fun e w' => ∃ v' F, e = .returned v' ∧ StrsOwn w' v' ss F ∧ F.Nodup ∧ (∀ b, b ∈ F → w.heap.size ≤ b ∧ b < w'.heap.size) ∧ Below w.heap.size w w' := by
  obtain ⟨a, cap, rfl, hlen, hc⟩ := hv
  obtain ⟨i0, hi, hz0, hz1, hz2⟩ := info_parts infoStrC
  have HC := hide hc; have HP := hide hP; have HSZ := hide hsz
  have HII := hide hi; have HZ0 := hide hz0; have HZ1 := hide hz1; have HZ2 := hide hz2
  clear hc hP hsz hi hz0 hz1 hz2
  go_enter Tryz.func58, Tryz.ntmps58
  go_wp2_with fail
  go_loopw [3, 8] (fun s i wr => ∃ (k : Nat) (a' : Option Addr) (cap' : Nat), k ≤ ss.length ∧ i = .int .i64 k ∧ s = .slice a' k cap' ∧ Hid (wr.ownsRow w.heap.size 9 1 (.slice a' k cap') k ((ss.take k).map Value.string)) ∧ Hid (Below w.heap.size w wr)) (fun _ i _ => ss.length - (intOf i).toNat)
  case atStart => exact ⟨0, none, 0, Nat.zero_le _, rfl, rfl, World.ownsRow_nil _ _ _ _, Below.refl _ _⟩
  case round =>
    obtain ⟨k, a', cap', hk, rfl, rfl, HOWN, HB⟩ := hrel
    by_cases hlt : k < ss.length
    · obtain ⟨b, o, rfl, hpb, hcell, -⟩ := unhide HC k hlt
      have e1 : wr.cell? ⟨b, o + k, none⟩ = some (.string ss[k]) := by rw [HB.out.cell (unhide HP b hpb)]; exact hcell
      have hcl := clone_any ss[k] wr (by have := unhide HSZ _ (List.getElem_mem hlt); omega)
      have htk : (ss.take (k + 1)).map Value.string = (ss.take k).map Value.string ++ [.string ss[k]] := by
        rw [List.take_succ_eq_append_getElem hlt, List.map_append]; rfl
      generalize ss[k] = tk at *
      have HCL := hide hcl; have HTK := hide htk
      clear hcl htk hcell hpb
      go_wp2_with fail
      refine (unhide HCL).mono ?_
      rintro e w2 ⟨rfl, hb2⟩
      have hs2 := hb2.size
      have hsw := HB.out.size
      have hown2 : w2.ownsRow w.heap.size 9 1 (.slice a' k cap') k ((ss.take k).map Value.string) :=
        HOWN.out.kept (row := none) ⟨hb2.os, hb2.tape, hb2.output, hb2.size, fun i hi _ => hb2.block i hi⟩ (by
          rcases h : (Value.slice a' k cap').ownBlock with _ | g
          · exact Or.inl rfl
          · exact Or.inr (by simp))
      have HOWN2 := hide hown2; have HB2 := hide (HB.out.trans (hb2.mono hsw))
      clear hown2 hb2 HCL e1
      go_wp2_with (at_builtin; refine append_row _ rfl _ _ 23 rfl w.heap.size 9 i0 (.string ByteArray.empty) 1 16 Tryz.underlying23 (unhide HII) (unhide HZ0) (unhide HZ1) (unhide HZ2) rfl (by decide) (.slice a' k cap') k ((ss.take k).map Value.string) rfl ((unhide HOWN2).alloc _) ⟨w2.heap.size, 0, none⟩ 1 1 [.string tk] rfl rfl (cell_one _ _ _) (fun u hu => by simp at hu; subst hu; rfl) (by decide) (by unfold maxLen; omega) (by omega) (by simp; omega) ?_; intro v' w4 hown4 hgrow4 hv4)
      have hlt4 := (unhide HOWN2).lt
      obtain ⟨g', cap'', hv''⟩ : ∃ g' cap'', v' = .slice (some ⟨g', 0, none⟩) (k + 1) cap'' := by
        rcases hown4.2 with ⟨_, h⟩ | ⟨g', cap'', _, h, _⟩
        · omega
        · exact ⟨g', cap'', h⟩
      subst hv''
      have hb4 : Below w.heap.size w2 w4 := (((Below.refl _ w2).alloc (by omega) _)).trans ((Below.refl _ _).grown hgrow4 (by simp; omega) (fun k e => (hlt4 k e).1))
      have HOWN4 : Hid (w4.ownsRow w.heap.size 9 1 (.slice (some ⟨g', 0, none⟩) (k + 1) cap'') (k + 1) ((ss.take (k + 1)).map Value.string)) := by
        show World.ownsRow _ _ _ _ _ _ _
        rw [unhide HTK]; exact hown4
      have HB4 := hide ((unhide HB2).trans hb4)
      clear hown4 hgrow4 hv4 hb4 hlt4
      go_wp2_with fail
      go_roundw
      case rel => exact ⟨k + 1, some ⟨g', 0, none⟩, cap'', by omega, by go_num, rfl, HOWN4, unhide HB4⟩
      case measure => simp [intOf]; omega
    · obtain rfl : k = ss.length := by omega
      have h1 := HOWN.out
      rw [List.take_length] at h1
      obtain ⟨F, hF, hnd, hlt', -⟩ := strsOwn_of_row h1 (fun x hx => by have := unhide HSZ x hx; omega)
      have HF := hide hF; have HL := hide hlt'
      clear h1 hF hlt'
      go_wp2_with fail
      go_ret
      exact ⟨_, F, rfl, unhide HF, hnd, unhide HL, HB.out⟩

end Go.Proofs.YtgamonfmgngilaaGreatDoor

/- Five stores into a box of a tree. No program, no conditions. -/

namespace Go.Proofs.YtgamonfmgngilaaGreatDoor
open Go Go.RowKit

/-- Five stores into a box. -/
def set5 (W : World) (B : Nat) (c : C5) : World := ((((W.setCell ⟨B, 0, none⟩ c.c0).setCell ⟨B, 1, none⟩ c.c1).setCell ⟨B, 2, none⟩ c.c2).setCell ⟨B, 3, none⟩ c.c3).setCell ⟨B, 4, none⟩ c.c4
theorem set5_heap (W : World) (B : Nat) (c : C5) (b : Nat) (h : b ≠ B) : (set5 W B c).heap[b]? = W.heap[b]? := by
  unfold set5
  rw [Below.heap_setCell _ _ _ _ h, Below.heap_setCell _ _ _ _ h, Below.heap_setCell _ _ _ _ h, Below.heap_setCell _ _ _ _ h, Below.heap_setCell _ _ _ _ h]
theorem set5_size (W : World) (B : Nat) (c : C5) : (set5 W B c).heap.size = W.heap.size := by unfold set5; simp
theorem below_set5 {N : Nat} {w W : World} (h : Below N w W) (B : Nat) (c : C5) (hB : N ≤ B) : Below N w (set5 W B c) := ((((h.setCell (p := ⟨B, 0, none⟩) hB _).setCell (p := ⟨B, 1, none⟩) hB _).setCell (p := ⟨B, 2, none⟩) hB _).setCell (p := ⟨B, 3, none⟩) hB _).setCell (p := ⟨B, 4, none⟩) hB _
theorem row5_set5 {W : World} {B : Nat} {t : TypeId} {c : C5} {c' : C5} (h : W.rowIs B t 5 (row5 c.c0 c.c1 c.c2 c.c3 c.c4)) : (set5 W B c').rowIs B t 5 (row5 c'.c0 c'.c1 c'.c2 c'.c3 c'.c4) := by
  have h5 := ((((h.set 0 c'.c0).set 1 c'.c1).set 2 c'.c2).set 3 c'.c3).set 4 c'.c4
  unfold set5
  refine h5.congr (fun i hi => ?_)
  match i, hi with
  | 0, _ => rfl
  | 1, _ => rfl
  | 2, _ => rfl
  | 3, _ => rfl
  | 4, _ => rfl
end Go.Proofs.YtgamonfmgngilaaGreatDoor

/- The walks of the program's plainTree and plainTrees: the tree, in blocks of its own. Of what was there nothing has turned. For trees that are ok. -/

namespace Go.Proofs.YtgamonfmgngilaaGreatDoor
open Go Go.RowKit

theorem Own.leafT (w : World) (s n : Int) (tx : ByteArray) (hs : I64 s) (hn : I64 n) (ht : tx.size ≤ 9223372036854775807) : Own w (.mk s n tx [] []) ⟨.int .i64 s, .int .i64 n, .string tx, .slice none 0 0, .slice none 0 0⟩ [] :=
  Own.make (t := .mk s n tx [] []) (F1 := []) (F2 := []) rfl rfl rfl hs hn ht ⟨none, 0, rfl, by simp [Tr.names], Or.inl ⟨rfl, rfl⟩⟩ ⟨none, 0, rfl, by simp [Tr.kids], Or.inl ⟨rfl, rfl⟩⟩

/-- What plainTree comes to. -/
def PlEnd (t : Tr) (w : World) (e : Ending) (w' : World) : Prop := ∃ (c : C5) (F : List Nat), e = .returned (.agg #[c.c0, c.c1, c.c2, c.c3, c.c4]) ∧ Own w' t c F ∧ F.Nodup ∧ (∀ b, b ∈ F → w.heap.size ≤ b ∧ b < w'.heap.size) ∧ Below w.heap.size w w'
/-- What plainTrees comes to. -/
def PksEnd (ks : List Tr) (w : World) (e : Ending) (w' : World) : Prop := ∃ (a : Option Addr) (cap : Nat) (F : List Nat), e = .returned (.slice a ks.length cap) ∧ KidsOwn w' (.slice a ks.length cap) ks F ∧ F.Nodup ∧ (∀ b, b ∈ F → w.heap.size ≤ b ∧ b < w'.heap.size) ∧ Below w.heap.size w w'

/-- The box of the answer, still empty. -/
def zBox : Obj := .cells #[.int .i64 0, .int .i64 0, .string ⟨#[]⟩, .slice none 0 0, .slice none 0 0] 26
theorem box_cells {w w2 : World} {o : Obj} (h : o = .cells #[.int .i64 0, .int .i64 0, .string ⟨#[]⟩, .slice none 0 0, .slice none 0 0] 26) (hb : w2.heap[w.heap.size]? = (w.alloc o).heap[w.heap.size]?) :
    w2.rowIs w.heap.size 26 5 (row5 (.int .i64 0) (.int .i64 0) (.string ⟨#[]⟩) (.slice none 0 0) (.slice none 0 0)) := by
  subst h
  exact (row5_alloc w _ _ _ _ _ _).of_block hb

theorem fin_own {t : Tr} {w W : World} {c : C5} {F : List Nat} (h : Own W t c F) (hn : F.Nodup) (hF : ∀ b, b ∈ F → w.heap.size < b ∧ b < W.heap.size) (hb : Below w.heap.size w W) : PlEnd t w (.returned (.agg #[c.c0, c.c1, c.c2, c.c3, c.c4])) (set5 W w.heap.size c) :=
  ⟨c, F, rfl, Own.carry t c F (fun b hb' => set5_heap _ _ _ _ (by have := (hF b hb').1; omega)) h, hn, fun b hb' => by rw [set5_size]; have := hF b hb'; omega, below_set5 hb _ _ (Nat.le_refl _)⟩

set_option maxRecDepth 100000 in
set_option maxHeartbeats 800000 in
theorem plain_1 (n : Int) (hn : -999999999 ≤ n ∧ n ≤ 999999999) (w : World) : Calls Tryz.prog 28 #[.iface 87 (.int .i64 n)] w fun e w' => PlEnd (.mk 1 n ByteArray.empty [] []) w e w' := by
  have hta0 : ∀ w, Sem.run Tryz.prog (Instr.typeAssert (.iface 87 (.int .i64 n)) 48 87 true) w = .ok (.tuple #[.int .i64 n, .bool true]) w := fun _ => by kernel_rfl
  go_enter Tryz.func28, Tryz.ntmps28
  go_wp2_with fail
  refine bodyPost_ret (v := .agg #[.int .i64 1, .int .i64 n, .string ByteArray.empty, .slice none 0 0, .slice none 0 0]) (by simp [results, Tryz.results28, go_sem]; rfl) rfl ?_
  exact ⟨⟨_, _, _, _, _⟩, [], rfl, Own.leafT _ 1 n ByteArray.empty ⟨by decide, by decide⟩ ⟨by omega, by omega⟩ (by simp), List.nodup_nil, fun b hb => by simp at hb, (Below.refl _ _).alloc (Nat.le_refl _) _⟩
set_option maxRecDepth 100000 in
set_option maxHeartbeats 800000 in
theorem plain_2 (x : ByteArray) (hx : x.size ≤ 1048576) (w : World) : Calls Tryz.prog 28 #[.iface 88 (.string x)] w fun e w' => PlEnd (.mk 2 0 x [] []) w e w' := by
  have hta0 : ∀ w, Sem.run Tryz.prog (Instr.typeAssert (.iface 88 (.string x)) 48 87 true) w = .ok (.tuple #[.int .i64 0, .bool false]) w := fun _ => by kernel_rfl
  have hta1 : ∀ w, Sem.run Tryz.prog (Instr.typeAssert (.iface 88 (.string x)) 48 88 true) w = .ok (.tuple #[.string x, .bool true]) w := fun _ => by kernel_rfl
  have HC := hide (fun W => clone_any x W (by omega))
  go_enter Tryz.func28, Tryz.ntmps28
  go_wp2_with fail
  refine (unhide HC _).mono ?_
  rintro e w2 ⟨rfl, hb2⟩
  have r2 := box_cells (w := w) rfl (hb2.block _ (by simp))
  have y0 := r2.cell (i := 0) (by omega); have y1 := r2.cell (i := 1) (by omega); have y2 := r2.cell (i := 2) (by omega); have y3 := r2.cell (i := 3) (by omega); have y4 := r2.cell (i := 4) (by omega)
  have z0 := r2.frozen 0; have z1 := r2.frozen 1; have z2 := r2.frozen 2; have z3 := r2.frozen 3; have z4 := r2.frozen 4
  simp only [row5] at y0 y1 y2 y3 y4
  have HB2 := hide ((Below.refl w.heap.size w).alloc (Nat.le_refl _) _ |>.trans (hb2.mono (by simp)))
  clear hb2 HC r2
  go_wp2_with fail
  refine bodyPost_ret (v := .agg #[.int .i64 2, .int .i64 0, .string x, .slice none 0 0, .slice none 0 0]) (by simp [results, Tryz.results28, go_sem, y0, y1, y2, y3, y4]) rfl ?_
  exact fin_own (c := ⟨_, _, _, _, _⟩) (Own.leafT _ 2 0 x ⟨by decide, by decide⟩ ⟨by decide, by decide⟩ (by omega)) List.nodup_nil (fun b hb => by simp at hb) (unhide HB2)
set_option maxRecDepth 100000 in
set_option maxHeartbeats 800000 in
theorem plain_3a  (w : World) : Calls Tryz.prog 28 #[.iface 90 (.bool true)] w fun e w' => PlEnd (.mk 3 1 ByteArray.empty [] []) w e w' := by
  have hta0 : ∀ w, Sem.run Tryz.prog (Instr.typeAssert (.iface 90 (.bool true)) 48 87 true) w = .ok (.tuple #[.int .i64 0, .bool false]) w := fun _ => by kernel_rfl
  have hta1 : ∀ w, Sem.run Tryz.prog (Instr.typeAssert (.iface 90 (.bool true)) 48 88 true) w = .ok (.tuple #[.string ByteArray.empty, .bool false]) w := fun _ => by kernel_rfl
  have hta2 : ∀ w, Sem.run Tryz.prog (Instr.typeAssert (.iface 90 (.bool true)) 48 90 true) w = .ok (.tuple #[.bool true, .bool true]) w := fun _ => by kernel_rfl
  go_enter Tryz.func28, Tryz.ntmps28
  go_wp2_with fail
  refine bodyPost_ret (v := .agg #[.int .i64 3, .int .i64 1, .string ByteArray.empty, .slice none 0 0, .slice none 0 0]) (by simp [results, Tryz.results28, go_sem]; rfl) rfl ?_
  exact ⟨⟨_, _, _, _, _⟩, [], rfl, Own.leafT _ 3 1 ByteArray.empty ⟨by decide, by decide⟩ ⟨by decide, by decide⟩ (by simp), List.nodup_nil, fun b hb => by simp at hb, (Below.refl _ _).alloc (Nat.le_refl _) _⟩
set_option maxRecDepth 100000 in
set_option maxHeartbeats 800000 in
theorem plain_3b  (w : World) : Calls Tryz.prog 28 #[.iface 90 (.bool false)] w fun e w' => PlEnd (.mk 3 0 ByteArray.empty [] []) w e w' := by
  have hta0 : ∀ w, Sem.run Tryz.prog (Instr.typeAssert (.iface 90 (.bool false)) 48 87 true) w = .ok (.tuple #[.int .i64 0, .bool false]) w := fun _ => by kernel_rfl
  have hta1 : ∀ w, Sem.run Tryz.prog (Instr.typeAssert (.iface 90 (.bool false)) 48 88 true) w = .ok (.tuple #[.string ByteArray.empty, .bool false]) w := fun _ => by kernel_rfl
  have hta2 : ∀ w, Sem.run Tryz.prog (Instr.typeAssert (.iface 90 (.bool false)) 48 90 true) w = .ok (.tuple #[.bool false, .bool true]) w := fun _ => by kernel_rfl
  go_enter Tryz.func28, Tryz.ntmps28
  go_wp2_with fail
  refine bodyPost_ret (v := .agg #[.int .i64 3, .int .i64 0, .string ByteArray.empty, .slice none 0 0, .slice none 0 0]) (by simp [results, Tryz.results28, go_sem]; rfl) rfl ?_
  exact ⟨⟨_, _, _, _, _⟩, [], rfl, Own.leafT _ 3 0 ByteArray.empty ⟨by decide, by decide⟩ ⟨by decide, by decide⟩ (by simp), List.nodup_nil, fun b hb => by simp at hb, (Below.refl _ _).alloc (Nat.le_refl _) _⟩
set_option maxRecDepth 100000 in
set_option maxHeartbeats 800000 in
theorem plain_4 (a : Option Addr) (cap : Nat) (ks : List Tr) (w : World) (hks : ∀ o, Calls Tryz.prog 57 #[.slice a ks.length cap] (w.alloc o) fun e w' => PksEnd ks (w.alloc o) e w') : Calls Tryz.prog 28 #[.iface 92 (.slice a ks.length cap)] w fun e w' => PlEnd (.mk 4 0 ByteArray.empty [] ks) w e w' := by
  have hta0 : ∀ w, Sem.run Tryz.prog (Instr.typeAssert (.iface 92 (.slice a ks.length cap)) 48 87 true) w = .ok (.tuple #[.int .i64 0, .bool false]) w := fun _ => by kernel_rfl
  have hta1 : ∀ w, Sem.run Tryz.prog (Instr.typeAssert (.iface 92 (.slice a ks.length cap)) 48 88 true) w = .ok (.tuple #[.string ByteArray.empty, .bool false]) w := fun _ => by kernel_rfl
  have hta2 : ∀ w, Sem.run Tryz.prog (Instr.typeAssert (.iface 92 (.slice a ks.length cap)) 48 90 true) w = .ok (.tuple #[.bool false, .bool false]) w := fun _ => by kernel_rfl
  have hta3 : ∀ w, Sem.run Tryz.prog (Instr.typeAssert (.iface 92 (.slice a ks.length cap)) 48 92 true) w = .ok (.tuple #[.slice a ks.length cap, .bool true]) w := fun _ => by kernel_rfl
  have HKS := hide hks
  clear hks
  go_enter Tryz.func28, Tryz.ntmps28
  go_wp2_with fail
  refine (unhide HKS _).mono ?_
  rintro e w2 ⟨a2, cap2, F, rfl, hko, hnd, hF, hb2⟩
  have r2 := box_cells (w := w) rfl (hb2.block _ (by simp))
  have y0 := r2.cell (i := 0) (by omega); have y1 := r2.cell (i := 1) (by omega); have y2 := r2.cell (i := 2) (by omega); have y3 := r2.cell (i := 3) (by omega); have y4 := r2.cell (i := 4) (by omega)
  have z0 := r2.frozen 0; have z1 := r2.frozen 1; have z2 := r2.frozen 2; have z3 := r2.frozen 3; have z4 := r2.frozen 4
  simp only [row5] at y0 y1 y2 y3 y4
  have HB2 := hide ((Below.refl w.heap.size w).alloc (Nat.le_refl _) _ |>.trans (hb2.mono (by simp)))
  have HKO := hide hko; have HF := hide hF
  clear hb2 HKS r2 hko hF
  go_wp2_with fail
  refine bodyPost_ret (v := .agg #[.int .i64 4, .int .i64 0, .string ByteArray.empty, .slice none 0 0, .slice a2 ks.length cap2]) (by simp [results, Tryz.results28, go_sem, y0, y1, y2, y3, y4]; rfl) rfl ?_
  exact fin_own (c := ⟨_, _, _, _, _⟩) (F := [] ++ F) (Own.make (t := .mk 4 0 ByteArray.empty [] ks) rfl rfl rfl (show I64 4 from ⟨by decide, by decide⟩) (show I64 0 from ⟨by decide, by decide⟩) (by simp [Tr.text]) ⟨none, 0, rfl, by simp [Tr.names], Or.inl ⟨rfl, rfl⟩⟩ (unhide HKO)) hnd (fun b hb => by have := unhide HF b hb; simp at this; omega) (unhide HB2)
set_option maxRecDepth 100000 in
set_option maxHeartbeats 800000 in
theorem plain_6 (a : Option Addr) (cap : Nat) (ks : List Tr) (w : World) (hks : ∀ o, Calls Tryz.prog 57 #[.slice a ks.length cap] (w.alloc o) fun e w' => PksEnd ks (w.alloc o) e w') : Calls Tryz.prog 28 #[.iface 97 (.slice a ks.length cap)] w fun e w' => PlEnd (.mk 6 0 ByteArray.empty [] ks) w e w' := by
  have hta0 : ∀ w, Sem.run Tryz.prog (Instr.typeAssert (.iface 97 (.slice a ks.length cap)) 48 87 true) w = .ok (.tuple #[.int .i64 0, .bool false]) w := fun _ => by kernel_rfl
  have hta1 : ∀ w, Sem.run Tryz.prog (Instr.typeAssert (.iface 97 (.slice a ks.length cap)) 48 88 true) w = .ok (.tuple #[.string ByteArray.empty, .bool false]) w := fun _ => by kernel_rfl
  have hta2 : ∀ w, Sem.run Tryz.prog (Instr.typeAssert (.iface 97 (.slice a ks.length cap)) 48 90 true) w = .ok (.tuple #[.bool false, .bool false]) w := fun _ => by kernel_rfl
  have hta3 : ∀ w, Sem.run Tryz.prog (Instr.typeAssert (.iface 97 (.slice a ks.length cap)) 48 92 true) w = .ok (.tuple #[.slice none 0 0, .bool false]) w := fun _ => by kernel_rfl
  have hta4 : ∀ w, Sem.run Tryz.prog (Instr.typeAssert (.iface 97 (.slice a ks.length cap)) 48 95 true) w = .ok (.tuple #[.agg #[.slice none 0 0, .slice none 0 0], .bool false]) w := fun _ => by kernel_rfl
  have hta5 : ∀ w, Sem.run Tryz.prog (Instr.typeAssert (.iface 97 (.slice a ks.length cap)) 48 97 true) w = .ok (.tuple #[.slice a ks.length cap, .bool true]) w := fun _ => by kernel_rfl
  have HKS := hide hks
  clear hks
  go_enter Tryz.func28, Tryz.ntmps28
  go_wp2_with fail
  refine (unhide HKS _).mono ?_
  rintro e w2 ⟨a2, cap2, F, rfl, hko, hnd, hF, hb2⟩
  have r2 := box_cells (w := w) rfl (hb2.block _ (by simp))
  have y0 := r2.cell (i := 0) (by omega); have y1 := r2.cell (i := 1) (by omega); have y2 := r2.cell (i := 2) (by omega); have y3 := r2.cell (i := 3) (by omega); have y4 := r2.cell (i := 4) (by omega)
  have z0 := r2.frozen 0; have z1 := r2.frozen 1; have z2 := r2.frozen 2; have z3 := r2.frozen 3; have z4 := r2.frozen 4
  simp only [row5] at y0 y1 y2 y3 y4
  have HB2 := hide ((Below.refl w.heap.size w).alloc (Nat.le_refl _) _ |>.trans (hb2.mono (by simp)))
  have HKO := hide hko; have HF := hide hF
  clear hb2 HKS r2 hko hF
  go_wp2_with fail
  refine bodyPost_ret (v := .agg #[.int .i64 6, .int .i64 0, .string ByteArray.empty, .slice none 0 0, .slice a2 ks.length cap2]) (by simp [results, Tryz.results28, go_sem, y0, y1, y2, y3, y4]; rfl) rfl ?_
  exact fin_own (c := ⟨_, _, _, _, _⟩) (F := [] ++ F) (Own.make (t := .mk 6 0 ByteArray.empty [] ks) rfl rfl rfl (show I64 6 from ⟨by decide, by decide⟩) (show I64 0 from ⟨by decide, by decide⟩) (by simp [Tr.text]) ⟨none, 0, rfl, by simp [Tr.names], Or.inl ⟨rfl, rfl⟩⟩ (unhide HKO)) hnd (fun b hb => by have := unhide HF b hb; simp at this; omega) (unhide HB2)
end Go.Proofs.YtgamonfmgngilaaGreatDoor
