/- The walks of the library's strings.Clone and of the program's copyNames: the same bytes; the same names, in a row of the call's own. Of what was there nothing has turned. The strings have at most 2^47 bytes. -/
import Derived.Test.YtgamonfmgngilaaGreatDoorPart04
import Derived.Test.YtgamonfmgngilaaGreatDoorRows
import Derived.Test.YtgamonfmgngilaaGreatDoorPart01
import Derived.Test.YtgamonfmgngilaaGreatDoorPart13
import Derived.Test.YtgamonfmgngilaaGreatDoorPart12
import Derived.Deep.CutRange
import Derived.Test.YtgamonfmgngilaaGreatDoorPart00
import Derived.Test.YtgamonfmgngilaaGreatDoorPart03
import Derived.WideLaws
namespace Go.Proofs.YtgamonfmgngilaaGreatDoor
open Go Go.RowKit

set_option maxHeartbeats 400000 in
theorem clone_any (s : ByteArray) (w : World) (hlim : s.size ≤ 140737488355328) :
    Calls Tryz.prog 56 #[.string s] w fun e w' => e = .returned (.string s) ∧ Below w.heap.size w w' := by
  have hc : ∀ W, Calls Tryz.prog 93 #[.string s] W fun e w' => e = .returned (.string s) ∧ Below W.heap.size W w' := fun W => Tryz.stringslite_Clone s W (by omega)
  have HC := hide hc; clear hc
  go_enter Tryz.func56, Tryz.ntmps56
  go_wp2_with (go_at_call 93; refine (unhide HC _).mono ?_; rintro e w' ⟨rfl, hb⟩)
  go_ret
  exact ⟨rfl, hb⟩

theorem infoStrC : (Tryz.prog.info? 9).map (fun i => (i.zero, i.size, i.bytes)) = some (some (.string ByteArray.empty), 1, 16) := by kernel_rfl

set_option maxRecDepth 100000 in
set_option maxHeartbeats 800000 in
theorem copyNames_any (v : Value) (ss : List ByteArray) (w : World) {P : Nat → Prop} (hP : ∀ b, P b → b < w.heap.size) (hv : StrsAt P w v ss) (hl : ss.length ≤ 1048576) (hsz : ∀ x, x ∈ ss → x.size ≤ 1099511627776) :
    Calls Tryz.prog 58 #[v] w fun e w' => ∃ v' F, e = .returned v' ∧ StrsOwn w' v' ss F ∧ F.Nodup ∧ (∀ b, b ∈ F → w.heap.size ≤ b ∧ b < w'.heap.size) ∧ Below w.heap.size w w' := by
  obtain ⟨a, cap, rfl, hlen, hc⟩ := hv
  obtain ⟨i0, hi, hz0, hz1, hz2⟩ := info_parts infoStrC
  have HC := hide hc; have HP := hide hP; have HSZ := hide hsz
  have HII := hide hi; have HZ0 := hide hz0; have HZ1 := hide hz1; have HZ2 := hide hz2
  clear hc hP hsz hi hz0 hz1 hz2
  go_enter Tryz.func58, Tryz.ntmps58
  go_wp2_with fail
  go_loopw [3, 8] (fun s i wr => ∃ (k : Nat) (a' : Option Addr) (cap' : Nat), k ≤ ss.length ∧ i = .int .i64 k ∧ s = .slice a' k cap' ∧ Hid (wr.ownsRow w.heap.size 9 1 (.slice a' k cap') k ((ss.take k).map Value.string)) ∧ Hid (Below w.heap.size w wr)) (fun _ i _ => ss.length - (intOf i).toNat)
  case atStart => exact ⟨0, none, 0, Nat.zero_le _, rfl, rfl, World.ownsRow_nil _ _ _ _, Below.refl _ _⟩
  case round =>
    obtain ⟨k, a', cap', hk, rfl, rfl, HOWN, HB⟩ := hrel
    by_cases hlt : k < ss.length
    · obtain ⟨b, o, rfl, hpb, hcell, -⟩ := unhide HC k hlt
      have e1 : wr.cell? ⟨b, o + k, none⟩ = some (.string ss[k]) := by rw [HB.out.cell (unhide HP b hpb)]; exact hcell
      have hcl := clone_any ss[k] wr (by have := unhide HSZ _ (List.getElem_mem hlt); omega)
      have htk : (ss.take (k + 1)).map Value.string = (ss.take k).map Value.string ++ [.string ss[k]] := by
        rw [List.take_succ_eq_append_getElem hlt, List.map_append]; rfl
      generalize ss[k] = tk at *
      have HCL := hide hcl; have HTK := hide htk
      clear hcl htk hcell hpb
      go_wp2_with fail
      refine (unhide HCL).mono ?_
      rintro e w2 ⟨rfl, hb2⟩
      have hs2 := hb2.size
      have hsw := HB.out.size
      have hown2 : w2.ownsRow w.heap.size 9 1 (.slice a' k cap') k ((ss.take k).map Value.string) :=
        HOWN.out.kept (row := none) ⟨hb2.os, hb2.tape, hb2.output, hb2.size, fun i hi _ => hb2.block i hi⟩ (by
          rcases h : (Value.slice a' k cap').ownBlock with _ | g
          · exact Or.inl rfl
          · exact Or.inr (by simp))
      have HOWN2 := hide hown2; have HB2 := hide (HB.out.trans (hb2.mono hsw))
      clear hown2 hb2 HCL e1
      go_wp2_with (at_builtin; refine append_row _ rfl _ _ 23 rfl w.heap.size 9 i0 (.string ByteArray.empty) 1 16 Tryz.underlying23 (unhide HII) (unhide HZ0) (unhide HZ1) (unhide HZ2) rfl (by decide) (.slice a' k cap') k ((ss.take k).map Value.string) rfl ((unhide HOWN2).alloc _) ⟨w2.heap.size, 0, none⟩ 1 1 [.string tk] rfl rfl (cell_one _ _ _) (fun u hu => by simp at hu; subst hu; rfl) (by decide) (by unfold maxLen; omega) (by omega) (by simp; omega) ?_; intro v' w4 hown4 hgrow4 hv4)
      have hlt4 := (unhide HOWN2).lt
      obtain ⟨g', cap'', hv''⟩ : ∃ g' cap'', v' = .slice (some ⟨g', 0, none⟩) (k + 1) cap'' := by
        rcases hown4.2 with ⟨_, h⟩ | ⟨g', cap'', _, h, _⟩
        · omega
        · exact ⟨g', cap'', h⟩
      subst hv''
      have hb4 : Below w.heap.size w2 w4 := (((Below.refl _ w2).alloc (by omega) _)).trans ((Below.refl _ _).grown hgrow4 (by simp; omega) (fun k e => (hlt4 k e).1))
      have HOWN4 : Hid (w4.ownsRow w.heap.size 9 1 (.slice (some ⟨g', 0, none⟩) (k + 1) cap'') (k + 1) ((ss.take (k + 1)).map Value.string)) := by
        show World.ownsRow _ _ _ _ _ _ _
        rw [unhide HTK]; exact hown4
      have HB4 := hide ((unhide HB2).trans hb4)
      clear hown4 hgrow4 hv4 hb4 hlt4
      go_wp2_with fail
      go_roundw
      case rel => exact ⟨k + 1, some ⟨g', 0, none⟩, cap'', by omega, by go_num, rfl, HOWN4, unhide HB4⟩
      case measure => simp [intOf]; omega
    · obtain rfl : k = ss.length := by omega
      have h1 := HOWN.out
      rw [List.take_length] at h1
      obtain ⟨F, hF, hnd, hlt', -⟩ := strsOwn_of_row h1 (fun x hx => by have := unhide HSZ x hx; omega)
      have HF := hide hF; have HL := hide hlt'
      clear h1 hF hlt'
      go_wp2_with fail
      go_ret
      exact ⟨_, F, rfl, unhide HF, hnd, unhide HL, HB.out⟩

end Go.Proofs.YtgamonfmgngilaaGreatDoor

/- The walk of the program's reader of events: its type. For texts of at most 2^20 bytes. -/

namespace Go.Proofs.YtgamonfmgngilaaGreatDoor
open Go Go.RowKit

theorem tE_le (s : ByteArray) : tE s ≤ s.size := by
  unfold tE
  have h1 := List.takeWhile_prefix (p := nameByte) (l := s.data.toList.take 8)
  have h2 := h1.length_le
  have h3 : (s.data.toList.take 8).length ≤ s.size := by rw [List.length_take]; exact Nat.le_trans (Nat.min_le_right _ _) (Nat.le_of_eq rfl)
  omega

set_option maxRecDepth 100000 in
set_option maxHeartbeats 25600000 in
theorem typeName_any (w : World) (R : Nat) (s : ByteArray) (a : Nat) (p l : Int) (hs : s.size ≤ 1048576) (h : TR w R s a p l) (ha : a ≤ s.size) :
    Calls Tryz.prog 72 #[.agg #[.pointer (some ⟨R, 0, none⟩)]] w fun e w' => e = .returned (.string (s.extract a (a + tE (s.extract a s.size)))) ∧ TR w' R s (a + tE (s.extract a s.size)) p l ∧ But R w w' := by
  obtain ⟨W1, hW1⟩ : ∃ W1, w.alloc (.cells #[.pointer (some ⟨R, 0, none⟩)] 70) = W1 := ⟨_, rfl⟩
  have hlt := h.lt
  have hb1 : Below w.heap.size w W1 := by rw [← hW1]; exact (Below.refl _ _).alloc (Nat.le_refl _) _
  have hs1 : W1.heap.size = w.heap.size + 1 := by rw [← hW1]; simp
  have h1 : TR W1 R s a p l := h.of_block (hb1.block R hlt)
  have x0 : W1.cell? ⟨w.heap.size, 0, none⟩ = some (.pointer (some ⟨R, 0, none⟩)) := by rw [← hW1]; simp [go_sem]
  obtain ⟨c0, c1, f1⟩ := h1.tx
  have hXs : (s.extract a s.size).size ≤ s.size - a := by rw [ByteArray.size_extract]; omega
  have hte := tE_le (s.extract a s.size)
  have htc : Calls Tryz.prog 106 #[.string (s.extract a s.size)] W1.drew fun e w' => e = .returned (.int .i64 (tE (s.extract a s.size) : Int)) ∧ Hid (Below W1.heap.size W1 w') := (typeEnd_any (s.extract a s.size) W1.drew (by omega)).mono fun e w' ⟨h1, h2⟩ => ⟨h1, hide ⟨h2.os, h2.tape, h2.output, h2.size, h2.block⟩⟩
  generalize hk : tE (s.extract a s.size) = k at *
  have hk1 : a + k ≤ s.size := by omega
  have hcl := fun W => clone_any (s.extract a (a + k)) W (by rw [ByteArray.size_extract]; omega)
  have hi0 : (0 : Int) ≤ (a : Int) := by omega
  have hi1 : (a : Int) ≤ (s.size : Int) := by omega
  have hi2 : (a : Int) ≤ (a : Int) + (k : Int) := by omega
  have hi3 : (a : Int) + (k : Int) ≤ (s.size : Int) := by omega
  have hwr : IntKind.i64.wrap ((a : Int) + (k : Int)) = (a : Int) + (k : Int) := by rw [IntKind.wrap_i64]; omega
  have HWR := hide hwr
  have HTC := hide htc; have HCL := hide hcl; have HB1 := hide hb1; have HT1 := hide h1
  clear htc hcl hb1 h1 h hte hk hXs
  go_enter Tryz.func72, Tryz.ntmps72
  go_upto_region 2 with fail
  go_cut [] from 10 (fun wx => Hid (TR wx R s (a + k) p l) ∧ Hid (But R w wx) ∧ wx.cell? ⟨w.heap.size, 0, none⟩ = some (.pointer (some ⟨R, 0, none⟩)))
  case first =>
    go_region_with (go_at_call 106
                    refine (unhide HTC).mono ?_
                    rintro e w2 ⟨rfl, HB2⟩
                    have y0 : w2.cell? ⟨w.heap.size, 0, none⟩ = some (.pointer (some ⟨R, 0, none⟩)) := by rw [HB2.out.cell (by simp; omega)]; exact x0
                    obtain ⟨d0, d1, g1⟩ := ((unhide HT1).of_block (HB2.out.block R (by omega))).tx)
    all_goals
      try rw [unhide HWR]
      have ht2 : TR w2 R s a p l := (unhide HT1).of_block (HB2.out.block R (by omega))
      have ht3 : TR (w2.setCell ⟨R, 3, none⟩ (.int .i64 ((a : Int) + (k : Int)))) R s (a + k) p l := ht2.mv (Mv.set R 3 w2 _) (ht2.tx.set (a + k))
      have z0 : (w2.setCell ⟨R, 3, none⟩ (.int .i64 ((a : Int) + (k : Int)))).cell? ⟨w.heap.size, 0, none⟩ = some (.pointer (some ⟨R, 0, none⟩)) := by rw [World.cell?_setCell_other _ _ _ _ (fun e => by have := congrArg Addr.block e; simp at this; omega)]; exact y0
      have hbt : But R w (w2.setCell ⟨R, 3, none⟩ (.int .i64 ((a : Int) + (k : Int)))) := (But.of_below ((unhide HB1).trans (HB2.out.mono (by omega)))).trans (But.set _ 3 _)
      generalize w2.setCell ⟨R, 3, none⟩ (.int .i64 ((a : Int) + (k : Int))) = W3 at *
      go_wp2_with fail
      go_meet
      case rel => exact ⟨hide ht3, hide hbt, z0⟩
  case rest =>
    obtain ⟨HT3, HBT, z0⟩ := hcut
    obtain ⟨q0, q1, qf⟩ := (unhide HT3).tx
    clear HTC HB1 HT1 x0 c0 c1 f1
    have hnat : ((a : Int) + (k : Int)).toNat = a + k := by omega
    go_wp2_with fail
    go_region_with (go_at_call 56; first | (rw [hnat]; refine (unhide HCL _).mono ?_) | refine (unhide HCL _).mono ?_; rintro e w4 ⟨rfl, hb4⟩)
    all_goals
      go_wp2_with fail
      go_ret
      have hlt3 := (unhide HT3).lt
      exact ⟨rfl, (unhide HT3).of_block (hb4.block R (by simpa using hlt3)), (unhide HBT).trans (But.of_below ⟨hb4.os, hb4.tape, hb4.output, hb4.size, hb4.block⟩)⟩
end Go.Proofs.YtgamonfmgngilaaGreatDoor

/- The seven cells of an event in memory. No program, no conditions. -/

namespace Go.Proofs.YtgamonfmgngilaaGreatDoor
open Go Go.RowKit

def row7 (a b c0 c1 c2 c3 c4 : Value) : Nat → Value
  | 0 => a
  | 1 => b
  | 2 => c0
  | 3 => c1
  | 4 => c2
  | 5 => c3
  | _ => c4

theorem row7_alloc (w : World) (a b c0 c1 c2 c3 c4 : Value) (t : TypeId) : (w.alloc (.cells #[a, b, c0, c1, c2, c3, c4] t)).rowIs w.heap.size t 7 (row7 a b c0 c1 c2 c3 c4) :=
  World.rowIs_alloc w #[a, b, c0, c1, c2, c3, c4] t _ (fun i hi => by
    have hi' : i < 7 := hi
    match i, hi' with
    | 0, _ => rfl
    | 1, _ => rfl
    | 2, _ => rfl
    | 3, _ => rfl
    | 4, _ => rfl
    | 5, _ => rfl
    | 6, _ => rfl)

theorem ebox1 {w w1 : World} {a b x0 x1 x2 x3 x4 : Value} {tx : TypeId}
    (hb : Below (w.alloc (.cells #[a, b, x0, x1, x2, x3, x4] tx)).heap.size (w.alloc (.cells #[a, b, x0, x1, x2, x3, x4] tx)) w1) :
    w1.rowIs w.heap.size tx 7 (row7 a b x0 x1 x2 x3 x4) ∧ w.heap.size + 1 ≤ w1.heap.size ∧ Below w.heap.size w w1 := by
  have r0 := row7_alloc w a b x0 x1 x2 x3 x4 tx
  have hs := hb.size
  refine ⟨r0.of_block (hb.block _ r0.lt), by simpa using hs, ?_⟩
  exact ((Below.refl _ _).alloc (Nat.le_refl _) _).trans (hb.mono (by simp))

theorem ebox3 {w w1 : World} {xa xb x0 x1 x2 x3 x4 ya yb y0 y1 y2 y3 y4 za zb z0 z1 z2 z3 z4 : Value} {tx ty tz : TypeId}
    (hb : Below (((w.alloc (.cells #[xa, xb, x0, x1, x2, x3, x4] tx)).alloc (.cells #[ya, yb, y0, y1, y2, y3, y4] ty)).alloc (.cells #[za, zb, z0, z1, z2, z3, z4] tz)).heap.size (((w.alloc (.cells #[xa, xb, x0, x1, x2, x3, x4] tx)).alloc (.cells #[ya, yb, y0, y1, y2, y3, y4] ty)).alloc (.cells #[za, zb, z0, z1, z2, z3, z4] tz)) w1) :
    w1.rowIs (w.heap.size + 1) ty 7 (row7 ya yb y0 y1 y2 y3 y4) ∧ w1.rowIs (w.heap.size + 1 + 1) tz 7 (row7 za zb z0 z1 z2 z3 z4) ∧ w.heap.size + 3 ≤ w1.heap.size ∧ Below w.heap.size w w1 := by
  have e1 : (w.alloc (.cells #[xa, xb, x0, x1, x2, x3, x4] tx)).heap.size = w.heap.size + 1 := by simp
  have e2 : ((w.alloc (.cells #[xa, xb, x0, x1, x2, x3, x4] tx)).alloc (.cells #[ya, yb, y0, y1, y2, y3, y4] ty)).heap.size = w.heap.size + 1 + 1 := by simp
  have r1 := (row7_alloc (w.alloc (.cells #[xa, xb, x0, x1, x2, x3, x4] tx)) ya yb y0 y1 y2 y3 y4 ty).alloc (.cells #[za, zb, z0, z1, z2, z3, z4] tz)
  have r2 := row7_alloc ((w.alloc (.cells #[xa, xb, x0, x1, x2, x3, x4] tx)).alloc (.cells #[ya, yb, y0, y1, y2, y3, y4] ty)) za zb z0 z1 z2 z3 z4 tz
  rw [e1] at r1
  rw [e2] at r2
  have hs := hb.size
  refine ⟨r1.of_block (hb.block _ r1.lt), r2.of_block (hb.block _ r2.lt), by simpa using hs, ?_⟩
  exact ((((Below.refl _ _).alloc (Nat.le_refl _) _).alloc (by simp) _).alloc (by simp; omega) _).trans (hb.mono (by simp; omega))
end Go.Proofs.YtgamonfmgngilaaGreatDoor

/- The walks of the program's treeTry and its deferred function: whatever work it is handed, it answers whether that came to its end. No conditions. -/

namespace Go.Proofs.YtgamonfmgngilaaGreatDoor
open Go Go.RowKit

set_option maxHeartbeats 400000 in
theorem try_panicking (p : Addr) (x : Bool) (u : TypeId) (pv : Value) (older : List PanicEntry) (w : World) (hc : w.cell? p = some (.bool x)) (hz : w.frozen? p = false) :
    CallsD Tryz.prog 55 #[.pointer (some p)] (.panicking ({ v := .iface u pv, recovered := false } :: older)) w fun e u' w' =>
      e = .returned (.tuple #[]) ∧ u' = .panicking ({ v := .iface u pv, recovered := true } :: older) ∧ w' = w.setCell p (.bool false) := by
  refine callsD_of_wpS Tryz.func55 rfl fun c₀ cs hu => ?_
  apply wpS_region
  simp [wpOpsS, go_sem, recoverD, hu, Tryz.ntmps55, hc, hz, bodyPostS, results, Tryz.results55]

set_option maxHeartbeats 400000 in
theorem try_returning (p : Addr) (x : Bool) (w : World) (hc : w.cell? p = some (.bool x)) (hz : w.frozen? p = false) :
    CallsD Tryz.prog 55 #[.pointer (some p)] .returning w fun e u' w' => e = .returned (.tuple #[]) ∧ u' = .returning ∧ w' = w.setCell p (.bool true) := by
  refine callsD_of_wpS Tryz.func55 rfl fun c₀ cs hu => ?_
  apply wpS_region
  simp [wpOpsS, go_sem, recoverD, hu, Tryz.ntmps55, hc, hz, bodyPostS, results, Tryz.results55]
  cases c₀
  simp_all

theorem cell_new1 {w w' : World} {x : Value} {t : TypeId} (h : w'.heap[w.heap.size]? = (w.alloc (.cells #[x] t)).heap[w.heap.size]?) : w'.cell? ⟨w.heap.size, 0, none⟩ = some x ∧ w'.frozen? ⟨w.heap.size, 0, none⟩ = false := by
  rw [World.cell?_of_block (a := ⟨w.heap.size, 0, none⟩) h, World.frozen?_of_block (a := ⟨w.heap.size, 0, none⟩) h]
  exact ⟨by simp [go_sem], by simp [go_sem]⟩

set_option maxRecDepth 100000 in
set_option maxHeartbeats 400000 in
/-- Work that comes to its end. -/
theorem treeTry_yes (f : FuncId) (caps : Array Value) (w : World) (R : World → Prop) (hent : ∀ W, Sem.run Tryz.prog (callFunc f caps) W = .ok (.enter f caps) W)
    (hwork : ∀ o, Calls Tryz.prog f caps (w.alloc o) fun e w' => e = .returned (.tuple #[]) ∧ R w' ∧ w'.heap[w.heap.size]? = (w.alloc o).heap[w.heap.size]?) :
    Calls Tryz.prog 26 #[.func (.func f) #[] caps] w fun e w' => e = .returned (.bool true) ∧ ∃ w1, R w1 ∧ But w.heap.size w1 w' := by
  have hmf : ∀ (fn : Fn) (first cap : Array Value) (w : World), (Instr.makeFunc fn first cap).run Tryz.prog w = .ok (.func fn first cap) w := fun _ _ _ _ => rfl
  have HW := hide hwork; clear hwork
  go_enter_defers Tryz.func26, Tryz.ntmps26
  go_wp2_with fail
  refine (unhide HW _).mono ?_
  rintro e w1 ⟨rfl, hr, hbk⟩
  obtain ⟨hc, hz⟩ := cell_new1 hbk
  have HR := hide hr
  clear hr hbk
  go_wp2_with fail
  refine leaves_cons (f := 55) (args := #[.pointer (some ⟨w.heap.size, 0, none⟩)]) (by simp) (by simp [go_sem]) ?_
  refine (try_returning ⟨w.heap.size, 0, none⟩ true _ ?_ ?_).mono ?_
  · simp [go_sem, hc]
  · simp [go_sem, hz]
  rintro e u' w'' ⟨rfl, rfl, rfl⟩
  simp [Leaves, settle, results, Tryz.results26, go_sem, hc]
  exact ⟨w1, unhide HR, (But.set w1 0 _).trans (But.set _ 0 _)⟩

set_option maxRecDepth 100000 in
set_option maxHeartbeats 400000 in
/-- Work that raises a fault. -/
theorem treeTry_no (f : FuncId) (caps : Array Value) (w : World) (R : World → Prop) (hent : ∀ W, Sem.run Tryz.prog (callFunc f caps) W = .ok (.enter f caps) W)
    (hwork : ∀ o, Calls Tryz.prog f caps (w.alloc o) fun e w' => e = fltE ∧ R w' ∧ w'.heap[w.heap.size]? = (w.alloc o).heap[w.heap.size]?) :
    Calls Tryz.prog 26 #[.func (.func f) #[] caps] w fun e w' => e = .returned (.bool false) ∧ ∃ w1, R w1 ∧ But w.heap.size w1 w' := by
  have hmf : ∀ (fn : Fn) (first cap : Array Value) (w : World), (Instr.makeFunc fn first cap).run Tryz.prog w = .ok (.func fn first cap) w := fun _ _ _ _ => rfl
  have HW := hide hwork; clear hwork
  go_enter_defers Tryz.func26, Tryz.ntmps26
  go_wp2_with fail
  refine (unhide HW _).mono ?_
  rintro e w1 ⟨rfl, hr, hbk⟩
  obtain ⟨hc, hz⟩ := cell_new1 hbk
  have HR := hide hr
  clear hr hbk
  go_wp2_with fail
  refine leaves_cons (f := 55) (args := #[.pointer (some ⟨w.heap.size, 0, none⟩)]) (by simp) (by simp [go_sem]) ?_
  refine (try_panicking ⟨w.heap.size, 0, none⟩ false 128 _ [] _ hc hz).mono ?_
  rintro e u' w'' ⟨rfl, rfl, rfl⟩
  simp [Leaves, settle, results, Tryz.results26, go_sem, hc]
  exact ⟨w1, unhide HR, But.set w1 0 _⟩
end Go.Proofs.YtgamonfmgngilaaGreatDoor
