/- The walks of the library's strings.Clone and of the program's copyNames: the same bytes; the same names, in a row of the call's own. Of what was there nothing has turned. The strings have at most 2^47 bytes. -/
import Derived.Test.YtepknipcflbodaaShelf
import Derived.Test.YtepknipcflbodaaRows
import Derived.Test.YtepknipcflbodaaRow
import Derived.Test.YtepknipcflbodaaFirst
namespace Go.Proofs.Ytepknipcflbodaa
open Go Go.RowKit

set_option maxHeartbeats 400000 in
theorem clone_any (s : ByteArray) (w : World) (hlim : s.size ≤ 140737488355328) :
    Calls Try.prog 40 #[.string s] w fun e w' => e = .returned (.string s) ∧ Below w.heap.size w w' := by
  have hc : ∀ W, Calls Try.prog 55 #[.string s] W fun e w' => e = .returned (.string s) ∧ Below W.heap.size W w' := fun W => Try.stringslite_Clone s W (by omega)
  have HC := hide hc; clear hc
  go_enter Try.func40, Try.ntmps40
  go_wp2_with (go_at_call 55; refine (unhide HC _).mono ?_; rintro e w' ⟨rfl, hb⟩)
  go_ret
  exact ⟨rfl, hb⟩

theorem infoStrC : (Try.prog.info? 9).map (fun i => (i.zero, i.size, i.bytes)) = some (some (.string ByteArray.empty), 1, 16) := by kernel_rfl

set_option maxRecDepth 100000 in
set_option maxHeartbeats 800000 in
theorem copyNames_any (v : Value) (ss : List ByteArray) (w : World) {P : Nat → Prop} (hP : ∀ b, P b → b < w.heap.size) (hv : StrsAt P w v ss) (hl : ss.length ≤ 1048576) (hsz : ∀ x, x ∈ ss → x.size ≤ 1099511627776) :
    Calls Try.prog 34 #[v] w fun e w' => ∃ v' F, e = .returned v' ∧ StrsOwn w' v' ss F ∧ F.Nodup ∧ (∀ b, b ∈ F → w.heap.size ≤ b ∧ b < w'.heap.size) ∧ Below w.heap.size w w' := by
  obtain ⟨a, cap, rfl, hlen, hc⟩ := hv
  obtain ⟨i0, hi, hz0, hz1, hz2⟩ := info_parts infoStrC
  have HC := hide hc; have HP := hide hP; have HSZ := hide hsz
  have HII := hide hi; have HZ0 := hide hz0; have HZ1 := hide hz1; have HZ2 := hide hz2
  clear hc hP hsz hi hz0 hz1 hz2
  go_enter Try.func34, Try.ntmps34
  go_wp2_with fail
  go_loopw [3, 8] (fun s i wr => ∃ (k : Nat) (a' : Option Addr) (cap' : Nat), k ≤ ss.length ∧ i = .int .i64 k ∧ s = .slice a' k cap' ∧ Hid (wr.ownsRow w.heap.size 9 1 (.slice a' k cap') k ((ss.take k).map Value.string)) ∧ Hid (Below w.heap.size w wr)) (fun _ i _ => ss.length - (intOf i).toNat)
  case atStart => exact ⟨0, none, 0, Nat.zero_le _, rfl, rfl, World.ownsRow_nil _ _ _ _, Below.refl _ _⟩
  case round =>
    obtain ⟨k, a', cap', hk, rfl, rfl, HOWN, HB⟩ := hrel
    by_cases hlt : k < ss.length
    · obtain ⟨b, o, rfl, hpb, hcell, -⟩ := unhide HC k hlt
      have e1 : wr.cell? ⟨b, o + k, none⟩ = some (.string ss[k]) := by rw [HB.out.cell (unhide HP b hpb)]; exact hcell
      have hcl := clone_any ss[k] wr (by have := unhide HSZ _ (List.getElem_mem hlt); omega)
      have htk : (ss.take (k + 1)).map Value.string = (ss.take k).map Value.string ++ [.string ss[k]] := by
        rw [List.take_succ_eq_append_getElem hlt, List.map_append]; rfl
      generalize ss[k] = tk at *
      have HCL := hide hcl; have HTK := hide htk
      clear hcl htk hcell hpb
      go_wp2_with fail
      refine (unhide HCL).mono ?_
      rintro e w2 ⟨rfl, hb2⟩
      have hs2 := hb2.size
      have hsw := HB.out.size
      have hown2 : w2.ownsRow w.heap.size 9 1 (.slice a' k cap') k ((ss.take k).map Value.string) :=
        HOWN.out.kept (row := none) ⟨hb2.os, hb2.tape, hb2.output, hb2.size, fun i hi _ => hb2.block i hi⟩ (by
          rcases h : (Value.slice a' k cap').ownBlock with _ | g
          · exact Or.inl rfl
          · exact Or.inr (by simp))
      have HOWN2 := hide hown2; have HB2 := hide (HB.out.trans (hb2.mono hsw))
      clear hown2 hb2 HCL e1
      go_wp2_with (at_builtin; refine append_row _ rfl _ _ 23 rfl w.heap.size 9 i0 (.string ByteArray.empty) 1 16 Try.underlying23 (unhide HII) (unhide HZ0) (unhide HZ1) (unhide HZ2) rfl (by decide) (.slice a' k cap') k ((ss.take k).map Value.string) rfl ((unhide HOWN2).alloc _) ⟨w2.heap.size, 0, none⟩ 1 1 [.string tk] rfl rfl (cell_one _ _ _) (fun u hu => by simp at hu; subst hu; rfl) (by decide) (by unfold maxLen; omega) (by omega) (by simp; omega) ?_; intro v' w4 hown4 hgrow4 hv4)
      have hlt4 := (unhide HOWN2).lt
      obtain ⟨g', cap'', hv''⟩ : ∃ g' cap'', v' = .slice (some ⟨g', 0, none⟩) (k + 1) cap'' := by
        rcases hown4.2 with ⟨_, h⟩ | ⟨g', cap'', _, h, _⟩
        · omega
        · exact ⟨g', cap'', h⟩
      subst hv''
      have hb4 : Below w.heap.size w2 w4 := (((Below.refl _ w2).alloc (by omega) _)).trans ((Below.refl _ _).grown hgrow4 (by simp; omega) (fun k e => (hlt4 k e).1))
      have HOWN4 : Hid (w4.ownsRow w.heap.size 9 1 (.slice (some ⟨g', 0, none⟩) (k + 1) cap'') (k + 1) ((ss.take (k + 1)).map Value.string)) := by
        show World.ownsRow _ _ _ _ _ _ _
        rw [unhide HTK]; exact hown4
      have HB4 := hide ((unhide HB2).trans hb4)
      clear hown4 hgrow4 hv4 hb4 hlt4
      go_wp2_with fail
      go_roundw
      case rel => exact ⟨k + 1, some ⟨g', 0, none⟩, cap'', by omega, by go_num, rfl, HOWN4, unhide HB4⟩
      case measure => simp [intOf]; omega
    · obtain rfl : k = ss.length := by omega
      have h1 := HOWN.out
      rw [List.take_length] at h1
      obtain ⟨F, hF, hnd, hlt', -⟩ := strsOwn_of_row h1 (fun x hx => by have := unhide HSZ x hx; omega)
      have HF := hide hF; have HL := hide hlt'
      clear h1 hF hlt'
      go_wp2_with fail
      go_ret
      exact ⟨_, F, rfl, unhide HF, hnd, unhide HL, HB.out⟩

end Go.Proofs.Ytepknipcflbodaa
