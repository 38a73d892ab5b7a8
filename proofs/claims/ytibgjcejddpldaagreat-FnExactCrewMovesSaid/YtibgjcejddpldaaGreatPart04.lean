/- The walks of the program's all, put, fill at numbers. No conditions. -/
import Derived.Test.YtibgjcejddpldaaGreatPart03
import Derived.Deep.RegionLaw
import Derived.Deep.AppendLies
import Derived.BigRegion
import Derived.Handy
import Derived.Test.YtibgjcejddpldaaGreatPart00
namespace Go.Proofs.YtibgjcejddpldaaGreat
open Go Go.RowKit

theorem ring_mod {f i n : Nat} (h : f + i ≤ 1000) : IntKind.i64.wrap ((f : Int) + (i : Int)) = ((f + i : Nat) : Int) ∧ ((f + i : Nat) : Int).tmod (n : Int) = (((f + i) % n : Nat) : Int) := by
  constructor
  · rw [IntKind.wrap_i64]; omega
  · rw [Int.tmod_eq_emod_of_nonneg (by omega)]; omega
set_option maxRecDepth 100000 in
set_option maxHeartbeats 1600000 in
theorem all_any (b p n : Nat) (l : List Int) (s : Int) (w : World) (h : RgAt w b p n l s) : Calls Tryz.prog 77 #[.pointer (some ⟨b, 0, none⟩)] w fun e w' => ∃ a c, e = .returned (.slice a l.length c) ∧ w'.ownsRow w.heap.size 3 1 (.slice a l.length c) l.length (l.map zcs).flatten ∧ Below w.heap.size w w' := by
  obtain ⟨⟨f, g, hf, hb, hp, hg⟩, hle, hsm⟩ := h
  obtain ⟨j1, hI, hI0, hI1, hI2⟩ := info_parts infoIntM
  have HI := hide hI; have HI0 := hide hI0; have HI1 := hide hI1; have HI2 := hide hI2
  clear hI hI0 hI1 hI2
  have c2 := hb.cell (i := 2) (by omega)
  simp only [rg4, List.getD_cons_zero, List.getD_cons_succ] at c2
  have HBX := hide hb; have HPL := hide hp; have HG := hide hg
  have HOWN0 := hide (show w.ownsRow w.heap.size 3 1 (.slice none 0 0) 0 ((l.take 0).map zcs).flatten from ⟨rfl, Or.inl ⟨rfl, rfl⟩⟩)
  clear hb hp hg
  go_enter Tryz.func77, Tryz.ntmps77
  go_wp2_with fail
  clear c2
  go_loopw [3, 9] (fun v i wr => ∃ (d : Nat) (a : Option Addr) (c : Nat), d ≤ l.length ∧ i = .int .i64 d ∧ v = .slice a d c ∧ Hid (wr.ownsRow w.heap.size 3 1 (.slice a d c) d ((l.take d).map zcs).flatten) ∧ Hid (Below w.heap.size w wr)) (fun _ i _ => l.length - (intOf i).toNat)
  case atStart => exact ⟨0, none, 0, Nat.zero_le _, rfl, rfl, HOWN0, hide (Below.refl _ _)⟩
  case round =>
    obtain ⟨d, a, c, hd, rfl, rfl, HO, HB⟩ := hrel
    by_cases hlt : d < l.length
    · have hbx := (unhide HBX).of_block ((unhide HB).block b (unhide HBX).lt)
      have hpl := (unhide HPL).of_block ((unhide HB).block p (unhide HPL).lt)
      have c0 := hbx.cell (i := 0) (by omega); have c1 := hbx.cell (i := 1) (by omega)
      simp only [rg4, List.getD_cons_zero, List.getD_cons_succ] at c0 c1
      obtain ⟨hw0, hrem⟩ := ring_mod (f := f) (i := d) (n := n) (by omega)
      have hmn : (f + d) % n < n := Nat.mod_lt _ (by omega)
      have cp := hpl.cell (i := (f + d) % n) hmn
      simp only [unhide HG d hlt] at cp
      have hn0 : ¬ (n = 0) := by omega
      have htk : ((l.take (d + 1)).map zcs).flatten = ((l.take d).map zcs).flatten ++ [.int .i64 l[d]] := by
        rw [List.take_succ_eq_append_getElem hlt, List.map_append, List.flatten_append]; rfl
      have HTK := hide htk
      generalize (f + d) % n = q at hrem hmn cp
      generalize f + d = fd at hw0 hrem
      generalize l[d] = z at cp HTK
      have hsw := (unhide HB).size
      clear hbx hpl htk
      go_wp2_with fail
      go_region_law ((refine step_append_lies _ (by rfl) _ _ _ (by rfl) w.heap.size 3 j1 (.int .i64 0) 1 8 Tryz.underlying23 (unhide HI) (unhide HI0) (unhide HI1) (unhide HI2) rfl (by decide) (.slice a d c) d ((l.take d).map zcs).flatten (by rfl) (World.ownsRow.alloc HO.out _) ⟨wr.heap.size, 0, none⟩ 1 1 [.int .i64 z] (by first | rfl | simp) (by rfl) (cell_one _ _ _) (fun u hu => by simp at hu; subst hu; rfl) (by decide) (by unfold maxLen; omega) (by omega) (by simp; omega) (wr.heap.size + 1) (by simp) ?_; intro g2 cap2 w8 hown8 hgrow8 hat8 hlt8))
      all_goals
        have hgrow8 := grown_drew hgrow8
        have hbx : Below w.heap.size w w8 := ((unhide HB).trans ((Below.refl w.heap.size wr).alloc (by omega) (.cells #[.int .i64 z] 3))).trans ((Below.refl w.heap.size _).grown hgrow8 (by simp; omega) (fun k e => (HO.out.lt k e).1))
        rw [← unhide HTK] at hown8
        have HO8 := hide hown8; have HB8 := hide hbx
        clear hbx hown8 hgrow8 hat8 hlt8
        go_wp2_with fail
        go_roundw
        case rel => exact ⟨d + 1, some ⟨g2, 0, none⟩, cap2, by omega, by go_num, rfl, HO8, HB8⟩
        case measure => simp [intOf]; omega
    · obtain rfl : d = l.length := by omega
      have ho := HO.out
      rw [List.take_length] at ho
      have HO2 := hide ho
      clear ho
      go_wp2_with fail
      go_ret
      exact ⟨_, _, rfl, unhide HO2, HB.out⟩
set_option maxRecDepth 100000 in
set_option maxHeartbeats 1600000 in
theorem putI_any (b p n : Nat) (l : List Int) (s z : Int) (w : World) (h : RgAt w b p n l s) (hroom : l.length < n) : Calls Tryz.prog 101 #[.pointer (some ⟨b, 0, none⟩), .int .i64 z] w fun e w' => e = .returned (.tuple #[]) ∧ RgAt w' b p n (l ++ [z]) s ∧ Exc [b, p] w w' := by
  have hne := h.ne
  obtain ⟨⟨f, g, hf, hb, hp, hg⟩, hle, hsm⟩ := h
  have c0 := hb.cell (i := 0) (by omega); have c1 := hb.cell (i := 1) (by omega); have c2 := hb.cell (i := 2) (by omega); have f2 := hb.frozen 2
  simp only [rg4, List.getD_cons_zero, List.getD_cons_succ] at c0 c1 c2
  obtain ⟨hw0, hrem⟩ := ring_mod (f := f) (i := l.length) (n := n) (by omega)
  have hmn : (f + l.length) % n < n := Nat.mod_lt _ (by omega)
  have cp := hp.cell (i := (f + l.length) % n) hmn; have fp := hp.frozen ((f + l.length) % n)
  have hn0 : ¬ (n = 0) := by omega
  have hend : ∀ W, W = (w.setCell ⟨p, (f + l.length) % n, none⟩ (.int .i64 z)).setCell ⟨b, 2, none⟩ (.int .i64 ((l.length : Int) + 1)) → RgAt W b p n (l ++ [z]) s := fun W hW => by
    subst hW
    refine ⟨⟨f, fun i => if i = (f + l.length) % n then z else g i, hf, ?_, ?_, ?_⟩, by simp; omega, hsm⟩
    · refine ((hb.setOther (a := ⟨p, (f + l.length) % n, none⟩) hne _).set 2 (.int .i64 ((l.length : Int) + 1))).congr fun i hi => ?_
      rcases (show i = 0 ∨ i = 1 ∨ i = 2 ∨ i = 3 by omega) with rfl | rfl | rfl | rfl <;> simp [rg4]
    · refine ((hp.set ((f + l.length) % n) (.int .i64 z)).setOther (a := ⟨b, 2, none⟩) (Ne.symm hne) _).congr fun i hi => ?_
      by_cases e : i = (f + l.length) % n <;> simp [e]
    · intro i hi
      rw [List.length_append] at hi
      have hi' : i < l.length + 1 := hi
      by_cases e : i = l.length
      · subst e; simp
      · have h1 : (f + i) % n ≠ (f + l.length) % n := fun e2 => by
          have a1 := Nat.div_add_mod (f + i) n; have a2 := Nat.div_add_mod (f + l.length) n
          rw [e2] at a1
          have h3 : n * ((f + l.length) / n) - n * ((f + i) / n) = l.length - i := by omega
          rw [← Nat.mul_sub] at h3
          rcases Nat.eq_zero_or_pos ((f + l.length) / n - (f + i) / n) with h4 | h4
          · rw [h4] at h3; omega
          · have := Nat.le_mul_of_pos_right n h4; omega
        simp only [if_neg h1]
        rw [List.getElem_append_left (by omega)]
        exact hg i (by omega)
  have hw1 : IntKind.i64.wrap ((l.length : Int) + 1) = (l.length : Int) + 1 := by rw [IntKind.wrap_i64]; omega
  have g2 : (w.setCell ⟨p, (f + l.length) % n, none⟩ (.int .i64 z)).cell? ⟨b, 2, none⟩ = some (.int .i64 l.length) := (hb.setOther (a := ⟨p, (f + l.length) % n, none⟩) hne _).cell (i := 2) (by omega)
  have gf : (w.setCell ⟨p, (f + l.length) % n, none⟩ (.int .i64 z)).frozen? ⟨b, 2, none⟩ = false := (hb.setOther (a := ⟨p, (f + l.length) % n, none⟩) hne _).frozen 2
  have HX := hide (show Exc [b, p] w ((w.setCell ⟨p, (f + l.length) % n, none⟩ (.int .i64 z)).setCell ⟨b, 2, none⟩ (.int .i64 ((l.length : Int) + 1))) from (Exc.set _ p _ _ (by simp)).trans (Exc.set _ b 2 _ (by simp)))
  have HEND := hide (hend _ rfl)
  clear hb hp hg hend
  generalize (f + l.length) % n = q at hrem hmn cp fp g2 gf HX HEND
  generalize f + l.length = fd at hw0 hrem
  generalize l.length = k at *
  go_enter Tryz.func101, Tryz.ntmps101
  go_wp2_with fail
  go_region
  have g2 : (w.setCell ⟨p, q, none⟩ (.int .i64 z)).drew.cell? ⟨b, 2, none⟩ = some (.int .i64 k) := g2
  have gf : (w.setCell ⟨p, q, none⟩ (.int .i64 z)).drew.frozen? ⟨b, 2, none⟩ = false := gf
  go_wp2_with fail
  go_end0
  exact ⟨rfl, (unhide HEND).carry rfl rfl, (unhide HX).trans (Exc.of_below (Below.refl _ _).drew)⟩
set_option maxRecDepth 100000 in
set_option maxHeartbeats 1600000 in
theorem fillI_any (b p n : Nat) (l : List Int) (s : Int) (v : Value) (zs : List Int) (P : Nat → Prop) (w : World) (h : RgAt w b p n l s) (hz : ZAt P w v zs) (hP : ∀ x, P x → x < w.heap.size ∧ x ≠ b ∧ x ≠ p) (hroom : l.length + zs.length ≤ n) : Calls Tryz.prog 75 #[.pointer (some ⟨b, 0, none⟩), v] w fun e w' => e = .returned (.tuple #[]) ∧ RgAt w' b p n (l ++ zs) s ∧ Exc [b, p] w w' := by
  have hsm := h.small
  obtain ⟨a, cap, rfl, hzl, hzc⟩ := hz.open
  have HP := hide (fun (k : List Int) (z : Int) (W : World) hW hc => putI_any b p n k s z W hW hc)
  have H0 := hide (show RgAt w b p n (l ++ zs.take 0) s by rw [List.take_zero, List.append_nil]; exact h)
  have HZ := hide hzc; have HPP := hide hP
  clear h hz hzc hP
  go_enter Tryz.func75, Tryz.ntmps75
  go_wp2_with fail
  go_loopw [8] (fun i wr => ∃ (c : Nat), c ≤ zs.length ∧ i = .int .i64 c ∧ Hid (RgAt wr b p n (l ++ zs.take c) s) ∧ Hid (Exc [b, p] w wr)) (fun i _ => zs.length - (intOf i).toNat)
  case atStart => exact ⟨0, Nat.zero_le _, rfl, H0, hide (Exc.refl _ _)⟩
  case round =>
    obtain ⟨c, hc, rfl, HR, HX⟩ := hrel
    by_cases hlt : c < zs.length
    · obtain ⟨bz, oz, rfl, hpb, hcell⟩ := unhide HZ c hlt
      obtain ⟨hp1, hp2, hp3⟩ := unhide HPP bz hpb
      have e1 : wr.cell? ⟨bz, oz + c, none⟩ = some (.int .i64 zs[c]) := by rw [World.cell?_of_block (a := ⟨bz, oz + c, none⟩) (HX.out.block bz hp1 (by simp [hp2, hp3]))]; exact hcell
      have htk : zs.take (c + 1) = zs.take c ++ [zs[c]] := List.take_succ_eq_append_getElem hlt
      have hlt2 : (l ++ zs.take c).length < n := by rw [List.length_append, List.length_take]; omega
      have HTK := hide htk; have HLT := hide hlt2
      generalize zs[c] = z at e1 HTK
      clear hcell htk hlt2
      go_wp2_with (go_at_call 101; refine (unhide HP (l ++ zs.take c) z _ HR.out (unhide HLT)).mono ?_; rintro e w2 ⟨rfl, hr2, hx2⟩; rw [List.append_assoc, ← unhide HTK] at hr2; have HR2 := hide hr2; have HX2 := hide (HX.out.trans hx2); clear hr2 hx2)
      go_roundw
      case rel => exact ⟨c + 1, by omega, by go_num, HR2, HX2⟩
      case measure => simp [intOf]; omega
    · obtain rfl : c = zs.length := by omega
      have hr := HR.out
      rw [List.take_length] at hr
      have HR2 := hide hr
      clear hr
      go_wp2_with fail
      go_end0
      exact ⟨rfl, unhide HR2, HX.out⟩
end Go.Proofs.YtibgjcejddpldaaGreat

/- Schemas that own their memory: what blocks they lie in, each named once; schemas gathered in a row of the call's own. Definitions and small laws; no program walked, no conditions. -/

namespace Go.Proofs.YtibgjcejddpldaaGreat
open Go Go.RowKit




end Go.Proofs.YtibgjcejddpldaaGreat

/- Rows of schemas that share their memory: what is read of kids, laid in a new row, one kid put in another's place. No program walked; no conditions. -/

namespace Go.Proofs.YtibgjcejddpldaaGreat
open Go Go.RowKit

end Go.Proofs.YtibgjcejddpldaaGreat

/- append of a whole list onto an empty one; the cells of a list of names, to be copied. No program, no conditions. -/

namespace Go.Proofs.YtibgjcejddpldaaGreat
open Go Go.RowKit

end Go.Proofs.YtibgjcejddpldaaGreat
