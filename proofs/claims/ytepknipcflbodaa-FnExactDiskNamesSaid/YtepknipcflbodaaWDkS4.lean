/- The walk of the specification's l41After: the names behind so many moves, in new memory. Conditions: at most 1000 names and moves. -/
import Derived.Test.YtepknipcflbodaaWDkS3
namespace Go.Proofs.Ytepknipcflbodaa
open Go Go.RowKit

set_option maxHeartbeats 1600000 in
theorem l41After_any (d : Dk) (P : Nat → Prop) (c : C3) (w : World) (hP : ∀ b, P b → b < w.heap.size) (hd : DkAt P w d c) (hl1 : d.names.length ≤ 1000) (hl2 : d.moves.length ≤ 1000) (q : Nat) (hq : q ≤ d.moves.length) :
    Calls Try.prog 27 #[.agg #[c.c0, c.c1, c.c2], .int .i64 (q : Int)] w fun e w' => ∃ a n cap, e = .returned (.slice a n cap) ∧ Hid (NmOwn w w' (.slice a n cap) n (afterD d.names (d.moves.take q))) := by
  obtain ⟨c0, c1, c2⟩ := c
  obtain ⟨a0, p0, g0, -, -⟩ := hd.fs.open
  obtain ⟨a1, p1, g1, -, hnc⟩ := hd.ns
  obtain ⟨a2, p2, g2, -, hmc⟩ := hd.ms.open
  simp only at g0 g1 g2
  subst g0 g1 g2
  obtain ⟨j0, hj, hy0, hy1, hy2⟩ := infoStrD
  have HJJ := hide hj; have HY0 := hide hy0; have HY1 := hide hy1; have HY2 := hide hy2
  have hsz : ∀ x, x ∈ d.names → x.size ≤ 9223372036854775807 := fun x hx => by
    obtain ⟨i, hi, rfl⟩ := List.getElem_of_mem hx
    obtain ⟨_, _, _, _, _, h⟩ := hnc i hi
    exact h
  obtain ⟨W0, hW0⟩ : ∃ W0, w.alloc (.cells #[.slice a0 d.files.length p0, .slice a1 d.names.length p1, .slice a2 d.moves.length p2] 32) = W0 := ⟨_, rfl⟩
  have hb0 : Below w.heap.size w W0 := by rw [← hW0]; exact (Below.refl _ _).alloc (Nat.le_refl _) _
  have hs0 : W0.heap.size = w.heap.size + 1 := by rw [← hW0]; simp
  have hrow : W0.rowIs w.heap.size 32 3 (row3 (.slice a0 d.files.length p0) (.slice a1 d.names.length p1) (.slice a2 d.moves.length p2)) := by rw [← hW0]; exact row3_alloc w _ _ _ _
  have hemp := empty_row (base := W0.heap.size) (size := 1) (World.rowIs_alloc W0 #[] 9 (fun _ => .bool false) (fun i hi => by simp at hi)) (Nat.le_refl _)
  rw [hs0] at hemp
  have hsrc := names_srcD (hd.ns.carry (P := P) (Q := P) (w' := W0) (fun b hb => hb0.block b (hP b hb)) (fun _ h => h)) (.cells #[] 9)
  have hxl : (d.names.map Value.string).length = d.names.length * 1 := by simp
  have hbe : Below W0.heap.size W0 (W0.alloc (.cells #[] 9)) := (Below.refl _ _).alloc (Nat.le_refl _) _
  have hse : (W0.alloc (.cells #[] 9)).heap.size = w.heap.size + 2 := by simp [hs0]
  have HROW := hide hrow; have HEMP := hide hemp; have HSRC := hide hsrc; have HSZ := hide hsz; have HMC := hide hmc; have HB0 := hide hb0; have HP := hide hP; have HXL := hide hxl; have HBE := hide hbe; have HSE := hide hse
  clear hd hnc hmc hsz hb0 hrow hemp hsrc hP hj hy0 hy1 hy2 hxl hbe hse
  have HMM := hide (fun k (hk : k < d.moves.length) => after_take (ns := d.names) hk)
  have HM0 := hide (show afterD d.names (d.moves.take 0) = d.names by simp [afterD])
  generalize hnf : d.files.length = nf at *
  generalize hnn : d.names.length = nn at *
  have HNN := hide hnn
  clear hnf hnn
  subst hW0
  go_enter Try.func27, Try.ntmps27
  go_wp2_with (at_builtin; refine append_copyD _ rfl _ _ 23 rfl (w.heap.size + 1) 9 j0 (.string ByteArray.empty) 1 16 Try.underlying23 (unhide HJJ) (unhide HY0) (unhide HY1) (unhide HY2) rfl (by decide) (w.heap.size + 1) rfl (unhide HEMP) a1 nn p1 (d.names.map Value.string) rfl (unhide HXL) (unhide HSRC) (fun u hu => by obtain ⟨y, -, rfl⟩ := List.mem_map.1 hu; rfl) (by unfold maxLen; omega) (by omega) (by have := unhide HSE; omega) ?_; intro g cap w2 HO HG)
  have hb2 : Below (w.heap.size + 1) (w.alloc (.cells #[.slice a0 nf p0, .slice a1 nn p1, .slice a2 d.moves.length p2] 32)) w2 :=
    below_grown (by have := unhide HSE; omega) ((unhide HBE).mono (by omega)) HG.out (fun x e => by cases e; omega)
  have HB2 := hide hb2
  clear hb2 HG HEMP HSRC HBE
  go_loopw [5, 6] (fun vo i wr => ∃ (k n : Nat) (ao : Option Addr) (co : Nat), k ≤ q ∧ n ≤ nn + k ∧ i = .int .i64 k ∧ vo = .slice ao n co ∧ Hid (n = (afterD d.names (d.moves.take k)).length) ∧ Hid (wr.ownsRow (w.heap.size + 1) 9 1 (.slice ao n co) n ((afterD d.names (d.moves.take k)).map Value.string)) ∧ Hid (∀ y, y ∈ afterD d.names (d.moves.take k) → y.size ≤ 9223372036854775807) ∧ Hid (Below (w.heap.size + 1) (w.alloc (.cells #[.slice a0 nf p0, .slice a1 nn p1, .slice a2 d.moves.length p2] 32)) wr)) (fun _ i _ => q - (intOf i).toNat)
  case atStart => exact ⟨0, nn, _, _, Nat.zero_le _, by omega, rfl, rfl, hide (by rw [unhide HM0]; exact (unhide HNN).symm), hide (by rw [unhide HM0]; exact HO.out), hide (by rw [unhide HM0]; exact unhide HSZ), HB2⟩
  case round =>
    clear HO HB2
    obtain ⟨k, n, ao, co, hk, hn, rfl, rfl, HQ, HO, HY, HB⟩ := hrel
    have hrow := (unhide HROW).of_block (HB.out.block w.heap.size (by omega))
    have k2 := hrow.cell (i := 2) (by omega)
    simp only [row3] at k2
    have hbs : w.heap.size + 1 ≤ wr.heap.size := by have := HB.out.size; rw [hs0] at this; exact this
    by_cases hlt : k < q
    · have hlm : k < d.moves.length := by omega
      obtain ⟨b, o, rfl, hpb, hc0, hc1, hok⟩ := unhide HMC k hlm
      have hcar : ∀ o', wr.cell? ⟨b, o', none⟩ = w.cell? ⟨b, o', none⟩ := fun o' => by
        have hbl := unhide HP b hpb
        rw [World.cell?_of_block (w := w) ((HB.out.block b (by omega)).trans ((unhide HB0).block b hbl))]
      have e0 : wr.cell? ⟨b, o + k * 2, none⟩ = some (.bool d.moves[k].gone) := by rw [hcar]; exact hc0
      have e1 : wr.cell? ⟨b, o + k * 2 + 1, none⟩ = some (.string d.moves[k].name) := by rw [hcar]; exact hc1
      have hmz : d.moves[k].name.size ≤ 9223372036854775807 := hok
      have HT := hide (unhide HMM k hlm)
      clear hc0 hc1 hcar hpb hok hrow
      unfold stepD at HT
      cases e : d.moves[k].gone with
      | true =>
        rw [e] at HT e0
        simp only [if_true] at HT
        generalize d.moves[k].name = y at *
        have HW := hide (l41Without_any (.slice ao n co) (afterD d.names (d.moves.take k)) y wr (fun b hb => hb.2) (strsAt_own (by rw [← HQ.out]; exact HO.out) HY.out) (by have := HQ.out; omega))
        go_wp2_with fail
        refine (unhide HW).mono ?_
        rintro e' w5 ⟨a5, n5, c5, rfl, h5, HO5, hb5⟩
        have HB5 := hide (HB.out.trans (hb5.mono hbs))
        have hl5 := without_len (afterD d.names (d.moves.take k)) y
        have hn5 : n5 ≤ nn + k := by have := HQ.out; omega
        have H5 := hide h5
        clear hb5 HW hl5 h5
        go_wp2_with fail
        go_roundw
        case rel => exact ⟨k + 1, n5, a5, c5, by omega, by omega, by go_num, rfl, hide (by rw [unhide HT]; exact unhide H5), hide (by rw [unhide HT]; exact ownsRow_base HO5.out hbs), hide (by
          rw [unhide HT]
          exact fun z hz => HY.out z (List.mem_filter.1 hz).1), HB5⟩
        case measure => simp [intOf]; omega
      | false =>
        rw [e] at HT e0
        simp only [Bool.false_eq_true, if_false] at HT
        generalize d.moves[k].name = y at *
        go_wp2_with (at_builtin; (refine append_row _ rfl _ _ 23 rfl (w.heap.size + 1) 9 j0 (.string ByteArray.empty) 1 16 Try.underlying23 (unhide HJJ) (unhide HY0) (unhide HY1) (unhide HY2) rfl (by decide) (.slice ao n co) n ((afterD d.names (d.moves.take k)).map Value.string) rfl (World.ownsRow.alloc HO.out _) ⟨wr.heap.size, 0, none⟩ 1 1 [.string y] rfl rfl (cell_one wr _ _) (fun u hu => by simp at hu; subst hu; rfl) (by decide) (by unfold maxLen; omega) (by omega) (by simp; omega) ?_; intro v' w5 hown5 hgrow5 hat5; obtain ⟨g5, cap5, rfl, -, -⟩ := hown5.form (by omega); have HO5 := hide hown5; have HB5 := hide (below_grown (by simp; omega) (HB.out.alloc hbs (.cells #[.string y] 9)) hgrow5 (fun b e => (HO.out.lt b e).1)); clear hown5 hgrow5 hat5))
        go_roundw
        case rel => exact ⟨k + 1, n + 1, some ⟨g5, 0, none⟩, cap5, by omega, by omega, by go_num, rfl, hide (by rw [unhide HT]; have := HQ.out; simp; omega), hide (by
          rw [unhide HT]
          have := unhide HO5
          simpa using this), hide (by
          rw [unhide HT]
          intro z hz
          rcases List.mem_append.1 hz with h | h
          · exact HY.out z h
          · simp at h; rw [h]; exact hmz), HB5⟩
        case measure => simp [intOf]; omega
    · obtain rfl : k = q := by omega
      go_wp2_with fail
      go_ret
      exact ⟨ao, n, co, rfl, ⟨ownsRow_base HO.out (by omega), HQ.out, HY.out, (unhide HB0).trans (HB.out.mono (by omega))⟩⟩
end Go.Proofs.Ytepknipcflbodaa
