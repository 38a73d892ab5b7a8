/- The program's DiskNames: what it answers, in memory of its own; that it turns nothing that was there. No conditions. -/
import Derived.Test.YtepknipcflbodaaWDkLk
import Derived.Test.YtepknipcflbodaaWClone
namespace Go.Proofs.Ytepknipcflbodaa
open Go Go.RowKit Go.WideMaps Go.Maps

theorem after_len : ∀ (ms : List Dm) (ns : List ByteArray), (afterD ns ms).length ≤ ns.length + ms.length
  | [], ns => by simp [afterD]
  | m :: r, ns => by
    have h1 : afterD ns (m :: r) = afterD (stepD ns m) r := rfl
    have h2 := after_len r (stepD ns m)
    have h3 : (stepD ns m).length ≤ ns.length + 1 := by
      unfold stepD
      cases m.gone with
      | true => have := without_len ns m.name; simp only [if_true]; omega
      | false => simp
    rw [h1, List.length_cons]; omega
theorem namesD_small {d : Dk} : (namesD d).length ≤ 1000 ∧ ∀ x, x ∈ namesD d → x.size ≤ 8 := by
  by_cases h : DkOkS d
  · refine ⟨?_, fun x hx => ?_⟩
    · rw [namesD_ok h]
      have h2 := after_len d.moves d.names
      have := h.l2; have := h.l3; omega
    · obtain ⟨i, hi, -, e, -⟩ := names_file hx
      have hn := (h.file i hi (by rw [h.len]; exact hi)).name
      rw [e] at hn
      refine Classical.byContradiction fun hno => ?_
      rw [nameOk_len (Or.inr (by omega))] at hn
      cases hn
  · rw [namesD_no h]; exact ⟨by simp, fun x hx => by cases hx⟩

set_option maxRecDepth 100000 in
set_option maxHeartbeats 1600000 in
theorem implDiskNames_any (d : Dk) (P : Nat → Prop) (c : C3) (w : World) (hP : ∀ b, P b → b < w.heap.size) (hd : DkAt P w d c) :
    Calls Try.prog 12 #[.agg #[c.c0, c.c1, c.c2]] w fun e w' => ∃ v F, e = .returned v ∧ StrsOwn w' v (namesD d) F ∧ F.Nodup ∧ (∀ b, b ∈ F → w.heap.size ≤ b ∧ b < w'.heap.size) ∧ Below w.heap.size w w' := by
  obtain ⟨c0, c1, c2⟩ := c
  have HD := hide hd; have HP := hide hP
  have hbx : ∀ o, Below w.heap.size w (w.alloc o) := fun o => (Below.refl _ _).alloc (Nat.le_refl _) o
  have HV := hide (fun o => viewsOf_any d P ⟨c0, c1, c2⟩ (w.alloc o) (fun b hb => Nat.lt_of_lt_of_le (hP b hb) (hbx o).size) (hd.carry (fun b hb => (hbx o).block b (hP b hb)) (fun _ h => h)))
  have HBX := hide hbx
  clear hd hP hbx
  go_enter Try.func12, Try.ntmps12
  go_wp2_with fail
  refine (unhide HV _).mono ?_
  rintro e w1 ⟨r, q0, q1, x2, n2, m2, q3, x4, n4, m4, rfl, hr, hb1, hvw⟩
  have HB1 := hide ((unhide HBX _).trans (hb1.mono (unhide HBX _).size))
  clear hb1 HV
  cases r with
  | false =>
    have HNO := hide (show namesD d = [] from namesD_no (fun h => by have := hr.2 ((dkOk_iff d).1 h); cases this))
    clear hr hvw
    go_wp2_with fail
    go_ret
    refine ⟨_, [], rfl, ?_, List.nodup_nil, fun b hb => (by cases hb), (unhide HB1).alloc (unhide HB1).size _⟩
    rw [unhide HNO]
    exact ⟨none, 0, rfl, by simp, Or.inl ⟨rfl, rfl⟩⟩
  | true =>
    obtain ⟨T, B, vm, hvw⟩ := hvw rfl
    have hok := (dkOk_iff d).2 (hr.1 rfl)
    clear hr
    have hval := hvw.val
    simp only [Value.agg.injEq, Array.mk.injEq, List.cons.injEq, Value.pointer.injEq, and_true] at hval
    obtain ⟨rfl, rfl, hx2, rfl, rfl⟩ := hval
    obtain ⟨hnd, heq, hmf⟩ := dk_nodup hok
    have hbv : ∀ o, Below w1.heap.size w1 (w1.alloc o) := fun o => (Below.refl _ _).alloc (Nat.le_refl _) o
    have hnm : ∀ (W : World), Below w1.heap.size w1 W → StrsAt (fun b => b < W.heap.size) W (.slice x2 n2 m2) d.names := fun W hW => by
      have := (unhide HD).ns.carry (w' := W) (Q := fun b => b < W.heap.size) (fun b hb => (hW.block b (Nat.lt_of_lt_of_le (unhide HP b hb) (unhide HB1).size)).trans ((unhide HB1).block b (unhide HP b hb))) (fun b hb => Nat.lt_of_lt_of_le (unhide HP b hb) (Nat.le_trans (unhide HB1).size hW.size))
      rw [← hx2] at this; exact this
    have HTH := hide (fun o => there_any d.names d.moves (some ⟨T, 0, none⟩) (some ⟨T, 0, none⟩) x2 n2 m2 (some ⟨T, 0, none⟩) x4 n4 m4 (fun b => b < (w1.alloc o).heap.size) (w1.alloc o) (fun _ h => h) (hnm _ (hbv o)) ((hvw.carry (hbv o)).fns.carry (fun _ _ => rfl) (fun b hb => hb.2)) (by have := hok.l2; omega) (by have := hok.l3; omega) (afterD d.names d.moves) hmf)
    rw [← namesD_ok hok] at HTH
    have HBV := hide hbv
    clear hvw hnm hbv hnd heq hmf hok hx2
    go_wp2_with fail
    refine (unhide HTH _).mono ?_
    rintro e w2 ⟨v2, rfl, hn2⟩
    have hs := @namesD_small d
    have HCP := hide (copyNames_any v2 (namesD d) w2 (P := New (w1.alloc (.cells #[.pointer (some ⟨T, 0, none⟩), .pointer (some ⟨T, 0, none⟩), .slice x2 n2 m2, .pointer (some ⟨T, 0, none⟩), .slice x4 n4 m4] 64)) w2) (fun b hb => hb.2) hn2.strs (by omega) (fun x hx => by have := hs.2 x hx; omega))
    have HB2 := hide (((unhide HB1).trans ((unhide HBV _).mono (unhide HB1).size)).trans (hn2.below.mono (Nat.le_trans (unhide HB1).size (unhide HBV _).size)))
    clear hn2 hs
    go_wp2_with fail
    refine (unhide HCP).mono ?_
    rintro e w3 ⟨v3, F, rfl, ho, hnd, hF, hb3⟩
    have HO := hide ho; have HB3 := hide ((unhide HB2).trans (hb3.mono (unhide HB2).size)); have HF := hide (fun b hb => show w.heap.size ≤ b ∧ b < w3.heap.size from ⟨Nat.le_trans (unhide HB2).size (hF b hb).1, (hF b hb).2⟩)
    clear ho hb3 hF
    go_wp2_with fail
    go_ret
    exact ⟨v3, F, rfl, unhide HO, hnd, unhide HF, unhide HB3⟩
end Go.Proofs.Ytepknipcflbodaa
