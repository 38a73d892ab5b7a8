/- The walk of the specification's LogFrames. For rows of at most 2^20 bytes. -/
import Derived.Test.YtkmjhcidafkflaaPart15
import Derived.Test.YtkmjhcidafkflaaPart01
import Derived.Test.YtkmjhcidafkflaaPart17
import Derived.Deep.RegionWith
import Derived.Deep.QuietTactic
import Derived.BigQuiet
import Derived.Handy
namespace Go.Proofs.Ytkmjhcidafkflaa
open Go Go.RowKit

theorem infoRecW : (Try.prog.info? 29).map (fun i => (i.zero, i.size, i.bytes)) = some (some (.agg #[.int .i64 0, .string ByteArray.empty]), 2, 24) := by kernel_rfl
theorem infoRecD : ∃ i, Try.prog.info? 29 = some i ∧ i.zero = some (.agg #[.int .i64 0, .string ByteArray.empty]) ∧ i.size = 2 ∧ i.bytes = 24 := by
  have := infoRecW
  cases h : Try.prog.info? 29 with
  | none => rw [h] at this; simp at this
  | some i => rw [h] at this; exact ⟨i, rfl, by simpa using this⟩
theorem byB_at {s : ByteArray} {i : Nat} (h : i < s.size) : byB s i = (s[i].toNat : Int) := by
  unfold byB
  rw [List.getD_eq_getElem?_getD, List.getElem?_eq_getElem (by simpa using h)]
  rfl
theorem ownsRow_keepR {w w' : World} {base : Nat} {e : TypeId} {size : Nat} {v : Value} {n : Nat} {xs : List Value} (h : w.ownsRow base e size v n xs) (hk : ∀ g, v.ownBlock = some g → w'.heap[g]? = w.heap[g]?) : w'.ownsRow base e size v n xs := by
  refine ⟨h.1, ?_⟩
  rcases h.2 with h0 | ⟨g, cap, cur, hv, hb, hh, hr⟩
  · exact Or.inl h0
  · exact Or.inr ⟨g, cap, cur, hv, hb, by rw [hk g (by rw [hv]; rfl)]; exact hh, hr⟩
theorem slice_at {P : Program} (W : World) (t : TypeId) (s : ByteArray) (i n : Nat) (hu : P.underlying t = some .string) (h : i + 5 + n ≤ s.size) :
    Sem.run P (Instr.slice t (.string s) (some (.int .i64 ((i : Int) + 5))) (some (.int .i64 ((i : Int) + 5 + n))) none) W = .ok (.string (s.extract (i + 5) (i + 5 + n))) W := by
  rw [run_slice_string W t s .i64 .i64 ((i : Int) + 5) ((i : Int) + 5 + n) hu (by omega) (by omega) (by omega), show ((i : Int) + 5).toNat = i + 5 by omega, show ((i : Int) + 5 + n).toNat = i + 5 + n by omega]
theorem cell_two (w : World) (x y : Value) (t : TypeId) : ∀ j u, [x, y][j]? = some u → (w.alloc (.cells #[x, y] t)).cell? ((⟨w.heap.size, 0, none⟩ : Addr).add j) = some u := by
  intro j u hj
  match j with
  | 0 => simp only [List.getElem?_cons_zero, Option.some.injEq] at hj; subst hj; rw [Addr.add_lit]; simp [go_sem]
  | 1 => simp only [List.getElem?_cons_succ, List.getElem?_cons_zero, Option.some.injEq] at hj; subst hj; rw [Addr.add_lit]; simp [go_sem]
  | j + 2 => simp at hj
/-- Both LogFrames end so. -/
def FrEnd (w w' : World) (e : Ending) (s : ByteArray) : Prop :=
  ∃ (v : Value) (F : List Nat), e = .returned (.tuple #[v, .int .i64 ((frs s 0).2 : Nat)]) ∧ RcsOwn w' v (frs s 0).1 F ∧ (∀ b, b ∈ F → w.heap.size ≤ b ∧ b < w'.heap.size) ∧ Below w.heap.size w w'
theorem FrEnd.of {w w' : World} {s : ByteArray} {L : List Rc} {i : Nat} {v : Value} (h : FrI s L i) (hw : ¬ whB s i) (ho : w'.ownsRow w.heap.size 29 2 v L.length (L.map Rc.cs).flatten) (hok : ∀ r, r ∈ L → r.okM) (hb : Below w.heap.size w w') : FrEnd w w' (.returned (.tuple #[v, .int .i64 (i : Nat)])) s := by
  have hd := h.done hw
  obtain ⟨F, h1, -, h3, -⟩ := FlatOwn.of_row (rs := L.map Rc.cs) (n := 2) (by rw [List.length_map]; exact ho) (fun r hr => by obtain ⟨x, -, rfl⟩ := List.mem_map.1 hr; rfl)
  exact ⟨v, F, by rw [hd], by rw [hd]; exact ⟨h1, hok⟩, h3, hb⟩

set_option maxRecDepth 100000 in
set_option maxHeartbeats 6400000 in
theorem specLogFrames_any (s : ByteArray) (hs : s.size ≤ 1048576) (w : World) : Calls Try.prog 10 #[.string s] w fun e w' => FrEnd w w' e s := by
  obtain ⟨j0, hj, hy0, hy1, hy2⟩ := infoRecD
  have HJJ := hide hj; have HY0 := hide hy0; have HY1 := hide hy1; have HY2 := hide hy2
  have HIN := hide (fun z lo hi W => frInS z lo hi W)
  have HEMP := hide (empty_row (base := w.heap.size) (size := 2) (World.rowIs_alloc w #[] 29 (fun _ => .bool false) (fun i hi => by simp at hi)) (Nat.le_refl _))
  clear hj hy0 hy1 hy2
  go_enter Try.func10, Try.ntmps10
  go_wp2_with fail
  go_loopw [4, 5] (fun vo at' wr => ∃ (L : List Rc) (i n : Nat) (ao : Option Addr) (co : Nat), i ≤ s.size ∧ n ≤ 300000 ∧ vo = .slice ao n co ∧ at' = .int .i64 i ∧ Hid (n = L.length) ∧ Hid (FrI s L i) ∧ Hid (∀ r, r ∈ L → r.okM) ∧ Hid (wr.ownsRow w.heap.size 29 2 (.slice ao n co) n (L.map Rc.cs).flatten) ∧ Hid (Below w.heap.size w wr)) (fun _ i _ => s.size - (intOf i).toNat)
  case atStart => exact ⟨[], 0, 0, _, _, Nat.zero_le _, by omega, rfl, rfl, rfl, FrI.start s, fun r hr => (by cases hr), HEMP, (Below.refl _ _).alloc (Nat.le_refl _) _⟩
  case round =>
    obtain ⟨L, i, n, ao, co, hi, hn, rfl, rfl, HL, HI, HOK, HO, HB⟩ := hrel
    by_cases h5 : i + 5 ≤ s.size
    case neg =>
      have HNW := hide (show ¬ whB s i from fun h => h5 h.1)
      go_wp2_with fail
      go_returns
      exact FrEnd.of HI.out (unhide HNW) (by rw [← HL.out]; exact HO.out) HOK.out HB.out
    have i0 : i < s.size := by omega
    obtain ⟨p1, hp1, e1⟩ : ∃ p : Nat, (i : Int) + 1 = p ∧ p = i + 1 := ⟨i + 1, by omega, rfl⟩
    obtain ⟨p2, hp2, e2⟩ : ∃ p : Nat, (i : Int) + 2 = p ∧ p = i + 2 := ⟨i + 2, by omega, rfl⟩
    obtain ⟨p3, hp3, e3⟩ : ∃ p : Nat, (i : Int) + 3 = p ∧ p = i + 3 := ⟨i + 3, by omega, rfl⟩
    obtain ⟨p4, hp4, e4⟩ : ∃ p : Nat, (i : Int) + 4 = p ∧ p = i + 4 := ⟨i + 4, by omega, rfl⟩
    have i1 : p1 < s.size := by omega
    have i2 : p2 < s.size := by omega
    have i3 : p3 < s.size := by omega
    have i4 : p4 < s.size := by omega
    have HSZ := hide (show szB s i = (s[i].toNat : Int) * 256 + (s[p1].toNat : Int) by unfold szB; rw [byB_at i0, ← e1, byB_at i1])
    have HPS := hide (show psB s i = (s[p2].toNat : Int) * 65536 + (s[p3].toNat : Int) * 256 + (s[p4].toNat : Int) by unfold psB; rw [← e2, ← e3, ← e4, byB_at i2, byB_at i3, byB_at i4])
    have t0 : s[i].toNat < 256 := s[i].toNat_lt
    have t1 : s[p1].toNat < 256 := s[p1].toNat_lt
    have t2 : s[p2].toNat < 256 := s[p2].toNat_lt
    have t3 : s[p3].toNat < 256 := s[p3].toNat_lt
    have t4 : s[p4].toNat < 256 := s[p4].toNat_lt
    clear e1 e2 e3 e4
    go_wp2_with fail
    go_quiet (fail)
    revert nq
    intro m1
    go_wp2_with fail
    go_quiet (fail)
    revert nq
    intro m2
    have HOw : Hid (((wr.drewN m1).drewN m2).ownsRow w.heap.size 29 2 (.slice ao n co) n (L.map Rc.cs).flatten) := HO.out
    have HBw : Hid (Below w.heap.size w ((wr.drewN m1).drewN m2)) := ⟨HB.out.os, HB.out.tape, HB.out.output, HB.out.size, HB.out.block⟩
    generalize (wr.drewN m1).drewN m2 = W at *
    have hz0 : 0 ≤ (s[i].toNat : Int) * 256 + (s[p1].toNat : Int) ∧ (s[i].toNat : Int) * 256 + (s[p1].toNat : Int) < 65536 := by omega
    have hq0 : 0 ≤ (s[p2].toNat : Int) * 65536 + (s[p3].toNat : Int) * 256 + (s[p4].toNat : Int) ∧ (s[p2].toNat : Int) * 65536 + (s[p3].toNat : Int) * 256 + (s[p4].toNat : Int) < 16777216 := by omega
    generalize (s[i].toNat : Int) * 256 + (s[p1].toNat : Int) = z at *
    generalize (s[p2].toNat : Int) * 65536 + (s[p3].toNat : Int) * 256 + (s[p4].toNat : Int) = q at *
    clear t0 t1 t2 t3 t4 hp1 hp2 hp3 hp4 HO HB
    obtain ⟨zn, rfl⟩ : ∃ zn : Nat, z = zn := ⟨z.toNat, by omega⟩
    have HRC := hide (show rcB s i = ⟨q, s.extract (i + 5) (i + 5 + zn)⟩ by unfold rcB; rw [unhide HPS, unhide HSZ]; rfl)
    have HWH := hide (show whB s i ↔ ((zn : Int) ≤ 2000 ∧ (1 ≤ q ∧ q ≤ 999999) ∧ i + 5 + zn ≤ s.size) by
      unfold whB
      rw [unhide HPS, unhide HSZ]
      constructor
      · rintro ⟨_, h2, h3, h4⟩; exact ⟨h2, h3, by omega⟩
      · rintro ⟨h2, h3, h4⟩; exact ⟨h5, h2, h3, by omega⟩)
    have HNX := hide (show (szB s i).toNat = zn by rw [unhide HSZ]; rfl)
    by_cases c1 : 2000 < (zn : Int)
    · have HNW := hide (show ¬ whB s i from fun h => by have := ((unhide HWH).1 h).1; omega)
      go_wp2_with fail
      go_returns
      exact FrEnd.of HI.out (unhide HNW) (by rw [← HL.out]; exact HOw.out) HOK.out HBw.out
    go_wp2_with fail
    refine (unhide HIN _ _ _ _).mono ?_
    rintro e W2 ⟨rfl, hb2⟩
    have HO2 := hide (ownsRow_keepR HOw.out (fun g e => hb2.block g (HOw.out.lt g e).2)); have HB2 := hide (HBw.out.trans (hb2.mono HBw.out.size))
    have hs2 := HB2.out.size
    clear hb2 HOw HBw
    by_cases c2 : 1 ≤ q ∧ q ≤ 999999
    case neg =>
      have HNW := hide (show ¬ whB s i from fun h => c2 ((unhide HWH).1 h).2.1)
      rw [decide_eq_false c2]
      clear c2
      go_wp2_with fail
      go_returns
      exact FrEnd.of HI.out (unhide HNW) (by rw [← HL.out]; exact HO2.out) HOK.out HB2.out
    rw [decide_eq_true c2]
    have C2 := hide c2
    clear c2
    by_cases c3 : i + 5 + zn ≤ s.size
    case neg =>
      have HNW := hide (show ¬ whB s i from fun h => c3 ((unhide HWH).1 h).2.2)
      go_wp2_with fail
      go_returns
      exact FrEnd.of HI.out (unhide HNW) (by rw [← HL.out]; exact HO2.out) HOK.out HB2.out
    have HIN2 := hide (HI.out.next ((unhide HWH).2 ⟨by omega, unhide C2, c3⟩))
    rw [unhide HNX, unhide HRC] at HIN2
    have hn2 : n ≤ 209716 := by have := HI.out.2.2; have := HL.out; omega
    have hsl := fun W => slice_at (P := Try.prog) W 9 s i zn Try.underlying9 c3
    go_wp2_with (at_builtin; (refine append_row _ rfl _ _ 23 rfl w.heap.size 29 j0 (.agg #[.int .i64 0, .string ByteArray.empty]) 2 24 Try.underlying23 (unhide HJJ) (unhide HY0) (unhide HY1) (unhide HY2) rfl (by decide) (.slice ao n co) n ((L.map Rc.cs).flatten) rfl (World.ownsRow.alloc HO2.out _) ⟨W2.heap.size, 0, none⟩ 1 1 [.int .i64 q, .string (s.extract (i + 5) (i + 5 + zn))] rfl rfl (cell_two _ _ _ _) (fun u hu => by simp at hu; rcases hu with rfl | rfl <;> rfl) (by decide) (by unfold maxLen; omega) (by omega) (by simp; omega) ?_; intro v' w5 hown5 hgrow5 hat5; obtain ⟨g5, cap5, rfl, -, -⟩ := hown5.form (by omega); have HO5 := hide hown5; have HB5 := hide (below_grown (by simp; omega) (HB2.out.alloc hs2 (.cells #[.int .i64 q, .string (s.extract (i + 5) (i + 5 + zn))] 29)) hgrow5 (fun b e => (HO2.out.lt b e).1)); clear hown5 hgrow5 hat5))
    go_roundw
    case rel => exact ⟨L ++ [⟨q, s.extract (i + 5) (i + 5 + zn)⟩], i + 5 + zn, n + 1, some ⟨g5, 0, none⟩, cap5, by omega, by omega, rfl, by go_num, hide (by have := HL.out; simp; omega), HIN2, hide (fun r hr => by
        rcases List.mem_append.1 hr with h | h
        · exact HOK.out r h
        · simp only [List.mem_singleton] at h; subst h; show (s.extract (i + 5) (i + 5 + zn)).size ≤ _; rw [ByteArray.size_extract]; omega), hide (by have := unhide HO5; simpa [Rc.cs] using this), HB5⟩
    case measure => simp [intOf]; omega
end Go.Proofs.Ytkmjhcidafkflaa
