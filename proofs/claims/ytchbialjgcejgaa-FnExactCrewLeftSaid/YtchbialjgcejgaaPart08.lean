/- A crew under way as it lies in memory: its box, its hands, its ring, its channels. Definitions and small laws. No conditions. -/
import Derived.Test.YtchbialjgcejgaaPart04
import Derived.Test.YtchbialjgcejgaaPart07
import Derived.Deep.RegionLaw
import Derived.Deep.AppendLies
import Derived.BigRegion
import Derived.Handy
import Derived.Test.YtchbialjgcejgaaPart00
import Derived.Test.YtchbialjgcejgaaPart02
namespace Go.Proofs.Ytchbialjgcejgaa
open Go Go.RowKit

/-- A ring of numbers: its box b, its places p, n of them; what stands in it, how often it was closed. -/
structure RgAt (W : World) (b p n : Nat) (l : List Int) (s : Int) : Prop where
  ex : ∃ (f : Nat) (g : Nat → Int), f < n ∧ W.rowIs b 102 4 (rg4 (.slice (some ⟨p, 0, none⟩) n n) f l.length s) ∧ W.rowIs p 3 n (fun i => .int .i64 (g i)) ∧ ∀ i, (hi : i < l.length) → g ((f + i) % n) = l[i]
  le : l.length ≤ n
  small : n ≤ 16
theorem RgAt.carry {W W' : World} {b p n : Nat} {l : List Int} {s : Int} (h : RgAt W b p n l s) (h1 : W'.heap[b]? = W.heap[b]?) (h2 : W'.heap[p]? = W.heap[p]?) : RgAt W' b p n l s := by
  obtain ⟨⟨f, g, hf, hb, hp, hg⟩, hl, hn⟩ := h
  exact ⟨⟨f, g, hf, hb.of_block h1, hp.of_block h2, hg⟩, hl, hn⟩
theorem RgAt.lt {W : World} {b p n : Nat} {l : List Int} {s : Int} (h : RgAt W b p n l s) : b < W.heap.size ∧ p < W.heap.size := by
  obtain ⟨⟨f, g, hf, hb, hp, hg⟩, hl, hn⟩ := h
  exact ⟨hb.lt, hp.lt⟩
theorem RgAt.ne {W : World} {b p n : Nat} {l : List Int} {s : Int} (h : RgAt W b p n l s) : b ≠ p := by
  obtain ⟨⟨f, g, hf, ⟨c, hb, -⟩, ⟨d, hp, -⟩, hg⟩, hl, hn⟩ := h
  rintro rfl
  rw [hb] at hp
  simp only [Option.some.injEq, Obj.cells.injEq] at hp
  exact absurd hp.2.1 (by decide)
theorem RgAt.below {W W' : World} {b p n : Nat} {l : List Int} {s : Int} (h : RgAt W b p n l s) (hb : Below W.heap.size W W') : RgAt W' b p n l s := h.carry (hb.block _ h.lt.1) (hb.block _ h.lt.2)
theorem RgAt.new {W : World} {b p n : Nat} (hn : 0 < n) (h16 : n ≤ 16) (h1 : W.rowIs b 102 4 (rg4 (.slice (some ⟨p, 0, none⟩) n n) 0 0 0)) (h2 : W.rowIs p 3 n (fun _ => .int .i64 0)) : RgAt W b p n [] 0 :=
  ⟨⟨0, fun _ => 0, hn, h1, h2, fun i hi => (by cases hi)⟩, Nat.zero_le _, h16⟩
theorem RgAt.other {W : World} {b p n C o : Nat} {l : List Int} {s : Int} (h : RgAt W b p n l s) (h1 : b ≠ C) (h2 : p ≠ C) (u : Value) : RgAt (W.setCell ⟨C, o, none⟩ u) b p n l s :=
  h.carry (Below.heap_setCell _ _ _ _ h1) (Below.heap_setCell _ _ _ _ h2)
/-- Where the parts of a crew lie. -/
structure CrB where
  (H Q Qp R Rp O Op M T G cg : Nat) (aT : Option Addr) (cT : Nat)
def CrB.blocks (C : Nat) (B : CrB) : List Nat := [C, B.H, B.Q, B.Qp, B.R, B.Rp, B.O, B.Op, B.M, B.T, B.G] ++ (Value.slice B.aT 0 0).ownBlock.toList
def crRow (c : Cw) (B : CrB) : List Value := [.int .i64 c.jobs, .int .i64 c.next, .int .i64 c.reader, .pointer (some ⟨B.Q, 0, none⟩), .slice (some ⟨B.H, 0, none⟩) c.hands.length c.hands.length, .int .i64 c.closer, .pointer (some ⟨B.R, 0, none⟩), .int .i64 c.keeper, .slice (some ⟨B.G, 0, none⟩) c.ring.length B.cg, .int .i64 c.due, .pointer (some ⟨B.O, 0, none⟩), .int .i64 c.user, .slice B.aT c.got.length B.cT, .pointer (some ⟨B.M, 0, none⟩), .pointer (some ⟨B.T, 0, none⟩), .int .i64 c.ops]
/-- A crew that is as a world says. -/
structure CrAt (W : World) (C : Nat) (c : Cw) (B : CrB) : Prop where
  row : W.rowIs C 70 16 (r18 (crRow c B))
  hands : W.rowIs B.H 60 (c.hands.length * 2) (r18 (c.hands.map Hd.cs).flatten)
  ring : W.ownsRow 0 3 1 (.slice (some ⟨B.G, 0, none⟩) c.ring.length B.cg) c.ring.length (c.ring.map zcs).flatten
  got : W.ownsRow 0 3 1 (.slice B.aT c.got.length B.cT) c.got.length (c.got.map zcs).flatten
  q : RgAt W B.Q B.Qp c.hands.length c.queue (c.shut.getD 0 0)
  r : RgAt W B.R B.Rp c.hands.length c.results (c.shut.getD 1 0)
  o : RgAt W B.O B.Op 1 c.out (c.shut.getD 2 0)
  m : ∃ p f : Nat, f < c.ring.length ∧ W.rowIs B.M 100 4 (rg4 (.slice (some ⟨p, 0, none⟩) c.ring.length c.ring.length) f c.room 0)
  t : ∃ v, W.rowIs B.T 100 4 (rg4 v 0 0 (c.shut.getD 3 0))
  wk : c.workers = c.hands.length
  wn : c.window = c.ring.length
  sh : c.shut.length = 4
  szH : 0 < c.hands.length ∧ c.hands.length ≤ 8
  szG : 0 < c.ring.length ∧ c.ring.length ≤ 16
  szT : c.got.length ≤ 1000
  dj : (CrB.blocks C B).Nodup
theorem CrAt.carry {W W' : World} {C : Nat} {c : Cw} {B : CrB} (h : CrAt W C c B) (hW : ∀ b, b ∈ CrB.blocks C B → W'.heap[b]? = W.heap[b]?) : CrAt W' C c B := by
  obtain ⟨h1, h2, h3, h4, h5, h6, h7, ⟨p, f, hf, h8⟩, ⟨v, h9⟩, a1, a2, a3, a4, a5, a6, a7⟩ := h
  have hm : ∀ b, b ∈ [C, B.H, B.Q, B.Qp, B.R, B.Rp, B.O, B.Op, B.M, B.T, B.G] → W'.heap[b]? = W.heap[b]? := fun b hb => hW b (List.mem_append_left _ hb)
  exact ⟨h1.of_block (hm _ (by simp)), h2.of_block (hm _ (by simp)), ownsRow_keepT h3 (fun g e => by simp only [Value.ownBlock, Option.some.injEq] at e; subst e; exact hm _ (by simp)), ownsRow_keepT h4 (fun g e => hW g (List.mem_append_right _ (by
    cases ha : B.aT with
    | none => rw [ha] at e; cases e
    | some ad => rw [ha] at e; simp only [Value.ownBlock, Option.some.injEq] at e ⊢; simp [e]))), h5.carry (hm _ (by simp)) (hm _ (by simp)), h6.carry (hm _ (by simp)) (hm _ (by simp)), h7.carry (hm _ (by simp)) (hm _ (by simp)), ⟨p, f, hf, h8.of_block (hm _ (by simp))⟩, ⟨v, h9.of_block (hm _ (by simp))⟩, a1, a2, a3, a4, a5, a6, a7⟩
theorem CrAt.lt {W : World} {C : Nat} {c : Cw} {B : CrB} (h : CrAt W C c B) : ∀ b, b ∈ CrB.blocks C B → b < W.heap.size := by
  obtain ⟨h1, h2, h3, h4, h5, h6, h7, ⟨p, f, hf, h8⟩, ⟨v, h9⟩, a1, a2, a3, a4, a5, a6, a7⟩ := h
  intro b hb
  simp only [CrB.blocks, List.mem_append, List.mem_cons, List.not_mem_nil, or_false] at hb
  rcases hb with (rfl | rfl | rfl | rfl | rfl | rfl | rfl | rfl | rfl | rfl | rfl) | hb
  · exact h1.lt
  · exact h2.lt
  · exact h5.lt.1
  · exact h5.lt.2
  · exact h6.lt.1
  · exact h6.lt.2
  · exact h7.lt.1
  · exact h7.lt.2
  · exact h8.lt
  · exact h9.lt
  · exact (h3.lt _ rfl).2
  · cases ha : B.aT with
    | none => rw [ha] at hb; simp [Value.ownBlock] at hb
    | some ad =>
      rw [ha] at hb h4
      simp only [Value.ownBlock, Option.toList_some, List.mem_singleton] at hb
      subst hb
      exact (h4.lt _ rfl).2
theorem CrAt.below {W W' : World} {C : Nat} {c : Cw} {B : CrB} (h : CrAt W C c B) (hb : Below W.heap.size W W') : CrAt W' C c B := h.carry fun b hm => hb.block b (h.lt b hm)
end Go.Proofs.Ytchbialjgcejgaa

/- The walks of the program's all, put, fill at numbers. No conditions. -/

namespace Go.Proofs.Ytchbialjgcejgaa
open Go Go.RowKit

theorem ring_mod {f i n : Nat} (h : f + i ≤ 1000) : IntKind.i64.wrap ((f : Int) + (i : Int)) = ((f + i : Nat) : Int) ∧ ((f + i : Nat) : Int).tmod (n : Int) = (((f + i) % n : Nat) : Int) := by
  constructor
  · rw [IntKind.wrap_i64]; omega
  · rw [Int.tmod_eq_emod_of_nonneg (by omega)]; omega
set_option maxRecDepth 100000 in
set_option maxHeartbeats 1600000 in
theorem all_any (b p n : Nat) (l : List Int) (s : Int) (w : World) (h : RgAt w b p n l s) : Calls Try.prog 71 #[.pointer (some ⟨b, 0, none⟩)] w fun e w' => ∃ a c, e = .returned (.slice a l.length c) ∧ w'.ownsRow w.heap.size 3 1 (.slice a l.length c) l.length (l.map zcs).flatten ∧ Below w.heap.size w w' := by
  obtain ⟨⟨f, g, hf, hb, hp, hg⟩, hle, hsm⟩ := h
  obtain ⟨j1, hI, hI0, hI1, hI2⟩ := info_parts infoIntM
  have HI := hide hI; have HI0 := hide hI0; have HI1 := hide hI1; have HI2 := hide hI2
  clear hI hI0 hI1 hI2
  have c2 := hb.cell (i := 2) (by omega)
  simp only [rg4, List.getD_cons_zero, List.getD_cons_succ] at c2
  have HBX := hide hb; have HPL := hide hp; have HG := hide hg
  have HOWN0 := hide (show w.ownsRow w.heap.size 3 1 (.slice none 0 0) 0 ((l.take 0).map zcs).flatten from ⟨rfl, Or.inl ⟨rfl, rfl⟩⟩)
  clear hb hp hg
  go_enter Try.func71, Try.ntmps71
  go_wp2_with fail
  clear c2
  go_loopw [3, 9] (fun v i wr => ∃ (d : Nat) (a : Option Addr) (c : Nat), d ≤ l.length ∧ i = .int .i64 d ∧ v = .slice a d c ∧ Hid (wr.ownsRow w.heap.size 3 1 (.slice a d c) d ((l.take d).map zcs).flatten) ∧ Hid (Below w.heap.size w wr)) (fun _ i _ => l.length - (intOf i).toNat)
  case atStart => exact ⟨0, none, 0, Nat.zero_le _, rfl, rfl, HOWN0, hide (Below.refl _ _)⟩
  case round =>
    obtain ⟨d, a, c, hd, rfl, rfl, HO, HB⟩ := hrel
    by_cases hlt : d < l.length
    · have hbx := (unhide HBX).of_block ((unhide HB).block b (unhide HBX).lt)
      have hpl := (unhide HPL).of_block ((unhide HB).block p (unhide HPL).lt)
      have c0 := hbx.cell (i := 0) (by omega); have c1 := hbx.cell (i := 1) (by omega)
      simp only [rg4, List.getD_cons_zero, List.getD_cons_succ] at c0 c1
      obtain ⟨hw0, hrem⟩ := ring_mod (f := f) (i := d) (n := n) (by omega)
      have hmn : (f + d) % n < n := Nat.mod_lt _ (by omega)
      have cp := hpl.cell (i := (f + d) % n) hmn
      simp only [unhide HG d hlt] at cp
      have hn0 : ¬ (n = 0) := by omega
      have htk : ((l.take (d + 1)).map zcs).flatten = ((l.take d).map zcs).flatten ++ [.int .i64 l[d]] := by
        rw [List.take_succ_eq_append_getElem hlt, List.map_append, List.flatten_append]; rfl
      have HTK := hide htk
      generalize (f + d) % n = q at hrem hmn cp
      generalize f + d = fd at hw0 hrem
      generalize l[d] = z at cp HTK
      have hsw := (unhide HB).size
      clear hbx hpl htk
      go_wp2_with fail
      go_region_law ((refine step_append_lies _ (by rfl) _ _ _ (by rfl) w.heap.size 3 j1 (.int .i64 0) 1 8 Try.underlying25 (unhide HI) (unhide HI0) (unhide HI1) (unhide HI2) rfl (by decide) (.slice a d c) d ((l.take d).map zcs).flatten (by rfl) (World.ownsRow.alloc HO.out _) ⟨wr.heap.size, 0, none⟩ 1 1 [.int .i64 z] (by first | rfl | simp) (by rfl) (cell_one _ _ _) (fun u hu => by simp at hu; subst hu; rfl) (by decide) (by unfold maxLen; omega) (by omega) (by simp; omega) (wr.heap.size + 1) (by simp) ?_; intro g2 cap2 w8 hown8 hgrow8 hat8 hlt8))
      all_goals
        have hgrow8 := grown_drew hgrow8
        have hbx : Below w.heap.size w w8 := ((unhide HB).trans ((Below.refl w.heap.size wr).alloc (by omega) (.cells #[.int .i64 z] 3))).trans ((Below.refl w.heap.size _).grown hgrow8 (by simp; omega) (fun k e => (HO.out.lt k e).1))
        rw [← unhide HTK] at hown8
        have HO8 := hide hown8; have HB8 := hide hbx
        clear hbx hown8 hgrow8 hat8 hlt8
        go_wp2_with fail
        go_roundw
        case rel => exact ⟨d + 1, some ⟨g2, 0, none⟩, cap2, by omega, by go_num, rfl, HO8, HB8⟩
        case measure => simp [intOf]; omega
    · obtain rfl : d = l.length := by omega
      have ho := HO.out
      rw [List.take_length] at ho
      have HO2 := hide ho
      clear ho
      go_wp2_with fail
      go_ret
      exact ⟨_, _, rfl, unhide HO2, HB.out⟩
set_option maxRecDepth 100000 in
set_option maxHeartbeats 1600000 in
theorem putI_any (b p n : Nat) (l : List Int) (s z : Int) (w : World) (h : RgAt w b p n l s) (hroom : l.length < n) : Calls Try.prog 95 #[.pointer (some ⟨b, 0, none⟩), .int .i64 z] w fun e w' => e = .returned (.tuple #[]) ∧ RgAt w' b p n (l ++ [z]) s ∧ Exc [b, p] w w' := by
  have hne := h.ne
  obtain ⟨⟨f, g, hf, hb, hp, hg⟩, hle, hsm⟩ := h
  have c0 := hb.cell (i := 0) (by omega); have c1 := hb.cell (i := 1) (by omega); have c2 := hb.cell (i := 2) (by omega); have f2 := hb.frozen 2
  simp only [rg4, List.getD_cons_zero, List.getD_cons_succ] at c0 c1 c2
  obtain ⟨hw0, hrem⟩ := ring_mod (f := f) (i := l.length) (n := n) (by omega)
  have hmn : (f + l.length) % n < n := Nat.mod_lt _ (by omega)
  have cp := hp.cell (i := (f + l.length) % n) hmn; have fp := hp.frozen ((f + l.length) % n)
  have hn0 : ¬ (n = 0) := by omega
  have hend : ∀ W, W = (w.setCell ⟨p, (f + l.length) % n, none⟩ (.int .i64 z)).setCell ⟨b, 2, none⟩ (.int .i64 ((l.length : Int) + 1)) → RgAt W b p n (l ++ [z]) s := fun W hW => by
    subst hW
    refine ⟨⟨f, fun i => if i = (f + l.length) % n then z else g i, hf, ?_, ?_, ?_⟩, by simp; omega, hsm⟩
    · refine ((hb.setOther (a := ⟨p, (f + l.length) % n, none⟩) hne _).set 2 (.int .i64 ((l.length : Int) + 1))).congr fun i hi => ?_
      rcases (show i = 0 ∨ i = 1 ∨ i = 2 ∨ i = 3 by omega) with rfl | rfl | rfl | rfl <;> simp [rg4]
    · refine ((hp.set ((f + l.length) % n) (.int .i64 z)).setOther (a := ⟨b, 2, none⟩) (Ne.symm hne) _).congr fun i hi => ?_
      by_cases e : i = (f + l.length) % n <;> simp [e]
    · intro i hi
      rw [List.length_append] at hi
      have hi' : i < l.length + 1 := hi
      by_cases e : i = l.length
      · subst e; simp
      · have h1 : (f + i) % n ≠ (f + l.length) % n := fun e2 => by
          have a1 := Nat.div_add_mod (f + i) n; have a2 := Nat.div_add_mod (f + l.length) n
          rw [e2] at a1
          have h3 : n * ((f + l.length) / n) - n * ((f + i) / n) = l.length - i := by omega
          rw [← Nat.mul_sub] at h3
          rcases Nat.eq_zero_or_pos ((f + l.length) / n - (f + i) / n) with h4 | h4
          · rw [h4] at h3; omega
          · have := Nat.le_mul_of_pos_right n h4; omega
        simp only [if_neg h1]
        rw [List.getElem_append_left (by omega)]
        exact hg i (by omega)
  have hw1 : IntKind.i64.wrap ((l.length : Int) + 1) = (l.length : Int) + 1 := by rw [IntKind.wrap_i64]; omega
  have g2 : (w.setCell ⟨p, (f + l.length) % n, none⟩ (.int .i64 z)).cell? ⟨b, 2, none⟩ = some (.int .i64 l.length) := (hb.setOther (a := ⟨p, (f + l.length) % n, none⟩) hne _).cell (i := 2) (by omega)
  have gf : (w.setCell ⟨p, (f + l.length) % n, none⟩ (.int .i64 z)).frozen? ⟨b, 2, none⟩ = false := (hb.setOther (a := ⟨p, (f + l.length) % n, none⟩) hne _).frozen 2
  have HX := hide (show Exc [b, p] w ((w.setCell ⟨p, (f + l.length) % n, none⟩ (.int .i64 z)).setCell ⟨b, 2, none⟩ (.int .i64 ((l.length : Int) + 1))) from (Exc.set _ p _ _ (by simp)).trans (Exc.set _ b 2 _ (by simp)))
  have HEND := hide (hend _ rfl)
  clear hb hp hg hend
  generalize (f + l.length) % n = q at hrem hmn cp fp g2 gf HX HEND
  generalize f + l.length = fd at hw0 hrem
  generalize l.length = k at *
  go_enter Try.func95, Try.ntmps95
  go_wp2_with fail
  go_region
  have g2 : (w.setCell ⟨p, q, none⟩ (.int .i64 z)).drew.cell? ⟨b, 2, none⟩ = some (.int .i64 k) := g2
  have gf : (w.setCell ⟨p, q, none⟩ (.int .i64 z)).drew.frozen? ⟨b, 2, none⟩ = false := gf
  go_wp2_with fail
  go_end0
  exact ⟨rfl, (unhide HEND).carry rfl rfl, (unhide HX).trans (Exc.of_below (Below.refl _ _).drew)⟩
set_option maxRecDepth 100000 in
set_option maxHeartbeats 1600000 in
theorem fillI_any (b p n : Nat) (l : List Int) (s : Int) (v : Value) (zs : List Int) (P : Nat → Prop) (w : World) (h : RgAt w b p n l s) (hz : ZAt P w v zs) (hP : ∀ x, P x → x < w.heap.size ∧ x ≠ b ∧ x ≠ p) (hroom : l.length + zs.length ≤ n) : Calls Try.prog 75 #[.pointer (some ⟨b, 0, none⟩), v] w fun e w' => e = .returned (.tuple #[]) ∧ RgAt w' b p n (l ++ zs) s ∧ Exc [b, p] w w' := by
  have hsm := h.small
  obtain ⟨a, cap, rfl, hzl, hzc⟩ := hz.open
  have HP := hide (fun (k : List Int) (z : Int) (W : World) hW hc => putI_any b p n k s z W hW hc)
  have H0 := hide (show RgAt w b p n (l ++ zs.take 0) s by rw [List.take_zero, List.append_nil]; exact h)
  have HZ := hide hzc; have HPP := hide hP
  clear h hz hzc hP
  go_enter Try.func75, Try.ntmps75
  go_wp2_with fail
  go_loopw [8] (fun i wr => ∃ (c : Nat), c ≤ zs.length ∧ i = .int .i64 c ∧ Hid (RgAt wr b p n (l ++ zs.take c) s) ∧ Hid (Exc [b, p] w wr)) (fun i _ => zs.length - (intOf i).toNat)
  case atStart => exact ⟨0, Nat.zero_le _, rfl, H0, hide (Exc.refl _ _)⟩
  case round =>
    obtain ⟨c, hc, rfl, HR, HX⟩ := hrel
    by_cases hlt : c < zs.length
    · obtain ⟨bz, oz, rfl, hpb, hcell⟩ := unhide HZ c hlt
      obtain ⟨hp1, hp2, hp3⟩ := unhide HPP bz hpb
      have e1 : wr.cell? ⟨bz, oz + c, none⟩ = some (.int .i64 zs[c]) := by rw [World.cell?_of_block (a := ⟨bz, oz + c, none⟩) (HX.out.block bz hp1 (by simp [hp2, hp3]))]; exact hcell
      have htk : zs.take (c + 1) = zs.take c ++ [zs[c]] := List.take_succ_eq_append_getElem hlt
      have hlt2 : (l ++ zs.take c).length < n := by rw [List.length_append, List.length_take]; omega
      have HTK := hide htk; have HLT := hide hlt2
      generalize zs[c] = z at e1 HTK
      clear hcell htk hlt2
      go_wp2_with (go_at_call 95; refine (unhide HP (l ++ zs.take c) z _ HR.out (unhide HLT)).mono ?_; rintro e w2 ⟨rfl, hr2, hx2⟩; rw [List.append_assoc, ← unhide HTK] at hr2; have HR2 := hide hr2; have HX2 := hide (HX.out.trans hx2); clear hr2 hx2)
      go_roundw
      case rel => exact ⟨c + 1, by omega, by go_num, HR2, HX2⟩
      case measure => simp [intOf]; omega
    · obtain rfl : c = zs.length := by omega
      have hr := HR.out
      rw [List.take_length] at hr
      have HR2 := hide hr
      clear hr
      go_wp2_with fail
      go_end0
      exact ⟨rfl, unhide HR2, HX.out⟩
end Go.Proofs.Ytchbialjgcejgaa

/- Schemas that own their memory: what blocks they lie in, each named once; schemas gathered in a row of the call's own. Definitions and small laws; no program walked, no conditions. -/

namespace Go.Proofs.Ytchbialjgcejgaa
open Go Go.RowKit

mutual
/-- Three cells are a schema, and all that they lead to lies in the blocks F, in this order. -/
def OwnD (w : World) : Kd → C3 → List Nat → Prop
  | .mk s ns ks, c, F => c.c0 = .int .i64 s ∧ I64 s ∧
    ∃ F1 F2, F = F1 ++ F2 ∧ StrsOwn w c.c1 ns F1 ∧ ∃ a cap, c.c2 = .slice a ks.length cap ∧ ks.length ≤ 9223372036854775807 ∧
      ((ks = [] ∧ F2 = []) ∨ ∃ b G, a = some ⟨b, 0, none⟩ ∧ F2 = b :: G ∧ FreeB w b ∧ OwnDK w b 0 ks G)
def OwnDK (w : World) (b : Nat) (o : Nat) : List Kd → List Nat → Prop
  | [], F => F = []
  | t :: r, F => ∃ F1 F2 c, F = F1 ++ F2 ∧ C3.at w b o c ∧ OwnD w t c F1 ∧ OwnDK w b (o + 3) r F2
end

/-- A slice of schemas in a block of its own. -/
def KidsD (w : World) (v : Value) (ks : List Kd) (F : List Nat) : Prop :=
  ∃ a cap, v = .slice a ks.length cap ∧ ks.length ≤ 9223372036854775807 ∧
      ((ks = [] ∧ F = []) ∨ ∃ b G, a = some ⟨b, 0, none⟩ ∧ F = b :: G ∧ FreeB w b ∧ OwnDK w b 0 ks G)

theorem OwnD.open {w : World} {t : Kd} {c : C3} {F : List Nat} (h : OwnD w t c F) :
    c.c0 = .int .i64 t.sort ∧ I64 t.sort ∧ ∃ F1 F2, F = F1 ++ F2 ∧ StrsOwn w c.c1 t.names F1 ∧ KidsD w c.c2 t.kids F2 := by
  obtain ⟨s, ns, ks⟩ := t
  rw [OwnD] at h
  exact h

theorem OwnD.make {w : World} {t : Kd} {c : C3} {F1 F2 : List Nat} (h0 : c.c0 = .int .i64 t.sort) (h3 : I64 t.sort) (h6 : StrsOwn w c.c1 t.names F1) (h7 : KidsD w c.c2 t.kids F2) : OwnD w t c (F1 ++ F2) := by
  obtain ⟨s, ns, ks⟩ := t
  rw [OwnD]
  exact ⟨h0, h3, F1, F2, rfl, h6, h7⟩

mutual
theorem OwnD.carry {w w' : World} : ∀ (t : Kd) (c : C3) (F : List Nat), (∀ b, b ∈ F → w'.heap[b]? = w.heap[b]?) → OwnD w t c F → OwnD w' t c F
  | .mk s ns ks, c, F => by
    intro hF h
    rw [OwnD] at h ⊢
    obtain ⟨h0, h3, F1, F2, rfl, h6, a, cap, h7, h8, h9⟩ := h
    refine ⟨h0, h3, F1, F2, rfl, h6.carry (fun b hb => hF b (by simp [hb])), a, cap, h7, h8, ?_⟩
    rcases h9 with h | ⟨b, G, e, rfl, hfr, hk⟩
    · exact Or.inl h
    · have hb := hF b (by simp)
      exact Or.inr ⟨b, G, e, rfl, hfr.of_block hb, OwnDK.carry b 0 ks G (fun b' hb' => hF b' (by simp [hb'])) (fun j _ _ => World.cell?_of_block (w := w) hb) hk⟩
theorem OwnDK.carry {w w' : World} (b : Nat) (o : Nat) : ∀ (ks : List Kd) (F : List Nat), (∀ b, b ∈ F → w'.heap[b]? = w.heap[b]?) → (∀ j, o ≤ j → j < o + 3 * ks.length → w'.cell? ⟨b, j, none⟩ = w.cell? ⟨b, j, none⟩) → OwnDK w b o ks F → OwnDK w' b o ks F
  | [], F => by intro _ _ h; rw [OwnDK] at h ⊢; exact h
  | t :: r, F => by
    intro hF hc h
    rw [OwnDK] at h ⊢
    obtain ⟨F1, F2, c, rfl, h1, h2, h3⟩ := h
    have hl : o + 3 ≤ o + 3 * (t :: r).length := by simp [List.length_cons]; omega
    refine ⟨F1, F2, c, rfl, ?_, OwnD.carry t c F1 (fun b hb => hF b (by simp [hb])) h2, OwnDK.carry b (o + 3) r F2 (fun b hb => hF b (by simp [hb])) (fun j h1 h2 => hc j (by omega) (by simp only [List.length_cons]; omega)) h3⟩
    obtain ⟨g0, g1, g2⟩ := h1
    exact ⟨by rw [hc _ (by omega) (by omega)]; exact g0, by rw [hc _ (by omega) (by omega)]; exact g1, by rw [hc _ (by omega) (by omega)]; exact g2⟩
end

theorem KidsD.carry {w w' : World} {v : Value} {ks : List Kd} {F : List Nat} (h : KidsD w v ks F) (hF : ∀ b, b ∈ F → w'.heap[b]? = w.heap[b]?) : KidsD w' v ks F := by
  obtain ⟨a, cap, h1, h2, h3⟩ := h
  refine ⟨a, cap, h1, h2, ?_⟩
  rcases h3 with h | ⟨b, G, e, rfl, hfr, hk⟩
  · exact Or.inl h
  · have hb := hF b (by simp)
    exact Or.inr ⟨b, G, e, rfl, hfr.of_block hb, OwnDK.carry b 0 ks G (fun b' hb' => hF b' (by simp [hb'])) (fun j _ _ => World.cell?_of_block (w := w) hb) hk⟩

mutual
theorem OwnD.rep {w : World} {P : Nat → Prop} : ∀ (t : Kd) (c : C3) (F : List Nat), (∀ b, b ∈ F → P b) → OwnD w t c F → KRep P w t c
  | .mk s ns ks, c, F => by
    intro hF h
    rw [OwnD] at h
    obtain ⟨h0, h3, F1, F2, rfl, h6, a, cap, h7, h8, h9⟩ := h
    rw [KRep]
    refine ⟨h0, h3, h6.at.carry (fun _ _ => rfl) (fun b hb => hF b (by simp [hb])), a, cap, h7, h8, fun hk => ?_⟩
    rcases h9 with h | ⟨b, G, e, rfl, hfr, hk2⟩
    · exact absurd h.1 hk
    · exact ⟨b, 0, e, hF b (by simp), OwnDK.rep b 0 ks G (fun b' hb' => hF b' (by simp [hb'])) hk2⟩
theorem OwnDK.rep {w : World} {P : Nat → Prop} (b : Nat) (o : Nat) : ∀ (ks : List Kd) (F : List Nat), (∀ b, b ∈ F → P b) → OwnDK w b o ks F → KRepK P w b o ks
  | [], F => by intro _ _; rw [KRepK]; trivial
  | t :: r, F => by
    intro hF h
    rw [OwnDK] at h
    obtain ⟨F1, F2, c, rfl, h1, h2, h3⟩ := h
    rw [KRepK]
    exact ⟨⟨c, h1, OwnD.rep t c F1 (fun b hb => hF b (by simp [hb])) h2⟩, OwnDK.rep b (o + 3) r F2 (fun b hb => hF b (by simp [hb])) h3⟩
end

def c3l (c : C3) : List Value := [c.c0, c.c1, c.c2]

/-- Schemas whose cells stand in a row, each in blocks of its own. -/
def OwnLD (w : World) : List Kd → List Value → List Nat → Prop
  | [], xs, G => xs = [] ∧ G = []
  | t :: r, xs, G => ∃ c F G' xs', xs = c3l c ++ xs' ∧ G = F ++ G' ∧ OwnD w t c F ∧ OwnLD w r xs' G'

theorem OwnLD.snoc {w : World} {ks : List Kd} {xs : List Value} {G F : List Nat} {t : Kd} {c : C3} (h : OwnLD w ks xs G) (ht : OwnD w t c F) : OwnLD w (ks ++ [t]) (xs ++ c3l c) (G ++ F) := by
  induction ks generalizing xs G with
  | nil =>
    obtain ⟨rfl, rfl⟩ := h
    exact ⟨c, F, [], [], by simp, by simp, ht, rfl, rfl⟩
  | cons a r ih =>
    obtain ⟨d, F1, G', xs', rfl, rfl, h1, h2⟩ := h
    exact ⟨d, F1, G' ++ F, xs' ++ c3l c, by simp, by simp, h1, ih h2⟩

theorem OwnLD.carry {w w' : World} {ks : List Kd} {xs : List Value} {G : List Nat} (h : OwnLD w ks xs G) (hb : ∀ b, b ∈ G → w'.heap[b]? = w.heap[b]?) : OwnLD w' ks xs G := by
  induction ks generalizing xs G with
  | nil => exact h
  | cons a r ih =>
    obtain ⟨d, F1, G', xs', rfl, rfl, h1, h2⟩ := h
    exact ⟨d, F1, G', xs', rfl, rfl, OwnD.carry a d F1 (fun b hb' => hb b (by simp [hb'])) h1, ih h2 (fun b hb' => hb b (by simp [hb']))⟩

theorem OwnLD.ownK {w : World} {g : Nat} {ks : List Kd} {xs : List Value} {G : List Nat} {o : Nat} (h : OwnLD w ks xs G) (hc : ∀ j u, xs[j]? = some u → w.cell? ⟨g, o + j, none⟩ = some u) : OwnDK w g o ks G := by
  induction ks generalizing xs G o with
  | nil => rw [OwnDK]; exact h.2
  | cons a r ih =>
    obtain ⟨d, F1, G', xs', rfl, rfl, h1, h2⟩ := h
    rw [OwnDK]
    refine ⟨F1, G', d, rfl, ⟨hc 0 _ rfl, hc 1 _ rfl, hc 2 _ rfl⟩, h1, ih h2 (fun j u hj => ?_)⟩
    have := hc (3 + j) u (by
      rw [List.getElem?_append_right (by simp [c3l]), show 3 + j - (c3l d).length = j from by simp [c3l]]; exact hj)
    rw [show o + 3 + j = o + (3 + j) from by omega]; exact this

theorem cell_three (w : World) (c : C3) (t : TypeId) : ∀ j u, (c3l c)[j]? = some u → (w.alloc (.cells #[c.c0, c.c1, c.c2] t)).cell? ((⟨w.heap.size, 0, none⟩ : Addr).add j) = some u := by
  intro j u hj
  have hrow := row3_alloc w c.c0 c.c1 c.c2 t
  rw [Addr.add_lit, Nat.zero_add]
  match j with
  | 0 => rw [hrow.cell (by omega)]; exact hj
  | 1 => rw [hrow.cell (by omega)]; exact hj
  | 2 => rw [hrow.cell (by omega)]; exact hj
  | j + 3 => simp [c3l] at hj

theorem OwnD.one {w : World} {t : Kd} {c : C3} {F : List Nat} (h : OwnD w t c F) : ∀ u ∈ c3l c, u.oneCell' = true := by
  obtain ⟨h0, -, F1, F2, -, ⟨a, cap, h3, -⟩, a2, cap2, h4, -⟩ := h.open
  intro u hu
  simp only [c3l, h0, h3, h4, List.mem_cons, List.not_mem_nil, or_false] at hu
  rcases hu with rfl | rfl | rfl <;> rfl

/-- Schemas without names and kids. -/
theorem OwnD.leaf (w : World) (s : Int) (hs : I64 s) : OwnD w (.mk s [] []) ⟨.int .i64 s, .slice none 0 0, .slice none 0 0⟩ [] := by
  rw [OwnD]
  exact ⟨rfl, hs, [], [], rfl, ⟨none, 0, rfl, by simp, Or.inl ⟨rfl, rfl⟩⟩, none, 0, rfl, by simp, Or.inl ⟨rfl, rfl⟩⟩
/-- A schema with one kid, laid as a new row. -/
theorem OwnD.single {w : World} {s : Int} {k : Kd} {c : C3} {F : List Nat} {t : TypeId} (hs : I64 s) (h : OwnD w k c F) (hF : ∀ b, b ∈ F → b < w.heap.size) : OwnD (w.alloc (.cells #[c.c0, c.c1, c.c2] t)) (.mk s [] [k]) ⟨.int .i64 s, .slice none 0 0, .slice (some ⟨w.heap.size, 0, none⟩) 1 1⟩ (w.heap.size :: F) := by
  rw [OwnD]
  have q := row3_alloc w c.c0 c.c1 c.c2 t
  refine ⟨rfl, hs, [], w.heap.size :: F, rfl, ⟨none, 0, rfl, by simp, Or.inl ⟨rfl, rfl⟩⟩, some ⟨w.heap.size, 0, none⟩, 1, rfl, by simp, Or.inr ⟨w.heap.size, F, rfl, rfl, fun o => q.frozen o, ?_⟩⟩
  rw [OwnDK]
  exact ⟨F, [], c, by simp, ⟨q.cell (i := 0) (by omega), q.cell (i := 1) (by omega), q.cell (i := 2) (by omega)⟩, OwnD.carry k c F (fun b hb => Below.heap_alloc _ _ _ (hF b hb)) h, by rw [OwnDK]⟩

theorem row3_set1 {w : World} {B : Nat} {t : TypeId} {c0 c1 c2 : Value} (h : w.rowIs B t 3 (row3 c0 c1 c2)) (v : Value) : (w.setCell ⟨B, 1, none⟩ v).rowIs B t 3 (row3 c0 v c2) :=
  (h.set 1 v).congr (fun i hi => by
    match i, hi with
    | 0, _ => rfl
    | 1, _ => rfl
    | 2, _ => rfl)
theorem row3_set2 {w : World} {B : Nat} {t : TypeId} {c0 c1 c2 : Value} (h : w.rowIs B t 3 (row3 c0 c1 c2)) (v : Value) : (w.setCell ⟨B, 2, none⟩ v).rowIs B t 3 (row3 c0 c1 v) :=
  (h.set 2 v).congr (fun i hi => by
    match i, hi with
    | 0, _ => rfl
    | 1, _ => rfl
    | 2, _ => rfl)

end Go.Proofs.Ytchbialjgcejgaa

/- Rows of schemas that share their memory: what is read of kids, laid in a new row, one kid put in another's place. No program walked; no conditions. -/

namespace Go.Proofs.Ytchbialjgcejgaa
open Go Go.RowKit

/-- The cells of a row are those of schemas. -/
def KL3 (P : Nat → Prop) (w : World) (ks : List Kd) (xs : List Value) : Prop :=
  xs.length = ks.length * 3 ∧ ∀ i, (hi : i < ks.length) → ∃ c : C3, xs[i * 3]? = some c.c0 ∧ xs[i * 3 + 1]? = some c.c1 ∧ xs[i * 3 + 2]? = some c.c2 ∧ KRep P w ks[i] c

theorem KL3.carry {P Q : Nat → Prop} {w w' : World} {ks : List Kd} {xs : List Value} (h : KL3 P w ks xs) (hP : ∀ b, P b → w'.heap[b]? = w.heap[b]?) (hQ : ∀ b, P b → Q b) : KL3 Q w' ks xs :=
  ⟨h.1, fun i hi => by obtain ⟨c, h1, h2, h3, h4⟩ := h.2 i hi; exact ⟨c, h1, h2, h3, KRep.carry hP hQ _ _ h4⟩⟩

theorem KL3.of {P : Nat → Prop} {w : World} {b : Nat} : ∀ (ks : List Kd) (o : Nat), KRepK P w b o ks → ∃ xs, KL3 P w ks xs ∧ (∀ j u, xs[j]? = some u → w.cell? ⟨b, o + j, none⟩ = some u) ∧ ∀ u ∈ xs, u.oneCell' = true
  | [], o, _ => ⟨[], ⟨rfl, fun i hi => by simp at hi⟩, fun j u h => by simp at h, fun u h => by cases h⟩
  | t :: r, o, h => by
    rw [KRepK] at h
    obtain ⟨⟨c, ⟨a0, a1, a2⟩, hr⟩, h2⟩ := h
    obtain ⟨ys, ⟨hl, hy⟩, hc, h1c⟩ := KL3.of r (o + 3) h2
    obtain ⟨e0, -, ⟨a3, cap3, e1, -⟩, a4, cap4, e2, -⟩ := hr.open
    refine ⟨c.c0 :: c.c1 :: c.c2 :: ys, ⟨by simp [hl]; omega, fun i hi => ?_⟩, fun j u hj => ?_, fun u hu => ?_⟩
    · cases i with
      | zero => exact ⟨c, rfl, rfl, rfl, hr⟩
      | succ i =>
        obtain ⟨d, q0, q1, q2, q3⟩ := hy i (by simpa using hi)
        refine ⟨d, ?_, ?_, ?_, q3⟩
        · rw [show (i + 1) * 3 = i * 3 + 3 from by omega]; simpa using q0
        · rw [show (i + 1) * 3 + 1 = i * 3 + 1 + 3 from by omega]; simpa using q1
        · rw [show (i + 1) * 3 + 2 = i * 3 + 2 + 3 from by omega]; simpa using q2
    · match j with
      | 0 => simp at hj; subst hj; exact a0
      | 1 => simp at hj; subst hj; exact a1
      | 2 => simp at hj; subst hj; exact a2
      | j + 3 =>
        have := hc j u (by simpa using hj)
        rw [show o + (j + 3) = o + 3 + j from by omega]; exact this
    · rcases List.mem_cons.1 hu with rfl | hu
      · rw [e0]; rfl
      rcases List.mem_cons.1 hu with rfl | hu
      · rw [e1]; rfl
      rcases List.mem_cons.1 hu with rfl | hu
      · rw [e2]; rfl
      exact h1c u hu

theorem KL3.back {P : Nat → Prop} {w : World} {g : Nat} {ks : List Kd} {xs : List Value} (h : KL3 P w ks xs) (hc : ∀ j u, xs[j]? = some u → w.cell? ⟨g, j, none⟩ = some u) : KRepK P w g 0 ks :=
  KRepK.mk fun i hi => by
    obtain ⟨c, h1, h2, h3, h4⟩ := h.2 i hi
    exact ⟨c, ⟨by rw [Nat.zero_add]; exact hc _ _ h1, by rw [Nat.zero_add]; exact hc _ _ h2, by rw [Nat.zero_add]; exact hc _ _ h3⟩, h4⟩

/-- One more behind them. -/
theorem KL3.snoc {P : Nat → Prop} {w : World} {ks : List Kd} {xs : List Value} {k : Kd} {c : C3} (h : KL3 P w ks xs) (hk : KRep P w k c) : KL3 P w (ks ++ [k]) (xs ++ c3l c) := by
  obtain ⟨hl, h2⟩ := h
  refine ⟨by simp [hl, c3l]; omega, fun i hi => ?_⟩
  simp only [List.length_append, List.length_cons, List.length_nil] at hi
  by_cases e : i < ks.length
  · obtain ⟨d, q0, q1, q2, q3⟩ := h2 i e
    refine ⟨d, ?_, ?_, ?_, ?_⟩
    · rw [List.getElem?_append_left (by omega)]; exact q0
    · rw [List.getElem?_append_left (by omega)]; exact q1
    · rw [List.getElem?_append_left (by omega)]; exact q2
    · rw [List.getElem_append_left e]; exact q3
  · obtain rfl : i = ks.length := by omega
    refine ⟨c, ?_, ?_, ?_, ?_⟩
    · rw [List.getElem?_append_right (by omega), hl]; simp [c3l]
    · rw [List.getElem?_append_right (by omega), hl]; simp [c3l, show ks.length * 3 + 1 - ks.length * 3 = 1 from by omega]
    · rw [List.getElem?_append_right (by omega), hl]; simp [c3l, show ks.length * 3 + 2 - ks.length * 3 = 2 from by omega]
    · simpa using hk

/-- One in another's place. -/
theorem KL3.put {P : Nat → Prop} {w : World} {ks : List Kd} {xs : List Value} {k : Kd} {c : C3} {i : Nat} (h : KL3 P w ks xs) (hi : i < ks.length) (hk : KRep P w k c) : KL3 P w (ks.set i k) (((xs.set (i * 3) c.c0).set (i * 3 + 1) c.c1).set (i * 3 + 2) c.c2) := by
  obtain ⟨hl, h2⟩ := h
  refine ⟨by simp [hl], fun j hj => ?_⟩
  rw [List.length_set] at hj
  by_cases e : i = j
  · subst e
    refine ⟨c, ?_, ?_, ?_, by simpa using hk⟩
    · rw [List.getElem?_set_ne (by omega), List.getElem?_set_ne (by omega), List.getElem?_set_self (by omega)]
    · rw [List.getElem?_set_ne (by omega), List.getElem?_set_self (by simp; omega)]
    · rw [List.getElem?_set_self (by simp; omega)]
  · obtain ⟨d, q0, q1, q2, q3⟩ := h2 j hj
    refine ⟨d, ?_, ?_, ?_, by rw [List.getElem_set_ne e]; exact q3⟩
    · rw [List.getElem?_set_ne (by omega), List.getElem?_set_ne (by omega), List.getElem?_set_ne (by omega)]; exact q0
    · rw [List.getElem?_set_ne (by omega), List.getElem?_set_ne (by omega), List.getElem?_set_ne (by omega)]; exact q1
    · rw [List.getElem?_set_ne (by omega), List.getElem?_set_ne (by omega), List.getElem?_set_ne (by omega)]; exact q2

theorem wKs_set : ∀ (ks : List Kd) (i : Nat) (k : Kd) (hi : i < ks.length), wKs (ks.set i k) + wKd ks[i] = wKs ks + wKd k
  | a :: r, 0, k, _ => by simp [wKs]; omega
  | a :: r, i + 1, k, hi => by
    have := wKs_set r i k (by simpa using hi)
    simp only [List.set_cons_succ, wKs, List.getElem_cons_succ]; omega
theorem wKs_get : ∀ (ks : List Kd) (i : Nat) (hi : i < ks.length), wKd ks[i] + 1 ≤ wKs ks
  | a :: r, 0, _ => by simp [wKs]; omega
  | a :: r, i + 1, hi => by
    have := wKs_get r i (by simpa using hi)
    simp only [wKs, List.getElem_cons_succ]; omega
theorem ownsRow_put {w : World} {base : Nat} {e : TypeId} {size g n cap : Nat} {xs : List Value} (h : w.ownsRow base e size (.slice (some ⟨g, 0, none⟩) n cap) n xs) (j : Nat) (u : Value) : (w.setCell ⟨g, j, none⟩ u).ownsRow base e size (.slice (some ⟨g, 0, none⟩) n cap) n (xs.set j u) := by
  rcases h.2 with ⟨hv, _⟩ | ⟨g', cap', cur, hv, hb, hg, hnc, hcm, hcs, htk⟩
  · simp at hv
  · simp only [Value.slice.injEq, Option.some.injEq, Addr.mk.injEq, and_true, true_and] at hv
    obtain ⟨rfl, rfl⟩ := hv
    refine ⟨by rw [List.length_set]; exact h.1, Or.inr ⟨g, cap, cur.setIfInBounds j u, rfl, hb, ?_, hnc, hcm, by rw [Array.size_setIfInBounds]; exact hcs, ?_⟩⟩
    · simp [World.setCell, Array.getElem?_modify, hg]
    · rw [Array.toList_setIfInBounds, List.take_set, htk]

theorem ownsRow_free {w : World} {base : Nat} {e : TypeId} {size g n cap : Nat} {xs : List Value} (h : w.ownsRow base e size (.slice (some ⟨g, 0, none⟩) n cap) n xs) (j : Nat) : w.frozen? ⟨g, j, none⟩ = false := by
  rcases h.2 with ⟨hv, _⟩ | ⟨g', cap', cur, hv, hb, hg, _⟩
  · simp at hv
  · simp only [Value.slice.injEq, Option.some.injEq, Addr.mk.injEq, and_true, true_and] at hv
    obtain ⟨rfl, -⟩ := hv
    simp [World.frozen?, hg]

/-- An empty row of a call's own. -/
theorem empty_row {w : World} {g base : Nat} {e : TypeId} {size : Nat} {f : Nat → Value} (h : w.rowIs g e 0 f) (hb : base ≤ g) : w.ownsRow base e size (.slice (some ⟨g, 0, none⟩) 0 0) 0 [] := by
  obtain ⟨c, h1, h2, -⟩ := h
  exact ⟨by simp, Or.inr ⟨g, 0, c, rfl, hb, h1, Nat.le_refl _, by decide, by omega, by simp⟩⟩
end Go.Proofs.Ytchbialjgcejgaa

/- append of a whole list onto an empty one; the cells of a list of names, to be copied. No program, no conditions. -/

namespace Go.Proofs.Ytchbialjgcejgaa
open Go Go.RowKit

theorem append_copyD {P : Program} (w : World) {ops : Array Oper} {rest : List Oper} {o : Oper} {a : Act} {Q : Exit → Act → World → Prop}
    (hg : o.guard = none) (s x : Operand) (t : TypeId) (hop : o.op = Op.call { callee := Callee.builtin Builtin.append, args := #[s, x], argTypes := #[t, t] })
    (base : Nat) (e : TypeId) (i : TypeInfo) (z : Value) (size bytes : Nat) (h1 : P.underlying t = some (.slice e)) (h2 : P.info? e = some i) (h3 : i.zero = some z) (h4 : i.size = size) (h5 : i.bytes = bytes) (h6 : z.cells.size = size) (h7 : 0 < size)
    (g0 : Nat) (hs : a.eval s = .slice (some ⟨g0, 0, none⟩) 0 0) (hown : w.ownsRow base e size (.slice (some ⟨g0, 0, none⟩) 0 0) 0 [])
    (ax : Option Addr) (m c : Nat) (xs : List Value) (hx : a.eval x = .slice ax m c) (hn : xs.length = m * size) (hc : 0 < m → ∃ ad, ax = some ad ∧ ∀ j u, xs[j]? = some u → w.cell? (ad.add j) = some u) (h1c : ∀ u ∈ xs, u.oneCell' = true)
    (b1 : m ≤ maxLen) (b2 : m * bytes ≤ 140737488355328) (hbase : base ≤ w.heap.size)
    (hK : ∀ g cap w', Hid (w'.ownsRow base e size (.slice (some ⟨g, 0, none⟩) m cap) m xs) → Hid (w.grownBy w' (some g0)) → wpList P ops Q rest (a.put o.dst (.slice (some ⟨g, 0, none⟩) m cap)) w') :
    wpList P ops Q (o :: rest) a w := by
  rcases Nat.eq_zero_or_pos m with h0 | h0
  · subst h0
    have hxs : xs = [] := List.eq_nil_of_length_eq_zero (by rw [hn]; omega)
    subst hxs
    have hrun : ∀ ty, (Builtin.append_ #[t, t] ty #[.slice (some ⟨g0, 0, none⟩) 0 0, .slice ax 0 c]).run P w = .ok (.slice (some ⟨g0, 0, none⟩) 0 0) w := fun ty => by
      cases ax with
      | none => simp [Builtin.append_, run_underlying h1, sizeOf, typeInfo, h2, Builtin.lenOf, Builtin.firstCells, go_sem]
      | some ad => simp [Builtin.append_, run_underlying h1, sizeOf, typeInfo, h2, Builtin.lenOf, Builtin.firstCells, go_sem]
    refine wpList_plain hg fun K hKK => ?_
    unfold Oper.wp execOp
    simp only [hop, resolve, invoke, builtin, Sem.run_bind, Sem.run_pure, Result.andThen_ok, List.map_toArray, List.map_cons, List.map_nil, hs, hx, hrun]
    exact hKK _ _ (hK g0 0 w hown (World.grownBy.refl w _))
  · obtain ⟨ad, rfl, hcc⟩ := hc h0
    refine append_row w hg s x t hop base e i z size bytes h1 h2 h3 h4 h5 h6 h7 (.slice (some ⟨g0, 0, none⟩) 0 0) 0 [] hs hown ad m c xs hx hn hcc h1c h0 (by omega) (by rw [Nat.zero_add]; exact b2) hbase (fun v' w' r1 r2 _ => ?_)
    rw [Nat.zero_add, List.nil_append] at r1
    obtain ⟨g, cap, rfl, -, -⟩ := r1.form h0
    exact hK g cap w' r1 r2

/-- The names' cells, to be copied. -/
theorem names_srcD {P : Nat → Prop} {W : World} {aN : Option Addr} {nN capN : Nat} {ns : List ByteArray} (h : StrsAt P W (.slice aN nN capN) ns) (o : Obj) : 0 < nN → ∃ ad, aN = some ad ∧ ∀ j u, (ns.map Value.string)[j]? = some u → (W.alloc o).cell? (ad.add j) = some u := by
  obtain ⟨a, cap, e, -, h3⟩ := h
  simp only [Value.slice.injEq] at e
  obtain ⟨rfl, e2, -⟩ := e
  intro h0
  obtain ⟨b, o', rfl, -, -, -⟩ := h3 0 (by omega)
  refine ⟨_, rfl, fun j u hj => ?_⟩
  rw [List.getElem?_map] at hj
  obtain ⟨x, hx, rfl⟩ := Option.map_eq_some_iff.1 hj
  obtain ⟨hlt, rfl⟩ := List.getElem?_eq_some_iff.1 hx
  obtain ⟨b', o'', e3, -, hcell, -⟩ := h3 j hlt
  simp only [Option.some.injEq, Addr.mk.injEq, and_true] at e3
  obtain ⟨rfl, rfl⟩ := e3
  rw [Addr.add_lit, World.cell?_of_block (w := W) (Below.heap_alloc _ _ _ (World.block_lt_of_cell? W _ hcell))]
  exact hcell
end Go.Proofs.Ytchbialjgcejgaa
