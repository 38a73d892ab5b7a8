/- The first tree of a schema, as plain data; trees gathered in a row of the call's own. Definitions and small laws; no program walked, no conditions. -/
import Derived.Test.YteofngankokkkaaGreatDoorPart01
import Derived.Test.YteofngankokkkaaGreatDoorPart16
import Derived.Test.YteofngankokkkaaGreatDoorPart04
import Derived.Test.YteofngankokkkaaGreatDoorRows
import Derived.Test.YteofngankokkkaaGreatDoorPart00
namespace Go.Proofs.YteofngankokkkaaGreatDoor
open Go Go.RowKit

mutual
/-- The first tree of a schema that is ok. -/
def fT : Kd → Tr
  | .mk s ns ks => if s = 5 then .mk 5 0 ByteArray.empty ns (fTs ks) else .mk s 0 ByteArray.empty [] []
def fTs : List Kd → List Tr
  | [] => []
  | t :: r => fT t :: fTs r
end
theorem fT_form {t : Kd} (h : t.sort = 5) : fT t = .mk 5 0 ByteArray.empty t.names (fTs t.kids) := by
  obtain ⟨s, ns, ks⟩ := t; have h' : s = 5 := h; rw [fT, if_pos h']; rfl
theorem fT_else {t : Kd} (h : t.sort ≠ 5) : fT t = .mk t.sort 0 ByteArray.empty [] [] := by
  obtain ⟨s, ns, ks⟩ := t; have h' : s ≠ 5 := h; rw [fT, if_neg h']; rfl
theorem fTs_map (ks : List Kd) : fTs ks = ks.map fT := by
  induction ks with
  | nil => rw [fTs]; rfl
  | cons a r ih => rw [fTs, ih]; rfl

def c5l (c : C5) : List Value := [c.c0, c.c1, c.c2, c.c3, c.c4]

/-- Trees whose cells stand in a row, each in blocks of its own. -/
def OwnL (w : World) : List Tr → List Value → List Nat → Prop
  | [], xs, G => xs = [] ∧ G = []
  | t :: r, xs, G => ∃ c F G' xs', xs = c5l c ++ xs' ∧ G = F ++ G' ∧ Own w t c F ∧ OwnL w r xs' G'

theorem OwnL.snoc {w : World} {ks : List Tr} {xs : List Value} {G F : List Nat} {t : Tr} {c : C5} (h : OwnL w ks xs G) (ht : Own w t c F) : OwnL w (ks ++ [t]) (xs ++ c5l c) (G ++ F) := by
  induction ks generalizing xs G with
  | nil =>
    obtain ⟨rfl, rfl⟩ := h
    exact ⟨c, F, [], [], by simp, by simp, ht, rfl, rfl⟩
  | cons a r ih =>
    obtain ⟨d, F1, G', xs', rfl, rfl, h1, h2⟩ := h
    exact ⟨d, F1, G' ++ F, xs' ++ c5l c, by simp, by simp, h1, ih h2⟩

theorem OwnL.carry {w w' : World} {ks : List Tr} {xs : List Value} {G : List Nat} (h : OwnL w ks xs G) (hb : ∀ b, b ∈ G → w'.heap[b]? = w.heap[b]?) : OwnL w' ks xs G := by
  induction ks generalizing xs G with
  | nil => exact h
  | cons a r ih =>
    obtain ⟨d, F1, G', xs', rfl, rfl, h1, h2⟩ := h
    exact ⟨d, F1, G', xs', rfl, rfl, Own.carry a d F1 (fun b hb' => hb b (by simp [hb'])) h1, ih h2 (fun b hb' => hb b (by simp [hb']))⟩

theorem OwnL.ownK {w : World} {g : Nat} {ks : List Tr} {xs : List Value} {G : List Nat} {o : Nat} (h : OwnL w ks xs G) (hc : ∀ j u, xs[j]? = some u → w.cell? ⟨g, o + j, none⟩ = some u) : OwnK w g o ks G := by
  induction ks generalizing xs G o with
  | nil => rw [OwnK]; exact h.2
  | cons a r ih =>
    obtain ⟨d, F1, G', xs', rfl, rfl, h1, h2⟩ := h
    rw [OwnK]
    refine ⟨F1, G', d, rfl, ⟨hc 0 _ rfl, hc 1 _ rfl, hc 2 _ rfl, hc 3 _ rfl, hc 4 _ rfl⟩, h1, ih h2 (fun j u hj => ?_)⟩
    have := hc (5 + j) u (by
      rw [List.getElem?_append_right (by simp [c5l]), show 5 + j - (c5l d).length = j from by simp [c5l]]; exact hj)
    rw [show o + 5 + j = o + (5 + j) from by omega]; exact this

/-- What the loop has gathered: trees in a row of the call's own. -/
structure GotO (base : Nat) (w : World) (v : Value) (ks : List Tr) (xs : List Value) (G : List Nat) : Prop where
  row : w.ownsRow base 25 5 v ks.length xs
  own : OwnL w ks xs G
  nodup : G.Nodup
  lt : ∀ b, b ∈ G → base ≤ b ∧ b < w.heap.size ∧ v.ownBlock ≠ some b

theorem GotO.start (base : Nat) (w : World) : GotO base w (.slice none 0 0) [] [] [] :=
  ⟨World.ownsRow_nil _ _ _ _, ⟨rfl, rfl⟩, List.nodup_nil, fun b hb => by simp at hb⟩

/-- A world in which nothing at or beyond the base has turned that was there. -/
theorem GotO.kept {base : Nat} {w w' : World} {v : Value} {ks : List Tr} {xs : List Value} {G : List Nat} (h : GotO base w v ks xs G) (hg : w.grownBy w' none) : GotO base w' v ks xs G :=
  ⟨h.row.kept hg (by
      rcases e : v.ownBlock with _ | g
      · exact Or.inl rfl
      · exact Or.inr (by simp)), h.own.carry (fun b hb => hg.block b (h.lt b hb).2.1 (by simp)), h.nodup, fun b hb => ⟨(h.lt b hb).1, Nat.lt_of_lt_of_le (h.lt b hb).2.1 hg.size, (h.lt b hb).2.2⟩⟩

/-- One tree more: its blocks are newer than all that was gathered. -/
theorem GotO.push {base m : Nat} {w w' : World} {v v' : Value} {ks : List Tr} {xs : List Value} {G F : List Nat} {t : Tr} {c : C5} (h : GotO base w v ks xs G) (ht : Own w t c F) (hnd : F.Nodup) (hF : ∀ b, b ∈ F → m ≤ b ∧ b < w.heap.size)
    (hGm : ∀ b, b ∈ G → b < m) (hvm : ∀ b, v.ownBlock = some b → b < m) (hbm : base ≤ m)
    (hown : w'.ownsRow base 25 5 v' (ks.length + 1) (xs ++ c5l c)) (hg : w.grownBy w' v.ownBlock) (hv : v'.ownBlock = v.ownBlock ∨ ∃ g, v'.ownBlock = some g ∧ w.heap.size ≤ g) :
    GotO base w' v' (ks ++ [t]) (xs ++ c5l c) (G ++ F) := by
  have hkG : ∀ b, b ∈ G → w'.heap[b]? = w.heap[b]? := fun b hb => hg.block b (h.lt b hb).2.1 (fun e => (h.lt b hb).2.2 e.symm)
  have hkF : ∀ b, b ∈ F → w'.heap[b]? = w.heap[b]? := fun b hb => hg.block b (hF b hb).2 (fun e => by have := hvm b e.symm; have := (hF b hb).1; omega)
  refine ⟨by simpa using hown, (h.own.carry hkG).snoc (Own.carry t c F hkF ht), List.nodup_append.2 ⟨h.nodup, hnd, fun a ha b hb e => by have := hGm a ha; have := (hF b hb).1; omega⟩, fun b hb => ?_⟩
  rcases List.mem_append.1 hb with hb | hb
  · refine ⟨(h.lt b hb).1, Nat.lt_of_lt_of_le (h.lt b hb).2.1 hg.size, ?_⟩
    rcases hv with e | ⟨g, e, hge⟩
    · rw [e]; exact (h.lt b hb).2.2
    · rw [e]; intro e2; simp only [Option.some.injEq] at e2; have := (h.lt b hb).2.1; omega
  · refine ⟨by have := (hF b hb).1; omega, Nat.lt_of_lt_of_le (hF b hb).2 hg.size, ?_⟩
    rcases hv with e | ⟨g, e, hge⟩
    · rw [e]; intro e2; have := hvm b e2; have := (hF b hb).1; omega
    · rw [e]; intro e2; simp only [Option.some.injEq] at e2; have := (hF b hb).2; omega

theorem freeOfHeap {w : World} {g : Nat} {cur : Array Value} {e : TypeId} (h : w.heap[g]? = some (.cells cur e (0, 0))) : FreeB w g := fun o => by simp [World.frozen?, h]

/-- A row of strings of the call's own. -/
theorem strsOwn_of_row {base : Nat} {w : World} {v : Value} {ss : List ByteArray} (h : w.ownsRow base 9 1 v ss.length (ss.map Value.string)) (hs : ∀ x, x ∈ ss → x.size ≤ 9223372036854775807) :
    ∃ F, StrsOwn w v ss F ∧ F.Nodup ∧ (∀ b, b ∈ F → base ≤ b ∧ b < w.heap.size) ∧ ∀ b, b ∈ F → v.ownBlock = some b := by
  rcases h.2 with ⟨hv, hn0⟩ | ⟨g, cap, cur, hv, hgb, hh, hle, hm2, hsz, htk⟩
  · have hss : ss = [] := List.eq_nil_of_length_eq_zero hn0
    subst hss
    exact ⟨[], ⟨none, 0, hv, by simp, Or.inl ⟨rfl, rfl⟩⟩, List.nodup_nil, fun b hb => by simp at hb, fun b hb => by simp at hb⟩
  · refine ⟨[g], ⟨some ⟨g, 0, none⟩, cap, hv, by unfold maxLen at hm2; omega, Or.inr ⟨g, rfl, rfl, freeOfHeap hh, fun i hi => ⟨?_, hs _ (List.getElem_mem hi)⟩⟩⟩, by simp, fun b hb => ?_, fun b hb => by simp at hb; subst hb; rw [hv]; rfl⟩
    · have h1 : (ss.map Value.string)[i]? = some (.string ss[i]) := by simp [hi]
      rw [← htk, List.getElem?_take_of_lt (by omega)] at h1
      simp only [World.cell?, hh]
      simpa using h1
    · simp at hb; subst hb
      exact ⟨hgb, (Array.getElem?_eq_some_iff.1 hh).1⟩

/-- What was gathered is a slice of trees in blocks of its own. -/
theorem GotO.done {base : Nat} {w : World} {v : Value} {ks : List Tr} {xs : List Value} {G : List Nat} (h : GotO base w v ks xs G) :
    ∃ F, KidsOwn w v ks F ∧ F.Nodup ∧ (∀ b, b ∈ F → base ≤ b ∧ b < w.heap.size) ∧ ∀ b, b ∈ F → v.ownBlock = some b ∨ b ∈ G := by
  rcases h.row.2 with ⟨hv, hn0⟩ | ⟨g, cap, cur, hv, hgb, hh, hle, hm2, hsz, htk⟩
  · have hks : ks = [] := List.eq_nil_of_length_eq_zero hn0
    subst hks
    exact ⟨[], ⟨none, 0, hv, by simp, Or.inl ⟨rfl, rfl⟩⟩, List.nodup_nil, fun b hb => by simp at hb, fun b hb => by simp at hb⟩
  · have hob : v.ownBlock = some g := by rw [hv]; rfl
    refine ⟨g :: G, ⟨some ⟨g, 0, none⟩, cap, hv, by unfold maxLen at hm2; omega, Or.inr ⟨g, G, rfl, rfl, freeOfHeap hh, h.own.ownK (fun j u hj => ?_)⟩⟩, List.nodup_cons.2 ⟨fun hm => (h.lt g hm).2.2 hob, h.nodup⟩, fun b hb => ?_, fun b hb => by
        rcases List.mem_cons.1 hb with rfl | hb
        · exact Or.inl hob
        · exact Or.inr hb⟩
    · have hj' : cur.toList[j]? = some u := by
        rw [← htk] at hj
        rw [List.getElem?_take] at hj
        split at hj
        · exact hj
        · cases hj
      simp only [Nat.zero_add, World.cell?, hh]
      simpa using hj'
    · rcases List.mem_cons.1 hb with rfl | hb
      · exact ⟨hgb, (Array.getElem?_eq_some_iff.1 hh).1⟩
      · exact ⟨(h.lt b hb).1, (h.lt b hb).2.1⟩

theorem cell_five (w : World) (c : C5) (t : TypeId) : ∀ j u, (c5l c)[j]? = some u → (w.alloc (.cells #[c.c0, c.c1, c.c2, c.c3, c.c4] t)).cell? ((⟨w.heap.size, 0, none⟩ : Addr).add j) = some u := by
  intro j u hj
  have hrow := row5_alloc w c.c0 c.c1 c.c2 c.c3 c.c4 t
  rw [Addr.add_lit, Nat.zero_add]
  match j with
  | 0 => rw [hrow.cell (by omega)]; exact hj
  | 1 => rw [hrow.cell (by omega)]; exact hj
  | 2 => rw [hrow.cell (by omega)]; exact hj
  | 3 => rw [hrow.cell (by omega)]; exact hj
  | 4 => rw [hrow.cell (by omega)]; exact hj
  | j + 5 => simp [c5l] at hj

theorem Own.one {w : World} {t : Tr} {c : C5} {F : List Nat} (h : Own w t c F) : ∀ u ∈ c5l c, u.oneCell' = true := by
  obtain ⟨h0, h1, h2, -, -, -, F1, F2, -, ⟨a, cap, h3, -⟩, a2, cap2, h4, -⟩ := h.open
  intro u hu
  simp only [c5l, h0, h1, h2, h3, h4, List.mem_cons, List.not_mem_nil, or_false] at hu
  rcases hu with rfl | rfl | rfl | rfl | rfl <;> rfl
end Go.Proofs.YteofngankokkkaaGreatDoor

/- The walks of the library's strings.Clone and of the program's copyNames: the same bytes; the same names, in a row of the call's own. Of what was there nothing has turned. The strings have at most 2^47 bytes. -/

namespace Go.Proofs.YteofngankokkkaaGreatDoor
open Go Go.RowKit

set_option maxHeartbeats 400000 in
theorem clone_any (s : ByteArray) (w : World) (hlim : s.size ≤ 140737488355328) :
    Calls Tryz.prog 31 #[.string s] w fun e w' => e = .returned (.string s) ∧ Below w.heap.size w w' := by
  have hc : ∀ W, Calls Tryz.prog 46 #[.string s] W fun e w' => e = .returned (.string s) ∧ Below W.heap.size W w' := fun W => Tryz.stringslite_Clone s W (by omega)
  have HC := hide hc; clear hc
  go_enter Tryz.func31, Tryz.ntmps31
  go_wp2_with (go_at_call 46; refine (unhide HC _).mono ?_; rintro e w' ⟨rfl, hb⟩)
  go_ret
  exact ⟨rfl, hb⟩

theorem infoStrC : (Tryz.prog.info? 9).map (fun i => (i.zero, i.size, i.bytes)) = some (some (.string ByteArray.empty), 1, 16) := by kernel_rfl

set_option maxRecDepth 100000 in
set_option maxHeartbeats 800000 in
theorem copyNames_any (v : Value) (ss : List ByteArray) (w : World) {P : Nat → Prop} (hP : ∀ b, P b → b < w.heap.size) (hv : StrsAt P w v ss) (hl : ss.length ≤ 1048576) (hsz : ∀ x, x ∈ ss → x.size ≤ 1099511627776) :
    Calls Tryz.prog 33 #[v] w fun e w' => ∃ v' F, e = .returned v' ∧ StrsOwn w' v' ss F ∧ F.Nodup ∧ (∀ b, b ∈ F → w.heap.size ≤ b ∧ b < w'.heap.size) ∧ Below w.heap.size w w' := by
  obtain ⟨a, cap, rfl, hlen, hc⟩ := hv
  obtain ⟨i0, hi, hz0, hz1, hz2⟩ := info_parts infoStrC
  have HC := hide hc; have HP := hide hP; have HSZ := hide hsz
  have HII := hide hi; have HZ0 := hide hz0; have HZ1 := hide hz1; have HZ2 := hide hz2
  clear hc hP hsz hi hz0 hz1 hz2
  go_enter Tryz.func33, Tryz.ntmps33
  go_wp2_with fail
  go_loopw [3, 8] (fun s i wr => ∃ (k : Nat) (a' : Option Addr) (cap' : Nat), k ≤ ss.length ∧ i = .int .i64 k ∧ s = .slice a' k cap' ∧ Hid (wr.ownsRow w.heap.size 9 1 (.slice a' k cap') k ((ss.take k).map Value.string)) ∧ Hid (Below w.heap.size w wr)) (fun _ i _ => ss.length - (intOf i).toNat)
  case atStart => exact ⟨0, none, 0, Nat.zero_le _, rfl, rfl, World.ownsRow_nil _ _ _ _, Below.refl _ _⟩
  case round =>
    obtain ⟨k, a', cap', hk, rfl, rfl, HOWN, HB⟩ := hrel
    by_cases hlt : k < ss.length
    · obtain ⟨b, o, rfl, hpb, hcell, -⟩ := unhide HC k hlt
      have e1 : wr.cell? ⟨b, o + k, none⟩ = some (.string ss[k]) := by rw [HB.out.cell (unhide HP b hpb)]; exact hcell
      have hcl := clone_any ss[k] wr (by have := unhide HSZ _ (List.getElem_mem hlt); omega)
      have htk : (ss.take (k + 1)).map Value.string = (ss.take k).map Value.string ++ [.string ss[k]] := by
        rw [List.take_succ_eq_append_getElem hlt, List.map_append]; rfl
      generalize ss[k] = tk at *
      have HCL := hide hcl; have HTK := hide htk
      clear hcl htk hcell hpb
      go_wp2_with fail
      refine (unhide HCL).mono ?_
      rintro e w2 ⟨rfl, hb2⟩
      have hs2 := hb2.size
      have hsw := HB.out.size
      have hown2 : w2.ownsRow w.heap.size 9 1 (.slice a' k cap') k ((ss.take k).map Value.string) :=
        HOWN.out.kept (row := none) ⟨hb2.os, hb2.tape, hb2.output, hb2.size, fun i hi _ => hb2.block i hi⟩ (by
          rcases h : (Value.slice a' k cap').ownBlock with _ | g
          · exact Or.inl rfl
          · exact Or.inr (by simp))
      have HOWN2 := hide hown2; have HB2 := hide (HB.out.trans (hb2.mono hsw))
      clear hown2 hb2 HCL e1
      go_wp2_with (at_builtin; refine append_row _ rfl _ _ 22 rfl w.heap.size 9 i0 (.string ByteArray.empty) 1 16 Tryz.underlying22 (unhide HII) (unhide HZ0) (unhide HZ1) (unhide HZ2) rfl (by decide) (.slice a' k cap') k ((ss.take k).map Value.string) rfl ((unhide HOWN2).alloc _) ⟨w2.heap.size, 0, none⟩ 1 1 [.string tk] rfl rfl (cell_one _ _ _) (fun u hu => by simp at hu; subst hu; rfl) (by decide) (by unfold maxLen; omega) (by omega) (by simp; omega) ?_; intro v' w4 hown4 hgrow4 hv4)
      have hlt4 := (unhide HOWN2).lt
      obtain ⟨g', cap'', hv''⟩ : ∃ g' cap'', v' = .slice (some ⟨g', 0, none⟩) (k + 1) cap'' := by
        rcases hown4.2 with ⟨_, h⟩ | ⟨g', cap'', _, h, _⟩
        · omega
        · exact ⟨g', cap'', h⟩
      subst hv''
      have hb4 : Below w.heap.size w2 w4 := (((Below.refl _ w2).alloc (by omega) _)).trans ((Below.refl _ _).grown hgrow4 (by simp; omega) (fun k e => (hlt4 k e).1))
      have HOWN4 : Hid (w4.ownsRow w.heap.size 9 1 (.slice (some ⟨g', 0, none⟩) (k + 1) cap'') (k + 1) ((ss.take (k + 1)).map Value.string)) := by
        show World.ownsRow _ _ _ _ _ _ _
        rw [unhide HTK]; exact hown4
      have HB4 := hide ((unhide HB2).trans hb4)
      clear hown4 hgrow4 hv4 hb4 hlt4
      go_wp2_with fail
      go_roundw
      case rel => exact ⟨k + 1, some ⟨g', 0, none⟩, cap'', by omega, by go_num, rfl, HOWN4, unhide HB4⟩
      case measure => simp [intOf]; omega
    · obtain rfl : k = ss.length := by omega
      have h1 := HOWN.out
      rw [List.take_length] at h1
      obtain ⟨F, hF, hnd, hlt', -⟩ := strsOwn_of_row h1 (fun x hx => by have := unhide HSZ x hx; omega)
      have HF := hide hF; have HL := hide hlt'
      clear h1 hF hlt'
      go_wp2_with fail
      go_ret
      exact ⟨_, F, rfl, unhide HF, hnd, unhide HL, HB.out⟩

end Go.Proofs.YteofngankokkkaaGreatDoor

/- Five stores into a box of a tree. No program, no conditions. -/

namespace Go.Proofs.YteofngankokkkaaGreatDoor
open Go Go.RowKit

/-- Five stores into a box. -/
def set5 (W : World) (B : Nat) (c : C5) : World := ((((W.setCell ⟨B, 0, none⟩ c.c0).setCell ⟨B, 1, none⟩ c.c1).setCell ⟨B, 2, none⟩ c.c2).setCell ⟨B, 3, none⟩ c.c3).setCell ⟨B, 4, none⟩ c.c4
theorem set5_heap (W : World) (B : Nat) (c : C5) (b : Nat) (h : b ≠ B) : (set5 W B c).heap[b]? = W.heap[b]? := by
  unfold set5
  rw [Below.heap_setCell _ _ _ _ h, Below.heap_setCell _ _ _ _ h, Below.heap_setCell _ _ _ _ h, Below.heap_setCell _ _ _ _ h, Below.heap_setCell _ _ _ _ h]
theorem set5_size (W : World) (B : Nat) (c : C5) : (set5 W B c).heap.size = W.heap.size := by unfold set5; simp
theorem below_set5 {N : Nat} {w W : World} (h : Below N w W) (B : Nat) (c : C5) (hB : N ≤ B) : Below N w (set5 W B c) := ((((h.setCell (p := ⟨B, 0, none⟩) hB _).setCell (p := ⟨B, 1, none⟩) hB _).setCell (p := ⟨B, 2, none⟩) hB _).setCell (p := ⟨B, 3, none⟩) hB _).setCell (p := ⟨B, 4, none⟩) hB _
theorem row5_set5 {W : World} {B : Nat} {t : TypeId} {c : C5} {c' : C5} (h : W.rowIs B t 5 (row5 c.c0 c.c1 c.c2 c.c3 c.c4)) : (set5 W B c').rowIs B t 5 (row5 c'.c0 c'.c1 c'.c2 c'.c3 c'.c4) := by
  have h5 := ((((h.set 0 c'.c0).set 1 c'.c1).set 2 c'.c2).set 3 c'.c3).set 4 c'.c4
  unfold set5
  refine h5.congr (fun i hi => ?_)
  match i, hi with
  | 0, _ => rfl
  | 1, _ => rfl
  | 2, _ => rfl
  | 3, _ => rfl
  | 4, _ => rfl
end Go.Proofs.YteofngankokkkaaGreatDoor
