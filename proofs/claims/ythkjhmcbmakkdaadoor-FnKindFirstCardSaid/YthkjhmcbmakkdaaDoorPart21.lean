/- The walks of newNameOrder and of nameOrder's hasJust: names with the places at which they stand, in a map of the call's own; whether names are among them, as many. No conditions but the number of names, at most 2^20. -/
import Derived.Test.YthkjhmcbmakkdaaDoorPart03
import Derived.Test.YthkjhmcbmakkdaaDoorPart01
import Derived.Maps.OwnSet
import Derived.Maps.OwnOps
import Derived.Maps.Views
import Derived.Test.YthkjhmcbmakkdaaDoorPart00
namespace Go.Proofs.YthkjhmcbmakkdaaDoor
open Go Go.RowKit Go.WideMaps Go.Maps

/-- What a name reads as, where it is a key. -/
def nkey (s : ByteArray) : Lit := .string s.data.toList
/-- The map behind k names. -/
def nmap (ns : List ByteArray) : Nat → DataW Unit
  | 0 => .map []
  | k + 1 => (nmap ns k).put (nkey (ns.getD k ByteArray.empty)) (.lit (.int .i64 k))
theorem nmap_map (ns : List ByteArray) : ∀ k, IsMap (nmap ns k)
  | 0 => ⟨[], rfl⟩
  | k + 1 => (nmap_map ns k).put _ _
theorem nkey_inj {a b : ByteArray} (h : nkey a = nkey b) : a = b := by
  simp only [nkey, Lit.string.injEq] at h
  exact ByteArray.ext (Array.toList_inj.1 h)
theorem nkey_ok (s : ByteArray) : WideAt.IsKeyLit (nkey s) := trivial
theorem has_nmap (ns : List ByteArray) (x : ByteArray) : ∀ k, k ≤ ns.length → (Maps.has (nmap ns k) (nkey x) = true ↔ x ∈ ns.take k)
  | 0, _ => by simp [nmap, Maps.has]
  | k + 1, h => by
    have hg : ns.getD k ByteArray.empty = ns[k] := by simp [List.getD, show k < ns.length by omega]
    rw [nmap, hg, List.take_succ_eq_append_getElem (by omega), List.mem_append]
    by_cases e : x = ns[k]
    · rw [e, has_put_same (nmap_map ns k) (nkey_ok _)]
      simp
    · rw [has_put_other (fun h => e (nkey_inj h)), has_nmap ns x k (by omega)]
      simp [e]
theorem at_nmap (ns : List ByteArray) (hnd : ns.Nodup) (i : Nat) (hi : i < ns.length) : ∀ k, k ≤ ns.length → i < k → (nmap ns k).atKey (nkey ns[i]) (.lit (.int .i64 0)) = .lit (.int .i64 i)
  | 0, _, h => by omega
  | k + 1, h, hk => by
    have hg : ns.getD k ByteArray.empty = ns[k] := by simp [List.getD, show k < ns.length by omega]
    rw [nmap, hg]
    by_cases e : i = k
    · subst e
      exact atKey_put_same (nmap_map ns i) (nkey_ok _) _ _
    · rw [atKey_put_other (fun hh => e ((List.getElem_inj hnd).1 (nkey_inj hh)))]
      exact at_nmap ns hnd i hi k (by omega) (by omega)

theorem keyLaw : Keyed Tryd.prog 9 := string_keyed Tryd.underlying9
theorem zeroInt (w : World) : (zeroValue 3).run Tryd.prog w = .ok (.int .i64 0) w := by kernel_rfl
set_option maxRecDepth 100000 in
theorem runMake (n : Int) (w : World) : (Instr.makeMap 69 (some (.int .i64 n))).run Tryd.prog w = .ok (.map (some w.heap.size)) (w.alloc (.map #[] 0)) := by rfl

/-- The names and the map of their places. -/
def NMap (w : World) (B : Nat) (ns : List ByteArray) : Prop := w.ownsMap Tryd.prog 9 (plainElem (H := Unit) Tryd.prog 3) B ns.length (nmap ns ns.length)

def row2 (c0 c1 : Value) : Nat → Value
  | 0 => c0
  | _ => c1
theorem row2_alloc (w : World) (c0 c1 : Value) (t : TypeId) : (w.alloc (.cells #[c0, c1] t)).rowIs w.heap.size t 2 (row2 c0 c1) :=
  World.rowIs_alloc w #[c0, c1] t _ (fun i hi => by
    have hi' : i < 2 := hi
    match i, hi' with
    | 0, _ => rfl
    | 1, _ => rfl)

set_option maxRecDepth 100000 in
set_option maxHeartbeats 800000 in
theorem newNameOrder_any (v : Value) (ns : List ByteArray) (w : World) {P : Nat → Prop} (hP : ∀ b, P b → b < w.heap.size) (hv : StrsAt P w v ns) (hn : ns.length ≤ 1048576) :
    Calls Tryd.prog 64 #[v] w fun e w' => ∃ B, e = .returned (.agg #[v, .map (some B)]) ∧ NMap w' B ns ∧ w.heap.size ≤ B ∧ Below w.heap.size w w' := by
  obtain ⟨a, cap, rfl, hlen, hc⟩ := hv
  have HC := hide hc; have HP := hide hP
  clear hc hP
  have hmm := runMake
  go_enter Tryd.func64, Tryd.ntmps64
  go_wp2_with fail
  have hb1 : Below w.heap.size w (w.alloc (.cells #[.slice none 0 0, .map none] 71)) := (Below.refl _ _).alloc (Nat.le_refl _) _
  have hown0 := World.ownsMap_made (w.alloc (.cells #[.slice none 0 0, .map none] 71)) Tryd.prog 9 (plainElem (H := Unit) Tryd.prog 3)
  rw [World.size_alloc] at hown0
  have hr0 := (row2_alloc w (.slice none 0 0) (.map none) 71).alloc (.map #[] 0)
  have hb2 := hb1.alloc (by simp) (.map #[] 0)
  have hs2 : ((w.alloc (.cells #[.slice none 0 0, .map none] 71)).alloc (.map #[] 0)).heap.size = w.heap.size + 2 := by simp
  generalize ((w.alloc (.cells #[.slice none 0 0, .map none] 71)).alloc (.map #[] 0)) = W0 at *
  have HR0 := hide hr0; have HB2 := hide hb2; have HO0 := hide hown0
  clear hr0 hb2 hown0 hb1 hmm
  go_loopw [11] (fun i wr => ∃ (k : Nat), k ≤ ns.length ∧ i = .int .i64 k ∧ Hid (wr.ownsMap Tryd.prog 9 (plainElem (H := Unit) Tryd.prog 3) (w.heap.size + 1) k (nmap ns k)) ∧ Hid (Below (w.heap.size + 1) W0 wr)) (fun i _ => ns.length - (intOf i).toNat)
  case atStart => exact ⟨0, Nat.zero_le _, rfl, unhide HO0, Below.refl _ _⟩
  case round =>
    obtain ⟨k, hk, rfl, HOWN, HB⟩ := hrel
    have hbw := (unhide HB2).trans (HB.out.mono (by omega))
    by_cases hlt : k < ns.length
    · obtain ⟨b, o, rfl, hpb, hcell, hsz⟩ := unhide HC k hlt
      have e1 : wr.cell? ⟨b, o + k, none⟩ = some (.string ns[k]) := by rw [hbw.cell (unhide HP b hpb)]; exact hcell
      have hkey : keyOf Tryd.prog 9 (.string ns[k]) = some (nkey ns[k]) := keyOf_string_mk Tryd.underlying9 (by unfold maxLen; omega)
      have hst : nmap ns (k + 1) = (nmap ns k).put (nkey ns[k]) (.lit (.int .i64 k)) := by
        rw [nmap]; congr 2; simp [List.getD, hlt]
      generalize ns[k] = nm at *
      have HST := hide hst
      clear hcell hpb hst
      go_wp2_with (at_mapUpdate; refine wpList_mapUpdate_own _ rfl _ _ _ 69 rfl 9 3 keyLaw Tryd.underlying69 _ (w.heap.size + 1) k _ rfl (unhide HOWN) (by unfold maxLen; omega) _ _ _ rfl rfl hkey _ [] (plainElem_int Tryd.underlying3 (WalkArith.wf_i64 (by omega))) ?_; intro w1 hown1 hgrow1)
      have hb4 := HB.out.grown hgrow1 (by have := HB.out.size; omega) (fun j hj => by cases hj; exact Nat.le_refl _)
      rw [← unhide HST] at hown1
      have HO1 := hide hown1; have HB4 := hide hb4
      clear hown1 hb4 hgrow1
      go_wp2_with fail
      go_roundw
      case rel => exact ⟨k + 1, by omega, by go_num, unhide HO1, unhide HB4⟩
      case measure => simp [intOf]; omega
    · obtain rfl : k = ns.length := by omega
      have q0 := (unhide HR0).of_block (HB.out.block w.heap.size (by omega))
      have z := q0.frozen
      have y0 := q0.cell (i := 0) (by omega); have y1 := q0.cell (i := 1) (by omega)
      simp only [row2] at y0 y1
      have HBW := hide hbw
      clear q0 hbw
      go_wp2_with fail
      have hset : wr.grownBy ((wr.setCell ⟨w.heap.size, 0, none⟩ (.slice a ns.length cap)).setCell ⟨w.heap.size, 1, none⟩ (.map (some (w.heap.size + 1)))) (some w.heap.size) :=
        ⟨rfl, rfl, rfl, by simp [World.setCell], fun x _ hx => by rw [Below.heap_setCell _ _ _ _ (fun e => hx (by rw [e])), Below.heap_setCell _ _ _ _ (fun e => hx (by rw [e]))]⟩
      refine bodyPost_ret (v := .agg #[.slice a ns.length cap, .map (some (w.heap.size + 1))]) (by simp [results, Tryd.results64, go_sem, y0, y1]) rfl ⟨w.heap.size + 1, rfl, ?_, by omega, ?_⟩
      · exact HOWN.out.kept hset (by simp)
      · exact ((unhide HBW).setCell (Nat.le_refl _) _).setCell (Nat.le_refl _) _

/-- Whether names are just the kept ones. -/
def justB (ns names : List ByteArray) : Bool := names.all (fun x => Maps.has (nmap ns ns.length) (nkey x)) && decide (names.length = ns.length)
theorem all_take {f : ByteArray → Bool} {l : List ByteArray} {k : Nat} (h : k < l.length) : (l.take (k + 1)).all f = ((l.take k).all f && f l[k]) := by
  rw [List.take_succ_eq_append_getElem h, List.all_append]; simp
theorem all_false {f : ByteArray → Bool} {l : List ByteArray} {k : Nat} (h : k < l.length) (hf : f l[k] = false) : l.all f = false := by
  rw [List.all_eq_false]; exact ⟨l[k], List.getElem_mem h, by simp [hf]⟩

set_option maxRecDepth 100000 in
set_option maxHeartbeats 800000 in
theorem hasJust_any (a : Option Addr) (cap B : Nat) (ns : List ByteArray) (v2 : Value) (names : List ByteArray) (w : World) {P : Nat → Prop} (hP : ∀ b, P b → b < w.heap.size) (hv : StrsAt P w v2 names) (hm : NMap w B ns) :
    Calls Tryd.prog 65 #[.agg #[.slice a ns.length cap, .map (some B)], v2] w fun e w' => e = .returned (.bool (justB ns names)) ∧ Below w.heap.size w w' := by
  obtain ⟨a2, cap2, rfl, hlen, hc⟩ := hv
  have hB := hm.lt
  have HC := hide hc; have HP := hide hP; have HM := hide hm
  clear hc hP hm
  go_enter Tryd.func65, Tryd.ntmps65
  go_wp2_with fail
  have hr0 := row2_alloc w (.slice a ns.length cap) (.map (some B)) 71
  have hb0 : Below w.heap.size w (w.alloc (.cells #[.slice a ns.length cap, .map (some B)] 71)) := (Below.refl _ _).alloc (Nat.le_refl _) _
  have hs0 : (w.alloc (.cells #[.slice a ns.length cap, .map (some B)] 71)).heap.size = w.heap.size + 1 := by simp
  have hm0 : NMap (w.alloc (.cells #[.slice a ns.length cap, .map (some B)] 71)) B ns := (unhide HM).alloc _
  generalize (w.alloc (.cells #[.slice a ns.length cap, .map (some B)] 71)) = W0 at *
  have HR0 := hide hr0; have HB0 := hide hb0; have HM0 := hide hm0
  clear hr0 hb0 hm0
  go_loopw [11] (fun i wr => ∃ (k : Nat), k ≤ names.length ∧ i = .int .i64 k ∧ Hid ((names.take k).all (fun x => Maps.has (nmap ns ns.length) (nkey x)) = true) ∧ Hid (Below W0.heap.size W0 wr)) (fun i _ => names.length - (intOf i).toNat)
  case atStart => exact ⟨0, Nat.zero_le _, rfl, by simp [Hid], Below.refl _ _⟩
  case round =>
    obtain ⟨k, hk, rfl, HA, HB⟩ := hrel
    have hbw := (unhide HB0).trans (HB.out.mono (by omega))
    have q0 := (unhide HR0).of_block (HB.out.block w.heap.size (by omega))
    have y0 := q0.cell (i := 0) (by omega); have y1 := q0.cell (i := 1) (by omega)
    simp only [row2] at y0 y1
    have hmw : NMap wr B ns := (unhide HM0).kept (row := none) ⟨HB.out.os, HB.out.tape, HB.out.output, HB.out.size, fun x hx _ => HB.out.block x hx⟩ (by simp)
    have HMW := hide hmw; have HBW := hide hbw
    by_cases hlt : k < names.length
    · obtain ⟨b, o, rfl, hpb, hcell, hsz⟩ := unhide HC k hlt
      have e1 : wr.cell? ⟨b, o + k, none⟩ = some (.string names[k]) := by rw [hbw.cell (unhide HP b hpb)]; exact hcell
      have hkey : keyOf Tryd.prog 9 (.string names[k]) = some (nkey names[k]) := keyOf_string_mk Tryd.underlying9 (by unfold maxLen; omega)
      have hat := all_take (f := fun x => Maps.has (nmap ns ns.length) (nkey x)) hlt
      have haf := all_false (f := fun x => Maps.has (nmap ns ns.length) (nkey x)) hlt
      rw [unhide HA, Bool.true_and] at hat
      cases hv : Maps.has (nmap ns ns.length) (nkey names[k])
      · have hj : justB ns names = false := by rw [justB, haf hv]; rfl
        have HJ := hide hj
        generalize names[k] = nm at *
        clear hcell hpb hbw q0 hat haf hj hmw
        go_wp2_with (at_lookup; refine wpList_lookup_own_ok_int _ rfl _ _ 69 rfl 9 3 .i64 keyLaw Tryd.underlying69 Tryd.underlying3 (zeroInt _) B ns.length _ rfl (unhide HMW) _ _ rfl hkey ?_; intro c hat hwc)
        go_ret
        exact ⟨by rw [unhide HJ]; rfl, unhide HBW⟩
      · have ha2 : (names.take (k + 1)).all (fun x => Maps.has (nmap ns ns.length) (nkey x)) = true := by rw [hat]; exact hv
        have HA2 := hide ha2
        generalize names[k] = nm at *
        clear hcell hpb hbw q0 hat haf ha2 hmw
        go_wp2_with (at_lookup; refine wpList_lookup_own_ok_int _ rfl _ _ 69 rfl 9 3 .i64 keyLaw Tryd.underlying69 Tryd.underlying3 (zeroInt _) B ns.length _ rfl (unhide HMW) _ _ rfl hkey ?_; intro c hat hwc)
        go_roundw
        case rel => exact ⟨k + 1, by omega, by go_num, unhide HA2, HB.out⟩
        case measure => simp [intOf]; omega
    · obtain rfl : k = names.length := by omega
      have hj : justB ns names = decide (names.length = ns.length) := by
        have := unhide HA
        rw [List.take_length] at this
        rw [justB, this, Bool.true_and]
      have HJ := hide hj
      clear q0 hbw hmw hj
      go_wp2_with fail
      go_ret
      refine ⟨?_, unhide HBW⟩
      have e : ((names.length : Int) == (ns.length : Int)) = decide (names.length = ns.length) := by
        rw [Bool.eq_iff_iff]; simp only [beq_iff_eq, decide_eq_true_eq]; constructor <;> intro h <;> omega
      rw [unhide HJ, ← e]
      rfl
end Go.Proofs.YthkjhmcbmakkdaaDoor

/- A schema whose kids are found by their names, as it lies in memory: four cells, the third a map. Definitions and small laws; no program walked, no conditions. -/

namespace Go.Proofs.YthkjhmcbmakkdaaDoor
open Go Go.RowKit Go.Maps

theorem NMap.carry {w w' : World} {B : Nat} {ns : List ByteArray} (h : NMap w B ns) (e : w'.heap[B]? = w.heap[B]?) : NMap w' B ns := by
  obtain ⟨es, clock, hb, r⟩ := h
  exact ⟨es, clock, e.trans hb, r⟩

/-- The four cells of a schema with named kids. -/
structure C4 where
  (c0 c1 c2 c3 : Value)
def c4l (c : C4) : List Value := [c.c0, c.c1, c.c2, c.c3]
def C4.at (w : World) (b o : Nat) (c : C4) : Prop :=
  w.cell? ⟨b, o, none⟩ = some c.c0 ∧ w.cell? ⟨b, o + 1, none⟩ = some c.c1 ∧ w.cell? ⟨b, o + 2, none⟩ = some c.c2 ∧ w.cell? ⟨b, o + 3, none⟩ = some c.c3
theorem C4.at.carry {w w' : World} {b o : Nat} {c : C4} (h : C4.at w b o c) (hb : w'.heap[b]? = w.heap[b]?) : C4.at w' b o c := by
  have e : ∀ o', w'.cell? ⟨b, o', none⟩ = w.cell? ⟨b, o', none⟩ := fun o' => World.cell?_of_block (w := w) hb
  obtain ⟨h0, h1, h2, h3⟩ := h
  exact ⟨by rw [e]; exact h0, by rw [e]; exact h1, by rw [e]; exact h2, by rw [e]; exact h3⟩

mutual
/-- Four cells are a schema with named kids: all that they lead to lies in blocks of which 'P' holds. -/
def NRep (P : Nat → Prop) (w : World) : Kd → C4 → Prop
  | .mk s ns ks, c => c.c0 = .int .i64 s ∧ I64 s ∧ StrsAt P w c.c1 ns ∧ (∃ B, c.c2 = .map (some B) ∧ P B ∧ NMap w B ns) ∧
    ∃ a cap, c.c3 = .slice a ks.length cap ∧ ks.length ≤ 9223372036854775807 ∧ (ks ≠ [] → ∃ b o, a = some ⟨b, o, none⟩ ∧ P b ∧ NRepK P w b o ks)
def NRepK (P : Nat → Prop) (w : World) (b : Nat) (o : Nat) : List Kd → Prop
  | [] => True
  | t :: r => (∃ c, C4.at w b o c ∧ NRep P w t c) ∧ NRepK P w b (o + 4) r
end
theorem NRepK.get {P : Nat → Prop} {w : World} {b o : Nat} {ks : List Kd} (h : NRepK P w b o ks) (i : Nat) (hi : i < ks.length) :
    ∃ c, C4.at w b (o + i * 4) c ∧ NRep P w ks[i] c := by
  induction ks generalizing o i with
  | nil => simp at hi
  | cons t r ih =>
    rw [NRepK] at h
    cases i with
    | zero => exact h.1
    | succ i =>
      obtain ⟨c, h1, h2⟩ := ih h.2 i (by simpa using hi)
      exact ⟨c, by rw [show o + (i + 1) * 4 = o + 4 + i * 4 from by omega]; exact h1, h2⟩
mutual
theorem NRep.carry {P Q : Nat → Prop} {w w' : World} (hP : ∀ b, P b → w'.heap[b]? = w.heap[b]?) (hQ : ∀ b, P b → Q b) : ∀ (t : Kd) (c : C4), NRep P w t c → NRep Q w' t c
  | .mk s ns ks, c => by
    intro h
    rw [NRep] at h ⊢
    obtain ⟨h0, h3, h6, ⟨B, hB1, hB2, hB3⟩, a, cap, h7, h8, h9⟩ := h
    refine ⟨h0, h3, h6.carry hP hQ, ⟨B, hB1, hQ B hB2, hB3.carry (hP B hB2)⟩, a, cap, h7, h8, fun hk => ?_⟩
    obtain ⟨b, o, e, p, hr⟩ := h9 hk
    exact ⟨b, o, e, hQ b p, NRepK.carry hP hQ b o (hP b p) ks hr⟩
theorem NRepK.carry {P Q : Nat → Prop} {w w' : World} (hP : ∀ b, P b → w'.heap[b]? = w.heap[b]?) (hQ : ∀ b, P b → Q b) (b : Nat) (o : Nat) (hb : w'.heap[b]? = w.heap[b]?) : ∀ (ks : List Kd), NRepK P w b o ks → NRepK Q w' b o ks
  | [] => by intro _; rw [NRepK]; trivial
  | t :: r => by
    intro h
    rw [NRepK] at h ⊢
    obtain ⟨⟨c, h1, h2⟩, h3⟩ := h
    exact ⟨⟨c, h1.carry hb, NRep.carry hP hQ t c h2⟩, NRepK.carry hP hQ b (o + 4) hb r h3⟩
end
theorem NRep.open {P : Nat → Prop} {w : World} {t : Kd} {c : C4} (h : NRep P w t c) :
    c.c0 = .int .i64 t.sort ∧ I64 t.sort ∧ StrsAt P w c.c1 t.names ∧ (∃ B, c.c2 = .map (some B) ∧ P B ∧ NMap w B t.names) ∧
    ∃ a cap, c.c3 = .slice a t.kids.length cap ∧ t.kids.length ≤ 9223372036854775807 ∧
      ∀ i, (hi : i < t.kids.length) → ∃ b o c, a = some ⟨b, o, none⟩ ∧ P b ∧ C4.at w b (o + i * 4) c ∧ NRep P w t.kids[i] c := by
  obtain ⟨s, ns, ks⟩ := t
  rw [NRep] at h
  obtain ⟨h0, h3, h6, hB, a, cap, h7, h8, h9⟩ := h
  refine ⟨h0, h3, h6, hB, a, cap, h7, h8, fun i hi => ?_⟩
  obtain ⟨b, o, e, p, hr⟩ := h9 (fun hh => by subst hh; simp [Kd.kids] at hi)
  obtain ⟨c', h1', h2'⟩ := hr.get i hi
  exact ⟨b, o, c', e, p, h1', h2'⟩

/-- Schemas with named kids whose cells stand in a row. -/
def NRepL (P : Nat → Prop) (w : World) : List Kd → List Value → Prop
  | [], xs => xs = []
  | t :: r, xs => ∃ c xs', xs = c4l c ++ xs' ∧ NRep P w t c ∧ NRepL P w r xs'
theorem NRepL.snoc {P : Nat → Prop} {w : World} {ks : List Kd} {xs : List Value} {t : Kd} {c : C4} (h : NRepL P w ks xs) (ht : NRep P w t c) : NRepL P w (ks ++ [t]) (xs ++ c4l c) := by
  induction ks generalizing xs with
  | nil =>
    have h' : xs = [] := h
    subst h'
    exact ⟨c, [], by simp, ht, rfl⟩
  | cons a r ih =>
    obtain ⟨d, xs', rfl, h1, h2⟩ := h
    exact ⟨d, xs' ++ c4l c, by simp, h1, ih h2⟩
theorem NRepL.carry {P Q : Nat → Prop} {w w' : World} {ks : List Kd} {xs : List Value} (h : NRepL P w ks xs) (hP : ∀ b, P b → w'.heap[b]? = w.heap[b]?) (hQ : ∀ b, P b → Q b) : NRepL Q w' ks xs := by
  induction ks generalizing xs with
  | nil => exact h
  | cons a r ih =>
    obtain ⟨d, xs', rfl, h1, h2⟩ := h
    exact ⟨d, xs', rfl, NRep.carry hP hQ a d h1, ih h2⟩
theorem NRepL.repK {P : Nat → Prop} {w : World} {g : Nat} {ks : List Kd} {xs : List Value} {o : Nat} (h : NRepL P w ks xs) (hc : ∀ j u, xs[j]? = some u → w.cell? ⟨g, o + j, none⟩ = some u) : NRepK P w g o ks := by
  induction ks generalizing xs o with
  | nil => rw [NRepK]; trivial
  | cons a r ih =>
    obtain ⟨d, xs', rfl, h1, h2⟩ := h
    rw [NRepK]
    refine ⟨⟨d, ⟨hc 0 _ rfl, hc 1 _ rfl, hc 2 _ rfl, hc 3 _ rfl⟩, h1⟩, ih h2 (fun j u hj => ?_)⟩
    have := hc (4 + j) u (by
      rw [List.getElem?_append_right (by simp [c4l]), show 4 + j - (c4l d).length = j from by simp [c4l]]; exact hj)
    rw [show o + 4 + j = o + (4 + j) from by omega]; exact this

/-- A slice of schemas with named kids, as gathered in a row of the call's own. -/
def NKids (P : Nat → Prop) (w : World) (v : Value) (ks : List Kd) : Prop := ∃ a cap, v = .slice a ks.length cap ∧ ks.length ≤ 9223372036854775807 ∧ (ks ≠ [] → ∃ b o, a = some ⟨b, o, none⟩ ∧ P b ∧ NRepK P w b o ks)
theorem NKids.of_row {P : Nat → Prop} {base : Nat} {w : World} {v : Value} {ks : List Kd} {xs : List Value} (h : w.ownsRow base 74 4 v ks.length xs) (hl : NRepL P w ks xs) (hP : ∀ g, base ≤ g → g < w.heap.size → P g) : NKids P w v ks := by
  rcases h.2 with ⟨hv, hn0⟩ | ⟨g, cap, cur, hv, hgb, hh, hle, hm2, hsz, htk⟩
  · have hks : ks = [] := List.eq_nil_of_length_eq_zero hn0
    subst hks
    exact ⟨none, 0, hv, by simp, fun h => absurd rfl h⟩
  · refine ⟨some ⟨g, 0, none⟩, cap, hv, by unfold maxLen at hm2; omega, fun _ => ⟨g, 0, rfl, hP g hgb (Array.getElem?_eq_some_iff.1 hh).1, hl.repK (fun j u hj => ?_)⟩⟩
    have hj' : cur.toList[j]? = some u := by
      rw [← htk] at hj
      rw [List.getElem?_take] at hj
      split at hj
      · exact hj
      · cases hj
    simp only [Nat.zero_add, World.cell?, hh]
    simpa using hj'
theorem NRep.make {P : Nat → Prop} {w : World} {t : Kd} {v1 v3 : Value} {B : Nat} (h0 : I64 t.sort) (h1 : StrsAt P w v1 t.names) (h2 : P B) (h3 : NMap w B t.names) (h4 : NKids P w v3 t.kids) : NRep P w t ⟨.int .i64 t.sort, v1, .map (some B), v3⟩ := by
  obtain ⟨s, ns, ks⟩ := t
  rw [NRep]
  exact ⟨rfl, h0, h1, ⟨B, rfl, h2, h3⟩, h4⟩
theorem NKids.carry {P Q : Nat → Prop} {w w' : World} {v : Value} {ks : List Kd} (h : NKids P w v ks) (hP : ∀ b, P b → w'.heap[b]? = w.heap[b]?) (hQ : ∀ b, P b → Q b) : NKids Q w' v ks := by
  obtain ⟨a, cap, h1, h2, h3⟩ := h
  refine ⟨a, cap, h1, h2, fun hk => ?_⟩
  obtain ⟨b, o, e, p, hr⟩ := h3 hk
  exact ⟨b, o, e, hQ b p, NRepK.carry hP hQ b o (hP b p) ks hr⟩
end Go.Proofs.YthkjhmcbmakkdaaDoor
