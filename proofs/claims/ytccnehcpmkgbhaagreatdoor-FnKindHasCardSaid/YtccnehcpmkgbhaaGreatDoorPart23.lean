/- A part. -/
import Derived.Test.YtccnehcpmkgbhaaGreatDoorPart18
set_option maxRecDepth 100000
set_option maxHeartbeats 1600000
namespace Go.Proofs.YtccnehcpmkgbhaaGreatDoor
open Go Go.RowKit Go.WideMaps Go.Maps
def nkey (s : ByteArray) : Lit := .string s.data.toList
def nmap (ns : List ByteArray) : Nat → DataW Unit
 | 0 => .map []
 | k + 1 => (nmap ns k).put (nkey (ns.getD k ByteArray.empty)) (.lit (.int .i64 k))
theorem nmap_map (ns : List ByteArray) : ∀ k, IsMap (nmap ns k)
 | 0 => ⟨[], rfl⟩
 | k + 1 => (nmap_map ns k).put _ _
theorem nkey_inj {a b : ByteArray} (h : nkey a = nkey b) : a = b := by
 simp only [nkey, Lit.string.injEq] at h
 exact ByteArray.ext (Array.toList_inj.1 h)
theorem nkey_ok (s : ByteArray) : WideAt.IsKeyLit (nkey s) := trivial
theorem has_nmap (ns : List ByteArray) (x : ByteArray) : ∀ k, k ≤ ns.length → (Maps.has (nmap ns k) (nkey x) = true ↔ x ∈ ns.take k)
 | 0, _ => by simp [nmap, Maps.has]
 | k + 1, h => by
   have hg : ns.getD k ByteArray.empty = ns[k] := by simp [List.getD, show k < ns.length by omega]
   rw [nmap, hg, List.take_succ_eq_append_getElem (by omega), List.mem_append]
   by_cases e : x = ns[k]
   · rw [e, has_put_same (nmap_map ns k) (nkey_ok _)]
     simp
   · rw [has_put_other (fun h => e (nkey_inj h)), has_nmap ns x k (by omega)]
     simp [e]
theorem at_nmap (ns : List ByteArray) (hnd : ns.Nodup) (i : Nat) (hi : i < ns.length) : ∀ k, k ≤ ns.length → i < k → (nmap ns k).atKey (nkey ns[i]) (.lit (.int .i64 0)) = .lit (.int .i64 i)
 | 0, _, h => by omega
 | k + 1, h, hk => by
   have hg : ns.getD k ByteArray.empty = ns[k] := by simp [List.getD, show k < ns.length by omega]
   rw [nmap, hg]
   by_cases e : i = k
   · subst e
     exact atKey_put_same (nmap_map ns i) (nkey_ok _) _ _
   · rw [atKey_put_other (fun hh => e ((List.getElem_inj hnd).1 (nkey_inj hh)))]
     exact at_nmap ns hnd i hi k (by omega) (by omega)
theorem keyLaw : Keyed Tryz.prog 9 := string_keyed Tryz.underlying9
theorem zeroInt (w : World) : (zeroValue 3).run Tryz.prog w = .ok (.int .i64 0) w := by kernel_rfl
theorem runMake (n : Int) (w : World) : (Instr.makeMap 52 (some (.int .i64 n))).run Tryz.prog w = .ok (.map (some w.heap.size)) (w.alloc (.map #[] 0)) := by rfl
def NMap (w : World) (B : Nat) (ns : List ByteArray) : Prop := w.ownsMap Tryz.prog 9 (plainElem (H := Unit) Tryz.prog 3) B ns.length (nmap ns ns.length)
def rowO (c0 c1 : Value) : Nat → Value
 | 0 => c0
 | _ => c1
theorem rowO_alloc (w : World) (c0 c1 : Value) (t : TypeId) : (w.alloc (.cells #[c0, c1] t)).rowIs w.heap.size t 2 (rowO c0 c1) :=
 World.rowIs_alloc w #[c0, c1] t _ (fun i hi => by
  have hi' : i < 2 := hi
  match i, hi' with
  | 0, _ => rfl
  | 1, _ => rfl)
theorem newNameOrder_any (v : Value) (ns : List ByteArray) (w : World) {P : Nat → Prop} (hP : ∀ b, P b → b < w.heap.size) (hv : StrsAt P w v ns) (hn : ns.length ≤ 1048576) :
 Calls Tryz.prog 51 #[v] w fun e w' => ∃ B, e = .returned (.agg #[v, .map (some B)]) ∧ NMap w' B ns ∧ w.heap.size ≤ B ∧ Below w.heap.size w w' := by
 obtain ⟨a, cap, rfl, hlen, hc⟩ := hv
 have HC := hH hc; have HP := hH hP
 clear hc hP
 have hmm := runMake
 go_enter Tryz.func51, Tryz.ntmps51
 go_wp2_with fail
 have hb1 : Below w.heap.size w (w.alloc (.cells #[.slice none 0 0, .map none] 54)) := (Below.refl _ _).alloc (Nat.le_refl _) _
 have hown0 := World.ownsMap_made (w.alloc (.cells #[.slice none 0 0, .map none] 54)) Tryz.prog 9 (plainElem (H := Unit) Tryz.prog 3)
 rw [World.size_alloc] at hown0
 have hr0 := (rowO_alloc w (.slice none 0 0) (.map none) 54).alloc (.map #[] 0)
 have hb2 := hb1.alloc (by simp) (.map #[] 0)
 have hs2 : ((w.alloc (.cells #[.slice none 0 0, .map none] 54)).alloc (.map #[] 0)).heap.size = w.heap.size + 2 := by simp
 generalize ((w.alloc (.cells #[.slice none 0 0, .map none] 54)).alloc (.map #[] 0)) = W0 at *
 have HR0 := hH hr0; have HB2 := hH hb2; have HO0 := hH hown0
 clear hr0 hb2 hown0 hb1 hmm
 go_loopw [11] (fun i wr => ∃ (k : Nat), k ≤ ns.length ∧ i = .int .i64 k ∧ Hid (wr.ownsMap Tryz.prog 9 (plainElem (H := Unit) Tryz.prog 3) (w.heap.size + 1) k (nmap ns k)) ∧ Hid (Below (w.heap.size + 1) W0 wr)) (fun i _ => ns.length - (intOf i).toNat)
 case atStart => exact ⟨0, Nat.zero_le _, rfl, uh HO0, Below.refl _ _⟩
 case round =>
  obtain ⟨k, hk, rfl, HOWN, HB⟩ := hrel
  have hbw := (uh HB2).trans (HB.out.mono (by omega))
  by_cases hlt : k < ns.length
  · obtain ⟨b, o, rfl, hpb, hcell, hsz⟩ := uh HC k hlt
    have e1 : wr.cell? ⟨b, o + k, none⟩ = some (.string ns[k]) := by rw [hbw.cell (uh HP b hpb)]; exact hcell
    have hkey : keyOf Tryz.prog 9 (.string ns[k]) = some (nkey ns[k]) := keyOf_string_mk Tryz.underlying9 (by unfold maxLen; omega)
    have hst : nmap ns (k + 1) = (nmap ns k).put (nkey ns[k]) (.lit (.int .i64 k)) := by
     rw [nmap]; congr 2; simp [List.getD, hlt]
    generalize ns[k] = nm at *
    have HST := hH hst
    clear hcell hpb hst
    go_wp2_with (at_mapUpdate; refine wpList_mapUpdate_own _ rfl _ _ _ 52 rfl 9 3 keyLaw Tryz.underlying52 _ (w.heap.size + 1) k _ rfl (uh HOWN) (by unfold maxLen; omega) _ _ _ rfl rfl hkey _ [] (plainElem_int Tryz.underlying3 (WalkArith.wf_i64 (by omega))) ?_; intro w1 hown1 hgrow1)
    have hb4 := HB.out.grown hgrow1 (by have := HB.out.size; omega) (fun j hj => by cases hj; exact Nat.le_refl _)
    rw [← uh HST] at hown1
    have HO1 := hH hown1; have HB4 := hH hb4
    clear hown1 hb4 hgrow1
    go_wp2_with fail
    go_roundw
    case rel => exact ⟨k + 1, by omega, by go_num, uh HO1, uh HB4⟩
    case measure => simp [intOf]; omega
  · obtain rfl : k = ns.length := by omega
    have q0 := (uh HR0).of_block (HB.out.block w.heap.size (by omega))
    have z := q0.frozen
    obtain ⟨y0, y1⟩ := cs2 q0 (by omega)
    simp only [rowO] at y0 y1
    have HBW := hH hbw
    clear q0 hbw
    go_wp2_with fail
    have hset : wr.grownBy ((wr.setCell ⟨w.heap.size, 0, none⟩ (.slice a ns.length cap)).setCell ⟨w.heap.size, 1, none⟩ (.map (some (w.heap.size + 1)))) (some w.heap.size) :=
     ⟨rfl, rfl, rfl, by simp [World.setCell], fun x _ hx => by rw [Below.heap_setCell _ _ _ _ (fun e => hx (by rw [e])), Below.heap_setCell _ _ _ _ (fun e => hx (by rw [e]))]⟩
    refine bodyPost_ret (v := .agg #[.slice a ns.length cap, .map (some (w.heap.size + 1))]) (by simp [results, Tryz.results51, go_sem, y0, y1]) rfl ⟨w.heap.size + 1, rfl, ?_, by omega, ?_⟩
    · exact HOWN.out.kept hset (by simp)
    · exact ((uh HBW).setCell (Nat.le_refl _) _).setCell (Nat.le_refl _) _
def justB (ns names : List ByteArray) : Bool := names.all (fun x => Maps.has (nmap ns ns.length) (nkey x)) && decide (names.length = ns.length)
theorem all_take {f : ByteArray → Bool} {l : List ByteArray} {k : Nat} (h : k < l.length) : (l.take (k + 1)).all f = ((l.take k).all f && f l[k]) := by
 rw [List.take_succ_eq_append_getElem h, List.all_append]; simp
theorem all_false {f : ByteArray → Bool} {l : List ByteArray} {k : Nat} (h : k < l.length) (hf : f l[k] = false) : l.all f = false := by
 rw [List.all_eq_false]; exact ⟨l[k], List.getElem_mem h, by simp [hf]⟩
theorem hasJust_any (a : Option Addr) (cap B : Nat) (ns : List ByteArray) (v2 : Value) (names : List ByteArray) (w : World) {P : Nat → Prop} (hP : ∀ b, P b → b < w.heap.size) (hv : StrsAt P w v2 names) (hm : NMap w B ns) :
 Calls Tryz.prog 52 #[.agg #[.slice a ns.length cap, .map (some B)], v2] w fun e w' => e = .returned (.bool (justB ns names)) ∧ Below w.heap.size w w' := by
 obtain ⟨a2, cap2, rfl, hlen, hc⟩ := hv
 have hB := hm.lt
 have HC := hH hc; have HP := hH hP; have HM := hH hm
 clear hc hP hm
 go_enter Tryz.func52, Tryz.ntmps52
 go_wp2_with fail
 have hr0 := rowO_alloc w (.slice a ns.length cap) (.map (some B)) 54
 have hb0 : Below w.heap.size w (w.alloc (.cells #[.slice a ns.length cap, .map (some B)] 54)) := (Below.refl _ _).alloc (Nat.le_refl _) _
 have hs0 : (w.alloc (.cells #[.slice a ns.length cap, .map (some B)] 54)).heap.size = w.heap.size + 1 := by simp
 have hm0 : NMap (w.alloc (.cells #[.slice a ns.length cap, .map (some B)] 54)) B ns := (uh HM).alloc _
 generalize (w.alloc (.cells #[.slice a ns.length cap, .map (some B)] 54)) = W0 at *
 have HR0 := hH hr0; have HB0 := hH hb0; have HM0 := hH hm0
 clear hr0 hb0 hm0
 go_loopw [11] (fun i wr => ∃ (k : Nat), k ≤ names.length ∧ i = .int .i64 k ∧ Hid ((names.take k).all (fun x => Maps.has (nmap ns ns.length) (nkey x)) = true) ∧ Hid (Below W0.heap.size W0 wr)) (fun i _ => names.length - (intOf i).toNat)
 case atStart => exact ⟨0, Nat.zero_le _, rfl, by simp [Hid], Below.refl _ _⟩
 case round =>
  obtain ⟨k, hk, rfl, HA, HB⟩ := hrel
  have hbw := (uh HB0).trans (HB.out.mono (by omega))
  have q0 := (uh HR0).of_block (HB.out.block w.heap.size (by omega))
  obtain ⟨y0, y1⟩ := cs2 q0 (by omega)
  simp only [rowO] at y0 y1
  have hmw : NMap wr B ns := (uh HM0).kept (row := none) ⟨HB.out.os, HB.out.tape, HB.out.output, HB.out.size, fun x hx _ => HB.out.block x hx⟩ (by simp)
  have HMW := hH hmw; have HBW := hH hbw
  by_cases hlt : k < names.length
  · obtain ⟨b, o, rfl, hpb, hcell, hsz⟩ := uh HC k hlt
    have e1 : wr.cell? ⟨b, o + k, none⟩ = some (.string names[k]) := by rw [hbw.cell (uh HP b hpb)]; exact hcell
    have hkey : keyOf Tryz.prog 9 (.string names[k]) = some (nkey names[k]) := keyOf_string_mk Tryz.underlying9 (by unfold maxLen; omega)
    have hat := all_take (f := fun x => Maps.has (nmap ns ns.length) (nkey x)) hlt
    have haf := all_false (f := fun x => Maps.has (nmap ns ns.length) (nkey x)) hlt
    rw [uh HA, Bool.true_and] at hat
    cases hv : Maps.has (nmap ns ns.length) (nkey names[k])
    · have hj : justB ns names = false := by rw [justB, haf hv]; rfl
      have HJ := hH hj
      generalize names[k] = nm at *
      clear hcell hpb hbw q0 hat haf hj hmw
      go_wp2_with (at_lookup; refine wpList_lookup_own_ok_int _ rfl _ _ 52 rfl 9 3 .i64 keyLaw Tryz.underlying52 Tryz.underlying3 (zeroInt _) B ns.length _ rfl (uh HMW) _ _ rfl hkey ?_; intro c hat hwc)
      go_ret
      exact ⟨by rw [uh HJ]; rfl, uh HBW⟩
    · have ha2 : (names.take (k + 1)).all (fun x => Maps.has (nmap ns ns.length) (nkey x)) = true := by rw [hat]; exact hv
      have HA2 := hH ha2
      generalize names[k] = nm at *
      clear hcell hpb hbw q0 hat haf ha2 hmw
      go_wp2_with (at_lookup; refine wpList_lookup_own_ok_int _ rfl _ _ 52 rfl 9 3 .i64 keyLaw Tryz.underlying52 Tryz.underlying3 (zeroInt _) B ns.length _ rfl (uh HMW) _ _ rfl hkey ?_; intro c hat hwc)
      go_roundw
      case rel => exact ⟨k + 1, by omega, by go_num, uh HA2, HB.out⟩
      case measure => simp [intOf]; omega
  · obtain rfl : k = names.length := by omega
    have hj : justB ns names = decide (names.length = ns.length) := by
     have := uh HA
     rw [List.take_length] at this
     rw [justB, this, Bool.true_and]
    have HJ := hH hj
    clear q0 hbw hmw hj
    go_wp2_with fail
    go_ret
    refine ⟨?_, uh HBW⟩
    have e : ((names.length : Int) == (ns.length : Int)) = decide (names.length = ns.length) := by
     rw [Bool.eq_iff_iff]; simp only [beq_iff_eq, decide_eq_true_eq]; constructor <;> intro h <;> omega
    rw [uh HJ, ← e]
    rfl
end Go.Proofs.YtccnehcpmkgbhaaGreatDoor

namespace Go.Proofs.YtccnehcpmkgbhaaGreatDoor
open Go Go.RowKit Go.Maps
theorem NMap.carry {w w' : World} {B : Nat} {ns : List ByteArray} (h : NMap w B ns) (e : w'.heap[B]? = w.heap[B]?) : NMap w' B ns := by
 obtain ⟨es, clock, hb, r⟩ := h
 exact ⟨es, clock, e.trans hb, r⟩
structure C4 where
 (c0 c1 c2 c3 : Value)
def c4l (c : C4) : List Value := [c.c0, c.c1, c.c2, c.c3]
def C4.at (w : World) (b o : Nat) (c : C4) : Prop :=
 w.cell? ⟨b, o, none⟩ = some c.c0 ∧ w.cell? ⟨b, o + 1, none⟩ = some c.c1 ∧ w.cell? ⟨b, o + 2, none⟩ = some c.c2 ∧ w.cell? ⟨b, o + 3, none⟩ = some c.c3
theorem C4.at.carry {w w' : World} {b o : Nat} {c : C4} (h : C4.at w b o c) (hb : w'.heap[b]? = w.heap[b]?) : C4.at w' b o c := by
 have e : ∀ o', w'.cell? ⟨b, o', none⟩ = w.cell? ⟨b, o', none⟩ := fun o' => World.cell?_of_block (w := w) hb
 obtain ⟨h0, h1, h2, h3⟩ := h
 exact ⟨by rw [e]; exact h0, by rw [e]; exact h1, by rw [e]; exact h2, by rw [e]; exact h3⟩
mutual
def NRep (P : Nat → Prop) (w : World) : Kd → C4 → Prop
 | .mk s ns ks, c => c.c0 = .int .i64 s ∧ I64 s ∧ StrsAt P w c.c1 ns ∧ (∃ B, c.c2 = .map (some B) ∧ P B ∧ NMap w B ns) ∧
   ∃ a cap, c.c3 = .slice a ks.length cap ∧ ks.length ≤ 9223372036854775807 ∧ (ks ≠ [] → ∃ b o, a = some ⟨b, o, none⟩ ∧ P b ∧ NRepK P w b o ks)
def NRepK (P : Nat → Prop) (w : World) (b : Nat) (o : Nat) : List Kd → Prop
 | [] => True
 | t :: r => (∃ c, C4.at w b o c ∧ NRep P w t c) ∧ NRepK P w b (o + 4) r
end
theorem NRepK.get {P : Nat → Prop} {w : World} {b o : Nat} {ks : List Kd} (h : NRepK P w b o ks) (i : Nat) (hi : i < ks.length) :
 ∃ c, C4.at w b (o + i * 4) c ∧ NRep P w ks[i] c := by
 induction ks generalizing o i with
 | nil => simp at hi
 | cons t r ih =>
   rw [NRepK] at h
   cases i with
   | zero => exact h.1
   | succ i =>
     obtain ⟨c, h1, h2⟩ := ih h.2 i (by simpa using hi)
     exact ⟨c, by rw [show o + (i + 1) * 4 = o + 4 + i * 4 from by omega]; exact h1, h2⟩
mutual
theorem NRep.carry {P Q : Nat → Prop} {w w' : World} (hP : ∀ b, P b → w'.heap[b]? = w.heap[b]?) (hQ : ∀ b, P b → Q b) : ∀ (t : Kd) (c : C4), NRep P w t c → NRep Q w' t c
 | .mk s ns ks, c => by
   intro h
   rw [NRep] at h ⊢
   obtain ⟨h0, h3, h6, ⟨B, hB1, hB2, hB3⟩, a, cap, h7, h8, h9⟩ := h
   refine ⟨h0, h3, h6.carry hP hQ, ⟨B, hB1, hQ B hB2, hB3.carry (hP B hB2)⟩, a, cap, h7, h8, fun hk => ?_⟩
   obtain ⟨b, o, e, p, hr⟩ := h9 hk
   exact ⟨b, o, e, hQ b p, NRepK.carry hP hQ b o (hP b p) ks hr⟩
theorem NRepK.carry {P Q : Nat → Prop} {w w' : World} (hP : ∀ b, P b → w'.heap[b]? = w.heap[b]?) (hQ : ∀ b, P b → Q b) (b : Nat) (o : Nat) (hb : w'.heap[b]? = w.heap[b]?) : ∀ (ks : List Kd), NRepK P w b o ks → NRepK Q w' b o ks
 | [] => by intro _; rw [NRepK]; trivial
 | t :: r => by
   intro h
   rw [NRepK] at h ⊢
   obtain ⟨⟨c, h1, h2⟩, h3⟩ := h
   exact ⟨⟨c, h1.carry hb, NRep.carry hP hQ t c h2⟩, NRepK.carry hP hQ b (o + 4) hb r h3⟩
end
theorem NRep.open {P : Nat → Prop} {w : World} {t : Kd} {c : C4} (h : NRep P w t c) :
 c.c0 = .int .i64 t.sort ∧ I64 t.sort ∧ StrsAt P w c.c1 t.names ∧ (∃ B, c.c2 = .map (some B) ∧ P B ∧ NMap w B t.names) ∧
 ∃ a cap, c.c3 = .slice a t.kids.length cap ∧ t.kids.length ≤ 9223372036854775807 ∧
   ∀ i, (hi : i < t.kids.length) → ∃ b o c, a = some ⟨b, o, none⟩ ∧ P b ∧ C4.at w b (o + i * 4) c ∧ NRep P w t.kids[i] c := by
 obtain ⟨s, ns, ks⟩ := t
 rw [NRep] at h
 obtain ⟨h0, h3, h6, hB, a, cap, h7, h8, h9⟩ := h
 refine ⟨h0, h3, h6, hB, a, cap, h7, h8, fun i hi => ?_⟩
 obtain ⟨b, o, e, p, hr⟩ := h9 (fun hh => by subst hh; simp [Kd.kids] at hi)
 obtain ⟨c', h1', h2'⟩ := hr.get i hi
 exact ⟨b, o, c', e, p, h1', h2'⟩
def NRepL (P : Nat → Prop) (w : World) : List Kd → List Value → Prop
 | [], xs => xs = []
 | t :: r, xs => ∃ c xs', xs = c4l c ++ xs' ∧ NRep P w t c ∧ NRepL P w r xs'
theorem NRepL.snoc {P : Nat → Prop} {w : World} {ks : List Kd} {xs : List Value} {t : Kd} {c : C4} (h : NRepL P w ks xs) (ht : NRep P w t c) : NRepL P w (ks ++ [t]) (xs ++ c4l c) := by
 induction ks generalizing xs with
 | nil =>
   have h' : xs = [] := h
   subst h'
   exact ⟨c, [], by simp, ht, rfl⟩
 | cons a r ih =>
   obtain ⟨d, xs', rfl, h1, h2⟩ := h
   exact ⟨d, xs' ++ c4l c, by simp, h1, ih h2⟩
theorem NRepL.carry {P Q : Nat → Prop} {w w' : World} {ks : List Kd} {xs : List Value} (h : NRepL P w ks xs) (hP : ∀ b, P b → w'.heap[b]? = w.heap[b]?) (hQ : ∀ b, P b → Q b) : NRepL Q w' ks xs := by
 induction ks generalizing xs with
 | nil => exact h
 | cons a r ih =>
   obtain ⟨d, xs', rfl, h1, h2⟩ := h
   exact ⟨d, xs', rfl, NRep.carry hP hQ a d h1, ih h2⟩
theorem NRepL.repK {P : Nat → Prop} {w : World} {g : Nat} {ks : List Kd} {xs : List Value} {o : Nat} (h : NRepL P w ks xs) (hc : ∀ j u, xs[j]? = some u → w.cell? ⟨g, o + j, none⟩ = some u) : NRepK P w g o ks := by
 induction ks generalizing xs o with
 | nil => rw [NRepK]; trivial
 | cons a r ih =>
   obtain ⟨d, xs', rfl, h1, h2⟩ := h
   rw [NRepK]
   refine ⟨⟨d, ⟨hc 0 _ rfl, hc 1 _ rfl, hc 2 _ rfl, hc 3 _ rfl⟩, h1⟩, ih h2 (fun j u hj => ?_)⟩
   have := hc (4 + j) u (by
    rw [List.getElem?_append_right (by simp [c4l]), show 4 + j - (c4l d).length = j from by simp [c4l]]; exact hj)
   rw [show o + 4 + j = o + (4 + j) from by omega]; exact this
def NKids (P : Nat → Prop) (w : World) (v : Value) (ks : List Kd) : Prop := ∃ a cap, v = .slice a ks.length cap ∧ ks.length ≤ 9223372036854775807 ∧ (ks ≠ [] → ∃ b o, a = some ⟨b, o, none⟩ ∧ P b ∧ NRepK P w b o ks)
theorem NKids.of_row {P : Nat → Prop} {base : Nat} {w : World} {v : Value} {ks : List Kd} {xs : List Value} (h : w.ownsRow base 57 4 v ks.length xs) (hl : NRepL P w ks xs) (hP : ∀ g, base ≤ g → g < w.heap.size → P g) : NKids P w v ks := by
 rcases h.2 with ⟨hv, hn0⟩ | ⟨g, cap, cur, hv, hgb, hh, hle, hm2, hsz, htk⟩
 · have hks : ks = [] := List.eq_nil_of_length_eq_zero hn0
   subst hks
   exact ⟨none, 0, hv, by simp, fun h => absurd rfl h⟩
 · refine ⟨some ⟨g, 0, none⟩, cap, hv, by unfold maxLen at hm2; omega, fun _ => ⟨g, 0, rfl, hP g hgb (Array.getElem?_eq_some_iff.1 hh).1, hl.repK (fun j u hj => ?_)⟩⟩
   have hj' : cur.toList[j]? = some u := by
    rw [← htk] at hj
    rw [List.getElem?_take] at hj
    split at hj
    · exact hj
    · cases hj
   simp only [Nat.zero_add, World.cell?, hh]
   simpa using hj'
theorem NRep.make {P : Nat → Prop} {w : World} {t : Kd} {v1 v3 : Value} {B : Nat} (h0 : I64 t.sort) (h1 : StrsAt P w v1 t.names) (h2 : P B) (h3 : NMap w B t.names) (h4 : NKids P w v3 t.kids) : NRep P w t ⟨.int .i64 t.sort, v1, .map (some B), v3⟩ := by
 obtain ⟨s, ns, ks⟩ := t
 rw [NRep]
 exact ⟨rfl, h0, h1, ⟨B, rfl, h2, h3⟩, h4⟩
theorem NKids.carry {P Q : Nat → Prop} {w w' : World} {v : Value} {ks : List Kd} (h : NKids P w v ks) (hP : ∀ b, P b → w'.heap[b]? = w.heap[b]?) (hQ : ∀ b, P b → Q b) : NKids Q w' v ks := by
 obtain ⟨a, cap, h1, h2, h3⟩ := h
 refine ⟨a, cap, h1, h2, fun hk => ?_⟩
 obtain ⟨b, o, e, p, hr⟩ := h3 hk
 exact ⟨b, o, e, hQ b p, NRepK.carry hP hQ b o (hP b p) ks hr⟩
end Go.Proofs.YtccnehcpmkgbhaaGreatDoor

namespace Go.Proofs.YtccnehcpmkgbhaaGreatDoor
open Go Go.RowKit Go.Maps
def row4 (c0 c1 c2 c3 : Value) : Nat → Value
 | 0 => c0
 | 1 => c1
 | 2 => c2
 | _ => c3
theorem row4_alloc (w : World) (c0 c1 c2 c3 : Value) (t : TypeId) : (w.alloc (.cells #[c0, c1, c2, c3] t)).rowIs w.heap.size t 4 (row4 c0 c1 c2 c3) :=
 World.rowIs_alloc w #[c0, c1, c2, c3] t _ (fun i hi => by
  have hi' : i < 4 := hi
  match i, hi' with
  | 0, _ => rfl
  | 1, _ => rfl
  | 2, _ => rfl
  | 3, _ => rfl)
theorem heap_set4n (w : World) (b : Nat) (c0 c1 c2 c3 : Value) (k : Nat) (h : k ≠ b) :
 ((((w.setCell ⟨b, 0, none⟩ c0).setCell ⟨b, 1, none⟩ c1).setCell ⟨b, 2, none⟩ c2).setCell ⟨b, 3, none⟩ c3).heap[k]? = w.heap[k]? := by
 rw [Below.heap_setCell _ _ _ _ h, Below.heap_setCell _ _ _ _ h, Below.heap_setCell _ _ _ _ h, Below.heap_setCell _ _ _ _ h]
theorem size_set4 (w : World) (b : Nat) (c0 c1 c2 c3 : Value) :
 ((((w.setCell ⟨b, 0, none⟩ c0).setCell ⟨b, 1, none⟩ c1).setCell ⟨b, 2, none⟩ c2).setCell ⟨b, 3, none⟩ c3).heap.size = w.heap.size := by simp [World.setCell]
theorem below_set4 {B : Nat} {a w : World} (h : Below B a w) (b : Nat) (c0 c1 c2 c3 : Value) (hb : B ≤ b) :
 Below B a ((((w.setCell ⟨b, 0, none⟩ c0).setCell ⟨b, 1, none⟩ c1).setCell ⟨b, 2, none⟩ c2).setCell ⟨b, 3, none⟩ c3) :=
 (((h.setCell hb _).setCell hb _).setCell hb _).setCell hb _
def OrNew (P : Nat → Prop) (n : Nat) (w' : World) : Nat → Prop := fun b => P b ∨ (n ≤ b ∧ b < w'.heap.size)
theorem nameKind_any (t : Kd) (P : Nat → Prop) (c : C3) (vK : Value) (w : World) (hP : ∀ b, P b → b < w.heap.size) (hrep : KRep P w t c) (hK : NKids P w vK t.kids) (hn : t.names.length ≤ 1048576) :
 Calls Tryz.prog 25 #[.agg #[c.c0, c.c1, c.c2], vK] w fun e w' => ∃ B, e = .returned (.agg #[c.c0, c.c1, .map (some B), vK]) ∧ NRep (OrNew P w.heap.size w') w' t ⟨c.c0, c.c1, .map (some B), vK⟩ ∧ Below w.heap.size w w' := by
 obtain ⟨c0, c1, c2⟩ := c
 obtain ⟨e0, hi0, hns, a, cap, e2, -, -⟩ := hrep.open
 simp only at e0 e2 hns
 have HNS := hH hns; have HK := hH hK
 obtain ⟨a3, cap3, e1, -, -⟩ := hns
 obtain ⟨a4, cap4, e4, -, -⟩ := hK
 subst e0 e1 e2 e4
 obtain ⟨W0, hW0⟩ : ∃ W0, ((w.alloc (.cells #[.int .i64 t.sort, .slice a3 t.names.length cap3, .slice a t.kids.length cap] 26)).alloc (.cells #[.int .i64 0, .slice none 0 0, .map none, .slice none 0 0] 57)) = W0 := ⟨_, rfl⟩
 have hb0 : Below w.heap.size w W0 := by rw [← hW0]; exact ((Below.refl _ _).alloc (Nat.le_refl _) _).alloc (by simp) _
 have hs0 : W0.heap.size = w.heap.size + 2 := by rw [← hW0]; simp
 have hrk : W0.rowIs w.heap.size 26 3 (row3 (.int .i64 t.sort) (.slice a3 t.names.length cap3) (.slice a t.kids.length cap)) := by rw [← hW0]; exact (row3_alloc w _ _ _ _).alloc _
 have hrn : W0.rowIs (w.heap.size + 1) 57 4 (row4 (.int .i64 0) (.slice none 0 0) (.map none) (.slice none 0 0)) := by
  rw [← hW0]
  have q := row4_alloc (w.alloc (.cells #[.int .i64 t.sort, .slice a3 t.names.length cap3, .slice a t.kids.length cap] 26)) (.int .i64 0) (.slice none 0 0) (.map none) (.slice none 0 0) 57
  rw [World.size_alloc] at q
  exact q
 have hcall := newNameOrder_any (.slice a3 t.names.length cap3) t.names W0.drew (P := P) (fun b hb => Nat.lt_of_lt_of_le (hP b hb) hb0.drew.size) ((uh HNS).carry (w' := W0.drew) (fun b hb => hb0.drew.block b (hP b hb)) (fun _ h => h)) hn
 obtain ⟨k0, k1⟩ := cs2 hrk (by omega)
 simp only [row3] at k0 k1
 have HCALL := hH hcall; have HRK := hH hrk; have HRN := hH hrn; have HB0 := hH hb0; have HP := hH hP; have HI0 := hH hi0
 clear hcall hrk hrn hb0 hP hi0 hrep
 go_enter Tryz.func25, Tryz.ntmps25
 go_wp2_with fail
 go_region_with (go_at_call 51; refine (uh HCALL).mono ?_; rintro e w2 ⟨B, rfl, hm, hBl, hb2⟩; have hs2 : W0.heap.size ≤ w2.heap.size := hb2.size; have q0 := (uh HRK).of_block (hb2.block w.heap.size (by show w.heap.size < W0.heap.size; omega)); have q1 := (uh HRN).of_block (hb2.block (w.heap.size + 1) (by show _ < W0.heap.size; omega)); have k0' := q0.cell (i := 0) (by omega); have k1' := q0.cell (i := 1) (by omega); have z := q1.frozen; obtain ⟨y0, y1, y2, y3⟩ := cs4 q1 (by omega); simp only [row3, row4] at k0' k1' y0 y1 y2 y3; have HM := hH hm; have HB2 := hH ((uh HB0).drew.trans (hb2.mono (uh HB0).size)); clear q0 q1 hm hb2)
 all_goals
  go_wp2_with fail
  have hBl' : w.heap.size + 2 ≤ B := by have h : W0.heap.size ≤ B := hBl; omega
  have hBlt := (uh HM).lt
  have hbk : ∀ b, P b → ((((w2.setCell ⟨w.heap.size + 1, 0, none⟩ (.int .i64 t.sort)).setCell ⟨w.heap.size + 1, 1, none⟩ (.slice a3 t.names.length cap3)).setCell ⟨w.heap.size + 1, 2, none⟩ (.map (some B))).setCell ⟨w.heap.size + 1, 3, none⟩ (.slice a4 t.kids.length cap4)).heap[b]? = w.heap[b]? := fun b hb => by
   have := uh HP b hb
   rw [heap_set4n _ _ _ _ _ _ _ (by omega)]; exact (uh HB2).block b this
  refine bodyPost_ret (v := .agg #[.int .i64 t.sort, .slice a3 t.names.length cap3, .map (some B), .slice a4 t.kids.length cap4]) (by simp [results, Tryz.results25, go_sem, y0, y1, y2, y3]) rfl ⟨B, rfl, ?_, ?_⟩
  · refine NRep.make (uh HI0) ((uh HNS).carry hbk (fun b hb => Or.inl hb)) (Or.inr ⟨by omega, by rw [size_set4]; exact hBlt⟩) ((uh HM).carry (heap_set4n _ _ _ _ _ _ _ (by omega))) ((uh HK).carry hbk (fun b hb => Or.inl hb))
  · exact below_set4 (uh HB2) _ _ _ _ _ (by omega)
end Go.Proofs.YtccnehcpmkgbhaaGreatDoor

namespace Go.Proofs.YtccnehcpmkgbhaaGreatDoor
open Go Go.RowKit Go.Maps
def RP (P : Nat → Prop) (base : Nat) (w : World) (v : Value) : Nat → Prop := fun b => P b ∨ (base ≤ b ∧ b < w.heap.size ∧ v.ownBlock ≠ some b)
structure GotN (P : Nat → Prop) (base : Nat) (w : World) (v : Value) (ks : List Kd) (xs : List Value) : Prop where
 row : w.ownsRow base 57 4 v ks.length xs
 reps : NRepL (RP P base w v) w ks xs
theorem GotN.start (P : Nat → Prop) (base : Nat) (w : World) : GotN P base w (.slice none 0 0) [] [] := ⟨World.ownsRow_nil _ _ _ _, rfl⟩
theorem GotN.kept {P : Nat → Prop} {base : Nat} {w w' : World} {v : Value} {ks : List Kd} {xs : List Value} (h : GotN P base w v ks xs) (hP : ∀ b, P b → b < w.heap.size) (hg : w.grownBy w' none) : GotN P base w' v ks xs :=
 ⟨h.row.kept hg (by
  rcases e : v.ownBlock with _ | g
  · exact Or.inl rfl
  · exact Or.inr (by simp)),
  h.reps.carry (fun b hb => hg.block b (hb.elim (hP b) (fun h => h.2.1)) (by simp)) (fun b hb => hb.imp id (fun h => ⟨h.1, Nat.lt_of_lt_of_le h.2.1 hg.size, h.2.2⟩))⟩
theorem GotN.push {P : Nat → Prop} {base m : Nat} {w w' : World} {v v' : Value} {ks : List Kd} {xs : List Value} {t : Kd} {c : C4} (h : GotN P base w v ks xs) (hP : ∀ b, P b → b < base) (ht : NRep (OrNew P m w) w t c) (hbm : base ≤ m) (hmw : m ≤ w.heap.size) (hvm : ∀ b, v.ownBlock = some b → b < m)
 (hown : w'.ownsRow base 57 4 v' (ks.length + 1) (xs ++ c4l c)) (hg : w.grownBy w' v.ownBlock) (hv : v'.ownBlock = v.ownBlock ∨ ∃ g, v'.ownBlock = some g ∧ w.heap.size ≤ g) :
 GotN P base w' v' (ks ++ [t]) (xs ++ c4l c) := by
 have hkid : NRep (RP P base w v) w t c := NRep.carry (fun _ _ => rfl) (fun b hb => hb.imp id (fun h => ⟨by omega, h.2, fun e => by have := hvm b e; omega⟩)) t c ht
 refine ⟨by simpa using hown, (h.reps.snoc hkid).carry (fun b hb => hg.block b ?_ ?_) (fun b hb => ?_)⟩
 · rcases hb with hb | hb
   · have := hP b hb; omega
   · exact hb.2.1
 · rcases hb with hb | hb
   · intro e; have := hP b hb; have := (h.row.lt b e.symm).1; omega
   · exact fun e => hb.2.2 e.symm
 · refine hb.imp id (fun hb => ⟨hb.1, Nat.lt_of_lt_of_le hb.2.1 hg.size, ?_⟩)
   rcases hv with e | ⟨g, e, hge⟩
   · rw [e]; exact hb.2.2
   · rw [e]; intro e2; simp only [Option.some.injEq] at e2; have := hb.2.1; omega
theorem infoNamed : (Tryz.prog.info? 57).map (fun i => (i.zero, i.size, i.bytes)) = some (some (.agg #[.int .i64 0, .slice none 0 0, .map none, .slice none 0 0]), 4, 64) := by kernel_rfl
theorem kidsN_any (c0 c1 : Value) (a : Option Addr) (len cap : Nat) (w : World) :
 Calls Tryz.prog 145 #[.agg #[c0, c1, .slice a len cap]] w fun e w' => e = .returned (.slice a len cap) ∧ w' = w.alloc (.cells #[c0, c1, .slice a len cap] 26) :=
 (callsIn_wide (n := 1)).1 (kids_in Fence.wide _ trivial rfl c0 c1 a len cap w)
theorem klszLenN (l : List Kd) : l.length ≤ klsz l := by
 induction l with
 | nil => simp
 | cons a r ih =>
   rw [klsz, List.length_cons]
   have : 1 ≤ ksz a := by obtain ⟨s, ns, ks⟩ := a; rw [ksz]; omega
   omega
theorem cell_four (w : World) (c : C4) (t : TypeId) : ∀ j u, (c4l c)[j]? = some u → (w.alloc (.cells #[c.c0, c.c1, c.c2, c.c3] t)).cell? ((⟨w.heap.size, 0, none⟩ : Addr).add j) = some u := by
 intro j u hj
 have hrow := row4_alloc w c.c0 c.c1 c.c2 c.c3 t
 rw [Addr.add_lit, Nat.zero_add]
 match j with
 | 0 => rw [hrow.cell (by omega)]; exact hj
 | 1 => rw [hrow.cell (by omega)]; exact hj
 | 2 => rw [hrow.cell (by omega)]; exact hj
 | 3 => rw [hrow.cell (by omega)]; exact hj
 | j + 4 => simp [c4l] at hj
theorem NRep.one {P : Nat → Prop} {w : World} {t : Kd} {c : C4} (h : NRep P w t c) : ∀ u ∈ c4l c, u.oneCell' = true := by
 obtain ⟨h0, -, ⟨a, cap, h1, -⟩, ⟨B, h2, -⟩, a2, cap2, h3, -⟩ := h.open
 intro u hu
 simp only [c4l, h0, h1, h2, h3, List.mem_cons, List.not_mem_nil, or_false] at hu
 rcases hu with rfl | rfl | rfl | rfl <;> rfl
def GNSaid (n : Nat) : Prop := ∀ (t : Kd), ksz t < n → ∀ (P : Nat → Prop) (c : C3) (w : World), (∀ b, P b → b < w.heap.size) → KRep P w t c → ksz t ≤ 1000000 → wKd t ≤ 1048576 →
    Calls Tryz.prog 24 #[.agg #[c.c0, c.c1, c.c2], .func (.func 25) #[] #[]] w fun e w' => ∃ d : C4, e = .returned (.agg #[d.c0, d.c1, d.c2, d.c3]) ∧ NRep (OrNew P w.heap.size w') w' t d ∧ Below w.heap.size w w'
theorem gatherN_step (n : Nat) (IH : GNSaid n) : GNSaid (n + 1) := by
 intro t hn P c w hP hrep hsz hwt
 have hks1 : t.kids.length ≤ 1000000 := by
  have := klszLenN t.kids
  have e : ksz t = 1 + klsz t.kids := by obtain ⟨s, ns, ks⟩ := t; rw [ksz]; rfl
  omega
 have hwe : wKd t = wS t.names + wKs t.kids := by obtain ⟨s, ns, ks⟩ := t; rfl
 have hnl : t.names.length ≤ 1048576 := by have := wS_len t.names; omega
 obtain ⟨c0, c1, c2⟩ := c
 obtain ⟨e0, -, hns, a, cap, e2, -, hks⟩ := hrep.open
 simp only at e0 e2 hns
 obtain ⟨a3, cap3, e1, -, -⟩ := hns
 subst e0 e1 e2
 obtain ⟨i0, hi, hz0, hz1, hz2⟩ := info_parts infoNamed
 have hm : ∀ w, (method 310 26 (.agg #[.int .i64 t.sort, .slice a3 t.names.length cap3, .slice a t.kids.length cap]) "loop.example/teagle/impl.kids").run Tryz.prog w = .ok (145, .agg #[.int .i64 t.sort, .slice a3 t.names.length cap3, .slice a t.kids.length cap]) w := fun _ => by kernel_rfl
 have hft := fun (vK : Value) (W : World) (hW : Below w.heap.size w W) (hK : NKids (OrNew P (w.heap.size + 2) W) W vK t.kids) =>
  nameKind_any t (OrNew P (w.heap.size + 2) W) ⟨.int .i64 t.sort, .slice a3 t.names.length cap3, .slice a t.kids.length cap⟩ vK W (fun b hb => hb.elim (fun h => Nat.lt_of_lt_of_le (hP b h) hW.size) (fun h => h.2)) (KRep.carry (fun b hb => hW.block b (hP b hb)) (fun b hb => Or.inl hb) _ _ hrep) hK hnl
 have HFT := hH hft; have HP := hH hP; have HI := hH IH; have HK := hH hks
 have HII := hH hi; have HZ0 := hH hz0; have HZ1 := hH hz1; have HZ2 := hH hz2
 have hkw : ∀ i (hi : i < t.kids.length), wKd t.kids[i] ≤ 1048576 := fun i hi => by have := wKs_mem (List.getElem_mem hi); omega
 have HKW := hH hkw
 clear hft hP IH hks hi hz0 hz1 hz2 hrep hwt hwe hkw
 go_enter Tryz.func24, Tryz.ntmps24
 go_wp2_with (go_at_call 145; refine (kidsN_any _ _ _ _ _ _).mono ?_; rintro e w' ⟨rfl, rfl⟩)
 clear hm
 obtain ⟨W0, hW0⟩ : ∃ W0, (((w.alloc (.cells #[.int .i64 t.sort, .slice a3 t.names.length cap3, .slice a t.kids.length cap] 26)).alloc (.cells #[.int .i64 0, .slice none 0 0, .map none, .slice none 0 0] 57)).alloc (.cells #[.int .i64 t.sort, .slice a3 t.names.length cap3, .slice a t.kids.length cap] 26)) = W0 := ⟨_, rfl⟩
 have hs0 : W0.heap.size = w.heap.size + 3 := by rw [← hW0]; simp
 have hbl : Below w.heap.size w W0 := by rw [← hW0]; exact (((Below.refl _ _).alloc (Nat.le_refl _) _).alloc (by simp) _).alloc (by simp; omega) _
 have hr0 : W0.rowIs w.heap.size 26 3 (row3 (.int .i64 t.sort) (.slice a3 t.names.length cap3) (.slice a t.kids.length cap)) := by rw [← hW0]; exact ((row3_alloc w _ _ _ _).alloc _).alloc _
 have hr1 : W0.rowIs (w.heap.size + 1) 57 4 (row4 (.int .i64 0) (.slice none 0 0) (.map none) (.slice none 0 0)) := by
  rw [← hW0]
  have q := row4_alloc (w.alloc (.cells #[.int .i64 t.sort, .slice a3 t.names.length cap3, .slice a t.kids.length cap] 26)) (.int .i64 0) (.slice none 0 0) (.map none) (.slice none 0 0) 57
  rw [World.size_alloc] at q
  exact q.alloc _
 rw [hW0]
 have HBL := hH hbl; have HR0 := hH hr0; have HR1 := hH hr1
 clear hW0 hbl hr0 hr1
 generalize hkk : t.kids = ks at *
 have HKS := hH hkk; clear hkk
 go_loopw [5, 12] (fun s i wr => ∃ (k : Nat) (a' : Option Addr) (cap' : Nat) (xs : List Value), k ≤ ks.length ∧ i = .int .i64 k ∧ s = .slice a' k cap' ∧ Hid (GotN P (w.heap.size + 2) wr (.slice a' k cap') (ks.take k) xs) ∧ Hid (Below (w.heap.size + 2) W0 wr)) (fun _ i _ => ks.length - (intOf i).toNat)
 case atStart => exact ⟨0, none, 0, [], Nat.zero_le _, rfl, rfl, GotN.start _ _ _, Below.refl _ _⟩
 case round =>
  obtain ⟨k, a', cap', xs, hk, rfl, rfl, HG, HB⟩ := hrel
  have hsw := HB.out.size
  have hkl : (ks.take k).length = k := by simp; omega
  have HKL := hH hkl; clear hkl
  have hbw : Below w.heap.size w wr := (uh HBL).trans (HB.out.mono (by omega))
  have HBW := hH hbw; clear hbw
  by_cases hlt : k < ks.length
  · obtain ⟨b, o, c, rfl, hpb, hcell, hrp⟩ := uh HK k hlt
    have hcell' := hcell.carry ((uh HBW).block b (uh HP b hpb))
    obtain ⟨d0, d1, d2⟩ := c
    have hrw : KRep P wr ks[k] ⟨d0, d1, d2⟩ := KRep.carry (fun b hb => (uh HBW).block b (uh HP b hb)) (fun _ h => h) _ _ hrp
    obtain ⟨g0, -, ⟨a5, cap5, g1, -⟩, a6, cap6, g2, -⟩ := hrp.open
    simp only at g0 g1 g2
    subst g0 g1 g2
    obtain ⟨f0, f1, f2⟩ := hcell'
    simp only at f0 f1 f2
    have hmem : ks[k] ∈ t.kids := by rw [uh HKS]; exact List.getElem_mem hlt
    have hsm : ksz ks[k] < n := by have := ksz_kid hmem; omega
    have hsm' : ksz ks[k] < ksz t := ksz_kid hmem
    have hba : ∀ ob, Below wr.heap.size wr (wr.alloc ob) := fun ob => (Below.refl _ _).alloc (Nat.le_refl _) ob
    have hcall : ∀ ob, Calls Tryz.prog 24 #[.agg #[.int .i64 ks[k].sort, .slice a5 ks[k].names.length cap5, .slice a6 ks[k].kids.length cap6], .func (.func 25) #[] #[]] (wr.alloc ob) fun e w' => ∃ d : C4, e = .returned (.agg #[d.c0, d.c1, d.c2, d.c3]) ∧ NRep (OrNew P wr.heap.size w') w' ks[k] d ∧ Below wr.heap.size wr w' := fun ob =>
     (uh HI ks[k] hsm P ⟨_, _, _⟩ (wr.alloc ob) (fun b hb => by have := uh HP b hb; simp; omega) (KRep.carry (fun b hb => (hba ob).block b (by have := uh HP b hb; omega)) (fun _ h => h) _ _ hrw) (by omega) (uh HKW k hlt)).mono
       fun e w' ⟨d, h1, h2, h3⟩ => ⟨d, h1, NRep.carry (P := OrNew P (wr.alloc ob).heap.size w') (Q := OrNew P wr.heap.size w') (fun _ _ => rfl) (fun b (hb : P b ∨ ((wr.alloc ob).heap.size ≤ b ∧ b < w'.heap.size)) => hb.elim Or.inl (fun h => Or.inr ⟨by have := h.1; simp at this; omega, h.2⟩)) _ _ h2, (hba ob).trans (h3.mono (hba ob).size)⟩
    have htk : ks.take (k + 1) = ks.take k ++ [ks[k]] := List.take_succ_eq_append_getElem hlt
    generalize ks[k] = tk at *
    have HCALL := hH hcall; have HTK := hH htk
    clear hcall htk hcell hrp hrw hmem hsm hsm' hba hpb
    go_wp2_with fail
    refine (uh HCALL _).mono ?_
    rintro e w2 ⟨⟨d0, d1, d2, d3⟩, rfl, hnr, hb2⟩
    have hs2 := hb2.size
    have hg2 : wr.grownBy w2 none := ⟨hb2.os, hb2.tape, hb2.output, hb2.size, fun i hi _ => hb2.block i hi⟩
    have hgot2 := HG.out.kept (fun b hb => by have := uh HP b hb; omega) hg2
    have hvm : ∀ b, (Value.slice a' k cap').ownBlock = some b → b < wr.heap.size := fun b hb => (HG.out.row.lt b hb).2
    obtain ⟨y0, -, ⟨a7, cap7, y1, -⟩, ⟨B, y2, -⟩, a8, cap8, y3, -⟩ := hnr.open
    have hone := hnr.one
    simp only at y0 y1 y2 y3
    subst y0 y1 y2 y3
    have HNR := hH hnr; have HGOT := hH hgot2; have HVM := hH hvm; have HONE := hH hone; have HB2 := hH (HB.out.trans (hb2.mono (by omega)))
    clear hnr hb2 hg2 hgot2 hvm hone f0 f1 f2 HCALL
    go_wp2_with (at_builtin; refine append_row _ rfl _ _ 55 rfl (w.heap.size + 2) 57 i0 _ 4 64 Tryz.underlying55 (uh HII) (uh HZ0) (uh HZ1) (uh HZ2) rfl (by decide) (.slice a' k cap') k xs rfl (by have := (uh HGOT).row; rw [uh HKL] at this; exact this.alloc _) ⟨w2.heap.size, 0, none⟩ 1 1 (c4l ⟨_, _, _, _⟩) rfl rfl (cell_four _ _ _) (uh HONE) (by decide) (by unfold maxLen; omega) (by omega) (by simp; omega) ?_; intro v' w4 hown4 hgrow4 hv4)
    obtain ⟨g', cap'', hv''⟩ : ∃ g' cap'', v' = .slice (some ⟨g', 0, none⟩) (k + 1) cap'' := by
     rcases hown4.2 with ⟨_, h⟩ | ⟨g', cap'', _, h, _⟩
     · omega
     · exact ⟨g', cap'', h⟩
    have hal := World.grownBy_alloc w2 (.cells #[.int .i64 tk.sort, .slice a7 tk.names.length cap7, .map (some B), .slice a8 tk.kids.length cap8] 57) none
    have hlt4 := (uh HGOT).row.lt
    have hpush := GotN.push (m := wr.heap.size) ((uh HGOT).kept (fun b hb => by have := uh HP b hb; omega) hal) (fun b hb => by have := uh HP b hb; omega) (NRep.carry (fun b hb => hal.block b (hb.elim (fun h => by have := uh HP b h; omega) (fun h => h.2)) (by simp)) (fun b hb => hb.imp id (fun h => ⟨h.1, by have := h.2; simp; omega⟩)) tk _ (uh HNR)) (by omega) (by simp; omega) (uh HVM) (by rw [uh HKL]; exact hown4) hgrow4 hv4
    rw [← uh HTK] at hpush
    have hb4 : Below (w.heap.size + 2) w2 w4 := ((Below.refl _ w2).alloc (by omega) _).trans ((Below.refl _ _).grown hgrow4 (by simp; omega) (fun k e => (hlt4 k e).1))
    subst hv''
    have HPU := hH hpush; have HB4 := hH ((uh HB2).trans hb4)
    clear hown4 hgrow4 hv4 hpush hb4 hlt4 hal
    go_roundw
    case rel => exact ⟨k + 1, some ⟨g', 0, none⟩, cap'', _, by omega, by go_num, rfl, uh HPU, uh HB4⟩
    case measure => simp [intOf]; omega
  · obtain rfl : k = ks.length := by omega
    have hg := HG.out
    rw [List.take_length] at hg
    have hKN : NKids (OrNew P (w.heap.size + 2) wr) wr (.slice a' ks.length cap') ks := NKids.of_row hg.row (hg.reps.carry (fun _ _ => rfl) (fun b hb => hb.imp id (fun h => ⟨h.1, h.2.1⟩))) (fun g h1 h2 => Or.inr ⟨h1, h2⟩)
    have hcall := uh HFT (.slice a' ks.length cap') wr (uh HBW) hKN
    have q0 := (uh HR0).of_block (HB.out.block w.heap.size (by omega))
    have q1 := (uh HR1).of_block (HB.out.block (w.heap.size + 1) (by omega))
    obtain ⟨k0, k1, k2⟩ := cs3 q0 (by omega)
    simp only [row3] at k0 k1 k2
    have HCALL := hH hcall; have Q1 := hH q1
    clear hcall hKN hg q0 q1
    go_wp2_with fail
    refine (uh HCALL).mono ?_
    rintro e w2 ⟨B, rfl, hnr, hb2⟩
    have hs2 := hb2.size
    have q2 := (uh Q1).of_block (hb2.block (w.heap.size + 1) (by omega))
    have z := q2.frozen
    obtain ⟨y0, y1, y2, y3⟩ := cs4 q2 (by omega)
    simp only [row4] at y0 y1 y2 y3
    have HNR := hH hnr; have HB2 := hH ((uh HBW).trans (hb2.mono (by omega)))
    clear hnr hb2 q2 HCALL
    go_wp2_with fail
    refine bodyPost_ret (v := .agg #[.int .i64 t.sort, .slice a3 t.names.length cap3, .map (some B), .slice a' ks.length cap']) (by simp [results, Tryz.results24, go_sem, y0, y1, y2, y3]) rfl ⟨⟨_, _, _, _⟩, rfl, ?_, ?_⟩
    · refine NRep.carry (fun b hb => heap_set4n _ _ _ _ _ _ _ ?_) (fun b hb => ?_) t _ (uh HNR)
      · rcases hb with (h | h) | h
        · have := uh HP b h; omega
        · have := h.1; omega
        · have := h.1; omega
      · rcases hb with (h | h) | h
        · exact Or.inl h
        · exact Or.inr ⟨by have := h.1; omega, by rw [size_set4]; have := h.2; omega⟩
        · exact Or.inr ⟨by have := h.1; omega, by rw [size_set4]; exact h.2⟩
    · exact below_set4 (uh HB2) _ _ _ _ _ (by omega)
theorem gatherN_all : ∀ n, GNSaid n
 | 0 => fun t h => by omega
 | n + 1 => gatherN_step n (gatherN_all n)
end Go.Proofs.YtccnehcpmkgbhaaGreatDoor

namespace Go.Proofs.YtccnehcpmkgbhaaGreatDoor
open Go Go.RowKit Go.Maps
def row9 (c : C4) (d : C5) : Nat → Value
 | 0 => c.c0
 | 1 => c.c1
 | 2 => c.c2
 | 3 => c.c3
 | 4 => d.c0
 | 5 => d.c1
 | 6 => d.c2
 | 7 => d.c3
 | _ => d.c4
theorem row9_alloc (w : World) (c : C4) (d : C5) (t : TypeId) : (w.alloc (.cells #[c.c0, c.c1, c.c2, c.c3, d.c0, d.c1, d.c2, d.c3, d.c4] t)).rowIs w.heap.size t 9 (row9 c d) :=
 World.rowIs_alloc w #[c.c0, c.c1, c.c2, c.c3, d.c0, d.c1, d.c2, d.c3, d.c4] t _ (fun i hi => by
  have hi' : i < 9 := hi
  match i, hi' with
  | 0, _ => rfl
  | 1, _ => rfl
  | 2, _ => rfl
  | 3, _ => rfl
  | 4, _ => rfl
  | 5, _ => rfl
  | 6, _ => rfl
  | 7, _ => rfl
  | 8, _ => rfl)
def holdB (k : Kd) (t : Tr) : Bool := decide (k.sort = t.sort) && justB k.names t.names
theorem holds_any (k : Kd) (t : Tr) (P Q : Nat → Prop) (c : C4) (d : C5) (w : World) (hP : ∀ b, P b → b < w.heap.size) (hQ : ∀ b, Q b → b < w.heap.size) (hrep : NRep P w k c) (hrep2 : Rep Q w t d) :
 Calls Tryz.prog 26 #[.agg #[c.c0, c.c1, c.c2, c.c3, d.c0, d.c1, d.c2, d.c3, d.c4]] w fun e w' => e = .returned (.bool (holdB k t)) ∧ Below w.heap.size w w' := by
 obtain ⟨c0, c1, c2, c3⟩ := c
 obtain ⟨d0, d1, d2, d3, d4⟩ := d
 obtain ⟨e0, -, ⟨a3, cap3, e1, -, -⟩, ⟨B, e2, hPB, hm⟩, a, cap, e3, -, -⟩ := hrep.open
 obtain ⟨g0, g1, g2, -, -, -, hns, a6, cap6, g4, -, -⟩ := hrep2.open
 simp only at e0 e1 e2 e3 g0 g1 g2 g4 hns
 have HNS := hH hns
 obtain ⟨a5, cap5, g3, -, -⟩ := hns
 subst e0 e1 e2 e3 g0 g1 g2 g3 g4
 have hb0 : ∀ o, Below w.heap.size w (w.alloc o) := fun o => (Below.refl _ _).alloc (Nat.le_refl _) o
 have hcall := fun o => hasJust_any a3 cap3 B k.names (.slice a5 t.names.length cap5) t.names (w.alloc o) (P := Q) (fun b hb => Nat.lt_of_lt_of_le (hQ b hb) (hb0 o).size) ((uh HNS).carry (fun b hb => (hb0 o).block b (hQ b hb)) (fun _ h => h)) (hm.carry ((hb0 o).block B (hP B hPB)))
 have HCALL := hH hcall; have HB0 := hH hb0
 clear hcall hb0 hrep hrep2 hP hQ hPB hm
 by_cases hs : k.sort = t.sort
 · have hh : holdB k t = justB k.names t.names := by rw [holdB, decide_eq_true hs, Bool.true_and]
   rw [hh]
   simp only [hs]
   clear hs hh
   generalize justB k.names t.names = r at *
   go_enter Tryz.func26, Tryz.ntmps26
   go_wp2_with (go_at_call 52; refine (uh HCALL _).mono ?_; rintro e w1 ⟨rfl, hb1⟩)
   go_ret
   exact ⟨rfl, (uh HB0 _).trans (hb1.mono (uh HB0 _).size)⟩
 · have hh : holdB k t = false := by rw [holdB, decide_eq_false hs, Bool.false_and]
   rw [hh]
   clear hh HCALL
   go_enter Tryz.func26, Tryz.ntmps26
   go_wp2_with fail
   go_ret
   exact ⟨rfl, uh HB0 _⟩
end Go.Proofs.YtccnehcpmkgbhaaGreatDoor

namespace Go.Proofs.YtccnehcpmkgbhaaGreatDoor
open Go Go.RowKit Go.Maps Go.WideMaps
theorem kidFor_form (k : Kd) (t : Tr) (i : Nat) (P Q : Nat → Prop) (c : C4) (d : C5) (w : World) (hP : ∀ b, P b → b < w.heap.size) (hQ : ∀ b, Q b → b < w.heap.size) (hrep : NRep P w k c) (hrep2 : Rep Q w t d)
 (h5 : k.sort = 5) (hne : k.names = t.names) (hnd : k.names.Nodup) (hi : i < k.kids.length) (hil : i < t.names.length) :
 Calls Tryz.prog 147 #[.agg #[c.c0, c.c1, c.c2, c.c3], .agg #[d.c0, d.c1, d.c2, d.c3, d.c4], .int .i64 i] w fun e w' => ∃ x : C4, e = .returned (.agg #[x.c0, x.c1, x.c2, x.c3]) ∧ NRep P w' k.kids[i] x ∧ Below w.heap.size w w' := by
 obtain ⟨c0, c1, c2, c3⟩ := c
 obtain ⟨d0, d1, d2, d3, d4⟩ := d
 obtain ⟨e0, -, ⟨a3, cap3, e1, -, -⟩, ⟨B, e2, hPB, hm⟩, a, cap, e3, hlk, hks⟩ := hrep.open
 obtain ⟨g0, g1, g2, -, -, -, ⟨a5, cap5, g3, -, hnc⟩, a6, cap6, g4, -, -⟩ := hrep2.open
 simp only at e0 e1 e2 e3 g0 g1 g2 g3 g4
 subst e0 e1 e2 e3 g0 g1 g2 g3 g4
 obtain ⟨nb, no, rfl, hpn, hcn, hnsz⟩ := hnc i hil
 obtain ⟨kb, ko, kc, rfl, hpk, hck, hrk⟩ := hks i hi
 obtain ⟨W0, hW0⟩ : ∃ W0, (((w.alloc (.cells #[.int .i64 k.sort, .slice a3 k.names.length cap3, .map (some B), .slice (some ⟨kb, ko, none⟩) k.kids.length cap] 57)).alloc (.cells #[.int .i64 t.sort, .int .i64 t.num, .string t.text, .slice (some ⟨nb, no, none⟩) t.names.length cap5, .slice a6 t.kids.length cap6] 29)).alloc (.cells #[.int .i64 0, .slice none 0 0, .map none, .slice none 0 0] 57)) = W0 := ⟨_, rfl⟩
 have hb0 : Below w.heap.size w W0 := by rw [← hW0]; exact (((Below.refl _ _).alloc (Nat.le_refl _) _).alloc (by simp) _).alloc (by simp; omega) _
 have hs0 : W0.heap.size = w.heap.size + 3 := by rw [← hW0]; simp
 have hr0 : W0.rowIs w.heap.size 57 4 (row4 (.int .i64 k.sort) (.slice a3 k.names.length cap3) (.map (some B)) (.slice (some ⟨kb, ko, none⟩) k.kids.length cap)) := by rw [← hW0]; exact ((row4_alloc w _ _ _ _ _).alloc _).alloc _
 have hr1 : W0.rowIs (w.heap.size + 1) 29 5 (row5 (.int .i64 t.sort) (.int .i64 t.num) (.string t.text) (.slice (some ⟨nb, no, none⟩) t.names.length cap5) (.slice a6 t.kids.length cap6)) := by
  rw [← hW0]
  have q := row5_alloc (w.alloc (.cells #[.int .i64 k.sort, .slice a3 k.names.length cap3, .map (some B), .slice (some ⟨kb, ko, none⟩) k.kids.length cap] 57)) (.int .i64 t.sort) (.int .i64 t.num) (.string t.text) (.slice (some ⟨nb, no, none⟩) t.names.length cap5) (.slice a6 t.kids.length cap6) 29
  rw [World.size_alloc] at q
  exact q.alloc _
 have hr2 : W0.rowIs (w.heap.size + 1 + 1) 57 4 (row4 (.int .i64 0) (.slice none 0 0) (.map none) (.slice none 0 0)) := by
  rw [← hW0]
  have q := row4_alloc ((w.alloc (.cells #[.int .i64 k.sort, .slice a3 k.names.length cap3, .map (some B), .slice (some ⟨kb, ko, none⟩) k.kids.length cap] 57)).alloc (.cells #[.int .i64 t.sort, .int .i64 t.num, .string t.text, .slice (some ⟨nb, no, none⟩) t.names.length cap5, .slice a6 t.kids.length cap6] 29)) (.int .i64 0) (.slice none 0 0) (.map none) (.slice none 0 0) 57
  rw [World.size_alloc, World.size_alloc] at q
  exact q
 have hm0 : NMap W0.drew B k.names := hm.carry (hb0.drew.block B (hP B hPB))
 have hkey : keyOf Tryz.prog 9 (.string t.names[i]) = some (nkey t.names[i]) := keyOf_string_mk Tryz.underlying9 (by unfold maxLen; omega)
 obtain ⟨cv, hrun, hat, -⟩ := hm0.lookup_int keyLaw Tryz.underlying52 Tryz.underlying3 (zeroInt _) hkey
 have hcv : cv = (i : Int) := by
  have h1 := at_nmap k.names hnd i (by rw [hne]; exact hil) k.names.length (Nat.le_refl _) (by rw [hne]; exact hil)
  have h2 : k.names[i]'(by rw [hne]; exact hil) = t.names[i] := by simp only [hne]
  rw [h2] at h1
  rw [h1] at hat
  simpa using hat.symm
 subst hcv
 have k0 := hr0.cell (i := 0) (by omega); have k2 := hr0.cell (i := 2) (by omega); have k3 := hr0.cell (i := 3) (by omega)
 have t3 := hr1.cell (i := 3) (by omega)
 have z := hr2.frozen
 obtain ⟨y0, y1, y2, y3⟩ := cs4 hr2 (by omega)
 simp only [row4, row5] at k0 k2 k3 t3 y0 y1 y2 y3
 have en : W0.cell? ⟨nb, no + i, none⟩ = some (.string t.names[i]) := by rw [hb0.cell (hQ nb hpn)]; exact hcn
 have hck' := hck.carry (hb0.block kb (hP kb hpk))
 obtain ⟨x0, x1, x2, x3⟩ := kc
 obtain ⟨f0, -, ⟨a7, cap7, f1, -⟩, ⟨B2, f2, -⟩, a8, cap8, f3, -⟩ := hrk.open
 simp only at f0 f1 f2 f3
 subst f0 f1 f2 f3
 obtain ⟨u0, u1, u2, u3⟩ := hck'
 simp only at u0 u1 u2 u3
 have HRK := hH hrk; have HB0 := hH hb0; have HP := hH hP
 clear hck hcn hpn hrk hb0 hP hQ hrep hrep2 hr0 hr1 hr2 hks hnc hat hm hm0 hkey hpk hPB
 have hd5 : (k.sort == 5) = true := by rw [h5]; rfl
 generalize k.kids[i] = kk at *
 generalize t.names[i] = nm at *
 clear h5 hnd hne
 go_enter Tryz.func147, Tryz.ntmps147
 go_wp2_with fail
 go_region
 all_goals
  go_wp2_with fail
  refine bodyPost_ret (v := .agg #[.int .i64 kk.sort, .slice a7 kk.names.length cap7, .map (some B2), .slice a8 kk.kids.length cap8]) (by simp [results, Tryz.results147, go_sem, y0, y1, y2, y3]) rfl ⟨⟨_, _, _, _⟩, rfl, ?_, ?_⟩
  · exact NRep.carry (fun b hb => (heap_set4n _ _ _ _ _ _ _ (by have := uh HP b hb; omega)).trans ((uh HB0).drew.block b (uh HP b hb))) (fun _ h => h) kk _ (uh HRK)
  · exact below_set4 (uh HB0).drew _ _ _ _ _ (by omega)
theorem kidFor_else (k : Kd) (t : Tr) (i : Nat) (P Q : Nat → Prop) (c : C4) (d : C5) (w : World) (hP : ∀ b, P b → b < w.heap.size) (hrep : NRep P w k c) (hrep2 : Rep Q w t d)
 (h5 : k.sort ≠ 5) (hi : 0 < k.kids.length) :
 Calls Tryz.prog 147 #[.agg #[c.c0, c.c1, c.c2, c.c3], .agg #[d.c0, d.c1, d.c2, d.c3, d.c4], .int .i64 i] w fun e w' => ∃ x : C4, e = .returned (.agg #[x.c0, x.c1, x.c2, x.c3]) ∧ NRep P w' k.kids[0] x ∧ Below w.heap.size w w' := by
 obtain ⟨c0, c1, c2, c3⟩ := c
 obtain ⟨d0, d1, d2, d3, d4⟩ := d
 obtain ⟨e0, -, ⟨a3, cap3, e1, -, -⟩, ⟨B, e2, hPB, hm⟩, a, cap, e3, hlk, hks⟩ := hrep.open
 obtain ⟨g0, g1, g2, -, -, -, ⟨a5, cap5, g3, -, hnc⟩, a6, cap6, g4, -, -⟩ := hrep2.open
 simp only at e0 e1 e2 e3 g0 g1 g2 g3 g4
 subst e0 e1 e2 e3 g0 g1 g2 g3 g4
 obtain ⟨kb, ko, kc, rfl, hpk, hck, hrk⟩ := hks 0 hi
 obtain ⟨W0, hW0⟩ : ∃ W0, (((w.alloc (.cells #[.int .i64 k.sort, .slice a3 k.names.length cap3, .map (some B), .slice (some ⟨kb, ko, none⟩) k.kids.length cap] 57)).alloc (.cells #[.int .i64 t.sort, .int .i64 t.num, .string t.text, .slice a5 t.names.length cap5, .slice a6 t.kids.length cap6] 29)).alloc (.cells #[.int .i64 0, .slice none 0 0, .map none, .slice none 0 0] 57)) = W0 := ⟨_, rfl⟩
 have hb0 : Below w.heap.size w W0 := by rw [← hW0]; exact (((Below.refl _ _).alloc (Nat.le_refl _) _).alloc (by simp) _).alloc (by simp; omega) _
 have hs0 : W0.heap.size = w.heap.size + 3 := by rw [← hW0]; simp
 have hr0 : W0.rowIs w.heap.size 57 4 (row4 (.int .i64 k.sort) (.slice a3 k.names.length cap3) (.map (some B)) (.slice (some ⟨kb, ko, none⟩) k.kids.length cap)) := by rw [← hW0]; exact ((row4_alloc w _ _ _ _ _).alloc _).alloc _
 have hr1 : W0.rowIs (w.heap.size + 1) 29 5 (row5 (.int .i64 t.sort) (.int .i64 t.num) (.string t.text) (.slice a5 t.names.length cap5) (.slice a6 t.kids.length cap6)) := by
  rw [← hW0]
  have q := row5_alloc (w.alloc (.cells #[.int .i64 k.sort, .slice a3 k.names.length cap3, .map (some B), .slice (some ⟨kb, ko, none⟩) k.kids.length cap] 57)) (.int .i64 t.sort) (.int .i64 t.num) (.string t.text) (.slice a5 t.names.length cap5) (.slice a6 t.kids.length cap6) 29
  rw [World.size_alloc] at q
  exact q.alloc _
 have hr2 : W0.rowIs (w.heap.size + 1 + 1) 57 4 (row4 (.int .i64 0) (.slice none 0 0) (.map none) (.slice none 0 0)) := by
  rw [← hW0]
  have q := row4_alloc ((w.alloc (.cells #[.int .i64 k.sort, .slice a3 k.names.length cap3, .map (some B), .slice (some ⟨kb, ko, none⟩) k.kids.length cap] 57)).alloc (.cells #[.int .i64 t.sort, .int .i64 t.num, .string t.text, .slice a5 t.names.length cap5, .slice a6 t.kids.length cap6] 29)) (.int .i64 0) (.slice none 0 0) (.map none) (.slice none 0 0) 57
  rw [World.size_alloc, World.size_alloc] at q
  exact q
 have k0 := hr0.cell (i := 0) (by omega); have k2 := hr0.cell (i := 2) (by omega); have k3 := hr0.cell (i := 3) (by omega)
 have t3 := hr1.cell (i := 3) (by omega)
 have z := hr2.frozen
 obtain ⟨y0, y1, y2, y3⟩ := cs4 hr2 (by omega)
 simp only [row4, row5] at k0 k2 k3 t3 y0 y1 y2 y3
 have hck' := hck.carry (hb0.block kb (hP kb hpk))
 obtain ⟨x0, x1, x2, x3⟩ := kc
 obtain ⟨f0, -, ⟨a7, cap7, f1, -⟩, ⟨B2, f2, -⟩, a8, cap8, f3, -⟩ := hrk.open
 simp only at f0 f1 f2 f3
 subst f0 f1 f2 f3
 obtain ⟨u0, u1, u2, u3⟩ := hck'
 simp only [Nat.zero_mul, Nat.add_zero] at u0 u1 u2 u3
 have HRK := hH hrk; have HB0 := hH hb0; have HP := hH hP
 clear hck hrk hb0 hP hrep hrep2 hr0 hr1 hr2 hks hnc hm hpk hPB
 have hd5 : (k.sort == 5) = false := by simpa using h5
 generalize k.kids[0] = kk at *
 clear h5
 go_enter Tryz.func147, Tryz.ntmps147
 go_wp2_with fail
 all_goals
  refine bodyPost_ret (v := .agg #[.int .i64 kk.sort, .slice a7 kk.names.length cap7, .map (some B2), .slice a8 kk.kids.length cap8]) (by simp [results, Tryz.results147, go_sem, y0, y1, y2, y3]) rfl ⟨⟨_, _, _, _⟩, rfl, ?_, ?_⟩
  · exact NRep.carry (fun b hb => (heap_set4n _ _ _ _ _ _ _ (by have := uh HP b hb; omega)).trans ((uh HB0).block b (uh HP b hb))) (fun _ h => h) kk _ (uh HRK)
  · exact below_set4 (uh HB0) _ _ _ _ _ (by omega)
end Go.Proofs.YtccnehcpmkgbhaaGreatDoor

namespace Go.Proofs.YtccnehcpmkgbhaaGreatDoor
open Go Go.RowKit Go.Maps
def d5l (d : C5) : List Value := [d.c0, d.c1, d.c2, d.c3, d.c4]
def c9l (c : C4) (d : C5) : List Value := c4l c ++ d5l d
def clm (K : Kd) : List Tr → Nat → List (Kd × Tr)
 | [], _ => []
 | t :: r, i => (kidOf K i, t) :: clm K r (i + 1)
theorem clm_len (K : Kd) : ∀ (l : List Tr) (i : Nat), (clm K l i).length = l.length
 | [], _ => rfl
 | t :: r, i => by rw [clm, List.length_cons, clm_len K r, List.length_cons]
theorem clm_snoc (K : Kd) (t : Tr) : ∀ (l : List Tr) (i : Nat), clm K (l ++ [t]) i = clm K l i ++ [(kidOf K (i + l.length), t)]
 | [], i => by simp [clm]
 | a :: r, i => by
   rw [List.cons_append, clm, clm_snoc K t r (i + 1), clm, List.cons_append, List.length_cons, show i + 1 + r.length = i + (r.length + 1) from by omega]
theorem clm_take (K : Kd) (l : List Tr) (k : Nat) (h : k < l.length) : clm K (l.take (k + 1)) 0 = clm K (l.take k) 0 ++ [(kidOf K k, l[k])] := by
 rw [List.take_succ_eq_append_getElem h, clm_snoc]
 congr 4
 simp; omega
def CRepL (P : Nat → Prop) (w : World) : List (Kd × Tr) → List Value → Prop
 | [], xs => xs = []
 | p :: r, xs => ∃ c d xs', xs = c9l c d ++ xs' ∧ NRep P w p.1 c ∧ Rep P w p.2 d ∧ CRepL P w r xs'
theorem CRepL.snoc {P : Nat → Prop} {w : World} {ps : List (Kd × Tr)} {xs : List Value} {k : Kd} {t : Tr} {c : C4} {d : C5} (h : CRepL P w ps xs) (hk : NRep P w k c) (ht : Rep P w t d) : CRepL P w (ps ++ [(k, t)]) (xs ++ c9l c d) := by
 induction ps generalizing xs with
 | nil =>
   have h' : xs = [] := h
   subst h'
   exact ⟨c, d, [], by simp, hk, ht, rfl⟩
 | cons a r ih =>
   obtain ⟨c', d', xs', rfl, h1, h2, h3⟩ := h
   exact ⟨c', d', xs' ++ c9l c d, by simp, h1, h2, ih h3⟩
theorem CRepL.carry {P Q : Nat → Prop} {w w' : World} {ps : List (Kd × Tr)} {xs : List Value} (h : CRepL P w ps xs) (hP : ∀ b, P b → w'.heap[b]? = w.heap[b]?) (hQ : ∀ b, P b → Q b) : CRepL Q w' ps xs := by
 induction ps generalizing xs with
 | nil => exact h
 | cons a r ih =>
   obtain ⟨c', d', xs', rfl, h1, h2, h3⟩ := h
   exact ⟨c', d', xs', rfl, NRep.carry hP hQ _ _ h1, Rep.carry hP hQ _ _ h2, ih h3⟩
theorem CRepL.get {P : Nat → Prop} {w : World} {g : Nat} {ps : List (Kd × Tr)} {xs : List Value} {o : Nat} (h : CRepL P w ps xs) (hc : ∀ j u, xs[j]? = some u → w.cell? ⟨g, o + j, none⟩ = some u) (i : Nat) (hi : i < ps.length) :
 ∃ c d, C4.at w g (o + i * 9) c ∧ C5.at w g (o + i * 9 + 4) d ∧ NRep P w ps[i].1 c ∧ Rep P w ps[i].2 d := by
 induction ps generalizing xs o i with
 | nil => simp at hi
 | cons a r ih =>
   obtain ⟨c', d', xs', rfl, h1, h2, h3⟩ := h
   match i with
   | 0 =>
     refine ⟨c', d', ?_, ?_, h1, h2⟩
     · rw [Nat.zero_mul, Nat.add_zero]; exact ⟨hc 0 _ rfl, hc 1 _ rfl, hc 2 _ rfl, hc 3 _ rfl⟩
     · rw [Nat.zero_mul, Nat.add_zero]; exact ⟨hc 4 _ rfl, hc 5 _ rfl, hc 6 _ rfl, hc 7 _ rfl, hc 8 _ rfl⟩
   | i + 1 =>
     obtain ⟨c, d, q1, q2, q3, q4⟩ := ih (o := o + 9) h3 (fun j u hj => by
      have := hc (9 + j) u (by
       rw [List.getElem?_append_right (by simp [c9l, c4l, d5l]), show 9 + j - (c9l c' d').length = j from by simp [c9l, c4l, d5l]]; exact hj)
      rw [show o + 9 + j = o + (9 + j) from by omega]; exact this) i (by simpa using hi)
     exact ⟨c, d, by rw [show o + (i + 1) * 9 = o + 9 + i * 9 from by omega]; exact q1, by rw [show o + (i + 1) * 9 + 4 = o + 9 + i * 9 + 4 from by omega]; exact q2, q3, q4⟩
theorem cell_nine (w : World) (c : C4) (d : C5) (t : TypeId) : ∀ j u, (c9l c d)[j]? = some u → (w.alloc (.cells #[c.c0, c.c1, c.c2, c.c3, d.c0, d.c1, d.c2, d.c3, d.c4] t)).cell? ((⟨w.heap.size, 0, none⟩ : Addr).add j) = some u := by
 intro j u hj
 have hrow := row9_alloc w c d t
 rw [Addr.add_lit, Nat.zero_add]
 match j with
 | 0 => rw [hrow.cell (by omega)]; exact hj
 | 1 => rw [hrow.cell (by omega)]; exact hj
 | 2 => rw [hrow.cell (by omega)]; exact hj
 | 3 => rw [hrow.cell (by omega)]; exact hj
 | 4 => rw [hrow.cell (by omega)]; exact hj
 | 5 => rw [hrow.cell (by omega)]; exact hj
 | 6 => rw [hrow.cell (by omega)]; exact hj
 | 7 => rw [hrow.cell (by omega)]; exact hj
 | 8 => rw [hrow.cell (by omega)]; exact hj
 | j + 9 => simp [c9l, c4l, d5l] at hj
end Go.Proofs.YtccnehcpmkgbhaaGreatDoor
