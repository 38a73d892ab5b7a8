/- The walk of the specification's l2Text: it gives the text of a schema all of whose parts are ok. The text has at most 2^40 bytes. -/
import Derived.Test.YtfjiannabnonjaaDoorKText
import Derived.Test.YtfjiannabnonjaaDoorRows
import Derived.Deep.RegionWith
namespace Go.Proofs.YtfjiannabnonjaaDoor
open Go Go.RowKit

theorem ret_str2 {a b : ByteArray} (h : a = b) : Ending.returned (.string a) = .returned (.string b) := by rw [h]
theorem str_eq2 {a b : ByteArray} (h : a = b) : Value.string a = .string b := by rw [h]

def KTextSaid (n : Nat) : Prop := ∀ (t : Kd), ksz t < n → ∀ (P : Nat → Prop) (c : C3) (w : World), (∀ b, P b → b < w.heap.size) → KRep P w t c → okD t = true → (kxT t).length ≤ 1099511627776 →
    Calls Tryd.prog 38 #[.agg #[c.c0, c.c1, c.c2]] w fun e w' => e = .returned (.string ⟨(kxT t).toArray⟩) ∧ Below w.heap.size w w'

set_option maxRecDepth 100000 in
set_option maxHeartbeats 800000 in
theorem ktext_123 (t : Kd) (P : Nat → Prop) (c : C3) (w : World) (hrep : KRep P w t c) (hs : t.sort = 1 ∨ t.sort = 2 ∨ t.sort = 3) :
    Calls Tryd.prog 38 #[.agg #[c.c0, c.c1, c.c2]] w fun e w' => e = .returned (.string ⟨(kxT t).toArray⟩) ∧ Below w.heap.size w w' := by
  have hx := kxT_eq t
  obtain ⟨c0, c1, c2⟩ := c
  obtain ⟨e0, -, ⟨a3, cap3, e1, -, -⟩, a, cap, e2, -, -⟩ := hrep.open
  simp only at e0 e1 e2
  subst e0 e1 e2
  have hbx : ∀ o, Below w.heap.size w (w.alloc o) := fun o => (Below.refl _ _).alloc (Nat.le_refl _) o
  have HBX := hide hbx
  clear hrep hbx
  rcases hs with hs | hs | hs
  · rw [if_pos hs] at hx
    rw [hx, hs]
    clear hx hs
    go_enter Tryd.func38, Tryd.ntmps38
    go_wp2_with fail
    go_ret
    exact ⟨rfl, unhide HBX _⟩
  · rw [if_neg (by omega), if_pos hs] at hx
    rw [hx, hs]
    clear hx hs
    go_enter Tryd.func38, Tryd.ntmps38
    go_wp2_with fail
    go_ret
    exact ⟨rfl, unhide HBX _⟩
  · rw [if_neg (by omega), if_neg (by omega), if_pos hs] at hx
    rw [hx, hs]
    clear hx hs
    go_enter Tryd.func38, Tryd.ntmps38
    go_wp2_with fail
    go_ret
    exact ⟨rfl, unhide HBX _⟩

set_option maxRecDepth 100000 in
set_option maxHeartbeats 800000 in
theorem ktext_46 (n : Nat) (IH : KTextSaid n) (t : Kd) (hn : ksz t ≤ n) (P : Nat → Prop) (c : C3) (w : World) (hP : ∀ b, P b → b < w.heap.size) (hrep : KRep P w t c) (ho : okD t = true) (hlen : (kxT t).length ≤ 1099511627776) (hs : t.sort = 4 ∨ t.sort = 6) (hk1 : t.kids.length = 1) :
    Calls Tryd.prog 38 #[.agg #[c.c0, c.c1, c.c2]] w fun e w' => e = .returned (.string ⟨(kxT t).toArray⟩) ∧ Below w.heap.size w w' := by
  have hp : 0 < t.kids.length := by omega
  rw [okD_eq, Bool.and_eq_true] at ho
  have hx := kxT_eq t
  rw [if_neg (by omega), if_neg (by omega), if_neg (by omega), kxM_get hp] at hx
  obtain ⟨c0, c1, c2⟩ := c
  obtain ⟨e0, -, ⟨a3, cap3, e1, -, -⟩, a, cap, e2, -, hks⟩ := hrep.open
  simp only at e0 e1 e2
  subst e0 e1 e2
  obtain ⟨b, o, c, rfl, hpb, hcell, hrp⟩ := hks 0 hp
  rw [Nat.zero_mul, Nat.add_zero] at hcell
  have hbx : ∀ o, Below w.heap.size w (w.alloc o) := fun o => (Below.refl _ _).alloc (Nat.le_refl _) o
  have HBX := hide hbx
  obtain ⟨d0, d1, d2⟩ := c
  have hcc : ∀ ob, C3.at (w.alloc ob) b o ⟨d0, d1, d2⟩ := fun ob => hcell.carry ((hbx ob).block b (hP b hpb))
  have e0 : ∀ ob, (w.alloc ob).cell? ⟨b, o, none⟩ = some d0 := fun ob => (hcc ob).1
  have e1 : ∀ ob, (w.alloc ob).cell? ⟨b, o + 1, none⟩ = some d1 := fun ob => (hcc ob).2.1
  have e2 : ∀ ob, (w.alloc ob).cell? ⟨b, o + 2, none⟩ = some d2 := fun ob => (hcc ob).2.2
  have hsm : ksz t.kids[0] < n := by have := ksz_kid (List.getElem_mem hp); omega
  have hl0 : (kxT t.kids[0]).length ≤ 1099511627774 ∨ t.sort = 6 := by
    by_cases h4 : t.sort = 4
    · rw [hx, if_pos h4] at hlen; simp at hlen; exact Or.inl (by omega)
    · exact Or.inr (by omega)
  have hl1 : (kxT t.kids[0]).length ≤ 1099511627775 := by
    rcases hl0 with h | h
    · omega
    · rw [hx, if_neg (by omega), if_pos h] at hlen; simp at hlen; omega
  have hcall := fun W (hW : Below w.heap.size w W) => IH t.kids[0] hsm P ⟨d0, d1, d2⟩ W (fun b hb' => Nat.lt_of_lt_of_le (hP b hb') hW.size) (KRep.carry (fun b hb' => hW.block b (hP b hb')) (fun _ h => h) _ _ hrp) (okDs_get ho.2 0 hp) (by omega)
  generalize kxT t.kids[0] = tk at *
  have HCALL := hide hcall; have HX := hide hx
  clear hcall hx IH hks hcell hrp hbx hcc ho hlen hsm hP
  rw [hk1]
  clear hk1 hp
  rcases hs with hs | hs
  · have hl2 : tk.length ≤ 1099511627774 := by omega
    have HS := hide hs
    rw [hs]
    clear hs hl0
    go_enter Tryd.func38, Tryd.ntmps38
    go_wp2_with (go_at_call 38; refine (unhide HCALL _ (unhide HBX _)).mono ?_; rintro e w1 ⟨rfl, hb1⟩)
    go_ret
    refine ⟨ret_str2 ?_, (unhide HBX _).trans (hb1.mono (unhide HBX _).size)⟩
    rw [unhide HX, if_pos (unhide HS)]; apply ByteArray.ext; simp
  · have HS := hide hs
    rw [hs]
    clear hs hl0
    go_enter Tryd.func38, Tryd.ntmps38
    go_wp2_with (go_at_call 38; refine (unhide HCALL _ (unhide HBX _)).mono ?_; rintro e w1 ⟨rfl, hb1⟩)
    go_ret
    refine ⟨ret_str2 ?_, (unhide HBX _).trans (hb1.mono (unhide HBX _).size)⟩
    rw [unhide HX, if_neg (by have := unhide HS; omega), if_pos (unhide HS)]; apply ByteArray.ext; simp

end Go.Proofs.YtfjiannabnonjaaDoor
