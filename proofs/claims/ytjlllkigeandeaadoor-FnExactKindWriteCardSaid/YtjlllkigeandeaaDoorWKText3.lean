/- The walk of the specification's KindWrite: it gives the text of a schema that is ok, and else none. No conditions. -/
import Derived.Test.YtjlllkigeandeaaDoorWKText2
import Derived.Test.YtjlllkigeandeaaDoorWKSpec
namespace Go.Proofs.YtjlllkigeandeaaDoor
open Go Go.RowKit

/-- What KindWrite answers. -/
def kWr (t : Kd) : ByteArray := if 0 < qT t 1 then ⟨(kxT t).toArray⟩ else ByteArray.empty

set_option maxHeartbeats 400000 in
theorem specKindWrite_any (t : Kd) (P : Nat → Prop) (c : C3) (w : World) (hP : ∀ b, P b → b < w.heap.size) (hrep : KRep P w t c) :
    Calls Tryd.prog 15 #[.agg #[c.c0, c.c1, c.c2]] w fun e w' => e = .returned (.string (kWr t)) ∧ Below w.heap.size w w' := by
  obtain ⟨c0, c1, c2⟩ := c
  have hbx : ∀ o, Below w.heap.size w (w.alloc o) := fun o => (Below.refl _ _).alloc (Nat.le_refl _) o
  have hok : ∀ o, Calls Tryd.prog 32 #[.agg #[c0, c1, c2]] (w.alloc o) fun e w' => e = .returned (.bool (decide (0 < qT t 1))) ∧ Below (w.alloc o).heap.size (w.alloc o) w' := fun o =>
    specKindOk_any t P ⟨c0, c1, c2⟩ (w.alloc o) (fun b hb => Nat.lt_of_lt_of_le (hP b hb) (hbx o).size) (KRep.carry (fun b hb => (hbx o).block b (hP b hb)) (fun _ h => h) _ _ hrep)
  have hr := fun W (hW : Below w.heap.size w W) => KRep.carry (Q := P) (w' := W) (fun b hb => hW.block b (hP b hb)) (fun _ h => h) _ _ hrep
  obtain ⟨e0, -, ⟨a3, cap3, e1, -, -⟩, a, cap, e2, -, -⟩ := hrep.open
  simp only at e0 e1 e2
  subst e0 e1 e2
  by_cases hq : 0 < qT t 1
  · have hd : decide (0 < qT t 1) = true := decide_eq_true hq
    rw [hd] at hok
    have htx := fun W (hW : Below w.heap.size w W) => l2Text_any t P ⟨.int .i64 t.sort, .slice a3 t.names.length cap3, .slice a t.kids.length cap⟩ W (fun b hb => Nat.lt_of_lt_of_le (hP b hb) hW.size) (hr W hW) (ok_of_qT hq).1 (by have := kxT_short hq; omega)
    have hk : kWr t = ⟨(kxT t).toArray⟩ := if_pos hq
    rw [hk]
    generalize kxT t = tx at *
    have HOK := hide hok; have HTX := hide htx
    clear hok htx hbx hr hrep hP hd hq hk
    go_enter Tryd.func15, Tryd.ntmps15
    go_wp2_with fail
    refine (unhide HOK _).mono ?_
    rintro e w1 ⟨rfl, hb1⟩
    obtain ⟨q1, hs1, hb01⟩ := kbox1 hb1
    have k0 := q1.cell (i := 0) (by omega); have k1 := q1.cell (i := 1) (by omega); have k2 := q1.cell (i := 2) (by omega)
    simp only [row3] at k0 k1 k2
    have HB := hide hb01
    clear hb1 q1 hb01
    go_wp2_with fail
    refine (unhide HTX _ (unhide HB)).mono ?_
    rintro e w2 ⟨rfl, hb2⟩
    go_wp2_with fail
    go_ret
    exact ⟨rfl, (unhide HB).trans (hb2.mono (unhide HB).size)⟩
  · have hd : decide (0 < qT t 1) = false := decide_eq_false hq
    rw [hd] at hok
    have hk : kWr t = ByteArray.empty := if_neg hq
    rw [hk]
    have HOK := hide hok
    clear hok hbx hr hrep hP hd hq hk
    go_enter Tryd.func15, Tryd.ntmps15
    go_wp2_with fail
    refine (unhide HOK _).mono ?_
    rintro e w1 ⟨rfl, hb1⟩
    have HB := hide (kbox1 hb1).2.2
    clear hb1
    go_wp2_with fail
    go_ret
    exact ⟨rfl, unhide HB⟩
end Go.Proofs.YtjlllkigeandeaaDoor
