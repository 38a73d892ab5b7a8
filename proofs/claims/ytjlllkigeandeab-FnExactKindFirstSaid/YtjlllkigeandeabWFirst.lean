/- The walks of the program's firstTree and of gather with it: the first tree of a schema, in blocks of its own. Of what was there nothing has turned. -/
import Derived.Test.YtjlllkigeandeabWClone
import Derived.Test.YtjlllkigeandeabFirst
import Derived.Test.YtjlllkigeandeabWWalk
import Derived.Test.YtjlllkigeandeabKText
namespace Go.Proofs.Ytjlllkigeandeab
open Go Go.RowKit

theorem rise_small {ss : List ByteArray} (h : riseB ss = true) : ∀ x, x ∈ ss → x.size ≤ 1099511627776 := fun x hx => by
  obtain ⟨i, hi, rfl⟩ := List.getElem_of_mem hx
  have := rise_size h i hi
  omega

theorem heap_set5f (w : World) (b : Nat) (c0 c1 c2 c3 c4 : Value) (k : Nat) (h : k ≠ b) :
    (((((w.setCell ⟨b, 0, none⟩ c0).setCell ⟨b, 1, none⟩ c1).setCell ⟨b, 2, none⟩ c2).setCell ⟨b, 3, none⟩ c3).setCell ⟨b, 4, none⟩ c4).heap[k]? = w.heap[k]? := by
  rw [Below.heap_setCell _ _ _ _ h, Below.heap_setCell _ _ _ _ h, Below.heap_setCell _ _ _ _ h, Below.heap_setCell _ _ _ _ h, Below.heap_setCell _ _ _ _ h]
theorem size_set5f (w : World) (b : Nat) (c0 c1 c2 c3 c4 : Value) :
    (((((w.setCell ⟨b, 0, none⟩ c0).setCell ⟨b, 1, none⟩ c1).setCell ⟨b, 2, none⟩ c2).setCell ⟨b, 3, none⟩ c3).setCell ⟨b, 4, none⟩ c4).heap.size = w.heap.size := by simp [World.setCell]
theorem below_set5f {B : Nat} {a w : World} (h : Below B a w) (b : Nat) (c0 c1 c2 c3 c4 : Value) (hb : B ≤ b) :
    Below B a (((((w.setCell ⟨b, 0, none⟩ c0).setCell ⟨b, 1, none⟩ c1).setCell ⟨b, 2, none⟩ c2).setCell ⟨b, 3, none⟩ c3).setCell ⟨b, 4, none⟩ c4) :=
  ((((h.setCell hb _).setCell hb _).setCell hb _).setCell hb _).setCell hb _

set_option maxRecDepth 100000 in
set_option maxHeartbeats 800000 in
theorem firstTree_any (base : Nat) (t : Kd) (P : Nat → Prop) (c : C3) (vK : Value) (G : List Nat) (w : World) (hP : ∀ b, P b → b < w.heap.size) (hrep : KRep P w t c) (hK : KidsOwn w vK (fTs t.kids) G) (hnd : G.Nodup) (hG : ∀ b, b ∈ G → base ≤ b ∧ b < w.heap.size) (hbase : base ≤ w.heap.size) (hsh : shB t = true) (hnl : t.names.length ≤ 1048576) :
    Calls Try.prog 21 #[.agg #[c.c0, c.c1, c.c2], vK] w fun e w' => ∃ d F, e = .returned (.agg #[d.c0, d.c1, d.c2, d.c3, d.c4]) ∧ Own w' (fT t) d F ∧ F.Nodup ∧ (∀ b, b ∈ F → base ≤ b ∧ b < w'.heap.size) ∧ Below w.heap.size w w' := by
  obtain ⟨c0, c1, c2⟩ := c
  obtain ⟨e0, hi0, hns, a, cap, e2, -, -⟩ := hrep.open
  simp only at e0 e2 hns
  have HNS := hide hns
  obtain ⟨a3, cap3, e1, -, -⟩ := hns
  have HK := hide hK
  obtain ⟨aK, capK, eK, hkl, -⟩ := hK
  subst e0 e1 e2 eK
  clear hrep
  have hbx2 : ∀ o o2, Below w.heap.size w ((w.alloc o).alloc o2) := fun o o2 => ((Below.refl _ _).alloc (Nat.le_refl _) o).alloc (by simp) o2
  by_cases h5 : t.sort = 5
  · have hri : riseB t.names = true := by
      rcases shB_cases hsh with ⟨h, -⟩ | ⟨h, -⟩ | ⟨-, -, h⟩
      · omega
      · omega
      · exact h
    have hft := fT_form h5
    have hcp : ∀ o o2, Calls Try.prog 33 #[.slice a3 t.names.length cap3] ((w.alloc o).alloc o2) fun e w' => ∃ a' n' cap' F, e = .returned (.slice a' n' cap') ∧ StrsOwn w' (.slice a' n' cap') t.names F ∧ F.Nodup ∧ (∀ b, b ∈ F → w.heap.size + 2 ≤ b ∧ b < w'.heap.size) ∧ Below (w.heap.size + 2) ((w.alloc o).alloc o2) w' := fun o o2 =>
      (copyNames_any _ t.names ((w.alloc o).alloc o2) (P := P) (fun b hb => Nat.lt_of_lt_of_le (hP b hb) (hbx2 o o2).size) ((unhide HNS).carry (fun b hb => (hbx2 o o2).block b (hP b hb)) (fun _ h => h)) hnl (rise_small hri)).mono
        fun e w' ⟨v', F, h1, h2, h3, h4, h5⟩ => by
          obtain ⟨a', cap', hv', -⟩ := id h2
          subst hv'
          exact ⟨a', _, cap', F, h1, h2, h3, fun b hb => ⟨by have := (h4 b hb).1; simpa using this, (h4 b hb).2⟩, h5.mono (by simp)⟩
    have hd : (t.sort != 5) = false := by simp [h5]
    have HCP := hide hcp; have HFT := hide hft; have HBX := hide hbx2; have HG := hide hG
    generalize fTs t.kids = kts at *
    rw [h5]
    clear hcp hft hbx2 hG hP hsh hri hd hi0
    go_enter Try.func21, Try.ntmps21
    go_wp2_with fail
    refine (unhide HCP _ _).mono ?_
    rintro e w1 ⟨a', n', cap', F, rfl, hso, hFn, hFl, hb1⟩
    have hs1 : w.heap.size + 2 ≤ w1.heap.size := by have := hb1.size; simpa using this
    have q := (row5_alloc (w.alloc (.cells #[.int .i64 5, .slice a3 t.names.length cap3, .slice a t.kids.length cap] 33)) (.int .i64 0) (.int .i64 0) (.string ByteArray.empty) (.slice none 0 0) (.slice none 0 0) 29)
    rw [World.size_alloc] at q
    have q1 := q.of_block (hb1.block (w.heap.size + 1) (by omega))
    have z := q1.frozen
    have y0 := q1.cell (i := 0) (by omega); have y1 := q1.cell (i := 1) (by omega); have y2 := q1.cell (i := 2) (by omega); have y3 := q1.cell (i := 3) (by omega); have y4 := q1.cell (i := 4) (by omega)
    simp only [row5] at y0 y1 y2 y3 y4
    have HSO := hide hso; have HFL := hide hFl; have HB1 := hide hb1
    clear hso hFl hb1 q q1 HCP
    go_wp2_with fail
    have hb0 : Below w.heap.size w w1 := (unhide HBX _ _).trans ((unhide HB1).mono (by omega))
    refine bodyPost_ret (v := .agg #[.int .i64 5, .int .i64 0, .string ByteArray.empty, .slice a' n' cap', .slice aK kts.length capK]) (by simp [results, Try.results21, go_sem, y0, y1, y2, y3, y4]; rfl) rfl ⟨⟨_, _, _, _, _⟩, F ++ G, rfl, ?_, ?_, ?_, ?_⟩
    · rw [unhide HFT]
      refine Own.make (t := .mk 5 0 ByteArray.empty t.names kts) rfl rfl rfl (show I64 5 from ⟨by decide, by decide⟩) (show I64 0 from ⟨by decide, by decide⟩) (by simp [Tr.text]) ((unhide HSO).carry (fun b hb => heap_set5f _ _ _ _ _ _ _ _ (by have := (unhide HFL b hb).1; omega))) ((unhide HK).carry (fun b hb => ?_))
      have hbl := (unhide HG b hb).2
      rw [heap_set5f _ _ _ _ _ _ _ _ (by omega)]
      exact hb0.block b hbl
    · exact List.nodup_append.2 ⟨hFn, hnd, fun x hx y hy e => by have := (unhide HFL x hx).1; have := (unhide HG y hy).2; omega⟩
    · intro b hb
      rw [size_set5f]
      rcases List.mem_append.1 hb with hb | hb
      · have := unhide HFL b hb; omega
      · have := unhide HG b hb; omega
    · exact below_set5f hb0 _ _ _ _ _ _ (by omega)
  · have hft := fT_else h5
    have hd : (t.sort != 5) = true := by simp [h5]
    have HFT := hide hft; have HBX := hide hbx2
    have hbxx : ∀ o o2, ((w.alloc o).alloc o2).heap.size = w.heap.size + 2 := fun o o2 => by simp
    clear hft hbx2 hP hsh hG HK
    go_enter Try.func21, Try.ntmps21
    go_wp2_with fail
    refine bodyPost_ret (v := .agg #[.int .i64 t.sort, .int .i64 0, .string ByteArray.empty, .slice none 0 0, .slice none 0 0]) (by simp [results, Try.results21, go_sem]; rfl) rfl ⟨⟨_, _, _, _, _⟩, [], rfl, ?_, List.nodup_nil, fun b hb => by simp at hb, ?_⟩
    · rw [unhide HFT]
      exact Own.make (F1 := []) (F2 := []) (t := .mk t.sort 0 ByteArray.empty [] []) rfl rfl rfl hi0 (show I64 0 from ⟨by decide, by decide⟩) (by simp [Tr.text]) ⟨none, 0, rfl, by simp [Tr.names], Or.inl ⟨rfl, rfl⟩⟩ ⟨none, 0, rfl, by simp [Tr.kids], Or.inl ⟨rfl, rfl⟩⟩
    · first | exact unhide HBX _ _ | exact below_set5f (unhide HBX _ _) _ _ _ _ _ _ (by omega)

end Go.Proofs.Ytjlllkigeandeab
