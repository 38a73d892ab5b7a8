/- The specification's l3Copy, l3Maybe, l3Bare. Conditions: schemas that are ok, of at most 40 parts. -/
import Derived.Test.YtenpghndgdemnaaGreatDoorPart36
import Derived.Test.YtenpghndgdemnaaGreatDoorPart24
import Derived.Test.YtenpghndgdemnaaGreatDoorPart16
import Derived.Test.YtenpghndgdemnaaGreatDoorPart28
namespace Go.Proofs.YtenpghndgdemnaaGreatDoor
open Go Go.RowKit

theorem ownTy_ne {W : World} {base : Nat} {e : TypeId} {size n : Nat} {v : Value} {us : List Value} {g : Nat} {T : TypeId} {m : Nat} {f : Nat → Value} (h : W.ownsRow base e size v n us) (hr : W.rowIs g T m f) (hT : e ≠ T) : v.ownBlock ≠ some g := by
  intro hv
  obtain ⟨c, h1, -⟩ := hr
  rcases h.2 with ⟨h2, -⟩ | ⟨q, cap, cur, h2, -, h3, -⟩
  · rw [h2] at hv; cases hv
  · have hq : q = g := by rw [h2] at hv; simpa [Value.ownBlock] using hv
    subst hq
    rw [h1] at h3
    injection h3 with h3
    injection h3 with _ h4 _
    exact hT h4.symm
noncomputable def lc1Ops : Array Oper := fops Tryz.f70 1
theorem lc1_neat : Region.noSelect lc1Ops = true ∧ neat lc1Ops = true := ⟨by kernel_rfl, by kernel_rfl⟩
set_option maxRecDepth 100000 in
set_option maxHeartbeats 3200000 in
theorem lc1 (A R : Nat) (s : Int) (an : Option Addr) (m cn : Nat) (c2 : Value) (ns : List ByteArray) (W0 : World) {l : List Value} (Q : Exit → Act → World → Prop) (hQ : ∀ c a d v w, Q (.panic c) (Act.put a d v) w → Q (.panic c) a w) (hA : W0.drew.rowIs A 26 3 (row3 (.int .i64 s) (.slice an m cn) c2)) (hm : ns.length = m) (hm2 : m ≤ 1000000)
    (hsrc : 0 < m → ∃ ad, an = some ad ∧ ad.block < W0.drew.heap.size ∧ ∀ j u, (ns.map Value.string)[j]? = some u → W0.drew.cell? (ad.add j) = some u)
    (hl : lookL [(1, .pointer (some ⟨A, 0, none⟩)), (2, .pointer (some ⟨R, 0, none⟩))] l = (31, ([(1, .pointer (some ⟨A, 0, none⟩)), (2, .pointer (some ⟨R, 0, none⟩))] : List (Nat × Value)).map (·.2)))
    (hend : ∀ (u : Nat → Value) (q cap g : Nat) (W : World), W.ownsRow W0.drew.heap.size 9 1 (.slice (some ⟨q, 0, none⟩) m cap) m (ns.map Value.string) → W.rowIs g 26 3 (row3 (.int .i64 s) (.slice (some ⟨q, 0, none⟩) m cap) (.slice none 0 0)) → W0.drew.heap.size ≤ g → q ≠ g → Below W0.drew.heap.size W0.drew W → Q .normal ⟨(frL u 31 [(1, .pointer (some ⟨A, 0, none⟩)), (2, .pointer (some ⟨R, 0, none⟩)), (3, .pointer (some ⟨g, 0, none⟩))]).toArray, []⟩ W) : (Code.region 1 lc1Ops true).wp Tryz.prog Q ⟨l.toArray, []⟩ W0 := by
  obtain ⟨v0, rfl⟩ := look_fr hl
  have hq : NtQ lc1Ops Q := ⟨lc1_neat, hQ⟩
  refine T_start (S := fun W => Below W0.drew.heap.size W0.drew W) (by kernel_rfl) (Below.refl _ _) ?_
  clear hl hQ
  generalize W0.drew = B at hA hsrc hend ⊢
  have Q2 : ∀ (u : Nat → Value) (q cap : Nat) (W : World) (hb : Below B.heap.size B W) (ho : W.ownsRow B.heap.size 9 1 (.slice (some ⟨q, 0, none⟩) m cap) m (ns.map Value.string)) (g : Nat) (hg : W.rowIs g 26 3 (row3 (.int .i64 0) (.slice none 0 0) (.slice none 0 0))) (hgb : B.heap.size ≤ g), wpS Tryz.prog lc1Ops Q (fun W => Below B.heap.size B W) (unl 9 [8], frL u 31 [(1, .pointer (some ⟨A, 0, none⟩)), (2, .pointer (some ⟨R, 0, none⟩)), (3, .pointer (some ⟨g, 0, none⟩)), (11, .agg #[.int .i64 s, .slice (some ⟨q, 0, none⟩) m cap, .slice none 0 0])]) [] W := by
    intro u q cap W hb ho g hg hgb
    have hne : q ≠ g := fun e => ownTy_ne ho hg (by decide) (by rw [e]; rfl)
    have hs3 := set3f W g (.int .i64 s) (.slice (some ⟨q, 0, none⟩) m cap) (.slice none 0 0)
    have hW2 := below_boxf hb hgb hs3.1
    refine T_one 8 (by kernel_rfl) fun _ => O_store_mid none 26 (.tmp 3) (.tmp 11) g 0 #[.int .i64 s, .slice (some ⟨q, 0, none⟩) m cap, .slice none 0 0] (by kernel_rfl) (by kernel_rfl) (by kernel_rfl) (there3f hg) sizeKd (by rw [← Array.all_toList]; rfl) hW2 ?_
    exact T_end 31 [(1, .pointer (some ⟨A, 0, none⟩)), (2, .pointer (some ⟨R, 0, none⟩)), (3, .pointer (some ⟨g, 0, none⟩))] (by kernel_rfl) (by kernel_rfl) fun _ u => hend u q cap g _ (own_kept ho hs3.1 (fun b h e => hne (by
      have h1 : q = b := by simpa [Value.ownBlock] using h
      have h2 : g = b := by simpa using e
      omega))) (hs3.2 _ _ hg) hgb hne hW2
  have P2 : ∀ (u : Nat → Value) (q cap : Nat) (W : World) (hb : Below B.heap.size B W) (ho : W.ownsRow B.heap.size 9 1 (.slice (some ⟨q, 0, none⟩) m cap) m (ns.map Value.string)), wpS Tryz.prog lc1Ops Q (fun W => Below B.heap.size B W) (unl 9 [7, 8], frL u 31 [(1, .pointer (some ⟨A, 0, none⟩)), (2, .pointer (some ⟨R, 0, none⟩)), (11, .agg #[.int .i64 s, .slice (some ⟨q, 0, none⟩) m cap, .slice none 0 0])]) [] W := by
    intro u q cap W hb ho
    refine T_one 7 (by kernel_rfl) fun _ => ?_
    exact O_val (w' := W.alloc (.cells #[.int .i64 0, .slice none 0 0, .slice none 0 0] 26)) (some 3) (.pointer (some ⟨W.heap.size, 0, none⟩)) (by kernel_rfl) (by kernel_rfl) (hb.alloc hb.size _) (T_fr 9 31 [8] [(1, .pointer (some ⟨A, 0, none⟩)), (2, .pointer (some ⟨R, 0, none⟩)), (3, .pointer (some ⟨W.heap.size, 0, none⟩)), (11, .agg #[.int .i64 s, .slice (some ⟨q, 0, none⟩) m cap, .slice none 0 0])] (by kernel_rfl) fun u => Q2 u q cap _ (hb.alloc hb.size _) (own_below ho ((Below.refl _ _).alloc (Nat.le_refl _) _)) _ (row3_alloc W _ _ _ _) hb.size)
  have Q1 : ∀ (u : Nat → Value) (g0 : Nat) (W : World) (hb : Below B.heap.size B W) (ho : W.ownsRow B.heap.size 9 1 (.slice (some ⟨g0, 0, none⟩) 0 0) 0 []) (g : Nat) (hg : W.rowIs g 26 3 (row3 (.int .i64 0) (.slice none 0 0) (.slice none 0 0))) (hgb : B.heap.size ≤ g), wpS Tryz.prog lc1Ops Q (fun W => Below B.heap.size B W) (unl 9 [5, 6, 8], frL u 31 [(1, .pointer (some ⟨A, 0, none⟩)), (2, .pointer (some ⟨R, 0, none⟩)), (3, .pointer (some ⟨g, 0, none⟩)), (6, .int .i64 s), (7, .slice (some ⟨g0, 0, none⟩) 0 0), (9, .slice an m cn)]) [] W := by
    intro u g0 W hb ho g hg hgb
    obtain ⟨i0, hi0, hi1, hi2, hi3⟩ := infoStrV
    refine T_one 5 (by kernel_rfl) fun _ => O_list (some 10) (by kernel_rfl) ?_
    refine append_copy W (by kernel_rfl) (.tmp 7) (.tmp 9) 23 (by kernel_rfl) B.heap.size 9 i0 (.string ByteArray.empty) 1 16 Tryz.underlying23 hi0 hi1 hi2 hi3 rfl (by decide) g0 (by kernel_rfl) ho an m cn (ns.map Value.string) (by kernel_rfl) (by rw [List.length_map, hm, Nat.mul_one]) (fun h0 => (hsrc h0).imp fun ad h => ⟨h.1, fun j u hj => (hb.cell (p := ad.add j) (by unfold Addr.add; split <;> exact h.2.1)).trans (h.2.2 j u hj)⟩) (fun u hu => by obtain ⟨x, -, rfl⟩ := List.mem_map.1 hu; rfl) (by unfold maxLen; omega) (by omega) hb.size ?_
    intro q cap W3 ho3 hgr
    have hb3 : Below B.heap.size B W3 := hb.grown hgr.out hb.size (fun b e => by
      have h1 : g0 = b := by simpa using e
      have := (ho.lt g0 rfl).1; omega)
    refine ⟨hb3, _, put_putL .., ?_⟩
    exact T_z hq [6] (by kernel_rfl) (T_fr 9 31 [8] [(1, .pointer (some ⟨A, 0, none⟩)), (2, .pointer (some ⟨R, 0, none⟩)), (3, .pointer (some ⟨g, 0, none⟩)), (11, .agg #[.int .i64 s, .slice (some ⟨q, 0, none⟩) m cap, .slice none 0 0])] (by kernel_rfl) fun u => Q2 u q cap W3 hb3 ho3.out g (hg.of_block (hgr.out.block g hg.lt (fun e => ownTy_ne ho hg (by decide) e.symm))) hgb)
  have P1 : ∀ (u : Nat → Value) (g0 : Nat) (W : World) (hb : Below B.heap.size B W) (ho : W.ownsRow B.heap.size 9 1 (.slice (some ⟨g0, 0, none⟩) 0 0) 0 []), wpS Tryz.prog lc1Ops Q (fun W => Below B.heap.size B W) (unl 9 [5, 6, 7, 8], frL u 31 [(1, .pointer (some ⟨A, 0, none⟩)), (2, .pointer (some ⟨R, 0, none⟩)), (6, .int .i64 s), (7, .slice (some ⟨g0, 0, none⟩) 0 0), (9, .slice an m cn)]) [] W := by
    intro u g0 W hb ho
    refine T_two 5 7 (by kernel_rfl) (fun _ => ?_) fun _ => ?_
    · skip
      obtain ⟨i0, hi0, hi1, hi2, hi3⟩ := infoStrV
      refine O_list (some 10) (by kernel_rfl) ?_
      refine append_copy W (by kernel_rfl) (.tmp 7) (.tmp 9) 23 (by kernel_rfl) B.heap.size 9 i0 (.string ByteArray.empty) 1 16 Tryz.underlying23 hi0 hi1 hi2 hi3 rfl (by decide) g0 (by kernel_rfl) ho an m cn (ns.map Value.string) (by kernel_rfl) (by rw [List.length_map, hm, Nat.mul_one]) (fun h0 => (hsrc h0).imp fun ad h => ⟨h.1, fun j u hj => (hb.cell (p := ad.add j) (by unfold Addr.add; split <;> exact h.2.1)).trans (h.2.2 j u hj)⟩) (fun u hu => by obtain ⟨x, -, rfl⟩ := List.mem_map.1 hu; rfl) (by unfold maxLen; omega) (by omega) hb.size ?_
      intro q cap W3 ho3 hgr
      have hb3 : Below B.heap.size B W3 := hb.grown hgr.out hb.size (fun b e => by
        have h1 : g0 = b := by simpa using e
        have := (ho.lt g0 rfl).1; omega)
      refine ⟨hb3, _, put_putL .., ?_⟩
      exact T_z hq [6] (by kernel_rfl) (T_fr 9 31 [7, 8] [(1, .pointer (some ⟨A, 0, none⟩)), (2, .pointer (some ⟨R, 0, none⟩)), (11, .agg #[.int .i64 s, .slice (some ⟨q, 0, none⟩) m cap, .slice none 0 0])] (by kernel_rfl) fun u => P2 u q cap W3 hb3 ho3.out)
    · exact O_val (w' := W.alloc (.cells #[.int .i64 0, .slice none 0 0, .slice none 0 0] 26)) (some 3) (.pointer (some ⟨W.heap.size, 0, none⟩)) (by kernel_rfl) (by kernel_rfl) (hb.alloc hb.size _) (T_fr 9 31 [5, 6, 8] [(1, .pointer (some ⟨A, 0, none⟩)), (2, .pointer (some ⟨R, 0, none⟩)), (3, .pointer (some ⟨W.heap.size, 0, none⟩)), (6, .int .i64 s), (7, .slice (some ⟨g0, 0, none⟩) 0 0), (9, .slice an m cn)] (by kernel_rfl) fun u => Q1 u g0 _ (hb.alloc hb.size _) (own_below ho ((Below.refl _ _).alloc (Nat.le_refl _) _)) _ (row3_alloc W _ _ _ _) hb.size)
  have hemp : ∀ W, Below B.heap.size B W → (W.alloc (.cells #[] 9)).ownsRow B.heap.size 9 1 (.slice (some ⟨W.heap.size, 0, none⟩) 0 0) 0 [] := fun W hb => empty_row (World.rowIs_alloc W #[] 9 (fun _ => .bool false) (fun i hi => by simp at hi)) hb.size
  have Q0 : ∀ (u : Nat → Value) (W : World) (hb : Below B.heap.size B W) (g : Nat) (hg : W.rowIs g 26 3 (row3 (.int .i64 0) (.slice none 0 0) (.slice none 0 0))) (hgb : B.heap.size ≤ g), wpS Tryz.prog lc1Ops Q (fun W => Below B.heap.size B W) (unl 9 [2, 5, 6, 8], frL u 31 [(1, .pointer (some ⟨A, 0, none⟩)), (2, .pointer (some ⟨R, 0, none⟩)), (3, .pointer (some ⟨g, 0, none⟩)), (6, .int .i64 s), (9, .slice an m cn)]) [] W := by
    intro u W hb g hg hgb
    refine T_one 2 (by kernel_rfl) fun _ => ?_
    exact O_val (w' := W.alloc (.cells #[] 9)) (some 7) (.slice (some ⟨W.heap.size, 0, none⟩) 0 0) (by kernel_rfl) (by kernel_rfl) (hb.alloc hb.size _) (T_fr 9 31 [5, 6, 8] [(1, .pointer (some ⟨A, 0, none⟩)), (2, .pointer (some ⟨R, 0, none⟩)), (3, .pointer (some ⟨g, 0, none⟩)), (6, .int .i64 s), (7, .slice (some ⟨W.heap.size, 0, none⟩) 0 0), (9, .slice an m cn)] (by kernel_rfl) fun u => Q1 u _ _ (hb.alloc hb.size _) (hemp W hb) g (hg.alloc _) hgb)
  have P0 : ∀ (u : Nat → Value) (W : World) (hb : Below B.heap.size B W), wpS Tryz.prog lc1Ops Q (fun W => Below B.heap.size B W) (unl 9 [2, 5, 6, 7, 8], frL u 31 [(1, .pointer (some ⟨A, 0, none⟩)), (2, .pointer (some ⟨R, 0, none⟩)), (6, .int .i64 s), (9, .slice an m cn)]) [] W := by
    intro u W hb
    refine T_two 2 7 (by kernel_rfl) (fun _ => ?_) fun _ => ?_
    · exact O_val (w' := W.alloc (.cells #[] 9)) (some 7) (.slice (some ⟨W.heap.size, 0, none⟩) 0 0) (by kernel_rfl) (by kernel_rfl) (hb.alloc hb.size _) (T_fr 9 31 [5, 6, 7, 8] [(1, .pointer (some ⟨A, 0, none⟩)), (2, .pointer (some ⟨R, 0, none⟩)), (6, .int .i64 s), (7, .slice (some ⟨W.heap.size, 0, none⟩) 0 0), (9, .slice an m cn)] (by kernel_rfl) fun u => P1 u _ _ (hb.alloc hb.size _) (hemp W hb))
    · exact O_val (w' := W.alloc (.cells #[.int .i64 0, .slice none 0 0, .slice none 0 0] 26)) (some 3) (.pointer (some ⟨W.heap.size, 0, none⟩)) (by kernel_rfl) (by kernel_rfl) (hb.alloc hb.size _) (T_fr 9 31 [2, 5, 6, 8] [(1, .pointer (some ⟨A, 0, none⟩)), (2, .pointer (some ⟨R, 0, none⟩)), (3, .pointer (some ⟨W.heap.size, 0, none⟩)), (6, .int .i64 s), (9, .slice an m cn)] (by kernel_rfl) fun u => Q0 u _ (hb.alloc hb.size _) _ (row3_alloc W _ _ _ _) hb.size)
  refine T_z hq [0, 3] (by kernel_rfl) ?_
  refine T_a hq [1, 4] (fun w' h => .cons (ldIntJ _ ⟨A, 0, none⟩ (.int .i64 s) ((hA.of_block (h.block _ hA.lt)).cell (i := 0) (by omega))) (.cons (ldStrsF _ ⟨A, 1, none⟩ (.slice an m cn) ((hA.of_block (h.block _ hA.lt)).cell (i := 1) (by omega))) Lds.nil)) (by kernel_rfl) ?_
  exact T_fr 9 31 [2, 5, 6, 7, 8] [(1, .pointer (some ⟨A, 0, none⟩)), (2, .pointer (some ⟨R, 0, none⟩)), (6, .int .i64 s), (9, .slice an m cn)] (by kernel_rfl) fun u => P0 u _ (Below.refl _ _)
/-- An answer that is a schema in new memory. -/
def KE (t : Kd) (w : World) (e : Ending) (w' : World) : Prop := ∃ d : C3, e = .returned (.agg #[d.c0, d.c1, d.c2]) ∧ KRep (New w w') w' t d ∧ Below w.heap.size w w'
theorem strs_srcJ {P : Nat → Prop} {W : World} {v : Value} {ns : List ByteArray} (h : StrsAt P W v ns) (hP : ∀ b, P b → b < W.heap.size) : ∃ an cn, v = .slice an ns.length cn ∧ (0 < ns.length → ∃ ad, an = some ad ∧ ad.block < W.heap.size ∧ ∀ j u, (ns.map Value.string)[j]? = some u → W.cell? (ad.add j) = some u) := by
  obtain ⟨an, cn, e, -, hc⟩ := h
  refine ⟨an, cn, e, fun h0 => ?_⟩
  obtain ⟨b, o, rfl, hb, -, -⟩ := hc 0 h0
  refine ⟨⟨b, o, none⟩, rfl, hP b hb, fun j u hj => ?_⟩
  have hjl : j < ns.length := by
    have := (List.getElem?_eq_some_iff.1 hj).1
    simpa using this
  obtain ⟨b', o', e', hb', hcj, -⟩ := hc j hjl
  simp only [Option.some.injEq, Addr.mk.injEq, and_true] at e'
  obtain ⟨rfl, rfl⟩ := e'
  rw [Addr.add_lit, hcj]
  have : (ns.map Value.string)[j]? = some (.string ns[j]) := by rw [List.getElem?_map, List.getElem?_eq_getElem hjl]; rfl
  rw [this] at hj
  exact hj
theorem SK.start {W : World} {lo q cap g m : Nat} {s : Int} {ns : List ByteArray} (hm : ns.length = m) (ho : W.ownsRow lo 9 1 (.slice (some ⟨q, 0, none⟩) m cap) m (ns.map Value.string)) (hr : W.rowIs g 26 3 (row3 (.int .i64 s) (.slice (some ⟨q, 0, none⟩) m cap) (.slice none 0 0))) (hg : lo ≤ g) (hne : q ≠ g) : SK lo g W s (.slice (some ⟨q, 0, none⟩) m cap) (.slice none 0 0) ns [] [] (fun _ => False) :=
  ⟨hg, hr, by rw [hm]; exact ho, World.ownsRow_nil _ _ _ _, fun b hb => ⟨fun e => hne ((show q = b by simpa [Value.ownBlock] using hb).trans e), fun e => by cases e⟩, fun e => (by cases e), ⟨rfl, fun i hi => by simp at hi⟩, fun b hb => hb.elim⟩
def CpS (n : Nat) : Prop := ∀ (t : Kd), ksz t < n → ∀ (c : C3) (w : World), KRep (fun b => b < w.heap.size) w t c → okD t = true → ksz t ≤ 40 → Calls Tryz.prog 70 #[.agg #[c.c0, c.c1, c.c2]] w (KE t w)
set_option maxRecDepth 100000 in
set_option maxHeartbeats 3200000 in
theorem l3Copy_step (n : Nat) (IH : CpS n) : CpS (n + 1) := by
  intro t hn c w hrep hok hsz
  have hlen : t.kids.length ≤ 40 := by
    have := klszLen t.kids
    have e := ksz_eq t
    omega
  have hsh := okD_sh hok
  have hnl : t.names.length ≤ 40 := by rcases hsh with h | h | h <;> omega
  have hns8 : ∀ x, x ∈ t.names → x.size ≤ 9223372036854775807 := fun x hx => by
    rcases hsh with h | h | h
    · have : t.names = [] := List.eq_nil_of_length_eq_zero h.2.2
      rw [this] at hx; cases hx
    · have : t.names = [] := List.eq_nil_of_length_eq_zero h.2.2
      rw [this] at hx; cases hx
    · have := name_size ((rise_iff.1 h.2.2).2 x hx); omega
  obtain ⟨c0, c1, c2⟩ := c
  obtain ⟨e0, hI0, hns, a, cap, e2, -, hks⟩ := hrep.open
  simp only at e0 e2 hns
  obtain ⟨a3, cap3, e1, -⟩ := id hns
  subst e0 e1 e2
  have hra := (row3_alloc w (.int .i64 t.sort) (.slice a3 t.names.length cap3) (.slice a t.kids.length cap) 26).alloc (.cells #[.int .i64 0, .slice none 0 0, .slice none 0 0] 26)
  have hrr := row3_alloc (w.alloc (.cells #[.int .i64 t.sort, .slice a3 t.names.length cap3, .slice a t.kids.length cap] 26)) (.int .i64 0) (.slice none 0 0) (.slice none 0 0) 26
  rw [World.size_alloc] at hrr
  have hbw : Below w.heap.size w ((w.alloc (.cells #[.int .i64 t.sort, .slice a3 t.names.length cap3, .slice a t.kids.length cap] 26)).alloc (.cells #[.int .i64 0, .slice none 0 0, .slice none 0 0] 26)) := ((Below.refl _ _).alloc (Nat.le_refl _) _).alloc (by simp) _
  have hs2 : ((w.alloc (.cells #[.int .i64 t.sort, .slice a3 t.names.length cap3, .slice a t.kids.length cap] 26)).alloc (.cells #[.int .i64 0, .slice none 0 0, .slice none 0 0] 26)).heap.size = w.heap.size + 2 := by simp
  have HNS := hide hns; have HK := hide hks; have HI := hide IH; have HI0 := hide hI0
  have HOKK := hide (fun i (hi : i < t.kids.length) => (⟨okD_kid hok i hi, by have := ksz_kid (List.getElem_mem hi); omega, by have := ksz_kid (List.getElem_mem hi); omega⟩ : okD t.kids[i] = true ∧ ksz t.kids[i] ≤ 40 ∧ ksz t.kids[i] < n))
  clear hns hks IH hrep hok hsz hsh hI0
  go_enter Tryz.func70, Tryz.ntmps70
  go_upto_region 1 with fail
  generalize ((w.alloc (.cells #[.int .i64 t.sort, .slice a3 t.names.length cap3, .slice a t.kids.length cap] 26)).alloc (.cells #[.int .i64 0, .slice none 0 0, .slice none 0 0] 26)) = W0 at hra hrr hbw hs2 ⊢
  refine wp_swap (c' := Code.region 1 lc1Ops true) (by kernel_rfl) ?_
  refine wp_region_noPanic ?_
  have hd := hbw.drew
  have hst := (unhide HNS).carry (Q := fun b => b < W0.drew.heap.size) (fun b hb => hd.block b hb) (fun b hb => Nat.lt_of_lt_of_le hb hd.size)
  obtain ⟨an, cn, e9, hsrc⟩ := strs_srcJ hst (fun b hb => hb)
  simp only [Value.slice.injEq, true_and] at e9
  obtain ⟨rfl, rfl⟩ := e9
  refine lc1 w.heap.size (w.heap.size + 1) t.sort a3 t.names.length cap3 (.slice a t.kids.length cap) t.names W0 _ (fun _ _ _ _ _ h => h) (hra.of_block rfl) rfl (by omega) hsrc (by kernel_rfl) ?_
  intro u q qc g W1 ho hr hg hne hb1
  refine NoPanic.normal ?_
  simp only [frL_eq, frG, List.lookup, Nat.reduceBEq, Nat.reduceAdd, Option.getD_some, Option.getD_none]
  have hsd : W0.drew.heap.size = w.heap.size + 2 := hs2
  rw [hsd] at ho hg hb1
  have HSK0 := hide (SK.start rfl ho hr hg hne)
  have HRA := hide ((hra.of_block (w' := W0.drew) rfl).of_block (hb1.block _ (by omega)))
  have HRR := hide ((hrr.of_block (w' := W0.drew) rfl).of_block (hb1.block _ (by omega)))
  have HBW := hide (hd.trans (hb1.mono (by omega)))
  have HL1 := hide (show w.heap.size + 2 ≤ W1.heap.size by have := hb1.size; omega)
  clear ho hr hg hne hb1 hra hrr hbw hs2 hd hst hsrc HNS hsd
  generalize hks : t.kids = ks at *
  have HKS := hide hks; clear hks
  go_wp2_with fail
  go_loopw [4] (fun vi wr => ∃ (k : Nat) (a' : Option Addr) (cap' : Nat) (xs : List Value) (P : Nat → Prop), k ≤ ks.length ∧ vi = .int .i64 k ∧ Hid (SK (w.heap.size + 2) g wr t.sort (.slice (some ⟨q, 0, none⟩) t.names.length qc) (.slice a' k cap') t.names (ks.take k) xs P) ∧ Hid (Below (w.heap.size + 2) W1 wr)) (fun vi _ => ks.length - (intOf vi).toNat)
  case atStart => exact ⟨0, none, 0, [], _, Nat.zero_le _, rfl, HSK0, Below.refl _ _⟩
  case round =>
    obtain ⟨k, a', cap', xs, P, hk, rfl, HS, HB⟩ := hrel
    have hl1 := unhide HL1
    have hra := (unhide HRA).of_block ((unhide HB).block _ (by omega))
    have hbw : Below w.heap.size w wr := (unhide HBW).trans ((unhide HB).mono (by omega))
    have x2 := hra.cell (i := 2) (by omega)
    simp only [row3] at x2
    by_cases hlt : k < ks.length
    · obtain ⟨b, o, ck, rfl, hpb, hcell, hrp⟩ := unhide HK k hlt
      obtain ⟨y1, v1, y2, v2, rfl⟩ := krepF hrp
      obtain ⟨f0, f1, f2⟩ := hcell.carry (hbw.block b hpb)
      simp only at f0 f1 f2
      obtain ⟨ho1, ho2, ho3⟩ := unhide HOKK k hlt
      have hcl := unhide HI ks[k] ho3 ⟨.int .i64 ks[k].sort, .slice y1 ks[k].names.length v1, .slice y2 ks[k].kids.length v2⟩ wr.drew (KRep.carry (fun b hb => hbw.drew.block b hb) (fun b hb => Nat.lt_of_lt_of_le hb hbw.drew.size) _ _ hrp) ho1 ho2
      have hsk := (unhide HS).on (Below.refl wr.heap.size wr).drew
      have htk : ks.take (k + 1) = ks.take k ++ [ks[k]] := List.take_succ_eq_append_getElem hlt
      have hlk : (ks.take k).length = k := by simp; omega
      generalize ks[k] = x at *
      have HSK := hide hsk; have HCL := hide hcl; have HTK := hide htk; have HLK := hide hlk
      have HX := hide (show K3 wr.drew b (o + k * 3) ⟨.int .i64 x.sort, .slice y1 x.names.length v1, .slice y2 x.kids.length v2⟩ from ⟨Nat.lt_of_lt_of_le hpb hbw.size, f0, f1, f2⟩)
      have HX2 := hide x2
      clear hsk hcl htk hlk hcell hrp f0 f1 f2 hra hbw ho1 ho2 ho3
      go_upto_region 5 with fail
      refine wp_swap (c' := Code.region 5 lc5Ops true) (by kernel_rfl) ?_
      refine wp_region_noPanic ?_
      have hcl2 : Calls Tryz.prog 70 #[.agg #[.int .i64 x.sort, .slice y1 x.names.length v1, .slice y2 x.kids.length v2]] wr.drew fun e w' => ∃ d : C3, e = .returned (.agg #[d.c0, d.c1, d.c2]) ∧ KRep (New wr.drew w') w' x d ∧ Below wr.drew.heap.size wr.drew w' := unhide HCL
      refine lc5 (w.heap.size + 2) w.heap.size g b o ks.length cap k ⟨.int .i64 x.sort, .slice y1 x.names.length v1, .slice y2 x.kids.length v2⟩ t.sort (.slice (some ⟨q, 0, none⟩) t.names.length qc) a' k cap' t.names (ks.take k) xs P x wr _ (fun _ _ _ _ _ h => h) (by omega) (unhide HX2) (by omega) (unhide HX) hlt (by omega) (unhide HLK) (unhide HSK) (by with_reducible exact hcl2) (by kernel_rfl) (fun u => by kernel_rfl) ?_
      intro u a2 cap2 xs2 P2 W9 hsk9 hb9
      refine NoPanic.normal ?_
      simp only [List.take_succ_cons, List.take_zero, List.drop_succ_cons, List.drop_zero, List.cons_append, List.nil_append]
      rw [← unhide HTK] at hsk9
      have hb8 : Below (w.heap.size + 2) W1 W9 := HB.out.trans (((Below.refl (w.heap.size + 2) wr).drew).trans hb9)
      have HS9 := hide hsk9; have HB9 := hide hb8

      clear hsk9 hb8 hb9 x2 hcl2
      go_wp2_with fail
      go_roundw
      case rel => exact ⟨k + 1, a2, cap2, xs2, P2, hlt, numU k, HS9, HB9⟩
      case measure => exact measU hlt
    · obtain rfl : k = ks.length := by omega
      have hS := unhide HS
      rw [List.take_length] at hS
      obtain ⟨n1, q1, n2, q2, en, ek, hfin⟩ := hS.rep (unhide HI0) hns8 (by omega)
      have hz := hS.box
      have t0 := hz.cell (i := 0) (by omega); have t1 := hz.cell (i := 1) (by omega); have t2 := hz.cell (i := 2) (by omega)
      have hrr := (unhide HRR).of_block ((unhide HB).block _ (by omega))
      have r0 := hrr.cell (i := 0) (by omega); have r1 := hrr.cell (i := 1) (by omega); have r2 := hrr.cell (i := 2) (by omega); have rf := hrr.frozen
      simp only [row3] at t0 t1 t2 r0 r1 r2
      have HF := hide hfin; have HBF := hide hbw
      have htk : (.mk t.sort t.names ks : Kd) = t := by obtain ⟨s, n, k⟩ := t; rw [← unhide HKS]; rfl
      have HT := hide htk
      clear hS hfin hz hrr hra hbw htk en ek
      go_wp2_with fail
      refine bodyPost_ret (v := .agg #[.int .i64 t.sort, .slice (some ⟨q, 0, none⟩) t.names.length qc, .slice a' ks.length cap']) (by simp [results, Tryz.results70, go_sem, r0, r1, r2]) rfl ?_
      have h3 := but3 wr (w.heap.size + 1) (.int .i64 t.sort) (.slice (some ⟨q, 0, none⟩) t.names.length qc) (.slice a' ks.length cap')
      refine ⟨⟨.int .i64 t.sort, .slice (some ⟨q, 0, none⟩) t.names.length qc, .slice a' ks.length cap'⟩, rfl, ?_, below3 (unhide HBF) (by omega) _ _ _⟩
      rw [← unhide HT]
      exact KRep.carry (fun b hb => h3.at hb.2.1 (by omega)) (fun b hb => ⟨by omega, by rw [size_setCell, size_setCell, size_setCell]; exact hb.2.1⟩) _ _ (unhide HF)
theorem l3Copy_all (n : Nat) : CpS n := by
  induction n with
  | zero => exact fun t h => absurd h (by omega)
  | succ n IH => exact l3Copy_step n IH
end Go.Proofs.YtenpghndgdemnaaGreatDoor

/- The walks of the specification's l3Bare and l3Maybe. Conditions: schemas that are ok, of at most 40 parts. -/

namespace Go.Proofs.YtenpghndgdemnaaGreatDoor
open Go Go.RowKit

/-- A box with a schema, and an empty one behind it. -/
structure B2 (w W : World) (c : C3) : Prop where
  below : Below w.heap.size w W
  size : W.heap.size = w.heap.size + 2
  a : W.rowIs w.heap.size 26 3 (row3 c.c0 c.c1 c.c2)
  r : W.rowIs (w.heap.size + 1) 26 3 (row3 (.int .i64 0) (.slice none 0 0) (.slice none 0 0))
theorem B2.start (w : World) (c0 c1 c2 : Value) : B2 w ((w.alloc (.cells #[c0, c1, c2] 26)).alloc (.cells #[.int .i64 0, .slice none 0 0, .slice none 0 0] 26)) ⟨c0, c1, c2⟩ := by
  have h2 := row3_alloc (w.alloc (.cells #[c0, c1, c2] 26)) (.int .i64 0) (.slice none 0 0) (.slice none 0 0) 26
  rw [World.size_alloc] at h2
  exact ⟨((Below.refl _ _).alloc (Nat.le_refl _) _).alloc (by simp) _, by simp, (row3_alloc w _ _ _ _).alloc _, h2⟩
theorem krep_one {P : Nat → Prop} {W : World} {t : Kd} {d : C3} {b : Nat} {s : Int} (hs : I64 s) (h0 : W.cell? ⟨b, 0, none⟩ = some d.c0) (h1 : W.cell? ⟨b, 1, none⟩ = some d.c1) (h2 : W.cell? ⟨b, 2, none⟩ = some d.c2) (hP : P b) (hr : KRep P W t d) (p : Nat) : KRep P W (.mk s [] [t]) ⟨.int .i64 s, .slice none 0 0, .slice (some ⟨b, 0, none⟩) 1 p⟩ := by
  rw [KRep]
  refine ⟨rfl, hs, ⟨none, 0, rfl, by decide, fun i hi => absurd hi (Nat.not_lt_zero i)⟩, some ⟨b, 0, none⟩, p, rfl, (show 1 ≤ 9223372036854775807 by decide), fun _ => ⟨b, 0, rfl, hP, ?_⟩⟩
  rw [KRepK, KRepK]
  exact ⟨⟨d, ⟨h0, h1, h2⟩, hr⟩, trivial⟩
theorem KE.wrap {t : Kd} {w W0 W : World} {c0 c1 c2 : Value} {R : Nat} (s : Int) (hs : I64 s) (h : KRep (New W0 W) W t ⟨c0, c1, c2⟩) (hb : Below w.heap.size w W) (hR : w.heap.size ≤ R) (hm : R < W0.heap.size) (v0 v1 v2 : Value) :
    KE (.mk s [] [t]) w (.returned (.agg #[.int .i64 s, .slice none 0 0, .slice (some ⟨W.heap.size, 0, none⟩) 1 1])) ((((W.setCell ⟨R, 0, none⟩ v0).setCell ⟨R, 1, none⟩ v1).setCell ⟨R, 2, none⟩ v2).alloc (.cells #[c0, c1, c2] 26)) := by
  have hz : (((W.setCell ⟨R, 0, none⟩ v0).setCell ⟨R, 1, none⟩ v1).setCell ⟨R, 2, none⟩ v2).heap.size = W.heap.size := by rw [size_setCell, size_setCell, size_setCell]
  have h3 := but3 W R v0 v1 v2
  have hb3 := below3 hb hR v0 v1 v2
  generalize (((W.setCell ⟨R, 0, none⟩ v0).setCell ⟨R, 1, none⟩ v1).setCell ⟨R, 2, none⟩ v2) = X at *
  have hn := row3_alloc X c0 c1 c2 26
  rw [hz] at hn
  refine ⟨⟨_, _, _⟩, rfl, ?_, hb3.alloc hb3.size _⟩
  refine krep_one (d := ⟨c0, c1, c2⟩) hs (hn.cell (i := 0) (by omega)) (hn.cell (i := 1) (by omega)) (hn.cell (i := 2) (by omega)) ⟨by have := hb.size; omega, by rw [World.size_alloc, hz]; omega⟩ (KRep.carry (fun b hb' => (Below.heap_alloc _ _ _ (by rw [hz]; exact hb'.2)).trans (h3.at hb'.2 (by have := hb'.1; omega))) (fun b hb' => ⟨by have := hb'.1; omega, by rw [World.size_alloc, hz]; have := hb'.2; omega⟩) _ _ h) 1
set_option maxRecDepth 100000 in
set_option maxHeartbeats 3200000 in
theorem l3Bare_any (a : Kd) (c : C3) (w : World) (h : KW w a c) : Calls Tryz.prog 45 #[.agg #[c.c0, c.c1, c.c2]] w fun e w' => Below w.heap.size w w' ∧ ∃ y : C3, e = .returned (.agg #[y.c0, y.c1, y.c2]) ∧ KW w' (bareK a) y := by
  obtain ⟨a1, p1, a2, p2, rfl⟩ := krepF h.rep
  have hb := B2.start w (.int .i64 a.sort) (.slice a1 a.names.length p1) (.slice a2 a.kids.length p2)
  have ends : ∀ (W : World) (v0 v1 v2 : Value), B2 w W ⟨.int .i64 a.sort, .slice a1 a.names.length p1, .slice a2 a.kids.length p2⟩ → Below w.heap.size w (((W.setCell ⟨w.heap.size + 1, 0, none⟩ v0).setCell ⟨w.heap.size + 1, 1, none⟩ v1).setCell ⟨w.heap.size + 1, 2, none⟩ v2) := fun W v0 v1 v2 hW => below3 hW.below (by omega) _ _ _
  by_cases h6 : a.sort = 6
  · have hk : a.kids.length = 1 := by rcases h.sh with h | h | h <;> omega
    obtain ⟨xb, xo, xc, x1, x2, s1, s2, ex, hxl, x0, x3, x4, hx⟩ := h.kid (i := 0) (by omega)
    simp only [Value.slice.injEq] at ex
    obtain ⟨rfl, -, rfl⟩ := ex
    rw [bare_mb h6 (by omega)]
    generalize (a.kids[0]'(by omega)) = ka at *
    rw [hk] at hb ends ⊢
    have g0 := (hb.below.cell (show (⟨xb, xo + 0 * 3, none⟩ : Addr).block < w.heap.size from hxl)); have g1 := (hb.below.cell (show (⟨xb, xo + 0 * 3 + 1, none⟩ : Addr).block < w.heap.size from hxl)); have g2 := (hb.below.cell (show (⟨xb, xo + 0 * 3 + 2, none⟩ : Addr).block < w.heap.size from hxl))
    rw [x0] at g0; rw [x3] at g1; rw [x4] at g2
    simp only [Nat.zero_mul, Nat.add_zero] at g0 g1 g2
    have hxl' : xb ≠ w.heap.size ∧ xb ≠ w.heap.size + 1 := ⟨by omega, by omega⟩
    have e0 := hb.a.cell (i := 0) (by omega); have e2 := hb.a.cell (i := 2) (by omega)
    have r0 := hb.r.cell (i := 0) (by omega); have r1 := hb.r.cell (i := 1) (by omega); have r2 := hb.r.cell (i := 2) (by omega); have rf := hb.r.frozen
    simp only [row3] at e0 e2 r0 r1 r2
    have HB := hide hb; have HX := hide hx; have HE := hide ends
    have ht : (a.sort == 6) = true := by rw [h6]; rfl
    clear hb h h6 x0 x3 x4 hx ends hk
    go_enter Tryz.func45, Tryz.ntmps45
    go_upto_region 1 with fail
    generalize ((w.alloc (.cells #[.int .i64 a.sort, .slice a1 a.names.length p1, .slice (some ⟨xb, xo, none⟩) 1 p2] 26)).alloc (.cells #[.int .i64 0, .slice none 0 0, .slice none 0 0] 26)) = W0 at *
    go_wp2_with fail
    refine bodyPost_ret (v := .agg #[.int .i64 ka.sort, .slice x1 ka.names.length s1, .slice x2 ka.kids.length s2]) (by simp [results, Tryz.results45, go_sem, r0, r1, r2]) rfl ?_
    exact ⟨unhide HE _ _ _ _ (unhide HB), ⟨_, _, _⟩, rfl, (unhide HX).on (unhide HE _ _ _ _ (unhide HB))⟩
  · rw [bare_no h6]
    have e0 := hb.a.cell (i := 0) (by omega); have e1 := hb.a.cell (i := 1) (by omega); have e2 := hb.a.cell (i := 2) (by omega)
    have r0 := hb.r.cell (i := 0) (by omega); have r1 := hb.r.cell (i := 1) (by omega); have r2 := hb.r.cell (i := 2) (by omega); have rf := hb.r.frozen
    simp only [row3] at e0 e1 e2 r0 r1 r2
    have HB := hide hb; have HX := hide h; have HE := hide ends
    have ht : (a.sort == 6) = false := by rw [beq_eq_false_iff_ne]; exact h6
    clear hb h h6 ends
    go_enter Tryz.func45, Tryz.ntmps45
    go_upto_region 1 with fail
    generalize ((w.alloc (.cells #[.int .i64 a.sort, .slice a1 a.names.length p1, .slice a2 a.kids.length p2] 26)).alloc (.cells #[.int .i64 0, .slice none 0 0, .slice none 0 0] 26)) = W0 at *
    go_wp2_with fail
    refine bodyPost_ret (v := .agg #[.int .i64 a.sort, .slice a1 a.names.length p1, .slice a2 a.kids.length p2]) (by simp [results, Tryz.results45, go_sem, r0, r1, r2]) rfl ?_
    exact ⟨unhide HE _ _ _ _ (unhide HB), ⟨_, _, _⟩, rfl, (unhide HX).on (unhide HE _ _ _ _ (unhide HB))⟩
set_option maxRecDepth 100000 in
set_option maxHeartbeats 3200000 in
theorem l3Maybe_any (a : Kd) (c : C3) (w : World) (h : KW w a c) (hsz : ksz a ≤ 40) : Calls Tryz.prog 46 #[.agg #[c.c0, c.c1, c.c2]] w (KE (loneK a) w) := by
  obtain ⟨a1, p1, a2, p2, rfl⟩ := krepF h.rep
  have hb := B2.start w (.int .i64 a.sort) (.slice a1 a.names.length p1) (.slice a2 a.kids.length p2)
  have hcp : ∀ W, Below w.heap.size w W → Calls Tryz.prog 70 #[.agg #[.int .i64 a.sort, .slice a1 a.names.length p1, .slice a2 a.kids.length p2]] W (KE a W) := fun W hW => l3Copy_all 41 a (by omega) ⟨.int .i64 a.sort, .slice a1 a.names.length p1, .slice a2 a.kids.length p2⟩ W (h.on hW).rep h.ok hsz
  have HC := hide hcp
  have e0 := hb.a.cell (i := 0) (by omega); have e1 := hb.a.cell (i := 1) (by omega); have e2 := hb.a.cell (i := 2) (by omega)
  simp only [row3] at e0 e1 e2
  have HB := hide hb
  by_cases h6 : a.sort = 6
  · have hl : loneK a = a := by unfold loneK; rw [if_pos h6]
    have ht : (a.sort == 6) = true := by rw [h6]; rfl
    rw [hl]
    clear hb h h6 hcp hl
    go_enter Tryz.func46, Tryz.ntmps46
    go_upto_region 1 with fail
    generalize ((w.alloc (.cells #[.int .i64 a.sort, .slice a1 a.names.length p1, .slice a2 a.kids.length p2] 26)).alloc (.cells #[.int .i64 0, .slice none 0 0, .slice none 0 0] 26)) = W0 at *
    go_wp2_with fail
    refine (unhide HC W0 (unhide HB).below).mono ?_
    rintro e W1 ⟨d, rfl, hr, hb1⟩
    obtain ⟨y1, q1, y2, q2, rfl⟩ := krepF hr
    have hrr := (unhide HB).r.of_block (hb1.block _ (by have := (unhide HB).size; omega))
    have r0 := hrr.cell (i := 0) (by omega); have r1 := hrr.cell (i := 1) (by omega); have r2 := hrr.cell (i := 2) (by omega); have rf := hrr.frozen
    simp only [row3] at r0 r1 r2
    have HR := hide hr; have HB1 := hide hb1
    clear hr hb1 hrr e0 e1 e2
    go_wp2_with fail
    refine bodyPost_ret (v := .agg #[.int .i64 a.sort, .slice y1 a.names.length q1, .slice y2 a.kids.length q2]) (by simp [results, Tryz.results46, go_sem, r0, r1, r2]) rfl ?_
    have h3 := but3 W1 (w.heap.size + 1) (.int .i64 a.sort) (.slice y1 a.names.length q1) (.slice y2 a.kids.length q2)
    have hs := (unhide HB).size
    have hbw : Below w.heap.size w W1 := (unhide HB).below.trans ((unhide HB1).mono (by omega))
    exact ⟨⟨_, _, _⟩, rfl, KRep.carry (fun b hb => h3.at hb.2 (by have := hb.1; omega)) (fun b hb => ⟨by have := hb.1; omega, by rw [size_setCell, size_setCell, size_setCell]; exact hb.2⟩) _ _ (unhide HR), below3 hbw (by omega) _ _ _⟩
  · have hl : loneK a = .mk 6 [] [a] := by unfold loneK; rw [if_neg h6]; rfl
    have ht : (a.sort == 6) = false := by rw [beq_eq_false_iff_ne]; exact h6
    rw [hl]
    clear hb h h6 hcp hl
    go_enter Tryz.func46, Tryz.ntmps46
    go_upto_region 1 with fail
    generalize ((w.alloc (.cells #[.int .i64 a.sort, .slice a1 a.names.length p1, .slice a2 a.kids.length p2] 26)).alloc (.cells #[.int .i64 0, .slice none 0 0, .slice none 0 0] 26)) = W0 at *
    go_wp2_with fail
    refine (unhide HC W0 (unhide HB).below).mono ?_
    rintro e W1 ⟨d, rfl, hr, hb1⟩
    obtain ⟨y1, q1, y2, q2, rfl⟩ := krepF hr
    have hs := (unhide HB).size
    have hl1 := hb1.size
    have hrr := (unhide HB).r.of_block (hb1.block _ (by omega))
    have r0 := hrr.cell (i := 0) (by omega); have r1 := hrr.cell (i := 1) (by omega); have r2 := hrr.cell (i := 2) (by omega); have rf := hrr.frozen
    simp only [row3] at r0 r1 r2
    have hbw : Below w.heap.size w W1 := (unhide HB).below.trans (hb1.mono (by omega))
    have HE := hide (KE.wrap 6 (by unfold I64; omega) hr hbw (R := w.heap.size + 1) (by omega) (by omega) (.int .i64 6) (.slice none 0 0) (.slice (some ⟨W1.heap.size, 0, none⟩) 1 1))
    have hRl := hrr.lt
    clear hr hb1 hrr e0 e1 e2 hbw hs hl1 HB HC
    go_wp2_with fail
    refine bodyPost_ret (v := .agg #[.int .i64 6, .slice none 0 0, .slice (some ⟨W1.heap.size, 0, none⟩) 1 1]) (by simp [results, Tryz.results46, go_sem, hRl, r0, r1, r2]) rfl (unhide HE)
end Go.Proofs.YtenpghndgdemnaaGreatDoor
