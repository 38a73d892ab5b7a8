/- What two schemas join to is not great. No program, no conditions. -/
import Derived.Test.YtenpghndgdemnaaGreatDoorPart24
import Derived.Test.YtenpghndgdemnaaGreatDoorPart19
import Derived.Test.YtenpghndgdemnaaGreatDoorPart10
namespace Go.Proofs.YtenpghndgdemnaaGreatDoor
open Go Go.RowKit

/-- The size of a schema, none for nothing. -/
def kz (k : Kd) : Nat := if k.sort = 0 then 0 else ksz k
theorem kz_zero {k : Kd} (h : k.sort = 0) : kz k = 0 := if_pos h
theorem kz_ne {k : Kd} (h : k.sort ≠ 0) : kz k = ksz k := if_neg h
theorem klsz_map (g : ByteArray → Kd) : ∀ U : List ByteArray, klsz (U.map g) = (U.map fun nm => ksz (g nm)).sum
  | [] => by simp [klsz]
  | a :: r => by rw [List.map_cons, klsz, klsz_map g r, List.map_cons, List.sum_cons]
theorem sum_sup (f : ByteArray → Nat) : ∀ {A U : List ByteArray}, A.Sublist U → U.Nodup → (∀ x, x ∈ U → x ∉ A → f x = 0) → (U.map f).sum = (A.map f).sum
  | _, _, .slnil, _, _ => rfl
  | A, _, .cons (l₂ := U) a h, hn, hz => by
    have h1 := List.nodup_cons.1 hn
    have ha : a ∉ A := fun hm => h1.1 (h.subset hm)
    rw [List.map_cons, List.sum_cons, hz a (by simp) ha, Nat.zero_add]
    exact sum_sup f h h1.2 fun x hx hx2 => hz x (by simp [hx]) hx2
  | _, _, .cons_cons (l₁ := A) (l₂ := U) a h, hn, hz => by
    have h1 := List.nodup_cons.1 hn
    rw [List.map_cons, List.sum_cons, List.map_cons, List.sum_cons, sum_sup f h h1.2 fun x hx hx2 => hz x (by simp [hx]) (fun hm => by
      rcases List.mem_cons.1 hm with rfl | hm
      · exact h1.1 hx
      · exact hx2 hm)]
theorem sum_le (f g : ByteArray → Nat) : ∀ U : List ByteArray, (∀ x, x ∈ U → f x ≤ g x) → (U.map f).sum ≤ (U.map g).sum
  | [], _ => Nat.le_refl _
  | a :: r, h => by
    rw [List.map_cons, List.sum_cons, List.map_cons, List.sum_cons]
    have h1 := h a (by simp)
    have h2 := sum_le f g r fun x hx => h x (by simp [hx])
    omega
theorem sum_two (f g : ByteArray → Nat) : ∀ U : List ByteArray, (U.map fun x => 2 * (f x + g x)).sum = 2 * ((U.map f).sum + (U.map g).sum)
  | [] => rfl
  | a :: r => by
    simp only [List.map_cons, List.sum_cons]
    rw [sum_two f g r]
    omega
theorem nodup_uni (a b : List ByteArray) : (uniN a b).Nodup := (uniN_rise a b).imp (fun {a b} hab e => by subst e; exact nlt_irrefl _ hab)
/-- The kids of a form, counted over more names. -/
theorem kz_names {a : Kd} (h : okD a = true) (h5 : a.sort = 5) {U : List ByteArray} (hU : U.Nodup) (hr : U.Pairwise nlt) (hs : ∀ x, x ∈ a.names → x ∈ U) : (U.map fun nm => kz (kidZ a nm)).sum = klsz a.kids := by
  obtain ⟨hl, hra⟩ := rise_names h h5
  rw [sum_sup (fun nm => kz (kidZ a nm)) (rise_sub _ _ hr (rise_pairs hra) hs) hU fun x _ hx => kz_zero (kidZ_out hx)]
  rw [kids_map h h5, klsz_map]
  refine congrArg List.sum (List.map_congr_left fun nm hm => ?_)
  exact kz_ne (kidZ_ne h h5 hm)
theorem jn_size : ∀ (n : Nat) (a b x : Kd), (a.sort = 0 ∨ okD a = true) → (b.sort = 0 ∨ okD b = true) → jnP n a b = some x → ksz x ≤ 2 * (kz a + kz b)
  | 0, _, _, _, _, _, h => by cases h
  | n + 1, a, b, x, ha, hb, h => by
    have lone : ∀ k : Kd, okD k = true → ksz (loneK k) ≤ 2 * ksz k := fun k hk => by
      have := ksz_pos k
      unfold loneK
      split
      · omega
      · rw [mbK, ksz, klsz, klsz]; omega
    by_cases na : a.sort = 0
    · by_cases nb : b.sort = 0
      · rw [jn_00 na nb] at h; cases h
      · rw [jn_0b na nb] at h
        obtain rfl := Option.some.inj h
        have := lone b (hb.resolve_left nb)
        rw [kz_zero na, kz_ne nb]; omega
    have hoa := ha.resolve_left na
    by_cases nb : b.sort = 0
    · rw [jn_a0 na nb] at h
      obtain rfl := Option.some.inj h
      have := lone a hoa
      rw [kz_ne na, kz_zero nb]; omega
    have hob := hb.resolve_left nb
    have sa := okD_sh hoa
    have sb := okD_sh hob
    rw [kz_ne na, kz_ne nb]
    by_cases h6 : a.sort = 6 ∨ b.sort = 6
    · rw [jn_mb na nb h6, Option.map_eq_some_iff] at h
      obtain ⟨y, hy, rfl⟩ := h
      have ba : okD (bareK a) = true ∧ ksz (bareK a) ≤ ksz a ∧ (a.sort = 6 → ksz (bareK a) < ksz a) := by
        by_cases g : a.sort = 6
        · have h0 : 0 < a.kids.length := by rcases sa with h | h | h <;> omega
          have hz := ksz_kid (List.getElem_mem h0)
          rw [bare_mb g h0]
          exact ⟨okD_kid hoa 0 h0, by omega, fun _ => hz⟩
        · rw [bare_no g]; exact ⟨hoa, Nat.le_refl _, fun h => absurd h g⟩
      have bb : okD (bareK b) = true ∧ ksz (bareK b) ≤ ksz b ∧ (b.sort = 6 → ksz (bareK b) < ksz b) := by
        by_cases g : b.sort = 6
        · have h0 : 0 < b.kids.length := by rcases sb with h | h | h <;> omega
          have hz := ksz_kid (List.getElem_mem h0)
          rw [bare_mb g h0]
          exact ⟨okD_kid hob 0 h0, by omega, fun _ => hz⟩
        · rw [bare_no g]; exact ⟨hob, Nat.le_refl _, fun h => absurd h g⟩
      have := jn_size n _ _ y (Or.inr ba.1) (Or.inr bb.1) hy
      rw [kz_ne (okD_ne ba.1), kz_ne (okD_ne bb.1)] at this
      rw [mbK, ksz, klsz, klsz]
      have h1 := ba.2; have h2 := bb.2
      rcases h6 with h6 | h6
      · have := h1.2 h6; omega
      · have := h2.2 h6; omega
    by_cases hne : a.sort = b.sort
    · by_cases h4 : a.sort = 4
      · have ha0 : 0 < a.kids.length := by rcases sa with h | h | h <;> omega
        have hb0 : 0 < b.kids.length := by rcases sb with h | h | h <;> omega
        have hza := ksz_kid (List.getElem_mem ha0)
        have hzb := ksz_kid (List.getElem_mem hb0)
        rw [jn_li h4 (by omega) ha0 hb0, Option.map_eq_some_iff] at h
        obtain ⟨y, hy, rfl⟩ := h
        have oa := okD_kid hoa 0 ha0
        have ob := okD_kid hob 0 hb0
        have := jn_size n _ _ y (Or.inr oa) (Or.inr ob) hy
        rw [kz_ne (okD_ne oa), kz_ne (okD_ne ob)] at this
        rw [liK, ksz, klsz, klsz]
        omega
      by_cases h5 : a.sort = 5
      · rw [jn_fm h5 (by omega)] at h
        split at h
        · next hall =>
          rw [List.all_eq_true] at hall
          obtain rfl := (Option.some.inj h).symm
          have key : ∀ nm, nm ∈ uniN a.names b.names → ksz ((jnP n (kidZ a nm) (kidZ b nm)).getD kd0) ≤ 2 * (kz (kidZ a nm) + kz (kidZ b nm)) := fun nm hm => by
            obtain ⟨y, hy⟩ := Option.isSome_iff_exists.1 (hall nm hm)
            rw [hy, Option.getD_some]
            refine jn_size n _ _ y ?_ ?_ hy
            · by_cases ma : nm ∈ a.names
              · exact Or.inr (kidZ_ok hoa h5 ma).1
              · exact Or.inl (kidZ_out ma)
            · by_cases mb : nm ∈ b.names
              · exact Or.inr (kidZ_ok hob (by omega) mb).1
              · exact Or.inl (kidZ_out mb)
          have hs := sum_le _ _ _ key
          rw [sum_two, kz_names hoa h5 (nodup_uni _ _) (uniN_rise _ _) (fun x hx => (uniN_mem x).2 (Or.inl hx)), kz_names hob (by omega) (nodup_uni _ _) (uniN_rise _ _) (fun x hx => (uniN_mem x).2 (Or.inr hx))] at hs
          rw [ksz, klsz_map, ksz_eq a, ksz_eq b]
          omega
        · cases h
      · have h1 : a.sort = 1 ∨ a.sort = 2 ∨ a.sort = 3 := by rcases sa with h | h | h <;> omega
        rw [jn_lf h1 hne] at h
        obtain rfl := Option.some.inj h
        have := ksz_pos a
        rw [ksz, klsz]; omega
    · rw [jn_ne na nb (by omega) (by omega) hne] at h
      cases h
theorem wS_ok : ∀ {ns : List ByteArray}, (∀ x, x ∈ ns → x.size ≤ 8) → wS ns ≤ 9 * ns.length
  | [], _ => by simp [wS]
  | a :: r, h => by
    rw [wS, List.length_cons]
    have h1 := h a (by simp)
    have h2 := wS_ok (ns := r) fun x hx => h x (by simp [hx])
    omega
mutual
/-- The weight of a schema that is ok. -/
theorem wKd_ok : ∀ k : Kd, okD k = true → wKd k + 10 ≤ 10 * ksz k
  | .mk s ns ks, h => by
    have sh := okD_sh h
    rw [okD, Bool.and_eq_true] at h
    have h2 := wKs_ok ks h.2
    rw [wKd, ksz]
    simp only [sort_mk, names_mk, kkids_mk] at sh
    have h3 : wS ns ≤ 9 * ks.length := by
      rcases sh with h' | h' | h'
      · have : ns = [] := List.eq_nil_of_length_eq_zero h'.2.2
        rw [this]; simp [wS]
      · have : ns = [] := List.eq_nil_of_length_eq_zero h'.2.2
        rw [this]; simp [wS]
      · rw [h'.2.1]
        exact wS_ok fun x hx => name_size ((rise_iff.1 h'.2.2).2 x hx)
    omega
theorem wKs_ok : ∀ ks : List Kd, okDs ks = true → wKs ks + 9 * ks.length ≤ 10 * klsz ks
  | [], _ => by simp [wKs, klsz]
  | t :: r, h => by
    rw [okDs, Bool.and_eq_true] at h
    have h1 := wKd_ok t h.1
    have h2 := wKs_ok r h.2
    rw [wKs, klsz, List.length_cons]
    omega
end
/-- What two schemas that are ok join to is light. -/
theorem jn_light {a b x : Kd} {n : Nat} (ha : 0 < qT a 1) (hb : 0 < qT b 1) (h : jnP n a b = some x) : wKd x ≤ 2000 := by
  have oa := ok_of_qT ha
  have ob := ok_of_qT hb
  have h1 := jn_size n a b x (Or.inr oa.1) (Or.inr ob.1) h
  rw [kz_ne (okD_ne oa.1), kz_ne (okD_ne ob.1)] at h1
  have h2 := wKd_ok x (jn_up n a b x oa.1 ob.1 h).1
  omega
end Go.Proofs.YtenpghndgdemnaaGreatDoor

/- The program's ofForm at the table of widenings: its drawn region. Conditions: the fields are taken by their contract (a hypothesis). -/

namespace Go.Proofs.YtenpghndgdemnaaGreatDoor
open Go Go.RowKit

/-- What a call laid is as it was. -/
structure CK (V0 V1 W : World) : Prop where
  size : V1.heap.size ≤ W.heap.size
  block : ∀ b, V0.heap.size ≤ b → b < V1.heap.size → W.heap[b]? = V1.heap[b]?
/-- A block that the call did not lay. -/
def Ap (V0 V1 : World) (g : Nat) : Prop := g < V0.heap.size ∨ V1.heap.size ≤ g
theorem CK.refl (V0 V1 : World) : CK V0 V1 V1 := ⟨Nat.le_refl _, fun _ _ _ => rfl⟩
theorem CK.alloc {V0 V1 W : World} (h : CK V0 V1 W) (o : Obj) : CK V0 V1 (W.alloc o) := ⟨by rw [World.size_alloc]; exact Nat.le_succ_of_le h.size, fun b h0 h1 => (Below.heap_alloc _ _ _ (Nat.lt_of_lt_of_le h1 h.size)).trans (h.block b h0 h1)⟩
theorem CK.set {V0 V1 W : World} (h : CK V0 V1 W) {g : Nat} (hg : Ap V0 V1 g) (v : Value) : CK V0 V1 (W.setCell ⟨g, 0, none⟩ v) := by
  refine ⟨by simpa [World.setCell] using h.size, fun b h0 h1 => ?_⟩
  rw [Below.heap_setCell _ _ _ _ ?_]
  · exact h.block b h0 h1
  · intro e
    have e2 : b = g := by simpa using e
    rcases hg with hg | hg <;> omega
theorem stStrs {w : World} {g : Nat} {f : Nat → Value} (h : w.rowIs g 23 1 f) (a : Option Addr) (l c : Nat) : (Instr.storeAt 23 (.pointer (some ⟨g, 0, none⟩)) (.slice a l c)).run Tryz.prog w = .ok () (w.setCell ⟨g, 0, none⟩ (.slice a l c)) := by
  have h1 := h.cell (i := 0) (by omega)
  have h2 := h.frozen 0
  simp [Instr.storeAt, Instr.sureAddr, storeVar, storeCells, Value.cells, go_sem, h1, h2]
theorem stFns {w : World} {g : Nat} {f : Nat → Value} (h : w.rowIs g 124 1 f) (a : Option Addr) (l c : Nat) : (Instr.storeAt 124 (.pointer (some ⟨g, 0, none⟩)) (.slice a l c)).run Tryz.prog w = .ok () (w.setCell ⟨g, 0, none⟩ (.slice a l c)) := by
  have h1 := h.cell (i := 0) (by omega)
  have h2 := h.frozen 0
  simp [Instr.storeAt, Instr.sureAddr, storeVar, storeCells, Value.cells, go_sem, h1, h2]
theorem row1_alloc (w : World) (v : Value) (t : TypeId) : (w.alloc (.cells #[v] t)).rowIs w.heap.size t 1 (fun _ => v) := World.rowIs_alloc w #[v] t (fun _ => v) (fun i hi => by
  have hi' : i < 1 := hi
  obtain rfl : i = 0 := by omega
  rfl)
theorem below_set1 {B W : World} {g : Nat} (h : Below B.heap.size B W) (hg : B.heap.size ≤ g) (v : Value) : Below B.heap.size B (W.setCell ⟨g, 0, none⟩ v) := h.setCell hg v
noncomputable def fmOps : Array Oper := fops Tryz.f64 1
theorem fm_neat : Region.noSelect fmOps = true ∧ neat fmOps = true := ⟨by kernel_rfl, by kernel_rfl⟩
set_option maxRecDepth 100000 in
set_option maxHeartbeats 3200000 in
theorem fm1 (A C T : Nat) (c0 c1 c2 d0 d1 d2 : Value) (path : ByteArray) (E : World → World → Option Addr → Nat → Nat → Option Addr → Nat → Nat → Value → Prop) (W0 : World) {l : List Value} (Q : Exit → Act → World → Prop) (hQ : ∀ c a d v w, Q (.panic c) (Act.put a d v) w → Q (.panic c) a w) (hA : W0.drew.rowIs A 26 3 (row3 c0 c1 c2)) (hC : W0.drew.rowIs C 26 3 (row3 d0 d1 d2))
    (HK : ∀ W, Below W0.drew.heap.size W0.drew W → Calls Tryz.prog 87 #[.pointer (some ⟨T, 0, none⟩), .agg #[c0, c1, c2], .agg #[d0, d1, d2], .string path] W fun e w' => Below W.heap.size W w' ∧ ∃ na nl nc fa fl fc er, e = .returned (.tuple #[.slice na nl nc, .slice fa fl fc, er]) ∧ E W w' na nl nc fa fl fc er)
    (hl : lookL [(0, .pointer (some ⟨T, 0, none⟩)), (3, .string path), (5, .pointer (some ⟨A, 0, none⟩)), (6, .pointer (some ⟨C, 0, none⟩))] l = (26, ([(0, .pointer (some ⟨T, 0, none⟩)), (3, .string path), (5, .pointer (some ⟨A, 0, none⟩)), (6, .pointer (some ⟨C, 0, none⟩))] : List (Nat × Value)).map (·.2)))
    (hend : ∀ (u : Nat → Value) (V0 V1 W : World) (na fa : Option Addr) (nl nc fl fc : Nat) (er : Value) (g1 g2 : Nat), Below W0.drew.heap.size W0.drew V0 → E V0 V1 na nl nc fa fl fc er → Below W0.drew.heap.size W0.drew W → CK V0 V1 W → W.rowIs g1 23 1 (fun i => if i = 0 then .slice na nl nc else .slice none 0 0) → W.rowIs g2 124 1 (fun i => if i = 0 then .slice fa fl fc else .slice none 0 0) → W0.drew.heap.size ≤ g1 → W0.drew.heap.size ≤ g2 → g1 ≠ g2 → Q .normal ⟨(frL u 26 [(10, .pointer (some ⟨g1, 0, none⟩)), (11, .pointer (some ⟨g2, 0, none⟩)), (12, er)]).toArray, []⟩ W) : (Code.region 1 fmOps true).wp Tryz.prog Q ⟨l.toArray, []⟩ W0 := by
  obtain ⟨v0, rfl⟩ := look_fr hl
  have hq : NtQ fmOps Q := ⟨fm_neat, hQ⟩
  refine T_start (S := fun W => Below W0.drew.heap.size W0.drew W) (by kernel_rfl) (Below.refl _ _) ?_
  clear hl hQ
  generalize W0.drew = B at hA hC HK hend ⊢
  have X111 : ∀ (u : Nat → Value) (W : World) (hW : Below B.heap.size B W) (V0 V1 : World) (na fa : Option Addr) (nl nc fl fc : Nat) (er : Value) (hV : Below B.heap.size B V0) (hE : E V0 V1 na nl nc fa fl fc er) (hck : CK V0 V1 W) (g1 : Nat) (hg1 : W.rowIs g1 23 1 (fun _ => .slice none 0 0)) (hb1 : B.heap.size ≤ g1) (ha1 : Ap V0 V1 g1) (g2 : Nat) (hg2 : W.rowIs g2 124 1 (fun _ => .slice none 0 0)) (hb2 : B.heap.size ≤ g2) (ha2 : Ap V0 V1 g2) (hne : g1 ≠ g2) , wpS Tryz.prog fmOps Q (fun W => Below B.heap.size B W) (unl 16 [13, 14, 15], frL u 26 [(5, .pointer (some ⟨A, 0, none⟩)), (6, .pointer (some ⟨C, 0, none⟩)), (10, .pointer (some ⟨g1, 0, none⟩)), (11, .pointer (some ⟨g2, 0, none⟩)), (21, .slice na nl nc), (22, .slice fa fl fc), (23, er)]) [] W := by
    intro u W hW V0 V1 na fa nl nc fl fc er hV hE hck g1 hg1 hb1 ha1 g2 hg2 hb2 ha2 hne
    refine T_one 13 (by kernel_rfl) fun _ => ?_
    refine O_store none 23 (.tmp 10) (.tmp 21) ⟨g1, 0, none⟩ (.slice na nl nc) (W.setCell ⟨g1, 0, none⟩ (.slice na nl nc)) (by kernel_rfl) (by kernel_rfl) (by kernel_rfl) (stStrs hg1 na nl nc) (below_set1 hW hb1 _) ?_
    refine T_fr 16 26 [14, 15] [(5, .pointer (some ⟨A, 0, none⟩)), (6, .pointer (some ⟨C, 0, none⟩)), (10, .pointer (some ⟨g1, 0, none⟩)), (11, .pointer (some ⟨g2, 0, none⟩)), (21, .slice na nl nc), (22, .slice fa fl fc), (23, er)] (by kernel_rfl) fun u => ?_
    refine T_one 14 (by kernel_rfl) fun _ => ?_
    have hg2' := hg2.setOther (a := ⟨g1, 0, none⟩) (fun e => hne e.symm) (.slice na nl nc)
    refine O_store none 124 (.tmp 11) (.tmp 22) ⟨g2, 0, none⟩ (.slice fa fl fc) ((W.setCell ⟨g1, 0, none⟩ (.slice na nl nc)).setCell ⟨g2, 0, none⟩ (.slice fa fl fc)) (by kernel_rfl) (by kernel_rfl) (by kernel_rfl) (stFns hg2' fa fl fc) (below_set1 (below_set1 hW hb1 _) hb2 _) ?_
    refine T_z hq [15] (by kernel_rfl) ?_
    refine T_end 26 [(10, .pointer (some ⟨g1, 0, none⟩)), (11, .pointer (some ⟨g2, 0, none⟩)), (12, er)] (by kernel_rfl) (by kernel_rfl) fun _ u => hend u V0 V1 _ na fa nl nc fl fc er g1 g2 hV hE (below_set1 (below_set1 hW hb1 _) hb2 _) ((hck.set ha1 _).set ha2 _) ?_ ?_ hb1 hb2 hne
    · have h1 := hg1.set 0 (.slice na nl nc)
      exact h1.setOther (a := ⟨g2, 0, none⟩) (fun e => hne e) (.slice fa fl fc)
    · exact hg2'.set 0 (.slice fa fl fc)
  have X110 : ∀ (u : Nat → Value) (W : World) (hW : Below B.heap.size B W) (V0 V1 : World) (na fa : Option Addr) (nl nc fl fc : Nat) (er : Value) (hV : Below B.heap.size B V0) (hE : E V0 V1 na nl nc fa fl fc er) (hck : CK V0 V1 W) (g1 : Nat) (hg1 : W.rowIs g1 23 1 (fun _ => .slice none 0 0)) (hb1 : B.heap.size ≤ g1) (ha1 : Ap V0 V1 g1) , wpS Tryz.prog fmOps Q (fun W => Below B.heap.size B W) (unl 16 [12, 13, 14, 15], frL u 26 [(5, .pointer (some ⟨A, 0, none⟩)), (6, .pointer (some ⟨C, 0, none⟩)), (10, .pointer (some ⟨g1, 0, none⟩)), (21, .slice na nl nc), (22, .slice fa fl fc), (23, er)]) [] W := by
    intro u W hW V0 V1 na fa nl nc fl fc er hV hE hck g1 hg1 hb1 ha1 
    refine T_one 12 (by kernel_rfl) fun _ => ?_
    · exact O_val (w' := W.alloc (.cells #[.slice none 0 0] 124)) (some 11) (.pointer (some ⟨W.heap.size, 0, none⟩)) (by kernel_rfl) (by kernel_rfl) (hW.alloc hW.size _) (T_fr 16 26 [13, 14, 15] [(5, .pointer (some ⟨A, 0, none⟩)), (6, .pointer (some ⟨C, 0, none⟩)), (10, .pointer (some ⟨g1, 0, none⟩)), (11, .pointer (some ⟨W.heap.size, 0, none⟩)), (21, .slice na nl nc), (22, .slice fa fl fc), (23, er)] (by kernel_rfl) fun u => X111 u _ (hW.alloc hW.size _) V0 V1 na fa nl nc fl fc er hV hE (hck.alloc _) g1 (hg1.alloc _) hb1 ha1 _ (row1_alloc W _ _) hW.size (Or.inr hck.size) (by have := hg1.lt; omega))
  have X101 : ∀ (u : Nat → Value) (W : World) (hW : Below B.heap.size B W) (V0 V1 : World) (na fa : Option Addr) (nl nc fl fc : Nat) (er : Value) (hV : Below B.heap.size B V0) (hE : E V0 V1 na nl nc fa fl fc er) (hck : CK V0 V1 W) (g2 : Nat) (hg2 : W.rowIs g2 124 1 (fun _ => .slice none 0 0)) (hb2 : B.heap.size ≤ g2) (ha2 : Ap V0 V1 g2) , wpS Tryz.prog fmOps Q (fun W => Below B.heap.size B W) (unl 16 [11, 13, 14, 15], frL u 26 [(5, .pointer (some ⟨A, 0, none⟩)), (6, .pointer (some ⟨C, 0, none⟩)), (11, .pointer (some ⟨g2, 0, none⟩)), (21, .slice na nl nc), (22, .slice fa fl fc), (23, er)]) [] W := by
    intro u W hW V0 V1 na fa nl nc fl fc er hV hE hck g2 hg2 hb2 ha2 
    refine T_one 11 (by kernel_rfl) fun _ => ?_
    · exact O_val (w' := W.alloc (.cells #[.slice none 0 0] 23)) (some 10) (.pointer (some ⟨W.heap.size, 0, none⟩)) (by kernel_rfl) (by kernel_rfl) (hW.alloc hW.size _) (T_fr 16 26 [13, 14, 15] [(5, .pointer (some ⟨A, 0, none⟩)), (6, .pointer (some ⟨C, 0, none⟩)), (10, .pointer (some ⟨W.heap.size, 0, none⟩)), (11, .pointer (some ⟨g2, 0, none⟩)), (21, .slice na nl nc), (22, .slice fa fl fc), (23, er)] (by kernel_rfl) fun u => X111 u _ (hW.alloc hW.size _) V0 V1 na fa nl nc fl fc er hV hE (hck.alloc _) _ (row1_alloc W _ _) hW.size (Or.inr hck.size) g2 (hg2.alloc _) hb2 ha2 (by have := hg2.lt; omega))
  have X100 : ∀ (u : Nat → Value) (W : World) (hW : Below B.heap.size B W) (V0 V1 : World) (na fa : Option Addr) (nl nc fl fc : Nat) (er : Value) (hV : Below B.heap.size B V0) (hE : E V0 V1 na nl nc fa fl fc er) (hck : CK V0 V1 W) , wpS Tryz.prog fmOps Q (fun W => Below B.heap.size B W) (unl 16 [11, 12, 13, 14, 15], frL u 26 [(5, .pointer (some ⟨A, 0, none⟩)), (6, .pointer (some ⟨C, 0, none⟩)), (21, .slice na nl nc), (22, .slice fa fl fc), (23, er)]) [] W := by
    intro u W hW V0 V1 na fa nl nc fl fc er hV hE hck 
    refine T_two 11 12 (by kernel_rfl) (fun _ => ?_) fun _ => ?_
    · exact O_val (w' := W.alloc (.cells #[.slice none 0 0] 23)) (some 10) (.pointer (some ⟨W.heap.size, 0, none⟩)) (by kernel_rfl) (by kernel_rfl) (hW.alloc hW.size _) (T_fr 16 26 [12, 13, 14, 15] [(5, .pointer (some ⟨A, 0, none⟩)), (6, .pointer (some ⟨C, 0, none⟩)), (10, .pointer (some ⟨W.heap.size, 0, none⟩)), (21, .slice na nl nc), (22, .slice fa fl fc), (23, er)] (by kernel_rfl) fun u => X110 u _ (hW.alloc hW.size _) V0 V1 na fa nl nc fl fc er hV hE (hck.alloc _) _ (row1_alloc W _ _) hW.size (Or.inr hck.size) )
    · exact O_val (w' := W.alloc (.cells #[.slice none 0 0] 124)) (some 11) (.pointer (some ⟨W.heap.size, 0, none⟩)) (by kernel_rfl) (by kernel_rfl) (hW.alloc hW.size _) (T_fr 16 26 [11, 13, 14, 15] [(5, .pointer (some ⟨A, 0, none⟩)), (6, .pointer (some ⟨C, 0, none⟩)), (11, .pointer (some ⟨W.heap.size, 0, none⟩)), (21, .slice na nl nc), (22, .slice fa fl fc), (23, er)] (by kernel_rfl) fun u => X101 u _ (hW.alloc hW.size _) V0 V1 na fa nl nc fl fc er hV hE (hck.alloc _) _ (row1_alloc W _ _) hW.size (Or.inr hck.size) )
  have X011 : ∀ (u : Nat → Value) (W : World) (hW : Below B.heap.size B W) (g1 : Nat) (hg1 : W.rowIs g1 23 1 (fun _ => .slice none 0 0)) (hb1 : B.heap.size ≤ g1) (g2 : Nat) (hg2 : W.rowIs g2 124 1 (fun _ => .slice none 0 0)) (hb2 : B.heap.size ≤ g2) (hne : g1 ≠ g2) , wpS Tryz.prog fmOps Q (fun W => Below B.heap.size B W) (unl 16 [6, 7, 8, 9, 10, 13, 14, 15], frL u 26 [(5, .pointer (some ⟨A, 0, none⟩)), (6, .pointer (some ⟨C, 0, none⟩)), (10, .pointer (some ⟨g1, 0, none⟩)), (11, .pointer (some ⟨g2, 0, none⟩)), (16, .pointer (some ⟨T, 0, none⟩)), (17, .agg #[c0, c1, c2]), (18, .agg #[d0, d1, d2]), (19, .string path)]) [] W := by
    intro u W hW g1 hg1 hb1 g2 hg2 hb2 hne
    refine T_one 6 (by kernel_rfl) fun _ => ?_
    · refine O_go (HK W hW) (by kernel_rfl) ?_
      rintro e W1 ⟨hb, na, nl, nc, fa, fl, fc, er, rfl, hE⟩
      exact ⟨_, rfl, below_onf hW hb, T_z hq [7, 8, 9, 10] (by kernel_rfl) (T_fr 16 26 [13, 14, 15] [(5, .pointer (some ⟨A, 0, none⟩)), (6, .pointer (some ⟨C, 0, none⟩)), (10, .pointer (some ⟨g1, 0, none⟩)), (11, .pointer (some ⟨g2, 0, none⟩)), (21, .slice na nl nc), (22, .slice fa fl fc), (23, er)] (by kernel_rfl) fun u => X111 u W1 (below_onf hW hb) W W1 na fa nl nc fl fc er hW hE (CK.refl _ _) g1 (hg1.of_block (hb.block _ hg1.lt)) hb1 (Or.inl hg1.lt) g2 (hg2.of_block (hb.block _ hg2.lt)) hb2 (Or.inl hg2.lt) hne)⟩
  have X010 : ∀ (u : Nat → Value) (W : World) (hW : Below B.heap.size B W) (g1 : Nat) (hg1 : W.rowIs g1 23 1 (fun _ => .slice none 0 0)) (hb1 : B.heap.size ≤ g1) , wpS Tryz.prog fmOps Q (fun W => Below B.heap.size B W) (unl 16 [6, 7, 8, 9, 10, 12, 13, 14, 15], frL u 26 [(5, .pointer (some ⟨A, 0, none⟩)), (6, .pointer (some ⟨C, 0, none⟩)), (10, .pointer (some ⟨g1, 0, none⟩)), (16, .pointer (some ⟨T, 0, none⟩)), (17, .agg #[c0, c1, c2]), (18, .agg #[d0, d1, d2]), (19, .string path)]) [] W := by
    intro u W hW g1 hg1 hb1 
    refine T_two 6 12 (by kernel_rfl) (fun _ => ?_) fun _ => ?_
    · refine O_go (HK W hW) (by kernel_rfl) ?_
      rintro e W1 ⟨hb, na, nl, nc, fa, fl, fc, er, rfl, hE⟩
      exact ⟨_, rfl, below_onf hW hb, T_z hq [7, 8, 9, 10] (by kernel_rfl) (T_fr 16 26 [12, 13, 14, 15] [(5, .pointer (some ⟨A, 0, none⟩)), (6, .pointer (some ⟨C, 0, none⟩)), (10, .pointer (some ⟨g1, 0, none⟩)), (21, .slice na nl nc), (22, .slice fa fl fc), (23, er)] (by kernel_rfl) fun u => X110 u W1 (below_onf hW hb) W W1 na fa nl nc fl fc er hW hE (CK.refl _ _) g1 (hg1.of_block (hb.block _ hg1.lt)) hb1 (Or.inl hg1.lt) )⟩
    · exact O_val (w' := W.alloc (.cells #[.slice none 0 0] 124)) (some 11) (.pointer (some ⟨W.heap.size, 0, none⟩)) (by kernel_rfl) (by kernel_rfl) (hW.alloc hW.size _) (T_fr 16 26 [6, 7, 8, 9, 10, 13, 14, 15] [(5, .pointer (some ⟨A, 0, none⟩)), (6, .pointer (some ⟨C, 0, none⟩)), (10, .pointer (some ⟨g1, 0, none⟩)), (11, .pointer (some ⟨W.heap.size, 0, none⟩)), (16, .pointer (some ⟨T, 0, none⟩)), (17, .agg #[c0, c1, c2]), (18, .agg #[d0, d1, d2]), (19, .string path)] (by kernel_rfl) fun u => X011 u _ (hW.alloc hW.size _) g1 (hg1.alloc _) hb1 _ (row1_alloc W _ _) hW.size (by have := hg1.lt; omega))
  have X001 : ∀ (u : Nat → Value) (W : World) (hW : Below B.heap.size B W) (g2 : Nat) (hg2 : W.rowIs g2 124 1 (fun _ => .slice none 0 0)) (hb2 : B.heap.size ≤ g2) , wpS Tryz.prog fmOps Q (fun W => Below B.heap.size B W) (unl 16 [6, 7, 8, 9, 10, 11, 13, 14, 15], frL u 26 [(5, .pointer (some ⟨A, 0, none⟩)), (6, .pointer (some ⟨C, 0, none⟩)), (11, .pointer (some ⟨g2, 0, none⟩)), (16, .pointer (some ⟨T, 0, none⟩)), (17, .agg #[c0, c1, c2]), (18, .agg #[d0, d1, d2]), (19, .string path)]) [] W := by
    intro u W hW g2 hg2 hb2 
    refine T_two 6 11 (by kernel_rfl) (fun _ => ?_) fun _ => ?_
    · refine O_go (HK W hW) (by kernel_rfl) ?_
      rintro e W1 ⟨hb, na, nl, nc, fa, fl, fc, er, rfl, hE⟩
      exact ⟨_, rfl, below_onf hW hb, T_z hq [7, 8, 9, 10] (by kernel_rfl) (T_fr 16 26 [11, 13, 14, 15] [(5, .pointer (some ⟨A, 0, none⟩)), (6, .pointer (some ⟨C, 0, none⟩)), (11, .pointer (some ⟨g2, 0, none⟩)), (21, .slice na nl nc), (22, .slice fa fl fc), (23, er)] (by kernel_rfl) fun u => X101 u W1 (below_onf hW hb) W W1 na fa nl nc fl fc er hW hE (CK.refl _ _) g2 (hg2.of_block (hb.block _ hg2.lt)) hb2 (Or.inl hg2.lt) )⟩
    · exact O_val (w' := W.alloc (.cells #[.slice none 0 0] 23)) (some 10) (.pointer (some ⟨W.heap.size, 0, none⟩)) (by kernel_rfl) (by kernel_rfl) (hW.alloc hW.size _) (T_fr 16 26 [6, 7, 8, 9, 10, 13, 14, 15] [(5, .pointer (some ⟨A, 0, none⟩)), (6, .pointer (some ⟨C, 0, none⟩)), (10, .pointer (some ⟨W.heap.size, 0, none⟩)), (11, .pointer (some ⟨g2, 0, none⟩)), (16, .pointer (some ⟨T, 0, none⟩)), (17, .agg #[c0, c1, c2]), (18, .agg #[d0, d1, d2]), (19, .string path)] (by kernel_rfl) fun u => X011 u _ (hW.alloc hW.size _) _ (row1_alloc W _ _) hW.size g2 (hg2.alloc _) hb2 (by have := hg2.lt; omega))
  have X000 : ∀ (u : Nat → Value) (W : World) (hW : Below B.heap.size B W) , wpS Tryz.prog fmOps Q (fun W => Below B.heap.size B W) (unl 16 [6, 7, 8, 9, 10, 11, 12, 13, 14, 15], frL u 26 [(5, .pointer (some ⟨A, 0, none⟩)), (6, .pointer (some ⟨C, 0, none⟩)), (16, .pointer (some ⟨T, 0, none⟩)), (17, .agg #[c0, c1, c2]), (18, .agg #[d0, d1, d2]), (19, .string path)]) [] W := by
    intro u W hW 
    refine T_all [6, 11, 12] (by kernel_rfl) (by simp) fun i hi _ => ?_
    rcases (show i = 6 ∨ i = 11 ∨ i = 12 by simpa using hi) with rfl | rfl | rfl
    · refine O_go (HK W hW) (by kernel_rfl) ?_
      rintro e W1 ⟨hb, na, nl, nc, fa, fl, fc, er, rfl, hE⟩
      exact ⟨_, rfl, below_onf hW hb, T_z hq [7, 8, 9, 10] (by kernel_rfl) (T_fr 16 26 [11, 12, 13, 14, 15] [(5, .pointer (some ⟨A, 0, none⟩)), (6, .pointer (some ⟨C, 0, none⟩)), (21, .slice na nl nc), (22, .slice fa fl fc), (23, er)] (by kernel_rfl) fun u => X100 u W1 (below_onf hW hb) W W1 na fa nl nc fl fc er hW hE (CK.refl _ _) )⟩
    · exact O_val (w' := W.alloc (.cells #[.slice none 0 0] 23)) (some 10) (.pointer (some ⟨W.heap.size, 0, none⟩)) (by kernel_rfl) (by kernel_rfl) (hW.alloc hW.size _) (T_fr 16 26 [6, 7, 8, 9, 10, 12, 13, 14, 15] [(5, .pointer (some ⟨A, 0, none⟩)), (6, .pointer (some ⟨C, 0, none⟩)), (10, .pointer (some ⟨W.heap.size, 0, none⟩)), (16, .pointer (some ⟨T, 0, none⟩)), (17, .agg #[c0, c1, c2]), (18, .agg #[d0, d1, d2]), (19, .string path)] (by kernel_rfl) fun u => X010 u _ (hW.alloc hW.size _) _ (row1_alloc W _ _) hW.size )
    · exact O_val (w' := W.alloc (.cells #[.slice none 0 0] 124)) (some 11) (.pointer (some ⟨W.heap.size, 0, none⟩)) (by kernel_rfl) (by kernel_rfl) (hW.alloc hW.size _) (T_fr 16 26 [6, 7, 8, 9, 10, 11, 13, 14, 15] [(5, .pointer (some ⟨A, 0, none⟩)), (6, .pointer (some ⟨C, 0, none⟩)), (11, .pointer (some ⟨W.heap.size, 0, none⟩)), (16, .pointer (some ⟨T, 0, none⟩)), (17, .agg #[c0, c1, c2]), (18, .agg #[d0, d1, d2]), (19, .string path)] (by kernel_rfl) fun u => X001 u _ (hW.alloc hW.size _) _ (row1_alloc W _ _) hW.size )
  refine T_a hq [3, 4] (fun w' h => .cons (ldKd _ _ _ _ _ (hA.of_block (h.block _ hA.lt))) (.cons (ldKd _ _ _ _ _ (hC.of_block (h.block _ hC.lt))) Lds.nil)) (by kernel_rfl) ?_
  refine T_z hq [0, 1, 2, 5] (by kernel_rfl) ?_
  exact T_fr 16 26 [6, 7, 8, 9, 10, 11, 12, 13, 14, 15] [(5, .pointer (some ⟨A, 0, none⟩)), (6, .pointer (some ⟨C, 0, none⟩)), (16, .pointer (some ⟨T, 0, none⟩)), (17, .agg #[c0, c1, c2]), (18, .agg #[d0, d1, d2]), (19, .string path)] (by kernel_rfl) fun u => X000 u _ (Below.refl _ _)
end Go.Proofs.YtenpghndgdemnaaGreatDoor
