/- The walk of the program's TreeRead: it answers as the function rdO does, in blocks of the answer's own. The tables of strconv are as the program's text lays them; for texts of at most 2^20 bytes. -/
import Derived.Test.YteofngankokkkaaGreatDoorPart15
import Derived.Test.YteofngankokkkaaGreatDoorPart16
import Derived.Test.YteofngankokkkaaGreatDoorPart19
import Derived.Test.YteofngankokkkaaGreatDoorPart20
namespace Go.Proofs.YteofngankokkkaaGreatDoor
open Go Go.RowKit

theorem lf_zero (s : ByteArray) : lf s 0 = s.data.toList := by unfold lf; simp
theorem size_data (s : ByteArray) : s.data.toList.length = s.size := rfl

/-- What TreeRead comes to. -/
noncomputable def rdO (s : ByteArray) : Option Tr := if s.size ≤ 10000 then progRd s.data.toList else none
theorem whl_some {s : ByteArray} {t : Tr} {rest : List UInt8} {q : Int} (h : whlO s = some (t, rest, q)) : rdO s = some t ∧ wlk t 0 0 = some q := by
  unfold whlO at h
  unfold rdO progRd
  split at h
  · rename_i h1
    rw [if_pos h1, ← lf_zero]
    cases hr : rdT 6 (lf s 0) 0 with
    | none => rw [hr] at h; cases h
    | some x =>
      obtain ⟨t', r', q'⟩ := x
      rw [hr] at h
      simp only at h
      split at h
      · rename_i he
        simp only [Option.some.injEq, Prod.mk.injEq] at h
        obtain ⟨rfl, rfl, rfl⟩ := h
        subst he
        have := (rdT_sound 6 _ _ _ _ _ (Nat.le_refl _) hr).2
        exact ⟨rfl, by simpa using this⟩
      · cases h
  · cases h
theorem whl_none {s : ByteArray} (h : whlO s = none) : rdO s = none := by
  unfold whlO at h
  unfold rdO progRd
  split at h
  · rename_i h1
    rw [if_pos h1, ← lf_zero]
    cases hr : rdT 6 (lf s 0) 0 with
    | none => rfl
    | some x =>
      obtain ⟨t', r', q'⟩ := x
      rw [hr] at h
      simp only at h
      split at h
      · cases h
      · rename_i he
        cases r' with
        | nil => exact absurd rfl he
        | cons a b => rfl
  · rename_i h1
    rw [if_neg h1]

/-- An answer of TreeRead: a tree in blocks of its own and true, or nothing and false. -/
def TAns (o : Option Tr) (w : World) (e : Ending) (w' : World) : Prop :=
  ∃ (t : Tr) (b : Bool) (c : C5) (F : List Nat), ((o = some t ∧ b = true) ∨ (o = none ∧ b = false ∧ t = .mk 0 0 ByteArray.empty [] [])) ∧ e = .returned (.tuple #[.agg #[c.c0, c.c1, c.c2, c.c3, c.c4], .bool b]) ∧ Own w' t c F ∧ F.Nodup ∧ (∀ b, b ∈ F → w.heap.size ≤ b ∧ b < w'.heap.size) ∧ Below w.heap.size w w'
theorem TAns.no {o : Option Tr} {w w' : World} (h : o = none) (hb : Below w.heap.size w w') : TAns o w (.returned (.tuple #[.agg #[.int .i64 0, .int .i64 0, .string ByteArray.empty, .slice none 0 0, .slice none 0 0], .bool false])) w' :=
  ⟨.mk 0 0 ByteArray.empty [] [], false, ⟨_, _, _, _, _⟩, [], Or.inr ⟨h, rfl, rfl⟩, rfl, Own.leafT _ 0 0 ByteArray.empty ⟨by decide, by decide⟩ ⟨by decide, by decide⟩ (by simp), List.nodup_nil, fun b hb => by simp at hb, hb⟩

def zT : C5 := ⟨.int .i64 0, .int .i64 0, .string ⟨#[]⟩, .slice none 0 0, .slice none 0 0⟩

/-- The boxes of TreeRead. -/
structure Bt (w : World) (n : Nat) (s : ByteArray) (c : C5) (W : World) : Prop where
  text : W.cell? ⟨n, 0, none⟩ = some (.string s)
  ans : W.rowIs (n + 1) 25 5 (row5 zT.c0 zT.c1 zT.c2 zT.c3 zT.c4)
  read : W.rowIs (n + 2) 25 5 (row5 c.c0 c.c1 c.c2 c.c3 c.c4)
  below : Below n w W
  size : n + 3 ≤ W.heap.size
theorem Bt.kept {w W W' : World} {n : Nat} {s : ByteArray} {c : C5} {row : Option Nat} (h : Bt w n s c W) (hg : W.grownBy W' row) (hr : ∀ b, row = some b → n + 3 ≤ b) : Bt w n s c W' := by
  have hs := h.size
  have hb : ∀ i, i < n + 3 → W'.heap[i]? = W.heap[i]? := fun i hi => hg.block i (by omega) (fun e => by have := hr i e.symm; omega)
  exact ⟨by rw [World.cell?_of_block (w := W) (hb n (by omega))]; exact h.text, h.ans.of_block (hb _ (by omega)), h.read.of_block (hb _ (by omega)),
    ⟨hg.os.trans h.below.os, hg.tape.trans h.below.tape, hg.output.trans h.below.output, Nat.le_trans h.below.size hg.size, fun k hk => (hb k (by omega)).trans (h.below.block k hk)⟩, Nat.le_trans h.size hg.size⟩
theorem Bt.on {w W W' : World} {n : Nat} {s : ByteArray} {c : C5} (h : Bt w n s c W) (hb : Below W.heap.size W W') : Bt w n s c W' := h.kept (row := none) ⟨hb.os, hb.tape, hb.output, hb.size, fun i hi _ => hb.block i hi⟩ (fun b e => by cases e)
theorem Bt.put {w W : World} {n : Nat} {s : ByteArray} {c c' : C5} (h : Bt w n s c W) : Bt w n s c' (set5 W (n + 2) c') := by
  have hb : ∀ i, i < n + 2 → (set5 W (n + 2) c').heap[i]? = W.heap[i]? := fun i hi => set5_heap _ _ _ _ (by omega)
  have h1 : (set5 W (n + 2) c').cell? ⟨n, 0, none⟩ = W.cell? ⟨n, 0, none⟩ := World.cell?_of_block (a := ⟨n, 0, none⟩) (hb n (by omega))
  have h2 := h.ans.of_block (hb (n + 1) (by omega))
  have h3 := row5_set5 (c' := c') h.read
  have h4 := below_set5 h.below (n + 2) c' (by omega)
  have h5 := set5_size W (n + 2) c'
  have h6 := h.size
  have h7 := h.text
  generalize set5 W (n + 2) c' = W' at *
  exact ⟨h1.trans h7, h2, h3, h4, by omega⟩

/-- The whole reading, from the text on: newTreeReader and whole. -/
theorem read_part (W : World) (s : ByteArray) (hs : s.size ≤ 1048576) (hE : Env W) (W1 : World) (htr : TR W1 W.heap.size s 0 0 0) (hb : Below W.heap.size W W1) :
    Calls Tryz.prog 16 #[.pointer (some ⟨W.heap.size, 0, none⟩)] W1 fun e w2 => Below W.heap.size W w2 ∧ ((∃ t q v, rdO s = some t ∧ wlk t 0 0 = some q ∧ e = .returned v ∧ SRep (fun b => b < w2.heap.size) w2 t v) ∨ (rdO s = none ∧ e = fltE)) := by
  refine (whole_walk W1 W.heap.size s hs htr (hE.below hb) hE.top).mono ?_
  rintro e w2 ⟨hb2, h⟩
  have hlt := htr.lt
  have hbb : Below W.heap.size W w2 := ⟨hb2.os.trans hb.os, hb2.tape.trans hb.tape, hb2.output.trans hb.output, Nat.le_trans hb.size hb2.size, fun i hi => (hb2.at (by omega) (by omega)).trans (hb.block i hi)⟩
  refine ⟨hbb, ?_⟩
  rcases h with ⟨t, a2, q, v, h1, -, rfl, h4, -⟩ | ⟨h1, rfl⟩
  · obtain ⟨g1, g2⟩ := whl_some h1
    exact Or.inl ⟨t, q, v, g1, g2, rfl, SRep.carry (fun _ _ => rfl) (fun b hb => hb.2) _ _ h4⟩
  · exact Or.inr ⟨whl_none h1, rfl⟩

set_option maxRecDepth 100000 in
set_option maxHeartbeats 1600000 in
theorem workT_yes (w : World) (n : Nat) (s : ByteArray) (hs : s.size ≤ 1048576) (W : World) (h : Bt w n s zT W) (hE : Env W) {t : Tr} (hY : rdO s = some t) :
    Calls Tryz.prog 13 #[.pointer (some ⟨n, 0, none⟩), .pointer (some ⟨n + 2, 0, none⟩)] W fun e w' => e = .returned (.tuple #[]) ∧ (∃ c F, Own w' t c F ∧ F.Nodup ∧ (∀ b, b ∈ F → W.heap.size ≤ b ∧ b < w'.heap.size) ∧ Bt w n s c w') ∧ ∀ i, n + 3 ≤ i → i < W.heap.size → w'.heap[i]? = W.heap[i]? := by
  have c0 := h.text
  have hsz := h.size
  have HNR := hide (newReader_walk s W)
  have HRP := hide (fun W1 h1 h2 => read_part W s hs hE W1 h1 h2)
  have H := hide h; have HY := hide hY
  clear h hE hY
  go_enter Tryz.func13, Tryz.ntmps13
  go_wp2_with (go_at_call 15; refine (unhide HNR).mono ?_; rintro e w1 ⟨rfl, htr, hb1⟩; have HTR := hide htr; have HB1 := hide hb1; clear htr hb1 HNR)
  refine (unhide HRP w1 (unhide HTR) (unhide HB1)).mono ?_
  rintro e w2 ⟨hb2, ⟨t', q, v, h1, h2, rfl, h4⟩ | ⟨h1, -⟩⟩
  · have ht : t' = t := by have := unhide HY; rw [h1] at this; simpa using this
    subst ht
    have hpl := plainTree_all (tsz t' + 1) t' (by omega) 0 0 q (by omega) (by omega) h2 (fun b => b < w2.heap.size) v w2 (fun _ h => h) h4
    obtain ⟨T, x, rfl⟩ := h4.iface
    have HPL := hide hpl; have HB2 := hide hb2
    clear hpl h1 h2 h4 hb2 HRP HTR HB1
    go_wp2_with fail
    refine (unhide HPL).mono ?_
    rintro e w3 ⟨⟨d0, d1, d2, d3, d4⟩, F, rfl, ho, hnd, hF, hb3⟩
    obtain ⟨p0, p1, p2, -, -, -, F1, F2, -, ⟨a5, cap5, p3, -⟩, a6, cap6, p4, -⟩ := ho.open
    simp only at p0 p1 p2 p3 p4
    subst p0 p1 p2 p3 p4
    have hs2 := (unhide HB2).size
    have hb03 := (unhide HB2).trans (hb3.mono hs2)
    have hbt := (unhide H).on hb03
    have y0 := hbt.read.cell (i := 0) (by omega); have y1 := hbt.read.cell (i := 1) (by omega); have y2 := hbt.read.cell (i := 2) (by omega); have y3 := hbt.read.cell (i := 3) (by omega); have y4 := hbt.read.cell (i := 4) (by omega)
    have z0 := hbt.read.frozen 0; have z1 := hbt.read.frozen 1; have z2 := hbt.read.frozen 2; have z3 := hbt.read.frozen 3; have z4 := hbt.read.frozen 4
    simp only [row5, zT] at y0 y1 y2 y3 y4
    have hfin : (∃ c F, Own (set5 w3 (n + 2) ⟨.int .i64 t'.sort, .int .i64 t'.num, .string t'.text, .slice a5 t'.names.length cap5, .slice a6 t'.kids.length cap6⟩) t' c F ∧ F.Nodup ∧ (∀ b, b ∈ F → W.heap.size ≤ b ∧ b < (set5 w3 (n + 2) ⟨.int .i64 t'.sort, .int .i64 t'.num, .string t'.text, .slice a5 t'.names.length cap5, .slice a6 t'.kids.length cap6⟩).heap.size) ∧ Bt w n s c (set5 w3 (n + 2) ⟨.int .i64 t'.sort, .int .i64 t'.num, .string t'.text, .slice a5 t'.names.length cap5, .slice a6 t'.kids.length cap6⟩)) ∧ ∀ i, n + 3 ≤ i → i < W.heap.size → (set5 w3 (n + 2) ⟨.int .i64 t'.sort, .int .i64 t'.num, .string t'.text, .slice a5 t'.names.length cap5, .slice a6 t'.kids.length cap6⟩).heap[i]? = W.heap[i]? := by
      refine ⟨⟨⟨_, _, _, _, _⟩, F, Own.carry t' _ F (fun b hb => set5_heap _ _ _ _ (by have := (hF b hb).1; omega)) ho, hnd, fun b hb => by rw [set5_size]; have := hF b hb; omega, hbt.put⟩, fun i h1 h2 => ?_⟩
      rw [set5_heap _ _ _ _ (by omega)]
      exact hb03.block i h2
    have HFIN := hide hfin
    clear hfin hbt hb03 ho hF hb3 HPL HB2
    go_wp2_with fail
    go_end0
    exact ⟨rfl, unhide HFIN⟩
  · rw [unhide HY] at h1; cases h1

set_option maxRecDepth 100000 in
set_option maxHeartbeats 1600000 in
theorem workT_no (w : World) (n : Nat) (s : ByteArray) (hs : s.size ≤ 1048576) (W : World) (h : Bt w n s zT W) (hE : Env W) (hY : rdO s = none) :
    Calls Tryz.prog 13 #[.pointer (some ⟨n, 0, none⟩), .pointer (some ⟨n + 2, 0, none⟩)] W fun e w' => e = fltE ∧ Bt w n s zT w' ∧ ∀ i, n + 3 ≤ i → i < W.heap.size → w'.heap[i]? = W.heap[i]? := by
  have c0 := h.text
  have HNR := hide (newReader_walk s W)
  have HRP := hide (fun W1 h1 h2 => read_part W s hs hE W1 h1 h2)
  have H := hide h; have HY := hide hY
  clear h hE hY
  go_enter Tryz.func13, Tryz.ntmps13
  go_wp2_with (go_at_call 15; refine (unhide HNR).mono ?_; rintro e w1 ⟨rfl, htr, hb1⟩; have HTR := hide htr; have HB1 := hide hb1; clear htr hb1 HNR)
  refine (unhide HRP w1 (unhide HTR) (unhide HB1)).mono ?_
  rintro e w2 ⟨hb2, ⟨t', q, v, h1, -⟩ | ⟨-, rfl⟩⟩
  · rw [unhide HY] at h1; cases h1
  · have HFIN := hide (And.intro ((unhide H).on hb2) (fun i (_ : n + 3 ≤ i) (h2 : i < W.heap.size) => hb2.block i h2))
    clear hb2 HRP HTR HB1
    go_wp2_with fail
    exact ⟨rfl, rfl, unhide HFIN⟩

set_option maxRecDepth 100000 in
set_option maxHeartbeats 1600000 in
theorem implTreeRead_any (w : World) (s : ByteArray) (hs : s.size ≤ 1048576) (hE : Env w) :
    Calls Tryz.prog 5 #[.string s] w fun e w' => TAns (rdO s) w e w' := by
  obtain ⟨W0, hW0⟩ : ∃ W0, ((w.alloc (.cells #[.string s] 9)).alloc (.cells #[.int .i64 0, .int .i64 0, .string ⟨#[]⟩, .slice none 0 0, .slice none 0 0] 25)).alloc (.cells #[.int .i64 0, .int .i64 0, .string ⟨#[]⟩, .slice none 0 0, .slice none 0 0] 25) = W0 := ⟨_, rfl⟩
  have hbl : Below w.heap.size w W0 := by rw [← hW0]; exact (((Below.refl _ _).alloc (Nat.le_refl _) _).alloc (by simp) _).alloc (by simp; omega) _
  have hs0 : W0.heap.size = w.heap.size + 3 := by rw [← hW0]; simp
  have hbx : Bt w w.heap.size s zT W0 := by
    refine ⟨?_, ?_, ?_, hbl, by omega⟩
    · rw [← hW0]; simp [go_sem]
    · rw [← hW0]
      have q := row5_alloc (w.alloc (.cells #[.string s] 9)) (.int .i64 0) (.int .i64 0) (.string ⟨#[]⟩) (.slice none 0 0) (.slice none 0 0) 25
      rw [World.size_alloc] at q
      exact q.alloc _
    · rw [← hW0]
      have q := row5_alloc ((w.alloc (.cells #[.string s] 9)).alloc (.cells #[.int .i64 0, .int .i64 0, .string ⟨#[]⟩, .slice none 0 0, .slice none 0 0] 25)) (.int .i64 0) (.int .i64 0) (.string ⟨#[]⟩) (.slice none 0 0) (.slice none 0 0) 25
      rw [World.size_alloc, World.size_alloc] at q
      exact q
  have hE0 : Env W0 := hE.below hbl
  have hent : ∀ W, Sem.run Tryz.prog (callFunc 13 #[.pointer (some ⟨w.heap.size, 0, none⟩), .pointer (some ⟨w.heap.size + 2, 0, none⟩)]) W = .ok (.enter 13 #[.pointer (some ⟨w.heap.size, 0, none⟩), .pointer (some ⟨w.heap.size + 2, 0, none⟩)]) W := fun W => enters_of Tryz.func13 (by kernel_rfl) rfl _ W
  have hmf : ∀ (fn : Fn) (first cap : Array Value) (w : World), (Instr.makeFunc fn first cap).run Tryz.prog w = .ok (.func fn first cap) w := fun _ _ _ _ => rfl
  cases hY : rdO s with
  | none =>
    have htry := treeTry_no 13 #[.pointer (some ⟨w.heap.size, 0, none⟩), .pointer (some ⟨w.heap.size + 2, 0, none⟩)] W0 (fun w1 => Bt w w.heap.size s zT w1) hent (fun o => (workT_no w w.heap.size s hs (W0.alloc o) (hbx.kept (World.grownBy_alloc W0 o none) (fun b e => by cases e)) (hE0.below ((Below.refl _ _).alloc (Nat.le_refl _) o)) hY).mono fun e w' ⟨h1, h2, h3⟩ => ⟨h1, h2, h3 _ (by omega) (by rw [World.size_alloc]; omega)⟩)
    have htry2 : Calls Tryz.prog 12 #[.func (.func 13) #[] #[.pointer (some ⟨w.heap.size, 0, none⟩), .pointer (some ⟨w.heap.size + 2, 0, none⟩)]] W0 fun e w' => e = .returned (.bool false) ∧ Bt w w.heap.size s zT w' := htry.mono fun e w' ⟨h1, w1, h2, h3⟩ => ⟨h1, h2.kept h3 (fun b e => by cases e; omega)⟩
    have HTR := hide htry2
    clear htry htry2 hbx hE0 hent hbl hY hE
    go_enter Tryz.func5, Tryz.ntmps5
    go_wp2_with (go_at_call 12
                 refine (unhide HTR).mono ?_
                 rintro e w1 ⟨rfl, hb1⟩
                 have HB1 := hide hb1
                 have a0 := hb1.ans.cell (i := 0) (by omega); have a1 := hb1.ans.cell (i := 1) (by omega); have a2 := hb1.ans.cell (i := 2) (by omega); have a3 := hb1.ans.cell (i := 3) (by omega); have a4 := hb1.ans.cell (i := 4) (by omega)
                 have z0 := hb1.ans.frozen 0; have z1 := hb1.ans.frozen 1; have z2 := hb1.ans.frozen 2; have z3 := hb1.ans.frozen 3; have z4 := hb1.ans.frozen 4
                 have r0 : w1.cell? ⟨w.heap.size + 1 + 1, 0, none⟩ = some (.int .i64 0) := hb1.read.cell (i := 0) (by omega)
                 have r1 : w1.cell? ⟨w.heap.size + 1 + 1, 1, none⟩ = some (.int .i64 0) := hb1.read.cell (i := 1) (by omega)
                 have r2 : w1.cell? ⟨w.heap.size + 1 + 1, 2, none⟩ = some (.string ⟨#[]⟩) := hb1.read.cell (i := 2) (by omega)
                 have r3 : w1.cell? ⟨w.heap.size + 1 + 1, 3, none⟩ = some (.slice none 0 0) := hb1.read.cell (i := 3) (by omega)
                 have r4 : w1.cell? ⟨w.heap.size + 1 + 1, 4, none⟩ = some (.slice none 0 0) := hb1.read.cell (i := 4) (by omega)
                 simp only [row5, zT] at a0 a1 a2 a3 a4
                 clear hb1)
    refine bodyPost_ret (v := .tuple #[.agg #[.int .i64 0, .int .i64 0, .string ByteArray.empty, .slice none 0 0, .slice none 0 0], .bool false]) (by simp [results, Tryz.results5, go_sem, a0, a1, a2, a3, a4]; rfl) rfl ?_
    exact TAns.no rfl (below_set5 (unhide HB1).below _ ⟨_, _, _, _, _⟩ (by omega))
  | some t =>
    have htry := treeTry_yes 13 #[.pointer (some ⟨w.heap.size, 0, none⟩), .pointer (some ⟨w.heap.size + 2, 0, none⟩)] W0 (fun w1 => ∃ c F, Own w1 t c F ∧ F.Nodup ∧ (∀ b, b ∈ F → W0.heap.size + 1 ≤ b ∧ b < w1.heap.size) ∧ Bt w w.heap.size s c w1) hent (fun o => (workT_yes w w.heap.size s hs (W0.alloc o) (hbx.kept (World.grownBy_alloc W0 o none) (fun b e => by cases e)) (hE0.below ((Below.refl _ _).alloc (Nat.le_refl _) o)) hY).mono fun e w' ⟨h1, ⟨c, F, h2, h3, h4, h5⟩, h6⟩ => ⟨h1, ⟨c, F, h2, h3, fun b hb => by have := h4 b hb; rw [World.size_alloc] at this; exact this, h5⟩, h6 _ (by omega) (by rw [World.size_alloc]; omega)⟩)
    have htry2 : Calls Tryz.prog 12 #[.func (.func 13) #[] #[.pointer (some ⟨w.heap.size, 0, none⟩), .pointer (some ⟨w.heap.size + 2, 0, none⟩)]] W0 fun e w1 => ∃ (a5 : Option Addr) (cap5 : Nat) (a6 : Option Addr) (cap6 : Nat) (F : List Nat), e = .returned (.bool true) ∧ Hid (Own w1 t ⟨.int .i64 t.sort, .int .i64 t.num, .string t.text, .slice a5 t.names.length cap5, .slice a6 t.kids.length cap6⟩ F) ∧ F.Nodup ∧ Hid (∀ b, b ∈ F → w.heap.size + 4 ≤ b ∧ b < w1.heap.size) ∧ Bt w w.heap.size s ⟨.int .i64 t.sort, .int .i64 t.num, .string t.text, .slice a5 t.names.length cap5, .slice a6 t.kids.length cap6⟩ w1 := htry.mono (by
      rintro e w' ⟨rfl, w1, ⟨⟨d0, d1, d2, d3, d4⟩, F, ho, hnd, hF, hb⟩, hbut⟩
      obtain ⟨p0, p1, p2, -, -, -, F1, F2, -, ⟨a5, cap5, p3, -⟩, a6, cap6, p4, -⟩ := ho.open
      simp only at p0 p1 p2 p3 p4
      subst p0 p1 p2 p3 p4
      exact ⟨_, _, _, _, F, rfl, Own.carry t _ F (fun b hb' => hbut.at (hF b hb').2 (by have := hF b hb'; omega)) ho, hnd, fun b hb' => by have := hF b hb'; have := hbut.size; omega, hb.kept hbut (fun b e => by cases e; omega)⟩)
    have HTR := hide htry2
    clear htry htry2 hbx hE0 hent hbl hY hE
    go_enter Tryz.func5, Tryz.ntmps5
    go_wp2_with (go_at_call 12
                 refine (unhide HTR).mono ?_
                 rintro e w1 ⟨a5, cap5, a6, cap6, F, rfl, HO, hnd, HF, hb1⟩
                 have HB1 := hide hb1
                 have a0 := hb1.ans.cell (i := 0) (by omega); have a1 := hb1.ans.cell (i := 1) (by omega); have a2 := hb1.ans.cell (i := 2) (by omega); have a3 := hb1.ans.cell (i := 3) (by omega); have a4 := hb1.ans.cell (i := 4) (by omega)
                 have z0 := hb1.ans.frozen 0; have z1 := hb1.ans.frozen 1; have z2 := hb1.ans.frozen 2; have z3 := hb1.ans.frozen 3; have z4 := hb1.ans.frozen 4
                 have r0 : w1.cell? ⟨w.heap.size + 1 + 1, 0, none⟩ = some (.int .i64 t.sort) := hb1.read.cell (i := 0) (by omega)
                 have r1 : w1.cell? ⟨w.heap.size + 1 + 1, 1, none⟩ = some (.int .i64 t.num) := hb1.read.cell (i := 1) (by omega)
                 have r2 : w1.cell? ⟨w.heap.size + 1 + 1, 2, none⟩ = some (.string t.text) := hb1.read.cell (i := 2) (by omega)
                 have r3 : w1.cell? ⟨w.heap.size + 1 + 1, 3, none⟩ = some (.slice a5 t.names.length cap5) := hb1.read.cell (i := 3) (by omega)
                 have r4 : w1.cell? ⟨w.heap.size + 1 + 1, 4, none⟩ = some (.slice a6 t.kids.length cap6) := hb1.read.cell (i := 4) (by omega)
                 simp only [row5, zT] at a0 a1 a2 a3 a4
                 clear hb1)
    refine bodyPost_ret (v := .tuple #[.agg #[.int .i64 t.sort, .int .i64 t.num, .string t.text, .slice a5 t.names.length cap5, .slice a6 t.kids.length cap6], .bool true]) (by simp [results, Tryz.results5, go_sem, a0, a1, a2, a3, a4]) rfl ?_
    refine ⟨t, true, ⟨_, _, _, _, _⟩, F, Or.inl ⟨rfl, rfl⟩, rfl, Own.carry t _ F (fun b hb => set5_heap w1 (w.heap.size + 1) ⟨_, _, _, _, _⟩ b (by have := (unhide HF b hb).1; omega)) (unhide HO), hnd, fun b hb => ?_, below_set5 (unhide HB1).below _ ⟨_, _, _, _, _⟩ (by omega)⟩
    have h2 := set5_size w1 (w.heap.size + 1) ⟨.int .i64 t.sort, .int .i64 t.num, .string t.text, .slice a5 t.names.length cap5, .slice a6 t.kids.length cap6⟩
    unfold set5 at h2
    simp only at h2
    rw [h2]
    have := unhide HF b hb
    omega
end Go.Proofs.YteofngankokkkaaGreatDoor
