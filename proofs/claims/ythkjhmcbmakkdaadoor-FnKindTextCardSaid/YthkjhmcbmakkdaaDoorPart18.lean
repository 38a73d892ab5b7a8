/- The walk of the specification's reader of schemas: it reads as the function krd does. For texts of at most 2^20 bytes. -/
import Derived.Test.YthkjhmcbmakkdaaDoorPart17
import Derived.Test.YthkjhmcbmakkdaaDoorPart03
import Derived.Test.YthkjhmcbmakkdaaDoorPart15
import Derived.Deep.RegionLaw
import Derived.Deep.CutRange
import Derived.Deep.AppendLies
namespace Go.Proofs.YthkjhmcbmakkdaaDoor
open Go Go.RowKit

theorem krd_n (d : Nat) {inp : List UInt8} (h : inp.head? = some 110) : krd (d + 1) inp = if [110, 117, 109].isPrefixOf inp = true then some (.mk 1 [] [], inp.drop 3) else none := by
  rw [krd]
  cases inp with
  | nil => simp at h
  | cons c r => simp at h; subst h; simp [List.isPrefixOf]
theorem krd_t (d : Nat) {inp : List UInt8} (h : inp.head? = some 116) : krd (d + 1) inp = if [116, 101, 120, 116].isPrefixOf inp = true then some (.mk 2 [] [], inp.drop 4) else none := by
  rw [krd]
  cases inp with
  | nil => simp at h
  | cons c r => simp at h; subst h; simp [List.isPrefixOf]
theorem krd_f (d : Nat) {inp : List UInt8} (h : inp.head? = some 102) : krd (d + 1) inp = if [102, 108, 97, 103].isPrefixOf inp = true then some (.mk 3 [] [], inp.drop 4) else none := by
  rw [krd]
  cases inp with
  | nil => simp at h
  | cons c r => simp at h; subst h; simp [List.isPrefixOf]
theorem krd_list (d : Nat) {inp : List UInt8} (h : inp.head? = some 91) : krd (d + 1) inp = match krd d inp.tail with
      | none => none
      | some (k, rest) => if rest.head? = some 93 then some (.mk 4 [] [k], rest.tail) else none := by
  rw [krd]
  cases inp with
  | nil => simp at h
  | cons c r => simp at h; subst h; simp [List.isPrefixOf]; rcases krd d r with _ | ⟨k, rest⟩ <;> rfl
theorem krd_maybe (d : Nat) {inp : List UInt8} (h : inp.head? = some 63) : krd (d + 1) inp = match krd d inp.tail with
      | none => none
      | some (k, rest) => some (.mk 6 [] [k], rest) := by
  rw [krd]
  cases inp with
  | nil => simp at h
  | cons c r => simp at h; subst h; simp [List.isPrefixOf]; rcases krd d r with _ | ⟨k, rest⟩ <;> rfl
theorem krd_form (d : Nat) {inp : List UInt8} (h1 : inp.head? ≠ some 110) (h2 : inp.head? ≠ some 116) (h3 : inp.head? ≠ some 102) (h4 : inp.head? ≠ some 91) (h5 : inp.head? ≠ some 63) : krd (d + 1) inp = if inp.head? = some 123 then
      match klp (krd d) (inp.length + 1) [] [] inp.tail with
      | none => none
      | some (ns, ks, rest) => some (.mk 5 ns ks, rest)
    else none := by
  rw [krd]
  cases inp with
  | nil => simp [List.isPrefixOf]
  | cons c r =>
    simp only [List.head?_cons, ne_eq, Option.some.injEq] at h1 h2 h3 h4 h5
    have e1 : ((110 : UInt8) == c) = false := by simpa using fun e => h1 e.symm
    have e2 : ((116 : UInt8) == c) = false := by simpa using fun e => h2 e.symm
    have e3 : ((102 : UInt8) == c) = false := by simpa using fun e => h3 e.symm
    simp [List.isPrefixOf, e1, e2, e3, h4, h5]
    rcases klp (krd d) (r.length + 1 + 1) [] [] r with _ | ⟨ns, ks, rest⟩ <;> rfl

/-- How a reading ends: all is well, or not. -/
def KOut (d : Nat) (s : ByteArray) (inp : List UInt8) (k : Kd) (a2 : Nat) (bad2 : Bool) : Prop :=
  (bad2 = false ∧ krd d inp = some (k, lf s a2) ∧ a2 ≤ s.size) ∨ (bad2 = true ∧ krd d inp = none ∧ a2 ≤ s.size + d)

/-- What a reading of a schema ends with. -/
def KREnd (d : Nat) (w : World) (R : Nat) (s : ByteArray) (at' : Nat) (e : Ending) (w' : World) : Prop :=
  ∃ (k : Kd) (c : C3) (F : List Nat) (a2 : Nat) (bad2 : Bool), e = .returned (.agg #[c.c0, c.c1, c.c2]) ∧ OwnD w' k c F ∧ F.Nodup ∧ (∀ b, b ∈ F → w.heap.size ≤ b ∧ b < w'.heap.size) ∧ Rdr w' R s a2 bad2 ∧ KOut d s (lf s at') k a2 bad2 ∧ But R w w'
theorem KREnd.mk {d : Nat} {w : World} {R : Nat} {s : ByteArray} {at' : Nat} {e : Ending} {w' : World} (h : ∃ (k : Kd) (c : C3) (F : List Nat) (a2 : Nat) (bad2 : Bool), e = .returned (.agg #[c.c0, c.c1, c.c2]) ∧ OwnD w' k c F ∧ F.Nodup ∧ (∀ b, b ∈ F → w.heap.size ≤ b ∧ b < w'.heap.size) ∧ Rdr w' R s a2 bad2 ∧ KOut d s (lf s at') k a2 bad2 ∧ But R w w') : KREnd d w R s at' e w' := h

def KRSaid (d : Nat) : Prop := ∀ (w : World) (R : Nat) (s : ByteArray) (at' : Nat), s.size ≤ 1048576 → Rdr w R s at' false → at' ≤ s.size → d ≤ 6 →
  Calls Tryd.prog 35 #[.pointer (some ⟨R, 0, none⟩), .int .i64 (7 - d)] w fun e w' => KREnd d w R s at' e w'

theorem Rdr.alloc {w : World} {R : Nat} {s : ByteArray} {a : Nat} {bad : Bool} (h : Rdr w R s a bad) (o : Obj) : Rdr (w.alloc o) R s a bad := World.rowIs.alloc h o

set_option maxRecDepth 100000 in
set_option maxHeartbeats 800000 in
/-- A reader that is bad reads nothing. -/
theorem l2Kind_bad (w : World) (R : Nat) (s : ByteArray) (at' : Nat) (deep : Int) (h : Rdr w R s at' true) :
    Calls Tryd.prog 35 #[.pointer (some ⟨R, 0, none⟩), .int .i64 deep] w fun e w' => e = .returned (.agg #[.int .i64 0, .slice none 0 0, .slice none 0 0]) ∧ Rdr w' R s at' true ∧ But R w w' := by
  have hlt := h.lt
  obtain ⟨c0, c1, c2, f1, f2⟩ := h.cells
  have H := hide h
  clear h
  go_enter Tryd.func35, Tryd.ntmps35
  go_wp2_with fail
  refine bodyPost_ret (v := .agg #[.int .i64 0, .slice none 0 0, .slice none 0 0]) (by simp [results, Tryd.results35, go_sem]) rfl ⟨rfl, (H.out.set2 true).alloc _, (But.set _ _ _).trans (But.alloc _ _ _)⟩

/-- The words of the leaves. -/
def wNum : ByteArray := ⟨#[110, 117, 109]⟩
def wText : ByteArray := ⟨#[116, 101, 120, 116]⟩
def wFlag : ByteArray := ⟨#[102, 108, 97, 103]⟩
def w1 (c : UInt8) : ByteArray := ⟨#[c]⟩
theorem pre_one (c : UInt8) (s : ByteArray) (i : Nat) : pre (w1 c) s i = decide ((lf s i).head? = some c) := by
  unfold pre w1
  cases lf s i with
  | nil => rfl
  | cons a r => simp [List.isPrefixOf, eq_comm, Bool.beq_eq_decide_eq]
theorem lf_next (s : ByteArray) (i : Nat) : lf s (i + 1) = (lf s i).tail := by
  unfold lf; rw [← List.drop_drop]; simp
theorem pre_room {wd s : ByteArray} {i : Nat} (h0 : 0 < wd.size) (h : pre wd s i = true) : i + wd.size ≤ s.size := ((pre_iff h0).1 h).1

set_option maxRecDepth 100000 in
set_option maxHeartbeats 1600000 in
theorem l2Kind_zero : KRSaid 0 := by
  intro w R s at' hs h ha _
  have hlt := h.lt
  obtain ⟨c0, c1, c2, f1, f2⟩ := h.cells
  have H := hide h
  clear h
  go_enter Tryd.func35, Tryd.ntmps35
  go_wp2_with fail
  refine bodyPost_ret (v := .agg #[.int .i64 0, .slice none 0 0, .slice none 0 0]) (by simp [results, Tryd.results35, go_sem]) rfl (KREnd.mk ⟨.mk 0 [] [], ⟨_, _, _⟩, [], at', true, rfl, OwnD.leaf _ _ ⟨by decide, by decide⟩, List.nodup_nil, by simp, (H.out.set2 true).alloc _, Or.inr ⟨rfl, by rw [krd], by omega⟩, (But.set _ _ _).trans (But.alloc _ _ _)⟩)

/-- What the world holds while l2Kind runs: the reader, and the box of the answer, still empty. -/
structure Kw (w : World) (R : Nat) (s : ByteArray) (a : Nat) (bad : Bool) (W : World) : Prop where
  rdr : Rdr W R s a bad
  box : W.rowIs w.heap.size 26 3 (row3 (.int .i64 0) (.slice none 0 0) (.slice none 0 0))
  but : But R w W
  ne : w.heap.size ≠ R
theorem Kw.start {w : World} {R : Nat} {s : ByteArray} {a : Nat} {bad : Bool} (h : Rdr w R s a bad) : Kw w R s a bad (w.alloc (.cells #[.int .i64 0, .slice none 0 0, .slice none 0 0] 26)) :=
  ⟨h.alloc _, row3_alloc w _ _ _ _, But.alloc _ _ _, fun e => by have := h.lt; omega⟩
theorem Kw.next {w W W' : World} {R : Nat} {s : ByteArray} {a a' : Nat} {bad bad' : Bool} (h : Kw w R s a bad W) (hb : But R W W') (hr : Rdr W' R s a' bad') : Kw w R s a' bad' W' :=
  ⟨hr, h.box.of_block (hb.at h.box.lt h.ne), h.but.trans hb, h.ne⟩
theorem Kw.drewN {w W : World} {R : Nat} {s : ByteArray} {a : Nat} {bad : Bool} (h : Kw w R s a bad W) (n : Nat) : Kw w R s a bad (W.drewN n) := h.next (but_drewN (But.refl _ _) n) (h.rdr.drewN n)
theorem Kw.drew {w W : World} {R : Nat} {s : ByteArray} {a : Nat} {bad : Bool} (h : Kw w R s a bad W) : Kw w R s a bad W.drew := h.drewN 1
theorem Kw.cells {w W : World} {R : Nat} {s : ByteArray} {a : Nat} {bad : Bool} (h : Kw w R s a bad W) :
    W.cell? ⟨w.heap.size, 0, none⟩ = some (.int .i64 0) ∧ W.cell? ⟨w.heap.size, 1, none⟩ = some (.slice none 0 0) ∧ W.cell? ⟨w.heap.size, 2, none⟩ = some (.slice none 0 0) ∧ W.frozen? ⟨w.heap.size, 0, none⟩ = false ∧ W.frozen? ⟨w.heap.size, 1, none⟩ = false ∧ W.frozen? ⟨w.heap.size, 2, none⟩ = false :=
  ⟨h.box.cell (i := 0) (by omega), h.box.cell (i := 1) (by omega), h.box.cell (i := 2) (by omega), h.box.frozen 0, h.box.frozen 1, h.box.frozen 2⟩
/-- The answer is put into its box. -/
def set3 (W : World) (B : Nat) (c : C3) : World := ((W.setCell ⟨B, 0, none⟩ c.c0).setCell ⟨B, 1, none⟩ c.c1).setCell ⟨B, 2, none⟩ c.c2
theorem set3_heap (W : World) (B : Nat) (c : C3) (k : Nat) (h : k ≠ B) : (set3 W B c).heap[k]? = W.heap[k]? := by
  unfold set3; rw [Below.heap_setCell _ _ _ _ h, Below.heap_setCell _ _ _ _ h, Below.heap_setCell _ _ _ _ h]
theorem set3_size (W : World) (B : Nat) (c : C3) : (set3 W B c).heap.size = W.heap.size := by simp [set3, World.setCell]
theorem Kw.fin {w W : World} {R : Nat} {s : ByteArray} {a : Nat} {bad : Bool} (h : Kw w R s a bad W) {k : Kd} {c : C3} {F : List Nat} (ho : OwnD W k c F) (hF : ∀ b, b ∈ F → w.heap.size + 1 ≤ b ∧ b < W.heap.size) :
    OwnD (set3 W w.heap.size c) k c F ∧ (∀ b, b ∈ F → w.heap.size ≤ b ∧ b < (set3 W w.heap.size c).heap.size) ∧ Rdr (set3 W w.heap.size c) R s a bad ∧ But R w (set3 W w.heap.size c) := by
  refine ⟨OwnD.carry k c F (fun b hb => set3_heap _ _ _ _ (by have := (hF b hb).1; omega)) ho, fun b hb => ?_, World.rowIs.of_block h.rdr (set3_heap _ _ _ _ h.ne.symm), ?_⟩
  · rw [set3_size]; have := hF b hb; omega
  · exact ⟨h.but.os, h.but.tape, h.but.output, by rw [set3_size]; exact h.but.size, fun i hi hne => (set3_heap _ _ _ _ (by omega)).trans (h.but.block i hi hne)⟩

/-- What a reading of a schema ends with. -/
def KREnds (d : Nat) (w : World) (R : Nat) (s : ByteArray) (at' : Nat) (deep : Int) : Prop :=
  Calls Tryd.prog 35 #[.pointer (some ⟨R, 0, none⟩), .int .i64 deep] w fun e w' => KREnd d w R s at' e w'

set_option maxRecDepth 100000 in
set_option maxHeartbeats 1600000 in
theorem l2Kind_num (d : Nat) (w : World) (R : Nat) (s : ByteArray) (at' : Nat) (hs : s.size ≤ 1048576) (h : Rdr w R s at' false) (ha : at' ≤ s.size) (hd : d + 1 ≤ 6) (ech : bv s at' = 110) :
    KREnds (d + 1) w R s at' (6 - d) := by
  have hdd : decide ((6 : Int) < 6 - (d : Int)) = false := by simp; omega
  have hlt := h.lt
  have hkw := Kw.start h
  obtain ⟨c0, c1, c2, f1, f2⟩ := h.cells
  have hlk := look_any _ R s at' false hkw.rdr
  rw [ech] at hlk
  have hhd : (lf s at').head? = some 110 := (bv_head s at' 110 (by decide)).2 ech
  have hk := krd_n d hhd
  have HLK := hide hlk; have HKW := hide hkw
  clear hlk hkw h
  have hout : (pre wNum s at' = true ∧ KOut (d + 1) s (lf s at') (.mk 1 [] []) (at' + 3) false) ∨ (pre wNum s at' = false ∧ KOut (d + 1) s (lf s at') (.mk 1 [] []) at' true) := by
    cases hp : pre wNum s at'
    · have hp' : [110, 117, 109].isPrefixOf (lf s at') = false := hp
      exact Or.inr ⟨rfl, Or.inr ⟨rfl, by rw [hk, hp']; rfl, by omega⟩⟩
    · have hp' : [110, 117, 109].isPrefixOf (lf s at') = true := hp
      exact Or.inl ⟨rfl, Or.inl ⟨rfl, by rw [hk, if_pos hp']; unfold lf; simp [List.drop_drop], pre_room (wd := wNum) (by decide) hp⟩⟩
  have heat : ∀ W, Rdr W R s at' false → Calls Tryd.prog 57 #[.pointer (some ⟨R, 0, none⟩), .string wNum] W fun e w' => ∃ a2 bad2, e = .returned (.tuple #[]) ∧ Rdr w' R s a2 bad2 ∧ KOut (d + 1) s (lf s at') (.mk 1 [] []) a2 bad2 ∧ But R W w' := fun W hW => by
    rcases hout with ⟨hp, ho⟩ | ⟨hp, ho⟩
    · exact (eat_yes W R s wNum at' false hs hW (by omega) (by decide) (by decide) hp).mono fun e w' ⟨h1, h2, h3⟩ => ⟨_, _, h1, h2, ho, h3⟩
    · exact (eat_no W R s wNum at' false hs hW (by omega) (by decide) (by decide) hp).mono fun e w' ⟨h1, h2, h3⟩ => ⟨_, _, h1, h2, ho, h3⟩
  have HEA := hide heat
  clear heat hout hk
  unfold KREnds
  go_enter Tryd.func35, Tryd.ntmps35
  go_wp2_with (first
    | (go_at_call 56; refine (unhide HLK).mono ?_; rintro e w1 ⟨rfl, m, rfl⟩)
    | (go_at_call 57; refine (unhide HEA _ ((unhide HKW).drewN _).rdr).mono ?_; rintro e w2 ⟨a2, bad2, rfl, hr2, ho2, hb2⟩; have HK2 := hide (((unhide HKW).drewN _).next hb2 hr2); have HO2 := hide ho2; obtain ⟨y0, y1, y2, z0, z1, z2⟩ := (unhide HK2).cells; clear hr2 ho2 hb2 HEA))
  obtain ⟨q1, q2, q3, q4⟩ := (unhide HK2).fin (OwnD.leaf w2 1 ⟨by decide, by decide⟩) (fun b hb => by simp at hb)
  refine bodyPost_ret (v := .agg #[.int .i64 1, .slice none 0 0, .slice none 0 0]) (by simp [results, Tryd.results35, go_sem, y0, y1, y2]) rfl (KREnd.mk ⟨.mk 1 [] [], ⟨_, _, _⟩, [], a2, bad2, rfl, q1, List.nodup_nil, q2, q3, unhide HO2, q4⟩)

set_option maxRecDepth 100000 in
set_option maxHeartbeats 1600000 in
theorem l2Kind_text (d : Nat) (w : World) (R : Nat) (s : ByteArray) (at' : Nat) (hs : s.size ≤ 1048576) (h : Rdr w R s at' false) (ha : at' ≤ s.size) (hd : d + 1 ≤ 6) (ech : bv s at' = 116) :
    KREnds (d + 1) w R s at' (6 - d) := by
  have hdd : decide ((6 : Int) < 6 - (d : Int)) = false := by simp; omega
  have hlt := h.lt
  have hkw := Kw.start h
  obtain ⟨c0, c1, c2, f1, f2⟩ := h.cells
  have hlk := look_any _ R s at' false hkw.rdr
  rw [ech] at hlk
  have hhd : (lf s at').head? = some 116 := (bv_head s at' 116 (by decide)).2 ech
  have hk := krd_t d hhd
  have HLK := hide hlk; have HKW := hide hkw
  clear hlk hkw h
  have hout : (pre wText s at' = true ∧ KOut (d + 1) s (lf s at') (.mk 2 [] []) (at' + 4) false) ∨ (pre wText s at' = false ∧ KOut (d + 1) s (lf s at') (.mk 2 [] []) at' true) := by
    cases hp : pre wText s at'
    · have hp' : [116, 101, 120, 116].isPrefixOf (lf s at') = false := hp
      exact Or.inr ⟨rfl, Or.inr ⟨rfl, by rw [hk, hp']; rfl, by omega⟩⟩
    · have hp' : [116, 101, 120, 116].isPrefixOf (lf s at') = true := hp
      exact Or.inl ⟨rfl, Or.inl ⟨rfl, by rw [hk, if_pos hp']; unfold lf; simp [List.drop_drop], pre_room (wd := wText) (by decide) hp⟩⟩
  have heat : ∀ W, Rdr W R s at' false → Calls Tryd.prog 57 #[.pointer (some ⟨R, 0, none⟩), .string wText] W fun e w' => ∃ a2 bad2, e = .returned (.tuple #[]) ∧ Rdr w' R s a2 bad2 ∧ KOut (d + 1) s (lf s at') (.mk 2 [] []) a2 bad2 ∧ But R W w' := fun W hW => by
    rcases hout with ⟨hp, ho⟩ | ⟨hp, ho⟩
    · exact (eat_yes W R s wText at' false hs hW (by omega) (by decide) (by decide) hp).mono fun e w' ⟨h1, h2, h3⟩ => ⟨_, _, h1, h2, ho, h3⟩
    · exact (eat_no W R s wText at' false hs hW (by omega) (by decide) (by decide) hp).mono fun e w' ⟨h1, h2, h3⟩ => ⟨_, _, h1, h2, ho, h3⟩
  have HEA := hide heat
  clear heat hout hk
  unfold KREnds
  go_enter Tryd.func35, Tryd.ntmps35
  go_wp2_with (first
    | (go_at_call 56; refine (unhide HLK).mono ?_; rintro e w1 ⟨rfl, m, rfl⟩)
    | (go_at_call 57; refine (unhide HEA _ ((unhide HKW).drewN _).rdr).mono ?_; rintro e w2 ⟨a2, bad2, rfl, hr2, ho2, hb2⟩; have HK2 := hide (((unhide HKW).drewN _).next hb2 hr2); have HO2 := hide ho2; obtain ⟨y0, y1, y2, z0, z1, z2⟩ := (unhide HK2).cells; clear hr2 ho2 hb2 HEA))
  obtain ⟨q1, q2, q3, q4⟩ := (unhide HK2).fin (OwnD.leaf w2 2 ⟨by decide, by decide⟩) (fun b hb => by simp at hb)
  refine bodyPost_ret (v := .agg #[.int .i64 2, .slice none 0 0, .slice none 0 0]) (by simp [results, Tryd.results35, go_sem, y0, y1, y2]) rfl (KREnd.mk ⟨.mk 2 [] [], ⟨_, _, _⟩, [], a2, bad2, rfl, q1, List.nodup_nil, q2, q3, unhide HO2, q4⟩)

set_option maxRecDepth 100000 in
set_option maxHeartbeats 1600000 in
theorem l2Kind_flag (d : Nat) (w : World) (R : Nat) (s : ByteArray) (at' : Nat) (hs : s.size ≤ 1048576) (h : Rdr w R s at' false) (ha : at' ≤ s.size) (hd : d + 1 ≤ 6) (ech : bv s at' = 102) :
    KREnds (d + 1) w R s at' (6 - d) := by
  have hdd : decide ((6 : Int) < 6 - (d : Int)) = false := by simp; omega
  have hlt := h.lt
  have hkw := Kw.start h
  obtain ⟨c0, c1, c2, f1, f2⟩ := h.cells
  have hlk := look_any _ R s at' false hkw.rdr
  rw [ech] at hlk
  have hhd : (lf s at').head? = some 102 := (bv_head s at' 102 (by decide)).2 ech
  have hk := krd_f d hhd
  have HLK := hide hlk; have HKW := hide hkw
  clear hlk hkw h
  have hout : (pre wFlag s at' = true ∧ KOut (d + 1) s (lf s at') (.mk 3 [] []) (at' + 4) false) ∨ (pre wFlag s at' = false ∧ KOut (d + 1) s (lf s at') (.mk 3 [] []) at' true) := by
    cases hp : pre wFlag s at'
    · have hp' : [102, 108, 97, 103].isPrefixOf (lf s at') = false := hp
      exact Or.inr ⟨rfl, Or.inr ⟨rfl, by rw [hk, hp']; rfl, by omega⟩⟩
    · have hp' : [102, 108, 97, 103].isPrefixOf (lf s at') = true := hp
      exact Or.inl ⟨rfl, Or.inl ⟨rfl, by rw [hk, if_pos hp']; unfold lf; simp [List.drop_drop], pre_room (wd := wFlag) (by decide) hp⟩⟩
  have heat : ∀ W, Rdr W R s at' false → Calls Tryd.prog 57 #[.pointer (some ⟨R, 0, none⟩), .string wFlag] W fun e w' => ∃ a2 bad2, e = .returned (.tuple #[]) ∧ Rdr w' R s a2 bad2 ∧ KOut (d + 1) s (lf s at') (.mk 3 [] []) a2 bad2 ∧ But R W w' := fun W hW => by
    rcases hout with ⟨hp, ho⟩ | ⟨hp, ho⟩
    · exact (eat_yes W R s wFlag at' false hs hW (by omega) (by decide) (by decide) hp).mono fun e w' ⟨h1, h2, h3⟩ => ⟨_, _, h1, h2, ho, h3⟩
    · exact (eat_no W R s wFlag at' false hs hW (by omega) (by decide) (by decide) hp).mono fun e w' ⟨h1, h2, h3⟩ => ⟨_, _, h1, h2, ho, h3⟩
  have HEA := hide heat
  clear heat hout hk
  unfold KREnds
  go_enter Tryd.func35, Tryd.ntmps35
  go_wp2_with (first
    | (go_at_call 56; refine (unhide HLK).mono ?_; rintro e w1 ⟨rfl, m, rfl⟩)
    | (go_at_call 57; refine (unhide HEA _ ((unhide HKW).drewN _).rdr).mono ?_; rintro e w2 ⟨a2, bad2, rfl, hr2, ho2, hb2⟩; have HK2 := hide (((unhide HKW).drewN _).next hb2 hr2); have HO2 := hide ho2; obtain ⟨y0, y1, y2, z0, z1, z2⟩ := (unhide HK2).cells; clear hr2 ho2 hb2 HEA))
  obtain ⟨q1, q2, q3, q4⟩ := (unhide HK2).fin (OwnD.leaf w2 3 ⟨by decide, by decide⟩) (fun b hb => by simp at hb)
  refine bodyPost_ret (v := .agg #[.int .i64 3, .slice none 0 0, .slice none 0 0]) (by simp [results, Tryd.results35, go_sem, y0, y1, y2]) rfl (KREnd.mk ⟨.mk 3 [] [], ⟨_, _, _⟩, [], a2, bad2, rfl, q1, List.nodup_nil, q2, q3, unhide HO2, q4⟩)
end Go.Proofs.YthkjhmcbmakkdaaDoor
