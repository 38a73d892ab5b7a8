/- What the specification's reader has gathered of a list or form: its names and kids, in rows of the call's own. Definitions and small laws; no program walked, no conditions. -/
import Derived.Test.YtgamonfmgngilaaGreatDoorPart30
namespace Go.Proofs.YtgamonfmgngilaaGreatDoor
open Go Go.RowKit

def C5.list (c : C5) : List Value := [c.c0, c.c1, c.c2, c.c3, c.c4]

/-- Names and kids, in rows of the call's own. -/
structure GotT (base : Nat) (wr : World) (vN vK : Value) (ns : List ByteArray) (ks : List Tr) (xs : List Value) : Prop where
  names : wr.ownsRow base 9 1 vN ns.length (ns.map Value.string)
  small : ∀ x, x ∈ ns → x.size ≤ 9223372036854775807
  apart : ∀ b, vN.ownBlock = some b → vK.ownBlock ≠ some b
  kids : wr.ownsRow base 26 5 vK ks.length xs
  reps : ∀ i, (hi : i < ks.length) → ∃ c : C5, (xs.drop (i * 5)).take 5 = c.list ∧ Rep (fun b => base ≤ b ∧ b < wr.heap.size ∧ some b ≠ vN.ownBlock ∧ some b ≠ vK.ownBlock) wr ks[i] c

theorem GotT.start (base : Nat) (w : World) : GotT base w (.slice none 0 0) (.slice none 0 0) [] [] [] :=
  ⟨World.ownsRow_nil _ _ _ _, fun _ h => by simp at h, fun _ h => by simp [Value.ownBlock] at h, World.ownsRow_nil _ _ _ _, fun i hi => by simp at hi⟩

/-- A world in which but one block that is none of these has turned. -/
theorem GotT.kept {base : Nat} {wr w' : World} {vN vK : Value} {ns : List ByteArray} {ks : List Tr} {xs : List Value} (h : GotT base wr vN vK ns ks xs) {R : Nat} (hR : R < base) (hb : But R wr w') : GotT base w' vN vK ns ks xs := by
  have hn : vN.ownBlock ≠ some R := fun e => by have := (h.names.lt R e).1; omega
  have hk : vK.ownBlock ≠ some R := fun e => by have := (h.kids.lt R e).1; omega
  refine ⟨h.names.kept hb (Or.inr hn), h.small, h.apart, h.kids.kept hb (Or.inr hk), fun i hi => ?_⟩
  obtain ⟨c, h1, h2⟩ := h.reps i hi
  exact ⟨c, h1, Rep.carry (fun b hb' => hb.at hb'.2.1 (by omega)) (fun b hb' => ⟨hb'.1, Nat.lt_of_lt_of_le hb'.2.1 hb.size, hb'.2.2⟩) _ _ h2⟩

theorem GotT.alloc {base : Nat} {wr : World} {vN vK : Value} {ns : List ByteArray} {ks : List Tr} {xs : List Value} (h : GotT base wr vN vK ns ks xs) (o : Obj) : GotT base (wr.alloc o) vN vK ns ks xs := by
  refine ⟨h.names.alloc o, h.small, h.apart, h.kids.alloc o, fun i hi => ?_⟩
  obtain ⟨c, h1, h2⟩ := h.reps i hi
  exact ⟨c, h1, Rep.carry (fun b hb' => Below.heap_alloc _ _ _ hb'.2.1) (fun b hb' => ⟨hb'.1, by simp; omega, hb'.2.2⟩) _ _ h2⟩

theorem sepK {vN vK : Value} (h : ∀ b, vN.ownBlock = some b → vK.ownBlock ≠ some b) : vK.ownBlock = none ∨ vK.ownBlock ≠ vN.ownBlock := by
  cases hK : vK.ownBlock with
  | none => exact Or.inl rfl
  | some b => exact Or.inr fun e => h b e.symm hK
theorem sepN {vN vK : Value} (h : ∀ b, vN.ownBlock = some b → vK.ownBlock ≠ some b) : vN.ownBlock = none ∨ vN.ownBlock ≠ vK.ownBlock := by
  cases hN : vN.ownBlock with
  | none => exact Or.inl rfl
  | some b => exact Or.inr fun e => h b hN e.symm

/-- A name more. -/
theorem GotT.name {base : Nat} {wr w' : World} {vN vN' vK : Value} {ns : List ByteArray} {ks : List Tr} {xs : List Value} {nm : ByteArray} (h : GotT base wr vN vK ns ks xs) (hnm : nm.size ≤ 9223372036854775807)
    (hown : w'.ownsRow base 9 1 vN' (ns.length + 1) (ns.map Value.string ++ [.string nm])) (hg : wr.grownBy w' vN.ownBlock) (hv : vN'.ownBlock = vN.ownBlock ∨ ∃ g, vN'.ownBlock = some g ∧ wr.heap.size ≤ g) :
    GotT base w' vN' vK (ns ++ [nm]) ks xs := by
  have hkl := h.kids.lt
  refine ⟨by simpa using hown, fun x hx => ?_, fun b hb e => ?_, h.kids.kept hg (sepK h.apart), fun i hi => ?_⟩
  · rcases List.mem_append.1 hx with hx | hx
    · exact h.small x hx
    · simp at hx; subst hx; exact hnm
  · rcases hv with e2 | ⟨g, e2, hgg⟩
    · exact h.apart b (by rw [← e2]; exact hb) e
    · rw [e2] at hb
      simp only [Option.some.injEq] at hb
      have := (hkl b e).2
      omega
  · obtain ⟨c, h1, h2⟩ := h.reps i hi
    refine ⟨c, h1, Rep.carry (fun b hb' => hg.block b hb'.2.1 hb'.2.2.1) (fun b hb' => ⟨hb'.1, Nat.lt_of_lt_of_le hb'.2.1 hg.size, ?_, hb'.2.2.2⟩) _ _ h2⟩
    rcases hv with e2 | ⟨g, e2, hgg⟩
    · rw [e2]; exact hb'.2.2.1
    · rw [e2]; intro e; simp only [Option.some.injEq] at e; have := hb'.2.1; omega

/-- A kid more: it lies in blocks that are newer than all that was gathered, or was gathered by none. -/
theorem GotT.kid {base : Nat} {wr w' : World} {vN vK vK' : Value} {ns : List ByteArray} {ks : List Tr} {xs : List Value} {t : Tr} {c : C5} (h : GotT base wr vN vK ns ks xs)
    (hc : Rep (fun b => base ≤ b ∧ b < wr.heap.size ∧ some b ≠ vN.ownBlock ∧ some b ≠ vK.ownBlock) wr t c)
    (hown : w'.ownsRow base 26 5 vK' (ks.length + 1) (xs ++ c.list)) (hg : wr.grownBy w' vK.ownBlock) (hv : vK'.ownBlock = vK.ownBlock ∨ ∃ g, vK'.ownBlock = some g ∧ wr.heap.size ≤ g) :
    GotT base w' vN vK' ns (ks ++ [t]) (xs ++ c.list) := by
  have hnl := h.names.lt
  have hcar : ∀ (t : Tr) (c : C5), Rep (fun b => base ≤ b ∧ b < wr.heap.size ∧ some b ≠ vN.ownBlock ∧ some b ≠ vK.ownBlock) wr t c → Rep (fun b => base ≤ b ∧ b < w'.heap.size ∧ some b ≠ vN.ownBlock ∧ some b ≠ vK'.ownBlock) w' t c := fun t c h2 => by
    refine Rep.carry (fun b hb' => hg.block b hb'.2.1 hb'.2.2.2) (fun b hb' => ⟨hb'.1, Nat.lt_of_lt_of_le hb'.2.1 hg.size, hb'.2.2.1, ?_⟩) _ _ h2
    rcases hv with e2 | ⟨g, e2, hgg⟩
    · rw [e2]; exact hb'.2.2.2
    · rw [e2]; intro e; simp only [Option.some.injEq] at e; have := hb'.2.1; omega
  have hxl : xs.length = ks.length * 5 := h.kids.1
  refine ⟨h.names.kept hg (sepN h.apart), h.small, fun b hb e => ?_, by simpa using hown, fun i hi => ?_⟩
  · rcases hv with e2 | ⟨g, e2, hgg⟩
    · exact h.apart b hb (by rw [← e2]; exact e)
    · rw [e2] at e
      simp only [Option.some.injEq] at e
      have := (hnl b hb).2
      omega
  · by_cases e : i = ks.length
    · subst e
      refine ⟨c, ?_, ?_⟩
      · rw [← hxl, List.drop_left]; rfl
      · simpa using hcar t c hc
    · have hi' : i < ks.length := by simp at hi; omega
      obtain ⟨d, h1, h2⟩ := h.reps i hi'
      refine ⟨d, ?_, ?_⟩
      · rw [List.drop_append_of_le_length (by omega), List.take_append_of_le_length (by rw [List.length_drop]; omega)]; exact h1
      · rw [List.getElem_append_left hi']; exact hcar _ _ h2

/-- What was gathered is a tree. -/
theorem GotT.done {base : Nat} {wr : World} {vN vK : Value} {ns : List ByteArray} {ks : List Tr} {xs : List Value} (h : GotT base wr vN vK ns ks xs) (s : Int) (hs : I64 s) :
    Rep (fun b => base ≤ b ∧ b < wr.heap.size) wr (.mk s 0 ByteArray.empty ns ks) ⟨.int .i64 s, .int .i64 0, .string ByteArray.empty, vN, vK⟩ := by
  rw [Rep]
  refine ⟨rfl, rfl, rfl, hs, ⟨by omega, by omega⟩, by simp, ?_, ?_⟩
  · rcases h.names.2 with ⟨hv, hn0⟩ | ⟨g, cap, cur, hv, hgb, hh, hle, hm2, hsz, htk⟩
    · refine ⟨none, 0, by rw [hv, hn0], by omega, fun i hi => by omega⟩
    · refine ⟨some ⟨g, 0, none⟩, cap, hv, by unfold maxLen at hm2; omega, fun i hi => ⟨g, 0, rfl, ⟨hgb, (Array.getElem?_eq_some_iff.1 hh).1⟩, ?_, h.small _ (List.getElem_mem hi)⟩⟩
      have h1 : (ns.map Value.string)[i]? = some (.string ns[i]) := by simp [hi]
      rw [← htk, List.getElem?_take_of_lt (by omega)] at h1
      simp only [Nat.zero_add, World.cell?, hh]
      simpa using h1
  · rcases h.kids.2 with ⟨hv, hn0⟩ | ⟨g, cap, cur, hv, hgb, hh, hle, hm2, hsz, htk⟩
    · exact ⟨none, 0, by rw [hv, hn0], by omega, fun hk => absurd (List.eq_nil_of_length_eq_zero hn0) hk⟩
    · refine ⟨some ⟨g, 0, none⟩, cap, hv, by unfold maxLen at hm2; omega, fun _ => ⟨g, 0, rfl, ⟨hgb, (Array.getElem?_eq_some_iff.1 hh).1⟩, RepK.mk fun i hi => ?_⟩⟩
      obtain ⟨c, h1, h2⟩ := h.reps i hi
      refine ⟨c, ?_, Rep.carry (fun _ _ => rfl) (fun b hb => ⟨hb.1, hb.2.1⟩) _ _ h2⟩
      have key : ∀ j, j < 5 → wr.cell? ⟨g, 0 + i * 5 + j, none⟩ = c.list[j]? := fun j hj => by
        rw [← h1, List.getElem?_take_of_lt hj, List.getElem?_drop, ← htk, List.getElem?_take_of_lt (by omega)]
        simp only [Nat.zero_add, World.cell?, hh]
        simp
      exact ⟨key 0 (by omega), key 1 (by omega), key 2 (by omega), key 3 (by omega), key 4 (by omega)⟩
end Go.Proofs.YtgamonfmgngilaaGreatDoor
