/- The program's moves: movingOf makes a function value of a move; what the two function values do with names of the call's own. Conditions: at most 2000 names. -/
import Derived.Test.YtepknipcflbodaaPkD1
namespace Go.Proofs.Ytepknipcflbodaa
open Go Go.RowKit

/-- The function value of a move whose box is B. -/
def mvF (gone : Bool) (B : Nat) : Value := .func (.func (if gone then 62 else 61)) #[] #[.pointer (some ⟨B, 0, none⟩)]

set_option maxHeartbeats 400000 in
theorem movingOf_any (m : Dm) (w : World) :
    Calls Try.prog 49 #[.agg #[.bool m.gone, .string m.name]] w fun e w' => e = .returned (mvF m.gone w.heap.size) ∧ w' = w.alloc (.cells #[.bool m.gone, .string m.name] 51) := by
  obtain ⟨g, nm⟩ := m
  cases g with
  | true =>
    go_enter Try.func49, Try.ntmps49
    go_wp2_with fail
    go_ret
    exact ⟨rfl, rfl⟩
  | false =>
    go_enter Try.func49, Try.ntmps49
    go_wp2_with fail
    go_ret
    exact ⟨rfl, rfl⟩

/-- What a move makes of names; nothing, if it cannot be done. -/
def mstep (ns : List ByteArray) (m : Dm) : Option (List ByteArray) :=
  if m.gone then (match ns.findIdx? (fun y => sameB y m.name) with | some i => some (ns.take i ++ ns.drop (i + 1)) | none => none) else some (ns ++ [m.name])

set_option maxRecDepth 100000 in
set_option maxHeartbeats 1600000 in
theorem make_call (nm : ByteArray) (hz : nm.size ≤ 9223372036854775807) (B : Nat) (ns : List ByteArray) (v : Value) (n : Nat) (w0 w : World) (h : NmOwn w0 w v n ns) (hl : n ≤ 2000) (hB : w.cell? ⟨B, 1, none⟩ = some (.string nm)) :
    Calls Try.prog 61 #[v, .pointer (some ⟨B, 0, none⟩)] w fun e w' => ∃ v', e = .returned (.tuple #[v', .bool true]) ∧ NmOwn w0 w' v' (n + 1) (ns ++ [nm]) := by
  obtain ⟨j0, hj, hy0, hy1, hy2⟩ := infoStrD
  have HJJ := hide hj; have HY0 := hide hy0; have HY1 := hide hy1; have HY2 := hide hy2
  have H := hide h
  have hws := h.below.size
  clear h hj hy0 hy1 hy2
  go_enter Try.func61, Try.ntmps61
  go_wp2_with (at_builtin; (refine append_row _ rfl _ _ 23 rfl w0.heap.size 9 j0 (.string ByteArray.empty) 1 16 Try.underlying23 (unhide HJJ) (unhide HY0) (unhide HY1) (unhide HY2) rfl (by decide) v n (ns.map Value.string) rfl (World.ownsRow.alloc (unhide H).own _) ⟨w.heap.size, 0, none⟩ 1 1 [.string nm] rfl rfl (cell_one w _ _) (fun u hu => by simp at hu; subst hu; rfl) (by decide) (by unfold maxLen; omega) (by omega) (by simp; omega) ?_; intro v' w5 hown5 hgrow5 hat5; have HO5 := hide hown5; have HB5 := hide (below_grown (by simp; omega) ((unhide H).below.alloc (unhide H).below.size (.cells #[.string nm] 9)) hgrow5 (fun b e => ((unhide H).own.lt b e).1)); clear hown5 hgrow5 hat5))
  go_ret2
  refine ⟨v', rfl, by simpa using unhide HO5, by simp [(unhide H).len], fun y hy => ?_, unhide HB5⟩
  rcases List.mem_append.1 hy with h1 | h1
  · exact (unhide H).sz y h1
  · simp at h1; rw [h1]; exact hz

set_option maxRecDepth 100000 in
set_option maxHeartbeats 1600000 in
theorem gone_call (nm : ByteArray) (B : Nat) (ns : List ByteArray) (v : Value) (n : Nat) (w0 w : World) (h : NmOwn w0 w v n ns) (hl : n ≤ 2000) (hB : w.cell? ⟨B, 1, none⟩ = some (.string nm)) (i : Nat) (hi : ns.findIdx? (fun y => sameB y nm) = some i) :
    Calls Try.prog 62 #[v, .pointer (some ⟨B, 0, none⟩)] w fun e w' => ∃ v', e = .returned (.tuple #[v', .bool true]) ∧ NmOwn w0 w' v' (n - 1) (ns.take i ++ ns.drop (i + 1)) := by
  have hin : i < n := by have := (List.findIdx?_eq_some_iff_getElem.1 hi).1; rw [h.len]; exact this
  have hx := index_any v ns nm w h.strs
  have hd := delete_any ns i w0 w v n h hin h.below.size
  have hii : idxB ns nm = i := by unfold idxB; rw [hi]
  rw [hii] at hx
  have HX := hide hx; have HD := hide hd
  obtain ⟨g, cap, rfl, -, -⟩ := h.own.form (by omega)
  clear h hx hd hii hi
  go_enter Try.func62, Try.ntmps62
  go_wp2_with (first
    | (go_at_call 63; refine (unhide HX).mono ?_; rintro e w' ⟨rfl, rfl⟩)
    | (go_at_call 64; refine (unhide HD).mono ?_; rintro e w' ⟨v', rfl, hn⟩; have HN := hide hn; clear hn))
  go_ret2
  exact ⟨v', rfl, unhide HN⟩

set_option maxRecDepth 100000 in
set_option maxHeartbeats 1600000 in
theorem gone_call_no (nm : ByteArray) (B : Nat) (ns : List ByteArray) (v : Value) (n : Nat) (w0 w : World) (h : NmOwn w0 w v n ns) (hB : w.cell? ⟨B, 1, none⟩ = some (.string nm)) (hi : ns.findIdx? (fun y => sameB y nm) = none) :
    Calls Try.prog 62 #[v, .pointer (some ⟨B, 0, none⟩)] w fun e w' => e = .returned (.tuple #[v, .bool false]) ∧ w' = w := by
  have hx := index_any v ns nm w h.strs
  have hii : idxB ns nm = -1 := by unfold idxB; rw [hi]
  rw [hii] at hx
  have HX := hide hx
  clear h hx hii hi
  go_enter Try.func62, Try.ntmps62
  go_wp2_with (go_at_call 63; refine (unhide HX).mono ?_; rintro e w' ⟨rfl, rfl⟩)
  go_ret2
  exact ⟨rfl, rfl⟩
end Go.Proofs.Ytepknipcflbodaa
