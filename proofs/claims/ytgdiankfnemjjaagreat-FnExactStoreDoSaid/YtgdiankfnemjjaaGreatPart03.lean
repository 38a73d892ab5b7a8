/- Names in memory of the call's own, as the program handles them: a copy (slices.Clone), the place of one (slices.Index), one that is struck (slices.Delete). Conditions: at most 3000 names. -/
import Derived.Test.YtgdiankfnemjjaaGreatPart01
import Derived.Test.YtgdiankfnemjjaaGreatPart02
import Derived.Deep.Upon
import Derived.WalkSmall
import Derived.Test.YtgdiankfnemjjaaGreatPart00
import Derived.Test.YtgdiankfnemjjaaGreatRows
import Derived.WalkLawsBesides
namespace Go.Proofs.YtgdiankfnemjjaaGreat
open Go Go.RowKit

theorem cloneNs_any (v : Value) (ss : List ByteArray) (w : World) {P : Nat → Prop} (hv : StrsAt P w v ss) (hl : ss.length ≤ 3000) :
    Calls Tryz.prog 81 #[v] w fun e w' => ∃ v', e = .returned v' ∧ NmOwn w w' v' ss.length ss := by
  obtain ⟨a, cap, rfl, hlen, hc⟩ := hv
  have hsz : ∀ x, x ∈ ss → x.size ≤ 9223372036854775807 := fun x hx => by
    obtain ⟨i, hi, rfl⟩ := List.getElem_of_mem hx
    obtain ⟨_, _, _, _, _, h⟩ := hc i hi
    exact h
  rcases Nat.eq_zero_or_pos ss.length with h0 | h0
  · have hss : ss = [] := List.eq_nil_of_length_eq_zero h0
    subst hss
    cases a with
    | none =>
      refine (Tryz.slices_Clone_string_nil 0 cap w).mono ?_
      rintro e w' ⟨rfl, rfl⟩
      exact ⟨_, rfl, ⟨by simp, Or.inl ⟨rfl, rfl⟩⟩, rfl, hsz, Below.refl _ _⟩
    | some ad =>
      refine (Tryz.slices_Clone_string_zero ad cap w).mono ?_
      rintro e w' ⟨v', rfl, h1, -, h2⟩
      exact ⟨_, rfl, h1, rfl, hsz, h2⟩
  · obtain ⟨b, o, rfl, -, -, -⟩ := hc 0 h0
    refine (Tryz.slices_Clone_string b o ss.length cap ss w (Nat.le_refl _) (by omega) (fun j hj => ?_)).mono ?_
    · obtain ⟨b', o', e, -, hcell, -⟩ := hc j hj
      simp only [Option.some.injEq, Addr.mk.injEq, and_true] at e
      obtain ⟨rfl, rfl⟩ := e
      rw [hcell]
      simp [List.getD, hj]
    · rintro e w' ⟨v', rfl, h1, -, h2⟩
      rw [List.take_of_length_le (Nat.le_refl _)] at h1
      exact ⟨_, rfl, h1, rfl, hsz, h2⟩

/-- The place of the first that is the same; -1 if there is none. -/
def idxB (ss : List ByteArray) (x : ByteArray) : Int := match ss.findIdx? (fun y => sameB y x) with | some i => i | none => -1
theorem sameB_symm (x y : ByteArray) : sameB x y = sameB y x := by
  unfold sameB
  rw [Bool.eq_iff_iff, beq_iff_eq, beq_iff_eq]
  exact ⟨Eq.symm, Eq.symm⟩
theorem idxB_yes {ss : List ByteArray} {x : ByteArray} (k : Nat) (hk : k < ss.length) (h : sameB ss[k] x = true) (hno : ∀ j, j < k → (hj : j < ss.length) → sameB ss[j] x = false) : idxB ss x = k := by
  unfold idxB
  have : ss.findIdx? (fun y => sameB y x) = some k := by
    rw [List.findIdx?_eq_some_iff_getElem]
    exact ⟨hk, h, fun j hj => by rw [hno j hj (by omega)]; decide⟩
  rw [this]
theorem idxB_no {ss : List ByteArray} {x : ByteArray} (hno : ∀ j, (hj : j < ss.length) → sameB ss[j] x = false) : idxB ss x = -1 := by
  unfold idxB
  have : ss.findIdx? (fun y => sameB y x) = none := by
    rw [List.findIdx?_eq_none_iff]
    intro f hf
    obtain ⟨j, hj, rfl⟩ := List.getElem_of_mem hf
    exact hno j hj
  rw [this]

set_option maxHeartbeats 400000 in
theorem index_any (v : Value) (ss : List ByteArray) (x : ByteArray) (w : World) {P : Nat → Prop} (hv : StrsAt P w v ss) :
    Calls Tryz.prog 88 #[v, .string x] w fun e w' => e = .returned (.int .i64 (idxB ss x)) ∧ w' = w := by
  obtain ⟨a, cap, rfl, hlen, hc⟩ := hv
  have HC := hide hc; clear hc
  go_enter Tryz.func88, Tryz.ntmps88
  go_wp2
  go_loop [8] (fun i => ∃ (k : Nat), k ≤ ss.length ∧ i = .int .i64 k ∧ Hid (∀ j, j < k → (hj : j < ss.length) → sameB ss[j] x = false)) (fun i => ss.length - (intOf i).toNat)
  case atStart => exact ⟨0, Nat.zero_le _, rfl, fun j hj => by omega⟩
  case round =>
    obtain ⟨k, hk, rfl, HQ⟩ := hrel
    by_cases hlt : k < ss.length
    · obtain ⟨b, o, rfl, _, hcell, hsz⟩ := unhide HC k hlt
      cases e : sameB ss[k] x with
      | true =>
        have hd := hide (idxB_yes k hlt e HQ.out)
        rw [sameB_symm] at e
        unfold sameB at e
        go_wp2
        go_ret
        exact ⟨by rw [unhide hd]; rfl, rfl⟩
      | false =>
        have HE := hide e
        rw [sameB_symm] at e
        unfold sameB at e
        go_wp2
        go_round
        case rel => exact ⟨k + 1, by omega, by go_num, fun j hj hjl => by
          by_cases h : j = k
          · subst h; exact unhide HE
          · exact HQ.out j (by omega) hjl⟩
        case measure => simp [intOf]; omega
    · go_wp2
      go_ret
      exact ⟨by rw [idxB_no (fun j hj => HQ.out j (by omega) hj)]; rfl, rfl⟩

/-- Cells that are laid one behind the other into a row of the call's own. -/
theorem ownsRow_sets {base : Nat} {e : TypeId} {g n cap : Nat} : ∀ (vs a b : List Value) (w : World), w.ownsRow base e 1 (.slice (some ⟨g, 0, none⟩) n cap) n (a ++ b) → b.length = vs.length →
    (w.setCells g a.length vs).ownsRow base e 1 (.slice (some ⟨g, 0, none⟩) n cap) n (a ++ vs)
  | [], a, b, w, h, hb => by
    have : b = [] := List.eq_nil_of_length_eq_zero (by simpa using hb)
    subst this; exact h
  | v :: r, a, b, w, h, hb => by
    match b, hb with
    | x :: b', hb =>
      have h1 := ownsRow_put h a.length v
      have h2 : (a ++ x :: b').set a.length v = (a ++ [v]) ++ b' := by simp
      rw [h2] at h1
      have h3 := ownsRow_sets r (a ++ [v]) b' _ h1 (by simpa using hb)
      rw [List.length_append, List.append_assoc] at h3
      exact h3

theorem delete_any (ns : List ByteArray) (i : Nat) (w0 w : World) (v : Value) (n : Nat) (h : NmOwn w0 w v n ns) (hi : i < n) (hw : w0.heap.size ≤ w.heap.size) :
    Calls Tryz.prog 89 #[v, .int .i64 (i : Int), .int .i64 ((i : Int) + 1)] w fun e w' => ∃ v', e = .returned v' ∧ NmOwn w0 w' v' (n - 1) (ns.take i ++ ns.drop (i + 1)) := by
  obtain ⟨g, cap, rfl, hg, hlt⟩ := h.own.form (by omega)
  have hn := h.len
  rcases h.own.2 with ⟨hno, _⟩ | ⟨g', cap', cur, hv, hb, hh, hle, hm, hsz, htk⟩
  · cases hno
  simp only [Value.slice.injEq, Option.some.injEq, Addr.mk.injEq, and_true, true_and] at hv
  obtain ⟨rfl, rfl⟩ := hv
  have hcell : ∀ j, j < n → w.cell? ⟨g, 0 + j, none⟩ = some (.string (ns.getD j ByteArray.empty)) := fun j hj => by
    have h1 : (ns.map Value.string)[j]? = some (.string ns[j]) := by simp [show j < ns.length by omega]
    rw [← htk, List.getElem?_take_of_lt (by omega)] at h1
    simp only [World.cell?, hh, Nat.zero_add]
    rw [List.getD_eq_getElem?_getD, List.getElem?_eq_getElem (by omega)]
    simpa using h1
  have hfr : ∀ j, j < n → w.frozen? ⟨g, 0 + j, none⟩ = false := fun j _ => freeOfHeap hh _
  have hd := Tryz.slices_Delete_string_cells g 0 n cap i (i + 1) (fun j => ns.getD j ByteArray.empty) w hle (by unfold maxLen at hm; omega) (by omega) (by omega) hcell hfr
  have hs : Lib.strsOf (fun j => ns.getD j ByteArray.empty) n = ns.map fun (y : ByteArray) => y.data.toList := by
    unfold Lib.strsOf
    apply List.ext_getElem
    · simp [hn]
    · intro k h1 h2
      simp at h1 h2
      simp [List.getD, h2]
  rw [hs] at hd
  refine hd.mono ?_
  rintro e w' ⟨rfl, q, rfl⟩
  have hvs : (((ns.map fun (y : ByteArray) => y.data.toList).take i ++ (ns.map fun (y : ByteArray) => y.data.toList).drop (i + 1) ++ List.replicate (i + 1 - i) []).map encStr) = ((ns.take i ++ ns.drop (i + 1)).map Value.string) ++ [.string ByteArray.empty] := by
    rw [show i + 1 - i = 1 by omega, List.map_append, List.map_append, ← List.map_take, ← List.map_drop, List.map_map, List.map_map, List.map_append]
    rfl
  rw [hvs]
  have hlen : ((ns.take i ++ ns.drop (i + 1)).map Value.string).length = n - 1 := by simp; omega
  have hrow := ownsRow_sets (((ns.take i ++ ns.drop (i + 1)).map Value.string) ++ [.string ByteArray.empty]) [] (ns.map Value.string) (w.drewN q) h.own (by rw [List.length_append, hlen, List.length_map]; simp; omega)
  rw [List.nil_append, List.length_nil] at hrow
  refine ⟨_, by rw [show n - (i + 1 - i) = n - 1 by omega], ?_, ?_, ?_, ?_⟩
  · obtain ⟨m, rfl⟩ : ∃ m, n = m + 1 := ⟨n - 1, by omega⟩
    exact ownsRow_pop (by rw [hlen]; omega) hrow
  · rw [List.length_map] at hlen; exact hlen.symm
  · intro y hy
    rcases List.mem_append.1 hy with h1 | h1
    · exact h.sz y (List.mem_of_mem_take h1)
    · exact h.sz y (List.mem_of_mem_drop h1)
  · have hsz2 : ∀ (vs : List Value) (o : Nat) (W : World), (W.setCells g o vs).heap.size = W.heap.size := fun vs => by
      induction vs with
      | nil => intro o W; rfl
      | cons a r ih => intro o W; rw [World.setCells, ih]; simp [World.setCell]
    refine h.below.trans ⟨?_, ?_, ?_, ?_, fun k hk => ?_⟩
    · exact World.os_setCells _ _ _ _
    · have : ∀ (vs : List Value) (o : Nat) (W : World), (W.setCells g o vs).tape = W.tape := fun vs => by
        induction vs with
        | nil => intro o W; rfl
        | cons a r ih => intro o W; rw [World.setCells, ih]; rfl
      exact this _ _ _
    · exact World.output_setCells _ _ _ _
    · rw [hsz2]; exact Nat.le_refl _
    · rw [World.heap_setCells_other _ _ _ _ (by show k < w.heap.size; omega) (by omega)]; rfl
end Go.Proofs.YtgdiankfnemjjaaGreat

/- The program's moves: movingOf makes a function value of a move; what the two function values do with names of the call's own. Conditions: at most 2000 names. -/

namespace Go.Proofs.YtgdiankfnemjjaaGreat
open Go Go.RowKit

/-- The function value of a move whose box is B. -/
def mvF (gone : Bool) (B : Nat) : Value := .func (.func (if gone then 87 else 86)) #[] #[.pointer (some ⟨B, 0, none⟩)]

set_option maxHeartbeats 400000 in
theorem movingOf_any (m : Dm) (w : World) :
    Calls Tryz.prog 72 #[.agg #[.bool m.gone, .string m.name]] w fun e w' => e = .returned (mvF m.gone w.heap.size) ∧ w' = w.alloc (.cells #[.bool m.gone, .string m.name] 88) := by
  obtain ⟨g, nm⟩ := m
  cases g with
  | true =>
    go_enter Tryz.func72, Tryz.ntmps72
    go_wp2_with fail
    go_ret
    exact ⟨rfl, rfl⟩
  | false =>
    go_enter Tryz.func72, Tryz.ntmps72
    go_wp2_with fail
    go_ret
    exact ⟨rfl, rfl⟩

/-- What a move makes of names; nothing, if it cannot be done. -/
def mstep (ns : List ByteArray) (m : Dm) : Option (List ByteArray) :=
  if m.gone then (match ns.findIdx? (fun y => sameB y m.name) with | some i => some (ns.take i ++ ns.drop (i + 1)) | none => none) else some (ns ++ [m.name])

set_option maxRecDepth 100000 in
set_option maxHeartbeats 1600000 in
theorem make_call (nm : ByteArray) (hz : nm.size ≤ 9223372036854775807) (B : Nat) (ns : List ByteArray) (v : Value) (n : Nat) (w0 w : World) (h : NmOwn w0 w v n ns) (hl : n ≤ 2000) (hB : w.cell? ⟨B, 1, none⟩ = some (.string nm)) :
    Calls Tryz.prog 86 #[v, .pointer (some ⟨B, 0, none⟩)] w fun e w' => ∃ v', e = .returned (.tuple #[v', .bool true]) ∧ NmOwn w0 w' v' (n + 1) (ns ++ [nm]) := by
  obtain ⟨j0, hj, hy0, hy1, hy2⟩ := infoStrD
  have HJJ := hide hj; have HY0 := hide hy0; have HY1 := hide hy1; have HY2 := hide hy2
  have H := hide h
  have hws := h.below.size
  clear h hj hy0 hy1 hy2
  go_enter Tryz.func86, Tryz.ntmps86
  go_wp2_with (at_builtin; (refine append_row _ rfl _ _ 23 rfl w0.heap.size 9 j0 (.string ByteArray.empty) 1 16 Tryz.underlying23 (unhide HJJ) (unhide HY0) (unhide HY1) (unhide HY2) rfl (by decide) v n (ns.map Value.string) rfl (World.ownsRow.alloc (unhide H).own _) ⟨w.heap.size, 0, none⟩ 1 1 [.string nm] rfl rfl (cell_one w _ _) (fun u hu => by simp at hu; subst hu; rfl) (by decide) (by unfold maxLen; omega) (by omega) (by simp; omega) ?_; intro v' w5 hown5 hgrow5 hat5; have HO5 := hide hown5; have HB5 := hide (below_grown (by simp; omega) ((unhide H).below.alloc (unhide H).below.size (.cells #[.string nm] 9)) hgrow5 (fun b e => ((unhide H).own.lt b e).1)); clear hown5 hgrow5 hat5))
  go_ret2
  refine ⟨v', rfl, by simpa using unhide HO5, by simp [(unhide H).len], fun y hy => ?_, unhide HB5⟩
  rcases List.mem_append.1 hy with h1 | h1
  · exact (unhide H).sz y h1
  · simp at h1; rw [h1]; exact hz

set_option maxRecDepth 100000 in
set_option maxHeartbeats 1600000 in
theorem gone_call (nm : ByteArray) (B : Nat) (ns : List ByteArray) (v : Value) (n : Nat) (w0 w : World) (h : NmOwn w0 w v n ns) (hl : n ≤ 2000) (hB : w.cell? ⟨B, 1, none⟩ = some (.string nm)) (i : Nat) (hi : ns.findIdx? (fun y => sameB y nm) = some i) :
    Calls Tryz.prog 87 #[v, .pointer (some ⟨B, 0, none⟩)] w fun e w' => ∃ v', e = .returned (.tuple #[v', .bool true]) ∧ NmOwn w0 w' v' (n - 1) (ns.take i ++ ns.drop (i + 1)) := by
  have hin : i < n := by have := (List.findIdx?_eq_some_iff_getElem.1 hi).1; rw [h.len]; exact this
  have hx := index_any v ns nm w h.strs
  have hd := delete_any ns i w0 w v n h hin h.below.size
  have hii : idxB ns nm = i := by unfold idxB; rw [hi]
  rw [hii] at hx
  have HX := hide hx; have HD := hide hd
  obtain ⟨g, cap, rfl, -, -⟩ := h.own.form (by omega)
  clear h hx hd hii hi
  go_enter Tryz.func87, Tryz.ntmps87
  go_wp2_with (first
    | (go_at_call 88; refine (unhide HX).mono ?_; rintro e w' ⟨rfl, rfl⟩)
    | (go_at_call 89; refine (unhide HD).mono ?_; rintro e w' ⟨v', rfl, hn⟩; have HN := hide hn; clear hn))
  go_ret2
  exact ⟨v', rfl, unhide HN⟩

set_option maxRecDepth 100000 in
set_option maxHeartbeats 1600000 in
theorem gone_call_no (nm : ByteArray) (B : Nat) (ns : List ByteArray) (v : Value) (n : Nat) (w0 w : World) (h : NmOwn w0 w v n ns) (hB : w.cell? ⟨B, 1, none⟩ = some (.string nm)) (hi : ns.findIdx? (fun y => sameB y nm) = none) :
    Calls Tryz.prog 87 #[v, .pointer (some ⟨B, 0, none⟩)] w fun e w' => e = .returned (.tuple #[v, .bool false]) ∧ w' = w := by
  have hx := index_any v ns nm w h.strs
  have hii : idxB ns nm = -1 := by unfold idxB; rw [hi]
  rw [hii] at hx
  have HX := hide hx
  clear h hx hii hi
  go_enter Tryz.func87, Tryz.ntmps87
  go_wp2_with (go_at_call 88; refine (unhide HX).mono ?_; rintro e w' ⟨rfl, rfl⟩)
  go_ret2
  exact ⟨rfl, rfl⟩
end Go.Proofs.YtgdiankfnemjjaaGreat

/- The program's moved: the names behind so many moves, in memory of the call's own; nothing, if one of them cannot be done. Conditions: at most 1000 names and moves. -/

namespace Go.Proofs.YtgdiankfnemjjaaGreat
open Go Go.RowKit

/-- The function values of moves lie in memory. -/
def FnAt (P : Nat → Prop) (w : World) (v : Value) (ms : List Dm) : Prop :=
  ∃ a cap, v = .slice a ms.length cap ∧ (ms.length ≤ cap ∧ (a = none → cap = 0)) ∧ cap ≤ 9223372036854775807 ∧
    ∀ i, (h : i < ms.length) → ∃ b B, a = some ⟨b, 0, none⟩ ∧ P b ∧ P B ∧ w.cell? ⟨b, i, none⟩ = some (mvF ms[i].gone B) ∧ w.cell? ⟨B, 1, none⟩ = some (.string ms[i].name) ∧ ms[i].okM
theorem FnAt.carry {P Q : Nat → Prop} {w w' : World} {v : Value} {ms : List Dm} (h : FnAt P w v ms) (hP : ∀ b, P b → w'.heap[b]? = w.heap[b]?) (hQ : ∀ b, P b → Q b) : FnAt Q w' v ms := by
  obtain ⟨a, cap, h1, h2, h3, h4⟩ := h
  refine ⟨a, cap, h1, h2, h3, fun i hi => ?_⟩
  obtain ⟨b, B, e, hb, hB, c1, c2, hk⟩ := h4 i hi
  exact ⟨b, B, e, hQ b hb, hQ B hB, by rw [World.cell?_of_block (w := w) (hP b hb)]; exact c1, by rw [World.cell?_of_block (w := w) (hP B hB)]; exact c2, hk⟩

/-- The names behind moves, one behind the other. -/
def mfold (ns : List ByteArray) (ms : List Dm) : Option (List ByteArray) := ms.foldl (fun o m => o.bind fun l => mstep l m) (some ns)
theorem mfold_take {ns : List ByteArray} {ms : List Dm} {k : Nat} (hk : k < ms.length) : mfold ns (ms.take (k + 1)) = (mfold ns (ms.take k)).bind fun l => mstep l ms[k] := by
  unfold mfold
  rw [List.take_succ_eq_append_getElem hk, List.foldl_append]; rfl
theorem mfold_none (ms : List Dm) : ms.foldl (fun (o : Option (List ByteArray)) m => o.bind fun l => mstep l m) none = none := by
  induction ms with
  | nil => rfl
  | cons m r ih => exact ih
theorem mfold_stop {ns : List ByteArray} {ms : List Dm} {k q : Nat} (h : mfold ns (ms.take k) = none) (hk : k ≤ q) : mfold ns (ms.take q) = none := by
  have e : ms.take q = ms.take k ++ (ms.take q).drop k := by
    have := List.take_append_drop k (ms.take q)
    rw [List.take_take, Nat.min_eq_left hk] at this
    exact this.symm
  unfold mfold at h ⊢
  rw [e, List.foldl_append, h, mfold_none]
/-- What comes of names and moves. -/
def MvEnd (w w' : World) (e : Ending) : Option (List ByteArray) → Prop
  | none => e = .returned (.tuple #[.slice none 0 0, .bool false]) ∧ Below w.heap.size w w'
  | some l => ∃ v', e = .returned (.tuple #[v', .bool true]) ∧ NmOwn w w' v' l.length l
def fiveV (p0 p1 vn p2 vm : Value) : Nat → Value
  | 0 => p0
  | 1 => p1
  | 2 => vn
  | 3 => p2
  | _ => vm
theorem fiveV_alloc (w : World) (c0 c1 c2 c3 c4 : Value) (t : TypeId) : (w.alloc (.cells #[c0, c1, c2, c3, c4] t)).rowIs w.heap.size t 5 (fiveV c0 c1 c2 c3 c4) :=
  World.rowIs_alloc w #[c0, c1, c2, c3, c4] t _ (fun i hi => by
    have hi' : i < 5 := hi
    match i, hi' with
    | 0, _ => rfl
    | 1, _ => rfl
    | 2, _ => rfl
    | 3, _ => rfl
    | 4, _ => rfl)

set_option maxRecDepth 100000 in
set_option maxHeartbeats 1600000 in
theorem moved_any (ns : List ByteArray) (ms : List Dm) (p0 p1 vn p2 vm : Value) (P : Nat → Prop) (w : World) (hP : ∀ b, P b → b < w.heap.size) (hn : StrsAt P w vn ns) (hf : FnAt P w vm ms) (q : Nat) (hq : q ≤ ms.length) (hl1 : ns.length ≤ 1000) (hl2 : ms.length ≤ 1000) :
    Calls Tryz.prog 73 #[.agg #[p0, p1, vn, p2, vm], .int .i64 (q : Int)] w fun e w' => MvEnd w w' e (mfold ns (ms.take q)) := by
  have hbx : ∀ o, Below w.heap.size w (w.alloc o) := fun o => (Below.refl _ _).alloc (Nat.le_refl _) o
  have HCL := hide (fun o => cloneNs_any vn ns (w.alloc o) (P := P) (hn.carry (fun b hb => (hbx o).block b (hP b hb)) (fun _ h => h)) (by omega))
  obtain ⟨am, cm, rfl, ⟨hcm, hcn⟩, hcm2, hfc⟩ := hf
  have HFC := hide hfc; have HP := hide hP; have HBX := hide hbx
  have HROW := hide (fiveV_alloc w p0 p1 vn p2 (.slice am ms.length cm) 101)
  clear hn hfc hP hbx
  go_enter Tryz.func73, Tryz.ntmps73
  go_wp2_with fail
  refine (unhide HCL _).mono ?_
  rintro e w1 ⟨v1, rfl, hnm⟩
  have hb1 := hnm.below
  have hs1 : w.heap.size + 1 ≤ w1.heap.size := by have := hb1.size; simpa using this
  have hq1 := (unhide HROW).of_block (hb1.block w.heap.size (by simp))
  have k4 := hq1.cell (i := 4) (by omega)
  simp only [fiveV] at k4
  have HNM := hide hnm
  have hb01 := (unhide HBX (.cells #[p0, p1, vn, p2, .slice am ms.length cm] 101)).trans (hb1.mono (unhide HBX _).size)
  have HB01 := hide hb01
  have hqi0 : (0 : Int) ≤ (q : Int) := by omega
  have hqi1 : (q : Int) ≤ (cm : Int) := by omega
  clear hnm hb1 hq1 hb01 HCL
  cases am with
  | none =>
    have hcm0 := hcn rfl
    subst hcm0
    obtain rfl : q = 0 := by omega
    go_wp2_with fail
    go_loopw [6, 20] (fun vo i wr => vo = v1 ∧ i = .int .i64 0 ∧ wr = w1) (fun _ i _ => 0)
    case atStart => exact ⟨rfl, rfl, rfl⟩
    case round =>
      obtain ⟨rfl, rfl, rfl⟩ := hrel
      go_wp2_with fail
      go_ret2
      refine ⟨_, rfl, ?_⟩
      exact ⟨ownsRow_base (unhide HNM).own (unhide HBX _).size, (unhide HNM).len, (unhide HNM).sz, unhide HB01⟩
  | some ad =>
    go_wp2_with fail
    have HN1 := hide (show mfold ns (ms.take 0) = some ns from rfl)
    generalize hW1 : w.alloc (.cells #[p0, p1, vn, p2, .slice (some ad) ms.length cm] 101) = W1 at *
    have hsW : W1.heap.size = w.heap.size + 1 := by rw [← hW1]; simp
    have hbW : Below w.heap.size w W1 := by rw [← hW1]; exact unhide HBX _
    have HBW := hide hbW; have HSW := hide hsW
    clear k4 hW1 hbW hsW
    go_loopw [6, 20] (fun vo i wr => ∃ (k : Nat) (l : List ByteArray) (vk : Value), k ≤ q ∧ i = .int .i64 k ∧ vk = vo ∧ l.length ≤ ns.length + k ∧ Hid (mfold ns (ms.take k) = some l) ∧ Hid (NmOwn W1 wr vk l.length l)) (fun _ i _ => q - (intOf i).toNat)
    case atStart => exact ⟨0, ns, _, Nat.zero_le _, rfl, rfl, by omega, unhide HN1, unhide HNM⟩
    case round =>
      obtain ⟨k, l, vk, hk, rfl, rfl, hll, HF, HK⟩ := hrel
      have hbk := HK.out.below
      by_cases hlt : k < q
      rotate_left
      · obtain rfl : k = q := by omega
        clear hbk
        go_wp2_with fail
        go_ret2
        rw [HF.out]
        exact ⟨_, rfl, ownsRow_base HK.out.own (by have := unhide HSW; omega), HK.out.len, HK.out.sz, (unhide HBW).trans (HK.out.below.mono (by have := unhide HSW; omega))⟩
      · have hlm : k < ms.length := by omega
        obtain ⟨b, B, hab, hpb, hpB, c1, c2, hok⟩ := unhide HFC k hlm
        simp only [Option.some.injEq] at hab
        subst hab
        have hbb := unhide HP b hpb; have hbB := unhide HP B hpB
        have e1 : wr.cell? ⟨b, k, none⟩ = some (mvF ms[k].gone B) := by
          rw [World.cell?_of_block (w := w) ((hbk.block b (by have := unhide HSW; omega)).trans ((unhide HBW).block b hbb))]; exact c1
        have e2 : wr.cell? ⟨B, 1, none⟩ = some (.string ms[k].name) := by
          rw [World.cell?_of_block (w := w) ((hbk.block B (by have := unhide HSW; omega)).trans ((unhide HBW).block B hbB))]; exact c2
        have HT := hide (mfold_take (ns := ns) hlm)
        have hmz : ms[k].name.size ≤ 9223372036854775807 := hok
        have HBK := hide ((unhide HBW).trans (hbk.mono (by have := unhide HSW; omega)))
        clear c1 c2 hpb hpB hbb hbB hok hbk
        generalize ms[k] = m at *
        obtain ⟨g, nm⟩ := m
        simp only at e1 e2 hmz
        cases g with
        | false =>
          simp only [mvF, Bool.false_eq_true, if_false] at e1
          have HCA := hide (make_call nm hmz B l vk l.length W1 wr HK.out (by omega) e2)
          have HTT := hide (show mfold ns (ms.take (k + 1)) = some (l ++ [nm]) by rw [unhide HT, HF.out]; rfl)
          go_wp2_with fail
          refine (unhide HCA).mono ?_
          rintro e w5 ⟨v5, rfl, hn5⟩
          have HN5 := hide hn5
          clear hn5
          go_wp2_with fail
          go_roundw
          case rel => exact ⟨k + 1, l ++ [nm], _, by omega, by go_num, rfl, by simp; omega, unhide HTT, hide (by simpa using unhide HN5)⟩
          case measure => simp [intOf]; omega
        | true =>
          simp only [mvF, if_true] at e1
          cases hfi : l.findIdx? (fun y => sameB y nm) with
          | none =>
            have HCA := hide (gone_call_no nm B l vk l.length W1 wr HK.out e2 hfi)
            have HTT := hide (show mfold ns (ms.take q) = none from mfold_stop (k := k + 1) (by rw [unhide HT, HF.out]; simp [mstep, hfi]) (by omega))
            clear hfi
            go_wp2_with fail
            refine (unhide HCA).mono ?_
            rintro e w5 ⟨rfl, rfl⟩
            go_wp2_with fail
            go_ret2
            rw [unhide HTT]
            exact ⟨rfl, unhide HBK⟩
          | some i =>
            have hil := (List.findIdx?_eq_some_iff_getElem.1 hfi).1
            have HCA := hide (gone_call nm B l vk l.length W1 wr HK.out (by omega) e2 i hfi)
            have HTT := hide (show mfold ns (ms.take (k + 1)) = some (l.take i ++ l.drop (i + 1)) by rw [unhide HT, HF.out]; simp [mstep, hfi])
            have hl5 : (l.take i ++ l.drop (i + 1)).length = l.length - 1 := by simp; omega
            have HL5 := hide hl5
            clear hfi hl5
            go_wp2_with fail
            refine (unhide HCA).mono ?_
            rintro e w5 ⟨v5, rfl, hn5⟩
            rw [← unhide HL5] at hn5
            have HN5 := hide hn5
            clear hn5
            go_wp2_with fail
            go_roundw
            case rel => exact ⟨k + 1, l.take i ++ l.drop (i + 1), _, by omega, by go_num, rfl, by rw [unhide HL5]; omega, unhide HTT, unhide HN5⟩
            case measure => simp [intOf]; omega
end Go.Proofs.YtgdiankfnemjjaaGreat

/- The list of the moves' function values while it grows: each with the box of its move. No conditions. -/

namespace Go.Proofs.YtgdiankfnemjjaaGreat
open Go Go.RowKit

def fcells (ms : List Dm) (Bs : List Nat) : List Value := List.zipWith (fun m B => mvF m.gone B) ms Bs
theorem fcells_snoc {ms : List Dm} {Bs : List Nat} (h : Bs.length = ms.length) (m : Dm) (B : Nat) : fcells (ms ++ [m]) (Bs ++ [B]) = fcells ms Bs ++ [mvF m.gone B] := by
  unfold fcells
  rw [List.zipWith_append h.symm]; rfl

structure Mvs (V : Nat) (W : World) (vm : Value) (ms : List Dm) (Bs : List Nat) : Prop where
  len : Bs.length = ms.length
  own : W.ownsRow (V + 1) 118 1 vm ms.length (fcells ms Bs)
  box : ∀ j (h : j < ms.length) (h2 : j < Bs.length), V + 1 ≤ Bs[j] ∧ W.heap[Bs[j]]? = some (.cells #[.bool ms[j].gone, .string ms[j].name] 88)
theorem Mvs.start (V : Nat) (W : World) : Mvs V W (.slice none 0 0) [] [] := ⟨rfl, ⟨rfl, Or.inl ⟨rfl, rfl⟩⟩, fun j h => by simp at h⟩
theorem Mvs.alloc {V : Nat} {W : World} {vm : Value} {ms : List Dm} {Bs : List Nat} (h : Mvs V W vm ms Bs) (o : Obj) : Mvs V (W.alloc o) vm ms Bs :=
  ⟨h.len, h.own.alloc o, fun j h1 h2 => ⟨(h.box j h1 h2).1, by
    have h3 := (h.box j h1 h2).2
    rw [Below.heap_alloc _ _ _ (Array.getElem?_eq_some_iff.1 h3).1]; exact h3⟩⟩
theorem Mvs.drew {V : Nat} {W : World} {vm : Value} {ms : List Dm} {Bs : List Nat} (h : Mvs V W vm ms Bs) : Mvs V W.drew vm ms Bs := ⟨h.len, h.own, h.box⟩
theorem Mvs.set {V : Nat} {W : World} {vm : Value} {ms : List Dm} {Bs : List Nat} (h : Mvs V W vm ms Bs) (o : Nat) (u : Value) : Mvs V (W.setCell ⟨V, o, none⟩ u) vm ms Bs :=
  ⟨h.len, ownsRow_setCell_below h.own (a := ⟨V, o, none⟩) (Nat.lt_succ_self V) u, fun j h1 h2 => ⟨(h.box j h1 h2).1, by
    rw [Below.heap_setCell _ _ _ _ (by have := (h.box j h1 h2).1; show Bs[j] ≠ V; omega)]; exact (h.box j h1 h2).2⟩⟩
theorem Mvs.snoc {V : Nat} {W W' : World} {vm vm' : Value} {ms : List Dm} {Bs : List Nat} (h : Mvs V W vm ms Bs) (m : Dm) (B : Nat) (hB : V + 1 ≤ B) (hbox : W.heap[B]? = some (.cells #[.bool m.gone, .string m.name] 88))
    (hown : W'.ownsRow (V + 1) 118 1 vm' (ms.length + 1) (fcells ms Bs ++ [mvF m.gone B])) (hg : W.grownBy W' vm.ownBlock) : Mvs V W' vm' (ms ++ [m]) (Bs ++ [B]) := by
  have hne : ∀ b m', W.heap[b]? = some (Obj.cells m' 88 (0, 0)) → vm.ownBlock ≠ some b := fun b m' hb e => by
    rcases h.own.2 with ⟨hv, _⟩ | ⟨g, cap, cur, hv, _, hh, _⟩
    · rw [hv] at e; cases e
    · rw [hv] at e
      simp only [Value.ownBlock, Option.some.injEq] at e
      subst e
      rw [hh] at hb
      simp only [Option.some.injEq, Obj.cells.injEq] at hb
      exact absurd hb.2.1 (by decide)
  have keep : ∀ (b : Nat) (m' : Array Value), W.heap[b]? = some (Obj.cells m' 88 (0, 0)) → W'.heap[b]? = some (Obj.cells m' 88 (0, 0)) := fun b m' hb => by
    rw [hg.block b (Array.getElem?_eq_some_iff.1 hb).1 (fun e => hne b m' hb e.symm)]; exact hb
  refine ⟨by simp [h.len], ?_, fun j h1 h2 => ?_⟩
  · rw [List.length_append, fcells_snoc h.len]; exact hown
  · by_cases hj : j < ms.length
    · have hj2 : j < Bs.length := by rw [h.len]; exact hj
      rw [List.getElem_append_left hj, List.getElem_append_left hj2]
      exact ⟨(h.box j hj hj2).1, keep _ _ (h.box j hj hj2).2⟩
    · have e : j = ms.length := by simp at h1; omega
      subst e
      have e2 : (Bs ++ [B])[ms.length]'h2 = B := by
        rw [List.getElem_append_right (by rw [h.len]; exact Nat.le_refl _)]; simp [h.len]
      have e3 : (ms ++ [m])[ms.length]'h1 = m := by simp
      rw [e2, e3]
      exact ⟨hB, keep _ _ hbox⟩
theorem Mvs.fns {V : Nat} {w W : World} {vm : Value} {ms : List Dm} {Bs : List Nat} (h : Mvs V W vm ms Bs) (hV : w.heap.size ≤ V) (hok : ∀ m, m ∈ ms → m.okM) : FnAt (New w W) W vm ms := by
  rcases h.own.2 with ⟨hv, h0⟩ | ⟨g, cap, cur, hv, hb, hh, hle, hm, hsz, htk⟩
  · exact ⟨none, 0, by rw [h0]; exact hv, ⟨by omega, fun _ => rfl⟩, by omega, fun i hi => by omega⟩
  · refine ⟨some ⟨g, 0, none⟩, cap, hv, ⟨hle, fun e => by cases e⟩, by unfold maxLen at hm; omega, fun i hi => ?_⟩
    have hi2 : i < Bs.length := by rw [h.len]; exact hi
    obtain ⟨b1, b2⟩ := h.box i hi hi2
    have b3 := (Array.getElem?_eq_some_iff.1 b2).1
    refine ⟨g, Bs[i], rfl, ⟨by omega, (Array.getElem?_eq_some_iff.1 hh).1⟩, ⟨by omega, b3⟩, ?_, ?_, hok _ (List.getElem_mem hi)⟩
    · have h1 : (fcells ms Bs)[i]? = some (mvF ms[i].gone Bs[i]) := by
        unfold fcells
        rw [List.getElem?_eq_getElem (by rw [List.length_zipWith]; omega), List.getElem_zipWith]
      rw [← htk, List.getElem?_take_of_lt (by omega)] at h1
      simp only [World.cell?, hh]
      simpa using h1
    · simp [World.cell?, b2]
end Go.Proofs.YtgdiankfnemjjaaGreat

/- When a tree is ok, as plain functions on data: names, texts, a tree without its kids, its parts. Definitions and small laws, no program. No conditions. -/

namespace Go.Proofs.YtgdiankfnemjjaaGreat
open Go Go.RowKit

def nameByte (c : UInt8) : Bool := (97 ≤ c.toNat && c.toNat ≤ 122) || (48 ≤ c.toNat && c.toNat ≤ 57)
def nameFirst (c : UInt8) : Bool := 97 ≤ c.toNat && c.toNat ≤ 122
/-- The first k bytes are such. -/
def allTo (p : UInt8 → Bool) (s : ByteArray) (k : Nat) : Prop := ∀ j, j < k → (h : j < s.size) → p s[j] = true

def nameOkB (s : ByteArray) : Bool := 1 ≤ s.size && s.size ≤ 8 && nameFirst s[0]! && s.data.toList.all nameByte
theorem all_of {p : UInt8 → Bool} {s : ByteArray} (h : allTo p s s.size) : s.data.toList.all p = true := by
  rw [List.all_eq_true]
  intro x hx
  obtain ⟨i, hi, rfl⟩ := List.getElem_of_mem hx
  have hi' : i < s.size := by simpa using hi
  exact h i hi' hi'

theorem all_not {p : UInt8 → Bool} {s : ByteArray} {k : Nat} (hk : k < s.size) (h : p s[k] = false) : s.data.toList.all p = false := by
  rw [Bool.eq_false_iff]
  intro ha
  rw [List.all_eq_true] at ha
  have := ha s[k] (by have : s[k] = s.data.toList[k]'(by simpa using hk) := rfl; rw [this]; exact List.getElem_mem _)
  rw [h] at this
  cases this

theorem ret_bool {b c : Bool} (h : b = c) : Ending.returned (.bool b) = .returned (.bool c) := by rw [h]

theorem allTo_succ {p : UInt8 → Bool} {s : ByteArray} {k : Nat} (h : allTo p s k) (hk : k < s.size) (hp : p s[k] = true) : allTo p s (k + 1) := by
  intro j hj hs
  by_cases e : j = k
  · subst e; exact hp
  · exact h j (by omega) hs

theorem nameByte_yes {c : UInt8} (h : (97 ≤ c.toNat ∧ c.toNat ≤ 122) ∨ (48 ≤ c.toNat ∧ c.toNat ≤ 57)) : nameByte c = true := by
  unfold nameByte; rcases h with h | h <;> simp [h.1, h.2]
theorem nameByte_no {c : UInt8} (h : c.toNat < 48 ∨ (57 < c.toNat ∧ c.toNat < 97) ∨ 122 < c.toNat) : nameByte c = false := by
  unfold nameByte
  simp only [Bool.or_eq_false_iff, Bool.and_eq_false_iff, decide_eq_false_iff_not]
  omega
theorem nameOk_len {s : ByteArray} (h : s.size < 1 ∨ 8 < s.size) : nameOkB s = false := by
  unfold nameOkB
  rcases h with h | h
  · rw [show decide (1 ≤ s.size) = false from decide_eq_false (by omega)]; rfl
  · rw [show decide (s.size ≤ 8) = false from decide_eq_false (by omega)]; simp
theorem nameOk_first {s : ByteArray} (h0 : 0 < s.size) (h : s[0].toNat < 97 ∨ 122 < s[0].toNat) : nameOkB s = false := by
  unfold nameOkB
  rw [getElem!_pos s 0 h0, show nameFirst s[0] = false from by unfold nameFirst; simp only [Bool.and_eq_false_iff, decide_eq_false_iff_not]; omega]
  simp
theorem nameOk_not {s : ByteArray} {k : Nat} (hk : k < s.size) (h : nameByte s[k] = false) : nameOkB s = false := by
  simp [nameOkB, all_not hk h]
theorem nameOk_yes {s : ByteArray} (h1 : 0 < s.size) (h2 : s.size ≤ 8) (hf : 97 ≤ s[0].toNat ∧ s[0].toNat ≤ 122) (ha : allTo nameByte s s.size) : nameOkB s = true := by
  unfold nameOkB
  rw [all_of ha, getElem!_pos s 0 h1, show nameFirst s[0] = true from by unfold nameFirst; simp [hf.1, hf.2]]
  simp; omega


end Go.Proofs.YtgdiankfnemjjaaGreat

/- The walks of the program's isDigit, isNameByte, nameOk: what they answer. No conditions. -/

namespace Go.Proofs.YtgdiankfnemjjaaGreat
open Go Go.RowKit

def digitB (c : UInt8) : Bool := 48 ≤ c.toNat && c.toNat ≤ 57
theorem digit_yes {c : UInt8} (h : 48 ≤ c.toNat ∧ c.toNat ≤ 57) : digitB c = true := by unfold digitB; simp [h.1, h.2]
theorem digit_no {c : UInt8} (h : c.toNat < 48 ∨ 57 < c.toNat) : digitB c = false := by
  unfold digitB; simp only [Bool.and_eq_false_iff, decide_eq_false_iff_not]; omega
theorem nameByte_digit {c : UInt8} (h : c.toNat < 97 ∨ 122 < c.toNat) : nameByte c = digitB c := by
  unfold nameByte digitB
  rw [show (decide (97 ≤ c.toNat) && decide (c.toNat ≤ 122)) = false from by simp only [Bool.and_eq_false_iff, decide_eq_false_iff_not]; omega]
  rfl

set_option maxHeartbeats 400000 in
theorem isDigit_any (c : UInt8) (w : World) : Calls Tryz.prog 93 #[.int .u8 c.toNat] w fun e w' => e = .returned (.bool (digitB c)) ∧ w' = w := by
  have hc : (48 ≤ c.toNat ∧ c.toNat ≤ 57) ∨ c.toNat < 48 ∨ 57 < c.toNat := by omega
  rcases hc with hc | hc | hc
  · have HB := hide (digit_yes hc)
    obtain ⟨h1, h2⟩ := hc
    have d2 : decide ((c.toNat : Int) ≤ 57) = true := by simp; omega
    go_enter Tryz.func93, Tryz.ntmps93
    go_wp2_with fail
    go_ret
    exact ⟨ret_bool (unhide HB).symm, rfl⟩
  · have HB := hide (digit_no (Or.inl hc))
    go_enter Tryz.func93, Tryz.ntmps93
    go_wp2_with fail
    go_ret
    exact ⟨ret_bool (unhide HB).symm, rfl⟩
  · have HB := hide (digit_no (Or.inr hc))
    have d2 : decide ((c.toNat : Int) ≤ 57) = false := by simp; omega
    go_enter Tryz.func93, Tryz.ntmps93
    go_wp2_with fail
    go_ret
    exact ⟨ret_bool (unhide HB).symm, rfl⟩

set_option maxHeartbeats 400000 in
theorem isNameByte_any (c : UInt8) (w : World) : Calls Tryz.prog 94 #[.int .u8 c.toNat] w fun e w' => e = .returned (.bool (nameByte c)) ∧ w' = w := by
  have hc : (97 ≤ c.toNat ∧ c.toNat ≤ 122) ∨ c.toNat < 97 ∨ 122 < c.toNat := by omega
  rcases hc with hc | hc | hc
  · have HN := hide (nameByte_yes (Or.inl hc))
    obtain ⟨h1, h2⟩ := hc
    have d2 : decide ((c.toNat : Int) ≤ 122) = true := by simp; omega
    go_enter Tryz.func94, Tryz.ntmps94
    go_wp2_with (go_at_call 93; refine (isDigit_any _ _).mono ?_; rintro e w' ⟨rfl, rfl⟩)
    go_ret
    exact ⟨ret_bool (unhide HN).symm, rfl⟩
  · have HN := hide (nameByte_digit (Or.inl hc))
    go_enter Tryz.func94, Tryz.ntmps94
    go_wp2_with (go_at_call 93; refine (isDigit_any _ _).mono ?_; rintro e w' ⟨rfl, rfl⟩)
    go_ret
    exact ⟨ret_bool (unhide HN).symm, rfl⟩
  · have HN := hide (nameByte_digit (Or.inr hc))
    have d2 : decide ((c.toNat : Int) ≤ 122) = false := by simp; omega
    go_enter Tryz.func94, Tryz.ntmps94
    go_wp2_with (go_at_call 93; refine (isDigit_any _ _).mono ?_; rintro e w' ⟨rfl, rfl⟩)
    go_ret
    exact ⟨ret_bool (unhide HN).symm, rfl⟩

theorem nameOk_digit {s : ByteArray} (h0 : 0 < s.size) (h : digitB s[0] = true) : nameOkB s = false := by
  refine nameOk_first h0 ?_
  simp only [digitB, Bool.and_eq_true, decide_eq_true_eq] at h
  omega
theorem nameOk_yes2 {s : ByteArray} (h1 : 0 < s.size) (h2 : s.size ≤ 8) (hf : digitB s[0] = false) (ha : allTo nameByte s s.size) : nameOkB s = true := by
  refine nameOk_yes h1 h2 ?_ ha
  have hb := ha 0 h1 h1
  simp only [nameByte, digitB, Bool.or_eq_true, Bool.and_eq_true, Bool.and_eq_false_iff, decide_eq_true_eq, decide_eq_false_iff_not] at hb hf
  omega

set_option maxHeartbeats 400000 in
theorem nameOk_any (s : ByteArray) (w : World) (hs : s.size ≤ 9223372036854775807) :
    Calls Tryz.prog 84 #[.string s] w fun e w' => e = .returned (.bool (nameOkB s)) ∧ w' = w := by
  have hl : s.size < 1 ∨ 8 < s.size ∨ (0 < s.size ∧ s.size ≤ 8) := by omega
  rcases hl with hl | hl | ⟨hl0, hl8⟩
  · have HN := hide (nameOk_len (Or.inl hl))
    go_enter Tryz.func84, Tryz.ntmps84
    go_wp2_with fail
    go_ret
    exact ⟨ret_bool (unhide HN).symm, rfl⟩
  · have HN := hide (nameOk_len (Or.inr hl))
    go_enter Tryz.func84, Tryz.ntmps84
    go_wp2_with fail
    go_ret
    exact ⟨ret_bool (unhide HN).symm, rfl⟩
  · by_cases hf : digitB s[0] = true
    · have HN := hide (nameOk_digit hl0 hf)
      go_enter Tryz.func84, Tryz.ntmps84
      go_wp2_with (go_at_call 93; refine (isDigit_any _ _).mono ?_; rintro e w' ⟨rfl, rfl⟩)
      go_ret
      exact ⟨ret_bool (unhide HN).symm, rfl⟩
    · have hf' : digitB s[0] = false := by simpa using hf
      have HF := hide hf'
      clear hf
      go_enter Tryz.func84, Tryz.ntmps84
      go_wp2_with (go_at_call 93; refine (isDigit_any _ _).mono ?_; rintro e w' ⟨rfl, rfl⟩)
      go_loop [19] (fun i => ∃ k : Nat, k ≤ s.size ∧ i = .int .i64 k ∧ Hid (allTo nameByte s k)) (fun i => s.size - (intOf i).toNat)
      case atStart => exact ⟨0, Nat.zero_le _, rfl, fun j hj => by omega⟩
      case round =>
        obtain ⟨k, hk, rfl, HA⟩ := hrel
        by_cases hlt : k < s.size
        · by_cases hb : nameByte s[k] = true
          · have HN := hide (allTo_succ HA.out hlt hb)
            go_wp2_with (go_at_call 94; refine (isNameByte_any _ _).mono ?_; rintro e w' ⟨rfl, rfl⟩)
            go_round
            case rel => exact ⟨k + 1, by omega, by go_num, HN⟩
            case measure => simp [intOf]; omega
          · have hb' : nameByte s[k] = false := by simpa using hb
            clear hb
            have HN := hide (nameOk_not hlt hb')
            go_wp2_with (go_at_call 94; refine (isNameByte_any _ _).mono ?_; rintro e w' ⟨rfl, rfl⟩)
            go_ret
            exact ⟨ret_bool (unhide HN).symm, rfl⟩
        · go_wp2_with fail
          go_ret
          obtain rfl : k = s.size := by omega
          exact ⟨ret_bool (nameOk_yes2 hl0 hl8 (unhide HF) HA.out).symm, rfl⟩
end Go.Proofs.YtgdiankfnemjjaaGreat
