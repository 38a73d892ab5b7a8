/- What the specification asks of a disk is what the program asks of it. No program, no conditions. -/
import Derived.Test.YtgdiankfnemjjaaGreatPart06
import Derived.Test.YtgdiankfnemjjaaGreatPart02
import Derived.Test.YtgdiankfnemjjaaGreatRows
import Derived.Test.YtgdiankfnemjjaaGreatPart00
namespace Go.Proofs.YtgdiankfnemjjaaGreat
open Go Go.RowKit

theorem sameB_dec (y x : ByteArray) : sameB y x = decide (y = x) := lst_beq y x
theorem hasB_iff {ns : List ByteArray} {x : ByteArray} : hasB ns x = true ↔ x ∈ ns := by
  unfold hasB
  rw [List.any_eq_true]
  constructor
  · rintro ⟨y, hy, h⟩
    rw [sameB_dec, decide_eq_true_eq] at h
    rw [← h]; exact hy
  · intro h
    exact ⟨x, h, by rw [sameB_dec]; simp⟩
theorem without_filter (ns : List ByteArray) (x : ByteArray) : withoutB ns x = ns.filter fun y => !decide (y = x) := by
  unfold withoutB
  congr 1
  funext y
  rw [sameB_dec]
theorem findIdx_some {ns : List ByteArray} {x : ByteArray} (h : x ∈ ns) : ∃ i, ns.findIdx? (fun y => sameB y x) = some i := by
  cases e : ns.findIdx? (fun y => sameB y x) with
  | some i => exact ⟨i, rfl⟩
  | none =>
    rw [List.findIdx?_eq_none_iff] at e
    have := e x h
    rw [sameB_dec] at this
    simp at this
theorem findIdx_none {ns : List ByteArray} {x : ByteArray} (h : x ∉ ns) : ns.findIdx? (fun y => sameB y x) = none := by
  rw [List.findIdx?_eq_none_iff]
  intro y hy
  rw [sameB_dec]
  simp only [decide_eq_false_iff_not]
  rintro rfl
  exact h hy
theorem without_idx {ns : List ByteArray} {x : ByteArray} {i : Nat} (hnd : ns.Nodup) (h : ns.findIdx? (fun y => sameB y x) = some i) : ns.take i ++ ns.drop (i + 1) = withoutB ns x := by
  obtain ⟨hi, hx, -⟩ := List.findIdx?_eq_some_iff_getElem.1 h
  rw [sameB_dec, decide_eq_true_eq] at hx
  have hns : ns = ns.take i ++ x :: ns.drop (i + 1) := by
    rw [← hx, ← List.drop_eq_getElem_cons hi, List.take_append_drop]
  rw [without_filter]
  have hnd2 := hnd
  rw [hns] at hnd2
  obtain ⟨-, h2, h3⟩ := List.nodup_append.1 hnd2
  have h4 : x ∉ ns.drop (i + 1) := (List.nodup_cons.1 h2).1
  have h5 : x ∉ ns.take i := fun hm => h3 x hm x List.mem_cons_self rfl
  conv => rhs; rw [hns]
  rw [List.filter_append, List.filter_cons]
  simp only [decide_true, Bool.not_true, Bool.false_eq_true, if_false]
  rw [List.filter_eq_self.2 (fun y hy => by simp; rintro rfl; exact h5 hy), List.filter_eq_self.2 (fun y hy => by simp; rintro rfl; exact h4 hy)]
theorem mstep_mem {l : List ByteArray} {m : Dm} (hnd : l.Nodup) (h : m.gone = true → m.name ∈ l) : mstep l m = some (stepD l m) := by
  unfold mstep stepD
  cases e : m.gone with
  | false => simp
  | true =>
    obtain ⟨i, hi⟩ := findIdx_some (h e)
    simp only [if_true, hi, without_idx hnd hi]
theorem mstep_not {l : List ByteArray} {m : Dm} (hg : m.gone = true) (h : m.name ∉ l) : mstep l m = none := by
  unfold mstep
  simp only [hg, if_true, findIdx_none h]

theorem made_sub (ns : List ByteArray) (ms : List Dm) (k : Nat) : (madeD ns (ms.take k)).Sublist (madeD ns ms) := by
  unfold madeD
  exact List.Sublist.append (List.Sublist.refl _) (((List.take_sublist k ms).filter _).map _)
theorem after_nodup {ns : List ByteArray} {ms : List Dm} (hnd : (madeD ns ms).Nodup) : ∀ k, k ≤ ms.length → (afterD ns (ms.take k)).Nodup ∧ ∀ x, x ∈ afterD ns (ms.take k) → x ∈ madeD ns (ms.take k)
  | 0, _ => by
    have h0 : madeD ns (ms.take 0) = ns := by simp [madeD]
    have := hnd.sublist (made_sub ns ms 0)
    rw [h0] at this ⊢
    exact ⟨this, fun x hx => hx⟩
  | k + 1, hk => by
    obtain ⟨h1, h2⟩ := after_nodup hnd k (by omega)
    have hm := made_take (ns := ns) (ms := ms) (k := k) (by omega)
    have hn := hnd.sublist (made_sub ns ms (k + 1))
    rw [after_take (by omega)]
    unfold stepD
    cases e : ms[k].gone with
    | true =>
      rw [e] at hm
      simp only [if_true] at hm ⊢
      rw [hm]
      unfold withoutB
      exact ⟨h1.sublist List.filter_sublist, fun x hx => h2 x (List.mem_filter.1 hx).1⟩
    | false =>
      rw [e] at hm
      simp only [Bool.false_eq_true, if_false] at hm ⊢
      rw [hm] at hn ⊢
      obtain ⟨-, -, h5⟩ := List.nodup_append.1 hn
      refine ⟨List.nodup_append.2 ⟨h1, by simp, fun a ha b hb => ?_⟩, fun x hx => ?_⟩
      · exact h5 a (h2 a ha) b hb
      · rcases List.mem_append.1 hx with h | h
        · exact List.mem_append.2 (Or.inl (h2 x h))
        · exact List.mem_append.2 (Or.inr h)
theorem mfold_after {ns : List ByteArray} {ms : List Dm} (hnd : (madeD ns ms).Nodup) (hmv : ∀ i (h : i < ms.length), ms[i].gone = true → ms[i].name ∈ afterD ns (ms.take i)) : ∀ k, k ≤ ms.length → mfold ns (ms.take k) = some (afterD ns (ms.take k))
  | 0, _ => rfl
  | k + 1, hk => by
    rw [mfold_take (by omega), mfold_after hnd hmv k (by omega), after_take (by omega)]
    exact mstep_mem (after_nodup hnd k (by omega)).1 (hmv k (by omega))
theorem mfold_conv {ns : List ByteArray} {ms : List Dm} (hnd : (madeD ns ms).Nodup) : ∀ k, k ≤ ms.length → (mfold ns (ms.take k)).isSome = true → ∀ i (h : i < ms.length), i < k → ms[i].gone = true → ms[i].name ∈ afterD ns (ms.take i)
  | 0, _, _ => fun i _ hi => by omega
  | k + 1, hk, hs => by
    have hsk : (mfold ns (ms.take k)).isSome = true := by
      rw [mfold_take (by omega)] at hs
      cases e : mfold ns (ms.take k) with
      | none => rw [e] at hs; cases hs
      | some l => rfl
    have ih := mfold_conv hnd k (by omega) hsk
    have hex : mfold ns (ms.take k) = some (afterD ns (ms.take k)) := by
      have := mfold_after (ns := ns) (ms := ms.take k) (hnd.sublist (made_sub ns ms k)) (fun i h hg => by
        have hi : i < k := by rw [List.length_take] at h; omega
        rw [List.getElem_take] at hg ⊢
        rw [List.take_take, Nat.min_eq_left (by omega)]
        exact ih i (by omega) hi hg) k (by rw [List.length_take]; omega)
      rwa [List.take_take, Nat.min_self] at this
    intro i h hi hg
    by_cases e : i = k
    · subst e
      refine Classical.byContradiction fun hno => ?_
      rw [mfold_take (by omega), hex] at hs
      simp only [Option.bind_some, mstep_not hg hno] at hs
      cases hs
    · exact ih i h (by omega) hg

theorem nodup_take {l : List ByteArray} (h : ∀ i (hi : i < l.length), l[i] ∉ l.take i) : l.Nodup := by
  unfold List.Nodup
  rw [List.pairwise_iff_getElem]
  intro i j hi hj hij e
  refine h j hj ?_
  rw [← e]
  exact List.mem_take_iff_getElem.2 ⟨i, by omega, rfl⟩
theorem named_eq {fs : List Df} {ns : List ByteArray} (h : FNamed fs ns) : fs.map Df.name = ns := by
  apply List.ext_getElem
  · rw [List.length_map]; exact h.len
  · intro i h1 h2
    rw [List.length_map] at h1
    have := h.same i h1 h2
    rw [sameB_dec, decide_eq_true_eq] at this
    rw [List.getElem_map]; exact this

theorem dkOk_iff (d : Dk) : DkOkS d ↔ DkOkP d := by
  constructor
  · intro h
    have hnamed : FNamed d.files (madeD d.names d.moves) := ⟨h.len.symm, fun i h1 h2 => (h.file i h1 h2).same⟩
    have heq := named_eq hnamed
    have hno : ∀ i (hi : i < d.files.length), d.files[i].name ∉ (d.files.map Df.name).take i := fun i hi hm => by
      have hf := (h.file i hi (by rw [h.len]; exact hi)).find
      obtain ⟨j, hj, e⟩ := List.mem_take_iff_getElem.1 hm
      rw [List.length_map] at hj
      rw [List.getElem_map] at e
      unfold findF at hf
      cases e2 : d.files.findIdx? (fun f => sameB f.name d.files[i].name) with
      | none => rw [e2] at hf; simp only at hf; omega
      | some q =>
        rw [e2] at hf
        simp only at hf
        obtain ⟨hq, -, hlt⟩ := List.findIdx?_eq_some_iff_getElem.1 e2
        have := hlt j (by omega)
        rw [sameB_dec, e] at this
        simp at this
    have hnd : (madeD d.names d.moves).Nodup := by
      rw [← heq]
      refine nodup_take fun i hi => ?_
      rw [List.length_map] at hi
      rw [List.getElem_map]
      exact hno i hi
    refine ⟨h.l1, h.l3, ⟨?_, hnamed⟩, fun i hi => ⟨hno i hi, ?_⟩, ?_⟩
    · rw [← h.len]; unfold madeD; rw [List.length_append]; omega
    · have hf := h.file i hi (by rw [h.len]; exact hi)
      unfold fOkB
      rw [hf.name, decide_eq_true hf.data, decide_eq_true hf.kept]; rfl
    · have := mfold_after hnd (fun i hi hg => hasB_iff.1 (h.move i hi hg)) d.moves.length (Nat.le_refl _)
      rw [List.take_of_length_le (Nat.le_refl _)] at this
      rw [this]; rfl
  · intro h
    have heq := named_eq h.made.named
    have hnd : (madeD d.names d.moves).Nodup := by
      rw [← heq]
      refine nodup_take fun i hi => ?_
      rw [List.length_map] at hi
      rw [List.getElem_map]
      exact (h.file i hi).1
    refine ⟨h.l1, by have := h.made.le; have := h.l1; omega, h.l3, h.made.named.len.symm, fun i hi h2 => ?_, fun i hi hg => hasB_iff.2 ?_⟩
    · have hf := (h.file i hi).2
      unfold fOkB at hf
      simp only [Bool.and_eq_true, decide_eq_true_eq] at hf
      refine ⟨hf.1.1, h.made.named.same i hi h2, hf.1.2, hf.2, ?_⟩
      refine findF_yes i hi (by rw [sameB_dec]; simp) (fun j hj hjl => ?_)
      rw [sameB_dec, decide_eq_false_iff_not]
      intro e
      refine (h.file i hi).1 (List.mem_take_iff_getElem.2 ⟨j, by rw [List.length_map]; omega, ?_⟩)
      rw [List.getElem_map]; exact e
    · exact mfold_conv hnd d.moves.length (Nat.le_refl _) (by rw [List.take_of_length_le (Nat.le_refl _)]; exact h.move) i hi hi hg
end Go.Proofs.YtgdiankfnemjjaaGreat

/- What the program's views say: the names that are there, whether one is, a file by its name. Conditions: the disk is ok. -/

namespace Go.Proofs.YtgdiankfnemjjaaGreat
open Go Go.RowKit Go.WideMaps Go.Maps

theorem idxB_has (ss : List ByteArray) (x : ByteArray) : decide ((0 : Int) ≤ idxB ss x) = hasB ss x := by
  rw [Bool.eq_iff_iff, decide_eq_true_eq, hasB_iff]
  unfold idxB
  constructor
  · intro h
    cases e : ss.findIdx? (fun y => sameB y x) with
    | none => rw [e] at h; simp at h
    | some i =>
      obtain ⟨hi, hx, -⟩ := List.findIdx?_eq_some_iff_getElem.1 e
      rw [sameB_dec, decide_eq_true_eq] at hx
      rw [← hx]; exact List.getElem_mem hi
  · intro h
    obtain ⟨i, hi⟩ := findIdx_some h
    rw [hi]; simp
set_option maxHeartbeats 400000 in
theorem contains_any (v : Value) (ss : List ByteArray) (x : ByteArray) (w : World) {P : Nat → Prop} (hv : StrsAt P w v ss) :
    Calls Tryz.prog 101 #[v, .string x] w fun e w' => e = .returned (.bool (hasB ss x)) ∧ w' = w := by
  have HI := hide (index_any v ss x w hv)
  have HH := hide (idxB_has ss x)
  generalize idxB ss x = n at *
  clear hv
  go_enter Tryz.func101, Tryz.ntmps101
  go_wp2_with (go_at_call 88; refine (unhide HI).mono ?_; rintro e w' ⟨rfl, rfl⟩)
  go_ret
  exact ⟨by rw [← unhide HH]; rfl, rfl⟩

/-- So many moves, none if below 0, all if there are fewer. -/
def clampQ (q : Int) (n : Nat) : Nat := (max 0 (min q (n : Int))).toNat
theorem clampQ_le (q : Int) (n : Nat) : clampQ q n ≤ n := by unfold clampQ; omega
theorem clampQ_int (q : Int) (n : Nat) : ((clampQ q n : Nat) : Int) = max 0 (min q (n : Int)) := by unfold clampQ; omega

set_option maxRecDepth 100000 in
set_option maxHeartbeats 800000 in
theorem behind_any (ns : List ByteArray) (ms : List Dm) (q0 q1 : Option Addr) (x2 : Option Addr) (n2 m2 : Nat) (q3 : Option Addr) (x4 : Option Addr) (n4 m4 : Nat) (P : Nat → Prop) (w : World) (hP : ∀ b, P b → b < w.heap.size) (hn : StrsAt P w (.slice x2 n2 m2) ns) (hf : FnAt P w (.slice x4 n4 m4) ms) (q : Int) (hl1 : ns.length ≤ 1000) (hl2 : ms.length ≤ 1000) (l : List ByteArray) (hl : mfold ns (ms.take (clampQ q ms.length)) = some l) :
    Calls Tryz.prog 77 #[.agg #[.pointer q0, .pointer q1, .slice x2 n2 m2, .pointer q3, .slice x4 n4 m4], .int .i64 q] w fun e w' => ∃ v', e = .returned v' ∧ NmOwn w w' v' l.length l := by
  have hbx : ∀ o, Below w.heap.size w (w.alloc o) := fun o => (Below.refl _ _).alloc (Nat.le_refl _) o
  have HMV := hide (fun o => moved_any ns ms (.pointer q0) (.pointer q1) (.slice x2 n2 m2) (.pointer q3) (.slice x4 n4 m4) P (w.alloc o) (fun b hb => Nat.lt_of_lt_of_le (hP b hb) (hbx o).size) (hn.carry (fun b hb => (hbx o).block b (hP b hb)) (fun _ h => h)) (hf.carry (fun b hb => (hbx o).block b (hP b hb)) (fun _ h => h)) (clampQ q ms.length) (clampQ_le _ _) hl1 hl2)
  obtain ⟨am, cm, e4, -, -, -⟩ := hf
  simp only [Value.slice.injEq] at e4
  obtain ⟨rfl, rfl, rfl⟩ := e4
  rw [hl, clampQ_int] at HMV
  have HBX := hide hbx
  clear hn hl hbx hP
  go_enter Tryz.func77, Tryz.ntmps77
  go_wp2_with fail
  refine (unhide HMV _).mono ?_
  rintro e w1 ⟨v1, rfl, hn1⟩
  have HN1 := hide hn1
  clear hn1
  go_wp2_with fail
  go_ret
  exact ⟨v1, rfl, ownsRow_base (unhide HN1).own (unhide HBX _).size, (unhide HN1).len, (unhide HN1).sz, (unhide HBX _).trans ((unhide HN1).below.mono (unhide HBX _).size)⟩

/-- Views stay what they are where nothing of theirs turns. -/
theorem VwAt.carry {w W W' : World} {d : Dk} {c : C3} {V : Value} {T B : Nat} {vm : Value} (h : VwAt w W d c V T B vm) (hb : Below W.heap.size W W') : VwAt w W' d c V T B vm :=
  ⟨h.val, ⟨h.tb.1, Nat.lt_of_lt_of_le h.tb.2 hb.size⟩, ⟨h.bb.1, Nat.lt_of_lt_of_le h.bb.2 hb.size⟩, h.row.of_block (hb.block T h.tb.2), ownsMap_block h.map (hb.block B h.bb.2), h.fns.carry (fun b hx => hb.block b hx.2) (fun _ hx => ⟨hx.1, Nat.lt_of_lt_of_le hx.2 hb.size⟩)⟩

theorem clampQ_all (n : Nat) : clampQ (n : Int) n = n := by unfold clampQ; omega

set_option maxRecDepth 100000 in
set_option maxHeartbeats 800000 in
theorem there_any (ns : List ByteArray) (ms : List Dm) (q0 q1 : Option Addr) (x2 : Option Addr) (n2 m2 : Nat) (q3 : Option Addr) (x4 : Option Addr) (n4 m4 : Nat) (P : Nat → Prop) (w : World) (hP : ∀ b, P b → b < w.heap.size) (hn : StrsAt P w (.slice x2 n2 m2) ns) (hf : FnAt P w (.slice x4 n4 m4) ms) (hl1 : ns.length ≤ 1000) (hl2 : ms.length ≤ 1000) (l : List ByteArray) (hl : mfold ns ms = some l) :
    Calls Tryz.prog 102 #[.agg #[.pointer q0, .pointer q1, .slice x2 n2 m2, .pointer q3, .slice x4 n4 m4]] w fun e w' => ∃ v', e = .returned v' ∧ NmOwn w w' v' l.length l := by
  have hbx : ∀ o, Below w.heap.size w (w.alloc o) := fun o => (Below.refl _ _).alloc (Nat.le_refl _) o
  have HMV := hide (fun o => behind_any ns ms q0 q1 x2 n2 m2 q3 x4 n4 m4 P (w.alloc o) (fun b hb => Nat.lt_of_lt_of_le (hP b hb) (hbx o).size) (hn.carry (fun b hb => (hbx o).block b (hP b hb)) (fun _ h => h)) (hf.carry (fun b hb => (hbx o).block b (hP b hb)) (fun _ h => h)) (ms.length : Int) hl1 hl2 l (by rw [clampQ_all, List.take_of_length_le (Nat.le_refl _)]; exact hl))
  obtain ⟨am, cm, e4, -, -, -⟩ := hf
  simp only [Value.slice.injEq] at e4
  obtain ⟨rfl, rfl, rfl⟩ := e4
  have HBX := hide hbx
  clear hn hl hbx hP
  go_enter Tryz.func102, Tryz.ntmps102
  go_wp2_with fail
  refine (unhide HMV _).mono ?_
  rintro e w1 ⟨v1, rfl, hn1⟩
  have HN1 := hide hn1
  clear hn1
  go_wp2_with fail
  go_ret
  exact ⟨v1, rfl, ownsRow_base (unhide HN1).own (unhide HBX _).size, (unhide HN1).len, (unhide HN1).sz, (unhide HBX _).trans ((unhide HN1).below.mono (unhide HBX _).size)⟩

set_option maxRecDepth 100000 in
set_option maxHeartbeats 800000 in
theorem isThere_any (ns : List ByteArray) (ms : List Dm) (q0 q1 : Option Addr) (x2 : Option Addr) (n2 m2 : Nat) (q3 : Option Addr) (x4 : Option Addr) (n4 m4 : Nat) (P : Nat → Prop) (w : World) (hP : ∀ b, P b → b < w.heap.size) (hn : StrsAt P w (.slice x2 n2 m2) ns) (hf : FnAt P w (.slice x4 n4 m4) ms) (hl1 : ns.length ≤ 1000) (hl2 : ms.length ≤ 1000) (l : List ByteArray) (hl : mfold ns ms = some l) (x : ByteArray) :
    Calls Tryz.prog 99 #[.agg #[.pointer q0, .pointer q1, .slice x2 n2 m2, .pointer q3, .slice x4 n4 m4], .string x] w fun e w' => e = .returned (.bool (hasB l x)) ∧ Below w.heap.size w w' := by
  have hbx : ∀ o, Below w.heap.size w (w.alloc o) := fun o => (Below.refl _ _).alloc (Nat.le_refl _) o
  have HMV := hide (fun o => there_any ns ms q0 q1 x2 n2 m2 q3 x4 n4 m4 P (w.alloc o) (fun b hb => Nat.lt_of_lt_of_le (hP b hb) (hbx o).size) (hn.carry (fun b hb => (hbx o).block b (hP b hb)) (fun _ h => h)) (hf.carry (fun b hb => (hbx o).block b (hP b hb)) (fun _ h => h)) hl1 hl2 l hl)
  have HBX := hide hbx
  clear hn hl hbx hP hf
  go_enter Tryz.func99, Tryz.ntmps99
  go_wp2_with fail
  refine (unhide HMV _).mono ?_
  rintro e w1 ⟨v1, rfl, hn1⟩
  have HC := hide (contains_any v1 l x w1 hn1.strs)
  have HB1 := hide ((unhide HBX _).trans (hn1.below.mono (unhide HBX _).size))
  clear hn1
  go_wp2_with fail
  refine (unhide HC).mono ?_
  rintro e w2 ⟨rfl, rfl⟩
  go_wp2_with fail
  go_ret
  exact ⟨rfl, unhide HB1⟩

set_option maxRecDepth 100000 in
set_option maxHeartbeats 1600000 in
theorem fileOf_any (fs : List Df) (a0 : Option Addr) (n0 p0 : Nat) (T B : Nat) (P : Nat → Prop) (w : World) (hP : ∀ b, P b → b < w.heap.size) (hv : FsAt P w (.slice a0 n0 p0) fs) (hrow : w.rowIs T 114 2 (rowO (.slice a0 n0 p0) (.map (some B)))) (hmap : NMap w B (fs.map Df.name)) (hnd : (fs.map Df.name).Nodup) (i : Nat) (hi : i < fs.length) :
    Calls Tryz.prog 98 #[.pointer (some ⟨T, 0, none⟩), .string fs[i].name] w fun e w' => e = .returned (.agg #[.string fs[i].name, .string fs[i].data, .int .i64 fs[i].kept]) ∧ Below w.heap.size w w' := by
  obtain ⟨a, cap, e0, hlen, hc⟩ := hv.open
  simp only [Value.slice.injEq] at e0
  obtain ⟨rfl, rfl, rfl⟩ := e0
  obtain ⟨b, o, rfl, hpb, ⟨c0, c1, c2⟩, hok⟩ := hc i hi
  simp only at c0 c1 c2
  have hbx : ∀ o, Below w.heap.size w (w.alloc o) := fun o => (Below.refl _ _).alloc (Nat.le_refl _) o
  have hbb := hP b hpb
  have t0 := hrow.cell (i := 0) (by omega); have t1 := hrow.cell (i := 1) (by omega)
  simp only [rowO] at t0 t1
  have hTl := hrow.lt
  have hkey : keyOf Tryz.prog 9 (.string fs[i].name) = some (nkey fs[i].name) := keyOf_string_mk Tryz.underlying9 (by unfold maxLen; have := hok.1; omega)
  have hmap2 := fun o => (World.ownsMap.alloc hmap o).drew
  have hat := at_nmap (fs.map Df.name) hnd i (by rw [List.length_map]; exact hi) (fs.map Df.name).length (Nat.le_refl _) (by rw [List.length_map]; exact hi)
  rw [List.getElem_map] at hat
  have hrun : ∀ o, (Instr.lookup 112 (.map (some B)) (.string fs[i].name) false).run Tryz.prog (w.alloc o).drew = .ok (.int .i64 i) (w.alloc o).drew := fun o => by
    obtain ⟨c, hr, hc, -⟩ := (hmap2 o).lookup_int keyLaw Tryz.underlying112 Tryz.underlying3 (zeroInt _) hkey
    rw [hat] at hc
    have : c = (i : Int) := by simpa using hc.symm
    rw [this] at hr; exact hr
  have T0 : ∀ o', (w.alloc o').cell? ⟨T, 0, none⟩ = some (.slice (some ⟨b, o, none⟩) fs.length p0) := fun o' => by rw [World.cell?_of_block (w := w) (Below.heap_alloc _ _ _ hTl)]; exact t0
  have T1 : ∀ o', (w.alloc o').cell? ⟨T, 1, none⟩ = some (.map (some B)) := fun o' => by rw [World.cell?_of_block (w := w) (Below.heap_alloc _ _ _ hTl)]; exact t1
  have C0 : ∀ o', (w.alloc o').cell? ⟨b, o + i * 3, none⟩ = some (.string fs[i].name) := fun o' => by rw [World.cell?_of_block (w := w) (Below.heap_alloc _ _ _ hbb)]; exact c0
  have C1 : ∀ o', (w.alloc o').cell? ⟨b, o + i * 3 + 1, none⟩ = some (.string fs[i].data) := fun o' => by rw [World.cell?_of_block (w := w) (Below.heap_alloc _ _ _ hbb)]; exact c1
  have C2 : ∀ o', (w.alloc o').cell? ⟨b, o + i * 3 + 2, none⟩ = some (.int .i64 fs[i].kept) := fun o' => by rw [World.cell?_of_block (w := w) (Below.heap_alloc _ _ _ hbb)]; exact c2
  have hii : (i : Int) < (fs.length : Int) := by omega
  have HBX := hide hbx
  clear hv hc hpb c0 c1 c2 t0 t1 hrow hmap hmap2 hnd hat hbx hP hok
  generalize fs[i] = f at *
  obtain ⟨fn, fd, fk⟩ := f
  simp only at *
  go_enter Tryz.func98, Tryz.ntmps98
  go_wp2_with fail
  go_region
  go_wp2_with fail
  try simp only [Exit.inBlock, Exit.then]
  refine bodyPost_ret (v := .agg #[.string fn, .string fd, .int .i64 fk]) (by simp [results, Tryz.results98, go_sem]) rfl ?_
  exact ⟨rfl, (unhide HBX _).drew⟩
end Go.Proofs.YtgdiankfnemjjaaGreat

/- Both DiskLooks, and the specification's DiskNames: what they answer, and that they turn nothing that was there. No conditions. -/

namespace Go.Proofs.YtgdiankfnemjjaaGreat
open Go Go.RowKit Go.WideMaps Go.Maps

/-- The names that are there. -/
noncomputable def namesD (d : Dk) : List ByteArray := open Classical in if DkOkS d then afterD d.names d.moves else []
theorem namesD_ok {d : Dk} (h : DkOkS d) : namesD d = afterD d.names d.moves := if_pos h
theorem namesD_no {d : Dk} (h : ¬ DkOkS d) : namesD d = [] := if_neg h
theorem dk_nodup {d : Dk} (h : DkOkS d) : (madeD d.names d.moves).Nodup ∧ d.files.map Df.name = madeD d.names d.moves ∧ mfold d.names d.moves = some (afterD d.names d.moves) := by
  have hp := (dkOk_iff d).1 h
  have heq := named_eq hp.made.named
  have hnd : (madeD d.names d.moves).Nodup := by
    rw [← heq]
    refine nodup_take fun i hi => ?_
    rw [List.length_map] at hi
    rw [List.getElem_map]
    exact (hp.file i hi).1
  refine ⟨hnd, heq, ?_⟩
  have := mfold_after hnd (fun i hi hg => hasB_iff.1 (h.move i hi hg)) d.moves.length (Nat.le_refl _)
  rwa [List.take_of_length_le (Nat.le_refl _)] at this
/-- A name that is there is that of a file. -/
theorem names_file {d : Dk} {x : ByteArray} (hx : x ∈ namesD d) : ∃ i, ∃ hi : i < d.files.length, DkOkS d ∧ d.files[i].name = x ∧ findF d.files x = i := by
  by_cases h : DkOkS d
  · rw [namesD_ok h] at hx
    obtain ⟨hnd, heq, -⟩ := dk_nodup h
    have := (after_nodup hnd d.moves.length (Nat.le_refl _)).2 x (by rw [List.take_of_length_le (Nat.le_refl _)]; exact hx)
    rw [List.take_of_length_le (Nat.le_refl _), ← heq] at this
    obtain ⟨i, hi, e⟩ := List.getElem_of_mem this
    rw [List.length_map] at hi
    rw [List.getElem_map] at e
    refine ⟨i, hi, h, e, ?_⟩
    have := (h.file i hi (by rw [h.len]; exact hi)).find
    rw [← e]; exact this
  · rw [namesD_no h] at hx; cases hx
set_option maxRecDepth 100000 in
set_option maxHeartbeats 800000 in
theorem specDiskNames_any (d : Dk) (P : Nat → Prop) (c : C3) (w : World) (hP : ∀ b, P b → b < w.heap.size) (hd : DkAt P w d c) :
    Calls Tryz.prog 58 #[.agg #[c.c0, c.c1, c.c2]] w fun e w' => ∃ v, e = .returned v ∧ NmOwn w w' v (namesD d).length (namesD d) := by
  obtain ⟨c0, c1, c2⟩ := c
  have hbx : ∀ o, Below w.heap.size w (w.alloc o) := fun o => (Below.refl _ _).alloc (Nat.le_refl _) o
  have HOK := hide (fun o => specDiskOk_any d P ⟨c0, c1, c2⟩ (w.alloc o) (fun b hb => Nat.lt_of_lt_of_le (hP b hb) (hbx o).size) (hd.carry (fun b hb => (hbx o).block b (hP b hb)) (fun _ h => h)))
  have HAF := hide (fun (h : DkOkS d) (W : World) (hW : Below w.heap.size w W) => l41After_any d P ⟨c0, c1, c2⟩ W (fun b hb => Nat.lt_of_lt_of_le (hP b hb) hW.size) (hd.carry (fun b hb => hW.block b (hP b hb)) (fun _ h => h)) (by have := h.l2; omega) (by have := h.l3; omega) d.moves.length (Nat.le_refl _))
  obtain ⟨a2, p2, g2, -, -⟩ := hd.ms.open
  simp only at g2
  subst g2
  have HROW := hide (row3_alloc w c0 c1 (.slice a2 d.moves.length p2) 37)
  have HBX := hide hbx
  clear hd hP hbx
  go_enter Tryz.func58, Tryz.ntmps58
  go_wp2_with fail
  refine (unhide HOK _).mono ?_
  rintro e w1 ⟨⟨r, rfl, hr⟩, hb1⟩
  have HB1 := hide ((unhide HBX _).trans (hb1.mono (unhide HBX _).size))
  have q1 := (unhide HROW).of_block (hb1.block w.heap.size (by simp))
  have k0 := q1.cell (i := 0) (by omega); have k1 := q1.cell (i := 1) (by omega); have k2 := q1.cell (i := 2) (by omega)
  simp only [row3] at k0 k1 k2
  clear hb1 q1 HOK
  cases r with
  | false =>
    have HNO := hide (show ¬ DkOkS d from fun h => by have := hr.2 h; cases this)
    have HEMP := hide (empty_row (base := w.heap.size) (size := 1) (World.rowIs_alloc w1 #[] 9 (fun _ => .bool false) (fun i hi => by simp at hi)) (unhide HB1).size)
    clear hr
    go_wp2_with fail
    go_ret
    refine ⟨_, rfl, ?_⟩
    rw [namesD_no (unhide HNO)]
    exact ⟨unhide HEMP, rfl, fun x hx => (by cases hx), (unhide HB1).alloc (unhide HB1).size _⟩
  | true =>
    have HYES := hide (hr.1 rfl)
    clear hr
    have HAF1 := hide (unhide HAF (unhide HYES) w1 (unhide HB1))
    go_wp2_with fail
    refine (unhide HAF1).mono ?_
    rintro e w2 ⟨a, n, cap, rfl, HN⟩
    go_wp2_with fail
    go_ret
    refine ⟨_, rfl, ?_⟩
    have hn := HN.out
    rw [List.take_of_length_le (Nat.le_refl _), ← namesD_ok (unhide HYES)] at hn
    refine ⟨ownsRow_base (by rw [← hn.len]; exact hn.own) (unhide HB1).size, rfl, hn.sz, (unhide HB1).trans (hn.below.mono (unhide HB1).size)⟩

theorem strClone_any (s : ByteArray) (w : World) (hs : s.size ≤ 281474976710656) :
    Calls Tryz.prog 74 #[.string s] w fun e w' => e = .returned (.string s) ∧ Below w.heap.size w w' := by
  have HC := hide (Tryz.stringslite_Clone s w hs)
  go_enter Tryz.func74, Tryz.ntmps74
  go_wp2_with fail
  refine (unhide HC).mono ?_
  rintro e w1 ⟨rfl, hb⟩
  go_wp2_with fail
  go_ret
  exact ⟨rfl, hb⟩

end Go.Proofs.YtgdiankfnemjjaaGreat

/- What a raw write does to a disk, as plain data. Definitions and small laws, no program. No conditions. -/

namespace Go.Proofs.YtgdiankfnemjjaaGreat
open Go Go.RowKit

def noF : Df := ⟨ByteArray.empty, ByteArray.empty, 0⟩
/-- The file of a name. -/
def fileD (d : Dk) (x : ByteArray) : Df := d.files.getD (findF d.files x).toNat noF
/-- A disk on which just some names are left. -/
def keepD (d : Dk) (ns : List ByteArray) : Dk := ⟨ns.map (fileD d), ns, []⟩
/-- A disk with another file at the place of one. -/
def putD (d : Dk) (x : ByteArray) (f : Df) : Dk := ⟨d.files.set (findF d.files x).toNat f, d.names, d.moves⟩
/-- What a write does, and its code. -/
noncomputable def doD (d : Dk) (k : Int) (x y : ByteArray) : Dk × Int := open Classical in
  if ¬ DkOkS d then (⟨[], [], []⟩, 1)
  else if k = 1 then
    (if nameOkB x = false ∨ 0 ≤ findF d.files x then (d, 3)
     else if 64 ≤ d.files.length ∨ 128 ≤ d.moves.length then (d, 4)
     else (⟨d.files ++ [⟨x, ByteArray.empty, 0⟩], d.names, d.moves ++ [⟨false, x⟩]⟩, 0))
  else if k = 5 then (keepD d (namesD d), 0)
  else if ¬ (1 ≤ k ∧ k ≤ 5) then (d, 5)
  else if x ∉ namesD d then (d, 2)
  else if k = 2 then (if 20000 - (fileD d x).data.size < (y.size : Int) then (d, 4) else (putD d x ⟨(fileD d x).name, (fileD d x).data ++ y, (fileD d x).kept⟩, 0))
  else if k = 3 then (putD d x ⟨(fileD d x).name, (fileD d x).data, (fileD d x).data.size⟩, 0)
  else if 128 ≤ d.moves.length then (d, 4)
  else (⟨d.files, d.names, d.moves ++ [⟨true, x⟩]⟩, 0)
theorem doD_bad {d : Dk} {k : Int} {x y : ByteArray} (h : ¬ DkOkS d) : doD d k x y = (⟨[], [], []⟩, 1) := by unfold doD; rw [if_pos h]
theorem doD_taken {d : Dk} {x y : ByteArray} (h : DkOkS d) (h1 : nameOkB x = false ∨ 0 ≤ findF d.files x) : doD d 1 x y = (d, 3) := by
  unfold doD; rw [if_neg (fun hn => hn h), if_pos rfl, if_pos h1]
theorem doD_full {d : Dk} {x y : ByteArray} (h : DkOkS d) (h1 : ¬ (nameOkB x = false ∨ 0 ≤ findF d.files x)) (h2 : 64 ≤ d.files.length ∨ 128 ≤ d.moves.length) : doD d 1 x y = (d, 4) := by
  unfold doD; rw [if_neg (fun hn => hn h), if_pos rfl, if_neg h1, if_pos h2]
theorem doD_make {d : Dk} {x y : ByteArray} (h : DkOkS d) (h1 : ¬ (nameOkB x = false ∨ 0 ≤ findF d.files x)) (h2 : ¬ (64 ≤ d.files.length ∨ 128 ≤ d.moves.length)) : doD d 1 x y = (⟨d.files ++ [⟨x, ByteArray.empty, 0⟩], d.names, d.moves ++ [⟨false, x⟩]⟩, 0) := by
  unfold doD; rw [if_neg (fun hn => hn h), if_pos rfl, if_neg h1, if_neg h2]
theorem doD_dirs {d : Dk} {x y : ByteArray} (h : DkOkS d) : doD d 5 x y = (keepD d (namesD d), 0) := by
  unfold doD; rw [if_neg (fun hn => hn h), if_neg (by decide), if_pos rfl]
theorem doD_kind {d : Dk} {k : Int} {x y : ByteArray} (h : DkOkS d) (h1 : ¬ (1 ≤ k ∧ k ≤ 5)) : doD d k x y = (d, 5) := by
  unfold doD; rw [if_neg (fun hn => hn h), if_neg (by omega), if_neg (by omega), if_pos h1]
theorem doD_nofile {d : Dk} {k : Int} {x y : ByteArray} (h : DkOkS d) (h1 : 2 ≤ k ∧ k ≤ 4) (h2 : x ∉ namesD d) : doD d k x y = (d, 2) := by
  unfold doD; rw [if_neg (fun hn => hn h), if_neg (by omega), if_neg (by omega), if_neg (by omega), if_pos h2]
theorem doD_addfull {d : Dk} {x y : ByteArray} (h : DkOkS d) (h2 : x ∈ namesD d) (h3 : 20000 - (fileD d x).data.size < (y.size : Int)) : doD d 2 x y = (d, 4) := by
  unfold doD; rw [if_neg (fun hn => hn h), if_neg (by decide), if_neg (by decide), if_neg (by decide), if_neg (fun hn => hn h2), if_pos rfl, if_pos h3]
theorem doD_add {d : Dk} {x y : ByteArray} (h : DkOkS d) (h2 : x ∈ namesD d) (h3 : ¬ (20000 - (fileD d x).data.size < (y.size : Int))) : doD d 2 x y = (putD d x ⟨(fileD d x).name, (fileD d x).data ++ y, (fileD d x).kept⟩, 0) := by
  unfold doD; rw [if_neg (fun hn => hn h), if_neg (by decide), if_neg (by decide), if_neg (by decide), if_neg (fun hn => hn h2), if_pos rfl, if_neg h3]
theorem doD_sync {d : Dk} {x y : ByteArray} (h : DkOkS d) (h2 : x ∈ namesD d) : doD d 3 x y = (putD d x ⟨(fileD d x).name, (fileD d x).data, (fileD d x).data.size⟩, 0) := by
  unfold doD; rw [if_neg (fun hn => hn h), if_neg (by decide), if_neg (by decide), if_neg (by decide), if_neg (fun hn => hn h2), if_neg (by decide), if_pos rfl]
theorem doD_gonefull {d : Dk} {x y : ByteArray} (h : DkOkS d) (h2 : x ∈ namesD d) (h3 : 128 ≤ d.moves.length) : doD d 4 x y = (d, 4) := by
  unfold doD; rw [if_neg (fun hn => hn h), if_neg (by decide), if_neg (by decide), if_neg (by decide), if_neg (fun hn => hn h2), if_neg (by decide), if_neg (by decide), if_pos h3]
theorem doD_gone {d : Dk} {x y : ByteArray} (h : DkOkS d) (h2 : x ∈ namesD d) (h3 : ¬ 128 ≤ d.moves.length) : doD d 4 x y = (⟨d.files, d.names, d.moves ++ [⟨true, x⟩]⟩, 0) := by
  unfold doD; rw [if_neg (fun hn => hn h), if_neg (by decide), if_neg (by decide), if_neg (by decide), if_neg (fun hn => hn h2), if_neg (by decide), if_neg (by decide), if_neg h3]
theorem fileD_at {d : Dk} {x : ByteArray} {i : Nat} (hi : i < d.files.length) (h : findF d.files x = i) : fileD d x = d.files[i] := by
  unfold fileD; rw [h]; simp [hi]
theorem putD_at {d : Dk} {x : ByteArray} {i : Nat} (h : findF d.files x = i) (f : Df) : putD d x f = ⟨d.files.set i f, d.names, d.moves⟩ := by
  unfold putD; rw [h]; simp
end Go.Proofs.YtgdiankfnemjjaaGreat

/- The walks of the library's strings.Clone and of the program's copyNames: the same bytes; the same names, in a row of the call's own. Of what was there nothing has turned. The strings have at most 2^47 bytes. -/

namespace Go.Proofs.YtgdiankfnemjjaaGreat
open Go Go.RowKit

set_option maxHeartbeats 400000 in
theorem clone_any (s : ByteArray) (w : World) (hlim : s.size ≤ 140737488355328) :
    Calls Tryz.prog 74 #[.string s] w fun e w' => e = .returned (.string s) ∧ Below w.heap.size w w' := by
  have hc : ∀ W, Calls Tryz.prog 90 #[.string s] W fun e w' => e = .returned (.string s) ∧ Below W.heap.size W w' := fun W => Tryz.stringslite_Clone s W (by omega)
  have HC := hide hc; clear hc
  go_enter Tryz.func74, Tryz.ntmps74
  go_wp2_with (go_at_call 90; refine (unhide HC _).mono ?_; rintro e w' ⟨rfl, hb⟩)
  go_ret
  exact ⟨rfl, hb⟩

theorem infoStrC : (Tryz.prog.info? 9).map (fun i => (i.zero, i.size, i.bytes)) = some (some (.string ByteArray.empty), 1, 16) := by kernel_rfl

set_option maxRecDepth 100000 in
set_option maxHeartbeats 800000 in
theorem copyNames_row (v : Value) (ss : List ByteArray) (w : World) {P : Nat → Prop} (hP : ∀ b, P b → b < w.heap.size) (hv : StrsAt P w v ss) (hl : ss.length ≤ 1048576) (hsz : ∀ x, x ∈ ss → x.size ≤ 1099511627776) :
    Calls Tryz.prog 63 #[v] w fun e w' => ∃ v', e = .returned v' ∧ w'.ownsRow w.heap.size 9 1 v' ss.length (ss.map Value.string) ∧ Below w.heap.size w w' := by
  obtain ⟨a, cap, rfl, hlen, hc⟩ := hv
  obtain ⟨i0, hi, hz0, hz1, hz2⟩ := info_parts infoStrC
  have HC := hide hc; have HP := hide hP; have HSZ := hide hsz
  have HII := hide hi; have HZ0 := hide hz0; have HZ1 := hide hz1; have HZ2 := hide hz2
  clear hc hP hsz hi hz0 hz1 hz2
  go_enter Tryz.func63, Tryz.ntmps63
  go_wp2_with fail
  go_loopw [3, 8] (fun s i wr => ∃ (k : Nat) (a' : Option Addr) (cap' : Nat), k ≤ ss.length ∧ i = .int .i64 k ∧ s = .slice a' k cap' ∧ Hid (wr.ownsRow w.heap.size 9 1 (.slice a' k cap') k ((ss.take k).map Value.string)) ∧ Hid (Below w.heap.size w wr)) (fun _ i _ => ss.length - (intOf i).toNat)
  case atStart => exact ⟨0, none, 0, Nat.zero_le _, rfl, rfl, World.ownsRow_nil _ _ _ _, Below.refl _ _⟩
  case round =>
    obtain ⟨k, a', cap', hk, rfl, rfl, HOWN, HB⟩ := hrel
    by_cases hlt : k < ss.length
    · obtain ⟨b, o, rfl, hpb, hcell, -⟩ := unhide HC k hlt
      have e1 : wr.cell? ⟨b, o + k, none⟩ = some (.string ss[k]) := by rw [HB.out.cell (unhide HP b hpb)]; exact hcell
      have hcl := clone_any ss[k] wr (by have := unhide HSZ _ (List.getElem_mem hlt); omega)
      have htk : (ss.take (k + 1)).map Value.string = (ss.take k).map Value.string ++ [.string ss[k]] := by
        rw [List.take_succ_eq_append_getElem hlt, List.map_append]; rfl
      generalize ss[k] = tk at *
      have HCL := hide hcl; have HTK := hide htk
      clear hcl htk hcell hpb
      go_wp2_with fail
      refine (unhide HCL).mono ?_
      rintro e w2 ⟨rfl, hb2⟩
      have hs2 := hb2.size
      have hsw := HB.out.size
      have hown2 : w2.ownsRow w.heap.size 9 1 (.slice a' k cap') k ((ss.take k).map Value.string) :=
        HOWN.out.kept (row := none) ⟨hb2.os, hb2.tape, hb2.output, hb2.size, fun i hi _ => hb2.block i hi⟩ (by
          rcases h : (Value.slice a' k cap').ownBlock with _ | g
          · exact Or.inl rfl
          · exact Or.inr (by simp))
      have HOWN2 := hide hown2; have HB2 := hide (HB.out.trans (hb2.mono hsw))
      clear hown2 hb2 HCL e1
      go_wp2_with (at_builtin; refine append_row _ rfl _ _ 23 rfl w.heap.size 9 i0 (.string ByteArray.empty) 1 16 Tryz.underlying23 (unhide HII) (unhide HZ0) (unhide HZ1) (unhide HZ2) rfl (by decide) (.slice a' k cap') k ((ss.take k).map Value.string) rfl ((unhide HOWN2).alloc _) ⟨w2.heap.size, 0, none⟩ 1 1 [.string tk] rfl rfl (cell_one _ _ _) (fun u hu => by simp at hu; subst hu; rfl) (by decide) (by unfold maxLen; omega) (by omega) (by simp; omega) ?_; intro v' w4 hown4 hgrow4 hv4)
      have hlt4 := (unhide HOWN2).lt
      obtain ⟨g', cap'', hv''⟩ : ∃ g' cap'', v' = .slice (some ⟨g', 0, none⟩) (k + 1) cap'' := by
        rcases hown4.2 with ⟨_, h⟩ | ⟨g', cap'', _, h, _⟩
        · omega
        · exact ⟨g', cap'', h⟩
      subst hv''
      have hb4 : Below w.heap.size w2 w4 := (((Below.refl _ w2).alloc (by omega) _)).trans ((Below.refl _ _).grown hgrow4 (by simp; omega) (fun k e => (hlt4 k e).1))
      have HOWN4 : Hid (w4.ownsRow w.heap.size 9 1 (.slice (some ⟨g', 0, none⟩) (k + 1) cap'') (k + 1) ((ss.take (k + 1)).map Value.string)) := by
        show World.ownsRow _ _ _ _ _ _ _
        rw [unhide HTK]; exact hown4
      have HB4 := hide ((unhide HB2).trans hb4)
      clear hown4 hgrow4 hv4 hb4 hlt4
      go_wp2_with fail
      go_roundw
      case rel => exact ⟨k + 1, some ⟨g', 0, none⟩, cap'', by omega, by go_num, rfl, HOWN4, unhide HB4⟩
      case measure => simp [intOf]; omega
    · obtain rfl : k = ss.length := by omega
      have h1 := HOWN.out
      rw [List.take_length] at h1
      have HF := hide h1
      clear h1
      go_wp2_with fail
      go_ret
      exact ⟨_, rfl, unhide HF, HB.out⟩
end Go.Proofs.YtgdiankfnemjjaaGreat

/- The program's DiskNames: what it answers, in memory of its own; that it turns nothing that was there. No conditions. -/

namespace Go.Proofs.YtgdiankfnemjjaaGreat
open Go Go.RowKit Go.WideMaps Go.Maps

theorem after_len : ∀ (ms : List Dm) (ns : List ByteArray), (afterD ns ms).length ≤ ns.length + ms.length
  | [], ns => by simp [afterD]
  | m :: r, ns => by
    have h1 : afterD ns (m :: r) = afterD (stepD ns m) r := rfl
    have h2 := after_len r (stepD ns m)
    have h3 : (stepD ns m).length ≤ ns.length + 1 := by
      unfold stepD
      cases m.gone with
      | true => have := without_len ns m.name; simp only [if_true]; omega
      | false => simp
    rw [h1, List.length_cons]; omega
end Go.Proofs.YtgdiankfnemjjaaGreat

/- Numbers in memory. No program, no conditions. -/

namespace Go.Proofs.YtgdiankfnemjjaaGreat
open Go Go.RowKit

/-- Numbers lie in memory. -/
def ZsAt (P : Nat → Prop) (w : World) (v : Value) (zs : List Int) : Prop :=
  ∃ a cap, v = .slice a zs.length cap ∧ zs.length ≤ 9223372036854775807 ∧ ∀ i, (h : i < zs.length) → ∃ b o, a = some ⟨b, o, none⟩ ∧ P b ∧ w.cell? ⟨b, o + i, none⟩ = some (.int .i64 zs[i]) ∧ I64 zs[i]
theorem ZsAt.carry {P Q : Nat → Prop} {w w' : World} {v : Value} {zs : List Int} (h : ZsAt P w v zs) (hP : ∀ b, P b → w'.heap[b]? = w.heap[b]?) (hQ : ∀ b, P b → Q b) : ZsAt Q w' v zs := by
  obtain ⟨a, cap, h1, h2, h3⟩ := h
  refine ⟨a, cap, h1, h2, fun i hi => ?_⟩
  obtain ⟨b, o, e, hb, hc, hz⟩ := h3 i hi
  exact ⟨b, o, e, hQ b hb, by rw [World.cell?_of_block (w := w) (hP b hb)]; exact hc, hz⟩
end Go.Proofs.YtgdiankfnemjjaaGreat
