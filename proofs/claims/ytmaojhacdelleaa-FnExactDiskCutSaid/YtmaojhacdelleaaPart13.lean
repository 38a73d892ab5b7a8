/- What the specification asks of a disk is what the program asks of it. No program, no conditions. -/
import Derived.Test.YtmaojhacdelleaaPart11
import Derived.Test.YtmaojhacdelleaaPart12
namespace Go.Proofs.Ytmaojhacdelleaa
open Go Go.RowKit

theorem sameB_dec (y x : ByteArray) : sameB y x = decide (y = x) := lst_beq y x
theorem hasB_iff {ns : List ByteArray} {x : ByteArray} : hasB ns x = true ↔ x ∈ ns := by
  unfold hasB
  rw [List.any_eq_true]
  constructor
  · rintro ⟨y, hy, h⟩
    rw [sameB_dec, decide_eq_true_eq] at h
    rw [← h]; exact hy
  · intro h
    exact ⟨x, h, by rw [sameB_dec]; simp⟩
theorem without_filter (ns : List ByteArray) (x : ByteArray) : withoutB ns x = ns.filter fun y => !decide (y = x) := by
  unfold withoutB
  congr 1
  funext y
  rw [sameB_dec]
theorem findIdx_some {ns : List ByteArray} {x : ByteArray} (h : x ∈ ns) : ∃ i, ns.findIdx? (fun y => sameB y x) = some i := by
  cases e : ns.findIdx? (fun y => sameB y x) with
  | some i => exact ⟨i, rfl⟩
  | none =>
    rw [List.findIdx?_eq_none_iff] at e
    have := e x h
    rw [sameB_dec] at this
    simp at this
theorem findIdx_none {ns : List ByteArray} {x : ByteArray} (h : x ∉ ns) : ns.findIdx? (fun y => sameB y x) = none := by
  rw [List.findIdx?_eq_none_iff]
  intro y hy
  rw [sameB_dec]
  simp only [decide_eq_false_iff_not]
  rintro rfl
  exact h hy
theorem without_idx {ns : List ByteArray} {x : ByteArray} {i : Nat} (hnd : ns.Nodup) (h : ns.findIdx? (fun y => sameB y x) = some i) : ns.take i ++ ns.drop (i + 1) = withoutB ns x := by
  obtain ⟨hi, hx, -⟩ := List.findIdx?_eq_some_iff_getElem.1 h
  rw [sameB_dec, decide_eq_true_eq] at hx
  have hns : ns = ns.take i ++ x :: ns.drop (i + 1) := by
    rw [← hx, ← List.drop_eq_getElem_cons hi, List.take_append_drop]
  rw [without_filter]
  have hnd2 := hnd
  rw [hns] at hnd2
  obtain ⟨-, h2, h3⟩ := List.nodup_append.1 hnd2
  have h4 : x ∉ ns.drop (i + 1) := (List.nodup_cons.1 h2).1
  have h5 : x ∉ ns.take i := fun hm => h3 x hm x List.mem_cons_self rfl
  conv => rhs; rw [hns]
  rw [List.filter_append, List.filter_cons]
  simp only [decide_true, Bool.not_true, Bool.false_eq_true, if_false]
  rw [List.filter_eq_self.2 (fun y hy => by simp; rintro rfl; exact h5 hy), List.filter_eq_self.2 (fun y hy => by simp; rintro rfl; exact h4 hy)]
theorem mstep_mem {l : List ByteArray} {m : Dm} (hnd : l.Nodup) (h : m.gone = true → m.name ∈ l) : mstep l m = some (stepD l m) := by
  unfold mstep stepD
  cases e : m.gone with
  | false => simp
  | true =>
    obtain ⟨i, hi⟩ := findIdx_some (h e)
    simp only [if_true, hi, without_idx hnd hi]
theorem mstep_not {l : List ByteArray} {m : Dm} (hg : m.gone = true) (h : m.name ∉ l) : mstep l m = none := by
  unfold mstep
  simp only [hg, if_true, findIdx_none h]

theorem made_sub (ns : List ByteArray) (ms : List Dm) (k : Nat) : (madeD ns (ms.take k)).Sublist (madeD ns ms) := by
  unfold madeD
  exact List.Sublist.append (List.Sublist.refl _) (((List.take_sublist k ms).filter _).map _)
theorem after_nodup {ns : List ByteArray} {ms : List Dm} (hnd : (madeD ns ms).Nodup) : ∀ k, k ≤ ms.length → (afterD ns (ms.take k)).Nodup ∧ ∀ x, x ∈ afterD ns (ms.take k) → x ∈ madeD ns (ms.take k)
  | 0, _ => by
    have h0 : madeD ns (ms.take 0) = ns := by simp [madeD]
    have := hnd.sublist (made_sub ns ms 0)
    rw [h0] at this ⊢
    exact ⟨this, fun x hx => hx⟩
  | k + 1, hk => by
    obtain ⟨h1, h2⟩ := after_nodup hnd k (by omega)
    have hm := made_take (ns := ns) (ms := ms) (k := k) (by omega)
    have hn := hnd.sublist (made_sub ns ms (k + 1))
    rw [after_take (by omega)]
    unfold stepD
    cases e : ms[k].gone with
    | true =>
      rw [e] at hm
      simp only [if_true] at hm ⊢
      rw [hm]
      unfold withoutB
      exact ⟨h1.sublist List.filter_sublist, fun x hx => h2 x (List.mem_filter.1 hx).1⟩
    | false =>
      rw [e] at hm
      simp only [Bool.false_eq_true, if_false] at hm ⊢
      rw [hm] at hn ⊢
      obtain ⟨-, -, h5⟩ := List.nodup_append.1 hn
      refine ⟨List.nodup_append.2 ⟨h1, by simp, fun a ha b hb => ?_⟩, fun x hx => ?_⟩
      · exact h5 a (h2 a ha) b hb
      · rcases List.mem_append.1 hx with h | h
        · exact List.mem_append.2 (Or.inl (h2 x h))
        · exact List.mem_append.2 (Or.inr h)
theorem mfold_after {ns : List ByteArray} {ms : List Dm} (hnd : (madeD ns ms).Nodup) (hmv : ∀ i (h : i < ms.length), ms[i].gone = true → ms[i].name ∈ afterD ns (ms.take i)) : ∀ k, k ≤ ms.length → mfold ns (ms.take k) = some (afterD ns (ms.take k))
  | 0, _ => rfl
  | k + 1, hk => by
    rw [mfold_take (by omega), mfold_after hnd hmv k (by omega), after_take (by omega)]
    exact mstep_mem (after_nodup hnd k (by omega)).1 (hmv k (by omega))
theorem mfold_conv {ns : List ByteArray} {ms : List Dm} (hnd : (madeD ns ms).Nodup) : ∀ k, k ≤ ms.length → (mfold ns (ms.take k)).isSome = true → ∀ i (h : i < ms.length), i < k → ms[i].gone = true → ms[i].name ∈ afterD ns (ms.take i)
  | 0, _, _ => fun i _ hi => by omega
  | k + 1, hk, hs => by
    have hsk : (mfold ns (ms.take k)).isSome = true := by
      rw [mfold_take (by omega)] at hs
      cases e : mfold ns (ms.take k) with
      | none => rw [e] at hs; cases hs
      | some l => rfl
    have ih := mfold_conv hnd k (by omega) hsk
    have hex : mfold ns (ms.take k) = some (afterD ns (ms.take k)) := by
      have := mfold_after (ns := ns) (ms := ms.take k) (hnd.sublist (made_sub ns ms k)) (fun i h hg => by
        have hi : i < k := by rw [List.length_take] at h; omega
        rw [List.getElem_take] at hg ⊢
        rw [List.take_take, Nat.min_eq_left (by omega)]
        exact ih i (by omega) hi hg) k (by rw [List.length_take]; omega)
      rwa [List.take_take, Nat.min_self] at this
    intro i h hi hg
    by_cases e : i = k
    · subst e
      refine Classical.byContradiction fun hno => ?_
      rw [mfold_take (by omega), hex] at hs
      simp only [Option.bind_some, mstep_not hg hno] at hs
      cases hs
    · exact ih i h (by omega) hg

theorem nodup_take {l : List ByteArray} (h : ∀ i (hi : i < l.length), l[i] ∉ l.take i) : l.Nodup := by
  unfold List.Nodup
  rw [List.pairwise_iff_getElem]
  intro i j hi hj hij e
  refine h j hj ?_
  rw [← e]
  exact List.mem_take_iff_getElem.2 ⟨i, by omega, rfl⟩
theorem take_nodup {l : List ByteArray} (h : l.Nodup) : ∀ i (hi : i < l.length), l[i] ∉ l.take i := by
  intro i hi hm
  obtain ⟨j, hj, e⟩ := List.mem_take_iff_getElem.1 hm
  have := (List.getElem_inj h).1 e
  omega
theorem named_eq {fs : List Df} {ns : List ByteArray} (h : FNamed fs ns) : fs.map Df.name = ns := by
  apply List.ext_getElem
  · rw [List.length_map]; exact h.len
  · intro i h1 h2
    rw [List.length_map] at h1
    have := h.same i h1 h2
    rw [sameB_dec, decide_eq_true_eq] at this
    rw [List.getElem_map]; exact this

theorem dkOk_iff (d : Dk) : DkOkS d ↔ DkOkP d := by
  constructor
  · intro h
    have hnamed : FNamed d.files (madeD d.names d.moves) := ⟨h.len.symm, fun i h1 h2 => (h.file i h1 h2).same⟩
    have heq := named_eq hnamed
    have hno : ∀ i (hi : i < d.files.length), d.files[i].name ∉ (d.files.map Df.name).take i := fun i hi hm => by
      have hf := (h.file i hi (by rw [h.len]; exact hi)).find
      obtain ⟨j, hj, e⟩ := List.mem_take_iff_getElem.1 hm
      rw [List.length_map] at hj
      rw [List.getElem_map] at e
      unfold findF at hf
      cases e2 : d.files.findIdx? (fun f => sameB f.name d.files[i].name) with
      | none => rw [e2] at hf; simp only at hf; omega
      | some q =>
        rw [e2] at hf
        simp only at hf
        obtain ⟨hq, -, hlt⟩ := List.findIdx?_eq_some_iff_getElem.1 e2
        have := hlt j (by omega)
        rw [sameB_dec, e] at this
        simp at this
    have hnd : (madeD d.names d.moves).Nodup := by
      rw [← heq]
      refine nodup_take fun i hi => ?_
      rw [List.length_map] at hi
      rw [List.getElem_map]
      exact hno i hi
    refine ⟨h.l1, h.l3, ⟨?_, hnamed⟩, fun i hi => ⟨hno i hi, ?_⟩, ?_⟩
    · rw [← h.len]; unfold madeD; rw [List.length_append]; omega
    · have hf := h.file i hi (by rw [h.len]; exact hi)
      unfold fOkB
      rw [hf.name, decide_eq_true hf.data, decide_eq_true hf.kept]; rfl
    · have := mfold_after hnd (fun i hi hg => hasB_iff.1 (h.move i hi hg)) d.moves.length (Nat.le_refl _)
      rw [List.take_of_length_le (Nat.le_refl _)] at this
      rw [this]; rfl
  · intro h
    have heq := named_eq h.made.named
    have hnd : (madeD d.names d.moves).Nodup := by
      rw [← heq]
      refine nodup_take fun i hi => ?_
      rw [List.length_map] at hi
      rw [List.getElem_map]
      exact (h.file i hi).1
    refine ⟨h.l1, by have := h.made.le; have := h.l1; omega, h.l3, h.made.named.len.symm, fun i hi h2 => ?_, fun i hi hg => hasB_iff.2 ?_⟩
    · have hf := (h.file i hi).2
      unfold fOkB at hf
      simp only [Bool.and_eq_true, decide_eq_true_eq] at hf
      refine ⟨hf.1.1, h.made.named.same i hi h2, hf.1.2, hf.2, ?_⟩
      refine findF_yes i hi (by rw [sameB_dec]; simp) (fun j hj hjl => ?_)
      rw [sameB_dec, decide_eq_false_iff_not]
      intro e
      refine (h.file i hi).1 (List.mem_take_iff_getElem.2 ⟨j, by rw [List.length_map]; omega, ?_⟩)
      rw [List.getElem_map]; exact e
    · exact mfold_conv hnd d.moves.length (Nat.le_refl _) (by rw [List.take_of_length_le (Nat.le_refl _)]; exact h.move) i hi hi hg
end Go.Proofs.Ytmaojhacdelleaa

/- What the program's views say: the names that are there, whether one is, a file by its name. Conditions: the disk is ok. -/

namespace Go.Proofs.Ytmaojhacdelleaa
open Go Go.RowKit Go.WideMaps Go.Maps

theorem idxB_has (ss : List ByteArray) (x : ByteArray) : decide ((0 : Int) ≤ idxB ss x) = hasB ss x := by
  rw [Bool.eq_iff_iff, decide_eq_true_eq, hasB_iff]
  unfold idxB
  constructor
  · intro h
    cases e : ss.findIdx? (fun y => sameB y x) with
    | none => rw [e] at h; simp at h
    | some i =>
      obtain ⟨hi, hx, -⟩ := List.findIdx?_eq_some_iff_getElem.1 e
      rw [sameB_dec, decide_eq_true_eq] at hx
      rw [← hx]; exact List.getElem_mem hi
  · intro h
    obtain ⟨i, hi⟩ := findIdx_some h
    rw [hi]; simp
set_option maxHeartbeats 400000 in
theorem contains_any (v : Value) (ss : List ByteArray) (x : ByteArray) (w : World) {P : Nat → Prop} (hv : StrsAt P w v ss) :
    Calls Try.prog 108 #[v, .string x] w fun e w' => e = .returned (.bool (hasB ss x)) ∧ w' = w := by
  have HI := hide (index_any v ss x w hv)
  have HH := hide (idxB_has ss x)
  generalize idxB ss x = n at *
  clear hv
  go_enter Try.func108, Try.ntmps108
  go_wp2_with (go_at_call 104; refine (unhide HI).mono ?_; rintro e w' ⟨rfl, rfl⟩)
  go_ret
  exact ⟨by rw [← unhide HH]; rfl, rfl⟩

/-- So many moves, none if below 0, all if there are fewer. -/
def clampQ (q : Int) (n : Nat) : Nat := (max 0 (min q (n : Int))).toNat
theorem clampQ_le (q : Int) (n : Nat) : clampQ q n ≤ n := by unfold clampQ; omega
theorem clampQ_int (q : Int) (n : Nat) : ((clampQ q n : Nat) : Int) = max 0 (min q (n : Int)) := by unfold clampQ; omega

set_option maxRecDepth 100000 in
set_option maxHeartbeats 800000 in
theorem behind_any (ns : List ByteArray) (ms : List Dm) (q0 q1 : Option Addr) (x2 : Option Addr) (n2 m2 : Nat) (q3 : Option Addr) (x4 : Option Addr) (n4 m4 : Nat) (P : Nat → Prop) (w : World) (hP : ∀ b, P b → b < w.heap.size) (hn : StrsAt P w (.slice x2 n2 m2) ns) (hf : FnAt P w (.slice x4 n4 m4) ms) (q : Int) (hl1 : ns.length ≤ 1000) (hl2 : ms.length ≤ 1000) (l : List ByteArray) (hl : mfold ns (ms.take (clampQ q ms.length)) = some l) :
    Calls Try.prog 58 #[.agg #[.pointer q0, .pointer q1, .slice x2 n2 m2, .pointer q3, .slice x4 n4 m4], .int .i64 q] w fun e w' => ∃ v', e = .returned v' ∧ NmOwn w w' v' l.length l := by
  have hbx : ∀ o, Below w.heap.size w (w.alloc o) := fun o => (Below.refl _ _).alloc (Nat.le_refl _) o
  have HMV := hide (fun o => moved_any ns ms (.pointer q0) (.pointer q1) (.slice x2 n2 m2) (.pointer q3) (.slice x4 n4 m4) P (w.alloc o) (fun b hb => Nat.lt_of_lt_of_le (hP b hb) (hbx o).size) (hn.carry (fun b hb => (hbx o).block b (hP b hb)) (fun _ h => h)) (hf.carry (fun b hb => (hbx o).block b (hP b hb)) (fun _ h => h)) (clampQ q ms.length) (clampQ_le _ _) hl1 hl2)
  obtain ⟨am, cm, e4, -, -, -⟩ := hf
  simp only [Value.slice.injEq] at e4
  obtain ⟨rfl, rfl, rfl⟩ := e4
  rw [hl, clampQ_int] at HMV
  have HBX := hide hbx
  clear hn hl hbx hP
  go_enter Try.func58, Try.ntmps58
  go_wp2_with fail
  refine (unhide HMV _).mono ?_
  rintro e w1 ⟨v1, rfl, hn1⟩
  have HN1 := hide hn1
  clear hn1
  go_wp2_with fail
  go_ret
  exact ⟨v1, rfl, ownsRow_base (unhide HN1).own (unhide HBX _).size, (unhide HN1).len, (unhide HN1).sz, (unhide HBX _).trans ((unhide HN1).below.mono (unhide HBX _).size)⟩

/-- Views stay what they are where nothing of theirs turns. -/
theorem VwAt.carry {w W W' : World} {d : Dk} {c : C3} {V : Value} {T B : Nat} {vm : Value} (h : VwAt w W d c V T B vm) (hb : Below W.heap.size W W') : VwAt w W' d c V T B vm :=
  ⟨h.val, ⟨h.tb.1, Nat.lt_of_lt_of_le h.tb.2 hb.size⟩, ⟨h.bb.1, Nat.lt_of_lt_of_le h.bb.2 hb.size⟩, h.row.of_block (hb.block T h.tb.2), ownsMap_block h.map (hb.block B h.bb.2), h.fns.carry (fun b hx => hb.block b hx.2) (fun _ hx => ⟨hx.1, Nat.lt_of_lt_of_le hx.2 hb.size⟩)⟩

theorem clampQ_all (n : Nat) : clampQ (n : Int) n = n := by unfold clampQ; omega

set_option maxRecDepth 100000 in
set_option maxHeartbeats 800000 in
theorem there_any (ns : List ByteArray) (ms : List Dm) (q0 q1 : Option Addr) (x2 : Option Addr) (n2 m2 : Nat) (q3 : Option Addr) (x4 : Option Addr) (n4 m4 : Nat) (P : Nat → Prop) (w : World) (hP : ∀ b, P b → b < w.heap.size) (hn : StrsAt P w (.slice x2 n2 m2) ns) (hf : FnAt P w (.slice x4 n4 m4) ms) (hl1 : ns.length ≤ 1000) (hl2 : ms.length ≤ 1000) (l : List ByteArray) (hl : mfold ns ms = some l) :
    Calls Try.prog 109 #[.agg #[.pointer q0, .pointer q1, .slice x2 n2 m2, .pointer q3, .slice x4 n4 m4]] w fun e w' => ∃ v', e = .returned v' ∧ NmOwn w w' v' l.length l := by
  have hbx : ∀ o, Below w.heap.size w (w.alloc o) := fun o => (Below.refl _ _).alloc (Nat.le_refl _) o
  have HMV := hide (fun o => behind_any ns ms q0 q1 x2 n2 m2 q3 x4 n4 m4 P (w.alloc o) (fun b hb => Nat.lt_of_lt_of_le (hP b hb) (hbx o).size) (hn.carry (fun b hb => (hbx o).block b (hP b hb)) (fun _ h => h)) (hf.carry (fun b hb => (hbx o).block b (hP b hb)) (fun _ h => h)) (ms.length : Int) hl1 hl2 l (by rw [clampQ_all, List.take_of_length_le (Nat.le_refl _)]; exact hl))
  obtain ⟨am, cm, e4, -, -, -⟩ := hf
  simp only [Value.slice.injEq] at e4
  obtain ⟨rfl, rfl, rfl⟩ := e4
  have HBX := hide hbx
  clear hn hl hbx hP
  go_enter Try.func109, Try.ntmps109
  go_wp2_with fail
  refine (unhide HMV _).mono ?_
  rintro e w1 ⟨v1, rfl, hn1⟩
  have HN1 := hide hn1
  clear hn1
  go_wp2_with fail
  go_ret
  exact ⟨v1, rfl, ownsRow_base (unhide HN1).own (unhide HBX _).size, (unhide HN1).len, (unhide HN1).sz, (unhide HBX _).trans ((unhide HN1).below.mono (unhide HBX _).size)⟩

set_option maxRecDepth 100000 in
set_option maxHeartbeats 800000 in
theorem isThere_any (ns : List ByteArray) (ms : List Dm) (q0 q1 : Option Addr) (x2 : Option Addr) (n2 m2 : Nat) (q3 : Option Addr) (x4 : Option Addr) (n4 m4 : Nat) (P : Nat → Prop) (w : World) (hP : ∀ b, P b → b < w.heap.size) (hn : StrsAt P w (.slice x2 n2 m2) ns) (hf : FnAt P w (.slice x4 n4 m4) ms) (hl1 : ns.length ≤ 1000) (hl2 : ms.length ≤ 1000) (l : List ByteArray) (hl : mfold ns ms = some l) (x : ByteArray) :
    Calls Try.prog 89 #[.agg #[.pointer q0, .pointer q1, .slice x2 n2 m2, .pointer q3, .slice x4 n4 m4], .string x] w fun e w' => e = .returned (.bool (hasB l x)) ∧ Below w.heap.size w w' := by
  have hbx : ∀ o, Below w.heap.size w (w.alloc o) := fun o => (Below.refl _ _).alloc (Nat.le_refl _) o
  have HMV := hide (fun o => there_any ns ms q0 q1 x2 n2 m2 q3 x4 n4 m4 P (w.alloc o) (fun b hb => Nat.lt_of_lt_of_le (hP b hb) (hbx o).size) (hn.carry (fun b hb => (hbx o).block b (hP b hb)) (fun _ h => h)) (hf.carry (fun b hb => (hbx o).block b (hP b hb)) (fun _ h => h)) hl1 hl2 l hl)
  have HBX := hide hbx
  clear hn hl hbx hP hf
  go_enter Try.func89, Try.ntmps89
  go_wp2_with fail
  refine (unhide HMV _).mono ?_
  rintro e w1 ⟨v1, rfl, hn1⟩
  have HC := hide (contains_any v1 l x w1 hn1.strs)
  have HB1 := hide ((unhide HBX _).trans (hn1.below.mono (unhide HBX _).size))
  clear hn1
  go_wp2_with fail
  refine (unhide HC).mono ?_
  rintro e w2 ⟨rfl, rfl⟩
  go_wp2_with fail
  go_ret
  exact ⟨rfl, unhide HB1⟩

set_option maxRecDepth 100000 in
set_option maxHeartbeats 1600000 in
theorem fileOf_any (fs : List Df) (a0 : Option Addr) (n0 p0 : Nat) (T B : Nat) (P : Nat → Prop) (w : World) (hP : ∀ b, P b → b < w.heap.size) (hv : FsAt P w (.slice a0 n0 p0) fs) (hrow : w.rowIs T 107 2 (rowO (.slice a0 n0 p0) (.map (some B)))) (hmap : NMap w B (fs.map Df.name)) (hnd : (fs.map Df.name).Nodup) (i : Nat) (hi : i < fs.length) :
    Calls Try.prog 88 #[.pointer (some ⟨T, 0, none⟩), .string fs[i].name] w fun e w' => e = .returned (.agg #[.string fs[i].name, .string fs[i].data, .int .i64 fs[i].kept]) ∧ Below w.heap.size w w' := by
  obtain ⟨a, cap, e0, hlen, hc⟩ := hv.open
  simp only [Value.slice.injEq] at e0
  obtain ⟨rfl, rfl, rfl⟩ := e0
  obtain ⟨b, o, rfl, hpb, ⟨c0, c1, c2⟩, hok⟩ := hc i hi
  simp only at c0 c1 c2
  have hbx : ∀ o, Below w.heap.size w (w.alloc o) := fun o => (Below.refl _ _).alloc (Nat.le_refl _) o
  have hbb := hP b hpb
  have t0 := hrow.cell (i := 0) (by omega); have t1 := hrow.cell (i := 1) (by omega)
  simp only [rowO] at t0 t1
  have hTl := hrow.lt
  have hkey : keyOf Try.prog 9 (.string fs[i].name) = some (nkey fs[i].name) := keyOf_string_mk Try.underlying9 (by unfold maxLen; have := hok.1; omega)
  have hmap2 := fun o => (World.ownsMap.alloc hmap o).drew
  have hat := at_nmap (fs.map Df.name) hnd i (by rw [List.length_map]; exact hi) (fs.map Df.name).length (Nat.le_refl _) (by rw [List.length_map]; exact hi)
  rw [List.getElem_map] at hat
  have hrun : ∀ o, (Instr.lookup 105 (.map (some B)) (.string fs[i].name) false).run Try.prog (w.alloc o).drew = .ok (.int .i64 i) (w.alloc o).drew := fun o => by
    obtain ⟨c, hr, hc, -⟩ := (hmap2 o).lookup_int keyLaw Try.underlying105 Try.underlying3 (zeroInt _) hkey
    rw [hat] at hc
    have : c = (i : Int) := by simpa using hc.symm
    rw [this] at hr; exact hr
  have T0 : ∀ o', (w.alloc o').cell? ⟨T, 0, none⟩ = some (.slice (some ⟨b, o, none⟩) fs.length p0) := fun o' => by rw [World.cell?_of_block (w := w) (Below.heap_alloc _ _ _ hTl)]; exact t0
  have T1 : ∀ o', (w.alloc o').cell? ⟨T, 1, none⟩ = some (.map (some B)) := fun o' => by rw [World.cell?_of_block (w := w) (Below.heap_alloc _ _ _ hTl)]; exact t1
  have C0 : ∀ o', (w.alloc o').cell? ⟨b, o + i * 3, none⟩ = some (.string fs[i].name) := fun o' => by rw [World.cell?_of_block (w := w) (Below.heap_alloc _ _ _ hbb)]; exact c0
  have C1 : ∀ o', (w.alloc o').cell? ⟨b, o + i * 3 + 1, none⟩ = some (.string fs[i].data) := fun o' => by rw [World.cell?_of_block (w := w) (Below.heap_alloc _ _ _ hbb)]; exact c1
  have C2 : ∀ o', (w.alloc o').cell? ⟨b, o + i * 3 + 2, none⟩ = some (.int .i64 fs[i].kept) := fun o' => by rw [World.cell?_of_block (w := w) (Below.heap_alloc _ _ _ hbb)]; exact c2
  have hii : (i : Int) < (fs.length : Int) := by omega
  have HBX := hide hbx
  clear hv hc hpb c0 c1 c2 t0 t1 hrow hmap hmap2 hnd hat hbx hP hok
  generalize fs[i] = f at *
  obtain ⟨fn, fd, fk⟩ := f
  simp only at *
  go_enter Try.func88, Try.ntmps88
  go_wp2_with fail
  go_region
  go_wp2_with fail
  try simp only [Exit.inBlock, Exit.then]
  refine bodyPost_ret (v := .agg #[.string fn, .string fd, .int .i64 fk]) (by simp [results, Try.results88, go_sem]) rfl ?_
  exact ⟨rfl, (unhide HBX _).drew⟩
end Go.Proofs.Ytmaojhacdelleaa
