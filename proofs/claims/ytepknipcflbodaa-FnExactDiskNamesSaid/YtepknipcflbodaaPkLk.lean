/- What the program's views say: the names that are there, whether one is, a file by its name. Conditions: the disk is ok. -/
import Derived.Test.YtepknipcflbodaaPkD5
import Derived.Test.YtepknipcflbodaaDkEq
namespace Go.Proofs.Ytepknipcflbodaa
open Go Go.RowKit Go.WideMaps Go.Maps

theorem idxB_has (ss : List ByteArray) (x : ByteArray) : decide ((0 : Int) ≤ idxB ss x) = hasB ss x := by
  rw [Bool.eq_iff_iff, decide_eq_true_eq, hasB_iff]
  unfold idxB
  constructor
  · intro h
    cases e : ss.findIdx? (fun y => sameB y x) with
    | none => rw [e] at h; simp at h
    | some i =>
      obtain ⟨hi, hx, -⟩ := List.findIdx?_eq_some_iff_getElem.1 e
      rw [sameB_dec, decide_eq_true_eq] at hx
      rw [← hx]; exact List.getElem_mem hi
  · intro h
    obtain ⟨i, hi⟩ := findIdx_some h
    rw [hi]; simp
set_option maxHeartbeats 400000 in
theorem contains_any (v : Value) (ss : List ByteArray) (x : ByteArray) (w : World) {P : Nat → Prop} (hv : StrsAt P w v ss) :
    Calls Try.prog 54 #[v, .string x] w fun e w' => e = .returned (.bool (hasB ss x)) ∧ w' = w := by
  have HI := hide (index_any v ss x w hv)
  have HH := hide (idxB_has ss x)
  generalize idxB ss x = n at *
  clear hv
  go_enter Try.func54, Try.ntmps54
  go_wp2_with (go_at_call 63; refine (unhide HI).mono ?_; rintro e w' ⟨rfl, rfl⟩)
  go_ret
  exact ⟨by rw [← unhide HH]; rfl, rfl⟩

/-- So many moves, none if below 0, all if there are fewer. -/
def clampQ (q : Int) (n : Nat) : Nat := (max 0 (min q (n : Int))).toNat
theorem clampQ_le (q : Int) (n : Nat) : clampQ q n ≤ n := by unfold clampQ; omega
theorem clampQ_int (q : Int) (n : Nat) : ((clampQ q n : Nat) : Int) = max 0 (min q (n : Int)) := by unfold clampQ; omega

set_option maxRecDepth 100000 in
set_option maxHeartbeats 800000 in
theorem behind_any (ns : List ByteArray) (ms : List Dm) (q0 q1 : Option Addr) (x2 : Option Addr) (n2 m2 : Nat) (q3 : Option Addr) (x4 : Option Addr) (n4 m4 : Nat) (P : Nat → Prop) (w : World) (hP : ∀ b, P b → b < w.heap.size) (hn : StrsAt P w (.slice x2 n2 m2) ns) (hf : FnAt P w (.slice x4 n4 m4) ms) (q : Int) (hl1 : ns.length ≤ 1000) (hl2 : ms.length ≤ 1000) (l : List ByteArray) (hl : mfold ns (ms.take (clampQ q ms.length)) = some l) :
    Calls Try.prog 53 #[.agg #[.pointer q0, .pointer q1, .slice x2 n2 m2, .pointer q3, .slice x4 n4 m4], .int .i64 q] w fun e w' => ∃ v', e = .returned v' ∧ NmOwn w w' v' l.length l := by
  have hbx : ∀ o, Below w.heap.size w (w.alloc o) := fun o => (Below.refl _ _).alloc (Nat.le_refl _) o
  have HMV := hide (fun o => moved_any ns ms (.pointer q0) (.pointer q1) (.slice x2 n2 m2) (.pointer q3) (.slice x4 n4 m4) P (w.alloc o) (fun b hb => Nat.lt_of_lt_of_le (hP b hb) (hbx o).size) (hn.carry (fun b hb => (hbx o).block b (hP b hb)) (fun _ h => h)) (hf.carry (fun b hb => (hbx o).block b (hP b hb)) (fun _ h => h)) (clampQ q ms.length) (clampQ_le _ _) hl1 hl2)
  obtain ⟨am, cm, e4, -, -, -⟩ := hf
  simp only [Value.slice.injEq] at e4
  obtain ⟨rfl, rfl, rfl⟩ := e4
  rw [hl, clampQ_int] at HMV
  have HBX := hide hbx
  clear hn hl hbx hP
  go_enter Try.func53, Try.ntmps53
  go_wp2_with fail
  refine (unhide HMV _).mono ?_
  rintro e w1 ⟨v1, rfl, hn1⟩
  have HN1 := hide hn1
  clear hn1
  go_wp2_with fail
  go_ret
  exact ⟨v1, rfl, ownsRow_base (unhide HN1).own (unhide HBX _).size, (unhide HN1).len, (unhide HN1).sz, (unhide HBX _).trans ((unhide HN1).below.mono (unhide HBX _).size)⟩

/-- Views stay what they are where nothing of theirs turns. -/
theorem VwAt.carry {w W W' : World} {d : Dk} {c : C3} {V : Value} {T B : Nat} {vm : Value} (h : VwAt w W d c V T B vm) (hb : Below W.heap.size W W') : VwAt w W' d c V T B vm :=
  ⟨h.val, ⟨h.tb.1, Nat.lt_of_lt_of_le h.tb.2 hb.size⟩, ⟨h.bb.1, Nat.lt_of_lt_of_le h.bb.2 hb.size⟩, h.row.of_block (hb.block T h.tb.2), ownsMap_block h.map (hb.block B h.bb.2), h.fns.carry (fun b hx => hb.block b hx.2) (fun _ hx => ⟨hx.1, Nat.lt_of_lt_of_le hx.2 hb.size⟩)⟩

theorem clampQ_all (n : Nat) : clampQ (n : Int) n = n := by unfold clampQ; omega

set_option maxRecDepth 100000 in
set_option maxHeartbeats 800000 in
theorem there_any (ns : List ByteArray) (ms : List Dm) (q0 q1 : Option Addr) (x2 : Option Addr) (n2 m2 : Nat) (q3 : Option Addr) (x4 : Option Addr) (n4 m4 : Nat) (P : Nat → Prop) (w : World) (hP : ∀ b, P b → b < w.heap.size) (hn : StrsAt P w (.slice x2 n2 m2) ns) (hf : FnAt P w (.slice x4 n4 m4) ms) (hl1 : ns.length ≤ 1000) (hl2 : ms.length ≤ 1000) (l : List ByteArray) (hl : mfold ns ms = some l) :
    Calls Try.prog 35 #[.agg #[.pointer q0, .pointer q1, .slice x2 n2 m2, .pointer q3, .slice x4 n4 m4]] w fun e w' => ∃ v', e = .returned v' ∧ NmOwn w w' v' l.length l := by
  have hbx : ∀ o, Below w.heap.size w (w.alloc o) := fun o => (Below.refl _ _).alloc (Nat.le_refl _) o
  have HMV := hide (fun o => behind_any ns ms q0 q1 x2 n2 m2 q3 x4 n4 m4 P (w.alloc o) (fun b hb => Nat.lt_of_lt_of_le (hP b hb) (hbx o).size) (hn.carry (fun b hb => (hbx o).block b (hP b hb)) (fun _ h => h)) (hf.carry (fun b hb => (hbx o).block b (hP b hb)) (fun _ h => h)) (ms.length : Int) hl1 hl2 l (by rw [clampQ_all, List.take_of_length_le (Nat.le_refl _)]; exact hl))
  obtain ⟨am, cm, e4, -, -, -⟩ := hf
  simp only [Value.slice.injEq] at e4
  obtain ⟨rfl, rfl, rfl⟩ := e4
  have HBX := hide hbx
  clear hn hl hbx hP
  go_enter Try.func35, Try.ntmps35
  go_wp2_with fail
  refine (unhide HMV _).mono ?_
  rintro e w1 ⟨v1, rfl, hn1⟩
  have HN1 := hide hn1
  clear hn1
  go_wp2_with fail
  go_ret
  exact ⟨v1, rfl, ownsRow_base (unhide HN1).own (unhide HBX _).size, (unhide HN1).len, (unhide HN1).sz, (unhide HBX _).trans ((unhide HN1).below.mono (unhide HBX _).size)⟩

set_option maxRecDepth 100000 in
set_option maxHeartbeats 800000 in
theorem isThere_any (ns : List ByteArray) (ms : List Dm) (q0 q1 : Option Addr) (x2 : Option Addr) (n2 m2 : Nat) (q3 : Option Addr) (x4 : Option Addr) (n4 m4 : Nat) (P : Nat → Prop) (w : World) (hP : ∀ b, P b → b < w.heap.size) (hn : StrsAt P w (.slice x2 n2 m2) ns) (hf : FnAt P w (.slice x4 n4 m4) ms) (hl1 : ns.length ≤ 1000) (hl2 : ms.length ≤ 1000) (l : List ByteArray) (hl : mfold ns ms = some l) (x : ByteArray) :
    Calls Try.prog 39 #[.agg #[.pointer q0, .pointer q1, .slice x2 n2 m2, .pointer q3, .slice x4 n4 m4], .string x] w fun e w' => e = .returned (.bool (hasB l x)) ∧ Below w.heap.size w w' := by
  have hbx : ∀ o, Below w.heap.size w (w.alloc o) := fun o => (Below.refl _ _).alloc (Nat.le_refl _) o
  have HMV := hide (fun o => there_any ns ms q0 q1 x2 n2 m2 q3 x4 n4 m4 P (w.alloc o) (fun b hb => Nat.lt_of_lt_of_le (hP b hb) (hbx o).size) (hn.carry (fun b hb => (hbx o).block b (hP b hb)) (fun _ h => h)) (hf.carry (fun b hb => (hbx o).block b (hP b hb)) (fun _ h => h)) hl1 hl2 l hl)
  have HBX := hide hbx
  clear hn hl hbx hP hf
  go_enter Try.func39, Try.ntmps39
  go_wp2_with fail
  refine (unhide HMV _).mono ?_
  rintro e w1 ⟨v1, rfl, hn1⟩
  have HC := hide (contains_any v1 l x w1 hn1.strs)
  have HB1 := hide ((unhide HBX _).trans (hn1.below.mono (unhide HBX _).size))
  clear hn1
  go_wp2_with fail
  refine (unhide HC).mono ?_
  rintro e w2 ⟨rfl, rfl⟩
  go_wp2_with fail
  go_ret
  exact ⟨rfl, unhide HB1⟩

set_option maxRecDepth 100000 in
set_option maxHeartbeats 1600000 in
theorem fileOf_any (fs : List Df) (a0 : Option Addr) (n0 p0 : Nat) (T B : Nat) (P : Nat → Prop) (w : World) (hP : ∀ b, P b → b < w.heap.size) (hv : FsAt P w (.slice a0 n0 p0) fs) (hrow : w.rowIs T 84 2 (rowO (.slice a0 n0 p0) (.map (some B)))) (hmap : NMap w B (fs.map Df.name)) (hnd : (fs.map Df.name).Nodup) (i : Nat) (hi : i < fs.length) :
    Calls Try.prog 41 #[.pointer (some ⟨T, 0, none⟩), .string fs[i].name] w fun e w' => e = .returned (.agg #[.string fs[i].name, .string fs[i].data, .int .i64 fs[i].kept]) ∧ Below w.heap.size w w' := by
  obtain ⟨a, cap, e0, hlen, hc⟩ := hv.open
  simp only [Value.slice.injEq] at e0
  obtain ⟨rfl, rfl, rfl⟩ := e0
  obtain ⟨b, o, rfl, hpb, ⟨c0, c1, c2⟩, hok⟩ := hc i hi
  simp only at c0 c1 c2
  have hbx : ∀ o, Below w.heap.size w (w.alloc o) := fun o => (Below.refl _ _).alloc (Nat.le_refl _) o
  have hbb := hP b hpb
  have t0 := hrow.cell (i := 0) (by omega); have t1 := hrow.cell (i := 1) (by omega)
  simp only [rowO] at t0 t1
  have hTl := hrow.lt
  have hkey : keyOf Try.prog 9 (.string fs[i].name) = some (nkey fs[i].name) := keyOf_string_mk Try.underlying9 (by unfold maxLen; have := hok.1; omega)
  have hmap2 := fun o => (World.ownsMap.alloc hmap o).drew
  have hat := at_nmap (fs.map Df.name) hnd i (by rw [List.length_map]; exact hi) (fs.map Df.name).length (Nat.le_refl _) (by rw [List.length_map]; exact hi)
  rw [List.getElem_map] at hat
  have hrun : ∀ o, (Instr.lookup 82 (.map (some B)) (.string fs[i].name) false).run Try.prog (w.alloc o).drew = .ok (.int .i64 i) (w.alloc o).drew := fun o => by
    obtain ⟨c, hr, hc, -⟩ := (hmap2 o).lookup_int keyLaw Try.underlying82 Try.underlying3 (zeroInt _) hkey
    rw [hat] at hc
    have : c = (i : Int) := by simpa using hc.symm
    rw [this] at hr; exact hr
  have T0 : ∀ o', (w.alloc o').cell? ⟨T, 0, none⟩ = some (.slice (some ⟨b, o, none⟩) fs.length p0) := fun o' => by rw [World.cell?_of_block (w := w) (Below.heap_alloc _ _ _ hTl)]; exact t0
  have T1 : ∀ o', (w.alloc o').cell? ⟨T, 1, none⟩ = some (.map (some B)) := fun o' => by rw [World.cell?_of_block (w := w) (Below.heap_alloc _ _ _ hTl)]; exact t1
  have C0 : ∀ o', (w.alloc o').cell? ⟨b, o + i * 3, none⟩ = some (.string fs[i].name) := fun o' => by rw [World.cell?_of_block (w := w) (Below.heap_alloc _ _ _ hbb)]; exact c0
  have C1 : ∀ o', (w.alloc o').cell? ⟨b, o + i * 3 + 1, none⟩ = some (.string fs[i].data) := fun o' => by rw [World.cell?_of_block (w := w) (Below.heap_alloc _ _ _ hbb)]; exact c1
  have C2 : ∀ o', (w.alloc o').cell? ⟨b, o + i * 3 + 2, none⟩ = some (.int .i64 fs[i].kept) := fun o' => by rw [World.cell?_of_block (w := w) (Below.heap_alloc _ _ _ hbb)]; exact c2
  have hii : (i : Int) < (fs.length : Int) := by omega
  have HBX := hide hbx
  clear hv hc hpb c0 c1 c2 t0 t1 hrow hmap hmap2 hnd hat hbx hP hok
  generalize fs[i] = f at *
  obtain ⟨fn, fd, fk⟩ := f
  simp only at *
  go_enter Try.func41, Try.ntmps41
  go_wp2_with fail
  go_region
  go_wp2_with fail
  try simp only [Exit.inBlock, Exit.then]
  refine bodyPost_ret (v := .agg #[.string fn, .string fd, .int .i64 fk]) (by simp [results, Try.results41, go_sem]) rfl ?_
  exact ⟨rfl, (unhide HBX _).drew⟩
end Go.Proofs.Ytepknipcflbodaa
