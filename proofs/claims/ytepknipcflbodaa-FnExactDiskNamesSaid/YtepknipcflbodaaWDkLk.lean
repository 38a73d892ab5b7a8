/- Both DiskLooks, and the specification's DiskNames: what they answer, and that they turn nothing that was there. No conditions. -/
import Derived.Test.YtepknipcflbodaaPkLk
namespace Go.Proofs.Ytepknipcflbodaa
open Go Go.RowKit Go.WideMaps Go.Maps

/-- The names that are there. -/
noncomputable def namesD (d : Dk) : List ByteArray := open Classical in if DkOkS d then afterD d.names d.moves else []
theorem namesD_ok {d : Dk} (h : DkOkS d) : namesD d = afterD d.names d.moves := if_pos h
theorem namesD_no {d : Dk} (h : ¬ DkOkS d) : namesD d = [] := if_neg h
theorem dk_nodup {d : Dk} (h : DkOkS d) : (madeD d.names d.moves).Nodup ∧ d.files.map Df.name = madeD d.names d.moves ∧ mfold d.names d.moves = some (afterD d.names d.moves) := by
  have hp := (dkOk_iff d).1 h
  have heq := named_eq hp.made.named
  have hnd : (madeD d.names d.moves).Nodup := by
    rw [← heq]
    refine nodup_take fun i hi => ?_
    rw [List.length_map] at hi
    rw [List.getElem_map]
    exact (hp.file i hi).1
  refine ⟨hnd, heq, ?_⟩
  have := mfold_after hnd (fun i hi hg => hasB_iff.1 (h.move i hi hg)) d.moves.length (Nat.le_refl _)
  rwa [List.take_of_length_le (Nat.le_refl _)] at this
/-- A name that is there is that of a file. -/
theorem names_file {d : Dk} {x : ByteArray} (hx : x ∈ namesD d) : ∃ i, ∃ hi : i < d.files.length, DkOkS d ∧ d.files[i].name = x ∧ findF d.files x = i := by
  by_cases h : DkOkS d
  · rw [namesD_ok h] at hx
    obtain ⟨hnd, heq, -⟩ := dk_nodup h
    have := (after_nodup hnd d.moves.length (Nat.le_refl _)).2 x (by rw [List.take_of_length_le (Nat.le_refl _)]; exact hx)
    rw [List.take_of_length_le (Nat.le_refl _), ← heq] at this
    obtain ⟨i, hi, e⟩ := List.getElem_of_mem this
    rw [List.length_map] at hi
    rw [List.getElem_map] at e
    refine ⟨i, hi, h, e, ?_⟩
    have := (h.file i hi (by rw [h.len]; exact hi)).find
    rw [← e]; exact this
  · rw [namesD_no h] at hx; cases hx
/-- What DiskLook gives. -/
noncomputable def lookD (d : Dk) (x : ByteArray) : ByteArray × Bool := open Classical in if x ∈ namesD d then ((d.files.getD (findF d.files x).toNat ⟨ByteArray.empty, ByteArray.empty, 0⟩).data, true) else (ByteArray.empty, false)
theorem lookD_no {d : Dk} {x : ByteArray} (h : x ∉ namesD d) : lookD d x = (ByteArray.empty, false) := if_neg h
theorem lookD_yes {d : Dk} {x : ByteArray} (h : x ∈ namesD d) (i : Nat) (hi : i < d.files.length) (e : findF d.files x = i) : lookD d x = (d.files[i].data, true) := by
  unfold lookD
  rw [if_pos h, e]
  simp [hi]

set_option maxRecDepth 100000 in
set_option maxHeartbeats 800000 in
theorem specDiskNames_any (d : Dk) (P : Nat → Prop) (c : C3) (w : World) (hP : ∀ b, P b → b < w.heap.size) (hd : DkAt P w d c) :
    Calls Try.prog 11 #[.agg #[c.c0, c.c1, c.c2]] w fun e w' => ∃ v, e = .returned v ∧ NmOwn w w' v (namesD d).length (namesD d) := by
  obtain ⟨c0, c1, c2⟩ := c
  have hbx : ∀ o, Below w.heap.size w (w.alloc o) := fun o => (Below.refl _ _).alloc (Nat.le_refl _) o
  have HOK := hide (fun o => specDiskOk_any d P ⟨c0, c1, c2⟩ (w.alloc o) (fun b hb => Nat.lt_of_lt_of_le (hP b hb) (hbx o).size) (hd.carry (fun b hb => (hbx o).block b (hP b hb)) (fun _ h => h)))
  have HAF := hide (fun (h : DkOkS d) (W : World) (hW : Below w.heap.size w W) => l41After_any d P ⟨c0, c1, c2⟩ W (fun b hb => Nat.lt_of_lt_of_le (hP b hb) hW.size) (hd.carry (fun b hb => hW.block b (hP b hb)) (fun _ h => h)) (by have := h.l2; omega) (by have := h.l3; omega) d.moves.length (Nat.le_refl _))
  obtain ⟨a2, p2, g2, -, -⟩ := hd.ms.open
  simp only at g2
  subst g2
  have HROW := hide (row3_alloc w c0 c1 (.slice a2 d.moves.length p2) 32)
  have HBX := hide hbx
  clear hd hP hbx
  go_enter Try.func11, Try.ntmps11
  go_wp2_with fail
  refine (unhide HOK _).mono ?_
  rintro e w1 ⟨⟨r, rfl, hr⟩, hb1⟩
  have HB1 := hide ((unhide HBX _).trans (hb1.mono (unhide HBX _).size))
  have q1 := (unhide HROW).of_block (hb1.block w.heap.size (by simp))
  have k0 := q1.cell (i := 0) (by omega); have k1 := q1.cell (i := 1) (by omega); have k2 := q1.cell (i := 2) (by omega)
  simp only [row3] at k0 k1 k2
  clear hb1 q1 HOK
  cases r with
  | false =>
    have HNO := hide (show ¬ DkOkS d from fun h => by have := hr.2 h; cases this)
    have HEMP := hide (empty_row (base := w.heap.size) (size := 1) (World.rowIs_alloc w1 #[] 9 (fun _ => .bool false) (fun i hi => by simp at hi)) (unhide HB1).size)
    clear hr
    go_wp2_with fail
    go_ret
    refine ⟨_, rfl, ?_⟩
    rw [namesD_no (unhide HNO)]
    exact ⟨unhide HEMP, rfl, fun x hx => (by cases hx), (unhide HB1).alloc (unhide HB1).size _⟩
  | true =>
    have HYES := hide (hr.1 rfl)
    clear hr
    have HAF1 := hide (unhide HAF (unhide HYES) w1 (unhide HB1))
    go_wp2_with fail
    refine (unhide HAF1).mono ?_
    rintro e w2 ⟨a, n, cap, rfl, HN⟩
    go_wp2_with fail
    go_ret
    refine ⟨_, rfl, ?_⟩
    have hn := HN.out
    rw [List.take_of_length_le (Nat.le_refl _), ← namesD_ok (unhide HYES)] at hn
    refine ⟨ownsRow_base (by rw [← hn.len]; exact hn.own) (unhide HB1).size, rfl, hn.sz, (unhide HB1).trans (hn.below.mono (unhide HB1).size)⟩

set_option maxRecDepth 100000 in
set_option maxHeartbeats 800000 in
theorem specDiskLook_any (d : Dk) (x : ByteArray) (P : Nat → Prop) (c : C3) (w : World) (hP : ∀ b, P b → b < w.heap.size) (hd : DkAt P w d c) :
    Calls Try.prog 17 #[.agg #[c.c0, c.c1, c.c2], .string x] w fun e w' => e = .returned (.tuple #[.string (lookD d x).1, .bool (lookD d x).2]) ∧ Below w.heap.size w w' := by
  obtain ⟨c0, c1, c2⟩ := c
  have hbx : ∀ o, Below w.heap.size w (w.alloc o) := fun o => (Below.refl _ _).alloc (Nat.le_refl _) o
  have HN := hide (fun o => specDiskNames_any d P ⟨c0, c1, c2⟩ (w.alloc o) (fun b hb => Nat.lt_of_lt_of_le (hP b hb) (hbx o).size) (hd.carry (fun b hb => (hbx o).block b (hP b hb)) (fun _ h => h)))
  have HFI := hide (fun (W : World) (hW : Below w.heap.size w W) => l41Find_any c0 d.files x W (P := P) (hd.fs.carry (fun b hb => hW.block b (hP b hb)) (fun _ h => h)))
  have HROW := hide (row3_alloc w c0 c1 c2 32)
  have HBX := hide hbx; have HP := hide hP
  obtain ⟨a0, p0, g0, hl0, hfc⟩ := hd.fs.open
  simp only at g0
  subst g0
  have HFC := hide hfc
  clear hd hP hbx hfc
  go_enter Try.func17, Try.ntmps17
  go_wp2_with fail
  refine (unhide HN _).mono ?_
  rintro e w1 ⟨v1, rfl, hn1⟩
  have hb1 := hn1.below
  have HB1 := hide ((unhide HBX _).trans (hb1.mono (unhide HBX _).size))
  have q1 := (unhide HROW).of_block (hb1.block w.heap.size (by simp))
  have k0 := q1.cell (i := 0) (by omega)
  simp only [row3] at k0
  have HH := hide (l6Has_any v1 (namesD d) x w1 hn1.strs)
  clear hb1 q1 HN hn1
  cases ch : hasB (namesD d) x with
  | false =>
    have HNO := hide (show lookD d x = (ByteArray.empty, false) from lookD_no (fun h => by have := hasB_iff.2 h; rw [ch] at this; cases this))
    rw [ch] at HH
    clear ch
    go_wp2_with fail
    refine (unhide HH).mono ?_
    rintro e w2 ⟨rfl, rfl⟩
    go_wp2_with fail
    go_ret2
    rw [unhide HNO]
    exact ⟨rfl, unhide HB1⟩
  | true =>
    obtain ⟨i, hi, -, he, hf⟩ := names_file (hasB_iff.1 ch)
    have HYES := hide (lookD_yes (hasB_iff.1 ch) i hi hf)
    rw [ch] at HH
    rw [hf] at HFI
    obtain ⟨b, o, rfl, hpb, ⟨c0', c1', -⟩, -⟩ := unhide HFC i hi
    simp only at c0' c1'
    have e1 : w1.cell? ⟨b, o + i * 3 + 1, none⟩ = some (.string d.files[i].data) := by rw [(unhide HB1).cell (p := ⟨b, o + i * 3 + 1, none⟩) (unhide HP b hpb)]; exact c1'
    have hii : (i : Int) < (d.files.length : Int) := by omega
    have HFI2 := hide (fun m => unhide HFI (w1.drewN m) (bdrewN (unhide HB1) m))
    clear ch he hf c0' c1' hpb HFI
    generalize d.files[i].data = fd at *
    go_wp2_with fail
    refine (unhide HH).mono ?_
    rintro e w2 ⟨rfl, rfl⟩
    go_wp2_with fail
    go_quiet (first
      | (go_at_call 25; exact Calls.quiet_of_same (unhide HFI2 _)))
    go_wp2_with fail
    go_ret2
    rw [unhide HYES]
    exact ⟨rfl, bdrewN (unhide HB1) _⟩

set_option maxRecDepth 100000 in
theorem runField1 (a b : ByteArray) (k : Int) (w : World) : (Instr.field 46 (.agg #[.string a, .string b, .int .i64 k]) 1).run Try.prog w = .ok (.string b) w := by rfl

theorem strClone_any (s : ByteArray) (w : World) (hs : s.size ≤ 281474976710656) :
    Calls Try.prog 40 #[.string s] w fun e w' => e = .returned (.string s) ∧ Below w.heap.size w w' := by
  have HC := hide (Try.stringslite_Clone s w hs)
  go_enter Try.func40, Try.ntmps40
  go_wp2_with fail
  refine (unhide HC).mono ?_
  rintro e w1 ⟨rfl, hb⟩
  go_wp2_with fail
  go_ret
  exact ⟨rfl, hb⟩

set_option maxRecDepth 100000 in
set_option maxHeartbeats 1600000 in
theorem implDiskLook_any (d : Dk) (x : ByteArray) (P : Nat → Prop) (c : C3) (w : World) (hP : ∀ b, P b → b < w.heap.size) (hd : DkAt P w d c) :
    Calls Try.prog 18 #[.agg #[c.c0, c.c1, c.c2], .string x] w fun e w' => e = .returned (.tuple #[.string (lookD d x).1, .bool (lookD d x).2]) ∧ Below w.heap.size w w' := by
  obtain ⟨c0, c1, c2⟩ := c
  have HD := hide hd; have HP := hide hP
  have hbx : ∀ o, Below w.heap.size w (w.alloc o) := fun o => (Below.refl _ _).alloc (Nat.le_refl _) o
  have HV := hide (fun o => viewsOf_any d P ⟨c0, c1, c2⟩ (w.alloc o) (fun b hb => Nat.lt_of_lt_of_le (hP b hb) (hbx o).size) (hd.carry (fun b hb => (hbx o).block b (hP b hb)) (fun _ h => h)))
  have HBX := hide hbx
  clear hd hP hbx
  go_enter Try.func18, Try.ntmps18
  go_wp2_with fail
  refine (unhide HV _).mono ?_
  rintro e w1 ⟨r, q0, q1, x2, n2, m2, q3, x4, n4, m4, rfl, hr, hb1, hvw⟩
  have HB1 := hide ((unhide HBX _).trans (hb1.mono (unhide HBX _).size))
  clear hb1 HV
  cases r with
  | false =>
    have HNO := hide (show lookD d x = (ByteArray.empty, false) from lookD_no (fun h => by obtain ⟨_, _, h', -⟩ := names_file h; have := hr.2 ((dkOk_iff d).1 h'); cases this))
    clear hr hvw
    go_wp2_with fail
    go_ret2
    rw [unhide HNO]
    exact ⟨rfl, (unhide HB1).alloc (unhide HB1).size _⟩
  | true =>
    obtain ⟨T, B, vm, hvw⟩ := hvw rfl
    have hok := (dkOk_iff d).2 (hr.1 rfl)
    clear hr
    have hval := hvw.val
    simp only [Value.agg.injEq, Array.mk.injEq, List.cons.injEq, Value.pointer.injEq, and_true] at hval
    obtain ⟨rfl, rfl, hx2, rfl, rfl⟩ := hval
    obtain ⟨hnd, heq, hmf⟩ := dk_nodup hok
    have HVW := hide hvw
    have hbv : ∀ o, Below w1.heap.size w1 (w1.alloc o) := fun o => (Below.refl _ _).alloc (Nat.le_refl _) o
    have hnm : ∀ (W : World), Below w1.heap.size w1 W → StrsAt (fun b => b < W.heap.size) W (.slice x2 n2 m2) d.names := fun W hW => by
      have := (unhide HD).ns.carry (w' := W) (Q := fun b => b < W.heap.size) (fun b hb => (hW.block b (Nat.lt_of_lt_of_le (unhide HP b hb) (unhide HB1).size)).trans ((unhide HB1).block b (unhide HP b hb))) (fun b hb => Nat.lt_of_lt_of_le (unhide HP b hb) (Nat.le_trans (unhide HB1).size hW.size))
      rw [← hx2] at this; exact this
    have HTH := hide (fun o => isThere_any d.names d.moves (some ⟨T, 0, none⟩) (some ⟨T, 0, none⟩) x2 n2 m2 (some ⟨T, 0, none⟩) x4 n4 m4 (fun b => b < (w1.alloc o).heap.size) (w1.alloc o) (fun _ h => h) (hnm _ (hbv o)) ((hvw.carry (hbv o)).fns.carry (fun _ _ => rfl) (fun b hb => hb.2)) (by have := hok.l2; omega) (by have := hok.l3; omega) (afterD d.names d.moves) hmf x)
    rw [← namesD_ok hok] at HTH
    have HBV := hide hbv; have HOK := hide hok
    have HND := hide (heq ▸ hnd); have HX2 := hide hx2
    clear hvw hnm hbv hnd heq hmf hok hx2
    cases ch : hasB (namesD d) x with
    | false =>
      have HNO := hide (show lookD d x = (ByteArray.empty, false) from lookD_no (fun h => by have := hasB_iff.2 h; rw [ch] at this; cases this))
      rw [ch] at HTH
      clear ch
      go_wp2_with fail
      refine (unhide HTH _).mono ?_
      rintro e w2 ⟨rfl, hb2⟩
      have HB2 := hide (((unhide HB1).trans ((unhide HBV _).mono (unhide HB1).size)).trans (hb2.mono (Nat.le_trans (unhide HB1).size (unhide HBV _).size)))
      clear hb2
      go_wp2_with fail
      go_ret2
      rw [unhide HNO]
      exact ⟨rfl, unhide HB2⟩
    | true =>
      obtain ⟨i, hi, -, he, hf⟩ := names_file (hasB_iff.1 ch)
      have HYES := hide (lookD_yes (hasB_iff.1 ch) i hi hf)
      rw [ch] at HTH
      have hsz : d.files[i].data.size ≤ 281474976710656 := by have := ((unhide HOK).file i hi (by rw [(unhide HOK).len]; exact hi)).data; omega
      have HCL := hide (fun W => strClone_any d.files[i].data W hsz)
      obtain ⟨a0, p0, g0, -, -⟩ := (unhide HD).fs.open
      simp only at g0
      subst g0
      have HFO := hide (fun (W : World) (hW : Below w1.heap.size w1 W) => fileOf_any d.files a0 d.files.length p0 T B P W (fun b hb => Nat.lt_of_lt_of_le (unhide HP b hb) (Nat.le_trans (unhide HB1).size hW.size)) ((unhide HD).fs.carry (fun b hb => (hW.block b (Nat.lt_of_lt_of_le (unhide HP b hb) (unhide HB1).size)).trans ((unhide HB1).block b (unhide HP b hb))) (fun _ h => h)) ((unhide HVW).carry hW).row ((unhide HVW).carry hW).map (unhide HND) i hi)
      rw [he] at HFO
      clear ch he hf hsz
      generalize d.files[i].data = fd at *
      generalize d.files[i].kept = fk at *
      go_wp2_with fail
      refine (unhide HTH _).mono ?_
      rintro e w2 ⟨rfl, hb2⟩
      have hbw : Below w1.heap.size w1 w2 := (unhide HBV _).trans (hb2.mono (unhide HBV _).size)
      have hq2 := (fiveV_alloc w1 (.pointer (some ⟨T, 0, none⟩)) (.pointer (some ⟨T, 0, none⟩)) (.slice x2 n2 m2) (.pointer (some ⟨T, 0, none⟩)) (.slice x4 n4 m4) 64).of_block (hb2.block w1.heap.size (by simp))
      have k3 := hq2.cell (i := 3) (by omega)
      simp only [fiveV] at k3
      have HFO2 := hide (unhide HFO w2 hbw)
      have HB2 := hide ((unhide HB1).trans (hbw.mono (unhide HB1).size))
      clear hb2 hbw hq2
      go_wp2_with fail
      refine (unhide HFO2).mono ?_
      rintro e w3 ⟨rfl, hb3⟩
      have HB3 := hide ((unhide HB2).trans (hb3.mono (unhide HB2).size))
      clear hb3
      have hfd := runField1 x fd fk w3
      go_wp2_with fail
      refine (unhide HCL _).mono ?_
      rintro e w4 ⟨rfl, hb4⟩
      have HB4 := hide ((unhide HB3).trans (hb4.mono (unhide HB3).size))
      clear hb4
      go_wp2_with fail
      go_ret2
      rw [unhide HYES]
      exact ⟨rfl, unhide HB4⟩
end Go.Proofs.Ytepknipcflbodaa
