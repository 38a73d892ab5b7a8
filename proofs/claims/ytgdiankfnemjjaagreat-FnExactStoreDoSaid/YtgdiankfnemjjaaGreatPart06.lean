/- The program's viewsOf: whether a disk is ok, and the views over it. No conditions. -/
import Derived.Test.YtgdiankfnemjjaaGreatPart03
import Derived.Test.YtgdiankfnemjjaaGreatPart05
import Derived.Deep.RegionLaw
import Derived.Test.YtgdiankfnemjjaaGreatPart00
namespace Go.Proofs.YtgdiankfnemjjaaGreat
open Go Go.RowKit Go.WideMaps Go.Maps

/-- What the program asks of a disk. -/
structure DkOkP (d : Dk) : Prop where
  l1 : d.files.length ≤ 64
  l3 : d.moves.length ≤ 128
  made : FMade d
  file : ∀ i (h : i < d.files.length), d.files[i].name ∉ (d.files.map Df.name).take i ∧ fOkB d.files[i] = true
  move : (mfold d.names d.moves).isSome = true
/-- The views over a disk that is ok. -/
structure VwAt (w W : World) (d : Dk) (c : C3) (V : Value) (T B : Nat) (vm : Value) : Prop where
  val : V = .agg #[.pointer (some ⟨T, 0, none⟩), .pointer (some ⟨T, 0, none⟩), c.c1, .pointer (some ⟨T, 0, none⟩), vm]
  tb : New w W T
  bb : New w W B
  row : W.rowIs T 114 2 (rowO c.c0 (.map (some B)))
  map : NMap W B (d.files.map Df.name)
  fns : FnAt (New w W) W vm d.moves
/-- What viewsOf gives. -/
def VwEnd (w W : World) (e : Ending) (d : Dk) (c : C3) : Prop :=
  ∃ r q0 q1 x2 n2 m2 q3 x4 n4 m4, e = .returned (.tuple #[.agg #[.pointer q0, .pointer q1, .slice x2 n2 m2, .pointer q3, .slice x4 n4 m4], .bool r]) ∧ (r = true ↔ DkOkP d) ∧ Below w.heap.size w W ∧ (r = true → ∃ T B vm, VwAt w W d c (.agg #[.pointer q0, .pointer q1, .slice x2 n2 m2, .pointer q3, .slice x4 n4 m4]) T B vm)
theorem VwEnd.no {w W : World} {q0 q1 x2 q3 x4 : Option Addr} {n2 m2 n4 m4 : Nat} {d : Dk} {c : C3} (h : ¬ DkOkP d) (hb : Below w.heap.size w W) : VwEnd w W (.returned (.tuple #[.agg #[.pointer q0, .pointer q1, .slice x2 n2 m2, .pointer q3, .slice x4 n4 m4], .bool false])) d c :=
  ⟨false, q0, q1, x2, n2, m2, q3, x4, n4, m4, rfl, by simp [h], hb, by simp⟩

theorem infoFnM : (Tryz.prog.info? 118).map (fun i => (i.zero, i.size, i.bytes)) = some (some .nilFunc, 1, 8) := by kernel_rfl
theorem infoFnD : ∃ i, Tryz.prog.info? 118 = some i ∧ i.zero = some .nilFunc ∧ i.size = 1 ∧ i.bytes = 8 := by
  have := infoFnM
  cases h : Tryz.prog.info? 118 with
  | none => rw [h] at this; simp at this
  | some i => rw [h] at this; exact ⟨i, rfl, by simpa using this⟩
/-- Five cells of one block are laid: no other block turns. -/
theorem set5_other (w : World) (B : Nat) (v0 v1 v2 v3 v4 : Value) (b : Nat) (h : b ≠ B) : (((((w.setCell ⟨B, 0, none⟩ v0).setCell ⟨B, 1, none⟩ v1).setCell ⟨B, 2, none⟩ v2).setCell ⟨B, 3, none⟩ v3).setCell ⟨B, 4, none⟩ v4).heap[b]? = w.heap[b]? := by
  rw [Below.heap_setCell _ _ _ _ h, Below.heap_setCell _ _ _ _ h, Below.heap_setCell _ _ _ _ h, Below.heap_setCell _ _ _ _ h, Below.heap_setCell _ _ _ _ h]
theorem set5_size (w : World) (B : Nat) (v0 v1 v2 v3 v4 : Value) : (((((w.setCell ⟨B, 0, none⟩ v0).setCell ⟨B, 1, none⟩ v1).setCell ⟨B, 2, none⟩ v2).setCell ⟨B, 3, none⟩ v3).setCell ⟨B, 4, none⟩ v4).heap.size = w.heap.size := by
  simp [World.setCell]
theorem fiveV_set4 {w : World} {B : Nat} {T : TypeId} {x0 x1 x2 x3 x4 : Value} (h : w.rowIs B T 5 (fiveV x0 x1 x2 x3 x4)) (v : Value) : (w.setCell ⟨B, 4, none⟩ v).rowIs B T 5 (fiveV x0 x1 x2 x3 v) :=
  (h.set 4 v).congr (fun i hi => by
    match i, hi with
    | 0, _ => rfl
    | 1, _ => rfl
    | 2, _ => rfl
    | 3, _ => rfl
    | 4, _ => rfl)
def zeroVw : Value := .agg #[.pointer none, .pointer none, .slice none 0 0, .pointer none, .slice none 0 0]

set_option maxRecDepth 100000 in
set_option maxHeartbeats 3200000 in
theorem viewsOf_any (d : Dk) (P : Nat → Prop) (c : C3) (w : World) (hP : ∀ b, P b → b < w.heap.size) (hd : DkAt P w d c) :
    Calls Tryz.prog 61 #[.agg #[c.c0, c.c1, c.c2]] w fun e w' => VwEnd w w' e d c := by
  obtain ⟨c0, c1, c2⟩ := c
  have HD := hide hd
  obtain ⟨a0, p0, g0, hl0, hfc⟩ := hd.fs.open
  obtain ⟨a1, p1, g1, hl1, -⟩ := hd.ns
  obtain ⟨a2, p2, g2, hl2, hmc⟩ := hd.ms.open
  simp only at g0 g1 g2
  subst g0 g1 g2
  have hbx : ∀ o o', Below w.heap.size w ((w.alloc o).alloc o') := fun o o' => ((Below.refl _ _).alloc (Nat.le_refl _) o).alloc (by simp) o'
  have HBX := hide hbx
  by_cases h1 : 64 < d.files.length
  · have HNO := hide (show ¬ DkOkP d from fun h => by have := h.l1; omega)
    clear hd hfc hmc hbx hP
    go_enter Tryz.func61, Tryz.ntmps61
    go_wp2_with fail
    try simp only [Exit.inBlock, Exit.then]
    refine bodyPost_ret (v := .tuple #[zeroVw, .bool false]) (by unfold zeroVw; simp [results, Tryz.results61, go_sem]) rfl ?_
    exact VwEnd.no (unhide HNO) (unhide HBX _ _)
  replace h1 : d.files.length ≤ 64 := by omega
  have h1' : decide ((64 : Int) < (d.files.length : Int)) = false := by simp; omega
  by_cases h3 : 128 < d.moves.length
  · have HNO := hide (show ¬ DkOkP d from fun h => by have := h.l3; omega)
    clear hd hfc hmc hbx hP
    go_enter Tryz.func61, Tryz.ntmps61
    go_wp2_with fail
    try simp only [Exit.inBlock, Exit.then]
    refine bodyPost_ret (v := .tuple #[zeroVw, .bool false]) (by unfold zeroVw; simp [results, Tryz.results61, go_sem]) rfl ?_
    exact VwEnd.no (unhide HNO) (unhide HBX _ _)
  replace h3 : d.moves.length ≤ 128 := by omega
  have h3' : decide ((128 : Int) < (d.moves.length : Int)) = false := by simp; omega
  have HFN := hide (fun o o' => filesNamed_any d P ⟨.slice a0 d.files.length p0, .slice a1 d.names.length p1, .slice a2 d.moves.length p2⟩ ((w.alloc o).alloc o') (fun b hb => Nat.lt_of_lt_of_le (hP b hb) (hbx o o').size) (hd.carry (fun b hb => (hbx o o').block b (hP b hb)) (fun _ h => h)) (by omega) (by omega))
  have HFC := hide hfc; have HMC := hide hmc; have HP := hide hP
  have hr1 : ∀ o', ((w.alloc (.cells #[.slice a0 d.files.length p0, .slice a1 d.names.length p1, .slice a2 d.moves.length p2] 37)).alloc o').rowIs w.heap.size 37 3 (row3 (.slice a0 d.files.length p0) (.slice a1 d.names.length p1) (.slice a2 d.moves.length p2)) := fun o' => (row3_alloc w _ _ _ _).alloc o'
  have hr2 : ∀ o, ((w.alloc o).alloc (.cells #[.pointer none, .pointer none, .slice none 0 0, .pointer none, .slice none 0 0] 101)).rowIs (w.heap.size + 1) 101 5 (fiveV (.pointer none) (.pointer none) (.slice none 0 0) (.pointer none) (.slice none 0 0)) := fun o => by
    have := fiveV_alloc (w.alloc o) (.pointer none) (.pointer none) (.slice none 0 0) (.pointer none) (.slice none 0 0) 101
    rw [World.size_alloc] at this
    exact this
  have HR1 := hide hr1; have HR2 := hide hr2
  clear hd hfc hmc hP hbx hr1 hr2
  go_enter Tryz.func61, Tryz.ntmps61
  go_wp2_with fail
  refine (unhide HFN _ _).mono ?_
  rintro e w1 ⟨⟨r, rfl, hr⟩, hb1⟩
  have hb01 : Below w.heap.size w w1 := (unhide HBX _ _).trans (hb1.mono (unhide HBX _ _).size)
  have hs1 : w.heap.size + 2 ≤ w1.heap.size := by have := hb1.size; simpa using this
  have q1 := (unhide HR1 _).of_block (hb1.block w.heap.size (by simp; omega))
  have q2 := (unhide HR2 _).of_block (hb1.block (w.heap.size + 1) (by simp))
  have HB01 := hide hb01; have Q1 := hide q1; have Q2 := hide q2
  cases r with
  | false =>
    have HNO := hide (show ¬ DkOkP d from fun h => by have := hr.2 h.made; cases this)
    have y0 := q2.cell (i := 0) (by omega); have y1 := q2.cell (i := 1) (by omega); have y2 := q2.cell (i := 2) (by omega); have y3 := q2.cell (i := 3) (by omega); have y4 := q2.cell (i := 4) (by omega)
    have z := q2.frozen
    simp only [fiveV] at y0 y1 y2 y3 y4
    clear hb1 hb01 q1 q2 hr HFN
    go_wp2_with fail
    try simp only [Exit.inBlock, Exit.then]
    refine bodyPost_ret (v := .tuple #[zeroVw, .bool false]) (by unfold zeroVw; simp [results, Tryz.results61, go_sem, y0, y1, y2, y3, y4]) rfl ?_
    exact VwEnd.no (unhide HNO) (((((unhide HB01).setCell (by simp) _).setCell (by simp) _).setCell (by simp) _).setCell (by simp) _ |>.setCell (by simp) _)
  | true =>
    have HMADE := hide (hr.1 rfl)
    have k0 := q1.cell (i := 0) (by omega)
    simp only [row3] at k0
    have k02 : ∀ o', (w1.alloc o').cell? ⟨w.heap.size, 0, none⟩ = some (.slice a0 d.files.length p0) := fun o' => by rw [World.cell?_of_block (w := w1) (Below.heap_alloc _ _ _ (World.block_lt_of_cell? w1 _ k0))]; exact k0
    have hmm := runMake
    clear hb1 hb01 q1 q2 hr HFN
    go_wp2_with fail
    go_region
    have hW2s : ((w1.alloc (.map #[] 0)).alloc (.cells #[.slice a0 d.files.length p0, .map (some w1.heap.size)] 114)).drew.heap.size = w1.heap.size + 2 := by simp
    have hb2 : Below w1.heap.size w1 ((w1.alloc (.map #[] 0)).alloc (.cells #[.slice a0 d.files.length p0, .map (some w1.heap.size)] 114)).drew := (((Below.refl _ _).alloc (Nat.le_refl _) _).alloc (by simp) _).drew
    have hown0 : ((w1.alloc (.map #[] 0)).alloc (.cells #[.slice a0 d.files.length p0, .map (some w1.heap.size)] 114)).drew.ownsMap Tryz.prog 9 (plainElem (H := Unit) Tryz.prog 3) w1.heap.size 0 (.map []) := ((World.ownsMap_made w1 _ _ _).alloc _).drew
    have q4 : ((w1.alloc (.map #[] 0)).alloc (.cells #[.slice a0 d.files.length p0, .map (some w1.heap.size)] 114)).drew.rowIs (w1.heap.size + 1) 114 2 (rowO (.slice a0 d.files.length p0) (.map (some w1.heap.size))) := by
      have := rowO_alloc (w1.alloc (.map #[] 0)) (.slice a0 d.files.length p0) (.map (some w1.heap.size)) 114
      rw [World.size_alloc] at this
      exact this
    generalize ((w1.alloc (.map #[] 0)).alloc (.cells #[.slice a0 d.files.length p0, .map (some w1.heap.size)] 114)).drew = W2 at *
    have k03 : W2.cell? ⟨w.heap.size, 0, none⟩ = some (.slice a0 d.files.length p0) := by rw [hb2.cell (p := ⟨w.heap.size, 0, none⟩) (by show w.heap.size < w1.heap.size; omega)]; exact k0
    have HB2 := hide hb2; have HO0 := hide hown0; have Q4 := hide q4
    have HST := hide (fun k (hk : k < d.files.length) => show nmap (d.files.map Df.name) (k + 1) = (nmap (d.files.map Df.name) k).put (nkey d.files[k].name) (.lit (.int .i64 k)) by
      rw [nmap]; congr 2; simp [List.getD, hk])
    have HHAS := hide (fun k (hk : k < d.files.length) x => has_nmap (d.files.map Df.name) x k (by rw [List.length_map]; omega))
    clear hb2 hown0 q4 k0 k02 hmm
    go_wp2_with fail
    clear k03
    go_loopw [41] (fun i wr => ∃ (k : Nat), k ≤ d.files.length ∧ i = .int .i64 k ∧ Hid (wr.ownsMap Tryz.prog 9 (plainElem (H := Unit) Tryz.prog 3) w1.heap.size k (nmap (d.files.map Df.name) k)) ∧ Hid (wr.rowIs (w1.heap.size + 1) 114 2 (rowO (.slice a0 d.files.length p0) (.map (some w1.heap.size)))) ∧ Hid (∀ j (h : j < d.files.length), j < k → d.files[j].name ∉ (d.files.map Df.name).take j ∧ fOkB d.files[j] = true) ∧ Hid (Below w1.heap.size w1 wr)) (fun i _ => d.files.length - (intOf i).toNat)
    case atStart => exact ⟨0, Nat.zero_le _, rfl, unhide HO0, unhide Q4, fun j _ hj => by omega, unhide HB2⟩
    case round =>
      obtain ⟨k, hk, rfl, HO, HT, HF, HB⟩ := hrel
      have hws : w1.heap.size + 2 ≤ wr.heap.size := by have := HT.out.lt; omega
      have HBW := hide ((unhide HB01).trans (HB.out.mono (by omega)))
      by_cases hlt : k < d.files.length
      rotate_left
      · obtain rfl : k = d.files.length := by omega
        obtain ⟨wa, hwa⟩ : ∃ wa, wa = wr := ⟨_, rfl⟩
        subst hwa
        have HFALL := hide (fun j h => HF.out j h h)
        have q1 := (unhide Q1).of_block (HB.out.block w.heap.size (by omega))
        have k1 := q1.cell (i := 1) (by omega); have k2 := q1.cell (i := 2) (by omega)
        simp only [row3] at k1 k2
        have k2a : ∀ o', (wa.alloc o').cell? ⟨w.heap.size, 2, none⟩ = some (.slice a2 d.moves.length p2) := fun o' => by rw [World.cell?_of_block (w := wa) (Below.heap_alloc _ _ _ (World.block_lt_of_cell? wa _ k2))]; exact k2
        clear HF hlt hk q1
        go_wp2_with fail
        have q5 := fiveV_alloc wa (.pointer (some ⟨w1.heap.size + 1, 0, none⟩)) (.pointer (some ⟨w1.heap.size + 1, 0, none⟩)) (.slice a1 d.names.length p1) (.pointer (some ⟨w1.heap.size + 1, 0, none⟩)) (.slice none 0 0) 101
        have hb5 : Below wa.heap.size wa (wa.alloc (.cells #[.pointer (some ⟨w1.heap.size + 1, 0, none⟩), .pointer (some ⟨w1.heap.size + 1, 0, none⟩), .slice a1 d.names.length p1, .pointer (some ⟨w1.heap.size + 1, 0, none⟩), .slice none 0 0] 101)) := (Below.refl _ _).alloc (Nat.le_refl _) _
        generalize wa.alloc (.cells #[.pointer (some ⟨w1.heap.size + 1, 0, none⟩), .pointer (some ⟨w1.heap.size + 1, 0, none⟩), .slice a1 d.names.length p1, .pointer (some ⟨w1.heap.size + 1, 0, none⟩), .slice none 0 0] 101) = W5 at *
        have Q5 := hide q5; have HB5 := hide hb5
        obtain ⟨j0, hj, hy0, hy1, hy2⟩ := infoFnD
        have HJJ := hide hj; have HY0 := hide hy0; have HY1 := hide hy1; have HY2 := hide hy2
        clear k1 k2 k2a q5 hb5 hj hy0 hy1 hy2
        go_loopw [82] (fun i wr => ∃ (k : Nat) (am : Option Addr) (cm : Nat) (Bs : List Nat), k ≤ d.moves.length ∧ i = .int .i64 k ∧ Hid (wr.rowIs wa.heap.size 101 5 (fiveV (.pointer (some ⟨w1.heap.size + 1, 0, none⟩)) (.pointer (some ⟨w1.heap.size + 1, 0, none⟩)) (.slice a1 d.names.length p1) (.pointer (some ⟨w1.heap.size + 1, 0, none⟩)) (.slice am k cm))) ∧ Hid (Mvs wa.heap.size wr (.slice am k cm) (d.moves.take k) Bs) ∧ Hid (Below wa.heap.size wa wr)) (fun i _ => d.moves.length - (intOf i).toNat)
        case atStart => exact ⟨0, none, 0, [], Nat.zero_le _, rfl, unhide Q5, Mvs.start _ _, unhide HB5⟩
        case round =>
          clear Q5 HB5
          obtain ⟨k, am, cm, Bs, hk, rfl, HR, HM, HBV⟩ := hrel
          have hvs : wa.heap.size < wr.heap.size := HR.out.lt
          have HBWV := hide ((unhide HBW).trans (HBV.out.mono (by omega)))
          by_cases hlt : k < d.moves.length
          rotate_left
          · obtain rfl : k = d.moves.length := by omega
            have hm := HM.out
            rw [List.take_of_length_le (Nat.le_refl _)] at hm
            have hokm : ∀ m, m ∈ d.moves → m.okM := fun m hm' => by
              obtain ⟨i, hi, rfl⟩ := List.getElem_of_mem hm'
              obtain ⟨_, _, _, _, _, _, h⟩ := unhide HMC i hi
              exact h
            have hfn : FnAt (New wa wr) wr (.slice am d.moves.length cm) d.moves := hm.fns (Nat.le_refl _) hokm
            have hmov := moved_any d.names d.moves (.pointer (some ⟨w1.heap.size + 1, 0, none⟩)) (.pointer (some ⟨w1.heap.size + 1, 0, none⟩)) (.slice a1 d.names.length p1) (.pointer (some ⟨w1.heap.size + 1, 0, none⟩)) (.slice am d.moves.length cm) (fun b => b < wr.heap.size) wr (fun _ h => h) ((unhide HD).ns.carry (fun b hb => (unhide HBWV).block b (unhide HP b hb)) (fun b hb => Nat.lt_of_lt_of_le (unhide HP b hb) (unhide HBWV).size)) (hfn.carry (fun _ _ => rfl) (fun b hb => hb.2)) d.moves.length (Nat.le_refl _) (by have := (unhide HMADE).le; omega) (by omega)
            rw [List.take_of_length_le (Nat.le_refl _)] at hmov
            have HMOV := hide hmov; have HFN := hide hfn
            have r0 := HR.out.cell (i := 0) (by omega); have r1 := HR.out.cell (i := 1) (by omega); have r2 := HR.out.cell (i := 2) (by omega); have r3 := HR.out.cell (i := 3) (by omega); have r4 := HR.out.cell (i := 4) (by omega)
            simp only [fiveV] at r0 r1 r2 r3 r4
            have q1 := (unhide Q1).of_block ((HBV.out.block w.heap.size (by omega)).trans (HB.out.block w.heap.size (by omega)))
            have k2 := q1.cell (i := 2) (by omega)
            simp only [row3] at k2
            have hbv := HBV.out.size
            clear hm hokm hfn hmov q1 hlt hk
            go_wp2_with fail
            refine (unhide HMOV).mono ?_
            intro e w7 hend
            have hb7 : Below wr.heap.size wr w7 := by
              unfold MvEnd at hend
              split at hend
              · exact hend.2
              · exact hend.choose_spec.2.below
            have hs7 := hb7.size
            have hr7 := HR.out.of_block (hb7.block wa.heap.size hvs)
            have s0 := hr7.cell (i := 0) (by omega); have s1 := hr7.cell (i := 1) (by omega); have s2 := hr7.cell (i := 2) (by omega); have s3 := hr7.cell (i := 3) (by omega); have s4 := hr7.cell (i := 4) (by omega)
            simp only [fiveV] at s0 s1 s2 s3 s4
            have q2 := (unhide Q2).of_block ((hb7.block (w.heap.size + 1) (by omega)).trans ((HBV.out.block (w.heap.size + 1) (by omega)).trans (HB.out.block (w.heap.size + 1) (by omega))))
            have y0 := q2.cell (i := 0) (by omega); have y1 := q2.cell (i := 1) (by omega); have y2 := q2.cell (i := 2) (by omega); have y3 := q2.cell (i := 3) (by omega); have y4 := q2.cell (i := 4) (by omega)
            have z := q2.frozen
            simp only [fiveV] at y0 y1 y2 y3 y4
            have HB7 := hide hb7
            have HBW7 := hide ((unhide HBWV).trans (hb7.mono (unhide HBWV).size))
            clear r0 r1 r2 r3 r4 k2 HMOV hb7 q2 hr7
            cases hf : mfold d.names d.moves with
            | none =>
              rw [hf] at hend
              obtain ⟨rfl, -⟩ := hend
              have HNO := hide (show ¬ DkOkP d from fun h => by have := h.move; rw [hf] at this; cases this)
              clear hf
              go_wp2_with fail
              try simp only [Exit.inBlock, Exit.then]
              refine bodyPost_ret (v := .tuple #[.agg #[.pointer (some ⟨w1.heap.size + 1, 0, none⟩), .pointer (some ⟨w1.heap.size + 1, 0, none⟩), .slice a1 d.names.length p1, .pointer (some ⟨w1.heap.size + 1, 0, none⟩), .slice am d.moves.length cm], .bool false]) (by simp [results, Tryz.results61, go_sem, y0, y1, y2, y3, y4]) rfl ?_
              exact VwEnd.no (unhide HNO) ((((((unhide HBW7).setCell (by simp) _).setCell (by simp) _).setCell (by simp) _).setCell (by simp) _).setCell (by simp) _)
            | some l =>
              rw [hf] at hend
              obtain ⟨v7, rfl, -⟩ := hend
              have HYES := hide (show DkOkP d from ⟨by omega, by omega, unhide HMADE, unhide HFALL, by rw [hf]; rfl⟩)
              clear hf
              go_wp2_with fail
              try simp only [Exit.inBlock, Exit.then]
              refine bodyPost_ret (v := .tuple #[.agg #[.pointer (some ⟨w1.heap.size + 1, 0, none⟩), .pointer (some ⟨w1.heap.size + 1, 0, none⟩), .slice a1 d.names.length p1, .pointer (some ⟨w1.heap.size + 1, 0, none⟩), .slice am d.moves.length cm], .bool true]) (by simp [results, Tryz.results61, go_sem, y0, y1, y2, y3, y4]) rfl ?_
              have hoth := set5_other w7 (w.heap.size + 1) (.pointer (some ⟨w1.heap.size + 1, 0, none⟩)) (.pointer (some ⟨w1.heap.size + 1, 0, none⟩)) (.slice a1 d.names.length p1) (.pointer (some ⟨w1.heap.size + 1, 0, none⟩)) (.slice am d.moves.length cm)
              have hsz9 := set5_size w7 (w.heap.size + 1) (.pointer (some ⟨w1.heap.size + 1, 0, none⟩)) (.pointer (some ⟨w1.heap.size + 1, 0, none⟩)) (.slice a1 d.names.length p1) (.pointer (some ⟨w1.heap.size + 1, 0, none⟩)) (.slice am d.moves.length cm)
              have hB1 : ∀ b, w1.heap.size ≤ b → b < wa.heap.size → w7.heap[b]? = wa.heap[b]? := fun b _ h2 => ((unhide HB7).block b (by omega)).trans (HBV.out.block b h2)
              refine ⟨true, _, _, _, _, _, _, _, _, _, rfl, by simp [unhide HYES], ((((((unhide HBW7).setCell (by simp) _).setCell (by simp) _).setCell (by simp) _).setCell (by simp) _).setCell (by simp) _), fun _ => ⟨w1.heap.size + 1, w1.heap.size, _, rfl, ⟨by omega, by rw [hsz9]; omega⟩, ⟨by omega, by rw [hsz9]; omega⟩, ?_, ?_, ?_⟩⟩
              · exact HT.out.of_block ((hoth _ (by omega)).trans (hB1 _ (by omega) (by omega)))
              · unfold NMap
                rw [List.length_map]
                exact ownsMap_block HO.out ((hoth _ (by omega)).trans (hB1 _ (by omega) (by omega)))
              · exact (unhide HFN).carry (fun b hb => (hoth b (by have := hb.1; omega)).trans ((unhide HB7).block b hb.2)) (fun b hb => ⟨by have := hb.1; omega, by rw [hsz9]; have := hb.2; omega⟩)
          · obtain ⟨b, o, rfl, hpb, hc0, hc1, hok⟩ := unhide HMC k hlt
            have e0 : wr.cell? ⟨b, o + k * 2, none⟩ = some (.bool d.moves[k].gone) := by rw [(unhide HBWV).cell (p := ⟨b, o + k * 2, none⟩) (unhide HP b hpb)]; exact hc0
            have e1 : wr.cell? ⟨b, o + k * 2 + 1, none⟩ = some (.string d.moves[k].name) := by rw [(unhide HBWV).cell (p := ⟨b, o + k * 2 + 1, none⟩) (unhide HP b hpb)]; exact hc1
            have r4 := HR.out.cell (i := 4) (by omega)
            simp only [fiveV] at r4
            have r4a : ∀ o', (wr.alloc o').cell? ⟨wa.heap.size, 4, none⟩ = some (.slice am k cm) := fun o' => by rw [World.cell?_of_block (w := wr) (Below.heap_alloc _ _ _ hvs)]; exact r4
            have htk : (d.moves.take k).length = k := by rw [List.length_take]; omega
            have HTK := hide htk
            have HTS := hide (List.take_succ_eq_append_getElem hlt)
            have hcall : ∀ o', Calls Tryz.prog 72 #[.agg #[.bool d.moves[k].gone, .string d.moves[k].name]] (wr.alloc o').drew fun e w6 => ∃ B6, e = .returned (mvF d.moves[k].gone B6) ∧ Hid (Mvs wa.heap.size w6 (.slice am k cm) (d.moves.take k) Bs) ∧ Hid (wa.heap.size + 1 ≤ B6 ∧ w6.heap[B6]? = some (.cells #[.bool d.moves[k].gone, .string d.moves[k].name] 88)) ∧ Hid (w6.rowIs wa.heap.size 101 5 (fiveV (.pointer (some ⟨w1.heap.size + 1, 0, none⟩)) (.pointer (some ⟨w1.heap.size + 1, 0, none⟩)) (.slice a1 d.names.length p1) (.pointer (some ⟨w1.heap.size + 1, 0, none⟩)) (.slice am k cm))) ∧ Hid (Below wa.heap.size wa w6) ∧ wa.heap.size < w6.heap.size ∧ w6.cell? ⟨wa.heap.size, 4, none⟩ = some (.slice am k cm) ∧ ∀ ob, (w6.alloc ob).cell? ⟨wa.heap.size, 4, none⟩ = some (.slice am k cm) := fun o' => by
              refine (movingOf_any d.moves[k] _).mono ?_
              rintro e w6 ⟨rfl, rfl⟩
              have hr6 : ((wr.alloc o').drew.alloc (.cells #[.bool d.moves[k].gone, .string d.moves[k].name] 88)).rowIs wa.heap.size 101 5 (fiveV (.pointer (some ⟨w1.heap.size + 1, 0, none⟩)) (.pointer (some ⟨w1.heap.size + 1, 0, none⟩)) (.slice a1 d.names.length p1) (.pointer (some ⟨w1.heap.size + 1, 0, none⟩)) (.slice am k cm)) := HR.out.of_block ((Below.heap_alloc _ _ _ (by show wa.heap.size < (wr.alloc o').heap.size; simp; omega)).trans (Below.heap_alloc wr o' _ hvs))
              have c6 := hr6.cell (i := 4) (by omega)
              simp only [fiveV] at c6
              refine ⟨_, rfl, (HM.out.alloc o').drew.alloc _, ⟨by show wa.heap.size + 1 ≤ (wr.alloc o').heap.size; simp; omega, heap_alloc_new _ _⟩, hr6, ((HBV.out.alloc HBV.out.size o').drew).alloc (by show wa.heap.size ≤ (wr.alloc o').heap.size; simp; omega) _, hr6.lt, c6, fun ob => ?_⟩
              rw [World.cell?_of_block (Below.heap_alloc _ _ _ hr6.lt)]; exact c6
            have HCALL := hide hcall
            have hmv : ∀ B, mvF d.moves[k].gone B = .func (.func (if d.moves[k].gone then 87 else 86)) #[] #[.pointer (some ⟨B, 0, none⟩)] := fun _ => rfl
            clear hcall hc0 hc1 hpb hok htk
            generalize d.moves[k] = m at *
            generalize (if m.gone then 87 else 86) = fnum at *
            obtain ⟨g, nm⟩ := m
            simp only at *
            simp only [hmv] at HCALL
            have HMV := hide hmv
            clear hmv
            go_wp2_with fail
            go_region_law (first
              | ((refine step_append_lies _ (by rfl) _ _ _ (by rfl) (wa.heap.size + 1) 118 j0 .nilFunc 1 8 Tryz.underlying97 (unhide HJJ) (unhide HY0) (unhide HY1) (unhide HY2) rfl (by decide) (.slice am k cm) k (fcells (d.moves.take k) Bs) (by rfl) (by have := HM6.out.own; rw [unhide HTK] at this; exact this.alloc _) ⟨w6.heap.size, 0, none⟩ 1 1 [.func (.func fnum) #[] #[.pointer (some ⟨B6, 0, none⟩)]] (by rfl) (by rfl) (cell_one w6 _ _) (fun u hu => by simp at hu; subst hu; rfl) (by decide) (by unfold maxLen; omega) (by omega) (by simp; omega) (w6.heap.size + 1) (by simp) ?_; intro g2 cap2 w8 hown8 hgrow8 hat8 hlt8; have hr8 := HR6.out.of_block ((hgrow8.block wa.heap.size (by simp; omega) (fun e => by have := (HM6.out.own.lt wa.heap.size e.symm).1; omega)).trans (Below.heap_alloc w6 _ _ hs6)); have u4 := hr8.cell (i := 4) (by omega); have uz4 := hr8.frozen 4; simp only [fiveV] at u4))
              | (rw [if_pos (by first | rfl | simp [Region.wanted])]; go_simp; refine (unhide HCALL _).mono ?_; rintro e w6 ⟨B6, rfl, HM6, HB6, HR6, HBL6, hs6, t4, t4a⟩))
            all_goals
              have hM8 : Mvs wa.heap.size w8 (.slice (some ⟨g2, 0, none⟩) (k + 1) cap2) (d.moves.take (k + 1)) (Bs ++ [B6]) := by
                rw [unhide HTS]
                refine (HM6.out.alloc _).snoc ⟨g, nm⟩ B6 HB6.out.1 ((Below.heap_alloc w6 _ _ (Array.getElem?_eq_some_iff.1 HB6.out.2).1).trans HB6.out.2) ?_ hgrow8
                rw [unhide HTK, unhide HMV]
                exact hown8
              have HM9 := hide (hM8.set 4 (.slice (some ⟨g2, 0, none⟩) (k + 1) cap2))
              have HR9 := hide (fiveV_set4 hr8 (.slice (some ⟨g2, 0, none⟩) (k + 1) cap2))
              have HBL9 := hide ((((HBL6.out.alloc HBL6.out.size _).grown hgrow8 (by simp; omega) (fun j e => by have := (HM6.out.own.lt j e).1; omega)).setCell (p := ⟨wa.heap.size, 4, none⟩) (Nat.le_refl _) (.slice (some ⟨g2, 0, none⟩) (k + 1) cap2)))
              clear hM8 hr8 u4 uz4 hown8 hgrow8 hat8 hlt8 HM6 HB6 HR6 HBL6 t4 t4a hs6
              go_wp2_with fail
              go_roundw
              case rel => exact ⟨k + 1, some ⟨g2, 0, none⟩, cap2, Bs ++ [B6], by omega, by go_num, unhide HR9, unhide HM9, unhide HBL9⟩
              case measure => simp [intOf]; omega
      · obtain ⟨b, o, rfl, hpb, hcell, hok⟩ := unhide HFC k hlt
        obtain ⟨e0, e1, e2⟩ := hcell.carry ((unhide HBW).block b (unhide HP b hpb))
        simp only at e0 e1 e2
        have t1 := HT.out.cell (i := 1) (by omega)
        simp only [rowO] at t1
        have t1a : ∀ o', (wr.alloc o').cell? ⟨w1.heap.size + 1, 1, none⟩ = some (.map (some w1.heap.size)) := fun o' => by rw [World.cell?_of_block (w := wr) (Below.heap_alloc _ _ _ (World.block_lt_of_cell? wr _ t1))]; exact t1
        have q2 := fun o' => (unhide Q2).of_block ((Below.heap_alloc wr o' (w.heap.size + 1) (by omega)).trans (HB.out.block (w.heap.size + 1) (by omega)))
        have y0 := fun o' => (q2 o').cell (i := 0) (by omega); have y1 := fun o' => (q2 o').cell (i := 1) (by omega); have y2 := fun o' => (q2 o').cell (i := 2) (by omega); have y3 := fun o' => (q2 o').cell (i := 3) (by omega); have y4 := fun o' => (q2 o').cell (i := 4) (by omega)
        have z := fun o' => (q2 o').frozen
        simp only [fiveV] at y0 y1 y2 y3 y4
        have hlook := fun o' => look_all (HO.out.alloc o') d.files[k].name hok.1
        have HFOK := hide (fun W => fileOk_any d.files[k] hok W)
        have HSTK := hide (unhide HST k hlt)
        have HHK := hide (unhide HHAS k hlt d.files[k].name)
        have HBA := hide (fun o' => (unhide HBW).alloc (unhide HBW).size o')
        have HNOF := hide (show ¬ (d.files[k].name ∉ (d.files.map Df.name).take k ∧ fOkB d.files[k] = true) → ¬ DkOkP d from fun hn h => hn (h.file k hlt))
        have HYESF := hide (show (d.files[k].name ∉ (d.files.map Df.name).take k ∧ fOkB d.files[k] = true) → ∀ j (h : j < d.files.length), j = k → d.files[j].name ∉ (d.files.map Df.name).take j ∧ fOkB d.files[j] = true from fun hh j h e => by subst e; exact hh)
        have hkey : keyOf Tryz.prog 9 (.string d.files[k].name) = some (nkey d.files[k].name) := keyOf_string_mk Tryz.underlying9 (by unfold maxLen; have := hok.1; omega)
        have HKEY := hide hkey
        clear hcell hpb hok hkey q2
        generalize d.files[k] = f at *
        obtain ⟨fn, fd, fk⟩ := f
        simp only at *
        obtain ⟨cc, hlk, -, -⟩ := hlook (.cells #[.string fn, .string fd, .int .i64 fk] 84)
        clear hlook
        cases ch : Maps.has (nmap (d.files.map Df.name) k) (nkey fn) with
        | true =>
          rw [ch] at hlk
          have HNO := hide (unhide HNOF (fun h => h.1 ((unhide HHK).1 ch)))
          clear ch
          go_wp2_with fail
          go_quiet (fail)
          go_wp2_with fail
          try simp only [Exit.inBlock, Exit.then]
          refine bodyPost_ret (v := .tuple #[zeroVw, .bool false]) (by unfold zeroVw; simp [results, Tryz.results61, go_sem, y0, y1, y2, y3, y4]) rfl ?_
          exact VwEnd.no (unhide HNO) (((((bdrewN (unhide HBA _) _).setCell (by simp) _).setCell (by simp) _).setCell (by simp) _).setCell (by simp) _ |>.setCell (by simp) _)
        | false =>
          rw [ch] at hlk
          have HNI := hide (show fn ∉ (d.files.map Df.name).take k from fun h => by have := (unhide HHK).2 h; rw [ch] at this; cases this)
          clear ch
          cases cf : fOkB ⟨fn, fd, fk⟩ with
          | false =>
            rw [cf] at HFOK
            have HNO := hide (unhide HNOF (fun h => by have := h.2; rw [cf] at this; cases this))
            clear cf
            go_wp2_with fail
            go_quiet (fail)
            go_wp2_with fail
            refine (unhide HFOK _).mono ?_
            rintro e w5 ⟨rfl, hb5⟩
            have HB5 := hide ((bdrewN (unhide HBA (.cells #[.string fn, .string fd, .int .i64 fk] 84)) nq).trans (hb5.mono (unhide HBA _).size))
            have q5 := (unhide Q2).of_block ((hb5.block (w.heap.size + 1) (by simp; omega)).trans ((Below.heap_alloc wr _ (w.heap.size + 1) (by omega)).trans (HB.out.block (w.heap.size + 1) (by omega))))
            have x0 := q5.cell (i := 0) (by omega); have x1 := q5.cell (i := 1) (by omega); have x2 := q5.cell (i := 2) (by omega); have x3 := q5.cell (i := 3) (by omega); have x4 := q5.cell (i := 4) (by omega)
            have zz := q5.frozen
            simp only [fiveV] at x0 x1 x2 x3 x4
            clear hb5 q5
            go_wp2_with fail
            try simp only [Exit.inBlock, Exit.then]
            refine bodyPost_ret (v := .tuple #[zeroVw, .bool false]) (by unfold zeroVw; simp [results, Tryz.results61, go_sem, x0, x1, x2, x3, x4]) rfl ?_
            exact VwEnd.no (unhide HNO) ((((((unhide HB5).setCell (by simp) _).setCell (by simp) _).setCell (by simp) _).setCell (by simp) _).setCell (by simp) _)
          | true =>
            rw [cf] at HFOK
            have HYE := hide (unhide HYESF ⟨unhide HNI, cf⟩)
            clear cf
            go_wp2_with fail
            go_quiet (fail)
            go_wp2_with fail
            refine (unhide HFOK _).mono ?_
            rintro e w5 ⟨rfl, hb5⟩
            have hs5 : wr.heap.size + 1 ≤ w5.heap.size := by have := hb5.size; simpa using this
            have r5 : w5.heap[w1.heap.size]? = wr.heap[w1.heap.size]? := (hb5.block w1.heap.size (by simp; omega)).trans (Below.heap_alloc wr _ w1.heap.size (by omega))
            have r6 : w5.heap[w1.heap.size + 1]? = wr.heap[w1.heap.size + 1]? := (hb5.block (w1.heap.size + 1) (by simp; omega)).trans (Below.heap_alloc wr _ (w1.heap.size + 1) (by omega))
            have hT5 := HT.out.of_block r6
            have s1 := hT5.cell (i := 1) (by omega)
            simp only [rowO] at s1
            have s2 : w5.cell? ⟨wr.heap.size, 0, none⟩ = some (.string fn) := by
              rw [hb5.cell (p := ⟨wr.heap.size, 0, none⟩) (by simp)]; simp [go_sem]
            obtain ⟨w6, hrun, hown6, hg6⟩ := (ownsMap_block (w' := w5.drew) HO.out r5).update keyLaw Tryz.underlying112 (by unfold maxLen; omega) (unhide HKEY) (plainElem_int Tryz.underlying3 (a := (k : Int)) (WalkArith.wf_i64 (by omega)))
            have hbw5 : Below w1.heap.size w1 w5 := HB.out.trans (((Below.refl _ _).alloc (by omega) _).trans ((bdrewN (Below.refl _ _) nq).trans (hb5.mono (by simp; omega))))
            have HB6 := hide (hbw5.drew.grown hg6 (by show w1.heap.size ≤ w5.heap.size; omega) (fun j hj => by cases hj; exact Nat.le_refl _))
            have HT6 := hide (hT5.of_block (hg6.block (w1.heap.size + 1) (by show w1.heap.size + 1 < w5.heap.size; omega) (by simp)))
            rw [← unhide HSTK] at hown6
            have HO6 := hide hown6
            clear hb5 hT5 hown6 hg6 hbw5 r5 r6
            go_wp2_with fail
            go_region
            go_wp2_with fail
            go_roundw
            case rel => exact ⟨k + 1, by omega, by go_num, unhide HO6, unhide HT6, fun j h hj => by
              by_cases e : j = k
              · exact unhide HYE j h e
              · exact HF.out j h (by omega), unhide HB6⟩
            case measure => simp [intOf]; omega
end Go.Proofs.YtgdiankfnemjjaaGreat

/- What a schema's parts are by the specification, and by the program's walk: they count alike. Plain functions on data; no program, no conditions. -/

namespace Go.Proofs.YtgdiankfnemjjaaGreat
open Go Go.RowKit




end Go.Proofs.YtgdiankfnemjjaaGreat

/- The text of a schema, as a plain function on data, and its length. No program, no conditions. -/

namespace Go.Proofs.YtgdiankfnemjjaaGreat
open Go Go.RowKit





end Go.Proofs.YtgdiankfnemjjaaGreat

/- Whether a tree is of a schema, as a function on data; trees all of whose parts are ok. Definitions and small laws; no program, no conditions. -/

namespace Go.Proofs.YtgdiankfnemjjaaGreat
open Go Go.RowKit


/-- The schema of a tree's kid. -/
def kidOf (k : Kd) (i : Nat) : Kd := if k.sort = 5 then k.kids.getD i (.mk 0 [] []) else k.kids.getD 0 (.mk 0 [] [])
mutual
/-- A tree that is ok is of a schema that is ok. -/
def hT : Tr → Kd → Bool
  | .mk s _ _ ns ks, k => decide (k.sort = s) && decide (k.names = ns) && hK ks k 0
def hK : List Tr → Kd → Nat → Bool
  | [], _, _ => true
  | t :: r, k, i => hT t (kidOf k i) && hK r k (i + 1)
end
theorem lst_loop (s : ByteArray) (n : Nat) : ∀ (i : Nat) (r : List UInt8), s.size - i = n → ByteArray.toList.loop s i r = r.reverse ++ s.data.toList.drop i := by
  induction n with
  | zero =>
    intro i r h
    unfold ByteArray.toList.loop
    rw [if_neg (by omega), List.drop_eq_nil_of_le (by simp only [Array.length_toList]; show s.size ≤ i; omega), List.append_nil]
  | succ n ih =>
    intro i r h
    unfold ByteArray.toList.loop
    have hi : i < s.size := by omega
    have e : s.get! i = s.data.toList[i]'(by simpa using hi) := by
      obtain ⟨d⟩ := s
      exact getElem!_pos d i hi
    have hdrop : s.data.toList.drop i = s.data.toList[i]'(by simpa using hi) :: s.data.toList.drop (i + 1) := List.drop_eq_getElem_cons (by simpa using hi)
    rw [if_pos hi, ih (i + 1) _ (by omega), hdrop, e, List.reverse_cons, List.append_assoc]
    rfl
theorem lst_data (s : ByteArray) : s.toList = s.data.toList := by
  have := lst_loop s s.size 0 [] (by omega)
  rw [List.drop_zero] at this
  exact this
theorem lst_beq (a b : ByteArray) : (a.toList == b.toList) = decide (a = b) := by
  rw [lst_data, lst_data, Bool.eq_iff_iff]
  simp only [beq_iff_eq, decide_eq_true_eq]
  constructor
  · intro h; exact ByteArray.ext (Array.toList_inj.1 h)
  · intro h; rw [h]
end Go.Proofs.YtgdiankfnemjjaaGreat
