/- Both DiskLooks, and the specification's DiskNames: what they answer, and that they turn nothing that was there. No conditions. -/
import Derived.Test.YtmaojhacdelleaaPart13
import Derived.Test.YtmaojhacdelleaaPart05
import Derived.Test.YtmaojhacdelleaaRows
import Derived.Test.YtmaojhacdelleaaPart02
import Derived.Test.YtmaojhacdelleaaPart03
namespace Go.Proofs.Ytmaojhacdelleaa
open Go Go.RowKit Go.WideMaps Go.Maps

/-- The names that are there. -/
noncomputable def namesD (d : Dk) : List ByteArray := open Classical in if DkOkS d then afterD d.names d.moves else []
theorem namesD_ok {d : Dk} (h : DkOkS d) : namesD d = afterD d.names d.moves := if_pos h
theorem namesD_no {d : Dk} (h : ¬ DkOkS d) : namesD d = [] := if_neg h
theorem dk_nodup {d : Dk} (h : DkOkS d) : (madeD d.names d.moves).Nodup ∧ d.files.map Df.name = madeD d.names d.moves ∧ mfold d.names d.moves = some (afterD d.names d.moves) := by
  have hp := (dkOk_iff d).1 h
  have heq := named_eq hp.made.named
  have hnd : (madeD d.names d.moves).Nodup := by
    rw [← heq]
    refine nodup_take fun i hi => ?_
    rw [List.length_map] at hi
    rw [List.getElem_map]
    exact (hp.file i hi).1
  refine ⟨hnd, heq, ?_⟩
  have := mfold_after hnd (fun i hi hg => hasB_iff.1 (h.move i hi hg)) d.moves.length (Nat.le_refl _)
  rwa [List.take_of_length_le (Nat.le_refl _)] at this
/-- A name that is there is that of a file. -/
theorem names_file {d : Dk} {x : ByteArray} (hx : x ∈ namesD d) : ∃ i, ∃ hi : i < d.files.length, DkOkS d ∧ d.files[i].name = x ∧ findF d.files x = i := by
  by_cases h : DkOkS d
  · rw [namesD_ok h] at hx
    obtain ⟨hnd, heq, -⟩ := dk_nodup h
    have := (after_nodup hnd d.moves.length (Nat.le_refl _)).2 x (by rw [List.take_of_length_le (Nat.le_refl _)]; exact hx)
    rw [List.take_of_length_le (Nat.le_refl _), ← heq] at this
    obtain ⟨i, hi, e⟩ := List.getElem_of_mem this
    rw [List.length_map] at hi
    rw [List.getElem_map] at e
    refine ⟨i, hi, h, e, ?_⟩
    have := (h.file i hi (by rw [h.len]; exact hi)).find
    rw [← e]; exact this
  · rw [namesD_no h] at hx; cases hx
/-- What DiskLook gives. -/
noncomputable def lookD (d : Dk) (x : ByteArray) : ByteArray × Bool := open Classical in if x ∈ namesD d then ((d.files.getD (findF d.files x).toNat ⟨ByteArray.empty, ByteArray.empty, 0⟩).data, true) else (ByteArray.empty, false)
theorem lookD_no {d : Dk} {x : ByteArray} (h : x ∉ namesD d) : lookD d x = (ByteArray.empty, false) := if_neg h
theorem lookD_yes {d : Dk} {x : ByteArray} (h : x ∈ namesD d) (i : Nat) (hi : i < d.files.length) (e : findF d.files x = i) : lookD d x = (d.files[i].data, true) := by
  unfold lookD
  rw [if_pos h, e]
  simp [hi]

set_option maxRecDepth 100000 in
set_option maxHeartbeats 800000 in
theorem specDiskNames_any (d : Dk) (P : Nat → Prop) (c : C3) (w : World) (hP : ∀ b, P b → b < w.heap.size) (hd : DkAt P w d c) :
    Calls Try.prog 38 #[.agg #[c.c0, c.c1, c.c2]] w fun e w' => ∃ v, e = .returned v ∧ NmOwn w w' v (namesD d).length (namesD d) := by
  obtain ⟨c0, c1, c2⟩ := c
  have hbx : ∀ o, Below w.heap.size w (w.alloc o) := fun o => (Below.refl _ _).alloc (Nat.le_refl _) o
  have HOK := hide (fun o => specDiskOk_any d P ⟨c0, c1, c2⟩ (w.alloc o) (fun b hb => Nat.lt_of_lt_of_le (hP b hb) (hbx o).size) (hd.carry (fun b hb => (hbx o).block b (hP b hb)) (fun _ h => h)))
  have HAF := hide (fun (h : DkOkS d) (W : World) (hW : Below w.heap.size w W) => l41After_any d P ⟨c0, c1, c2⟩ W (fun b hb => Nat.lt_of_lt_of_le (hP b hb) hW.size) (hd.carry (fun b hb => hW.block b (hP b hb)) (fun _ h => h)) (by have := h.l2; omega) (by have := h.l3; omega) d.moves.length (Nat.le_refl _))
  obtain ⟨a2, p2, g2, -, -⟩ := hd.ms.open
  simp only at g2
  subst g2
  have HROW := hide (row3_alloc w c0 c1 (.slice a2 d.moves.length p2) 34)
  have HBX := hide hbx
  clear hd hP hbx
  go_enter Try.func38, Try.ntmps38
  go_wp2_with fail
  refine (unhide HOK _).mono ?_
  rintro e w1 ⟨⟨r, rfl, hr⟩, hb1⟩
  have HB1 := hide ((unhide HBX _).trans (hb1.mono (unhide HBX _).size))
  have q1 := (unhide HROW).of_block (hb1.block w.heap.size (by simp))
  have k0 := q1.cell (i := 0) (by omega); have k1 := q1.cell (i := 1) (by omega); have k2 := q1.cell (i := 2) (by omega)
  simp only [row3] at k0 k1 k2
  clear hb1 q1 HOK
  cases r with
  | false =>
    have HNO := hide (show ¬ DkOkS d from fun h => by have := hr.2 h; cases this)
    have HEMP := hide (empty_row (base := w.heap.size) (size := 1) (World.rowIs_alloc w1 #[] 9 (fun _ => .bool false) (fun i hi => by simp at hi)) (unhide HB1).size)
    clear hr
    go_wp2_with fail
    go_ret
    refine ⟨_, rfl, ?_⟩
    rw [namesD_no (unhide HNO)]
    exact ⟨unhide HEMP, rfl, fun x hx => (by cases hx), (unhide HB1).alloc (unhide HB1).size _⟩
  | true =>
    have HYES := hide (hr.1 rfl)
    clear hr
    have HAF1 := hide (unhide HAF (unhide HYES) w1 (unhide HB1))
    go_wp2_with fail
    refine (unhide HAF1).mono ?_
    rintro e w2 ⟨a, n, cap, rfl, HN⟩
    go_wp2_with fail
    go_ret
    refine ⟨_, rfl, ?_⟩
    have hn := HN.out
    rw [List.take_of_length_le (Nat.le_refl _), ← namesD_ok (unhide HYES)] at hn
    refine ⟨ownsRow_base (by rw [← hn.len]; exact hn.own) (unhide HB1).size, rfl, hn.sz, (unhide HB1).trans (hn.below.mono (unhide HB1).size)⟩

set_option maxRecDepth 100000 in
theorem runField1 (a b : ByteArray) (k : Int) (w : World) : (Instr.field 75 (.agg #[.string a, .string b, .int .i64 k]) 1).run Try.prog w = .ok (.string b) w := by rfl

theorem strClone_any (s : ByteArray) (w : World) (hs : s.size ≤ 281474976710656) :
    Calls Try.prog 59 #[.string s] w fun e w' => e = .returned (.string s) ∧ Below w.heap.size w w' := by
  have HC := hide (Try.stringslite_Clone s w hs)
  go_enter Try.func59, Try.ntmps59
  go_wp2_with fail
  refine (unhide HC).mono ?_
  rintro e w1 ⟨rfl, hb⟩
  go_wp2_with fail
  go_ret
  exact ⟨rfl, hb⟩

end Go.Proofs.Ytmaojhacdelleaa

/- What a raw write does to a disk, as plain data. Definitions and small laws, no program. No conditions. -/

namespace Go.Proofs.Ytmaojhacdelleaa
open Go Go.RowKit

def noF : Df := ⟨ByteArray.empty, ByteArray.empty, 0⟩
/-- The file of a name. -/
def fileD (d : Dk) (x : ByteArray) : Df := d.files.getD (findF d.files x).toNat noF
/-- A disk on which just some names are left. -/
def keepD (d : Dk) (ns : List ByteArray) : Dk := ⟨ns.map (fileD d), ns, []⟩
/-- A disk with another file at the place of one. -/
def putD (d : Dk) (x : ByteArray) (f : Df) : Dk := ⟨d.files.set (findF d.files x).toNat f, d.names, d.moves⟩
/-- What a write does, and its code. -/
noncomputable def doD (d : Dk) (k : Int) (x y : ByteArray) : Dk × Int := open Classical in
  if ¬ DkOkS d then (⟨[], [], []⟩, 1)
  else if k = 1 then
    (if nameOkB x = false ∨ 0 ≤ findF d.files x then (d, 3)
     else if 64 ≤ d.files.length ∨ 128 ≤ d.moves.length then (d, 4)
     else (⟨d.files ++ [⟨x, ByteArray.empty, 0⟩], d.names, d.moves ++ [⟨false, x⟩]⟩, 0))
  else if k = 5 then (keepD d (namesD d), 0)
  else if ¬ (1 ≤ k ∧ k ≤ 5) then (d, 5)
  else if x ∉ namesD d then (d, 2)
  else if k = 2 then (if 20000 - (fileD d x).data.size < (y.size : Int) then (d, 4) else (putD d x ⟨(fileD d x).name, (fileD d x).data ++ y, (fileD d x).kept⟩, 0))
  else if k = 3 then (putD d x ⟨(fileD d x).name, (fileD d x).data, (fileD d x).data.size⟩, 0)
  else if 128 ≤ d.moves.length then (d, 4)
  else (⟨d.files, d.names, d.moves ++ [⟨true, x⟩]⟩, 0)
theorem doD_bad {d : Dk} {k : Int} {x y : ByteArray} (h : ¬ DkOkS d) : doD d k x y = (⟨[], [], []⟩, 1) := by unfold doD; rw [if_pos h]
theorem doD_taken {d : Dk} {x y : ByteArray} (h : DkOkS d) (h1 : nameOkB x = false ∨ 0 ≤ findF d.files x) : doD d 1 x y = (d, 3) := by
  unfold doD; rw [if_neg (fun hn => hn h), if_pos rfl, if_pos h1]
theorem doD_full {d : Dk} {x y : ByteArray} (h : DkOkS d) (h1 : ¬ (nameOkB x = false ∨ 0 ≤ findF d.files x)) (h2 : 64 ≤ d.files.length ∨ 128 ≤ d.moves.length) : doD d 1 x y = (d, 4) := by
  unfold doD; rw [if_neg (fun hn => hn h), if_pos rfl, if_neg h1, if_pos h2]
theorem doD_make {d : Dk} {x y : ByteArray} (h : DkOkS d) (h1 : ¬ (nameOkB x = false ∨ 0 ≤ findF d.files x)) (h2 : ¬ (64 ≤ d.files.length ∨ 128 ≤ d.moves.length)) : doD d 1 x y = (⟨d.files ++ [⟨x, ByteArray.empty, 0⟩], d.names, d.moves ++ [⟨false, x⟩]⟩, 0) := by
  unfold doD; rw [if_neg (fun hn => hn h), if_pos rfl, if_neg h1, if_neg h2]
theorem doD_dirs {d : Dk} {x y : ByteArray} (h : DkOkS d) : doD d 5 x y = (keepD d (namesD d), 0) := by
  unfold doD; rw [if_neg (fun hn => hn h), if_neg (by decide), if_pos rfl]
theorem doD_kind {d : Dk} {k : Int} {x y : ByteArray} (h : DkOkS d) (h1 : ¬ (1 ≤ k ∧ k ≤ 5)) : doD d k x y = (d, 5) := by
  unfold doD; rw [if_neg (fun hn => hn h), if_neg (by omega), if_neg (by omega), if_pos h1]
theorem doD_nofile {d : Dk} {k : Int} {x y : ByteArray} (h : DkOkS d) (h1 : 2 ≤ k ∧ k ≤ 4) (h2 : x ∉ namesD d) : doD d k x y = (d, 2) := by
  unfold doD; rw [if_neg (fun hn => hn h), if_neg (by omega), if_neg (by omega), if_neg (by omega), if_pos h2]
theorem doD_addfull {d : Dk} {x y : ByteArray} (h : DkOkS d) (h2 : x ∈ namesD d) (h3 : 20000 - (fileD d x).data.size < (y.size : Int)) : doD d 2 x y = (d, 4) := by
  unfold doD; rw [if_neg (fun hn => hn h), if_neg (by decide), if_neg (by decide), if_neg (by decide), if_neg (fun hn => hn h2), if_pos rfl, if_pos h3]
theorem doD_add {d : Dk} {x y : ByteArray} (h : DkOkS d) (h2 : x ∈ namesD d) (h3 : ¬ (20000 - (fileD d x).data.size < (y.size : Int))) : doD d 2 x y = (putD d x ⟨(fileD d x).name, (fileD d x).data ++ y, (fileD d x).kept⟩, 0) := by
  unfold doD; rw [if_neg (fun hn => hn h), if_neg (by decide), if_neg (by decide), if_neg (by decide), if_neg (fun hn => hn h2), if_pos rfl, if_neg h3]
theorem doD_sync {d : Dk} {x y : ByteArray} (h : DkOkS d) (h2 : x ∈ namesD d) : doD d 3 x y = (putD d x ⟨(fileD d x).name, (fileD d x).data, (fileD d x).data.size⟩, 0) := by
  unfold doD; rw [if_neg (fun hn => hn h), if_neg (by decide), if_neg (by decide), if_neg (by decide), if_neg (fun hn => hn h2), if_neg (by decide), if_pos rfl]
theorem doD_gonefull {d : Dk} {x y : ByteArray} (h : DkOkS d) (h2 : x ∈ namesD d) (h3 : 128 ≤ d.moves.length) : doD d 4 x y = (d, 4) := by
  unfold doD; rw [if_neg (fun hn => hn h), if_neg (by decide), if_neg (by decide), if_neg (by decide), if_neg (fun hn => hn h2), if_neg (by decide), if_neg (by decide), if_pos h3]
theorem doD_gone {d : Dk} {x y : ByteArray} (h : DkOkS d) (h2 : x ∈ namesD d) (h3 : ¬ 128 ≤ d.moves.length) : doD d 4 x y = (⟨d.files, d.names, d.moves ++ [⟨true, x⟩]⟩, 0) := by
  unfold doD; rw [if_neg (fun hn => hn h), if_neg (by decide), if_neg (by decide), if_neg (by decide), if_neg (fun hn => hn h2), if_neg (by decide), if_neg (by decide), if_neg h3]
theorem fileD_at {d : Dk} {x : ByteArray} {i : Nat} (hi : i < d.files.length) (h : findF d.files x = i) : fileD d x = d.files[i] := by
  unfold fileD; rw [h]; simp [hi]
theorem putD_at {d : Dk} {x : ByteArray} {i : Nat} (h : findF d.files x = i) (f : Df) : putD d x f = ⟨d.files.set i f, d.names, d.moves⟩ := by
  unfold putD; rw [h]; simp
end Go.Proofs.Ytmaojhacdelleaa

/- The walks of the library's strings.Clone and of the program's copyNames: the same bytes; the same names, in a row of the call's own. Of what was there nothing has turned. The strings have at most 2^47 bytes. -/

namespace Go.Proofs.Ytmaojhacdelleaa
open Go Go.RowKit

set_option maxHeartbeats 400000 in
theorem clone_any (s : ByteArray) (w : World) (hlim : s.size ≤ 140737488355328) :
    Calls Try.prog 59 #[.string s] w fun e w' => e = .returned (.string s) ∧ Below w.heap.size w w' := by
  have hc : ∀ W, Calls Try.prog 95 #[.string s] W fun e w' => e = .returned (.string s) ∧ Below W.heap.size W w' := fun W => Try.stringslite_Clone s W (by omega)
  have HC := hide hc; clear hc
  go_enter Try.func59, Try.ntmps59
  go_wp2_with (go_at_call 95; refine (unhide HC _).mono ?_; rintro e w' ⟨rfl, hb⟩)
  go_ret
  exact ⟨rfl, hb⟩

theorem infoStrC : (Try.prog.info? 9).map (fun i => (i.zero, i.size, i.bytes)) = some (some (.string ByteArray.empty), 1, 16) := by kernel_rfl

set_option maxRecDepth 100000 in
set_option maxHeartbeats 800000 in
theorem copyNames_any (v : Value) (ss : List ByteArray) (w : World) {P : Nat → Prop} (hP : ∀ b, P b → b < w.heap.size) (hv : StrsAt P w v ss) (hl : ss.length ≤ 1048576) (hsz : ∀ x, x ∈ ss → x.size ≤ 1099511627776) :
    Calls Try.prog 82 #[v] w fun e w' => ∃ v' F, e = .returned v' ∧ StrsOwn w' v' ss F ∧ F.Nodup ∧ (∀ b, b ∈ F → w.heap.size ≤ b ∧ b < w'.heap.size) ∧ Below w.heap.size w w' := by
  obtain ⟨a, cap, rfl, hlen, hc⟩ := hv
  obtain ⟨i0, hi, hz0, hz1, hz2⟩ := info_parts infoStrC
  have HC := hide hc; have HP := hide hP; have HSZ := hide hsz
  have HII := hide hi; have HZ0 := hide hz0; have HZ1 := hide hz1; have HZ2 := hide hz2
  clear hc hP hsz hi hz0 hz1 hz2
  go_enter Try.func82, Try.ntmps82
  go_wp2_with fail
  go_loopw [3, 8] (fun s i wr => ∃ (k : Nat) (a' : Option Addr) (cap' : Nat), k ≤ ss.length ∧ i = .int .i64 k ∧ s = .slice a' k cap' ∧ Hid (wr.ownsRow w.heap.size 9 1 (.slice a' k cap') k ((ss.take k).map Value.string)) ∧ Hid (Below w.heap.size w wr)) (fun _ i _ => ss.length - (intOf i).toNat)
  case atStart => exact ⟨0, none, 0, Nat.zero_le _, rfl, rfl, World.ownsRow_nil _ _ _ _, Below.refl _ _⟩
  case round =>
    obtain ⟨k, a', cap', hk, rfl, rfl, HOWN, HB⟩ := hrel
    by_cases hlt : k < ss.length
    · obtain ⟨b, o, rfl, hpb, hcell, -⟩ := unhide HC k hlt
      have e1 : wr.cell? ⟨b, o + k, none⟩ = some (.string ss[k]) := by rw [HB.out.cell (unhide HP b hpb)]; exact hcell
      have hcl := clone_any ss[k] wr (by have := unhide HSZ _ (List.getElem_mem hlt); omega)
      have htk : (ss.take (k + 1)).map Value.string = (ss.take k).map Value.string ++ [.string ss[k]] := by
        rw [List.take_succ_eq_append_getElem hlt, List.map_append]; rfl
      generalize ss[k] = tk at *
      have HCL := hide hcl; have HTK := hide htk
      clear hcl htk hcell hpb
      go_wp2_with fail
      refine (unhide HCL).mono ?_
      rintro e w2 ⟨rfl, hb2⟩
      have hs2 := hb2.size
      have hsw := HB.out.size
      have hown2 : w2.ownsRow w.heap.size 9 1 (.slice a' k cap') k ((ss.take k).map Value.string) :=
        HOWN.out.kept (row := none) ⟨hb2.os, hb2.tape, hb2.output, hb2.size, fun i hi _ => hb2.block i hi⟩ (by
          rcases h : (Value.slice a' k cap').ownBlock with _ | g
          · exact Or.inl rfl
          · exact Or.inr (by simp))
      have HOWN2 := hide hown2; have HB2 := hide (HB.out.trans (hb2.mono hsw))
      clear hown2 hb2 HCL e1
      go_wp2_with (at_builtin; refine append_row _ rfl _ _ 23 rfl w.heap.size 9 i0 (.string ByteArray.empty) 1 16 Try.underlying23 (unhide HII) (unhide HZ0) (unhide HZ1) (unhide HZ2) rfl (by decide) (.slice a' k cap') k ((ss.take k).map Value.string) rfl ((unhide HOWN2).alloc _) ⟨w2.heap.size, 0, none⟩ 1 1 [.string tk] rfl rfl (cell_one _ _ _) (fun u hu => by simp at hu; subst hu; rfl) (by decide) (by unfold maxLen; omega) (by omega) (by simp; omega) ?_; intro v' w4 hown4 hgrow4 hv4)
      have hlt4 := (unhide HOWN2).lt
      obtain ⟨g', cap'', hv''⟩ : ∃ g' cap'', v' = .slice (some ⟨g', 0, none⟩) (k + 1) cap'' := by
        rcases hown4.2 with ⟨_, h⟩ | ⟨g', cap'', _, h, _⟩
        · omega
        · exact ⟨g', cap'', h⟩
      subst hv''
      have hb4 : Below w.heap.size w2 w4 := (((Below.refl _ w2).alloc (by omega) _)).trans ((Below.refl _ _).grown hgrow4 (by simp; omega) (fun k e => (hlt4 k e).1))
      have HOWN4 : Hid (w4.ownsRow w.heap.size 9 1 (.slice (some ⟨g', 0, none⟩) (k + 1) cap'') (k + 1) ((ss.take (k + 1)).map Value.string)) := by
        show World.ownsRow _ _ _ _ _ _ _
        rw [unhide HTK]; exact hown4
      have HB4 := hide ((unhide HB2).trans hb4)
      clear hown4 hgrow4 hv4 hb4 hlt4
      go_wp2_with fail
      go_roundw
      case rel => exact ⟨k + 1, some ⟨g', 0, none⟩, cap'', by omega, by go_num, rfl, HOWN4, unhide HB4⟩
      case measure => simp [intOf]; omega
    · obtain rfl : k = ss.length := by omega
      have h1 := HOWN.out
      rw [List.take_length] at h1
      obtain ⟨F, hF, hnd, hlt', -⟩ := strsOwn_of_row h1 (fun x hx => by have := unhide HSZ x hx; omega)
      have HF := hide hF; have HL := hide hlt'
      clear h1 hF hlt'
      go_wp2_with fail
      go_ret
      exact ⟨_, F, rfl, unhide HF, hnd, unhide HL, HB.out⟩

end Go.Proofs.Ytmaojhacdelleaa

/- The program's DiskNames: what it answers, in memory of its own; that it turns nothing that was there. No conditions. -/

namespace Go.Proofs.Ytmaojhacdelleaa
open Go Go.RowKit Go.WideMaps Go.Maps

theorem after_len : ∀ (ms : List Dm) (ns : List ByteArray), (afterD ns ms).length ≤ ns.length + ms.length
  | [], ns => by simp [afterD]
  | m :: r, ns => by
    have h1 : afterD ns (m :: r) = afterD (stepD ns m) r := rfl
    have h2 := after_len r (stepD ns m)
    have h3 : (stepD ns m).length ≤ ns.length + 1 := by
      unfold stepD
      cases m.gone with
      | true => have := without_len ns m.name; simp only [if_true]; omega
      | false => simp
    rw [h1, List.length_cons]; omega
theorem namesD_small {d : Dk} : (namesD d).length ≤ 1000 ∧ ∀ x, x ∈ namesD d → x.size ≤ 8 := by
  by_cases h : DkOkS d
  · refine ⟨?_, fun x hx => ?_⟩
    · rw [namesD_ok h]
      have h2 := after_len d.moves d.names
      have := h.l2; have := h.l3; omega
    · obtain ⟨i, hi, -, e, -⟩ := names_file hx
      have hn := (h.file i hi (by rw [h.len]; exact hi)).name
      rw [e] at hn
      refine Classical.byContradiction fun hno => ?_
      rw [nameOk_len (Or.inr (by omega))] at hn
      cases hn
  · rw [namesD_no h]; exact ⟨by simp, fun x hx => by cases hx⟩

end Go.Proofs.Ytmaojhacdelleaa
