/- The walk of the specification's reader of schemas, further: maybes and lists. For texts of at most 2^20 bytes. -/
import Derived.Test.YthkjhmcbmakkdaaDoorPart18
import Derived.Test.YthkjhmcbmakkdaaDoorPart15
import Derived.Test.YthkjhmcbmakkdaaDoorPart16
import Derived.Test.YthkjhmcbmakkdaaDoorPart00
import Derived.Deep.RegionLaw
namespace Go.Proofs.YthkjhmcbmakkdaaDoor
open Go Go.RowKit

theorem OwnD.but {W W' : World} {R : Nat} {k : Kd} {c : C3} {F : List Nat} (h : OwnD W k c F) (hb : But R W W') (hF : ∀ b, b ∈ F → R < b ∧ b < W.heap.size) : OwnD W' k c F :=
  OwnD.carry k c F (fun b hb' => hb.at (hF b hb').2 (by have := (hF b hb').1; omega)) h

theorem set3_alloc (W : World) (B : Nat) (c : C3) (o : Obj) (h : B < W.heap.size) : set3 (W.alloc o) B c = (set3 W B c).alloc o := by
  unfold set3
  rw [World.setCell_alloc_past o B 0 c.c0 h, World.setCell_alloc_past o B 1 c.c1 (by simpa [World.setCell] using h), World.setCell_alloc_past o B 2 c.c2 (by simpa [World.setCell] using h)]

theorem kout_maybe {d : Nat} {s : ByteArray} {at' : Nat} {k : Kd} {a2 : Nat} {bad2 : Bool} (hhd : (lf s at').head? = some 63) (h : KOut d s (lf s (at' + 1)) k a2 bad2) : KOut (d + 1) s (lf s at') (.mk 6 [] [k]) a2 bad2 := by
  have hk := krd_maybe d hhd
  rw [← lf_next] at hk
  rcases h with ⟨h1, h2, h3⟩ | ⟨h1, h2, h3⟩
  · exact Or.inl ⟨h1, by rw [hk, h2], h3⟩
  · exact Or.inr ⟨h1, by rw [hk, h2], by omega⟩

set_option maxRecDepth 100000 in
set_option maxHeartbeats 1600000 in
theorem l2Kind_maybe (d : Nat) (IH : KRSaid d) (w : World) (R : Nat) (s : ByteArray) (at' : Nat) (hs : s.size ≤ 1048576) (h : Rdr w R s at' false) (ha : at' ≤ s.size) (hd : d + 1 ≤ 6) (ech : bv s at' = 63) :
    KREnds (d + 1) w R s at' (6 - d) := by
  have hdd : decide ((6 : Int) < 6 - (d : Int)) = false := by simp; omega
  have hd1 : (6 : Int) - (d : Int) + 1 = 7 - d := by omega
  have hlt := h.lt
  have hkw := Kw.start h
  obtain ⟨c0, c1, c2, f1, f2⟩ := h.cells
  have hlk := look_any _ R s at' false hkw.rdr
  rw [ech] at hlk
  have hhd : (lf s at').head? = some 63 := (bv_head s at' 63 (by decide)).2 ech
  have hroom : at' + 1 ≤ s.size := by
    have := lf_len s at'
    cases hl : lf s at' with
    | nil => rw [hl] at hhd; simp at hhd
    | cons c r => rw [hl] at this; simp at this; omega
  have heat := fun W (hW : Rdr W R s at' false) => eat_yes W R s (w1 63) at' false hs hW (by omega) (by decide) (by decide) (by rw [pre_one, hhd]; simp)
  have hsub := fun W (hW : Rdr W R s (at' + 1) false) => IH W R s (at' + 1) hs hW hroom (by omega)
  have HLK := hide hlk; have HKW := hide hkw; have HEA := hide heat; have HSUB := hide hsub
  clear hlk hkw h heat hsub
  unfold KREnds
  go_enter Tryd.func35, Tryd.ntmps35
  go_wp2_with (first
    | (go_at_call 56; refine (unhide HLK).mono ?_; rintro e w1 ⟨rfl, m, rfl⟩)
    | (go_at_call 57; refine (unhide HEA _ ((unhide HKW).drewN _).rdr).mono ?_; rintro e w2 ⟨rfl, hr2, hb2⟩; have HK2 := hide (((unhide HKW).drewN _).next hb2 hr2); clear hr2 hb2 HEA)
    | (go_at_call 35
       refine (unhide HSUB _ (unhide HK2).rdr).mono ?_
       rintro e w3 ⟨k, ⟨x0, x1, x2⟩, F, a3, bad3, rfl, ho3, hnd3, hF3, hr3, hout3, hb3⟩
       have HK3 := hide ((unhide HK2).next hb3 hr3)
       have HO3 := hide ho3; have HF3 := hide hF3; have HOUT3 := hide hout3
       obtain ⟨y0, y1, y2, z0, z1, z2⟩ := (unhide HK3).cells
       obtain ⟨p0, -, F1, F2, -, ⟨ap, cp, p1, -⟩, aq, cq, p2, -⟩ := ho3.open
       simp only at p0 p1 p2
       subst p0 p1 p2
       have hs2 := (unhide HK2).but.size
       have hl3 := (unhide HK3).box.lt
       clear ho3 hF3 hr3 hout3 hb3 HSUB))
  have hown := OwnD.single (s := 6) (t := 26) ⟨by decide, by decide⟩ (unhide HO3) (fun b hb => (unhide HF3 b hb).2)
  have hkw4 := (unhide HK3).next (But.alloc R w3 (.cells #[.int .i64 k.sort, .slice ap k.names.length cp, .slice aq k.kids.length cq] 26)) ((unhide HK3).rdr.alloc _)
  have hb2 := (unhide HK2).box.lt
  obtain ⟨q1, q2, q3, q4⟩ := hkw4.fin hown (fun b hb => by
    rw [World.size_alloc]
    rcases List.mem_cons.1 hb with rfl | hb
    · omega
    · have := unhide HF3 b hb; omega)
  rw [set3_alloc _ _ _ _ hl3] at q1 q2 q3 q4
  refine bodyPost_ret (v := .agg #[.int .i64 6, .slice none 0 0, .slice (some ⟨w3.heap.size, 0, none⟩) 1 1]) (by simp [results, Tryd.results35, go_sem, y0, y1, y2, hl3]) rfl (KREnd.mk ⟨.mk 6 [] [k], ⟨_, _, _⟩, w3.heap.size :: F, a3, bad3, rfl, q1, List.nodup_cons.2 ⟨fun hm => by have := (unhide HF3 _ hm).2; omega, hnd3⟩, q2, q3, kout_maybe hhd (unhide HOUT3), q4⟩)

theorem kout_list {d : Nat} {s : ByteArray} {at' : Nat} {k : Kd} {a2 : Nat} {bad2 : Bool} (hhd : (lf s at').head? = some 91) (h : KOut d s (lf s (at' + 1)) k a2 bad2) :
    (pre (w1 93) s a2 = true ∧ KOut (d + 1) s (lf s at') (.mk 4 [] [k]) (a2 + 1) bad2) ∨ (pre (w1 93) s a2 = false ∧ KOut (d + 1) s (lf s at') (.mk 4 [] [k]) a2 true) := by
  have hk := krd_list d hhd
  rw [← lf_next] at hk
  rw [pre_one]
  rcases h with ⟨h1, h2, h3⟩ | ⟨h1, h2, h3⟩
  · rw [h2] at hk
    simp only at hk
    by_cases h93 : (lf s a2).head? = some 93
    · rw [if_pos h93] at hk
      refine Or.inl ⟨decide_eq_true h93, Or.inl ⟨h1, by rw [hk, lf_next], ?_⟩⟩
      have := lf_len s a2
      cases hl : lf s a2 with
      | nil => rw [hl] at h93; simp at h93
      | cons c r => rw [hl] at this; simp at this; omega
    · rw [if_neg h93] at hk
      exact Or.inr ⟨decide_eq_false h93, Or.inr ⟨rfl, hk, by omega⟩⟩
  · rw [h2] at hk
    simp only at hk
    by_cases h93 : (lf s a2).head? = some 93
    · exact Or.inl ⟨decide_eq_true h93, Or.inr ⟨h1, hk, by omega⟩⟩
    · exact Or.inr ⟨decide_eq_false h93, Or.inr ⟨rfl, hk, by omega⟩⟩
theorem kout_at {d : Nat} {s : ByteArray} {inp : List UInt8} {k : Kd} {a2 : Nat} {bad2 : Bool} (h : KOut d s inp k a2 bad2) : a2 ≤ s.size + d := by
  rcases h with ⟨-, -, h⟩ | ⟨-, -, h⟩ <;> omega

set_option maxRecDepth 100000 in
set_option maxHeartbeats 1600000 in
theorem l2Kind_list (d : Nat) (IH : KRSaid d) (w : World) (R : Nat) (s : ByteArray) (at' : Nat) (hs : s.size ≤ 1048576) (h : Rdr w R s at' false) (ha : at' ≤ s.size) (hd : d + 1 ≤ 6) (ech : bv s at' = 91) :
    KREnds (d + 1) w R s at' (6 - d) := by
  have hdd : decide ((6 : Int) < 6 - (d : Int)) = false := by simp; omega
  have hd1 : (6 : Int) - (d : Int) + 1 = 7 - d := by omega
  have hlt := h.lt
  have hkw := Kw.start h
  obtain ⟨c0, c1, c2, f1, f2⟩ := h.cells
  have hlk := look_any _ R s at' false hkw.rdr
  rw [ech] at hlk
  have hhd : (lf s at').head? = some 91 := (bv_head s at' 91 (by decide)).2 ech
  have hroom : at' + 1 ≤ s.size := by
    have := lf_len s at'
    cases hl : lf s at' with
    | nil => rw [hl] at hhd; simp at hhd
    | cons c r => rw [hl] at this; simp at this; omega
  have heat := fun W (hW : Rdr W R s at' false) => eat_yes W R s (w1 91) at' false hs hW (by omega) (by decide) (by decide) (by rw [pre_one, hhd]; simp)
  have hsub := fun W (hW : Rdr W R s (at' + 1) false) => IH W R s (at' + 1) hs hW hroom (by omega)
  have heat2 : ∀ W k a2 bad2, Rdr W R s a2 bad2 → KOut d s (lf s (at' + 1)) k a2 bad2 → Calls Tryd.prog 57 #[.pointer (some ⟨R, 0, none⟩), .string (w1 93)] W fun e w' => ∃ a4 bad4, e = .returned (.tuple #[]) ∧ Rdr w' R s a4 bad4 ∧ KOut (d + 1) s (lf s at') (.mk 4 [] [k]) a4 bad4 ∧ But R W w' := fun W k a2 bad2 hW ho => by
    have hb := kout_at ho
    rcases kout_list hhd ho with ⟨hp, ho⟩ | ⟨hp, ho⟩
    · exact (eat_yes W R s (w1 93) a2 bad2 hs hW (by omega) (by decide) (by decide) hp).mono fun e w' ⟨h1, h2, h3⟩ => ⟨_, _, h1, h2, ho, h3⟩
    · exact (eat_no W R s (w1 93) a2 bad2 hs hW (by omega) (by decide) (by decide) hp).mono fun e w' ⟨h1, h2, h3⟩ => ⟨_, _, h1, h2, ho, h3⟩
  have HLK := hide hlk; have HKW := hide hkw; have HEA := hide heat; have HSUB := hide hsub; have HEA2 := hide heat2
  clear hlk hkw h heat hsub heat2
  unfold KREnds
  go_enter Tryd.func35, Tryd.ntmps35
  go_wp2_with (first
    | (go_at_call 56; refine (unhide HLK).mono ?_; rintro e w1 ⟨rfl, m, rfl⟩)
    | (go_at_call 57; refine (unhide HEA _ ((unhide HKW).drewN _).rdr).mono ?_; rintro e w2 ⟨rfl, hr2, hb2⟩; have HK2 := hide (((unhide HKW).drewN _).next hb2 hr2); clear hr2 hb2 HEA)
    | (go_at_call 35
       refine (unhide HSUB _ (unhide HK2).rdr).mono ?_
       rintro e w3 ⟨k, ⟨x0, x1, x2⟩, F, a3, bad3, rfl, ho3, hnd3, hF3, hr3, hout3, hb3⟩
       have HK3 := hide ((unhide HK2).next hb3 hr3)
       have HO3 := hide ho3; have HF3 := hide hF3; have HOUT3 := hide hout3
       obtain ⟨y0, y1, y2, z0, z1, z2⟩ := (unhide HK3).cells
       obtain ⟨p0, -, F1, F2, -, ⟨ap, cp, p1, -⟩, aq, cq, p2, -⟩ := ho3.open
       simp only at p0 p1 p2
       subst p0 p1 p2
       have hs2 := (unhide HK2).but.size
       have hl3 := (unhide HK3).box.lt
       clear ho3 hF3 hr3 hout3 hb3 HSUB)
    | (go_at_call 57
       have hown := OwnD.single (s := 4) (t := 26) ⟨by decide, by decide⟩ (unhide HO3) (fun b hb => (unhide HF3 b hb).2)
       have hb2 := (unhide HK2).box.lt
       have hkw4 := (unhide HK3).next ((But.alloc R w3 (.cells #[.int .i64 k.sort, .slice ap k.names.length cp, .slice aq k.kids.length cq] 26)).trans (But.alloc R _ (.cells #[.int .i64 4, .slice none 0 0, .slice (some ⟨w3.heap.size, 0, none⟩) 1 1] 26))) (((unhide HK3).rdr.alloc _).alloc _)
       have hrow := row3_alloc (w3.alloc (.cells #[.int .i64 k.sort, .slice ap k.names.length cp, .slice aq k.kids.length cq] 26)) (.int .i64 4) (.slice none 0 0) (.slice (some ⟨w3.heap.size, 0, none⟩) 1 1) 26
       rw [World.size_alloc] at hrow
       have hown4 := OwnD.carry _ _ _ (fun b hb => Below.heap_alloc (w3.alloc (.cells #[.int .i64 k.sort, .slice ap k.names.length cp, .slice aq k.kids.length cq] 26)) (.cells #[.int .i64 4, .slice none 0 0, .slice (some ⟨w3.heap.size, 0, none⟩) 1 1] 26) b (by
         rw [World.size_alloc]
         rcases List.mem_cons.1 hb with rfl | hb
         · omega
         · have := unhide HF3 b hb; omega)) hown
       refine (unhide HEA2 _ k a3 bad3 hkw4.rdr (unhide HOUT3)).mono ?_
       rintro e w5 ⟨a4, bad4, rfl, hr5, hout5, hb5⟩
       have HK5 := hide (hkw4.next hb5 hr5)
       have HO5 := hide (hown4.but hb5 (fun b hb => by
         rw [World.size_alloc, World.size_alloc]
         rcases List.mem_cons.1 hb with rfl | hb
         · omega
         · have := unhide HF3 b hb; omega))
       have hs5 := hb5.size
       rw [World.size_alloc, World.size_alloc] at hs5
       have hrow5 := hrow.of_block (hb5.at hrow.lt (by omega))
       have g0 := hrow5.cell (i := 0) (by omega); have g1 := hrow5.cell (i := 1) (by omega); have g2 := hrow5.cell (i := 2) (by omega)
       simp only [row3] at g0 g1 g2
       have HOUT5 := hide hout5
       obtain ⟨v0, v1, v2, u0, u1, u2⟩ := (unhide HK5).cells
       clear hown hkw4 hrow hown4 hr5 hout5 hb5 hrow5 HEA2))
  have hb2 := (unhide HK2).box.lt
  obtain ⟨q1, q2, q3, q4⟩ := (unhide HK5).fin (unhide HO5) (fun b hb => by
    rcases List.mem_cons.1 hb with rfl | hb
    · omega
    · have := unhide HF3 b hb; omega)
  refine bodyPost_ret (v := .agg #[.int .i64 4, .slice none 0 0, .slice (some ⟨w3.heap.size, 0, none⟩) 1 1]) (by simp [results, Tryd.results35, go_sem, v0, v1, v2]) rfl (KREnd.mk ⟨.mk 4 [] [k], ⟨_, _, _⟩, w3.heap.size :: F, a4, bad4, rfl, q1, List.nodup_cons.2 ⟨fun hm => by have := (unhide HF3 _ hm).2; omega, hnd3⟩, q2, q3, unhide HOUT5, q4⟩)
end Go.Proofs.YthkjhmcbmakkdaaDoor

/- The walks of the program's reader of texts: skip, take, more, run, end. For texts of at most 2^20 bytes. -/

namespace Go.Proofs.YthkjhmcbmakkdaaDoor
open Go Go.RowKit

def row2 (c0 c1 : Value) : Nat → Value
  | 0 => c0
  | _ => c1
theorem row2_alloc (w : World) (c0 c1 : Value) (t : TypeId) : (w.alloc (.cells #[c0, c1] t)).rowIs w.heap.size t 2 (row2 c0 c1) :=
  World.rowIs_alloc w #[c0, c1] t _ (fun i hi => by
    have hi' : i < 2 := hi
    match i, hi' with
    | 0, _ => rfl
    | 1, _ => rfl)

/-- A reader of the program lies in block R. -/
def PRdr (w : World) (R : Nat) (s : ByteArray) (at' : Nat) : Prop := w.rowIs R 97 2 (row2 (.string s) (.int .i64 at'))
theorem PRdr.cells {w : World} {R : Nat} {s : ByteArray} {at' : Nat} (h : PRdr w R s at') : w.cell? ⟨R, 0, none⟩ = some (.string s) ∧ w.cell? ⟨R, 1, none⟩ = some (.int .i64 at') ∧ w.frozen? ⟨R, 1, none⟩ = false :=
  ⟨World.rowIs.cell h (by omega), World.rowIs.cell h (by omega), World.rowIs.frozen h 1⟩
theorem PRdr.lt {w : World} {R : Nat} {s : ByteArray} {at' : Nat} (h : PRdr w R s at') : R < w.heap.size := World.rowIs.lt h
theorem PRdr.set1 {w : World} {R : Nat} {s : ByteArray} {at' : Nat} (h : PRdr w R s at') (a : Nat) : PRdr (w.setCell ⟨R, 1, none⟩ (.int .i64 a)) R s a :=
  (World.rowIs.set h 1 _).congr fun i hi => by
    match i, hi with
    | 0, _ => rfl
    | 1, _ => rfl
theorem PRdr.drewN {w : World} {R : Nat} {s : ByteArray} {at' : Nat} (h : PRdr w R s at') (n : Nat) : PRdr (w.drewN n) R s at' := h
theorem PRdr.heap {w w' : World} {R : Nat} {s : ByteArray} {a : Nat} (h : PRdr w R s a) (e : w'.heap = w.heap) : PRdr w' R s a := World.rowIs.of_block h (by rw [e])
theorem PRdr.alloc {w : World} {R : Nat} {s : ByteArray} {a : Nat} (h : PRdr w R s a) (o : Obj) : PRdr (w.alloc o) R s a := World.rowIs.alloc h o
theorem PRdr.at {w w' : World} {R : Nat} {s : ByteArray} {a : Nat} (h : PRdr w R s a) (e : w'.heap[R]? = w.heap[R]?) : PRdr w' R s a := World.rowIs.of_block h e

theorem hasPre (s wd : ByteArray) (a : Nat) : Lib.hasPrefix (s.extract a s.size).data.toList wd.data.toList = pre wd s a := by
  unfold Lib.hasPrefix pre lf
  congr 1
  simp [List.take_of_length_le]

set_option maxHeartbeats 800000 in
theorem skip_yes (w : World) (R : Nat) (s wd : ByteArray) (a : Nat) (hs : s.size ≤ 1048576) (h : PRdr w R s a) (ha : a ≤ s.size) (hw0 : 0 < wd.size) (hw : wd.size ≤ 16) (hp : pre wd s a = true) :
    Calls Tryd.prog 72 #[.pointer (some ⟨R, 0, none⟩), .string wd] w fun e w' => e = .returned (.bool true) ∧ PRdr w' R s (a + wd.size) ∧ But R w w' := by
  obtain ⟨c0, c1, f1⟩ := h.cells
  have H := hide h
  have hi0 : (0 : Int) ≤ (a : Int) := by omega
  have hi1 : (a : Int) ≤ (s.size : Int) := by omega
  have hpre := Tryd.strings_HasPrefix (s.extract a s.size) wd
  rw [hasPre, hp] at hpre
  have HPRE := hide hpre
  clear h hp hpre
  go_enter Tryd.func72, Tryd.ntmps72
  go_wp2_with fail
  go_quiet ((go_at_call 84; exact Calls.quiet_of_same (unhide HPRE _)))
  go_wp2_with fail
  go_ret
  exact ⟨rfl, (H.out.drewN _).set1 _, (but_drewN (But.refl _ _) _).trans (But.set _ _ _)⟩

set_option maxHeartbeats 800000 in
theorem skip_no (w : World) (R : Nat) (s wd : ByteArray) (a : Nat) (h : PRdr w R s a) (ha : a ≤ s.size) (hp : pre wd s a = false) :
    Calls Tryd.prog 72 #[.pointer (some ⟨R, 0, none⟩), .string wd] w fun e w' => e = .returned (.bool false) ∧ ∃ m, w' = w.drewN m := by
  obtain ⟨c0, c1, f1⟩ := h.cells
  have hi0 : (0 : Int) ≤ (a : Int) := by omega
  have hi1 : (a : Int) ≤ (s.size : Int) := by omega
  have hpre := Tryd.strings_HasPrefix (s.extract a s.size) wd
  rw [hasPre, hp] at hpre
  have HPRE := hide hpre
  clear h hp hpre
  go_enter Tryd.func72, Tryd.ntmps72
  go_wp2_with fail
  go_quiet ((go_at_call 84; exact Calls.quiet_of_same (unhide HPRE _)))
  go_wp2_with fail
  go_ret
  exact ⟨rfl, _, rfl⟩

set_option maxHeartbeats 400000 in
theorem take_yes (w : World) (R : Nat) (s wd : ByteArray) (a : Nat) (hs : s.size ≤ 1048576) (h : PRdr w R s a) (ha : a ≤ s.size) (hw0 : 0 < wd.size) (hw : wd.size ≤ 16) (hp : pre wd s a = true) :
    Calls Tryd.prog 73 #[.pointer (some ⟨R, 0, none⟩), .string wd] w fun e w' => e = .returned (.tuple #[]) ∧ PRdr w' R s (a + wd.size) ∧ But R w w' := by
  have HS := hide (skip_yes w R s wd a hs h ha hw0 hw hp)
  clear h hp
  go_enter Tryd.func73, Tryd.ntmps73
  go_wp2_with (first
    | (go_at_call 72; refine (unhide HS).mono ?_; rintro e w1 ⟨rfl, hr, hb⟩)
    | (go_at_call 53; refine (treeWant_yes _).mono ?_; rintro e w2 ⟨rfl, rfl⟩))
  go_end0
  exact ⟨rfl, hr, hb⟩

set_option maxHeartbeats 400000 in
theorem take_no (w : World) (R : Nat) (s wd : ByteArray) (a : Nat) (h : PRdr w R s a) (ha : a ≤ s.size) (hp : pre wd s a = false) :
    Calls Tryd.prog 73 #[.pointer (some ⟨R, 0, none⟩), .string wd] w fun e w' => e = fltE ∧ ∃ m, w' = w.drewN m := by
  have HS := hide (skip_no w R s wd a h ha hp)
  clear h hp
  go_enter Tryd.func73, Tryd.ntmps73
  go_wp2_with (first
    | (go_at_call 72; refine (unhide HS).mono ?_; rintro e w1 ⟨rfl, m, rfl⟩)
    | (go_at_call 53; refine (treeWant_no _).mono ?_; rintro e w2 ⟨rfl, rfl⟩))
  exact ⟨rfl, rfl, _, rfl⟩

set_option maxHeartbeats 400000 in
theorem end_yes (w : World) (R : Nat) (s : ByteArray) (h : PRdr w R s s.size) :
    Calls Tryd.prog 55 #[.pointer (some ⟨R, 0, none⟩)] w fun e w' => e = .returned (.tuple #[]) ∧ ∃ m, w' = w.drewN m := by
  obtain ⟨c0, c1, f1⟩ := h.cells
  clear h
  go_enter Tryd.func55, Tryd.ntmps55
  go_quiet ((go_at_call 53; exact Calls.quiet_of_same (treeWant_yes _)))
  go_wp2_with fail
  go_end0
  exact ⟨rfl, _, rfl⟩
end Go.Proofs.YthkjhmcbmakkdaaDoor

/- A law for a callee that raises a fault in a region that draws its order. No program, no conditions. -/

namespace Go.Proofs.YthkjhmcbmakkdaaDoor
open Go Go.RowKit

/-- Where a call raises a fault, what follows it is never met. -/
theorem dead_end {G : Prop} {S K : Act → World → Prop} (_ : ∀ a w, S a w → K a w) (a : Act) (w : World) (h : G) (_ : Hid False → K a w) : G := h

end Go.Proofs.YthkjhmcbmakkdaaDoor
