/- The walk of the specification's reader of schemas, further: maybes and lists. For texts of at most 2^20 bytes. -/
import Derived.Test.YtfjiannabnonjaaDoorWKRd
namespace Go.Proofs.YtfjiannabnonjaaDoor
open Go Go.RowKit

theorem OwnD.but {W W' : World} {R : Nat} {k : Kd} {c : C3} {F : List Nat} (h : OwnD W k c F) (hb : But R W W') (hF : ∀ b, b ∈ F → R < b ∧ b < W.heap.size) : OwnD W' k c F :=
  OwnD.carry k c F (fun b hb' => hb.at (hF b hb').2 (by have := (hF b hb').1; omega)) h

theorem set3_alloc (W : World) (B : Nat) (c : C3) (o : Obj) (h : B < W.heap.size) : set3 (W.alloc o) B c = (set3 W B c).alloc o := by
  unfold set3
  rw [World.setCell_alloc_past o B 0 c.c0 h, World.setCell_alloc_past o B 1 c.c1 (by simpa [World.setCell] using h), World.setCell_alloc_past o B 2 c.c2 (by simpa [World.setCell] using h)]

theorem kout_maybe {d : Nat} {s : ByteArray} {at' : Nat} {k : Kd} {a2 : Nat} {bad2 : Bool} (hhd : (lf s at').head? = some 63) (h : KOut d s (lf s (at' + 1)) k a2 bad2) : KOut (d + 1) s (lf s at') (.mk 6 [] [k]) a2 bad2 := by
  have hk := krd_maybe d hhd
  rw [← lf_next] at hk
  rcases h with ⟨h1, h2, h3⟩ | ⟨h1, h2, h3⟩
  · exact Or.inl ⟨h1, by rw [hk, h2], h3⟩
  · exact Or.inr ⟨h1, by rw [hk, h2], by omega⟩

set_option maxRecDepth 100000 in
set_option maxHeartbeats 1600000 in
theorem l2Kind_maybe (d : Nat) (IH : KRSaid d) (w : World) (R : Nat) (s : ByteArray) (at' : Nat) (hs : s.size ≤ 1048576) (h : Rdr w R s at' false) (ha : at' ≤ s.size) (hd : d + 1 ≤ 6) (ech : bv s at' = 63) :
    KREnds (d + 1) w R s at' (6 - d) := by
  have hdd : decide ((6 : Int) < 6 - (d : Int)) = false := by simp; omega
  have hd1 : (6 : Int) - (d : Int) + 1 = 7 - d := by omega
  have hlt := h.lt
  have hkw := Kw.start h
  obtain ⟨c0, c1, c2, f1, f2⟩ := h.cells
  have hlk := look_any _ R s at' false hkw.rdr
  rw [ech] at hlk
  have hhd : (lf s at').head? = some 63 := (bv_head s at' 63 (by decide)).2 ech
  have hroom : at' + 1 ≤ s.size := by
    have := lf_len s at'
    cases hl : lf s at' with
    | nil => rw [hl] at hhd; simp at hhd
    | cons c r => rw [hl] at this; simp at this; omega
  have heat := fun W (hW : Rdr W R s at' false) => eat_yes W R s (w1 63) at' false hs hW (by omega) (by decide) (by decide) (by rw [pre_one, hhd]; simp)
  have hsub := fun W (hW : Rdr W R s (at' + 1) false) => IH W R s (at' + 1) hs hW hroom (by omega)
  have HLK := hide hlk; have HKW := hide hkw; have HEA := hide heat; have HSUB := hide hsub
  clear hlk hkw h heat hsub
  unfold KREnds
  go_enter Tryd.func37, Tryd.ntmps37
  go_wp2_with (first
    | (go_at_call 72; refine (unhide HLK).mono ?_; rintro e w1 ⟨rfl, m, rfl⟩)
    | (go_at_call 73; refine (unhide HEA _ ((unhide HKW).drewN _).rdr).mono ?_; rintro e w2 ⟨rfl, hr2, hb2⟩; have HK2 := hide (((unhide HKW).drewN _).next hb2 hr2); clear hr2 hb2 HEA)
    | (go_at_call 37
       refine (unhide HSUB _ (unhide HK2).rdr).mono ?_
       rintro e w3 ⟨k, ⟨x0, x1, x2⟩, F, a3, bad3, rfl, ho3, hnd3, hF3, hr3, hout3, hb3⟩
       have HK3 := hide ((unhide HK2).next hb3 hr3)
       have HO3 := hide ho3; have HF3 := hide hF3; have HOUT3 := hide hout3
       obtain ⟨y0, y1, y2, z0, z1, z2⟩ := (unhide HK3).cells
       obtain ⟨p0, -, F1, F2, -, ⟨ap, cp, p1, -⟩, aq, cq, p2, -⟩ := ho3.open
       simp only at p0 p1 p2
       subst p0 p1 p2
       have hs2 := (unhide HK2).but.size
       have hl3 := (unhide HK3).box.lt
       clear ho3 hF3 hr3 hout3 hb3 HSUB))
  have hown := OwnD.single (s := 6) (t := 26) ⟨by decide, by decide⟩ (unhide HO3) (fun b hb => (unhide HF3 b hb).2)
  have hkw4 := (unhide HK3).next (But.alloc R w3 (.cells #[.int .i64 k.sort, .slice ap k.names.length cp, .slice aq k.kids.length cq] 26)) ((unhide HK3).rdr.alloc _)
  have hb2 := (unhide HK2).box.lt
  obtain ⟨q1, q2, q3, q4⟩ := hkw4.fin hown (fun b hb => by
    rw [World.size_alloc]
    rcases List.mem_cons.1 hb with rfl | hb
    · omega
    · have := unhide HF3 b hb; omega)
  rw [set3_alloc _ _ _ _ hl3] at q1 q2 q3 q4
  refine bodyPost_ret (v := .agg #[.int .i64 6, .slice none 0 0, .slice (some ⟨w3.heap.size, 0, none⟩) 1 1]) (by simp [results, Tryd.results37, go_sem, y0, y1, y2, hl3]) rfl (KREnd.mk ⟨.mk 6 [] [k], ⟨_, _, _⟩, w3.heap.size :: F, a3, bad3, rfl, q1, List.nodup_cons.2 ⟨fun hm => by have := (unhide HF3 _ hm).2; omega, hnd3⟩, q2, q3, kout_maybe hhd (unhide HOUT3), q4⟩)

theorem kout_list {d : Nat} {s : ByteArray} {at' : Nat} {k : Kd} {a2 : Nat} {bad2 : Bool} (hhd : (lf s at').head? = some 91) (h : KOut d s (lf s (at' + 1)) k a2 bad2) :
    (pre (w1 93) s a2 = true ∧ KOut (d + 1) s (lf s at') (.mk 4 [] [k]) (a2 + 1) bad2) ∨ (pre (w1 93) s a2 = false ∧ KOut (d + 1) s (lf s at') (.mk 4 [] [k]) a2 true) := by
  have hk := krd_list d hhd
  rw [← lf_next] at hk
  rw [pre_one]
  rcases h with ⟨h1, h2, h3⟩ | ⟨h1, h2, h3⟩
  · rw [h2] at hk
    simp only at hk
    by_cases h93 : (lf s a2).head? = some 93
    · rw [if_pos h93] at hk
      refine Or.inl ⟨decide_eq_true h93, Or.inl ⟨h1, by rw [hk, lf_next], ?_⟩⟩
      have := lf_len s a2
      cases hl : lf s a2 with
      | nil => rw [hl] at h93; simp at h93
      | cons c r => rw [hl] at this; simp at this; omega
    · rw [if_neg h93] at hk
      exact Or.inr ⟨decide_eq_false h93, Or.inr ⟨rfl, hk, by omega⟩⟩
  · rw [h2] at hk
    simp only at hk
    by_cases h93 : (lf s a2).head? = some 93
    · exact Or.inl ⟨decide_eq_true h93, Or.inr ⟨h1, hk, by omega⟩⟩
    · exact Or.inr ⟨decide_eq_false h93, Or.inr ⟨rfl, hk, by omega⟩⟩
theorem kout_at {d : Nat} {s : ByteArray} {inp : List UInt8} {k : Kd} {a2 : Nat} {bad2 : Bool} (h : KOut d s inp k a2 bad2) : a2 ≤ s.size + d := by
  rcases h with ⟨-, -, h⟩ | ⟨-, -, h⟩ <;> omega

set_option maxRecDepth 100000 in
set_option maxHeartbeats 1600000 in
theorem l2Kind_list (d : Nat) (IH : KRSaid d) (w : World) (R : Nat) (s : ByteArray) (at' : Nat) (hs : s.size ≤ 1048576) (h : Rdr w R s at' false) (ha : at' ≤ s.size) (hd : d + 1 ≤ 6) (ech : bv s at' = 91) :
    KREnds (d + 1) w R s at' (6 - d) := by
  have hdd : decide ((6 : Int) < 6 - (d : Int)) = false := by simp; omega
  have hd1 : (6 : Int) - (d : Int) + 1 = 7 - d := by omega
  have hlt := h.lt
  have hkw := Kw.start h
  obtain ⟨c0, c1, c2, f1, f2⟩ := h.cells
  have hlk := look_any _ R s at' false hkw.rdr
  rw [ech] at hlk
  have hhd : (lf s at').head? = some 91 := (bv_head s at' 91 (by decide)).2 ech
  have hroom : at' + 1 ≤ s.size := by
    have := lf_len s at'
    cases hl : lf s at' with
    | nil => rw [hl] at hhd; simp at hhd
    | cons c r => rw [hl] at this; simp at this; omega
  have heat := fun W (hW : Rdr W R s at' false) => eat_yes W R s (w1 91) at' false hs hW (by omega) (by decide) (by decide) (by rw [pre_one, hhd]; simp)
  have hsub := fun W (hW : Rdr W R s (at' + 1) false) => IH W R s (at' + 1) hs hW hroom (by omega)
  have heat2 : ∀ W k a2 bad2, Rdr W R s a2 bad2 → KOut d s (lf s (at' + 1)) k a2 bad2 → Calls Tryd.prog 73 #[.pointer (some ⟨R, 0, none⟩), .string (w1 93)] W fun e w' => ∃ a4 bad4, e = .returned (.tuple #[]) ∧ Rdr w' R s a4 bad4 ∧ KOut (d + 1) s (lf s at') (.mk 4 [] [k]) a4 bad4 ∧ But R W w' := fun W k a2 bad2 hW ho => by
    have hb := kout_at ho
    rcases kout_list hhd ho with ⟨hp, ho⟩ | ⟨hp, ho⟩
    · exact (eat_yes W R s (w1 93) a2 bad2 hs hW (by omega) (by decide) (by decide) hp).mono fun e w' ⟨h1, h2, h3⟩ => ⟨_, _, h1, h2, ho, h3⟩
    · exact (eat_no W R s (w1 93) a2 bad2 hs hW (by omega) (by decide) (by decide) hp).mono fun e w' ⟨h1, h2, h3⟩ => ⟨_, _, h1, h2, ho, h3⟩
  have HLK := hide hlk; have HKW := hide hkw; have HEA := hide heat; have HSUB := hide hsub; have HEA2 := hide heat2
  clear hlk hkw h heat hsub heat2
  unfold KREnds
  go_enter Tryd.func37, Tryd.ntmps37
  go_wp2_with (first
    | (go_at_call 72; refine (unhide HLK).mono ?_; rintro e w1 ⟨rfl, m, rfl⟩)
    | (go_at_call 73; refine (unhide HEA _ ((unhide HKW).drewN _).rdr).mono ?_; rintro e w2 ⟨rfl, hr2, hb2⟩; have HK2 := hide (((unhide HKW).drewN _).next hb2 hr2); clear hr2 hb2 HEA)
    | (go_at_call 37
       refine (unhide HSUB _ (unhide HK2).rdr).mono ?_
       rintro e w3 ⟨k, ⟨x0, x1, x2⟩, F, a3, bad3, rfl, ho3, hnd3, hF3, hr3, hout3, hb3⟩
       have HK3 := hide ((unhide HK2).next hb3 hr3)
       have HO3 := hide ho3; have HF3 := hide hF3; have HOUT3 := hide hout3
       obtain ⟨y0, y1, y2, z0, z1, z2⟩ := (unhide HK3).cells
       obtain ⟨p0, -, F1, F2, -, ⟨ap, cp, p1, -⟩, aq, cq, p2, -⟩ := ho3.open
       simp only at p0 p1 p2
       subst p0 p1 p2
       have hs2 := (unhide HK2).but.size
       have hl3 := (unhide HK3).box.lt
       clear ho3 hF3 hr3 hout3 hb3 HSUB)
    | (go_at_call 73
       have hown := OwnD.single (s := 4) (t := 26) ⟨by decide, by decide⟩ (unhide HO3) (fun b hb => (unhide HF3 b hb).2)
       have hb2 := (unhide HK2).box.lt
       have hkw4 := (unhide HK3).next ((But.alloc R w3 (.cells #[.int .i64 k.sort, .slice ap k.names.length cp, .slice aq k.kids.length cq] 26)).trans (But.alloc R _ (.cells #[.int .i64 4, .slice none 0 0, .slice (some ⟨w3.heap.size, 0, none⟩) 1 1] 26))) (((unhide HK3).rdr.alloc _).alloc _)
       have hrow := row3_alloc (w3.alloc (.cells #[.int .i64 k.sort, .slice ap k.names.length cp, .slice aq k.kids.length cq] 26)) (.int .i64 4) (.slice none 0 0) (.slice (some ⟨w3.heap.size, 0, none⟩) 1 1) 26
       rw [World.size_alloc] at hrow
       have hown4 := OwnD.carry _ _ _ (fun b hb => Below.heap_alloc (w3.alloc (.cells #[.int .i64 k.sort, .slice ap k.names.length cp, .slice aq k.kids.length cq] 26)) (.cells #[.int .i64 4, .slice none 0 0, .slice (some ⟨w3.heap.size, 0, none⟩) 1 1] 26) b (by
         rw [World.size_alloc]
         rcases List.mem_cons.1 hb with rfl | hb
         · omega
         · have := unhide HF3 b hb; omega)) hown
       refine (unhide HEA2 _ k a3 bad3 hkw4.rdr (unhide HOUT3)).mono ?_
       rintro e w5 ⟨a4, bad4, rfl, hr5, hout5, hb5⟩
       have HK5 := hide (hkw4.next hb5 hr5)
       have HO5 := hide (hown4.but hb5 (fun b hb => by
         rw [World.size_alloc, World.size_alloc]
         rcases List.mem_cons.1 hb with rfl | hb
         · omega
         · have := unhide HF3 b hb; omega))
       have hs5 := hb5.size
       rw [World.size_alloc, World.size_alloc] at hs5
       have hrow5 := hrow.of_block (hb5.at hrow.lt (by omega))
       have g0 := hrow5.cell (i := 0) (by omega); have g1 := hrow5.cell (i := 1) (by omega); have g2 := hrow5.cell (i := 2) (by omega)
       simp only [row3] at g0 g1 g2
       have HOUT5 := hide hout5
       obtain ⟨v0, v1, v2, u0, u1, u2⟩ := (unhide HK5).cells
       clear hown hkw4 hrow hown4 hr5 hout5 hb5 hrow5 HEA2))
  have hb2 := (unhide HK2).box.lt
  obtain ⟨q1, q2, q3, q4⟩ := (unhide HK5).fin (unhide HO5) (fun b hb => by
    rcases List.mem_cons.1 hb with rfl | hb
    · omega
    · have := unhide HF3 b hb; omega)
  refine bodyPost_ret (v := .agg #[.int .i64 4, .slice none 0 0, .slice (some ⟨w3.heap.size, 0, none⟩) 1 1]) (by simp [results, Tryd.results37, go_sem, v0, v1, v2]) rfl (KREnd.mk ⟨.mk 4 [] [k], ⟨_, _, _⟩, w3.heap.size :: F, a4, bad4, rfl, q1, List.nodup_cons.2 ⟨fun hm => by have := (unhide HF3 _ hm).2; omega, hnd3⟩, q2, q3, unhide HOUT5, q4⟩)
end Go.Proofs.YtfjiannabnonjaaDoor
