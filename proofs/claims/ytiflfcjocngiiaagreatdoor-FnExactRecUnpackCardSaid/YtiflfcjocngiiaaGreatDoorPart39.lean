/- The walk of the program's RecUnpack, whole. Conditions: the table treeFields is as its text lays it; the text has at most 2^20 bytes. -/
import Derived.Test.YtiflfcjocngiiaaGreatDoorPart27
import Derived.Test.YtiflfcjocngiiaaGreatDoorPart29
import Derived.Test.YtiflfcjocngiiaaGreatDoorPart38
import Derived.Deep.CutRange
import Derived.Test.YtiflfcjocngiiaaGreatDoorPart12
import Derived.ProofKit
import Derived.OpenShut
import Derived.MakeChecks
import Derived.Deep.Fields
namespace Go.Proofs.YtiflfcjocngiiaaGreatDoor
open Go Go.RowKit

theorem recF_key {b : List UInt8} {key : ByteArray} {es : List Ev} (h : recF b = some (key, es)) : key.size < 256 := by
  unfold recF at h
  cases hp : ptx b with
  | none => rw [hp] at h; cases h
  | some kr =>
    obtain ⟨k, r⟩ := kr
    rw [hp] at h
    have h2 := (ptx_sound hp).2
    cases r with
    | nil => cases h
    | cons n r =>
      simp only [Option.map_eq_some_iff, Prod.mk.injEq] at h
      obtain ⟨_, _, rfl, _⟩ := h
      exact h2
set_option maxRecDepth 100000 in
set_option maxHeartbeats 3200000 in
theorem implRecUnpack_any (w : World) (s : ByteArray) (pos : Int) (hs : s.size ≤ 1048576) (hT : Tab w) :
    Calls Tryz.prog 5 #[.int .i64 pos, .string s] w fun e w' => RuEnd w w' pos s.data.toList e := by
  have hl : s.data.toList.length = s.size := by rw [Array.length_toList]; rfl
  have hmf : ∀ (fn : Fn) (first cap : Array Value) (w : World), (Instr.makeFunc fn first cap).run Tryz.prog w = .ok (.func fn first cap) w := fun _ _ _ _ => rfl
  obtain ⟨hrw, hr2, hb4⟩ := rw_start w s pos hs
  by_cases h2 : 2000 < s.size
  · have hN := ru_long (pos := pos) (b := s.data.toList) (by rw [hl]; exact h2)
    have hq : decide ((2000 : Int) < (s.size : Int)) = true := decide_eq_true (by omega)
    have HN := hide hN
    clear hrw hr2 hb4 hl hN h2 hT
    go_enter Tryz.func5, Tryz.ntmps5
    go_wp2_with fail
    refine bodyPost_ret (v := .tuple #[.agg #[.int .i64 0, .string ByteArray.empty, .slice none 0 0], .bool false]) (by simp [results, Tryz.results5, go_sem]; try rfl) rfl ?_
    exact ⟨(((Below.refl _ _).alloc (Nat.le_refl _) _).alloc (by simp) _).alloc (by simp; omega) _, Or.inr ⟨unhide HN, rfl⟩⟩
  · have hq : decide ((2000 : Int) < (s.size : Int)) = false := decide_eq_false (by omega)
    have hs4 : ((((w.alloc (.cells #[.int .i64 pos] 3)).alloc (.cells #[.string s] 9)).alloc rc0).alloc rc0).heap.size = w.heap.size + 4 := by simp
    have hT4 := hT.of_block (hb4.block 0 hT.lt)
    cases hrf : recF s.data.toList with
    | none =>
      have HN := hide (ru_none (pos := pos) hrf)
      have htry := treeTry_no2 14 #[.pointer (some ⟨w.heap.size + 1, 0, none⟩), .pointer (some ⟨w.heap.size, 0, none⟩), .pointer (some ⟨w.heap.size + 3, 0, none⟩)] ((((w.alloc (.cells #[.int .i64 pos] 3)).alloc (.cells #[.string s] 9)).alloc rc0).alloc rc0)
        (fun w1 => Below (w.heap.size + 4) ((((w.alloc (.cells #[.int .i64 pos] 3)).alloc (.cells #[.string s] 9)).alloc rc0).alloc rc0) w1) (enterRec _) (by
          refine (recWork_no w.heap.size _ s pos (hrw.on ((Below.refl _ _).alloc (Nat.le_refl _) _)) (hT4.of_block (Below.heap_alloc _ _ _ hT4.lt)) hrf).mono ?_
          rintro e w1 ⟨rfl, hb1⟩
          refine ⟨rfl, ⟨hb1.os, hb1.tape, hb1.output, Nat.le_trans (by simp) hb1.size, fun i hi => (hb1.block i (by rw [World.size_alloc, hs4]; omega)).trans (Below.heap_alloc _ _ _ (by rw [hs4]; omega))⟩, hb1.block _ (by simp)⟩)
      have HTRY := hide htry; have HR2 := hide hr2; have HB4 := hide hb4; have HS4 := hide hs4
      clear htry hrw hr2 hb4 hl h2 hT hT4 hs4 hrf
      go_enter Tryz.func5, Tryz.ntmps5
      go_wp2_with fail
      refine (unhide HTRY).mono ?_
      rintro e w5 ⟨rfl, w1, hb1, hb5⟩
      have hsz := unhide HS4
      have hs1 := hb1.size
      rw [hsz] at hb5 hs1
      have hs5 := hb5.size
      have hr5 := ((unhide HR2).of_block (hb1.block (w.heap.size + 2) (by omega))).of_block (hb5.at (by omega) (by omega))
      have hbw : Below w.heap.size w w5 := (unhide HB4).trans ⟨hb5.os.trans hb1.os, hb5.tape.trans hb1.tape, hb5.output.trans hb1.output, by rw [hsz]; omega, fun i hi => (hb5.at (by omega) (by omega)).trans (hb1.block i (by omega))⟩
      have m0 := hr5.cell (i := 0) (by omega); have m1 := hr5.cell (i := 1) (by omega); have m2 := hr5.cell (i := 2) (by omega); have mf := hr5.frozen
      simp only [row3] at m0 m1 m2
      have HBW := hide hbw; have HR5 := hide hr5
      clear hr5 hbw hb1 hb5 hs1 hs5 hsz HTRY HR2 HB4 HS4
      go_wp2_with fail
      go_region
      all_goals
        go_wp2_with fail
        refine bodyPost_ret (v := .tuple #[.agg #[.int .i64 0, .string ByteArray.empty, .slice none 0 0], .bool false]) (by simp [results, Tryz.results5, go_sem, m0, m1, m2]; try rfl) rfl ?_
        exact ⟨((((unhide HBW).setCell (by simp; omega) _).setCell (by simp; omega) _).setCell (by simp; omega) _).drew, Or.inr ⟨unhide HN, rfl⟩⟩
    | some ke =>
      obtain ⟨key, es⟩ := ke
      have htry := treeTry_yes2 14 #[.pointer (some ⟨w.heap.size + 1, 0, none⟩), .pointer (some ⟨w.heap.size, 0, none⟩), .pointer (some ⟨w.heap.size + 3, 0, none⟩)] ((((w.alloc (.cells #[.int .i64 pos] 3)).alloc (.cells #[.string s] 9)).alloc rc0).alloc rc0)
        (fun w1 => (∃ u F, w1.rowIs (w.heap.size + 3) 24 3 (row3 (.int .i64 pos) (.string key) u) ∧ EvsOwn w1 u es F ∧ F.Nodup ∧ ∀ x, x ∈ F → w.heap.size + 5 ≤ x ∧ x < w1.heap.size) ∧ But (w.heap.size + 3) (((((w.alloc (.cells #[.int .i64 pos] 3)).alloc (.cells #[.string s] 9)).alloc rc0).alloc rc0).alloc (.cells #[.bool false] 4)) w1) (enterRec _) (by
          refine (recWork_yes w.heap.size _ s pos (hrw.on ((Below.refl _ _).alloc (Nat.le_refl _) _)) (hT4.of_block (Below.heap_alloc _ _ _ hT4.lt)) key es hrf).mono ?_
          rintro e w1 ⟨rfl, ⟨u, F, g1, g2, g3, g4⟩, hb1⟩
          exact ⟨rfl, ⟨⟨u, F, g1, g2, g3, fun x hx => ⟨by have := (g4 x hx).1; rw [World.size_alloc, hs4] at this; omega, (g4 x hx).2⟩⟩, hb1⟩, hb1.at (by simp) (by rw [hs4]; omega)⟩)
      have HTRY := hide htry; have HRW := hide hrw; have HR2 := hide hr2; have HB4 := hide hb4; have HS4 := hide hs4; have HRF := hide hrf; have HTB := hide hT
      clear htry hrw hr2 hb4 hl h2 hT hT4 hs4 hrf
      go_enter Tryz.func5, Tryz.ntmps5
      go_wp2_with fail
      refine (unhide HTRY).mono ?_
      rintro e w5 ⟨rfl, w1, ⟨⟨u, F, g1, g2, g3, g4⟩, hb1⟩, hb5⟩
      have hsz := unhide HS4
      have hs1 := hb1.size
      rw [World.size_alloc, hsz] at hs1
      rw [hsz] at hb5
      have hs5 := hb5.size
      have hk4 : ∀ i, i < w.heap.size + 4 → i ≠ w.heap.size + 3 → w5.heap[i]? = ((((w.alloc (.cells #[.int .i64 pos] 3)).alloc (.cells #[.string s] 9)).alloc rc0).alloc rc0).heap[i]? := fun i hi hne => (hb5.at (by omega) (by omega)).trans ((hb1.at (by rw [World.size_alloc, hsz]; omega) hne).trans (Below.heap_alloc _ _ _ (by rw [hsz]; exact hi)))
      have hbw : Below w.heap.size w w5 := (unhide HB4).trans ⟨hb5.os.trans hb1.os, hb5.tape.trans hb1.tape, hb5.output.trans hb1.output, by rw [hsz]; omega, fun i hi => hk4 i (by omega) (by omega)⟩
      have hr5 := (unhide HR2).of_block (hk4 _ (by omega) (by omega))
      have hd5 := (unhide HRW).bd.of_block (hk4 _ (by omega) (by omega))
      have hg5 := g1.of_block (hb5.at g1.lt (by omega))
      have he5 := g2.carry (w' := w5) (fun x hx => hb5.at (g4 x hx).2 (by have := (g4 x hx).1; omega))
      obtain ⟨ad, cp, hu, -, -⟩ := g2
      subst hu
      have hkey := recF_key (unhide HRF)
      have hT5 := (unhide HTB).of_block (hbw.block 0 (unhide HTB).lt)
      have HRP : Hid (Calls Tryz.prog 17 #[.agg #[.int .i64 pos, .string key, .slice ad es.length cp]] w5.drew fun e w' => e = .returned (.string (bA (recPackB pos key es))) ∧ Hid (Below w5.heap.size w5 w') ∧ w'.cell? ⟨w.heap.size + 1, 0, none⟩ = some (.string s)) := by
        refine (implRecPack_any pos key es (· ∈ F) (.slice ad es.length cp) w5.drew (fun b hb => Nat.lt_of_lt_of_le (g4 b hb).2 hs5) (he5.at.carry (fun _ _ => rfl) (fun _ h => h)) (by omega) (hT5.of_block rfl)).mono ?_
        rintro e w6 ⟨rfl, hb6⟩
        have hb6' : Below w5.heap.size w5 w6 := ⟨hb6.os, hb6.tape, hb6.output, hb6.size, fun i hi => hb6.block i hi⟩
        exact ⟨rfl, hb6', by rw [World.cell?_of_block (w := w5) (hb6'.block _ hd5.lt)]; exact hd5.cell (i := 0) (by omega)⟩
      have d0 := hd5.cell (i := 0) (by omega)
      have q0 := hg5.cell (i := 0) (by omega); have q1 := hg5.cell (i := 1) (by omega); have q2 := hg5.cell (i := 2) (by omega)
      simp only [row3] at q0 q1 q2
      have HR5 := hide hr5; have HG5 := hide hg5; have HE5 := hide he5; have HBW := hide hbw; have HND := hide g3
      have HF5 := hide (show ∀ x, x ∈ F → w.heap.size + 5 ≤ x ∧ x < w5.heap.size from fun x hx => ⟨(g4 x hx).1, Nat.lt_of_lt_of_le (g4 x hx).2 hs5⟩)
      clear hr5 hd5 hg5 he5 hbw hT5 hb1 hb5 hk4 g1 g3 g4 hs1 hs5 hsz HTRY HR2 HB4 HS4 HRW HTB hkey
      by_cases hpk : bA (recPackB pos key es) = s
      · have hbn : ((bA (recPackB pos key es)).toList == s.toList) = true := by rw [hpk]; simp
        have HIS : Hid (RuIs pos s.data.toList (some (key, es))) := ru_same (fun h0 => by have := unhide HRF; rw [h0, recF_nil] at this; cases this) (bA_back hpk)
        clear hpk
        go_wp2_with fail
        go_region_with (go_at_call 17; refine (unhide HRP).mono ?_; rintro e w6 ⟨rfl, HB6, d6⟩)
        all_goals
          have hb6 := (unhide HB6)
          have r6 := (unhide HR5).of_block (hb6.block _ (unhide HR5).lt)
          have s6 := (unhide HG5).of_block (hb6.block _ (unhide HG5).lt)
          have m0 := r6.cell (i := 0) (by omega); have m1 := r6.cell (i := 1) (by omega); have m2 := r6.cell (i := 2) (by omega); have mf := r6.frozen
          have t0 := s6.cell (i := 0) (by omega); have t1 := s6.cell (i := 1) (by omega); have t2 := s6.cell (i := 2) (by omega)
          simp only [row3] at m0 m1 m2 t0 t1 t2
          have HBW6 := hide ((unhide HBW).trans (hb6.mono (unhide HBW).size))
          have HE6 := hide ((unhide HE5).carry (w' := w6) (fun x hx => hb6.block x (unhide HF5 x hx).2))
          have hsz6 := hb6.size
          clear hb6 r6 s6 q0 q1 q2 d0 d6
          go_wp2_with fail
          refine bodyPost_ret (v := .tuple #[.agg #[.int .i64 pos, .string key, .slice ad es.length cp], .bool true]) (by simp [results, Tryz.results5, go_sem, m0, m1, m2]; try rfl) rfl ?_
          exact RuEnd.yes (w.heap.size + 2) (by omega) (unhide HBW6) (unhide HE6) (unhide HND) (fun x hx => ⟨by have := (unhide HF5 x hx).1; omega, Nat.lt_of_lt_of_le (unhide HF5 x hx).2 hsz6⟩) (unhide HIS) _ _ _
      · have hbn := (bA_diff hpk).1
        have HIS := hide (ru_other (unhide HRF) (bA_diff hpk).2)
        clear hpk
        go_wp2_with fail
        go_region_with (go_at_call 17; refine (unhide HRP).mono ?_; rintro e w6 ⟨rfl, HB6, d6⟩)
        all_goals
          have hb6 := (unhide HB6)
          have r6 := (unhide HR5).of_block (hb6.block _ (unhide HR5).lt)
          have s6 := (unhide HG5).of_block (hb6.block _ (unhide HG5).lt)
          have m0 := r6.cell (i := 0) (by omega); have m1 := r6.cell (i := 1) (by omega); have m2 := r6.cell (i := 2) (by omega); have mf := r6.frozen
          have t0 := s6.cell (i := 0) (by omega); have t1 := s6.cell (i := 1) (by omega); have t2 := s6.cell (i := 2) (by omega)
          simp only [row3] at m0 m1 m2 t0 t1 t2
          have HBW6 := hide ((unhide HBW).trans (hb6.mono (unhide HBW).size))
          have HE6 := hide ((unhide HE5).carry (w' := w6) (fun x hx => hb6.block x (unhide HF5 x hx).2))
          have hsz6 := hb6.size
          clear hb6 r6 s6 q0 q1 q2 d0 d6
          go_wp2_with fail
          refine bodyPost_ret (v := .tuple #[.agg #[.int .i64 0, .string ByteArray.empty, .slice none 0 0], .bool false]) (by simp [results, Tryz.results5, go_sem, m0, m1, m2]; try rfl) rfl ?_
          exact RuEnd.no (w.heap.size + 2) (by omega) (unhide HBW6) (unhide HIS) _ _ _
end Go.Proofs.YtiflfcjocngiiaaGreatDoor

/- The walk of the law on RecUnpack: whatever position and text come in, it answers true, and turns nothing that was there. The table treeFields is as the program lays it. -/

namespace Go.Proofs.YtiflfcjocngiiaaGreatDoor
open Go Go.RowKit

set_option maxRecDepth 100000 in
set_option maxHeartbeats 3200000 in
theorem lawRecUnpack_any (pos : Int) (s : ByteArray) (hx : s.size ≤ 9223372036854775807) (w : World) (hT : Tab w) :
    Calls Tryz.prog 3 #[.int .i64 pos, .string s] w fun e w' => e = .returned (.bool true) ∧ Below w.heap.size w w' := by
  go_enter Tryz.func3, Tryz.ntmps3
  by_cases hs : s.size ≤ 1048576
  case neg =>
    go_wp2_with fail
    go_ret
    exact ⟨rfl, Below.refl _ _⟩
  obtain ⟨p, K, E, T, hlen, hans⟩ := ru_ans pos s.data.toList
  have HSP := hide ((specRecUnpack_any w s pos hs).mono fun _ _ h => hans _ _ _ h)
  have HIM : Hid (∀ W, Below w.heap.size w W → Calls Tryz.prog 5 #[.int .i64 pos, .string s] W fun e w' => RuOne W w' e p K E T) := fun W hW =>
    (implRecUnpack_any W s pos hs (hT.of_block (hW.block 0 hT.lt))).mono fun _ _ h => hans _ _ _ h
  clear hT hans
  go_wp2_with fail
  refine (unhide HSP).mono ?_
  rintro e w1 ⟨aW, cW, FW, rfl, hoW, -, hlW, hb1⟩
  have hs1 := hb1.size
  have hBA : ∀ o, Below w.heap.size w (w1.alloc o) := fun o => hb1.alloc hs1 o
  have HIM1 : Hid (∀ o, Calls Tryz.prog 5 #[.int .i64 pos, .string s] (w1.alloc o) fun e w' => RuOne (w1.alloc o) w' e p K E T) := fun o => unhide HIM _ (hBA o)
  have HBA := hide hBA
  have HRW := hide (row3_alloc w1 (.int .i64 p) (.string K) (.slice aW E.length cW) 24)
  have HOW := hide hoW; have HLW := hide hlW
  clear hoW hlW hb1 HSP hBA
  go_wp2_with fail
  refine (unhide HIM1 _).mono ?_
  rintro e w2 ⟨aG, cG, FG, rfl, hoG, hnd, hlG, hb2⟩
  have hs2 := hb2.size
  rw [World.size_alloc] at hs2
  have hst : RSt w (w2.alloc (.cells #[.int .i64 p, .string K, .slice aG E.length cG] 24)) p K E E (.slice aW E.length cW) (.slice aG E.length cG) w1.heap.size w2.heap.size FW FG := by
    have hbb : Below w.heap.size w w2 := (unhide HBA _).trans (hb2.mono (unhide HBA _).size)
    have hbw := hbb.size
    refine ⟨hbb.alloc hbw _, ((unhide HOW).carry (fun b hm => ?_)), hoG.carry (fun b hm => Below.heap_alloc _ _ _ (hlG b hm).2), fun b hm => ⟨?_, fun hm2 => ?_⟩, fun b hm => ⟨?_, ?_⟩, hnd, ?_, row3_alloc _ _ _ _ _, fun hm => ?_, fun hm => ?_⟩
    · have h1 := (unhide HLW b hm).2
      rw [Below.heap_alloc _ _ _ (by omega), hb2.block b (by rw [World.size_alloc]; omega), Below.heap_alloc _ _ _ h1]
    · have := (unhide HLW b hm).2; rw [World.size_alloc]; omega
    · have := (unhide HLW b hm).2; have := (hlG b hm2).1; rw [World.size_alloc] at this; omega
    · have := (hlG b hm).1; rw [World.size_alloc] at this; omega
    · have := (hlG b hm).2; rw [World.size_alloc]; omega
    · exact ((unhide HRW).of_block (hb2.block _ (by rw [World.size_alloc]; omega))).alloc _
    · have := (hlG _ hm).1; rw [World.size_alloc] at this; omega
    · have := (hlG _ hm).2; omega
  have HST := hide hst
  clear hst hoG hlG hb2 HOW HLW HBA HIM1 HRW
  go_upto_region 5 with fail
  generalize w2.alloc (.cells #[.int .i64 p, .string K, .slice aG E.length cG] 24) = W2 at HST ⊢
  obtain ⟨⟨a0, a1, a2⟩, ⟨b0, b1, b2⟩⟩ := (unhide HST).cs
  have HEQ := hide (unhide HST).eq
  clear HST
  go_wp2_with fail
  refine (unhide HEQ).mono ?_
  rintro e w3 ⟨rfl, hst3⟩
  clear a0 a1 a2 b0 b1 b2 HEQ
  obtain ⟨-, ⟨b0, b1, b2⟩⟩ := hst3.cs
  have HMK := hide (hst3.mark hlen)
  clear hst3
  go_wp2_with fail
  refine (unhide HMK).mono ?_
  rintro e w4 ⟨rfl, hst4⟩
  clear b0 b1 b2 HMK
  obtain ⟨-, ⟨b0, b1, b2⟩⟩ := hst4.cs
  have HHT := hide (hst4.held hlen)
  clear hst4
  generalize hmt : 1 + cE E = mt at *
  have hmt1 : 1 ≤ mt := by omega
  have hmt2 : mt ≤ 1000000 := by omega
  have HME := hide hmt
  clear hmt
  go_wp2_with fail
  refine (unhide HHT).mono ?_
  rintro e w5 ⟨rfl, hst5⟩
  clear b0 b1 b2 HHT
  have HST5 := hide hst5
  have HIM2 := hide (unhide HIM w5 hst5.below)
  clear hst5 HIM
  go_wp2_with fail
  refine (unhide HIM2).mono ?_
  rintro e w6 ⟨aH, cH, FH, rfl, hoH, -, hlH, hb6⟩
  have hs6 := hb6.size
  have hst6 := ((unhide HST5).on hb6)
  have hbA : ∀ o, Below w6.heap.size w6 (w6.alloc o) := fun o => (Below.refl _ _).alloc (Nat.le_refl _) o
  have HST6 : Hid (∀ o, RSt w (w6.alloc o) p K E (mE 1 E) (.slice aW E.length cW) (.slice aG E.length cG) w1.heap.size w2.heap.size FW FG) := fun o => hst6.on (hbA o)
  have HEQ : Hid (∀ o, Calls Tryz.prog 6 #[.agg #[.int .i64 p, .string K, .slice aH E.length cH], .agg #[.int .i64 p, .string K, .slice aW E.length cW]] (w6.alloc o) fun e w' => e = .returned (.bool true) ∧ Below (w6.alloc o).heap.size (w6.alloc o) w') := fun o =>
    eqRecord_any p K E (· ∈ FH) (· ∈ FW) _ _ (w6.alloc o) (fun b hb => by have := (hlH b hb).2; rw [World.size_alloc]; omega) (fun b hb => ((hst6.on (hbA o)).lW b hb).1) (hoH.carry fun b hb => Below.heap_alloc _ _ _ (hlH b hb).2).at (hst6.on (hbA o)).oW.at
  have hrH := row3_alloc w6 (.int .i64 p) (.string K) (.slice aH E.length cH) 24
  have HRH := hide hrH
  clear hoH hlH hb6 hst6 HST5 hbA HIM2 hrH
  go_upto_region 16 with fail
  have hst7 := unhide HST6 (.cells #[.int .i64 p, .string K, .slice aH E.length cH] 24)
  have HEQ7 := hide (unhide HEQ (.cells #[.int .i64 p, .string K, .slice aH E.length cH] 24))
  generalize w6.alloc (.cells #[.int .i64 p, .string K, .slice aH E.length cH] 24) = W7 at hst7 HEQ7 HRH ⊢
  obtain ⟨⟨a0, a1, a2⟩, -⟩ := hst7.cs
  have c0 := (unhide HRH).cell (i := 0) (by omega); have c1 := (unhide HRH).cell (i := 1) (by omega); have c2 := (unhide HRH).cell (i := 2) (by omega)
  simp only [row3] at c0 c1 c2
  have HST7 := hide hst7
  clear hst7 HST6 HEQ HRH
  go_wp2_with fail
  refine (unhide HEQ7).mono ?_
  rintro e w8 ⟨rfl, hb8⟩
  have hst8 := (unhide HST7).on hb8
  clear a0 a1 a2 c0 c1 c2 HEQ7 HST7 hb8
  obtain ⟨-, ⟨b0, b1, b2⟩⟩ := hst8.cs
  have hht := hst8.held (by rw [unhide HME]; exact hmt2)
  rw [unhide HME] at hht
  have HHT := hide hht
  clear hst8 hht
  go_wp2_with fail
  refine (unhide HHT).mono ?_
  rintro e w9 ⟨rfl, hst9⟩
  have HB := hide hst9.below
  clear hst9 HHT b0 b1 b2
  go_wp2_with fail
  go_ret
  exact ⟨rfl, unhide HB⟩
end Go.Proofs.YtiflfcjocngiiaaGreatDoor

/- The cells of the table treeFields, off what the row lists of it. No conditions. -/

namespace Go.Proofs.YtiflfcjocngiiaaGreatDoor
open Go Go.RowKit Go.ChangeShapes Go.WideShapes Go.ChangeAt Go.Deep

theorem gTab : Tryz.prog.globalNamed "loop.example/teagle/impl.treeFields" = some 0 := by kernel_rfl
theorem gTabType : (Tryz.prog.globals[0]?).map (·.type) = some 119 := by kernel_rfl
theorem cellsHas : Tryz.prog.cellsOf 118 = 4 := by kernel_rfl
theorem cellsTab : Tryz.prog.cellsOf 119 = 28 := by kernel_rfl
theorem oneHas : ∃ fs : Array Field, Tryz.prog.underlying 118 = some (.struct fs) ∧ oneCellFields Tryz.prog fs = true ∧ fs.map (·.type) = #[4, 4, 4, 4] := ⟨_, Tryz.underlying118, by kernel_rfl, by kernel_rfl⟩

section
variable {H : Type} {enc : TypeId × Value → H} {W : World} {spare : Nat → Bool} {held : Bool}
set_option maxRecDepth 100000 in
theorem has_of_trod {fuel : Nat} {cs : List Value} {x : DataW H × List MemPlace} (h : DataW.trod enc Tryz.prog W 0 spare held fuel 118 cs = some x) :
    ∃ b0 b1 b2 b3 : Bool, cs = [.bool b0, .bool b1, .bool b2, .bool b3] ∧ x.1 = .agg [.lit (.bool b0), .lit (.bool b1), .lit (.bool b2), .lit (.bool b3)] := by
  obtain ⟨fs, hu, hone, hty⟩ := oneHas
  obtain ⟨xs, n, hn, hx, hlen, hxl, hf⟩ := DataW.trod_struct hu h
  rw [cellsHas] at hlen
  match cs, hlen with
  | [c0, c1, c2, c3], _ =>
    have hsz : fs.size = 4 := by have := congrArg Array.size hty; simpa using this
    have hfield : ∀ (i : Nat), (hi : i < 4) → DataW.trod enc Tryz.prog W 0 spare held n 4 (([c0, c1, c2, c3].drop i).take 1) = some (xs[i]'(by omega)) := by
      intro i hi
      have hfi : fs[i]? = some (fs[i]'(by omega)) := Array.getElem?_eq_getElem (by omega)
      obtain ⟨ho, hc⟩ := hone_of hone i _ hfi
      have := hf i _ hfi
      rw [ho, hc] at this
      have hTT : (fs[i]'(by omega)).type = 4 := by
        have e : (fs.map (·.type))[i]? = some ((fs[i]'(by omega)).type) := by simp [hsz, hi]
        rw [hty] at e
        rcases (show i = 0 ∨ i = 1 ∨ i = 2 ∨ i = 3 by omega) with rfl | rfl | rfl | rfl <;> simpa using e.symm
      rw [hTT] at this
      rw [this]; exact List.getElem?_eq_getElem (by omega)
    obtain ⟨b0, e0, f0⟩ := DataW.trod_bool Tryz.underlying4 (hfield 0 (by omega))
    obtain ⟨b1, e1, f1⟩ := DataW.trod_bool Tryz.underlying4 (hfield 1 (by omega))
    obtain ⟨b2, e2, f2⟩ := DataW.trod_bool Tryz.underlying4 (hfield 2 (by omega))
    obtain ⟨b3, e3, f3⟩ := DataW.trod_bool Tryz.underlying4 (hfield 3 (by omega))
    simp only [List.drop_succ_cons, List.drop_zero, List.take_succ_cons, List.take_zero, List.cons.injEq, and_true] at e0 e1 e2 e3
    refine ⟨b0, b1, b2, b3, by rw [e0, e1, e2, e3], ?_⟩
    obtain ⟨x0, x1, x2, x3, hxs⟩ : ∃ x0 x1 x2 x3, xs = [x0, x1, x2, x3] := by
      match xs, hxl.trans hsz with
      | [x0, x1, x2, x3], _ => exact ⟨x0, x1, x2, x3, rfl⟩
    subst hxs
    simp only [List.getElem_cons_zero, List.getElem_cons_succ] at f0 f1 f2 f3
    rw [hx, f0, f1, f2, f3]
    rfl
end

set_option maxRecDepth 100000 in
theorem tab_of_laid {W : World} (h : laidMetH Tryz.prog [("loop.example/teagle/impl.treeFields", Rows.laid_loop_example_teagle_impl_treeFields)] W) : Tab W := by
  rw [MakeChecks.laidMetH_plain _ _ _ (by kernel_rfl)] at h
  obtain ⟨ps, ⟨g0, t0, cs0, f0, p0, q0, hg0, ht0, hv0, hd0, _, _⟩, _, _⟩ := h
  obtain rfl := Option.some.inj (gTab.symm.trans hg0)
  obtain rfl := Option.some.inj (gTabType.symm.trans ht0)
  obtain ⟨xs, m, -, hx, hlen, hxl, hel⟩ := DataW.trod_array Tryz.underlying119 hd0
  rw [cellsHas] at hel
  rw [cellsTab] at hlen
  have hcell := World.var?_cell hg0 hv0
  have key : ∀ i, (hi : i < 7) → ∃ b0 b1 b2 b3 : Bool, (cs0.toList.drop (i * 4)).take 4 = [.bool b0, .bool b1, .bool b2, .bool b3] ∧ (xs[i]'(by omega)).1 = .agg [.lit (.bool b0), .lit (.bool b1), .lit (.bool b2), .lit (.bool b3)] := fun i hi => by
    have := hel i hi
    rw [List.getElem?_eq_getElem (by omega)] at this
    exact has_of_trod this
  obtain ⟨x0, x1, x2, x3, x4, x5, x6, hxs⟩ : ∃ x0 x1 x2 x3 x4 x5 x6, xs = [x0, x1, x2, x3, x4, x5, x6] := by
    match xs, hxl with
    | [x0, x1, x2, x3, x4, x5, x6], _ => exact ⟨x0, x1, x2, x3, x4, x5, x6, rfl⟩
  subst hxs
  simp only [Prod.mk.injEq, Rows.laid_loop_example_teagle_impl_treeFields, DataW.agg.injEq, List.map_cons, List.map_nil, List.cons.injEq, and_true] at hx
  obtain ⟨⟨g0, g1, g2, g3, g4, g5, g6⟩, -⟩ := hx
  obtain ⟨l⟩ := cs0
  simp only at hlen hcell key
  have cellk : ∀ i j, j < 4 → l[i * 4 + j]? = ((l.drop (i * 4)).take 4)[j]? := fun i j hj => by
    rw [List.getElem?_take_of_lt hj, List.getElem?_drop]
  obtain ⟨a0, a1, a2, a3, l0, d0⟩ := key 0 (by omega)
  simp only [List.getElem_cons_zero] at d0
  rw [d0] at g0
  simp only [DataW.agg.injEq, List.cons.injEq, DataW.lit.injEq, Lit.bool.injEq, and_true] at g0
  obtain ⟨rfl, rfl, rfl, rfl⟩ := g0
  obtain ⟨a0, a1, a2, a3, l1, d1⟩ := key 1 (by omega)
  simp only [List.getElem_cons_zero, List.getElem_cons_succ] at d1
  rw [d1] at g1
  simp only [DataW.agg.injEq, List.cons.injEq, DataW.lit.injEq, Lit.bool.injEq, and_true] at g1
  obtain ⟨rfl, rfl, rfl, rfl⟩ := g1
  obtain ⟨a0, a1, a2, a3, l2, d2⟩ := key 2 (by omega)
  simp only [List.getElem_cons_zero, List.getElem_cons_succ] at d2
  rw [d2] at g2
  simp only [DataW.agg.injEq, List.cons.injEq, DataW.lit.injEq, Lit.bool.injEq, and_true] at g2
  obtain ⟨rfl, rfl, rfl, rfl⟩ := g2
  obtain ⟨a0, a1, a2, a3, l3, d3⟩ := key 3 (by omega)
  simp only [List.getElem_cons_zero, List.getElem_cons_succ] at d3
  rw [d3] at g3
  simp only [DataW.agg.injEq, List.cons.injEq, DataW.lit.injEq, Lit.bool.injEq, and_true] at g3
  obtain ⟨rfl, rfl, rfl, rfl⟩ := g3
  obtain ⟨a0, a1, a2, a3, l4, d4⟩ := key 4 (by omega)
  simp only [List.getElem_cons_zero, List.getElem_cons_succ] at d4
  rw [d4] at g4
  simp only [DataW.agg.injEq, List.cons.injEq, DataW.lit.injEq, Lit.bool.injEq, and_true] at g4
  obtain ⟨rfl, rfl, rfl, rfl⟩ := g4
  obtain ⟨a0, a1, a2, a3, l5, d5⟩ := key 5 (by omega)
  simp only [List.getElem_cons_zero, List.getElem_cons_succ] at d5
  rw [d5] at g5
  simp only [DataW.agg.injEq, List.cons.injEq, DataW.lit.injEq, Lit.bool.injEq, and_true] at g5
  obtain ⟨rfl, rfl, rfl, rfl⟩ := g5
  obtain ⟨a0, a1, a2, a3, l6, d6⟩ := key 6 (by omega)
  simp only [List.getElem_cons_zero, List.getElem_cons_succ] at d6
  rw [d6] at g6
  simp only [DataW.agg.injEq, List.cons.injEq, DataW.lit.injEq, Lit.bool.injEq, and_true] at g6
  obtain ⟨rfl, rfl, rfl, rfl⟩ := g6
  have hc' : ∀ k, W.cell? ⟨0, k, none⟩ = l[k]? := fun k => (hcell k).trans (by simp)
  intro k hk
  rw [hc' k]
  have hcase : k = 0 ∨ k = 1 ∨ k = 2 ∨ k = 3 ∨ k = 4 ∨ k = 5 ∨ k = 6 ∨ k = 7 ∨ k = 8 ∨ k = 9 ∨ k = 10 ∨ k = 11 ∨ k = 12 ∨ k = 13 ∨ k = 14 ∨ k = 15 ∨ k = 16 ∨ k = 17 ∨ k = 18 ∨ k = 19 ∨ k = 20 ∨ k = 21 ∨ k = 22 ∨ k = 23 ∨ k = 24 ∨ k = 25 ∨ k = 26 ∨ k = 27 := by omega
  rcases hcase with rfl | rfl | rfl | rfl | rfl | rfl | rfl | rfl | rfl | rfl | rfl | rfl | rfl | rfl | rfl | rfl | rfl | rfl | rfl | rfl | rfl | rfl | rfl | rfl | rfl | rfl | rfl | rfl
  · exact (cellk 0 0 (by omega)).trans (congrArg (fun q => q[0]?) l0)
  · exact (cellk 0 1 (by omega)).trans (congrArg (fun q => q[1]?) l0)
  · exact (cellk 0 2 (by omega)).trans (congrArg (fun q => q[2]?) l0)
  · exact (cellk 0 3 (by omega)).trans (congrArg (fun q => q[3]?) l0)
  · exact (cellk 1 0 (by omega)).trans (congrArg (fun q => q[0]?) l1)
  · exact (cellk 1 1 (by omega)).trans (congrArg (fun q => q[1]?) l1)
  · exact (cellk 1 2 (by omega)).trans (congrArg (fun q => q[2]?) l1)
  · exact (cellk 1 3 (by omega)).trans (congrArg (fun q => q[3]?) l1)
  · exact (cellk 2 0 (by omega)).trans (congrArg (fun q => q[0]?) l2)
  · exact (cellk 2 1 (by omega)).trans (congrArg (fun q => q[1]?) l2)
  · exact (cellk 2 2 (by omega)).trans (congrArg (fun q => q[2]?) l2)
  · exact (cellk 2 3 (by omega)).trans (congrArg (fun q => q[3]?) l2)
  · exact (cellk 3 0 (by omega)).trans (congrArg (fun q => q[0]?) l3)
  · exact (cellk 3 1 (by omega)).trans (congrArg (fun q => q[1]?) l3)
  · exact (cellk 3 2 (by omega)).trans (congrArg (fun q => q[2]?) l3)
  · exact (cellk 3 3 (by omega)).trans (congrArg (fun q => q[3]?) l3)
  · exact (cellk 4 0 (by omega)).trans (congrArg (fun q => q[0]?) l4)
  · exact (cellk 4 1 (by omega)).trans (congrArg (fun q => q[1]?) l4)
  · exact (cellk 4 2 (by omega)).trans (congrArg (fun q => q[2]?) l4)
  · exact (cellk 4 3 (by omega)).trans (congrArg (fun q => q[3]?) l4)
  · exact (cellk 5 0 (by omega)).trans (congrArg (fun q => q[0]?) l5)
  · exact (cellk 5 1 (by omega)).trans (congrArg (fun q => q[1]?) l5)
  · exact (cellk 5 2 (by omega)).trans (congrArg (fun q => q[2]?) l5)
  · exact (cellk 5 3 (by omega)).trans (congrArg (fun q => q[3]?) l5)
  · exact (cellk 6 0 (by omega)).trans (congrArg (fun q => q[0]?) l6)
  · exact (cellk 6 1 (by omega)).trans (congrArg (fun q => q[1]?) l6)
  · exact (cellk 6 2 (by omega)).trans (congrArg (fun q => q[2]?) l6)
  · exact (cellk 6 3 (by omega)).trans (congrArg (fun q => q[3]?) l6)
end Go.Proofs.YtiflfcjocngiiaaGreatDoor
