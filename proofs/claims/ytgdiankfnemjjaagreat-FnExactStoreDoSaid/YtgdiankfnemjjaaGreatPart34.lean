/- The walks of the program's diskBehind and StoreDo: what writes do one by one, in memory of its own; that they turn nothing that was there. No conditions but that the writes' names are bounded. -/
import Derived.Test.YtgdiankfnemjjaaGreatPart33
import Derived.Test.YtgdiankfnemjjaaGreatPart14
import Derived.Test.YtgdiankfnemjjaaGreatPart28
import Derived.Test.YtgdiankfnemjjaaGreatPart18
import Derived.Test.YtgdiankfnemjjaaGreatPart26
namespace Go.Proofs.YtgdiankfnemjjaaGreat
open Go Go.RowKit Go.WideMaps Go.Maps

def r6B (a b c d e f : Value) : Nat → Value
  | 0 => a
  | 1 => b
  | 2 => c
  | 3 => d
  | 4 => e
  | _ => f
theorem r6B_alloc (w : World) (a b c d e f : Value) (t : TypeId) : (w.alloc (.cells #[a, b, c, d, e, f] t)).rowIs w.heap.size t 6 (r6B a b c d e f) :=
  World.rowIs_alloc w #[a, b, c, d, e, f] t _ (fun i hi => by
    have hi' : i < 6 := by simpa using hi
    rcases (show i = 0 ∨ i = 1 ∨ i = 2 ∨ i = 3 ∨ i = 4 ∨ i = 5 by omega) with rfl | rfl | rfl | rfl | rfl | rfl <;> rfl)
theorem WsAt.take {P : Nat → Prop} {w : World} {a : Option Addr} {cap : Nat} {ws : List Wr} (h : WsAt P w (.slice a ws.length cap) ws) (k : Nat) (hk : k ≤ ws.length) (a' : Option Addr) (ha : 0 < k → a' = a) : WsAt P w (.slice a' (ws.take k).length cap) (ws.take k) := by
  obtain ⟨⟨a2, cap2, h1, h2, h3⟩, hok⟩ := h
  rw [List.length_map] at h1 h2
  simp only [Value.slice.injEq, true_and] at h1
  obtain ⟨rfl, rfl⟩ := h1
  have hl : (ws.take k).length = k := by rw [List.length_take]; omega
  refine ⟨⟨a', cap, by rw [List.length_map], by rw [List.length_map]; omega, fun i hi => ?_⟩, fun x hx => hok x (List.mem_of_mem_take hx)⟩
  rw [List.length_map] at hi
  obtain ⟨b, o, e, hb, hc⟩ := h3 i (by rw [List.length_map]; omega)
  refine ⟨b, o, by rw [ha (by omega)]; exact e, hb, fun j hj => ?_⟩
  rw [hc j hj]
  simp [List.getElem_take]
/-- Three rows of one's own are a disk of its own. -/
theorem rows_own {base : Nat} {W : World} {x0 x1 x2 : Value} {fs : List Df} {ns : List ByteArray} {ms : List Dm} (h0 : W.ownsRow base 84 3 x0 fs.length (fs.map Df.cs).flatten) (h1' : W.ownsRow base 9 1 x1 ns.length (ns.map Value.string)) (h2' : W.ownsRow base 88 2 x2 ms.length (ms.map Dm.cs).flatten) (hf : ∀ f, f ∈ fs → f.okM) (hn : ∀ x, x ∈ ns → x.size ≤ 9223372036854775807) (hm : ∀ m, m ∈ ms → m.okM) :
    ∃ F0 F1 F2, DkOwn W ⟨fs, ns, ms⟩ ⟨x0, x1, x2⟩ F0 F1 F2 ∧ (F0 ++ F1 ++ F2).Nodup ∧ ∀ b, b ∈ F0 ++ F1 ++ F2 → base ≤ b ∧ b < W.heap.size := by
  obtain ⟨F0, h1, h2, h3, h4⟩ := FlatOwn.of_row (rs := fs.map Df.cs) (n := 3) (by rw [List.length_map]; exact h0) (fun r hr => by obtain ⟨f, -, rfl⟩ := List.mem_map.1 hr; rfl)
  obtain ⟨F1, g1, g2, g3, g4⟩ := strsOwn_of_row h1' hn
  obtain ⟨F2, k1, k2, k3, k4⟩ := FlatOwn.of_row (rs := ms.map Dm.cs) (n := 2) (by rw [List.length_map]; exact h2') (fun r hr => by obtain ⟨f, -, rfl⟩ := List.mem_map.1 hr; rfl)
  refine ⟨F0, F1, F2, ⟨⟨h1, hf⟩, g1, ⟨k1, hm⟩⟩, ?_, fun b hb => ?_⟩
  · refine List.nodup_append.2 ⟨List.nodup_append.2 ⟨h4, g2, fun a ha b hb e => by subst e; exact owns_ne h0 h1' (by decide) (h2 a ha) (g4 a hb)⟩, k4, fun a ha b hb e => ?_⟩
    subst e
    rcases List.mem_append.1 ha with ha | ha
    · exact owns_ne h0 h2' (by decide) (h2 a ha) (k2 a hb)
    · exact owns_ne h1' h2' (by decide) (g4 a ha) (k2 a hb)
  · rcases List.mem_append.1 hb with hb | hb
    · rcases List.mem_append.1 hb with hb | hb
      · exact h3 b hb
      · exact g3 b hb
    · exact k3 b hb
/-- What diskBehind comes to. -/
noncomputable def bhD (d : Dk) (ws : List Wr) (a : Ac) : Dk × Int :=
  if (runW d (ws.take (toW a ws.length))).2 = false then ((runW d (ws.take (toW a ws.length))).1, 4)
  else if a.cuts = true then (cutD (runW d (ws.take (toW a ws.length))).1 a.moves a.keep, 6)
  else ((runW d (ws.take (toW a ws.length))).1, 0)
/-- A disk of its own is put into a box that lies ahead of it. -/
theorem own_fin {w W : World} {base B n0 : Nat} {v0 v1 v2 : Value} {D : Dk} {n : Int} {F0 F1 F2 : List Nat} (ho : DkOwn W D ⟨v0, v1, v2⟩ F0 F1 F2) (hnd : (F0 ++ F1 ++ F2).Nodup) (hF : ∀ b, b ∈ F0 ++ F1 ++ F2 → base ≤ b ∧ b < W.heap.size) (hB : B < base) (hn0 : n0 = w.heap.size) (hB0 : n0 ≤ B) (hb : Below n0 w W) :
    OwnEnd2 w (((W.setCell ⟨B, 0, none⟩ v0).setCell ⟨B, 1, none⟩ v1).setCell ⟨B, 2, none⟩ v2) (.returned (.tuple #[.agg #[v0, v1, v2], .int .i64 n])) D n := by
  subst hn0
  have hk : ∀ b, base ≤ b → (((W.setCell ⟨B, 0, none⟩ v0).setCell ⟨B, 1, none⟩ v1).setCell ⟨B, 2, none⟩ v2).heap[b]? = W.heap[b]? := fun b hb => by
    rw [Below.heap_setCell _ _ _ _ (by simp; omega), Below.heap_setCell _ _ _ _ (by simp; omega), Below.heap_setCell _ _ _ _ (by simp; omega)]
  exact ⟨⟨v0, v1, v2⟩, F0, F1, F2, rfl, ho.carry (fun b hb => hk b (hF b hb).1), hnd, fun b hb => ⟨by have := (hF b hb).1; omega, by simpa using (hF b hb).2⟩, ((hb.setCell (by simp; omega) _).setCell (by simp; omega) _).setCell (by simp; omega) _⟩

set_option maxRecDepth 100000 in
set_option maxHeartbeats 6400000 in
theorem diskBehind_any (d : Dk) (ws : List Wr) (a : Ac) (P : Nat → Prop) (c : C3) (av : Option Addr) (kv : Value) (w : World) (hP : ∀ b, P b → b < w.heap.size) (hd : DkAt P w d c) (hok : DkOkS d) (hws : WsAt P w (.slice av ws.length ws.length) ws) (hkz : ZsAt P w kv a.keep) (hsz : ∀ x, x ∈ ws → x.x.size ≤ 1048576) :
    Calls Tryz.prog 35 #[.agg #[c.c0, c.c1, c.c2], .slice av ws.length ws.length, .agg #[.int .i64 a.kind, .string a.data, .bool a.cuts, .int .i64 a.after, .int .i64 a.moves, kv]] w fun e w' => OwnEnd2 w w' e (bhD d ws a).1 (bhD d ws a).2 := by
  obtain ⟨c0, c1, c2⟩ := c
  have hbx : ∀ o o' o'', Below w.heap.size w (((w.alloc o).alloc o').alloc o'') := fun o o' o'' => (((Below.refl _ _).alloc (Nat.le_refl _) o).alloc (by simp) o').alloc (by simp; omega) o''
  have HCD := hide (fun o o' o'' => copyDisk_any d P ⟨c0, c1, c2⟩ (((w.alloc o).alloc o').alloc o'') (fun b hb => Nat.lt_of_lt_of_le (hP b hb) (hbx o o' o'').size) (hd.carry (fun b hb => (hbx o o' o'').block b (hP b hb)) (fun _ h => h)) ⟨by have := hok.l1; omega, by have := hok.l2; omega, by have := hok.l3; omega⟩ (ok_small hok))
  have hr1 : ∀ o o'', (((w.alloc o).alloc (.cells #[.int .i64 a.kind, .string a.data, .bool a.cuts, .int .i64 a.after, .int .i64 a.moves, kv] 43)).alloc o'').rowIs (w.heap.size + 1) 43 6 (r6B (.int .i64 a.kind) (.string a.data) (.bool a.cuts) (.int .i64 a.after) (.int .i64 a.moves) kv) := fun o o'' => by
    have := (r6B_alloc (w.alloc o) (.int .i64 a.kind) (.string a.data) (.bool a.cuts) (.int .i64 a.after) (.int .i64 a.moves) kv 43).alloc o''
    rw [World.size_alloc] at this
    exact this
  have hr2 : ∀ o o', (((w.alloc o).alloc o').alloc (.cells #[.slice none 0 0, .slice none 0 0, .slice none 0 0] 37)).rowIs (w.heap.size + 1 + 1) 37 3 (row3 (.slice none 0 0) (.slice none 0 0) (.slice none 0 0)) := fun o o' => by
    have := row3_alloc ((w.alloc o).alloc o') (.slice none 0 0) (.slice none 0 0) (.slice none 0 0) 37
    rw [World.size_alloc, World.size_alloc] at this
    exact this
  have HP := hide hP; have HBX := hide hbx; have HR1 := hide hr1; have HR2 := hide hr2; have HOK := hide hok; have HWS := hide hws; have HKZ := hide hkz; have HSZ := hide hsz
  obtain ⟨ak, ck, ekv, -, -⟩ := hkz
  subst ekv
  clear hP hd hbx hr1 hr2 hok hws hsz
  go_enter Tryz.func35, Tryz.ntmps35
  go_wp2_with fail
  refine (unhide HCD _ _ _).mono ?_
  rintro e w2 ⟨⟨u0, u1, u2⟩, rfl, h0, h1, h2, hb2⟩
  clear HCD
  simp only at h0 h1 h2
  have hs2 : w.heap.size + 3 ≤ w2.heap.size := by have := hb2.size; simpa using this
  rw [World.size_alloc, World.size_alloc, World.size_alloc] at h0 h1 h2
  obtain ⟨b0, r0, e0⟩ := own_slice h0
  obtain ⟨b1, r1, e1⟩ := own_slice h1
  obtain ⟨b2, r2, e2⟩ := own_slice h2
  subst e0 e1 e2
  have hb02 := (unhide HBX _ _ _).trans (hb2.mono (unhide HBX _ _ _).size)
  have hal : ∀ o, Below w2.heap.size w2 (w2.alloc o) := fun o => (Below.refl _ _).alloc (Nat.le_refl _) o
  have hq1 := (unhide HR1 _ _).of_block (hb2.block (w.heap.size + 1) (by simp))
  have hq2 := (unhide HR2 _ _).of_block (hb2.block (w.heap.size + 1 + 1) (by simp))
  have hmx : MxSt (w.heap.size + 1 + 1 + 1) w2.heap.size (w2.alloc (.cells #[.slice b0 d.files.length r0, .slice b1 d.names.length r1, .slice b2 d.moves.length r2] 37)) (.slice b0 d.files.length r0) (.slice b1 d.names.length r1) (.slice b2 d.moves.length r2) d.files d.names d.moves := ⟨row3_alloc _ _ _ _ _, h0.alloc _, h1.alloc _, h2.alloc _⟩
  have hb03 := hb02.trans ((hal (.cells #[.slice b0 d.files.length r0, .slice b1 d.names.length r1, .slice b2 d.moves.length r2] 37)).mono hb02.size)
  have hdw : ∀ m, m ≤ ws.length → Calls Tryz.prog 65 #[.pointer (some ⟨w2.heap.size, 0, none⟩), .slice av m ws.length] (w2.alloc (.cells #[.slice b0 d.files.length r0, .slice b1 d.names.length r1, .slice b2 d.moves.length r2] 37)) fun e w' => e = .returned (.bool (runW d (ws.take m)).2) ∧ (∃ o' : C3, MxSt (w.heap.size + 1 + 1 + 1) w2.heap.size w' o'.c0 o'.c1 o'.c2 (runW d (ws.take m)).1.files (runW d (ws.take m)).1.names (runW d (ws.take m)).1.moves) ∧ Below (w.heap.size + 1 + 1 + 1) (w2.alloc (.cells #[.slice b0 d.files.length r0, .slice b1 d.names.length r1, .slice b2 d.moves.length r2] 37)) w' := fun m hmw => by
    have hl : (ws.take m).length = m := by rw [List.length_take]; omega
    have hw3 := ((unhide HWS).take m hmw av (fun _ => rfl)).carry (w' := w2.alloc (.cells #[.slice b0 d.files.length r0, .slice b1 d.names.length r1, .slice b2 d.moves.length r2] 37)) (Q := P) (fun b hb => hb03.block b (unhide HP b hb)) (fun _ h => h)
    have := doWrites_any (w2.alloc (.cells #[.slice b0 d.files.length r0, .slice b1 d.names.length r1, .slice b2 d.moves.length r2] 37)) d (ws.take m) av ws.length P (w.heap.size + 1 + 1 + 1) w2.heap.size ⟨.slice b0 d.files.length r0, .slice b1 d.names.length r1, .slice b2 d.moves.length r2⟩ hmx (unhide HOK) (by omega) hw3 (fun b hb => by have := unhide HP b hb; omega) (fun x hx => unhide HSZ x (List.mem_of_mem_take hx))
    rw [hl] at this
    exact this
  have i2 := fun o => (hq1.alloc o).cell (i := 2) (by omega); have i3 := fun o => (hq1.alloc o).cell (i := 3) (by omega)
  simp only [r6B] at i2 i3
  have HDW := hide hdw; have HQ1 := hide (fun o => hq1.alloc o); have HQ2 := hide (fun o => hq2.alloc o); have HB03 := hide hb03
  clear h0 h1 h2 hb2 hb02 hal hq1 hq2 hmx hb03 hdw
  cases hcu : a.cuts with
  | true =>
    rw [hcu] at i2
    have hbh : bhD d ws a = if (runW d (ws.take (clampQ a.after ws.length))).2 = false then ((runW d (ws.take (clampQ a.after ws.length))).1, 4) else (cutD (runW d (ws.take (clampQ a.after ws.length))).1 a.moves a.keep, 6) := by
      unfold bhD toW; simp only [hcu, if_true]
    have hmm : max 0 (min a.after (ws.length : Int)) = ((clampQ a.after ws.length : Nat) : Int) := (clampQ_int _ _).symm
    have hml := clampQ_le a.after ws.length
    have HBH := hide hbh
    clear hbh
    generalize clampQ a.after ws.length = m at *
    have hokR := runW_ok (ws.take m) d (unhide HOK)
    have hd0 := unhide HDW m hml
    generalize hR : runW d (ws.take m) = R at *
    obtain ⟨D, f⟩ := R
    simp only at hokR hd0
    have HD := hide hd0; have HOKD := hide hokR
    clear hd0 hokR hR HDW
    go_wp2_with fail
    refine (unhide HD).mono ?_
    rintro e w4 ⟨rfl, ⟨⟨u0, u1, u2⟩, hm4⟩, hb4⟩
    clear i2 i3 HD
    simp only at hm4
    obtain ⟨t0, s0, e0⟩ := own_slice hm4.o0
    obtain ⟨t1, s1, e1⟩ := own_slice hm4.o1
    obtain ⟨t2, s2, e2⟩ := own_slice hm4.o2
    subst e0 e1 e2
    have hb04 := (unhide HB03).trans (hb4.mono (by omega))
    have hs4 := hm4.row.lt
    have hq1 := (unhide HQ1 _).of_block (hb4.block (w.heap.size + 1) (by omega)); have hq2 := (unhide HQ2 _).of_block (hb4.block (w.heap.size + 1 + 1) (by omega))
    have y0 := hq2.cell (i := 0) (by omega); have y1 := hq2.cell (i := 1) (by omega); have y2 := hq2.cell (i := 2) (by omega)
    have z := hq2.frozen
    have l0 := hm4.row.cell (i := 0) (by omega); have l1 := hm4.row.cell (i := 1) (by omega); have l2 := hm4.row.cell (i := 2) (by omega)
    have j2 := hq1.cell (i := 2) (by omega); have j4 := hq1.cell (i := 4) (by omega); have j5 := hq1.cell (i := 5) (by omega)
    simp only [row3] at y0 y1 y2 l0 l1 l2
    simp only [r6B] at j2 j4 j5
    rw [hcu] at j2
    obtain ⟨o1, o2, o3⟩ := ok_okM (unhide HOKD)
    obtain ⟨F0, F1, F2, ho, hnd, hF⟩ := hm4.own o1 o2 o3
    cases f with
    | false =>
      have HF := hide (own_fin (n := 4) (B := w.heap.size + 1 + 1) ho hnd hF (by omega) rfl (by omega) hb04)
      clear hm4 hb4 hb04 hq1 hq2 ho hnd hF o1 o2 o3
      generalize D.files.length = N0 at *
      generalize D.names.length = N1 at *
      generalize D.moves.length = N2 at *
      go_wp2_with fail
      try simp only [Exit.inBlock, Exit.then]
      refine bodyPost_ret (v := .tuple #[.agg #[.slice t0 N0 s0, .slice t1 N1 s1, .slice t2 N2 s2], .int .i64 4]) (by simp [results, Tryz.results35, go_sem, y0, y1, y2]) rfl ?_
      rw [unhide HBH]
      exact unhide HF
    | true =>
      have hkz := (unhide HKZ).carry (w' := w4) (Q := fun b => b < w4.heap.size) (fun b hb => hb04.block b (unhide HP b hb)) (fun b hb => by have := unhide HP b hb; have := hb04.size; omega)
      have HCT := hide (implDiskCut_any D a.moves a.keep (fun b => b < w4.heap.size) ⟨.slice t0 D.files.length s0, .slice t1 D.names.length s1, .slice t2 D.moves.length s2⟩ (.slice ak a.keep.length ck) w4 (fun _ h => h) (ho.at.carry (fun _ _ => rfl) (fun b hb => (hF b hb).2)) hkz)
      have HB04 := hide hb04; have HQ2' := hide hq2
      clear hm4 hb4 hb04 hq1 hq2 ho hnd hF o1 o2 o3 y0 y1 y2 z hkz
      generalize D.files.length = N0 at *
      generalize D.names.length = N1 at *
      generalize D.moves.length = N2 at *
      go_wp2_with fail
      refine (unhide HCT).mono ?_
      rintro e w5 ⟨⟨u0, u1, u2⟩, F0, F1, F2, rfl, ho, hnd, hF, hb5⟩
      clear l0 l1 l2 j2 j4 j5 HCT
      have hat := ho.at
      obtain ⟨t0, s0, e0, -, -⟩ := hat.fs.open
      obtain ⟨t1, s1, e1, -, -⟩ := hat.ns
      obtain ⟨t2, s2, e2, -, -⟩ := hat.ms.open
      simp only at e0 e1 e2
      subst e0 e1 e2
      have hs5 := hb5.size
      have hq2 := (unhide HQ2').of_block (hb5.block (w.heap.size + 1 + 1) (by omega))
      have y0 := hq2.cell (i := 0) (by omega); have y1 := hq2.cell (i := 1) (by omega); have y2 := hq2.cell (i := 2) (by omega)
      have z := hq2.frozen
      simp only [row3] at y0 y1 y2
      have HF := hide (own_fin (n := 6) (B := w.heap.size + 1 + 1) ho hnd hF (by omega) rfl (by omega) ((unhide HB04).trans (hb5.mono (by have := (unhide HB04).size; omega))))
      clear hat ho hnd hF hb5 hq2
      generalize (cutD D a.moves a.keep).files.length = M0 at *
      generalize (cutD D a.moves a.keep).names.length = M1 at *
      generalize (cutD D a.moves a.keep).moves.length = M2 at *
      go_wp2_with fail
      try simp only [Exit.inBlock, Exit.then]
      refine bodyPost_ret (v := .tuple #[.agg #[.slice t0 M0 s0, .slice t1 M1 s1, .slice t2 M2 s2], .int .i64 6]) (by simp [results, Tryz.results35, go_sem, y0, y1, y2]) rfl ?_
      rw [unhide HBH]
      exact unhide HF
  | false =>
    rw [hcu] at i2
    have hbh : bhD d ws a = if (runW d ws).2 = false then ((runW d ws).1, 4) else ((runW d ws).1, 0) := by
      unfold bhD toW; simp only [hcu, Bool.false_eq_true, if_false, List.take_length]
    have HBH := hide hbh
    clear hbh
    have hokR := runW_ok ws d (unhide HOK)
    have hd0 := unhide HDW ws.length (Nat.le_refl _)
    rw [List.take_length] at hd0
    generalize hR : runW d ws = R at *
    obtain ⟨D, f⟩ := R
    simp only at hokR hd0
    have HD := hide hd0; have HOKD := hide hokR
    clear hd0 hokR hR HDW
    go_wp2_with fail
    refine (unhide HD).mono ?_
    rintro e w4 ⟨rfl, ⟨⟨u0, u1, u2⟩, hm4⟩, hb4⟩
    clear i2 i3 HD
    simp only at hm4
    obtain ⟨t0, s0, e0⟩ := own_slice hm4.o0
    obtain ⟨t1, s1, e1⟩ := own_slice hm4.o1
    obtain ⟨t2, s2, e2⟩ := own_slice hm4.o2
    subst e0 e1 e2
    have hb04 := (unhide HB03).trans (hb4.mono (by omega))
    have hs4 := hm4.row.lt
    have hq1 := (unhide HQ1 _).of_block (hb4.block (w.heap.size + 1) (by omega)); have hq2 := (unhide HQ2 _).of_block (hb4.block (w.heap.size + 1 + 1) (by omega))
    have y0 := hq2.cell (i := 0) (by omega); have y1 := hq2.cell (i := 1) (by omega); have y2 := hq2.cell (i := 2) (by omega)
    have z := hq2.frozen
    have l0 := hm4.row.cell (i := 0) (by omega); have l1 := hm4.row.cell (i := 1) (by omega); have l2 := hm4.row.cell (i := 2) (by omega)
    have j2 := hq1.cell (i := 2) (by omega); have j4 := hq1.cell (i := 4) (by omega); have j5 := hq1.cell (i := 5) (by omega)
    simp only [row3] at y0 y1 y2 l0 l1 l2
    simp only [r6B] at j2 j4 j5
    rw [hcu] at j2
    obtain ⟨o1, o2, o3⟩ := ok_okM (unhide HOKD)
    obtain ⟨F0, F1, F2, ho, hnd, hF⟩ := hm4.own o1 o2 o3
    cases f with
    | false =>
      have HF := hide (own_fin (n := 4) (B := w.heap.size + 1 + 1) ho hnd hF (by omega) rfl (by omega) hb04)
      clear hm4 hb4 hb04 hq1 hq2 ho hnd hF o1 o2 o3
      generalize D.files.length = N0 at *
      generalize D.names.length = N1 at *
      generalize D.moves.length = N2 at *
      go_wp2_with fail
      try simp only [Exit.inBlock, Exit.then]
      refine bodyPost_ret (v := .tuple #[.agg #[.slice t0 N0 s0, .slice t1 N1 s1, .slice t2 N2 s2], .int .i64 4]) (by simp [results, Tryz.results35, go_sem, y0, y1, y2]) rfl ?_
      rw [unhide HBH]
      exact unhide HF
    | true =>
      have HF := hide (own_fin (n := 0) (B := w.heap.size + 1 + 1) ho hnd hF (by omega) rfl (by omega) hb04)
      clear hm4 hb4 hb04 hq1 hq2 ho hnd hF o1 o2 o3
      generalize D.files.length = N0 at *
      generalize D.names.length = N1 at *
      generalize D.moves.length = N2 at *
      go_wp2_with fail
      try simp only [Exit.inBlock, Exit.then]
      refine bodyPost_ret (v := .tuple #[.agg #[.slice t0 N0 s0, .slice t1 N1 s1, .slice t2 N2 s2], .int .i64 0]) (by simp [results, Tryz.results35, go_sem, y0, y1, y2]) rfl ?_
      rw [unhide HBH]
      exact unhide HF
theorem soD_bad {d : Dk} {ws : List Wr} {a : Ac} (h : ¬ DkOkS d) : soD d ws a = (⟨[], [], []⟩, 7) := by unfold soD; rw [if_pos h]
theorem soD_large {d : Dk} {ws : List Wr} {a : Ac} (h : DkOkS d) (hl : 2000 < ws.length) : soD d ws a = (d, 5) := by unfold soD; rw [if_neg (fun hn => hn h), if_pos hl]
theorem soD_go {d : Dk} {ws : List Wr} {a : Ac} (h : DkOkS d) (hl : ¬ 2000 < ws.length) : soD d ws a = bhD d ws a := by unfold soD bhD; rw [if_neg (fun hn => hn h), if_neg hl]

set_option maxRecDepth 100000 in
set_option maxHeartbeats 6400000 in
theorem implStoreDo_any (d : Dk) (ws : List Wr) (a : Ac) (P : Nat → Prop) (c : C3) (av : Option Addr) (kv : Value) (w : World) (hP : ∀ b, P b → b < w.heap.size) (hd : DkAt P w d c) (hws : WsAt P w (.slice av ws.length ws.length) ws) (hkz : ZsAt P w kv a.keep) (hsz : ∀ x, x ∈ ws → x.x.size ≤ 1048576) :
    Calls Tryz.prog 11 #[.agg #[c.c0, c.c1, c.c2], .slice av ws.length ws.length, .agg #[.int .i64 a.kind, .string a.data, .bool a.cuts, .int .i64 a.after, .int .i64 a.moves, kv]] w fun e w' => OwnEnd2 w w' e (soD d ws a).1 (soD d ws a).2 := by
  obtain ⟨c0, c1, c2⟩ := c
  have hbx : ∀ o o' o'', Below w.heap.size w (((w.alloc o).alloc o').alloc o'') := fun o o' o'' => (((Below.refl _ _).alloc (Nat.le_refl _) o).alloc (by simp) o').alloc (by simp; omega) o''
  have HOKC := hide (fun o o' o'' => implDiskOk_any d P ⟨c0, c1, c2⟩ (((w.alloc o).alloc o').alloc o'') (fun b hb => Nat.lt_of_lt_of_le (hP b hb) (hbx o o' o'').size) (hd.carry (fun b hb => (hbx o o' o'').block b (hP b hb)) (fun _ h => h)))
  have hr0 : ∀ o' o'', (((w.alloc (.cells #[c0, c1, c2] 37)).alloc o').alloc o'').rowIs w.heap.size 37 3 (row3 c0 c1 c2) := fun o' o'' => ((row3_alloc w c0 c1 c2 37).alloc o').alloc o''
  have hr1 : ∀ o o'', (((w.alloc o).alloc (.cells #[.int .i64 a.kind, .string a.data, .bool a.cuts, .int .i64 a.after, .int .i64 a.moves, kv] 43)).alloc o'').rowIs (w.heap.size + 1) 43 6 (r6B (.int .i64 a.kind) (.string a.data) (.bool a.cuts) (.int .i64 a.after) (.int .i64 a.moves) kv) := fun o o'' => by
    have := (r6B_alloc (w.alloc o) (.int .i64 a.kind) (.string a.data) (.bool a.cuts) (.int .i64 a.after) (.int .i64 a.moves) kv 43).alloc o''
    rw [World.size_alloc] at this
    exact this
  have hr2 : ∀ o o', (((w.alloc o).alloc o').alloc (.cells #[.slice none 0 0, .slice none 0 0, .slice none 0 0] 37)).rowIs (w.heap.size + 1 + 1) 37 3 (row3 (.slice none 0 0) (.slice none 0 0) (.slice none 0 0)) := fun o o' => by
    have := row3_alloc ((w.alloc o).alloc o') (.slice none 0 0) (.slice none 0 0) (.slice none 0 0) 37
    rw [World.size_alloc, World.size_alloc] at this
    exact this
  have HP := hide hP; have HBX := hide hbx; have HR0 := hide hr0; have HR1 := hide hr1; have HR2 := hide hr2; have HWS := hide hws; have HKZ := hide hkz; have HSZ := hide hsz; have HD := hide hd
  obtain ⟨ak, ck, ekv, -, -⟩ := hkz
  subst ekv
  obtain ⟨a0, p0, g0, -, -⟩ := hd.fs.open
  obtain ⟨a1, p1, g1, -, -⟩ := hd.ns
  obtain ⟨a2, p2, g2, -, -⟩ := hd.ms.open
  simp only at g0 g1 g2
  subst g0 g1 g2
  clear hP hd hbx hr0 hr1 hr2 hws hsz
  go_enter Tryz.func11, Tryz.ntmps11
  go_wp2_with fail
  refine (unhide HOKC _ _ _).mono ?_
  rintro e w1 ⟨⟨r, rfl, hr⟩, hb1⟩
  clear HOKC
  have hs1 : w.heap.size + 3 ≤ w1.heap.size := by have := hb1.size; simpa using this
  have hb01 := (unhide HBX _ _ _).trans (hb1.mono (unhide HBX _ _ _).size)
  have hq0 := (unhide HR0 _ _).of_block (hb1.block w.heap.size (by simp; omega)); have hq1 := (unhide HR1 _ _).of_block (hb1.block (w.heap.size + 1) (by simp)); have hq2 := (unhide HR2 _ _).of_block (hb1.block (w.heap.size + 1 + 1) (by simp))
  have y0 := hq2.cell (i := 0) (by omega); have y1 := hq2.cell (i := 1) (by omega); have y2 := hq2.cell (i := 2) (by omega)
  have z := hq2.frozen
  simp only [row3] at y0 y1 y2
  have HB01 := hide hb01; have HQ2 := hide hq2
  cases r with
  | false =>
    have HNO := hide (show soD d ws a = (⟨[], [], []⟩, 7) from soD_bad (fun h => by have := hr.2 ((dkOk_iff d).1 h); cases this))
    clear hr hb1 hb01 hq0 hq1 hq2
    go_wp2_with fail
    try simp only [Exit.inBlock, Exit.then]
    refine bodyPost_ret (v := .tuple #[.agg #[.slice none 0 0, .slice none 0 0, .slice none 0 0], .int .i64 7]) (by simp [results, Tryz.results11, go_sem, y0, y1, y2]) rfl ?_
    rw [unhide HNO]
    exact ⟨⟨_, _, _⟩, [], [], [], rfl, DkOwn.none _, by simp, fun b hb => (by cases hb), (((unhide HB01).setCell (by simp; omega) _).setCell (by simp; omega) _).setCell (by simp; omega) _⟩
  | true =>
    have hok := (dkOk_iff d).2 (hr.1 rfl)
    have k0 := hq0.cell (i := 0) (by omega); have k1 := hq0.cell (i := 1) (by omega); have k2 := hq0.cell (i := 2) (by omega)
    simp only [row3] at k0 k1 k2
    have hd1 := (unhide HD).carry (w' := w1) (Q := fun b => b < w1.heap.size) (fun b hb => hb01.block b (unhide HP b hb)) (fun b hb => by have := unhide HP b hb; omega)
    by_cases hlg : 2000 < ws.length
    · have HCD := hide (copyDisk_any d (fun b => b < w1.heap.size) ⟨.slice a0 d.files.length p0, .slice a1 d.names.length p1, .slice a2 d.moves.length p2⟩ w1 (fun _ h => h) hd1 ⟨by have := hok.l1; omega, by have := hok.l2; omega, by have := hok.l3; omega⟩ (ok_small hok))
      have HLG := hide (soD_large (a := a) hok hlg); have HOK := hide hok
      clear hr hb1 hb01 hq0 hq1 hq2 hd1 y0 y1 y2 z hok
      go_wp2_with fail
      refine (unhide HCD).mono ?_
      rintro e w2 ⟨⟨u0, u1, u2⟩, rfl, h0, h1, h2, hb2⟩
      clear k0 k1 k2 HCD
      simp only at h0 h1 h2
      obtain ⟨b0, r0, e0⟩ := own_slice h0
      obtain ⟨b1, r1, e1⟩ := own_slice h1
      obtain ⟨b2, r2, e2⟩ := own_slice h2
      subst e0 e1 e2
      obtain ⟨o1, o2, o3⟩ := ok_okM (unhide HOK)
      obtain ⟨F0, F1, F2, ho, hnd, hF⟩ := rows_own h0 h1 h2 o1 o2 o3
      have hq2 := (unhide HQ2).of_block (hb2.block (w.heap.size + 1 + 1) (by omega))
      have y0 := hq2.cell (i := 0) (by omega); have y1 := hq2.cell (i := 1) (by omega); have y2 := hq2.cell (i := 2) (by omega)
      have z := hq2.frozen
      simp only [row3] at y0 y1 y2
      have HF := hide (own_fin (n := 5) (B := w.heap.size + 1 + 1) ho hnd hF (by omega) rfl (by omega) ((unhide HB01).trans (hb2.mono (by omega))))
      have hs2 := hb2.size
      clear h0 h1 h2 o1 o2 o3 ho hnd hF hb2 hq2
      go_wp2_with fail
      try simp only [Exit.inBlock, Exit.then]
      refine bodyPost_ret (v := .tuple #[.agg #[.slice b0 d.files.length r0, .slice b1 d.names.length r1, .slice b2 d.moves.length r2], .int .i64 5]) (by simp [results, Tryz.results11, go_sem, y0, y1, y2]) rfl ?_
      rw [unhide HLG]
      exact unhide HF
    · have hw1 := (unhide HWS).carry (w' := w1) (Q := fun b => b < w1.heap.size) (fun b hb => hb01.block b (unhide HP b hb)) (fun b hb => by have := unhide HP b hb; omega)
      have hz1 := (unhide HKZ).carry (w' := w1) (Q := fun b => b < w1.heap.size) (fun b hb => hb01.block b (unhide HP b hb)) (fun b hb => by have := unhide HP b hb; omega)
      have HBD := hide (diskBehind_any d ws a (fun b => b < w1.heap.size) ⟨.slice a0 d.files.length p0, .slice a1 d.names.length p1, .slice a2 d.moves.length p2⟩ av (.slice ak a.keep.length ck) w1 (fun _ h => h) hd1 hok hw1 hz1 (unhide HSZ))
      have HGO := hide (soD_go (a := a) hok hlg)
      have j0 := hq1.cell (i := 0) (by omega); have j1 := hq1.cell (i := 1) (by omega); have j2 := hq1.cell (i := 2) (by omega); have j3 := hq1.cell (i := 3) (by omega); have j4 := hq1.cell (i := 4) (by omega); have j5 := hq1.cell (i := 5) (by omega)
      simp only [r6B] at j0 j1 j2 j3 j4 j5
      clear hr hb1 hb01 hq0 hq1 hq2 hd1 y0 y1 y2 z hok hw1 hz1
      generalize hBD : bhD d ws a = R at *
      obtain ⟨D, n⟩ := R
      simp only at HBD
      clear hBD
      go_wp2_with fail
      refine (unhide HBD).mono ?_
      rintro e w2 ⟨⟨u0, u1, u2⟩, F0, F1, F2, rfl, ho, hnd, hF, hb2⟩
      clear k0 k1 k2 j0 j1 j2 j3 j4 j5 HBD
      have hat := ho.at
      obtain ⟨t0, s0, e0, -, -⟩ := hat.fs.open
      obtain ⟨t1, s1, e1, -, -⟩ := hat.ns
      obtain ⟨t2, s2, e2, -, -⟩ := hat.ms.open
      simp only at e0 e1 e2
      subst e0 e1 e2
      have hs2 := hb2.size
      have hq2 := (unhide HQ2).of_block (hb2.block (w.heap.size + 1 + 1) (by omega))
      have y0 := hq2.cell (i := 0) (by omega); have y1 := hq2.cell (i := 1) (by omega); have y2 := hq2.cell (i := 2) (by omega)
      have z := hq2.frozen
      simp only [row3] at y0 y1 y2
      have HF := hide (own_fin (n := n) (B := w.heap.size + 1 + 1) ho hnd hF (by omega) rfl (by omega) ((unhide HB01).trans (hb2.mono (by omega))))
      clear hat ho hnd hF hb2 hq2
      generalize D.files.length = N0 at *
      generalize D.names.length = N1 at *
      generalize D.moves.length = N2 at *
      go_wp2_with fail
      try simp only [Exit.inBlock, Exit.then]
      refine bodyPost_ret (v := .tuple #[.agg #[.slice t0 N0 s0, .slice t1 N1 s1, .slice t2 N2 s2], .int .i64 n]) (by simp [results, Tryz.results11, go_sem, y0, y1, y2]) rfl ?_
      rw [unhide HGO]
      exact unhide HF
end Go.Proofs.YtgdiankfnemjjaaGreat

/- What the law on StoreDo holds behind both calls, and how that is carried on. No conditions. -/

namespace Go.Proofs.YtgdiankfnemjjaaGreat
open Go Go.RowKit

structure CS3 (w wr : World) (c dW dX dG : C3) (S S' : Dk) (B8 B9 BG : Nat) (PW D : Nat → Prop) (F0 F1 F2 : List Nat) (ac : Ac) (kv kx : Value) (BX : Nat) : Prop where
  cs : CSt w wr c dW dX dG S S' B8 B9 BG PW D F0 F1 F2
  bB : wr.rowIs (w.heap.size + 1) 30 6 (r6A (.int .i64 ac.kind) (.string ac.data) (.bool ac.cuts) (.int .i64 ac.after) (.int .i64 ac.moves) kv)
  bX : wr.rowIs BX 43 6 (r6A (.int .i64 ac.kind) (.string ac.data) (.bool ac.cuts) (.int .i64 ac.after) (.int .i64 ac.moves) kx)
  lD2 : ∀ b, D b → b ≠ w.heap.size + 1 ∧ b ≠ BX
  lG2 : ∀ b, b ∈ F0 ++ F1 ++ F2 → b ≠ w.heap.size + 1 ∧ b ≠ BX
theorem CS3.on {w wr : World} {c dW dX dG : C3} {S S' : Dk} {B8 B9 BG : Nat} {PW D : Nat → Prop} {F0 F1 F2 : List Nat} {ac : Ac} {kv kx : Value} {BX : Nat} {w' : World} (h : CS3 w wr c dW dX dG S S' B8 B9 BG PW D F0 F1 F2 ac kv kx BX) (hb : Below wr.heap.size wr w') : CS3 w w' c dW dX dG S S' B8 B9 BG PW D F0 F1 F2 ac kv kx BX :=
  ⟨h.cs.on hb, h.bB.of_block (hb.block _ h.bB.lt), h.bX.of_block (hb.block _ h.bX.lt), h.lD2, h.lG2⟩
theorem CS3.like {w wr : World} {c dW dX dG : C3} {S S' : Dk} {B8 B9 BG : Nat} {PW D : Nat → Prop} {F0 F1 F2 : List Nat} {ac : Ac} {kv kx : Value} {BX : Nat} {w' : World} (h : CS3 w wr c dW dX dG S S' B8 B9 BG PW D F0 F1 F2 ac kv kx BX) (hb : Like D wr w') : CS3 w w' c dW dX dG S S' B8 B9 BG PW D F0 F1 F2 ac kv kx BX :=
  ⟨h.cs.like hb (fun _ h => h), h.bB.of_block (hb.block _ h.bB.lt (fun hd => (h.lD2 _ hd).1 rfl)), h.bX.of_block (hb.block _ h.bX.lt (fun hd => (h.lD2 _ hd).2 rfl)), h.lD2, h.lG2⟩
theorem CS3.mark {w wr : World} {c dW dX dG : C3} {S S' : Dk} {B8 B9 BG : Nat} {PW D : Nat → Prop} {F0 F1 F2 : List Nat} {ac : Ac} {kv kx : Value} {BX : Nat} (h : CS3 w wr c dW dX dG S S' B8 B9 BG PW D F0 F1 F2 ac kv kx BX) (hl : mkD S' ≤ 100000) :
    Calls Tryz.prog 15 #[.agg #[dG.c0, dG.c1, dG.c2], .int .i64 1] wr fun e w' => e = .returned (.int .i64 (1 + mkD S' : Nat)) ∧ CS3 w w' c dW dX dG S (mDk 1 S') B8 B9 BG PW D F0 F1 F2 ac kv kx BX :=
  (markDisk_own S' dG F0 F1 F2 1 wr h.cs.oG (fun b hb => (h.cs.lG b hb).2.2.2.2.2) h.cs.nd (by omega) (by omega)).mono fun e w' ⟨h1, h2, h3⟩ => ⟨h1, h.cs.exc h3 h2, h.bB.of_block (h3.block _ h.bB.lt (fun hm => (h.lG2 _ hm).1 rfl)), h.bX.of_block (h3.block _ h.bX.lt (fun hm => (h.lG2 _ hm).2 rfl)), h.lD2, h.lG2⟩
theorem CS3.held {w wr : World} {c dW dX dG : C3} {S S' : Dk} {B8 B9 BG : Nat} {PW D : Nat → Prop} {F0 F1 F2 : List Nat} {ac : Ac} {kv kx : Value} {BX : Nat} (h : CS3 w wr c dW dX dG S (mDk 1 S') B8 B9 BG PW D F0 F1 F2 ac kv kx BX) (hl : mkD S' ≤ 100000) :
    Calls Tryz.prog 18 #[.agg #[dG.c0, dG.c1, dG.c2], .int .i64 1] wr fun e w' => e = .returned (.int .i64 (1 + mkD S' : Nat)) ∧ CS3 w w' c dW dX dG S (mDk 1 S') B8 B9 BG PW D F0 F1 F2 ac kv kx BX :=
  (heldDisk_any S' 1 dG wr (fun b hb => (h.cs.lG b hb).2.2.2.2.2) h.cs.oG.at (by omega) (by omega)).mono fun e w' ⟨h1, h2⟩ => ⟨h1, h.on h2⟩
theorem mkD_ok {d : Dk} (hok : DkOkS d) : mkD d ≤ 100000 := by
  have l1 := hok.l1; have l2 := hok.l2; have l3 := hok.l3
  unfold mkD; omega
theorem soD_small (d : Dk) (ws : List Wr) (a : Ac) : mkD (soD d ws a).1 ≤ 100000 := by
  by_cases hok : DkOkS d
  case neg => rw [soD_bad hok]; unfold mkD; simp
  by_cases hl : 2000 < ws.length
  · rw [soD_large hok hl]; exact mkD_ok hok
  · rw [soD_go hok hl]
    unfold bhD
    have hr := runW_ok (ws.take (toW a ws.length)) d hok
    split
    · exact mkD_ok hr
    · split
      · exact cutD_small _ _ _
      · exact mkD_ok hr
theorem own_doEnd {w w' : World} {e : Ending} {d : Dk} {n : Int} (h : OwnEnd2 w w' e d n) : DoEnd w w' e d n := by
  obtain ⟨c, F0, F1, F2, he, ho, -, hF, hb⟩ := h
  exact ⟨c, he, ho.at.carry (fun _ _ => rfl) (fun b hb => hF b hb), hb⟩
end Go.Proofs.YtgdiankfnemjjaaGreat
