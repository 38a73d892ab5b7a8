/- A part. -/
import Derived.Test.YtbkagahmiibclaaGreatDoorPart16
namespace Go.Proofs.YtbkagahmiibclaaGreatDoor
open Go Go.RowKit
set_option maxRecDepth 100000
set_option maxHeartbeats 1600000
def UpEnd (w w' : World) (b : List UInt8) (e : Ending) : Prop :=
 Below w.heap.size w w' ∧ ((∃ (ty : ByteArray) (ver : Int) (t : Tr) (c : C5) (F : List Nat), e = .returned (.tuple #[.agg #[.string ty, .int .i64 ver, c.c0, c.c1, c.c2, c.c3, c.c4], .bool true]) ∧ Own w' t c F ∧ F.Nodup ∧ (∀ x, x ∈ F → w.heap.size ≤ x ∧ x < w'.heap.size) ∧ UpE b ty ver t)
  ∨ (e = .returned (.tuple #[.agg #[.string ⟨#[]⟩, .int .i64 0, .int .i64 0, .int .i64 0, .string ⟨#[]⟩, .slice none 0 0, .slice none 0 0], .bool false]) ∧ ∀ ty ver t, ¬ UpE b ty ver t))
theorem ub_start (w : World) (v : Value) (b : List UInt8) (hr : ByRow 0 w v b) (hs : b.length ≤ 1048576) : UbAt w.heap.size (((w.alloc (.cells #[v] 22)).alloc ev0).alloc ev0) v b := by
 have h1 : (w.alloc (.cells #[v] 22)).rowIs w.heap.size 22 1 (fun _ => v) := World.rowIs_alloc w #[v] _ _ (fun i hi => by
  have hi' : i < 1 := hi
  match i, hi' with
  | 0, _ => rfl)
 refine ⟨(h1.alloc _).alloc _, ?_, World.ownsRow.alloc (World.ownsRow.alloc (World.ownsRow.alloc hr _) _) _, fun g e => (hr.own g e).2, hs⟩
 have := row7_alloc ((w.alloc (.cells #[v] 22)).alloc ev0) (.string ⟨#[]⟩) (.int .i64 0) (.int .i64 0) (.int .i64 0) (.string ⟨#[]⟩) (.slice none 0 0) (.slice none 0 0) 28
 rw [World.size_alloc, World.size_alloc] at this
 exact this
theorem UbAt.on {X : Nat} {w w' : World} {v : Value} {b : List UInt8} (h : UbAt X w v b) (hb : Below w.heap.size w w') : UbAt X w' v b :=
 ⟨h.box.of_block (hb.block _ h.box.lt), h.rd.of_block (hb.block _ h.rd.lt), h.row.stay hb, h.own, h.small⟩
theorem implEventUnpack_any (w : World) (v : Value) (b : List UInt8) (hr : ByRow 0 w v b) (hs : b.length ≤ 1048576) (hT : Tab w) :
 Calls Tryz.prog 12 #[v] w fun e w' => UpEnd w w' b e := by
 have hmf : ∀ (fn : Fn) (first cap : Array Value) (w : World), (Instr.makeFunc fn first cap).run Tryz.prog w = .ok (.func fn first cap) w := fun _ _ _ _ => rfl
 have hub := ub_start w v b hr hs
 have hb3 : Below w.heap.size w (((w.alloc (.cells #[v] 22)).alloc ev0).alloc ev0) := (((Below.refl _ _).alloc (Nat.le_refl _) _).alloc (by simp) _).alloc (by simp; omega) _
 have hX1 : (((w.alloc (.cells #[v] 22)).alloc ev0).alloc ev0).rowIs (w.heap.size + 1) 28 7 (row7 (.string ⟨#[]⟩) (.int .i64 0) (.int .i64 0) (.int .i64 0) (.string ⟨#[]⟩) (.slice none 0 0) (.slice none 0 0)) := by
  have := (row7_alloc (w.alloc (.cells #[v] 22)) (.string ⟨#[]⟩) (.int .i64 0) (.int .i64 0) (.int .i64 0) (.string ⟨#[]⟩) (.slice none 0 0) (.slice none 0 0) 28).alloc ev0
  rw [World.size_alloc] at this
  exact this
 have hsz3 : (((w.alloc (.cells #[v] 22)).alloc ev0).alloc ev0).heap.size = w.heap.size + 3 := by simp
 have hTW := hT.of_block (hb3.block 1 hT.lt)
 have hwork := fun (o : Obj) => upWork w.heap.size ((((w.alloc (.cells #[v] 22)).alloc ev0).alloc ev0).alloc o) v b (hub.on ((Below.refl _ _).alloc (Nat.le_refl _) o)) (hTW.of_block (Below.heap_alloc _ _ _ hTW.lt))
 obtain ⟨a, cap, hv⟩ := hr.slice
 subst hv
 by_cases hex : ∃ ty ver t, UpE b ty ver t
 · have htry := treeTry_yes2 36 #[.pointer (some ⟨w.heap.size, 0, none⟩), .pointer (some ⟨w.heap.size + 2, 0, none⟩)] (((w.alloc (.cells #[.slice a b.length cap] 22)).alloc ev0).alloc ev0)
    (fun w1 => ∃ (ty : ByteArray) (ver : Int) (t : Tr) (c : C5) (F : List Nat), w1.rowIs (w.heap.size + 2) 28 7 (row7 (.string ty) (.int .i64 ver) c.c0 c.c1 c.c2 c.c3 c.c4) ∧ Own w1 t c F ∧ F.Nodup ∧ (∀ x, x ∈ F → w.heap.size + 4 ≤ x ∧ x < w1.heap.size) ∧ UpE b ty ver t ∧ But (w.heap.size + 2) ((((w.alloc (.cells #[.slice a b.length cap] 22)).alloc ev0).alloc ev0).alloc (.cells #[.bool false] 4)) w1)
    (enterUnpack _) (by
      refine (hwork (.cells #[.bool false] 4)).mono ?_
      rintro e w1 ⟨hc, hb1⟩
      rcases hc with ⟨ty, ver, t, c, F, rfl, h1, h2, h3, h4, h5⟩ | ⟨-, hno, -⟩
      · refine ⟨rfl, ⟨ty, ver, t, c, F, h1, h2, h3, fun x hx => ⟨by have := (h4 x hx).1; rw [World.size_alloc, hsz3] at this; omega, (h4 x hx).2⟩, h5, hb1⟩, ?_⟩
        exact hb1.at (by simp) (by rw [hsz3]; omega)
      · obtain ⟨ty, ver, t, hu⟩ := hex
        exact absurd hu (hno ty ver t))
   have HTRY := hH htry; have HB3 := hH hb3; have HX1 := hH hX1; have HS3 := hH hsz3
   clear htry hwork hub hb3 hX1 hTW hT hr hsz3 hex
   go_enter Tryz.func12, Tryz.ntmps12
   go_wp2_with fail
   refine (uh HTRY).mono ?_
   rintro e w4 ⟨rfl, w1, ⟨ty, ver, t, ⟨c0, c1, c2, c3, c4⟩, F, hrd, ho, hnd, hF, hu, hb1⟩, hb4⟩
   have hsz := uh HS3
   have hs1 := hb1.size
   rw [World.size_alloc, hsz] at hs1
   have hs4 := hb4.size
   rw [hsz] at hb4
   obtain ⟨g0, g1, g2, -, -, -, F1, F2, -, ⟨ap, cp, g3, -⟩, aq, cq, g4, -⟩ := ho.open
   simp only at g0 g1 g2 g3 g4
   subst g0 g1 g2 g3 g4
   have hrd4 := hrd.of_block (hb4.at hrd.lt (by omega))
   have hX4 := (((uh HX1).alloc (.cells #[.bool false] 4)).of_block (hb1.at ((uh HX1).alloc _).lt (by omega))).of_block (hb4.at (by omega) (by omega))
   have ho4 := Own.carry t _ F (fun x hx => hb4.at (hF x hx).2 (by have := (hF x hx).1; omega)) ho
   have hbw4 : Below w.heap.size w w4 := by
    refine (uh HB3).trans ⟨hb4.os.trans hb1.os, hb4.tape.trans hb1.tape, hb4.output.trans hb1.output, by rw [hsz]; omega, fun i hi => ?_⟩
    exact (hb4.at (by omega) (by omega)).trans ((hb1.at (by rw [World.size_alloc, hsz]; omega) (by omega)).trans (Below.heap_alloc _ _ _ (by rw [hsz]; omega)))
   obtain ⟨p0, p1, p2, p3, p4, p5, p6⟩ := cs7 hX4 (by omega); have pf := hX4.frozen
   obtain ⟨q0, q1, q2, q3, q4, q5, q6⟩ := cs7 hrd4 (by omega)
   simp only [row7] at p0 p1 p2 p3 p4 p5 p6 q0 q1 q2 q3 q4 q5 q6
   have HO := hH ho4; have HBW := hH hbw4; have HF := hH hF; have HU := hH hu; have HLT := hH (show w1.heap.size ≤ w4.heap.size from hs4)
   clear hrd4 hX4 ho4 hbw4 hF hb1 hb4 hrd ho HTRY HB3 HX1 hs1 hs4 hsz hu
   go_wp2_with fail
   refine bodyPost_ret (v := .tuple #[.agg #[.string ty, .int .i64 ver, .int .i64 t.sort, .int .i64 t.num, .string t.text, .slice ap t.names.length cp, .slice aq t.kids.length cq], .bool true]) (by simp [results, Tryz.results12, go_sem, p0, p1, p2, p3, p4, p5, p6]) rfl ?_
   refine ⟨?_, Or.inl ⟨ty, ver, t, ⟨_, _, _, _, _⟩, F, rfl, Own.carry _ _ F (fun y hy => by have := (uh HF y hy).1; repeat rw [Below.heap_setCell _ _ _ _ (by simp <;> omega)]) (uh HO), hnd, fun y hy => ⟨by have := (uh HF y hy).1; omega, by simp only [size_setCell]; have := (uh HF y hy).2; have := uh HLT; omega⟩, uh HU⟩⟩
   repeat refine Below.setCell ?_ (by simp <;> omega) _
   exact uh HBW
 · have hno : ∀ ty ver t, ¬ UpE b ty ver t := fun ty ver t hu => hex ⟨ty, ver, t, hu⟩
   have htry := treeTry_no2 36 #[.pointer (some ⟨w.heap.size, 0, none⟩), .pointer (some ⟨w.heap.size + 2, 0, none⟩)] (((w.alloc (.cells #[.slice a b.length cap] 22)).alloc ev0).alloc ev0)
    (fun w1 => w1.heap[w.heap.size + 2]? = ((((w.alloc (.cells #[.slice a b.length cap] 22)).alloc ev0).alloc ev0).alloc (.cells #[.bool false] 4)).heap[w.heap.size + 2]? ∧ But (w.heap.size + 2) ((((w.alloc (.cells #[.slice a b.length cap] 22)).alloc ev0).alloc ev0).alloc (.cells #[.bool false] 4)) w1)
    (enterUnpack _) (by
      refine (hwork (.cells #[.bool false] 4)).mono ?_
      rintro e w1 ⟨hc, hb1⟩
      rcases hc with ⟨ty, ver, t, c, F, rfl, h1, h2, h3, h4, h5⟩ | ⟨rfl, -, h2⟩
      · exact absurd h5 (hno ty ver t)
      · exact ⟨rfl, ⟨h2, hb1⟩, hb1.at (by simp) (by rw [hsz3]; omega)⟩)
   have HTRY := hH htry; have HB3 := hH hb3; have HX1 := hH hX1; have HS3 := hH hsz3; have HRD := hH hub.rd; have HNO := hH hno
   clear htry hwork hub hb3 hX1 hTW hT hr hsz3 hex hno
   go_enter Tryz.func12, Tryz.ntmps12
   go_wp2_with fail
   refine (uh HTRY).mono ?_
   rintro e w4 ⟨rfl, w1, ⟨hrdb, hb1⟩, hb4⟩
   have hsz := uh HS3
   have hs1 := hb1.size
   rw [World.size_alloc, hsz] at hs1
   have hs4 := hb4.size
   rw [hsz] at hb4
   have hrd4 := (((uh HRD).alloc (.cells #[.bool false] 4)).of_block hrdb).of_block (hb4.at (by omega) (by omega))
   have hX4 := (((uh HX1).alloc (.cells #[.bool false] 4)).of_block (hb1.at ((uh HX1).alloc _).lt (by omega))).of_block (hb4.at (by omega) (by omega))
   have hbw4 : Below w.heap.size w w4 := by
    refine (uh HB3).trans ⟨hb4.os.trans hb1.os, hb4.tape.trans hb1.tape, hb4.output.trans hb1.output, by rw [hsz]; omega, fun i hi => ?_⟩
    exact (hb4.at (by omega) (by omega)).trans ((hb1.at (by rw [World.size_alloc, hsz]; omega) (by omega)).trans (Below.heap_alloc _ _ _ (by rw [hsz]; omega)))
   obtain ⟨p0, p1, p2, p3, p4, p5, p6⟩ := cs7 hX4 (by omega); have pf := hX4.frozen
   obtain ⟨q0, q1, q2, q3, q4, q5, q6⟩ := cs7 hrd4 (by omega)
   simp only [row7] at p0 p1 p2 p3 p4 p5 p6 q0 q1 q2 q3 q4 q5 q6
   have HBW := hH hbw4
   clear hrd4 hX4 hbw4 hb1 hb4 HTRY HB3 HX1 hs1 hs4 hsz HRD hrdb
   go_wp2_with fail
   refine bodyPost_ret (v := .tuple #[.agg #[.string ⟨#[]⟩, .int .i64 0, .int .i64 0, .int .i64 0, .string ⟨#[]⟩, .slice none 0 0, .slice none 0 0], .bool false]) (by simp [results, Tryz.results12, go_sem, p0, p1, p2, p3, p4, p5, p6]) rfl ?_
   refine ⟨?_, Or.inr ⟨rfl, uh HNO⟩⟩
   repeat refine Below.setCell ?_ (by simp <;> omega) _
   exact uh HBW
end Go.Proofs.YtbkagahmiibclaaGreatDoor
