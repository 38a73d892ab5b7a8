/- A part. -/
import Derived.Test.YtibgjcejddpldaaGreatPart01
import Derived.Deep.CutRange
import Derived.Deep.MidRow
import Derived.Deep.RegionLaw
import Derived.Deep.AppendLies
set_option maxRecDepth 100000
set_option maxHeartbeats 3200000
namespace Go.Proofs.YtibgjcejddpldaaGreat
open Go Go.RowKit
theorem putP_any (b p n c : Nat) (s : Int) (w : World) (h : w.rowIs b 100 4 (rg4 (.slice (some ⟨p, 0, none⟩) n n) 0 c s)) (hc : c < n) (hn : n ≤ 1048576) : Calls Tryz.prog 113 #[.pointer (some ⟨b, 0, none⟩), .agg #[]] w fun e w' => e = .returned (.tuple #[]) ∧ w'.rowIs b 100 4 (rg4 (.slice (some ⟨p, 0, none⟩) n n) 0 ((c : Int) + 1) s) ∧ Exc [b] w w' := by
 obtain ⟨c0, c1, c2⟩ := cs3 h (by omega); have f2 := h.frozen 2
 simp only [rg4, List.getD_cons_zero, List.getD_cons_succ] at c0 c1 c2
 have hlt := h.lt
 have a0 : ∀ o, (w.alloc o).cell? ⟨b, 0, none⟩ = some (.slice (some ⟨p, 0, none⟩) n n) := fun o => (World.cell?_of_block (a := ⟨b, 0, none⟩) (Below.heap_alloc w o _ hlt)).trans c0
 have a1 : ∀ o, (w.alloc o).cell? ⟨b, 1, none⟩ = some (.int .i64 0) := fun o => (World.cell?_of_block (a := ⟨b, 1, none⟩) (Below.heap_alloc w o _ hlt)).trans c1
 have a2 : ∀ o, (w.alloc o).cell? ⟨b, 2, none⟩ = some (.int .i64 c) := fun o => (World.cell?_of_block (a := ⟨b, 2, none⟩) (Below.heap_alloc w o _ hlt)).trans c2
 have g2 : ∀ o, (w.alloc o).frozen? ⟨b, 2, none⟩ = false := fun o => (h.alloc o).frozen 2
 have hw0 : IntKind.i64.wrap (0 + (c : Int)) = c := by rw [IntKind.wrap_i64]; omega
 have hw1 : IntKind.i64.wrap ((c : Int) + 1) = (c : Int) + 1 := by rw [IntKind.wrap_i64]; omega
 have hrem : (c : Int).tmod (n : Int) = c := Int.tmod_eq_of_lt (Int.natCast_nonneg c) (Int.ofNat_lt.2 hc)
 have hn0 : ¬ ((n : Int) = 0) := by omega
 have HR := xH (h.alloc (.cells #[] 106))
 have HX := xH (show Exc [b] w (w.alloc (.cells #[] 106)) from Exc.of_below ((Below.refl _ _).alloc (Nat.le_refl _) _))
 clear h
 go_enter Tryz.func113, Tryz.ntmps113
 go_wp2_with fail
 have b0 := a0 (.cells #[] 106); have b1 := a1 (.cells #[] 106); have b2 := a2 (.cells #[] 106); have bf := g2 (.cells #[] 106)
 clear a0 a1 a2 g2 c0 c1 c2 f2
 generalize w.alloc (.cells #[] 106) = W at b0 b1 b2 bf HR HX ⊢
 generalize w.heap.size = B
 go_region
 have d2 : W.drew.cell? ⟨b, 2, none⟩ = some (.int .i64 c) := b2
 have df : W.drew.frozen? ⟨b, 2, none⟩ = false := bf
 go_wp2_with fail
 go_end0
 refine ⟨rfl, ?_, ?_⟩
 · refine ((xU HR).drew.set 2 (.int .i64 ((c : Int) + 1))).congr fun i hi => ?_
   rcases (show i = 0 ∨ i = 1 ∨ i = 2 ∨ i = 3 by omega) with rfl | rfl | rfl | rfl <;> rfl
 · exact ((xU HX).trans (Exc.of_below (Below.refl _ _).drew)).trans (Exc.set _ b 2 _ (by simp))
theorem fillP_any (b p n : Nat) (q : Addr) (s : Int) (w : World) (h : w.rowIs b 100 4 (rg4 (.slice (some ⟨p, 0, none⟩) n n) 0 0 s)) (hn : n ≤ 1048576) : Calls Tryz.prog 100 #[.pointer (some ⟨b, 0, none⟩), .slice (some q) n n] w fun e w' => e = .returned (.tuple #[]) ∧ w'.rowIs b 100 4 (rg4 (.slice (some ⟨p, 0, none⟩) n n) 0 n s) ∧ Exc [b] w w' := by
 have HP := xH (fun (c : Nat) (W : World) hW hc => putP_any b p n c s W hW hc hn)
 have H0 := xH h
 clear h
 go_enter Tryz.func100, Tryz.ntmps100
 go_wp2_with fail
 go_loopw [8] (fun i wr => ∃ (c : Nat), c ≤ n ∧ i = .int .i64 c ∧ Hid (wr.rowIs b 100 4 (rg4 (.slice (some ⟨p, 0, none⟩) n n) 0 c s)) ∧ Hid (Exc [b] w wr)) (fun i _ => n - (intOf i).toNat)
 case atStart => exact ⟨0, Nat.zero_le _, rfl, H0, xH (Exc.refl _ _)⟩
 case round =>
  obtain ⟨c, hc, rfl, HR, HX⟩ := hrel
  by_cases hlt : c < n
  · go_wp2_with (go_at_call 113; refine (xU HP c _ (HR.out.alloc _) hlt).mono ?_; rintro e w2 ⟨rfl, hr2, hx2⟩; have HR2 := xH hr2; have HX2 := xH ((HX.out.trans (Exc.of_below ((Below.refl _ _).alloc (Nat.le_refl _) _))).trans hx2); clear hr2 hx2)
    go_roundw
    case rel => exact ⟨c + 1, by omega, by go_num, HR2, HX2⟩
    case measure => simp [intOf]; omega
  · obtain rfl : c = n := by omega
    go_wp2_with fail
    go_end0
    exact ⟨rfl, HR.out, HX.out⟩
end Go.Proofs.YtibgjcejddpldaaGreat

namespace Go.Proofs.YtibgjcejddpldaaGreat
open Go Go.RowKit
def stOk (j k n : Int) : Prop := (0 ≤ j ∧ j ≤ 60) ∧ (1 ≤ k ∧ k ≤ 8) ∧ (1 ≤ n ∧ n ≤ 16)
instance (j k n : Int) : Decidable (stOk j k n) := by unfold stOk; infer_instance
def noCw : Cw := ⟨0, 0, 0, 0, 0, [], [], 0, [], 0, [], 0, [], 0, [], 0, [], 0⟩
def stCw (j k n : Int) : Cw := if stOk j k n then ⟨j, k, n, 0, 0, [], List.replicate k.toNat ⟨0, 0⟩, 0, [], 0, List.replicate n.toNat (-1), 0, [], 0, [], n, [0, 0, 0, 0], 0⟩ else noCw
def CwEnd (w w' : World) (e : Ending) (c : Cw) (ok : Bool) : Prop :=
 ∃ (v : C7) (Fq Fh Fr Fg Fo Ft Fs : List Nat), e = .returned (.tuple #[.agg #[.int .i64 c.jobs, .int .i64 c.workers, .int .i64 c.window, .int .i64 c.next, .int .i64 c.reader, v.q, v.h, .int .i64 c.closer, v.r, .int .i64 c.keeper, v.g, .int .i64 c.due, v.o, .int .i64 c.user, v.t, .int .i64 c.room, v.s, .int .i64 c.ops], .bool ok]) ∧ CwOwn w' c v Fq Fh Fr Fg Fo Ft Fs ∧ Dj7 Fq Fh Fr Fg Fo Ft Fs ∧ (∀ b, b ∈ F7 Fq Fh Fr Fg Fo Ft Fs → w.heap.size ≤ b ∧ b < w'.heap.size) ∧ Below w.heap.size w w'
def nil7 : C7 := ⟨.slice none 0 0, .slice none 0 0, .slice none 0 0, .slice none 0 0, .slice none 0 0, .slice none 0 0, .slice none 0 0⟩
theorem own_none (w : World) : CwOwn w noCw nil7 [] [] [] [] [] [] [] :=
 ⟨FlatOwn.nil w 1, FlatOwn.nil w 2, FlatOwn.nil w 1, FlatOwn.nil w 1, FlatOwn.nil w 1, FlatOwn.nil w 1, FlatOwn.nil w 1⟩
theorem dj_none : Dj7 [] [] [] [] [] [] [] := ⟨fun b hb => (by cases hb), fun b hb => (by cases hb), fun b hb => (by cases hb), fun b hb => (by cases hb), fun b hb => (by cases hb), fun b hb => (by cases hb)⟩
theorem CwEnd.no {w w' : World} {j k n : Int} (h : ¬ stOk j k n) (hb : Below w.heap.size w w') : CwEnd w w' (.returned (.tuple #[.agg #[.int .i64 0, .int .i64 0, .int .i64 0, .int .i64 0, .int .i64 0, .slice none 0 0, .slice none 0 0, .int .i64 0, .slice none 0 0, .int .i64 0, .slice none 0 0, .int .i64 0, .slice none 0 0, .int .i64 0, .slice none 0 0, .int .i64 0, .slice none 0 0, .int .i64 0], .bool false])) (stCw j k n) (decide (stOk j k n)) := by
 have hc : stCw j k n = noCw := if_neg h
 rw [hc, decide_eq_false h]
 exact ⟨nil7, [], [], [], [], [], [], [], rfl, own_none w', dj_none, fun b hb => (by cases hb), hb⟩
theorem there_row {w : World} {b : Nat} {T : TypeId} {n : Nat} {f : Nat → Value} (h : w.rowIs b T n f) : w.there b 0 n := fun j hj => by
 rw [Nat.zero_add]
 exact ⟨by rw [h.cell hj]; rfl, h.frozen j⟩
theorem row_setCells {b : Nat} {T : TypeId} {n : Nat} : ∀ (vs : List Value) (o : Nat) (W : World) (f : Nat → Value), W.rowIs b T n f → o + vs.length ≤ n → (W.setCells b o vs).rowIs b T n (fun i => if o ≤ i ∧ i < o + vs.length then vs.getD (i - o) undef else f i)
 | [], o, W, f, h, _ => h.congr fun i _ => by
    show f i = _
    rw [if_neg (by simp)]
 | v :: r, o, W, f, h, hn => by
     have hl : (v :: r).length = r.length + 1 := rfl
     refine (row_setCells r (o + 1) (W.setCell ⟨b, o, none⟩ v) _ (h.set o v) (by omega)).congr fun i _ => ?_
     rw [hl]
     by_cases h1 : i = o
     · subst h1
       rw [if_neg (by omega), if_pos rfl, if_pos ⟨Nat.le_refl _, by omega⟩, Nat.sub_self]
       rfl
     · by_cases h2 : o ≤ i ∧ i < o + (r.length + 1)
       · rw [if_pos h2, if_pos (by omega)]
         obtain ⟨d, hd⟩ : ∃ d, i - o = d + 1 := ⟨i - o - 1, by omega⟩
         rw [hd, show i - (o + 1) = d by omega, List.getD_cons_succ]
       · rw [if_neg h2, if_neg (by omega)]
         simp [h1]
theorem row_all {b : Nat} {T : TypeId} {W : World} {f : Nat → Value} {n : Nat} (vs : List Value) (hn : vs.length = n) (h : W.rowIs b T n f) : (W.setCells b 0 vs).rowIs b T n (r18 vs) :=
 (row_setCells vs 0 W f h (by omega)).congr fun i hi => by rw [if_pos (by omega)]; rfl
theorem below_setCells {B : Nat} {a : World} {b : Nat} (hB : B ≤ b) : ∀ (vs : List Value) (o : Nat) (W : World), Below B a W → Below B a (W.setCells b o vs)
 | [], _, _, h => h
 | v :: r, o, _, h => below_setCells hB r (o + 1) _ (h.setCell hB v)
theorem info18 : (Tryz.prog.info? 26).map (·.size) = some 18 := by kernel_rfl
theorem row_cells {W : World} {b : Nat} {T : TypeId} {n : Nat} {vs : List Value} (h : W.rowIs b T n (r18 vs)) (hn : vs.length = n) : W.heap[b]? = some (.cells vs.toArray T (0, 0)) := by
 obtain ⟨c, h1, h2, h3⟩ := h
 have : c = vs.toArray := by
  apply Array.ext
  · simp [h2, hn]
  · intro i hi hj
    have := h3 i (by omega)
    rw [Array.getElem?_eq_getElem hi] at this
    simp only [Option.some.injEq] at this
    rw [this]
    have hl : i < vs.length := by omega
    simp [r18, List.getD, hl]
 rw [h1, this]
theorem results_cell_tmp {P : Program} {fn : Func} {p q : Tmp} {ty : TypeId} (h : fn.results = #[.cell p ty, .tmp q]) (tmps : Array Value) (w : World) (g : Nat) (t : TypeId) (cs : Array Value) (fr : Nat × Nat) (d : TypeDesc) (u : Value)
 (hp : tmps.getD p undef = .pointer (some ⟨g, 0, none⟩)) (hq : tmps.getD q undef = u) (hg : w.heap[g]? = some (.cells cs t fr))
 (hu : P.underlying ty = some d) (hd : (match d with | .struct _ | .array _ _ => true | _ => false) = true) (hi : (P.info? ty).map (·.size) = some cs.size) :
 (results fn tmps).run P w = .ok (.tuple #[.agg cs, u]) w := by
 have hp' : tmps[p]?.getD undef = .pointer (some ⟨g, 0, none⟩) := by simpa using hp
 have hq' : tmps[q]?.getD undef = u := by simpa using hq
 simp [results, h, hp', hq', asAddr, run_loadVar_row w g t ty cs fr d hg hu hd hi]
theorem results18 {fn : Func} {p q : Tmp} (h : fn.results = #[.cell p 26, .tmp q]) (tmps : Array Value) (w : World) (g : Nat) (cs : List Value) (u : Value)
 (hp : tmps.getD p undef = .pointer (some ⟨g, 0, none⟩)) (hq : tmps.getD q undef = u) (hr : w.rowIs g 26 18 (r18 cs)) (hl : cs.length = 18) :
 (results fn tmps).run Tryz.prog w = .ok (.tuple #[.agg cs.toArray, u]) w :=
 results_cell_tmp h tmps w g 26 cs.toArray (0, 0) _ u hp hq (row_cells hr hl) Tryz.underlying26 (by rfl) (by rw [info18]; simp [hl])
theorem one_of {cs : List Value} (h : cs.all (·.oneCell') = true) : cs.toArray.all (·.oneCell') = true := all_oneCell_toArray fun v hv => List.all_eq_true.1 h v hv
theorem one18 (x0 x1 x2 x3 x4 x5 x6 x7 x8 x9 x10 : Int) (v : C7) (hv : ∀ u, u ∈ [v.q, v.h, v.r, v.g, v.o, v.t, v.s] → u.oneCell' = true) : #[.int .i64 x0, .int .i64 x1, .int .i64 x2, .int .i64 x3, .int .i64 x4, v.q, v.h, .int .i64 x5, v.r, .int .i64 x6, v.g, .int .i64 x7, v.o, .int .i64 x8, v.t, .int .i64 x9, v.s, .int .i64 x10].all (·.oneCell') = true := one_of (by
 simp only [List.mem_cons, List.mem_nil_iff, or_false, forall_eq_or_imp, forall_eq] at hv
 obtain ⟨h1, h2, h3, h4, h5, h6, h7⟩ := hv
 simp only [List.all_cons, List.all_nil, h1, h2, h3, h4, h5, h6, h7]
 rfl)
theorem specCrewStart_no (j k n : Int) (w : World) (hok : ¬ stOk j k n) : Calls Tryz.prog 90 #[.int .i64 j, .int .i64 k, .int .i64 n] w fun e w' => CwEnd w w' e (stCw j k n) (decide (stOk j k n)) := by
 have HIN := xH (fun z lo hi W => frInS z lo hi W)
 have HB0 := xH (fun o => (show Below w.heap.size w (w.alloc o) from (Below.refl _ _).alloc (Nat.le_refl _) o))
 have HR6 := xH (show (w.alloc (.cells #[.int .i64 0, .int .i64 0, .int .i64 0, .int .i64 0, .int .i64 0, .slice none 0 0, .slice none 0 0, .int .i64 0, .slice none 0 0, .int .i64 0, .slice none 0 0, .int .i64 0, .slice none 0 0, .int .i64 0, .slice none 0 0, .int .i64 0, .slice none 0 0, .int .i64 0] 26)).rowIs w.heap.size 26 18 (r18 [.int .i64 0, .int .i64 0, .int .i64 0, .int .i64 0, .int .i64 0, .slice none 0 0, .slice none 0 0, .int .i64 0, .slice none 0 0, .int .i64 0, .slice none 0 0, .int .i64 0, .slice none 0 0, .int .i64 0, .slice none 0 0, .int .i64 0, .slice none 0 0, .int .i64 0]) from box18 w noCw nil7 26)
 go_enter Tryz.func90, Tryz.ntmps90
 go_upto_region 1 with fail
 go_cut [23] from 11 to 23 (fun c wx => c = .bool (! decide (stOk j k n)) ∧ Below w.heap.size w wx ∧ wx.rowIs w.heap.size 26 18 (r18 [.int .i64 0, .int .i64 0, .int .i64 0, .int .i64 0, .int .i64 0, .slice none 0 0, .slice none 0 0, .int .i64 0, .slice none 0 0, .int .i64 0, .slice none 0 0, .int .i64 0, .slice none 0 0, .int .i64 0, .slice none 0 0, .int .i64 0, .slice none 0 0, .int .i64 0]))
 case first =>
  go_wp2_with fail
  refine (xU HIN _ _ _ _).mono ?_
  rintro e w1 ⟨rfl, hb1⟩
  have r1 := (xU HR6).of_block (hb1.block w.heap.size (by simp))
  have B1 := xH ((xU HB0 _).trans (hb1.mono (xU HB0 _).size)); have R1 := xH r1
  clear hb1 HR6 HB0 r1
  by_cases h1 : 0 ≤ j ∧ j ≤ 60
  case neg =>
   rw [decide_eq_false h1]
   have HNO := xH (show decide (stOk j k n) = false from decide_eq_false fun h => h1 h.1)
   clear h1
   go_wp2_with fail
   go_meet
   case rel => exact ⟨by rw [xU HNO]; rfl, xU B1, xU R1⟩
  rw [decide_eq_true h1]
  have H1 := xH h1
  clear h1
  go_wp2_with fail
  refine (xU HIN _ _ _ _).mono ?_
  rintro e w2 ⟨rfl, hb2⟩
  have R2 := xH ((xU R1).of_block (hb2.block _ (xU R1).lt))
  have B2 := xH ((xU B1).trans (hb2.mono (xU B1).size))
  clear hb2 R1 B1
  by_cases h2 : 1 ≤ k ∧ k ≤ 8
  case neg =>
   rw [decide_eq_false h2]
   have HNO := xH (show decide (stOk j k n) = false from decide_eq_false fun h => h2 h.2.1)
   clear h2
   go_wp2_with fail
   go_meet
   case rel => exact ⟨by rw [xU HNO]; rfl, xU B2, xU R2⟩
  rw [decide_eq_true h2]
  have H2 := xH h2
  clear h2
  go_wp2_with fail
  refine (xU HIN _ _ _ _).mono ?_
  rintro e w3 ⟨rfl, hb3⟩
  have R3 := xH ((xU R2).of_block (hb3.block _ (xU R2).lt))
  have B3 := xH ((xU B2).trans (hb3.mono (xU B2).size))
  clear hb3 R2 B2
  have HE := xH (show decide (1 ≤ n ∧ n ≤ 16) = decide (stOk j k n) from decide_eq_decide.2 ⟨fun h => ⟨xU H1, xU H2, h⟩, fun h => h.2.2⟩)
  generalize decide (1 ≤ n ∧ n ≤ 16) = b3 at HE ⊢
  go_wp2_with fail
  go_meet
  case rel => exact ⟨by rw [← xU HE], xU B3, xU R3⟩
 case rest =>
  obtain ⟨rfl, hbw, hrw⟩ := hcut
  · rw [decide_eq_false hok]
    go_upto_region 2 with fail
    refine wp_region_list ?_
    refine wpList_plain rfl (fun K hK => ?_)
    go_simp
    refine hK _ _ ?_
    clear hK K
    refine wpList_store_mid rfl _ _ _ rfl w.heap.size 0 #[.int .i64 0, .int .i64 0, .int .i64 0, .int .i64 0, .int .i64 0, .slice none 0 0, .slice none 0 0, .int .i64 0, .slice none 0 0, .int .i64 0, .slice none 0 0, .int .i64 0, .slice none 0 0, .int .i64 0, .slice none 0 0, .int .i64 0, .slice none 0 0, .int .i64 0] rfl rfl (there_row hrw) info18 (one18 0 0 0 0 0 0 0 0 0 0 0 nil7 (by simp [nil7, Value.oneCell'])) ?_
    have hr2 := row_all (n := 18) [.int .i64 0, .int .i64 0, .int .i64 0, .int .i64 0, .int .i64 0, .slice none 0 0, .slice none 0 0, .int .i64 0, .slice none 0 0, .int .i64 0, .slice none 0 0, .int .i64 0, .slice none 0 0, .int .i64 0, .slice none 0 0, .int .i64 0, .slice none 0 0, .int .i64 0] rfl hrw
    have hb2 := below_setCells (Nat.le_refl w.heap.size) [.int .i64 0, .int .i64 0, .int .i64 0, .int .i64 0, .int .i64 0, .slice none 0 0, .slice none 0 0, .int .i64 0, .slice none 0 0, .int .i64 0, .slice none 0 0, .int .i64 0, .slice none 0 0, .int .i64 0, .slice none 0 0, .int .i64 0, .slice none 0 0, .int .i64 0] 0 wc hbw
    generalize wc.setCells w.heap.size 0 _ = W at hr2 hb2 ⊢
    clear hrw hbw
    have HB := xH hb2
    have HNO := xH hok
    clear hb2 hok
    go_wp2_with fail
    exact bodyPost_ret (v := .tuple #[.agg #[.int .i64 0, .int .i64 0, .int .i64 0, .int .i64 0, .int .i64 0, .slice none 0 0, .slice none 0 0, .int .i64 0, .slice none 0 0, .int .i64 0, .slice none 0 0, .int .i64 0, .slice none 0 0, .int .i64 0, .slice none 0 0, .int .i64 0, .slice none 0 0, .int .i64 0], .bool false]) (results18 (by rfl) _ _ w.heap.size [.int .i64 0, .int .i64 0, .int .i64 0, .int .i64 0, .int .i64 0, .slice none 0 0, .slice none 0 0, .int .i64 0, .slice none 0 0, .int .i64 0, .slice none 0 0, .int .i64 0, .slice none 0 0, .int .i64 0, .slice none 0 0, .int .i64 0, .slice none 0 0, .int .i64 0] _ rfl rfl hr2 rfl) rfl (CwEnd.no (xU HNO) (xU HB))
end Go.Proofs.YtibgjcejddpldaaGreat

namespace Go.Proofs.YtibgjcejddpldaaGreat
open Go Go.RowKit
end Go.Proofs.YtibgjcejddpldaaGreat

namespace Go.Proofs.YtibgjcejddpldaaGreat
open Go Go.RowKit
end Go.Proofs.YtibgjcejddpldaaGreat

namespace Go.Proofs.YtibgjcejddpldaaGreat
open Go Go.RowKit
end Go.Proofs.YtibgjcejddpldaaGreat

namespace Go.Proofs.YtibgjcejddpldaaGreat
open Go Go.RowKit
end Go.Proofs.YtibgjcejddpldaaGreat

namespace Go.Proofs.YtibgjcejddpldaaGreat
open Go Go.RowKit Go.WideMaps Go.Maps
end Go.Proofs.YtibgjcejddpldaaGreat

namespace Go.Proofs.YtibgjcejddpldaaGreat
open Go Go.RowKit
end Go.Proofs.YtibgjcejddpldaaGreat

namespace Go.Proofs.YtibgjcejddpldaaGreat
open Go Go.RowKit
end Go.Proofs.YtibgjcejddpldaaGreat

namespace Go.Proofs.YtibgjcejddpldaaGreat
open Go Go.RowKit
end Go.Proofs.YtibgjcejddpldaaGreat

namespace Go.Proofs.YtibgjcejddpldaaGreat
open Go Go.RowKit
end Go.Proofs.YtibgjcejddpldaaGreat

namespace Go.Proofs.YtibgjcejddpldaaGreat
open Go Go.RowKit
theorem ownsRow_keepT {w w' : World} {base : Nat} {e : TypeId} {size : Nat} {v : Value} {n : Nat} {xs : List Value} (h : w.ownsRow base e size v n xs) (hk : ∀ g, v.ownBlock = some g → w'.heap[g]? = w.heap[g]?) : w'.ownsRow base e size v n xs := by
 refine ⟨h.1, ?_⟩
 rcases h.2 with h0 | ⟨g, cap, cur, hv, hb, hh, hr⟩
 · exact Or.inl h0
 · exact Or.inr ⟨g, cap, cur, hv, hb, by rw [hk g (by rw [hv]; rfl)]; exact hh, hr⟩
theorem cell_twoT (w : World) (x y : Value) (t : TypeId) : ∀ j u, [x, y][j]? = some u → (w.alloc (.cells #[x, y] t)).cell? ((⟨w.heap.size, 0, none⟩ : Addr).add j) = some u := by
 intro j u hj
 match j with
 | 0 => simp only [List.getElem?_cons_zero, Option.some.injEq] at hj; subst hj; rw [Addr.add_lit]; simp [go_sem]
 | 1 => simp only [List.getElem?_cons_succ, List.getElem?_cons_zero, Option.some.injEq] at hj; subst hj; rw [Addr.add_lit]; simp [go_sem]
 | j + 2 => simp at hj
theorem grown_drew {w w' : World} {b : Option Nat} (h : w.drew.grownBy w' b) : w.grownBy w' b := ⟨h.os, h.tape, h.output, h.size, h.block⟩
theorem own_capT {w : World} {base : Nat} {e : TypeId} {size : Nat} {a : Option Addr} {n m cap : Nat} {xs : List Value} (h : w.ownsRow base e size (.slice a n cap) m xs) : n ≤ cap := by
 rcases h.2 with ⟨hv, h0⟩ | ⟨g, c, u, hv, _, _, hle, _⟩
 · simp only [Value.slice.injEq] at hv; omega
 · simp only [Value.slice.injEq] at hv; omega
end Go.Proofs.YtibgjcejddpldaaGreat
