/- The walk of the specification's CrewStart: a world of its own. No conditions. -/
import Derived.Test.YtchbialjgcejgaaPart04
import Derived.Test.YtchbialjgcejgaaPart00
import Derived.Deep.CutRange
import Derived.Deep.MidRow
import Derived.Handy
import Derived.Test.YtchbialjgcejgaaRows
import Derived.Deep.OwnRows
import Derived.Deep.RegionWith
import Derived.Test.YtchbialjgcejgaaPart01
import Derived.Test.YtchbialjgcejgaaPart02
import Derived.Maps.OwnSet
import Derived.Maps.OwnOps
import Derived.Maps.Views
import Derived.Deep.Draws
namespace Go.Proofs.Ytchbialjgcejgaa
open Go Go.RowKit

/-- Whether a crew may begin so, and the world then. -/
def stOk (j k n : Int) : Prop := (0 ≤ j ∧ j ≤ 60) ∧ (1 ≤ k ∧ k ≤ 8) ∧ (1 ≤ n ∧ n ≤ 16)
instance (j k n : Int) : Decidable (stOk j k n) := by unfold stOk; infer_instance
def noCw : Cw := ⟨0, 0, 0, 0, 0, [], [], 0, [], 0, [], 0, [], 0, [], 0, [], 0⟩
def stCw (j k n : Int) : Cw := if stOk j k n then ⟨j, k, n, 0, 0, [], List.replicate k.toNat ⟨0, 0⟩, 0, [], 0, List.replicate n.toNat (-1), 0, [], 0, [], n, [0, 0, 0, 0], 0⟩ else noCw
/-- A world in memory of its own is given back, and a word. -/
def CwEnd (w w' : World) (e : Ending) (c : Cw) (ok : Bool) : Prop :=
  ∃ (v : C7) (Fq Fh Fr Fg Fo Ft Fs : List Nat), e = .returned (.tuple #[.agg #[.int .i64 c.jobs, .int .i64 c.workers, .int .i64 c.window, .int .i64 c.next, .int .i64 c.reader, v.q, v.h, .int .i64 c.closer, v.r, .int .i64 c.keeper, v.g, .int .i64 c.due, v.o, .int .i64 c.user, v.t, .int .i64 c.room, v.s, .int .i64 c.ops], .bool ok]) ∧ CwOwn w' c v Fq Fh Fr Fg Fo Ft Fs ∧ Dj7 Fq Fh Fr Fg Fo Ft Fs ∧ (∀ b, b ∈ F7 Fq Fh Fr Fg Fo Ft Fs → w.heap.size ≤ b ∧ b < w'.heap.size) ∧ Below w.heap.size w w'
def nil7 : C7 := ⟨.slice none 0 0, .slice none 0 0, .slice none 0 0, .slice none 0 0, .slice none 0 0, .slice none 0 0, .slice none 0 0⟩
theorem own_none (w : World) : CwOwn w noCw nil7 [] [] [] [] [] [] [] :=
  ⟨FlatOwn.nil w 1, FlatOwn.nil w 2, FlatOwn.nil w 1, FlatOwn.nil w 1, FlatOwn.nil w 1, FlatOwn.nil w 1, FlatOwn.nil w 1⟩
theorem dj_none : Dj7 [] [] [] [] [] [] [] := ⟨fun b hb => (by cases hb), fun b hb => (by cases hb), fun b hb => (by cases hb), fun b hb => (by cases hb), fun b hb => (by cases hb), fun b hb => (by cases hb)⟩
theorem CwEnd.no {w w' : World} {j k n : Int} (h : ¬ stOk j k n) (hb : Below w.heap.size w w') : CwEnd w w' (.returned (.tuple #[.agg #[.int .i64 0, .int .i64 0, .int .i64 0, .int .i64 0, .int .i64 0, .slice none 0 0, .slice none 0 0, .int .i64 0, .slice none 0 0, .int .i64 0, .slice none 0 0, .int .i64 0, .slice none 0 0, .int .i64 0, .slice none 0 0, .int .i64 0, .slice none 0 0, .int .i64 0], .bool false])) (stCw j k n) (decide (stOk j k n)) := by
  have hc : stCw j k n = noCw := if_neg h
  rw [hc, decide_eq_false h]
  exact ⟨nil7, [], [], [], [], [], [], [], rfl, own_none w', dj_none, fun b hb => (by cases hb), hb⟩
theorem there_row {w : World} {b : Nat} {T : TypeId} {n : Nat} {f : Nat → Value} (h : w.rowIs b T n f) : w.there b 0 n := fun j hj => by
  rw [Nat.zero_add]
  exact ⟨by rw [h.cell hj]; rfl, h.frozen j⟩
theorem row_setCells {b : Nat} {T : TypeId} {n : Nat} : ∀ (vs : List Value) (o : Nat) (W : World) (f : Nat → Value), W.rowIs b T n f → o + vs.length ≤ n → (W.setCells b o vs).rowIs b T n (fun i => if o ≤ i ∧ i < o + vs.length then vs.getD (i - o) undef else f i)
  | [], o, W, f, h, _ => h.congr fun i _ => by
      show f i = _
      rw [if_neg (by simp)]
  | v :: r, o, W, f, h, hn => by
      have hl : (v :: r).length = r.length + 1 := rfl
      refine (row_setCells r (o + 1) (W.setCell ⟨b, o, none⟩ v) _ (h.set o v) (by omega)).congr fun i _ => ?_
      rw [hl]
      by_cases h1 : i = o
      · subst h1
        rw [if_neg (by omega), if_pos rfl, if_pos ⟨Nat.le_refl _, by omega⟩, Nat.sub_self]
        rfl
      · by_cases h2 : o ≤ i ∧ i < o + (r.length + 1)
        · rw [if_pos h2, if_pos (by omega)]
          obtain ⟨d, hd⟩ : ∃ d, i - o = d + 1 := ⟨i - o - 1, by omega⟩
          rw [hd, show i - (o + 1) = d by omega, List.getD_cons_succ]
        · rw [if_neg h2, if_neg (by omega)]
          simp [h1]
theorem row_all {b : Nat} {T : TypeId} {W : World} {f : Nat → Value} {n : Nat} (vs : List Value) (hn : vs.length = n) (h : W.rowIs b T n f) : (W.setCells b 0 vs).rowIs b T n (r18 vs) :=
  (row_setCells vs 0 W f h (by omega)).congr fun i hi => by rw [if_pos (by omega)]; rfl
theorem below_setCells {B : Nat} {a : World} {b : Nat} (hB : B ≤ b) : ∀ (vs : List Value) (o : Nat) (W : World), Below B a W → Below B a (W.setCells b o vs)
  | [], _, _, h => h
  | v :: r, o, _, h => below_setCells hB r (o + 1) _ (h.setCell hB v)
theorem info18 : (Try.prog.info? 28).map (·.size) = some 18 := by kernel_rfl
theorem row_cells {W : World} {b : Nat} {T : TypeId} {n : Nat} {vs : List Value} (h : W.rowIs b T n (r18 vs)) (hn : vs.length = n) : W.heap[b]? = some (.cells vs.toArray T (0, 0)) := by
  obtain ⟨c, h1, h2, h3⟩ := h
  have : c = vs.toArray := by
    apply Array.ext
    · simp [h2, hn]
    · intro i hi hj
      have := h3 i (by omega)
      rw [Array.getElem?_eq_getElem hi] at this
      simp only [Option.some.injEq] at this
      rw [this]
      have hl : i < vs.length := by omega
      simp [r18, List.getD, hl]
  rw [h1, this]
theorem results_cell_tmp {P : Program} {fn : Func} {p q : Tmp} {ty : TypeId} (h : fn.results = #[.cell p ty, .tmp q]) (tmps : Array Value) (w : World) (g : Nat) (t : TypeId) (cs : Array Value) (fr : Nat × Nat) (d : TypeDesc) (u : Value)
    (hp : tmps.getD p undef = .pointer (some ⟨g, 0, none⟩)) (hq : tmps.getD q undef = u) (hg : w.heap[g]? = some (.cells cs t fr))
    (hu : P.underlying ty = some d) (hd : (match d with | .struct _ | .array _ _ => true | _ => false) = true) (hi : (P.info? ty).map (·.size) = some cs.size) :
    (results fn tmps).run P w = .ok (.tuple #[.agg cs, u]) w := by
  have hp' : tmps[p]?.getD undef = .pointer (some ⟨g, 0, none⟩) := by simpa using hp
  have hq' : tmps[q]?.getD undef = u := by simpa using hq
  simp [results, h, hp', hq', asAddr, run_loadVar_row w g t ty cs fr d hg hu hd hi]
/-- A world in its box and a word are given back. -/
theorem results18 {fn : Func} {p q : Tmp} (h : fn.results = #[.cell p 28, .tmp q]) (tmps : Array Value) (w : World) (g : Nat) (cs : List Value) (u : Value)
    (hp : tmps.getD p undef = .pointer (some ⟨g, 0, none⟩)) (hq : tmps.getD q undef = u) (hr : w.rowIs g 28 18 (r18 cs)) (hl : cs.length = 18) :
    (results fn tmps).run Try.prog w = .ok (.tuple #[.agg cs.toArray, u]) w :=
  results_cell_tmp h tmps w g 28 cs.toArray (0, 0) _ u hp hq (row_cells hr hl) Try.underlying28 (by rfl) (by rw [info18]; simp [hl])
theorem one_of {cs : List Value} (h : cs.all (·.oneCell') = true) : cs.toArray.all (·.oneCell') = true := all_oneCell_toArray fun v hv => List.all_eq_true.1 h v hv
theorem one18 (x0 x1 x2 x3 x4 x5 x6 x7 x8 x9 x10 : Int) (v : C7) (hv : ∀ u, u ∈ [v.q, v.h, v.r, v.g, v.o, v.t, v.s] → u.oneCell' = true) : #[.int .i64 x0, .int .i64 x1, .int .i64 x2, .int .i64 x3, .int .i64 x4, v.q, v.h, .int .i64 x5, v.r, .int .i64 x6, v.g, .int .i64 x7, v.o, .int .i64 x8, v.t, .int .i64 x9, v.s, .int .i64 x10].all (·.oneCell') = true := one_of (by
  simp only [List.mem_cons, List.mem_nil_iff, or_false, forall_eq_or_imp, forall_eq] at hv
  obtain ⟨h1, h2, h3, h4, h5, h6, h7⟩ := hv
  simp only [List.all_cons, List.all_nil, h1, h2, h3, h4, h5, h6, h7]
  rfl)
set_option maxRecDepth 100000 in
set_option maxHeartbeats 3200000 in
theorem specCrewStart_no (j k n : Int) (w : World) (hok : ¬ stOk j k n) : Calls Try.prog 10 #[.int .i64 j, .int .i64 k, .int .i64 n] w fun e w' => CwEnd w w' e (stCw j k n) (decide (stOk j k n)) := by
  have HIN := hide (fun z lo hi W => frInS z lo hi W)
  have HB0 := hide (fun o => (show Below w.heap.size w (w.alloc o) from (Below.refl _ _).alloc (Nat.le_refl _) o))
  have HR6 := hide (show (w.alloc (.cells #[.int .i64 0, .int .i64 0, .int .i64 0, .int .i64 0, .int .i64 0, .slice none 0 0, .slice none 0 0, .int .i64 0, .slice none 0 0, .int .i64 0, .slice none 0 0, .int .i64 0, .slice none 0 0, .int .i64 0, .slice none 0 0, .int .i64 0, .slice none 0 0, .int .i64 0] 28)).rowIs w.heap.size 28 18 (r18 [.int .i64 0, .int .i64 0, .int .i64 0, .int .i64 0, .int .i64 0, .slice none 0 0, .slice none 0 0, .int .i64 0, .slice none 0 0, .int .i64 0, .slice none 0 0, .int .i64 0, .slice none 0 0, .int .i64 0, .slice none 0 0, .int .i64 0, .slice none 0 0, .int .i64 0]) from box18 w noCw nil7 28)
  go_enter Try.func10, Try.ntmps10
  go_upto_region 1 with fail
  go_cut [23] from 11 to 23 (fun c wx => c = .bool (! decide (stOk j k n)) ∧ Below w.heap.size w wx ∧ wx.rowIs w.heap.size 28 18 (r18 [.int .i64 0, .int .i64 0, .int .i64 0, .int .i64 0, .int .i64 0, .slice none 0 0, .slice none 0 0, .int .i64 0, .slice none 0 0, .int .i64 0, .slice none 0 0, .int .i64 0, .slice none 0 0, .int .i64 0, .slice none 0 0, .int .i64 0, .slice none 0 0, .int .i64 0]))
  case first =>
    go_wp2_with fail
    refine (unhide HIN _ _ _ _).mono ?_
    rintro e w1 ⟨rfl, hb1⟩
    have r1 := (unhide HR6).of_block (hb1.block w.heap.size (by simp))
    have B1 := hide ((unhide HB0 _).trans (hb1.mono (unhide HB0 _).size)); have R1 := hide r1
    clear hb1 HR6 HB0 r1
    by_cases h1 : 0 ≤ j ∧ j ≤ 60
    case neg =>
      rw [decide_eq_false h1]
      have HNO := hide (show decide (stOk j k n) = false from decide_eq_false fun h => h1 h.1)
      clear h1
      go_wp2_with fail
      go_meet
      case rel => exact ⟨by rw [unhide HNO]; rfl, unhide B1, unhide R1⟩
    rw [decide_eq_true h1]
    have H1 := hide h1
    clear h1
    go_wp2_with fail
    refine (unhide HIN _ _ _ _).mono ?_
    rintro e w2 ⟨rfl, hb2⟩
    have R2 := hide ((unhide R1).of_block (hb2.block _ (unhide R1).lt))
    have B2 := hide ((unhide B1).trans (hb2.mono (unhide B1).size))
    clear hb2 R1 B1
    by_cases h2 : 1 ≤ k ∧ k ≤ 8
    case neg =>
      rw [decide_eq_false h2]
      have HNO := hide (show decide (stOk j k n) = false from decide_eq_false fun h => h2 h.2.1)
      clear h2
      go_wp2_with fail
      go_meet
      case rel => exact ⟨by rw [unhide HNO]; rfl, unhide B2, unhide R2⟩
    rw [decide_eq_true h2]
    have H2 := hide h2
    clear h2
    go_wp2_with fail
    refine (unhide HIN _ _ _ _).mono ?_
    rintro e w3 ⟨rfl, hb3⟩
    have R3 := hide ((unhide R2).of_block (hb3.block _ (unhide R2).lt))
    have B3 := hide ((unhide B2).trans (hb3.mono (unhide B2).size))
    clear hb3 R2 B2
    have HE := hide (show decide (1 ≤ n ∧ n ≤ 16) = decide (stOk j k n) from decide_eq_decide.2 ⟨fun h => ⟨unhide H1, unhide H2, h⟩, fun h => h.2.2⟩)
    generalize decide (1 ≤ n ∧ n ≤ 16) = b3 at HE ⊢
    go_wp2_with fail
    go_meet
    case rel => exact ⟨by rw [← unhide HE], unhide B3, unhide R3⟩
  case rest =>
    obtain ⟨rfl, hbw, hrw⟩ := hcut
    · rw [decide_eq_false hok]
      go_upto_region 2 with fail
      refine wp_region_list ?_
      refine wpList_plain rfl (fun K hK => ?_)
      go_simp
      refine hK _ _ ?_
      clear hK K
      refine wpList_store_mid rfl _ _ _ rfl w.heap.size 0 #[.int .i64 0, .int .i64 0, .int .i64 0, .int .i64 0, .int .i64 0, .slice none 0 0, .slice none 0 0, .int .i64 0, .slice none 0 0, .int .i64 0, .slice none 0 0, .int .i64 0, .slice none 0 0, .int .i64 0, .slice none 0 0, .int .i64 0, .slice none 0 0, .int .i64 0] rfl rfl (there_row hrw) info18 (one18 0 0 0 0 0 0 0 0 0 0 0 nil7 (by simp [nil7, Value.oneCell'])) ?_
      have hr2 := row_all (n := 18) [.int .i64 0, .int .i64 0, .int .i64 0, .int .i64 0, .int .i64 0, .slice none 0 0, .slice none 0 0, .int .i64 0, .slice none 0 0, .int .i64 0, .slice none 0 0, .int .i64 0, .slice none 0 0, .int .i64 0, .slice none 0 0, .int .i64 0, .slice none 0 0, .int .i64 0] rfl hrw
      have hb2 := below_setCells (Nat.le_refl w.heap.size) [.int .i64 0, .int .i64 0, .int .i64 0, .int .i64 0, .int .i64 0, .slice none 0 0, .slice none 0 0, .int .i64 0, .slice none 0 0, .int .i64 0, .slice none 0 0, .int .i64 0, .slice none 0 0, .int .i64 0, .slice none 0 0, .int .i64 0, .slice none 0 0, .int .i64 0] 0 wc hbw
      generalize wc.setCells w.heap.size 0 _ = W at hr2 hb2 ⊢
      clear hrw hbw
      have HB := hide hb2
      have HNO := hide hok
      clear hb2 hok
      go_wp2_with fail
      exact bodyPost_ret (v := .tuple #[.agg #[.int .i64 0, .int .i64 0, .int .i64 0, .int .i64 0, .int .i64 0, .slice none 0 0, .slice none 0 0, .int .i64 0, .slice none 0 0, .int .i64 0, .slice none 0 0, .int .i64 0, .slice none 0 0, .int .i64 0, .slice none 0 0, .int .i64 0, .slice none 0 0, .int .i64 0], .bool false]) (results18 (by rfl) _ _ w.heap.size [.int .i64 0, .int .i64 0, .int .i64 0, .int .i64 0, .int .i64 0, .slice none 0 0, .slice none 0 0, .int .i64 0, .slice none 0 0, .int .i64 0, .slice none 0 0, .int .i64 0, .slice none 0 0, .int .i64 0, .slice none 0 0, .int .i64 0, .slice none 0 0, .int .i64 0] _ rfl rfl hr2 rfl) rfl (CwEnd.no (unhide HNO) (unhide HB))
end Go.Proofs.Ytchbialjgcejgaa

/- The walk of the law's own eqStringS: two slices of the same strings are the same. No conditions. -/

namespace Go.Proofs.Ytchbialjgcejgaa
open Go Go.RowKit

end Go.Proofs.Ytchbialjgcejgaa

/- The walks of szStringS, toStringS, eqStringS: what they answer, and that they turn nothing that was there. No conditions but toStringS's on the number of strings. -/

namespace Go.Proofs.Ytchbialjgcejgaa
open Go Go.RowKit

end Go.Proofs.Ytchbialjgcejgaa

/- The walk of toStringS once more: the copy lies in new blocks of which nothing is frozen. No conditions but the number of strings, at most 2^20. -/

namespace Go.Proofs.Ytchbialjgcejgaa
open Go Go.RowKit

/-- In blocks that are new between two worlds, and of which nothing is frozen. -/
def NewF (w w' : World) : Nat → Prop := fun b => New w w' b ∧ FreeB w' b

end Go.Proofs.Ytchbialjgcejgaa

/- Jobs as plain data, how they lie in memory, and what they tell. No program, no conditions. -/

namespace Go.Proofs.Ytchbialjgcejgaa
open Go Go.RowKit

structure Jb where
  items : List Int
  bad : Int
def wJ : List Jb → Nat
  | [] => 0
  | j :: r => 1 + j.items.length + wJ r
theorem wJ_len (l : List Jb) : l.length ≤ wJ l := by
  induction l with
  | nil => simp [wJ]
  | cons a r ih => rw [wJ]; simp; omega
theorem wJ_mem {j : Jb} {l : List Jb} (h : j ∈ l) : j.items.length + 1 ≤ wJ l := by
  induction l with
  | nil => cases h
  | cons a r ih =>
    rw [wJ]
    rcases List.mem_cons.1 h with rfl | h
    · omega
    · have := ih h; omega
theorem wJ_take (js : List Jb) (k : Nat) (h : k < js.length) : wJ (js.take (k + 1)) = wJ (js.take k) + js[k].items.length + 1 := by
  induction js generalizing k with
  | nil => simp at h
  | cons a r ih =>
    cases k with
    | zero => simp [wJ]; omega
    | succ k => simp only [List.take_succ_cons, wJ, List.getElem_cons_succ]; rw [ih k (by simpa using h)]; omega

/-- One job of a list. -/
def JbOne (P : Nat → Prop) (w : World) (b o : Nat) (j : Jb) : Prop := ∃ a cap, w.cell? ⟨b, o, none⟩ = some (.slice a j.items.length cap) ∧ w.cell? ⟨b, o + 1, none⟩ = some (.int .i64 j.bad) ∧ ZsAt P w (.slice a j.items.length cap) j.items ∧ I64 j.bad
theorem JbOne.carry {P Q : Nat → Prop} {w w' : World} {b o : Nat} {j : Jb} (h : JbOne P w b o j) (hb : w'.heap[b]? = w.heap[b]?) (hP : ∀ b, P b → w'.heap[b]? = w.heap[b]?) (hQ : ∀ b, P b → Q b) : JbOne Q w' b o j := by
  obtain ⟨a, cap, h1, h2, h3, h4⟩ := h
  exact ⟨a, cap, by rw [World.cell?_of_block (w := w) hb]; exact h1, by rw [World.cell?_of_block (w := w) hb]; exact h2, h3.carry hP hQ, h4⟩
def JbsAt (P : Nat → Prop) (w : World) (v : Value) (js : List Jb) : Prop :=
  ∃ a cap, v = .slice a js.length cap ∧ js.length ≤ 9223372036854775807 ∧ ∀ i, (h : i < js.length) → ∃ b o, a = some ⟨b, o, none⟩ ∧ P b ∧ JbOne P w b (o + i * 2) js[i]
theorem JbsAt.carry {P Q : Nat → Prop} {w w' : World} {v : Value} {js : List Jb} (h : JbsAt P w v js) (hP : ∀ b, P b → w'.heap[b]? = w.heap[b]?) (hQ : ∀ b, P b → Q b) : JbsAt Q w' v js := by
  obtain ⟨a, cap, h1, h2, h3⟩ := h
  refine ⟨a, cap, h1, h2, fun i hi => ?_⟩
  obtain ⟨b, o, e, p, hc⟩ := h3 i hi
  exact ⟨b, o, e, hQ b p, hc.carry (hP b p) hP hQ⟩

/-- Whether jobs are ok. -/
def jOk (j : Jb) : Bool := decide (0 ≤ j.bad) && decide (j.items.length ≤ 40)
def jsOk (js : List Jb) : Bool := decide (js.length ≤ 60) && js.all jOk
/-- The items, the bad ones. -/
def tI : List Jb → List Int
  | [] => []
  | j :: r => (if j.bad = 0 then j.items else []) ++ tI r
def tD : Nat → List Jb → List Hd
  | _, [] => []
  | n, j :: r => (if j.bad = 0 then [] else [⟨(n : Int), j.bad⟩]) ++ tD (n + 1) r
theorem tI_append (a b : List Jb) : tI (a ++ b) = tI a ++ tI b := by
  induction a with
  | nil => rfl
  | cons x r ih => simp [tI, ih]
theorem tD_append (n : Nat) (a b : List Jb) : tD n (a ++ b) = tD n a ++ tD (n + a.length) b := by
  induction a generalizing n with
  | nil => simp [tD]
  | cons x r ih => simp [tD, ih]; rw [show n + 1 + r.length = n + (r.length + 1) by omega]
theorem tI_take (js : List Jb) (k : Nat) (h : k < js.length) : tI (js.take (k + 1)) = tI (js.take k) ++ (if js[k].bad = 0 then js[k].items else []) := by
  rw [List.take_succ_eq_append_getElem h, tI_append]; simp [tI]
theorem tD_take (js : List Jb) (k : Nat) (h : k < js.length) : tD 0 (js.take (k + 1)) = tD 0 (js.take k) ++ (if js[k].bad = 0 then [] else [⟨(k : Int), js[k].bad⟩]) := by
  rw [List.take_succ_eq_append_getElem h, tD_append]
  have : (js.take k).length = k := by rw [List.length_take]; omega
  simp [tD, this]
theorem tI_len (js : List Jb) (h : js.all jOk = true) : (tI js).length ≤ js.length * 40 := by
  induction js with
  | nil => simp [tI]
  | cons j r ih =>
    simp only [List.all_cons, Bool.and_eq_true] at h
    have h1 := ih h.2
    have h2 : j.items.length ≤ 40 := by have := h.1; unfold jOk at this; simp at this; exact this.2
    rw [tI, List.length_append, List.length_cons]
    split <;> simp <;> omega
theorem tD_len (n : Nat) (js : List Jb) : (tD n js).length ≤ js.length := by
  induction js generalizing n with
  | nil => simp [tD]
  | cons j r ih => have := ih (n + 1); rw [tD, List.length_append, List.length_cons]; split <;> simp <;> omega
theorem all_takeJ {js : List Jb} {k : Nat} (h : k < js.length) (p : Jb → Bool) : (js.take (k + 1)).all p = ((js.take k).all p && p js[k]) := by
  rw [List.take_succ_eq_append_getElem h, List.all_append]; simp only [List.all_cons, List.all_nil, Bool.and_true]
theorem all_falseJ {js : List Jb} {k : Nat} (h : k < js.length) {p : Jb → Bool} (hp : p js[k] = false) : js.all p = false := by
  rw [List.all_eq_false]; exact ⟨_, List.getElem_mem h, by simp [hp]⟩
theorem ZsAt.z {P : Nat → Prop} {w : World} {v : Value} {zs : List Int} (h : ZsAt P w v zs) : ZAt P w v zs := by
  obtain ⟨a, cap, h1, h2, h3⟩ := h
  refine ⟨a, cap, by rw [List.length_map]; exact h1, by rw [List.length_map]; exact h2, fun i hi => ?_⟩
  rw [List.length_map] at hi
  obtain ⟨b, o, e, hp, hc, -⟩ := h3 i hi
  refine ⟨b, o, e, hp, fun j hj => ?_⟩
  obtain rfl : j = 0 := by omega
  simp only [List.getElem_map, zcs, Nat.add_zero, Nat.mul_one, List.getD_cons_zero]
  exact hc

/-- What is told: whether it is ok, the items, the bad ones, how many jobs. -/
structure Td where
  ok : Bool
  items : List Int
  dead : List Hd
  jobs : Int
def noTd : Td := ⟨false, [], [], 0⟩
def tellJ (js : List Jb) : Td := if jsOk js then ⟨true, tI js, tD 0 js, js.length⟩ else noTd
/-- It is given back in memory of its own. -/
def TdEnd (w w' : World) (e : Ending) (t : Td) : Prop :=
  ∃ (vI vD : Value) (F0 F1 : List Nat), e = .returned (.agg #[.bool t.ok, vI, vD, .int .i64 t.jobs, .int .i64 0, .int .i64 0]) ∧ ZOwn w' vI t.items F0 ∧ HOwn w' vD t.dead F1 ∧ (F0 ++ F1).Nodup ∧ (∀ b, b ∈ F0 ++ F1 → w.heap.size ≤ b ∧ b < w'.heap.size) ∧ Below w.heap.size w w'
end Go.Proofs.Ytchbialjgcejgaa

/- Names with the places at which they stand, in a map of the call's own. No conditions. -/

namespace Go.Proofs.Ytchbialjgcejgaa
open Go Go.RowKit Go.WideMaps Go.Maps

/-- What a name reads as, where it is a key. -/
def nkey (s : ByteArray) : Lit := .string s.data.toList
/-- The map behind k names. -/
def nmap (ns : List ByteArray) : Nat → DataW Unit
  | 0 => .map []
  | k + 1 => (nmap ns k).put (nkey (ns.getD k ByteArray.empty)) (.lit (.int .i64 k))
theorem nmap_map (ns : List ByteArray) : ∀ k, IsMap (nmap ns k)
  | 0 => ⟨[], rfl⟩
  | k + 1 => (nmap_map ns k).put _ _
theorem nkey_inj {a b : ByteArray} (h : nkey a = nkey b) : a = b := by
  simp only [nkey, Lit.string.injEq] at h
  exact ByteArray.ext (Array.toList_inj.1 h)
theorem nkey_ok (s : ByteArray) : WideAt.IsKeyLit (nkey s) := trivial
theorem has_nmap (ns : List ByteArray) (x : ByteArray) : ∀ k, k ≤ ns.length → (Maps.has (nmap ns k) (nkey x) = true ↔ x ∈ ns.take k)
  | 0, _ => by simp [nmap, Maps.has]
  | k + 1, h => by
    have hg : ns.getD k ByteArray.empty = ns[k] := by simp [List.getD, show k < ns.length by omega]
    rw [nmap, hg, List.take_succ_eq_append_getElem (by omega), List.mem_append]
    by_cases e : x = ns[k]
    · rw [e, has_put_same (nmap_map ns k) (nkey_ok _)]
      simp
    · rw [has_put_other (fun h => e (nkey_inj h)), has_nmap ns x k (by omega)]
      simp [e]
theorem at_nmap (ns : List ByteArray) (hnd : ns.Nodup) (i : Nat) (hi : i < ns.length) : ∀ k, k ≤ ns.length → i < k → (nmap ns k).atKey (nkey ns[i]) (.lit (.int .i64 0)) = .lit (.int .i64 i)
  | 0, _, h => by omega
  | k + 1, h, hk => by
    have hg : ns.getD k ByteArray.empty = ns[k] := by simp [List.getD, show k < ns.length by omega]
    rw [nmap, hg]
    by_cases e : i = k
    · subst e
      exact atKey_put_same (nmap_map ns i) (nkey_ok _) _ _
    · rw [atKey_put_other (fun hh => e ((List.getElem_inj hnd).1 (nkey_inj hh)))]
      exact at_nmap ns hnd i hi k (by omega) (by omega)

theorem keyLaw : Keyed Try.prog 9 := string_keyed Try.underlying9
theorem zeroInt (w : World) : (zeroValue 3).run Try.prog w = .ok (.int .i64 0) w := by kernel_rfl
/-- The names and the map of their places. -/
def NMap (w : World) (B : Nat) (ns : List ByteArray) : Prop := w.ownsMap Try.prog 9 (plainElem (H := Unit) Try.prog 3) B ns.length (nmap ns ns.length)

def rowO (c0 c1 : Value) : Nat → Value
  | 0 => c0
  | _ => c1
theorem rowO_alloc (w : World) (c0 c1 : Value) (t : TypeId) : (w.alloc (.cells #[c0, c1] t)).rowIs w.heap.size t 2 (rowO c0 c1) :=
  World.rowIs_alloc w #[c0, c1] t _ (fun i hi => by
    have hi' : i < 2 := hi
    match i, hi' with
    | 0, _ => rfl
    | 1, _ => rfl)


/-- A map is where its block is as it was. -/
theorem ownsMap_block {w w' : World} {B n : Nat} {D : DataW Unit} (h : w.ownsMap Try.prog 9 (plainElem (H := Unit) Try.prog 3) B n D) (hb : w'.heap[B]? = w.heap[B]?) : w'.ownsMap Try.prog 9 (plainElem (H := Unit) Try.prog 3) B n D := by
  obtain ⟨es, clock, h1, F, hs, rfl⟩ := h
  exact ⟨es, clock, by rw [hb]; exact h1, F, hs, rfl⟩
end Go.Proofs.Ytchbialjgcejgaa

/- The walks of the law's own functions on jobs: szCrewJobS, toCrewJobS, eqCrewJobS. No conditions but the weight, at most 2^20. -/

namespace Go.Proofs.Ytchbialjgcejgaa
open Go Go.RowKit

set_option maxHeartbeats 400000 in
theorem szIntS_any (v : Value) (zs : List Int) (P : Nat → Prop) (left : Int) (w : World) (hv : ZsAt P w v zs) (h0 : 0 ≤ left) (h1 : left ≤ 1048576) :
    Calls Try.prog 48 #[v, .int .i64 left] w fun e w' => ∃ r : Int, e = .returned (.int .i64 r) ∧ (r = -1 ∨ (0 ≤ r ∧ r + zs.length = left)) ∧ w' = w := by
  obtain ⟨a, cap, rfl, hlen, -⟩ := hv
  by_cases hneg : left - zs.length < 0
  · go_enter Try.func48, Try.ntmps48
    go_wp2_with fail
    go_ret
    exact ⟨_, rfl, Or.inl rfl, rfl⟩
  · go_enter Try.func48, Try.ntmps48
    go_wp2_with fail
    go_ret
    exact ⟨_, rfl, Or.inr ⟨by omega, by omega⟩, rfl⟩

set_option maxHeartbeats 400000 in
theorem szCrewJob_any (j : Jb) (P : Nat → Prop) (v : Value) (left : Int) (w : World) (hP : ∀ b, P b → b < w.heap.size) (hv : ZsAt P w v j.items) (h0 : 0 ≤ left) (h1 : left ≤ 1048576) :
    Calls Try.prog 57 #[.agg #[v, .int .i64 j.bad], .int .i64 left] w fun e w' => ∃ r : Int, e = .returned (.int .i64 r) ∧ (r = -1 ∨ (0 ≤ r ∧ r + j.items.length = left)) ∧ Below w.heap.size w w' := by
  have hbx : ∀ o, Below w.heap.size w (w.alloc o) := fun o => (Below.refl _ _).alloc (Nat.le_refl _) o
  have HZ := hide (fun o => szIntS_any v j.items P left (w.alloc o) (hv.carry (fun b hb => (hbx o).block b (hP b hb)) (fun _ h => h)) h0 h1)
  obtain ⟨a, cap, rfl, hlen, -⟩ := hv
  clear hP
  go_enter Try.func57, Try.ntmps57
  go_wp2_with fail
  refine (unhide HZ _).mono ?_
  rintro e w' ⟨r, rfl, hr, rfl⟩
  rcases hr with rfl | ⟨hr0, hr1⟩
  · go_wp2_with fail
    go_ret
    exact ⟨_, rfl, Or.inl rfl, hbx _⟩
  · have HR := hide hr1; clear hr1
    go_wp2_with fail
    go_ret
    exact ⟨_, rfl, Or.inr ⟨hr0, unhide HR⟩, hbx _⟩

set_option maxRecDepth 100000 in
set_option maxHeartbeats 800000 in
theorem szCrewJobS_any (js : List Jb) (P : Nat → Prop) (v : Value) (left : Int) (w : World) (hP : ∀ b, P b → b < w.heap.size) (hv : JbsAt P w v js) (h0 : 0 ≤ left) (h1 : left ≤ 1048576) :
    Calls Try.prog 24 #[v, .int .i64 left] w fun e w' => ∃ r : Int, e = .returned (.int .i64 r) ∧ (r = -1 ∨ (0 ≤ r ∧ r + wJ js = left)) ∧ Below w.heap.size w w' := by
  obtain ⟨a, cap, rfl, hlen, hc⟩ := hv
  have HC := hide hc; clear hc
  have HP := hide hP; clear hP
  by_cases hneg : left - js.length < 0
  · go_enter Try.func24, Try.ntmps24
    go_wp2_with fail
    go_ret
    exact ⟨_, rfl, Or.inl rfl, Below.refl _ _⟩
  · go_enter Try.func24, Try.ntmps24
    go_wp2_with fail
    go_loopw [1, 5] (fun l i wr => ∃ (k : Nat) (q : Int), k ≤ js.length ∧ i = .int .i64 k ∧ l = .int .i64 q ∧ 0 ≤ q ∧ q ≤ 1048576 ∧ Hid (q + js.length + wJ (js.take k) = left + k) ∧ Below w.heap.size w wr) (fun _ i _ => js.length - (intOf i).toNat)
    case atStart => exact ⟨0, _, Nat.zero_le _, rfl, rfl, by omega, by omega, by simp [Hid, wJ], Below.refl _ _⟩
    case round =>
      obtain ⟨k, q, hk, rfl, rfl, hq0, hq1, HQ, hb⟩ := hrel
      by_cases hlt : k < js.length
      · obtain ⟨b, o, rfl, hpb, au, cu, hc0, hc1, hz, -⟩ := unhide HC k hlt
        have e0 : wr.cell? ⟨b, o + k * 2, none⟩ = some (.slice au js[k].items.length cu) := by rw [hb.cell (unhide HP b hpb)]; exact hc0
        have e1 : wr.cell? ⟨b, o + k * 2 + 1, none⟩ = some (.int .i64 js[k].bad) := by rw [hb.cell (unhide HP b hpb)]; exact hc1
        have HCALL := hide (szCrewJob_any js[k] P _ q wr (fun b hb' => Nat.lt_of_lt_of_le (unhide HP b hb') hb.size) (hz.carry (fun b hb' => hb.block b (unhide HP b hb')) (fun _ h => h)) hq0 hq1)
        have HT := hide (wJ_take js k hlt)
        clear hz hc0 hc1 hpb
        generalize js[k] = jb at *
        go_wp2_with fail
        refine (unhide HCALL).mono ?_
        rintro e w' ⟨r, rfl, hr, hb'⟩
        have hb2 := hb.trans (hb'.mono hb.size)
        clear hb' HCALL
        rcases hr with rfl | ⟨hr0, hr1⟩
        · go_wp2_with fail
          go_ret
          exact ⟨_, rfl, Or.inl rfl, hb2⟩
        · have HR1 := hide hr1; clear hr1
          have hr2 : r ≤ 1048576 := by have := unhide HR1; omega
          go_wp2_with fail
          go_roundw
          case rel => exact ⟨k + 1, _, by omega, by go_num, rfl, by omega, by omega, by have := HQ.out; have := unhide HT; have := unhide HR1; show _ = _; omega, hb2⟩
          case measure => simp [intOf]; omega
      · go_wp2_with fail
        go_ret
        refine ⟨_, rfl, Or.inr ⟨hq0, ?_⟩, hb⟩
        have := HQ.out
        rw [List.take_of_length_le (by omega)] at this
        omega

theorem box2O {w w1 : World} {x0 x1 y0 y1 z0 z1 : Value} {tx ty tz : TypeId}
    (hb : Below (((w.alloc (.cells #[x0, x1] tx)).alloc (.cells #[y0, y1] ty)).alloc (.cells #[z0, z1] tz)).heap.size (((w.alloc (.cells #[x0, x1] tx)).alloc (.cells #[y0, y1] ty)).alloc (.cells #[z0, z1] tz)) w1) :
    w1.rowIs w.heap.size tx 2 (rowO x0 x1) ∧ w1.rowIs (w.heap.size + 1) ty 2 (rowO y0 y1) ∧ w1.rowIs (w.heap.size + 1 + 1) tz 2 (rowO z0 z1) ∧ w.heap.size + 3 ≤ w1.heap.size ∧ Below w.heap.size w w1 := by
  have e1 : (w.alloc (.cells #[x0, x1] tx)).heap.size = w.heap.size + 1 := by simp
  have e2 : ((w.alloc (.cells #[x0, x1] tx)).alloc (.cells #[y0, y1] ty)).heap.size = w.heap.size + 1 + 1 := by simp
  have r0 := ((rowO_alloc w x0 x1 tx).alloc (.cells #[y0, y1] ty)).alloc (.cells #[z0, z1] tz)
  have r1 := (rowO_alloc (w.alloc (.cells #[x0, x1] tx)) y0 y1 ty).alloc (.cells #[z0, z1] tz)
  have r2 := rowO_alloc ((w.alloc (.cells #[x0, x1] tx)).alloc (.cells #[y0, y1] ty)) z0 z1 tz
  rw [e1] at r1
  rw [e2] at r2
  have hs := hb.size
  refine ⟨r0.of_block (hb.block _ r0.lt), r1.of_block (hb.block _ r1.lt), r2.of_block (hb.block _ r2.lt), by simpa using hs, ?_⟩
  exact ((((Below.refl _ _).alloc (Nat.le_refl _) _).alloc (by simp) _).alloc (by simp; omega) _).trans (hb.mono (by simp; omega))

set_option maxRecDepth 100000 in
set_option maxHeartbeats 1600000 in
theorem toCrewJob_any (j : Jb) (P : Nat → Prop) (v : Value) (w : World) (hP : ∀ b, P b → b < w.heap.size) (hv : ZsAt P w v j.items) (hwt : j.items.length ≤ 1048576) :
    Calls Try.prog 60 #[.agg #[v, .int .i64 j.bad]] w fun e w' => ∃ a, e = .returned (.agg #[.slice a j.items.length j.items.length, .int .i64 j.bad]) ∧ ZsAt (NewF w w') w' (.slice a j.items.length j.items.length) j.items ∧ Below w.heap.size w w' := by
  have hbx : ∀ o o2 o3, Below w.heap.size w (((w.alloc o).alloc o2).alloc o3) := fun o o2 o3 => (((Below.refl _ _).alloc (Nat.le_refl _) o).alloc (by simp) o2).alloc (by simp; omega) o3
  have HBX := hide hbx
  have HTO := hide (fun (W : World) (hW : Below w.heap.size w W) => toIntS_any v j.items W (P := P) (fun b hb => Nat.lt_of_lt_of_le (hP b hb) hW.size) (hv.carry (fun b hb => hW.block b (hP b hb)) (fun _ h => h)) hwt)
  obtain ⟨av, cv, rfl, -, -⟩ := hv
  clear hbx hP
  go_enter Try.func60, Try.ntmps60
  go_wp2_with fail
  refine (unhide HTO _ (unhide HBX _ _ _)).mono ?_
  rintro e w1 ⟨v', rfl, rfl, hrow, hrx, hb1⟩
  obtain ⟨p0, p1, p2, hs1, hb01⟩ := box2O hb1
  simp only [World.size_alloc] at hrow hrx
  have hrx' : ZsAt (fun b => (w.heap.size + 3 ≤ b ∧ b < w1.heap.size) ∧ FreeB w1 b) w1 (.slice (some ⟨w.heap.size + 1 + 1 + 1, 0, none⟩) j.items.length j.items.length) j.items := by
    obtain ⟨a', cap', e, h2, h3⟩ := hrx
    simp only [Value.slice.injEq, true_and] at e
    obtain ⟨rfl, rfl⟩ := e
    refine ⟨_, _, rfl, h2, fun i hi => ?_⟩
    obtain ⟨b, o, e, hp, hc⟩ := h3 i hi
    simp only [Option.some.injEq, Addr.mk.injEq, and_true] at e
    obtain ⟨rfl, rfl⟩ := e
    exact ⟨_, _, rfl, ⟨⟨by omega, hrow.lt⟩, fun o => hrow.frozen o⟩, hc⟩
  have fa := p1.frozen; have fb := p2.frozen
  have x1 := p0.cell (i := 1) (by omega)
  have a0 := p1.cell (i := 0) (by omega); have a1 := p1.cell (i := 1) (by omega)
  have b0 := p2.cell (i := 0) (by omega); have b1 := p2.cell (i := 1) (by omega)
  simp [rowO] at x1 a0 a1 b0 b1
  have HRX := hide hrx'; have HB1 := hide hb01
  clear hrx hrx' hb1 hb01 p0 p1 p2 HTO HBX hrow
  go_wp2_with fail
  refine bodyPost_ret (v := .agg #[.slice (some ⟨w.heap.size + 1 + 1 + 1, 0, none⟩) j.items.length j.items.length, .int .i64 j.bad]) (by simp [results, Try.results60, go_sem, a0, a1]) rfl ⟨_, rfl, ?_, ?_⟩
  · refine (unhide HRX).carry (fun b hb => ?_) (fun b hb => ⟨⟨by omega, by simp only [size_setCell]; omega⟩, hb.2.of_block ?_⟩)
    · repeat rw [Below.heap_setCell _ _ _ _ (by simp <;> omega)]
    · repeat rw [Below.heap_setCell _ _ _ _ (by simp <;> omega)]
  · repeat refine Below.setCell ?_ (by simp <;> omega) _
    exact unhide HB1
end Go.Proofs.Ytchbialjgcejgaa
