/- The walk of the specification's CrewSerial. No conditions. -/
import Derived.Test.YtchlbncncipecaaWTdS
namespace Go.Proofs.Ytchlbncncipecaa
open Go Go.RowKit

theorem tellJ_no {js : List Jb} (h : jsOk js = false) : tellJ js = noTd := by unfold tellJ; rw [if_neg (by rw [h]; decide)]
theorem tellJ_yes {js : List Jb} (h : jsOk js = true) : tellJ js = ⟨true, tI js, tD 0 js, js.length⟩ := by unfold tellJ; rw [if_pos h]
theorem jsOk_parts {js : List Jb} (h : jsOk js = true) : js.length ≤ 60 ∧ js.all jOk = true := by unfold jsOk at h; simp only [Bool.and_eq_true, decide_eq_true_eq] at h; exact h

set_option maxRecDepth 100000 in
set_option maxHeartbeats 3200000 in
theorem specCrewSerial_any (js : List Jb) (P : Nat → Prop) (v : Value) (w : World) (hP : ∀ b, P b → b < w.heap.size) (hv : JbsAt P w v js) :
    Calls Try.prog 25 #[v] w fun e w' => TdEnd w w' e (tellJ js) := by
  have hbx : ∀ o, Below w.heap.size w (w.alloc o) := fun o => (Below.refl _ _).alloc (Nat.le_refl _) o
  have hcar := fun o => (⟨fun b hb => Nat.lt_of_lt_of_le (hP b hb) (hbx o).size, hv.carry (fun b hb => (hbx o).block b (hP b hb)) (fun _ h => h)⟩ : (∀ b, P b → b < (w.alloc o).heap.size) ∧ JbsAt P (w.alloc o) v js)
  have HOK := hide (fun o => l53Ok_any js P v (w.alloc o) (hcar o).1 (hcar o).2)
  have HTO := hide (fun o (h1 : js.length ≤ 60) (h2 : js.all jOk = true) => l53Told_any js P v (w.alloc o) (hcar o).1 (hcar o).2 h1 h2)
  have HBX := hide hbx
  obtain ⟨a, cap, rfl, -, -⟩ := hv
  clear hbx hcar hP
  go_enter Try.func25, Try.ntmps25
  go_wp2_with fail
  refine (unhide HOK _).mono ?_
  rintro e w1 ⟨rfl, hw1⟩
  subst hw1
  by_cases h : jsOk js = true
  · obtain ⟨h1, h2⟩ := jsOk_parts h
    have HT := hide (fun o => unhide HTO o h1 h2); have HY := hide (tellJ_yes h)
    rw [h]
    clear h h1 h2 HTO
    go_wp2_with fail
    refine (unhide HT _).mono ?_
    rintro e w2 ⟨vI, vD, F0, F1, rfl, hz, hd, hnd, hF, hb2⟩
    obtain ⟨q, hs, hb02⟩ := sbox1 hb2
    obtain ⟨aI, cI, rfl, -, -⟩ := FlatOwn.at hz
    obtain ⟨aD, cD, hvD, -, -⟩ := FlatOwn.at hd
    subst hvD
    have x0 := q.cell (i := 0) (by omega); have x1 := q.cell (i := 1) (by omega); have x2 := q.cell (i := 2) (by omega); have x3 := q.cell (i := 3) (by omega); have x4 := q.cell (i := 4) (by omega); have x5 := q.cell (i := 5) (by omega)
    have z := q.frozen
    simp only [row6] at x0 x1 x2 x3 x4 x5
    have HZ := hide hz; have HD := hide hd; have HND := hide hnd; have HF := hide hF; have HB := hide hb02
    clear hz hd hnd hF hb02 hb2 q HT
    generalize (List.map zcs (tI js)).length = n1 at *
    generalize (List.map Hd.cs (tD 0 js)).length = n2 at *
    go_wp2_with fail
    refine bodyPost_ret (v := .agg #[.bool true, .slice aI n1 cI, .slice aD n2 cD, .int .i64 (js.length : Int), .int .i64 0, .int .i64 0]) (by simp [results, Try.results25, go_sem, x0, x1, x2, x3, x4, x5]) rfl ?_
    rw [unhide HY]
    have hF' : ∀ b, b ∈ F0 ++ F1 → b ≠ w.heap.size := fun b hb => by have := (unhide HF b hb).1; simp at this; omega
    refine ⟨_, _, F0, F1, rfl, FlatOwn.carry (unhide HZ) (fun b hb => six_heap _ _ _ _ _ _ _ _ _ (hF' b (by simp [hb]))), FlatOwn.carry (unhide HD) (fun b hb => six_heap _ _ _ _ _ _ _ _ _ (hF' b (by simp [hb]))), unhide HND, fun b hb => ⟨?_, ?_⟩, six_below (unhide HB) (Nat.le_refl _) _ _ _ _ _ _⟩
    · have := (unhide HF b hb).1; simp at this; omega
    · simp only [size_setCell]; exact (unhide HF b hb).2
  · have h' : jsOk js = false := by simpa using h
    have HN := hide (tellJ_no h')
    rw [h']
    clear h h' HTO
    go_wp2_with fail
    refine bodyPost_ret (v := .agg #[.bool false, .slice none 0 0, .slice none 0 0, .int .i64 0, .int .i64 0, .int .i64 0]) (by simp [results, Try.results25, go_sem]) rfl ?_
    rw [unhide HN]
    refine ⟨_, _, [], [], rfl, FlatOwn.nil _ 1, FlatOwn.nil _ 2, by simp, fun b hb => (by cases hb), ?_⟩
    exact unhide HBX _
end Go.Proofs.Ytchlbncncipecaa
