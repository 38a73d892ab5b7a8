/- The cells of the table kindWords, off what the row lists of it. No conditions. -/
import Derived.Test.YthkjhmcbmakkdaaDoorPart22
import Derived.Test.YthkjhmcbmakkdaaDoorPart33
import Derived.MakeChecks
namespace Go.Proofs.YthkjhmcbmakkdaaDoor
open Go Go.RowKit Go.ChangeShapes Go.WideShapes Go.ChangeAt Go.Deep

theorem gWords : Tryd.prog.globalNamed "loop.example/teagle/impl.kindWords" = some 0 := by kernel_rfl
theorem gWordsType : (Tryd.prog.globals[0]?).map (·.type) = some 90 := by kernel_rfl
theorem cellsWords : Tryd.prog.cellsOf 90 = 4 := by kernel_rfl

set_option maxRecDepth 100000 in
theorem ktab_of_laid {W : World} (h : laidMetH Tryd.prog [("loop.example/teagle/impl.kindWords", Rows.laid_loop_example_teagle_impl_kindWords)] W) : KTab W := by
  rw [MakeChecks.laidMetH_plain _ _ _ (by kernel_rfl)] at h
  obtain ⟨ps, ⟨g0, t0, cs0, f0, p0, q0, hg0, ht0, hv0, hd0, _, _⟩, _, _⟩ := h
  obtain rfl := Option.some.inj (gWords.symm.trans hg0)
  obtain rfl := Option.some.inj (gWordsType.symm.trans ht0)
  obtain ⟨xs, m, -, hx, hlen, hxl, hel⟩ := DataW.trod_array Tryd.underlying90 hd0
  rw [cellsStr] at hel
  rw [cellsWords] at hlen
  have hcell := World.var?_cell hg0 hv0
  obtain ⟨x0, x1, x2, x3, hxs⟩ : ∃ x0 x1 x2 x3, xs = [x0, x1, x2, x3] := by
    match xs, hxl with
    | [x0, x1, x2, x3], _ => exact ⟨x0, x1, x2, x3, rfl⟩
  subst hxs
  obtain ⟨l⟩ := cs0
  simp only at hlen hcell
  obtain ⟨c0, c1, c2, c3, hl⟩ : ∃ c0 c1 c2 c3, l = [c0, c1, c2, c3] := by
    match l, hlen with
    | [c0, c1, c2, c3], _ => exact ⟨c0, c1, c2, c3, rfl⟩
  subst hl
  have h1 := hel 1 (by omega)
  have h2 := hel 2 (by omega)
  have h3 := hel 3 (by omega)
  simp at h1 h2 h3
  obtain ⟨s1, e1, y1, -⟩ := DataW.trod_string Tryd.underlying9 h1
  obtain ⟨s2, e2, y2, -⟩ := DataW.trod_string Tryd.underlying9 h2
  obtain ⟨s3, e3, y3, -⟩ := DataW.trod_string Tryd.underlying9 h3
  simp only [Prod.mk.injEq, Rows.laid_loop_example_teagle_impl_kindWords, DataW.agg.injEq, List.map_cons, List.map_nil, List.cons.injEq, and_true] at hx
  obtain ⟨⟨-, z1, z2, z3⟩, -⟩ := hx
  rw [y1] at z1
  rw [y2] at z2
  rw [y3] at z3
  simp only [DataW.lit.injEq, Lit.string.injEq] at z1 z2 z3
  simp only [List.cons.injEq, and_true] at e1 e2 e3
  have w1 : s1 = ⟨#[110, 117, 109]⟩ := by apply ByteArray.ext; apply Array.toList_inj.1; exact z1.symm
  have w2 : s2 = ⟨#[116, 101, 120, 116]⟩ := by apply ByteArray.ext; apply Array.toList_inj.1; exact z2.symm
  have w3 : s3 = ⟨#[102, 108, 97, 103]⟩ := by apply ByteArray.ext; apply Array.toList_inj.1; exact z3.symm
  subst e1 e2 e3
  refine ⟨?_, ?_, ?_⟩
  · rw [← w1]; exact (hcell 1).trans rfl
  · rw [← w2]; exact (hcell 2).trans rfl
  · rw [← w3]; exact (hcell 3).trans rfl
end Go.Proofs.YthkjhmcbmakkdaaDoor
