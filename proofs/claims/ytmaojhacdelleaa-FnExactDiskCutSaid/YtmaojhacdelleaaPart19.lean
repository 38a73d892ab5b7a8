/- A disk whose files are cut one by one: data alone, no program. No conditions. -/
import Derived.Test.YtmaojhacdelleaaPart15
namespace Go.Proofs.Ytmaojhacdelleaa
open Go Go.RowKit

/-- The files of which the first k are cut. -/
def mixL (fs : List Df) (zs : List Int) (k : Nat) : List Df := fs.mapIdx (fun j f => if j < k then cutF f (zs.getD j 0) else f)
theorem mixL_len (fs : List Df) (zs : List Int) (k : Nat) : (mixL fs zs k).length = fs.length := by simp [mixL]
theorem mixL_get (fs : List Df) (zs : List Int) (k j : Nat) (h : j < fs.length) : (mixL fs zs k)[j]'(by rw [mixL_len]; exact h) = if j < k then cutF fs[j] (zs.getD j 0) else fs[j] := by simp [mixL]
theorem mixL_zero (fs : List Df) (zs : List Int) : mixL fs zs 0 = fs := by
  refine List.ext_getElem (mixL_len _ _ _) (fun j h1 h2 => ?_)
  rw [mixL_get _ _ _ _ h2]; simp
theorem mixL_succ (fs : List Df) (zs : List Int) (k : Nat) (h : k < fs.length) : mixL fs zs (k + 1) = (mixL fs zs k).set k (cutF fs[k] (zs.getD k 0)) := by
  refine List.ext_getElem (by simp [mixL_len]) (fun j h1 h2 => ?_)
  have hj : j < fs.length := by rw [mixL_len] at h1; exact h1
  rw [mixL_get _ _ _ _ hj, List.getElem_set]
  by_cases e : k = j
  · subst e; simp
  · rw [if_neg e, mixL_get _ _ _ _ hj]
    by_cases hk : j < k
    · rw [if_pos hk, if_pos (by omega)]
    · rw [if_neg hk, if_neg (by omega)]
theorem mixL_all (fs : List Df) (zs : List Int) (j : Nat) (h : j < fs.length) : (mixL fs zs fs.length)[j]'(by rw [mixL_len]; exact h) = cutF fs[j] (zs.getD j 0) := by rw [mixL_get _ _ _ _ h, if_pos h]
/-- A row of three cells is set. -/
theorem flat_set3 : ∀ (fs : List Df) (k : Nat) (f : Df), (h : k < fs.length) → fs[k].name = f.name → (((fs.map Df.cs).flatten).set (k * 3 + 1) (.string f.data)).set (k * 3 + 2) (.int .i64 f.kept) = ((fs.set k f).map Df.cs).flatten
  | a :: r, 0, f, _, hn => by
    simp only [List.getElem_cons_zero] at hn
    simp [Df.cs, hn]
  | a :: r, k + 1, f, h, hn => by
    have ih := flat_set3 r k f (by simpa using h) (by simpa using hn)
    simp only [List.map_cons, List.flatten_cons, List.set_cons_succ, Df.cs] at ih ⊢
    rw [← ih]
    rw [show (k + 1) * 3 + 1 = (k * 3 + 1) + 3 by omega, show (k + 1) * 3 + 2 = (k * 3 + 2) + 3 by omega]
    simp only [List.cons_append, List.nil_append, List.set_cons_succ]
theorem extract_more (b : ByteArray) (k m : Nat) (hm : k + m ≤ b.size) : b.extract 0 k ++ (b.extract k b.size).extract 0 m = b.extract 0 (k + m) := by
  rw [ByteArray.extract_extract]
  rw [show min (k + m) b.size = k + m by omega, Nat.add_zero]
  rw [ByteArray.extract_append_extract]
  congr 1 <;> omega
theorem cutB_eq (f : Df) (n : Int) (h : 0 ≤ f.kept ∧ f.kept ≤ f.data.size) : cutB f n = f.data.extract 0 (f.kept.toNat + moreN f n) := by
  unfold cutB
  exact extract_more _ _ _ (by unfold moreN; omega)
theorem cutB_sz (f : Df) (n : Int) (h : 0 ≤ f.kept ∧ f.kept ≤ f.data.size) : ((cutB f n).size : Int) = f.kept + moreN f n := by
  rw [cutB_eq f n h, ByteArray.size_extract]
  unfold moreN; omega
theorem findF_names (fs gs : List Df) (x : ByteArray) (hl : fs.length = gs.length) (h : ∀ j (h1 : j < fs.length) (h2 : j < gs.length), fs[j].name = gs[j].name) : findF fs x = findF gs x := by
  unfold findF
  have : fs.findIdx? (fun f => sameB f.name x) = gs.findIdx? (fun f => sameB f.name x) := by
    have e : fs.map Df.name = gs.map Df.name := List.ext_getElem (by simp [hl]) (fun j h1 h2 => by simp at h1 h2; simp [h j h1 h2])
    have q : ∀ (l : List Df), l.findIdx? (fun f => sameB f.name x) = (l.map Df.name).findIdx? (fun y => sameB y x) := fun l => by rw [List.findIdx?_map]; rfl
    rw [q, q, e]
  rw [this]
theorem findF_mix (fs : List Df) (zs : List Int) (k : Nat) (x : ByteArray) : findF (mixL fs zs k) x = findF fs x :=
  findF_names _ _ x (mixL_len _ _ _) (fun j h1 h2 => by rw [mixL_get _ _ _ _ h2]; by_cases h : j < k <;> simp [h, cutF])
theorem keepD_mix {d : Dk} (h : DkOkS d) (m : Int) (zs : List Int) : keepD ⟨mixL d.files zs d.files.length, d.names, d.moves⟩ (cutN d m) = cutD d m zs := by
  rw [cutD_ok h]
  unfold keepD
  congr 1
  refine List.map_congr_left (fun x hx => ?_)
  obtain ⟨i, hi, he, hf⟩ := (cutN_facts h m).2.2 x hx
  rw [fileD_at (d := ⟨mixL d.files zs d.files.length, d.names, d.moves⟩) (i := i) (by simp only [mixL_len]; exact hi) (by rw [findF_mix]; exact hf)]
  unfold cutX
  rw [fileD_at hi hf, hf]
  exact mixL_all _ _ _ hi
end Go.Proofs.Ytmaojhacdelleaa
