/- The specification's l3Widen at two forms, name by name; the whole of l3Widen. Conditions: what it asks for is taken by its contract (a hypothesis, met in the end). -/
import Derived.Test.YtcpfelaffclalaaGreatDoorPart34
import Derived.Test.YtcpfelaffclalaaGreatDoorPart35
import Derived.BigQuiet
import Derived.Deep.QuietTactic
import Derived.Deep.CutRange
namespace Go.Proofs.YtcpfelaffclalaaGreatDoor
open Go Go.RowKit

/-- What stands under a name that is not there. -/
def noT : Tr := .mk 6 0 ByteArray.empty [] []
/-- A kid while it is looked for: its box, what lies in it. -/
structure KB (wr V : World) (K : Nat) (tr : Tr) (d : C5) (F : List Nat) : Prop where
  row : V.rowIs K 39 5 (row5 d.c0 d.c1 d.c2 d.c3 d.c4)
  own : Own V tr d F
  nd : F.Nodup
  lt : ∀ b, b ∈ F → K + 1 ≤ b ∧ b < V.heap.size
  below : Below K wr V
theorem own_noT (w : World) : Own w noT ⟨.int .i64 6, .int .i64 0, .string ⟨#[]⟩, .slice none 0 0, .slice none 0 0⟩ [] := own_leaf (s := 6) (n := 0) (tx := ⟨#[]⟩) ⟨by decide, by decide⟩ ⟨by decide, by decide⟩ (by decide)
theorem KB.drewN {wr V : World} {K : Nat} {tr : Tr} {d : C5} {F : List Nat} (h : KB wr V K tr d F) (m : Nat) : KB wr (V.drewN m) K tr d F := ⟨h.row.of_block rfl, (show Own (V.drewN m) tr d F from Own.carry (w := V) (w' := V.drewN m) _ _ _ (fun _ _ => rfl) h.own), h.nd, h.lt, below_drewN h.below m⟩
theorem KB.start (wr : World) : KB wr (wr.alloc (.cells #[.int .i64 6, .int .i64 0, .string ⟨#[]⟩, .slice none 0 0, .slice none 0 0] 39)) wr.heap.size noT ⟨.int .i64 6, .int .i64 0, .string ⟨#[]⟩, .slice none 0 0, .slice none 0 0⟩ [] :=
  ⟨row5_alloc wr _ _ _ _ _ _, own_noT _, List.nodup_nil, fun b hb => by simp at hb, (Below.refl _ _).alloc (Nat.le_refl _) _⟩
set_option maxRecDepth 100000 in
set_option maxHeartbeats 6400000 in
theorem spForm (n : Nat) (IH : WSaid n) (a b : Kd) (t : Tr) (ha5 : a.sort = 5) (hb5 : b.sort = 5) (hn : ksz b ≤ n + 1) (hn40 : n + 1 ≤ 40) (hf : fitF (n + 1) a b = true) (hT : hT t a = true) (hO : okH t = true) (a1 a2 b1 b2 t1 t2 : Option Addr) (p1 p2 q1 q2 r1 r2 : Nat) (w : World)
    (ha : KW w a ⟨.int .i64 a.sort, .slice a1 a.names.length p1, .slice a2 a.kids.length p2⟩) (hb : KW w b ⟨.int .i64 b.sort, .slice b1 b.names.length q1, .slice b2 b.kids.length q2⟩) (ht : Rep (fun x => x < w.heap.size) w t ⟨.int .i64 t.sort, .int .i64 t.num, .string t.text, .slice t1 t.names.length r1, .slice t2 t.kids.length r2⟩) :
    Calls Tryz.prog 34 #[.agg #[.int .i64 a.sort, .slice a1 a.names.length p1, .slice a2 a.kids.length p2], .agg #[.int .i64 b.sort, .slice b1 b.names.length q1, .slice b2 b.kids.length q2], .agg #[.int .i64 t.sort, .int .i64 t.num, .string t.text, .slice t1 t.names.length r1, .slice t2 t.kids.length r2]] w (TE (widF (n + 1) a b t) w) := by
  have hla : a.kids.length = a.names.length ∧ riseB a.names = true := by rcases okD_sh ha.ok with h | h | h; omega; omega; exact h.2
  have hlb : b.kids.length = b.names.length ∧ riseB b.names = true := by rcases okD_sh hb.ok with h | h | h; omega; omega; exact h.2
  obtain ⟨g1, g2, g3⟩ := hT_open hT
  obtain ⟨g4, g5⟩ := okH_open hO
  obtain ⟨hnum, htx⟩ := alone_bare g4 (by omega)
  have hlt := ((alone_open g4).2.2 (by omega)).1
  have hfn := fit_names ha.ok hb.ok ha5 hb5 hf
  rw [widF_form ha5 hb5, uni_wider ha.ok hb.ok ha5 hb5 hf]
  rw [uni_wider ha.ok hb.ok ha5 hb5 hf] at hfn
  have hbn : b.names.length ≤ 1000 := by
    have h1 : b.kids.length ≤ klsz b.kids := by
      have : ∀ l : List Kd, l.length ≤ klsz l := by
        intro l
        induction l with
        | nil => simp
        | cons a r ih =>
          rw [klsz, List.length_cons]
          have := ksz_pos a; omega
      exact this _
    have e : ksz b = 1 + klsz b.kids := by obtain ⟨s, ns, ks⟩ := b; rw [ksz]; rfl
    omega
  have han : a.names.length ≤ 1000 := by
    have hu := uni_wider ha.ok hb.ok ha5 hb5 hf
    have := (rise_sub b.names a.names (rise_pairs hlb.2) (rise_pairs hla.2) (fun x hx => by rw [← hu]; exact (uniN_mem x).2 (Or.inl hx))).length_le
    omega
  have hns8 : ∀ x, x ∈ b.names → x.size ≤ 9223372036854775807 := fun x hx => by
    obtain ⟨i, hi, rfl⟩ := List.getElem_of_mem hx
    have := rise_size hlb.2 i hi
    omega
  obtain ⟨gF, hgF⟩ : ∃ gF : ByteArray → Tr, (fun nm => widF n (kidZ a nm) (kidZ b nm) (fldZ t nm)) = gF := ⟨_, rfl⟩
  have hno : ∀ i, (hi : i < b.names.length) → b.names[i] ∉ a.names → gF b.names[i] = noT := fun i hi hm => by
    rw [← hgF]
    have hk : i < b.kids.length := by omega
    have h1 := ksz_kid (List.getElem_mem hk)
    have h2 := ksz_pos b.kids[i]
    obtain ⟨m, rfl⟩ : ∃ m, n = m + 1 := ⟨n - 1, by omega⟩
    exact widF_zero (by rw [kidZ_none hm]; rfl)
  have hcall : ∀ i j, (hi : i < b.names.length) → (hj : j < a.names.length) → a.names[j] = b.names[i] → ∀ (hi2 : i < b.kids.length) (hj2 : j < a.kids.length) (hj3 : j < t.kids.length) (c d : C3) (z : C5) (W : World), KW W a.kids[j] c → KW W b.kids[i] d → Rep (fun x => x < W.heap.size) W t.kids[j] z →
      Calls Tryz.prog 34 #[.agg #[c.c0, c.c1, c.c2], .agg #[d.c0, d.c1, d.c2], .agg #[z.c0, z.c1, z.c2, z.c3, z.c4]] W (TE (gF b.names[i]) W) := fun i j hi hj e hi2 hj2 hj3 c d z W hc hd hz => by
    have ea : kidZ a b.names[i] = a.kids[j] := kidZ_at (rise_pairs hla.2) hla.1 hj e
    have eb : kidZ b b.names[i] = b.kids[i] := kidZ_at (rise_pairs hlb.2) hlb.1 hi rfl
    have et : fldZ t b.names[i] = t.kids[j] := fldZ_at (by rw [← g2]; exact rise_pairs hla.2) hlt (by rw [← g2]; exact hj) (by simp only [← g2]; exact e)
    have hq := g3 j hj3
    rw [kidOf_form ha5 hj2] at hq
    have hz2 := ksz_kid (List.getElem_mem hi2)
    rw [← hgF]
    simp only [ea, eb, et]
    refine IH _ _ _ (by omega) (by omega) ?_ hq (g5 j hj3) c d z W hc hd hz
    rcases (hfn b.names[i] (List.getElem_mem hi)).2 with ⟨h1, -⟩ | ⟨-, -, h1⟩
    · rw [ea] at h1; exact absurd h1 (okD_ne hc.ok)
    · rwa [ea, eb] at h1
  rw [hgF]
  have hts : t.sort = 5 := by omega
  have htl : t.kids.length = a.names.length := by rw [g2]; exact hlt
  obtain ⟨-, -, -, -, -, -, -, a6', cap6', e4, -, hks⟩ := ht.open
  simp only [Value.slice.injEq, true_and] at e4
  obtain ⟨rfl, rfl⟩ := e4
  rw [hnum, htx, hts, ha5, hb5]
  obtain ⟨hbx, hrO, hs0⟩ := l3w_start w (.int .i64 5) (.slice a1 a.names.length p1) (.slice a2 a.kids.length p2) (.int .i64 5) (.slice b1 b.names.length q1) (.slice b2 b.kids.length q2) (.int .i64 5) (.int .i64 0) (.string ⟨#[]⟩) (.slice t1 t.names.length r1) (.slice t2 t.kids.length r2)
  obtain ⟨i0, hi, hz0, hz1, hz2⟩ := info_parts infoTreeS
  have hA2 : ∀ j, (hj : j < a.names.length) → ∃ nb no, a1 = some ⟨nb, no, none⟩ ∧ nb < w.heap.size ∧ w.cell? ⟨nb, no + j, none⟩ = some (.string a.names[j]) := fun j hj => by
    obtain ⟨nb, no, nc, en, hnl, hcn⟩ := ha.name hj
    simp only [Value.slice.injEq] at en
    exact ⟨nb, no, en.1, hnl, hcn⟩
  have hB2 : ∀ j, (hj : j < b.names.length) → ∃ nb no, b1 = some ⟨nb, no, none⟩ ∧ nb < w.heap.size ∧ w.cell? ⟨nb, no + j, none⟩ = some (.string b.names[j]) := fun j hj => by
    obtain ⟨nb, no, nc, en, hnl, hcn⟩ := hb.name hj
    simp only [Value.slice.injEq] at en
    exact ⟨nb, no, en.1, hnl, hcn⟩
  have HA2 := hide hA2; have HB2 := hide hB2
  have HAK := hide (fun j (hj : j < a.kids.length) => ha.kid (i := j) hj); have HBK := hide (fun j (hj : j < b.kids.length) => hb.kid (i := j) hj)
  have HK := hide hks; have HC := hide hcall; have HBX := hide hbx; have HRO := hide hrO; have HS0 := hide hs0; have HNO := hide hno; have HBN := hide hbn; have HAN := hide han; have HNS8 := hide hns8
  have HII := hide hi; have HZ0 := hide hz0; have HZ1 := hide hz1; have HZ2 := hide hz2; have HLA := hide hla.1; have HLB := hide hlb.1; have HTL := hide htl
  clear hks hcall hbx hrO hs0 hno hbn han hns8 hi hz0 hz1 hz2 hla hlb htl hts hA2 hB2 ht ha hb hT hO hf hfn hgF g1 g2 g3 g4 g5 hlt hnum htx ha5 hb5 hn hn40 IH
  go_enter Tryz.func34, Tryz.ntmps34
  go_wp2_with fail
  generalize ((((w.alloc (.cells #[.int .i64 5, .slice a1 a.names.length p1, .slice a2 a.kids.length p2] 30)).alloc (.cells #[.int .i64 5, .slice b1 b.names.length q1, .slice b2 b.kids.length q2] 30)).alloc (.cells #[.int .i64 5, .int .i64 0, .string ⟨#[]⟩, .slice t1 t.names.length r1, .slice t2 t.kids.length r2] 39)).alloc (.cells #[.int .i64 0, .int .i64 0, .string ⟨#[]⟩, .slice none 0 0, .slice none 0 0] 39)).alloc (.cells #[.int .i64 5, .int .i64 0, .string ⟨#[]⟩, .slice none 0 0, .slice none 0 0] 39) = W0 at HBX HRO HS0 ⊢
  have hs0 : W0.heap.size = w.heap.size + 5 := unhide HS0
  have hinv : SInv (w.heap.size + 4 + 1) (w.heap.size + 4) W0 5 (.slice none 0 0) (.slice none 0 0) [] [] [] [] :=
    ⟨by omega, unhide HRO, World.ownsRow_nil _ _ _ _, GotO.start _ _, fun b hb => by simp [Value.ownBlock] at hb, by omega⟩
  have HINV := hide hinv
  clear hinv
  go_loopw [10] (fun vi wr => ∃ (i : Nat) (aN : Option Addr) (capN : Nat) (aK : Option Addr) (capK : Nat) (xs : List Value) (G : List Nat), i ≤ b.names.length ∧ vi = .int .i64 i ∧ Hid (SInv (w.heap.size + 4 + 1) (w.heap.size + 4) wr 5 (.slice aN i capN) (.slice aK i capK) (b.names.take i) ((b.names.take i).map gF) xs G) ∧ Hid (Below (w.heap.size + 4) W0 wr)) (fun vi _ => b.names.length - (intOf vi).toNat)
  case atStart => exact ⟨0, none, 0, none, 0, [], [], Nat.zero_le _, rfl, unhide HINV, Below.refl _ _⟩
  case round =>
    obtain ⟨i, aN, capN, aK, capK, xs, G, hi, rfl, HS, HB⟩ := hrel
    have hsw := HB.out.size
    have hbw : Below w.heap.size w wr := (unhide HBX).below.trans (HB.out.mono (by omega))
    have hbo : ∀ x, x < w.heap.size + 4 → wr.heap[x]? = W0.heap[x]? := fun x hx => HB.out.block x hx
    have bA := (unhide HBX).bA.of_block (hbo _ (by omega))
    have bB := (unhide HBX).bB.of_block (hbo _ (by omega))
    have bT := (unhide HBX).bT.of_block (hbo _ (by omega))
    have cB1 := bB.cell (i := 1) (by omega)
    simp only [row3] at cB1
    by_cases hlt : i < b.names.length
    · have HW := hide hbw; have HBA := hide bA; have HBB := hide bB; have HBT := hide bT
      clear hbw hbo bA bB bT
      obtain ⟨wo, hwo⟩ : ∃ wo, wo = wr := ⟨_, rfl⟩
      subst hwo
      have HKB0 := hide (KB.start wo)
      have hszr : w.heap.size + 4 + 1 ≤ wo.heap.size := HS.out.size
      have HSZR := hide hszr
      obtain ⟨nm, hnm⟩ : ∃ nm, b.names[i] = nm := ⟨_, rfl⟩
      have HCI := hide (fun (j : Nat) (hj : j < a.names.length) (e : a.names[j] = nm) (hi2 : i < b.kids.length) (hj2 : j < a.kids.length) (hj3 : j < t.kids.length) (c d : C3) (z : C5) (W : World) (h1 : KW W a.kids[j] c) (h2 : KW W b.kids[i] d) (h3 : Rep (fun x => x < W.heap.size) W t.kids[j] z) => (show Calls Tryz.prog 34 #[.agg #[c.c0, c.c1, c.c2], .agg #[d.c0, d.c1, d.c2], .agg #[z.c0, z.c1, z.c2, z.c3, z.c4]] W (TE (gF nm) W) from by
        have h := unhide HC i j hlt hj (e.trans hnm.symm) hi2 hj2 hj3 c d z W h1 h2 h3
        rwa [hnm] at h))
      have HNOI := hide (fun (h : nm ∉ a.names) => (show gF nm = noT from by have h' := unhide HNO i hlt (by rw [hnm]; exact h); rwa [hnm] at h'))
      have htk : b.names.take (i + 1) = b.names.take i ++ [nm] := by rw [List.take_succ_eq_append_getElem hlt, hnm]
      have hlk : (b.names.take i).length = i := by simp; omega
      have HTK := hide htk; have HLK := hide hlk
      obtain ⟨mb, mo, rfl, hml, hcm⟩ := unhide HB2 i hlt
      rw [hnm] at hcm
      have HCM := hide hcm
      clear hnm htk hlk hcm hszr
      go_wp2_with fail
      generalize hV0 : wo.alloc (.cells #[.int .i64 6, .int .i64 0, .string ⟨#[]⟩, .slice none 0 0, .slice none 0 0] 39) = V0 at HKB0 ⊢
      clear hV0 cB1
      go_loopw [12] (fun vj V => ∃ (j : Nat) (tr : Tr) (d : C5) (F : List Nat), j ≤ a.names.length ∧ vj = .int .i64 j ∧ Hid (KB wo V wo.heap.size tr d F) ∧ Hid ((∃ (x : Nat) (hx : x < a.names.length), x < j ∧ a.names[x] = nm ∧ tr = gF nm) ∨ ((∀ (x : Nat) (hx : x < a.names.length), x < j → a.names[x] ≠ nm) ∧ tr = noT))) (fun vj _ => a.names.length - (intOf vj).toNat)
      case atStart => exact ⟨0, noT, _, [], Nat.zero_le _, rfl, unhide HKB0, Or.inr ⟨fun x hx h => by omega, rfl⟩⟩
      case round =>
        obtain ⟨j, tr, d, F, hj, rfl, HKB, HTR⟩ := hrel
        have hkl := HKB.out.row.lt
        have ke := wrkU (Nat.le_trans hj (Nat.le_trans (unhide HAN) (by decide)))
        have hszr := unhide HSZR
        have hbV : Below w.heap.size w wr := (unhide HW).trans (HKB.out.below.mono (by omega))
        have vA := (unhide HBA).of_block (HKB.out.below.block _ (by omega))
        have vB := (unhide HBB).of_block (HKB.out.below.block _ (by omega))
        have vT := (unhide HBT).of_block (HKB.out.below.block _ (by omega))
        have cA1 := vA.cell (i := 1) (by omega); have cA2 := vA.cell (i := 2) (by omega); have cB1 := vB.cell (i := 1) (by omega); have cB2 := vB.cell (i := 2) (by omega); have cT4 := vT.cell (i := 4) (by omega)
        simp only [row3, row5] at cA1 cA2 cB1 cB2 cT4
        have em : wr.cell? ⟨mb, mo + i, none⟩ = some (.string nm) := by rw [hbV.cell hml]; exact unhide HCM
        by_cases hjl : j < a.names.length
        · obtain ⟨nb, no, rfl, hnl, hcn⟩ := unhide HA2 j hjl
          have en : wr.cell? ⟨nb, no + j, none⟩ = some (.string a.names[j]) := by rw [hbV.cell hnl]; exact hcn
          by_cases he : a.names[j] = nm
          · rw [he] at en
            have hj2 : j < a.kids.length := by rw [unhide HLA]; exact hjl
            have hj3 : j < t.kids.length := by rw [unhide HTL]; exact hjl
            have hi2 : i < b.kids.length := by rw [unhide HLB]; exact hlt
            obtain ⟨xb, xo, xc, x1, x2, u1, u2, ex, hxl, x0, x3, x4, hx⟩ := unhide HAK j hj2
            obtain ⟨yb, yo, yc, y1, y2, s1, s2, ey, hyl, y0, y3, y4, hy⟩ := unhide HBK i hi2
            simp only [Value.slice.injEq, true_and] at ex ey
            obtain ⟨rfl, rfl⟩ := ex
            obtain ⟨rfl, rfl⟩ := ey
            obtain ⟨tb, tf, ck, rfl, hpb, hcell, hrp⟩ := unhide HK j hj3
            obtain ⟨a3, p3, a4, p4, rfl⟩ := hrp.form
            obtain ⟨f0, f1, f2, f3, f4⟩ := hcell.carry (hbV.block tb hpb)
            simp only at f0 f1 f2 f3 f4
            rw [← hbV.cell hxl] at x0 x3 x4
            rw [← hbV.cell hyl] at y0 y3 y4
            have HCALL := hide (fun m => unhide HCI j hjl he hi2 hj2 hj3 ⟨_, _, _⟩ ⟨_, _, _⟩ ⟨_, _, _, _, _⟩ (wr.drewN m).drew (hx.on (below_drewN hbV m).drew) (hy.on (below_drewN hbV m).drew) (Rep.carry (fun b hb => (below_drewN hbV m).drew.block b hb) (fun b hb => Nat.lt_of_lt_of_le hb hbV.size) _ _ hrp))
            have HKX := hide (fun m => show Kc (wr.drewN m).drew (w.heap.size + 4) xb (xo + j * 3) ⟨.int .i64 a.kids[j].sort, .slice x1 a.kids[j].names.length u1, .slice x2 a.kids[j].kids.length u2⟩ from ⟨by omega, x0, x3, x4⟩)
            have HKY := hide (fun m => show Kc (wr.drewN m).drew (w.heap.size + 4) yb (yo + i * 3) ⟨.int .i64 b.kids[i].sort, .slice y1 b.kids[i].names.length s1, .slice y2 b.kids[i].kids.length s2⟩ from ⟨by omega, y0, y3, y4⟩)
            have HTZ := hide (fun m => show Tc (wr.drewN m).drew (w.heap.size + 4) tb (tf + j * 5) ⟨.int .i64 t.kids[j].sort, .int .i64 t.kids[j].num, .string t.kids[j].text, .slice a3 t.kids[j].names.length p3, .slice a4 t.kids[j].kids.length p4⟩ from ⟨by omega, f0, f1, f2, f3, f4⟩)
            have HCA := hide cA2; have HCB := hide cB2; have HCT := hide cT4
            have HROW := hide (fun m => show (wr.drewN m).drew.rowIs wo.heap.size 39 5 (row5 d.c0 d.c1 d.c2 d.c3 d.c4) from HKB.out.row.of_block rfl)
            have HE := hide he; have HJ2 := hide hj2; have HJ3 := hide hj3; have HI2 := hide hi2
            generalize a.kids[j] = ka at *
            generalize b.kids[i] = kb at *
            generalize t.kids[j] = kt at *
            clear hcell hrp hpb hbV x0 x3 x4 y0 y3 y4 f0 f1 f2 f3 f4 hx hy hxl hyl he hcn vA vB vT hj2 hj3 hi2 cA2 cB2 cT4
            go_wp2_with fail
            go_quiet (fail)
            go_upto_region 24 with fail
            clear em en
            refine wp_swap (c' := Code.region 24 ws24Ops true) (by kernel_rfl) ?_
            refine wp_region_noPanic ?_
            refine ws24 (w.heap.size + 4) w.heap.size (w.heap.size + 1) (w.heap.size + 2) wo.heap.size xb xo a.kids.length p2 yb yo b.kids.length q2 tb tf t.kids.length r2 i j _ _ _ _ (gF nm) (wr.drewN nq) _ (fun _ _ _ _ _ h => h) ⟨by omega, unhide HCA⟩ ⟨by omega, unhide HCB⟩ ⟨by omega, unhide HCT⟩ (unhide HKX nq) (unhide HKY nq) (unhide HTZ nq) (unhide HJ2) (unhide HI2) (unhide HJ3) (by omega) (unhide HROW nq) (unhide HCALL nq) (by kernel_rfl) (fun u => by kernel_rfl) ?_
            intro u d2 F2 W9 ho2 hnd2 hF2 hrow2 hbb2
            refine NoPanic.normal ?_
            simp only [List.take_succ_cons, List.take_zero, List.drop_succ_cons, List.drop_zero, List.cons_append, List.nil_append]
            have hsd : (wr.drewN nq).drew.heap.size = wr.heap.size := rfl
            have hdrV := (below_drewN (Below.refl wo.heap.size wr) nq).drew
            have HKB9 : Hid (KB wo W9 wo.heap.size (gF nm) d2 F2) := ⟨hrow2, ho2, hnd2, fun b hb => ⟨by have := (hF2 b hb).1; omega, (hF2 b hb).2⟩, HKB.out.below.trans (hdrV.trans (below_but hbb2 ⟨Nat.le_refl _, by omega⟩))⟩
            have HTR9 : Hid ((∃ (x : Nat) (hx : x < a.names.length), x < j + 1 ∧ a.names[x] = nm ∧ gF nm = gF nm) ∨ ((∀ (x : Nat) (hx : x < a.names.length), x < j + 1 → a.names[x] ≠ nm) ∧ gF nm = noT)) := Or.inl ⟨j, hjl, by omega, unhide HE, rfl⟩
            clear ho2 hnd2 hF2 hrow2 hbb2 hdrV hsd cA1 cB1 HCALL HKX HKY HTZ HCA HCB HCT HROW
            go_wp2_with fail
            go_roundw
            case rel => exact ⟨j + 1, gF nm, d2, F2, hjl, (by first | exact numU j | (rw [ke]; exact numU j)), unhide HKB9, unhide HTR9⟩
            case measure => first | exact measU hjl | (rw [ke]; exact measU hjl)
          · have hnb : (a.names[j].toList == nm.toList) = false := by rw [lst_beq]; exact decide_eq_false he
            have HTR9 : Hid ((∃ (x : Nat) (hx : x < a.names.length), x < j + 1 ∧ a.names[x] = nm ∧ tr = gF nm) ∨ ((∀ (x : Nat) (hx : x < a.names.length), x < j + 1 → a.names[x] ≠ nm) ∧ tr = noT)) := by
              rcases unhide HTR with ⟨x, hx, h1, h2, h3⟩ | ⟨h1, h2⟩
              · exact Or.inl ⟨x, hx, by omega, h2, h3⟩
              · refine Or.inr ⟨fun x hx hx2 => ?_, h2⟩
                by_cases e : x = j
                · subst e; exact he
                · exact h1 x hx (by omega)
            generalize a.names[j] = nm2 at en hnb
            clear he hcn vA vB vT hbV cA2 cB2 cT4
            go_wp2_with fail
            go_quiet (fail)
            go_wp2_with fail
            go_roundw
            case rel => exact ⟨j + 1, tr, d, F, hjl, (by first | exact numU j | (rw [ke]; exact numU j)), HKB.out.drewN nq, HTR9⟩
            case measure => first | exact measU hjl | (rw [ke]; exact measU hjl)
        · obtain rfl : j = a.names.length := by omega
          have htr : tr = gF nm := by
            rcases unhide HTR with ⟨x, hx, h1, h2, h3⟩ | ⟨h1, h2⟩
            · exact h3
            · rw [h2, unhide HNOI (fun hm => by
                obtain ⟨x, hx, e⟩ := List.mem_iff_getElem.1 hm
                exact h1 x hx hx e)]
          subst htr
          have HCB := hide cB1; have HEM := hide em
          have hdr := (Below.refl wr.heap.size wr).drew
          have HSV := hide (HS.out.kept (w' := wr.drew) (by
            have h1 := HKB.out.below
            exact ⟨h1.os, hdr.tape.trans h1.tape, h1.output, h1.size, fun i hi _ => h1.block i hi⟩))
          clear vA vB vT hbV cA2 cB2 cT4 cB1 em HTR hdr
          obtain ⟨e0, e1, e2, a7, n7, cap7, a8, n8, cap8, rfl⟩ := own_five HKB.out.own
          have HVN := hide (fun b (hb : (Value.slice aN i capN).ownBlock = some b) => (HS.out.names.lt b hb).2)
          have hsd : wr.drew.heap.size = wr.heap.size := rfl
          go_upto_region 25 with fail
          refine wp_swap (c' := Code.region 25 ws25Ops true) (by kernel_rfl) ?_
          refine wp_region_noPanic ?_
          refine ws25 (w.heap.size + 4) (w.heap.size + 1) mb mo b.names.length q1 i nm 5 (.slice aK i capK) (b.names.take i) aN capN ((b.names.take i).map gF) xs G wr _ (fun _ _ _ _ _ h => h) ⟨by omega, unhide HCB⟩ ⟨by omega, unhide HEM⟩ hlt (by have := unhide HBN; omega) (unhide HLK) (unhide HSV) (by kernel_rfl) (fun u => by kernel_rfl) ?_
          intro u a' cap' W9 hinv hbl hkp hown
          refine NoPanic.normal ?_
          simp only [List.take_succ_cons, List.take_zero, List.drop_succ_cons, List.drop_zero, List.cons_append, List.nil_append]
          have hKV := HKB.out
          have hne : ∀ b, wo.heap.size ≤ b → b < wr.heap.size → W9.heap[b]? = wr.heap[b]? := fun b h1 h2 => hkp b h2 (by omega) (fun e => by have := unhide HVN b e; omega)
          have hrow9 : W9.rowIs wo.heap.size 39 5 (row5 (.int .i64 e0) (.int .i64 e1) (.string e2) (.slice a7 n7 cap7) (.slice a8 n8 cap8)) := hKV.row.of_block (hne _ (Nat.le_refl _) hkl)
          have hown9 : Own W9 (gF nm) ⟨.int .i64 e0, .int .i64 e1, .string e2, .slice a7 n7 cap7, .slice a8 n8 cap8⟩ F := Own.carry _ _ _ (fun b hb => hne b (by have := (hKV.lt b hb).1; omega) (hKV.lt b hb).2) hKV.own
          have hnF : ∀ b, (Value.slice a' (i + 1) cap').ownBlock = some b → b ∉ F := fun b hb hm => by
            have h1 := hKV.lt b hm
            rcases hown with e | ⟨g, e, hg⟩
            · rw [e] at hb; have := unhide HVN b hb; omega
            · rw [e] at hb; simp only [Option.some.injEq] at hb; omega
          have hb09 : Below (w.heap.size + 4) W0 W9 := HB.out.trans ((hKV.below.mono (by omega)).trans (((Below.refl _ wr).drew).trans hbl))
          have hsz9 : wr.heap.size ≤ W9.heap.size := hbl.size
          have hlF : ∀ b, b ∈ F → wo.heap.size ≤ b ∧ b < W9.heap.size := fun b hb => by have := hKV.lt b hb; omega
          have hKl : ((b.names.take i).map gF).length = i := by rw [List.length_map]; exact unhide HLK
          have hmt : (b.names.take (i + 1)).map gF = (b.names.take i).map gF ++ [gF nm] := by rw [unhide HTK, List.map_append]; rfl
          have q0 := hrow9.cell (i := 0) (by omega); have q1 := hrow9.cell (i := 1) (by omega); have q2 := hrow9.cell (i := 2) (by omega); have q3 := hrow9.cell (i := 3) (by omega); have q4 := hrow9.cell (i := 4) (by omega)
          have t4 := hinv.cells.cell (i := 4) (by omega)
          simp only [row5] at q0 q1 q2 q3 q4 t4
          have HINV9 := hide hinv; have HOWN9 := hide hown9; have HNF := hide hnF; have HB09 := hide hb09; have HSZ9 := hide hsz9; have HLF := hide hlF; have HKL := hide hKl; have HMT := hide hmt; have HND := hide hKV.nd
          have HSX := hide HS.out
          clear hinv hbl hkp hown hKV hne hrow9 hown9 hnF hb09 hlF hKl hmt HKB HSV HCB HEM HVN ke hsd
          generalize gF nm = gx at *
          go_wp2_with (at_builtin; refine append_row _ rfl _ _ 37 rfl (w.heap.size + 4 + 1) 39 i0 _ 5 80 Tryz.underlying37 (unhide HII) (unhide HZ0) (unhide HZ1) (unhide HZ2) rfl (by decide) (.slice aK i capK) i xs rfl (by have := (unhide HINV9).got.row; rw [unhide HKL] at this; exact World.ownsRow.alloc this _) ⟨W9.heap.size, 0, none⟩ 1 1 (c5l ⟨.int .i64 e0, .int .i64 e1, .string e2, .slice a7 n7 cap7, .slice a8 n8 cap8⟩) rfl rfl (cell_five W9 _ _) (unhide HOWN9).one (by decide) (by have := unhide HBN; unfold maxLen; omega) (by have := unhide HBN; omega) (by have := (unhide HINV9).size; simp; omega) ?_
                       intro v' w8 hown8 hgrow8 hat8
                       obtain ⟨g, cap, rfl, -, -⟩ := hown8.form (by omega)
                       have u4 := (SInv.atK (unhide HINV9) hgrow8).cell (i := 4) (by omega); have uz := (SInv.atK (unhide HINV9) hgrow8).frozen 4
                       simp only [row5] at u4
                       have hz6 : ∀ o, (W9.alloc o).heap.size = W9.heap.size + 1 := fun o => World.size_alloc _ _
                       have hinv8 := SInv.kid2 (m := wo.heap.size) ((unhide HINV9).kept (World.grownBy_alloc W9 (.cells #[.int .i64 e0, .int .i64 e1, .string e2, .slice a7 n7 cap7, .slice a8 n8 cap8] 39) none)) (Own.carry gx _ F (fun b hb => Below.heap_alloc _ _ _ (unhide HLF b hb).2) (unhide HOWN9)) (unhide HND) (fun b hb => ⟨(unhide HLF b hb).1, by rw [hz6]; have := (unhide HLF b hb).2; omega⟩)
                         (fun b hb => ((unhide HSX).got.lt b hb).2.1) (fun b hb => ((unhide HSX).got.row.lt b hb).2) (unhide HNF) (unhide HSX).size (by rw [unhide HKL]; exact hown8) hgrow8 hat8
                       have hb8 : Below (w.heap.size + 4) W0 (w8.setCell ⟨w.heap.size + 4, 4, none⟩ (.slice (some ⟨g, 0, none⟩) (i + 1) cap)) :=
                         (((unhide HB09).alloc (by omega) (.cells #[.int .i64 e0, .int .i64 e1, .string e2, .slice a7 n7 cap7, .slice a8 n8 cap8] 39)).grown hgrow8 (by rw [hz6]; have := (unhide HINV9).size; omega) (fun b e => by have := ((unhide HINV9).got.row.lt b e).1; omega)).setCell (by simp) _
                       have HI8 := hide hinv8; have HB8 := hide hb8
                       clear hinv8 hb8 hown8 hgrow8 hat8 hz6)
          have ke := wrkU (Nat.le_trans hi (Nat.le_trans (unhide HBN) (by decide)))
          clear q0 q1 q2 q3 q4 t4 u4 uz HINV9 HOWN9 HNF HB09 HLF HND HSX
          go_roundw
          case rel => exact ⟨i + 1, a', cap', some ⟨g, 0, none⟩, cap, _, _, hlt, (by first | exact numU i | (rw [ke]; exact numU i)), by rw [unhide HMT, unhide HTK]; exact unhide HI8, unhide HB8⟩
          case measure => first | exact measU hlt | (rw [ke]; exact measU hlt)
    · obtain rfl : i = b.names.length := by omega
      obtain ⟨F, hown, hnd, hFl⟩ := HS.out.done (show I64 5 from ⟨by decide, by decide⟩) (fun x hx => unhide HNS8 x (List.mem_of_mem_take hx))
      rw [List.take_length] at hown
      have t0 := HS.out.cells.cell (i := 0) (by omega); have t1 := HS.out.cells.cell (i := 1) (by omega); have t2 := HS.out.cells.cell (i := 2) (by omega); have t3 := HS.out.cells.cell (i := 3) (by omega); have t4 := HS.out.cells.cell (i := 4) (by omega)
      have q2 := (unhide HBX).bR.of_block (hbo _ (by omega))
      have z := q2.frozen
      have y0 := q2.cell (i := 0) (by omega); have y1 := q2.cell (i := 1) (by omega); have y2 := q2.cell (i := 2) (by omega); have y3 := q2.cell (i := 3) (by omega); have y4 := q2.cell (i := 4) (by omega)
      simp only [row5] at t0 t1 t2 t3 t4 y0 y1 y2 y3 y4
      have HOWN := hide hown; have HFL := hide hFl; have HBXX := hide hbw
      clear hown hFl q2 hbw hbo bA bB bT
      go_wp2_with fail
      refine bodyPost_ret (v := .agg #[.int .i64 5, .int .i64 0, .string ⟨#[]⟩, .slice aN b.names.length capN, .slice aK b.names.length capK]) (by simp [results, Tryz.results34, go_sem, y0, y1, y2, y3, y4]) rfl ⟨⟨_, _, _, _, _⟩, F, rfl, ?_, hnd, ?_, ?_⟩
      · exact Own.carry _ _ F (fun b hb => heap_set5s _ _ _ _ _ _ _ _ (by have := (unhide HFL b hb).1; omega)) (unhide HOWN)
      · intro b hb
        rw [size_set5s]
        have := unhide HFL b hb; omega
      · exact below_set5s (unhide HBXX) _ _ _ _ _ _ (by omega)
end Go.Proofs.YtcpfelaffclalaaGreatDoor
