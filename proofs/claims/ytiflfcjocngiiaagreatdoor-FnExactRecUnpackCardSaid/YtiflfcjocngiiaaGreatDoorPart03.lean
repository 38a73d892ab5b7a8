/- The walk of the specification's l4Tree: the bytes of a tree that is ok, in new memory. Conditions: the tree is ok. -/
import Derived.Test.YtiflfcjocngiiaaGreatDoorPart02
import Derived.Deep.OwnRows
import Derived.Test.YtiflfcjocngiiaaGreatDoorPart00
import Derived.Test.YtiflfcjocngiiaaGreatDoorRows
import Derived.WalkLawsBesides
import Derived.WalkSmall
namespace Go.Proofs.YtiflfcjocngiiaaGreatDoor
open Go Go.RowKit

theorem bcI (x : Int) (h0 : 0 ≤ x) (h1 : x < 256) : bc [UInt8.ofNat x.toNat] = [.int .u8 x] := by
  rw [bcN _ (by omega)]
  have : ((x.toNat : Nat) : Int) = x := by omega
  rw [this]

theorem ByRow.freshI (w : World) (x : Int) (h0 : 0 ≤ x) (h1 : x < 256) : ByRow w.heap.size (w.alloc (.cells #[.int .u8 x] 5)) (.slice (some ⟨w.heap.size, 0, none⟩) 1 1) [UInt8.ofNat x.toNat] := by
  have := ByRow.fresh w (UInt8.ofNat x.toNat)
  have e : (((UInt8.ofNat x.toNat).toNat : Nat) : Int) = x := by rw [u8_nat _ (by omega)]; omega
  rw [e] at this
  exact this

theorem ByRow.stay {base : Nat} {w w' : World} {v : Value} {l : List UInt8} (h : ByRow base w v l) (hb : Below w.heap.size w w') : ByRow base w' v l :=
  World.ownsRow.kept h (row := none) ⟨hb.os, hb.tape, hb.output, hb.size, fun i hi _ => hb.block i hi⟩ (by cases hv : v.ownBlock <;> simp)

/-- What there is of the bytes of a tree, behind a box. -/
structure TAt (w : World) (box : Obj) (wr : World) (v : Value) (len : Nat) (l : List UInt8) : Prop where
  row : ByRow (w.heap.size + 1) wr v l
  below : Below (w.heap.size + 1) (w.alloc box) wr
  len : len = l.length

theorem TAt.size {w : World} {box : Obj} {wr : World} {v : Value} {len : Nat} {l : List UInt8} (h : TAt w box wr v len l) : w.heap.size + 1 ≤ wr.heap.size := by
  have := h.below.size; simpa using this

theorem TAt.app {w : World} {box : Obj} {wr w2 w3 : World} {v v' : Value} {len n' : Nat} {l news : List UInt8} (h : TAt w box wr v len l) (hb : Below wr.heap.size wr w2)
    (hn : n' = (l ++ news).length) (hr : ByRow (w.heap.size + 1) w3 v' (l ++ news)) (hg : w2.grownBy w3 v.ownBlock) : TAt w box w3 v' n' (l ++ news) :=
  ⟨hr, h.below.trans ((hb.mono h.size).trans (ByRow.below (h.row.stay hb) hg (Nat.le_trans h.size hb.size))), hn⟩

theorem TAt.end {w : World} {box : Obj} {wr : World} {a : Option Addr} {len cap : Nat} {l : List UInt8} (h : TAt w box wr (.slice a len cap) len l) : ByNew w wr (.returned (.slice a len cap)) l :=
  ⟨a, len, cap, rfl, h.len, h.row.base (Nat.le_succ _), ((Below.refl _ _).alloc (Nat.le_refl _) box).trans (h.below.mono (by omega))⟩

theorem TAt.start (w : World) (box : Obj) (x : Int) (h0 : 0 ≤ x) (h1 : x < 256) : TAt w box ((w.alloc box).alloc (.cells #[.int .u8 x] 5)) (.slice (some ⟨w.heap.size + 1, 0, none⟩) 1 1) 1 [UInt8.ofNat x.toNat] := by
  have hr := ByRow.freshI (w.alloc box) x h0 h1
  rw [World.size_alloc] at hr
  exact ⟨hr, (Below.refl _ _).alloc (by simp) _, rfl⟩

theorem TAt.old {w : World} {box : Obj} {wr : World} {v : Value} {len : Nat} {l : List UInt8} (h : TAt w box wr v len l) : Below w.heap.size w wr :=
  ((Below.refl _ _).alloc (Nat.le_refl _) box).trans (h.below.mono (by omega))

theorem ByNew.form {w w' : World} {e : Ending} {l : List UInt8} (h : ByNew w w' e l) (hl : 0 < l.length) : ∃ g n cap, e = .returned (.slice (some ⟨g, 0, none⟩) n cap) ∧ n = l.length ∧ (∀ j u, (bc l)[j]? = some u → w'.cell? ((⟨g, 0, none⟩ : Addr).add j) = some u) ∧ Below w.heap.size w w' := by
  obtain ⟨a, n, cap, rfl, hn, hr, hb⟩ := h
  obtain ⟨g, cap', hv, -, -, hc⟩ := hr.form hl
  simp only [Value.slice.injEq] at hv
  obtain ⟨rfl, rfl, rfl⟩ := hv
  exact ⟨g, _, _, rfl, rfl, hc, hb⟩

def TrSaid (n : Nat) : Prop := ∀ (t : Tr), tsz t < n → ∀ (P : Nat → Prop) (c : C5) (d : Int) (w : World), (∀ b, P b → b < w.heap.size) → Rep P w t c → 0 < pT t d →
    Calls Tryz.prog 45 #[.agg #[c.c0, c.c1, c.c2, c.c3, c.c4]] w fun e w' => ByNew w w' e (treeB t)

set_option maxRecDepth 100000 in
set_option maxHeartbeats 3200000 in
theorem l4Tree_step (n : Nat) (IH : TrSaid n) : TrSaid (n + 1) := by
  intro t hn P c d w hP hrep hok
  obtain ⟨c0, c1, c2, c3, c4⟩ := c
  obtain ⟨e0, e1, e2, -, -, -, hns, a, cap, e4, -, hks⟩ := hrep.open
  simp only at e0 e1 e2 e4 hns
  subst e0 e1 e2 e4
  obtain ⟨a3, cap3, rfl, -, hns⟩ := hns
  have hso := ok_sort hok
  have hs1 : 1 ≤ t.sort := by omega
  have hs6 : t.sort ≤ 6 := by omega
  have htb := treeB_eq t
  have hlen : (treeB t).length ≤ 8520 := by have := treeB_len t d hok; have := pT_bd t d; omega
  have HT0 := hide (fun box => TAt.start w box t.sort (by omega) (by omega))
  have HLEN := hide hlen; have HOK := hide hok; have HP := hide hP
  clear hlen hP hrep
  rcases (show t.sort = 1 ∨ t.sort = 2 ∨ t.sort = 3 ∨ (t.sort ≠ 1 ∧ t.sort ≠ 2 ∧ t.sort ≠ 3) by omega) with h | h | h | ⟨hx1, hx2, hx3⟩
  · have hnum := ok_num hok h
    have HE : Hid (treeB t = [UInt8.ofNat t.sort.toNat] ++ numB t.num) := by show treeB t = _; rw [htb, if_pos h]; rfl
    have h1 : (t.sort == 1) = true := by simpa using h
    have hnl := numB_len (n := t.num) (by omega)
    have HC := hide (fun W => l4Num_any t.num W (by omega))
    clear h hso htb hok hks hns hnum
    go_enter Tryz.func45, Tryz.ntmps45
    go_wp2_with fail
    refine (unhide HC _).mono ?_
    intro e w2 hnew
    obtain ⟨g2, n2, cap2, rfl, hn2, hc2, hb2⟩ := hnew.form (by simp [numB])
    have hsz2 := hb2.size
    have HC2 := hide hc2; have HB2 := hide hb2; have HN2 := hide hn2
    clear hnew hc2 hb2 hn2 HC
    go_wp2_with (at_builtin; refine append_bytes _ rfl _ _ rfl (w.heap.size + 1) (.slice (some ⟨w.heap.size + 1, 0, none⟩) 1 1) [UInt8.ofNat t.sort.toNat] (numB t.num) rfl ((unhide HT0 _).row.stay (unhide HB2)) ⟨g2, 0, none⟩ n2 cap2 rfl (unhide HN2) (unhide HC2) (by simp; omega) (by simp at hsz2; omega) ?_; intro a' n' cap' w3 HN HR HG)
    have hfin := (unhide HT0 _).app (unhide HB2) HN.out HR.out HG.out
    rw [← HE.out] at hfin
    have HF := hide hfin
    clear hfin HN HR HG HT0 HB2
    go_ret
    exact (unhide HF).end
  · have htx := ok_text hok h
    have HE : Hid (treeB t = [UInt8.ofNat t.sort.toNat] ++ shortB t.text) := by show treeB t = _; rw [htb, if_neg (by omega), if_pos h]; rfl
    have h1 : (t.sort == 1) = false := by simp; omega
    have h2 : (t.sort == 2) = true := by simpa using h
    have hnl := shortB_len t.text
    have HC := hide (fun W => l4Short_any t.text W (by omega))
    clear h hso htb hok hks hns 
    go_enter Tryz.func45, Tryz.ntmps45
    go_wp2_with fail
    refine (unhide HC _).mono ?_
    intro e w2 hnew
    obtain ⟨g2, n2, cap2, rfl, hn2, hc2, hb2⟩ := hnew.form (by rw [hnl]; omega)
    have hsz2 := hb2.size
    have HC2 := hide hc2; have HB2 := hide hb2; have HN2 := hide hn2
    clear hnew hc2 hb2 hn2 HC
    go_wp2_with (at_builtin; refine append_bytes _ rfl _ _ rfl (w.heap.size + 1) (.slice (some ⟨w.heap.size + 1, 0, none⟩) 1 1) [UInt8.ofNat t.sort.toNat] (shortB t.text) rfl ((unhide HT0 _).row.stay (unhide HB2)) ⟨g2, 0, none⟩ n2 cap2 rfl (unhide HN2) (unhide HC2) (by simp; omega) (by simp at hsz2; omega) ?_; intro a' n' cap' w3 HN HR HG)
    have hfin := (unhide HT0 _).app (unhide HB2) HN.out HR.out HG.out
    rw [← HE.out] at hfin
    have HF := hide hfin
    clear hfin HN HR HG HT0 HB2
    go_ret
    exact (unhide HF).end
  · have hfl := ok_flag hok h
    have HE : Hid (treeB t = [UInt8.ofNat t.sort.toNat] ++ [UInt8.ofNat t.num.toNat]) := by show treeB t = _; rw [htb, if_neg (by omega), if_neg (by omega), if_pos h]; rfl
    have h1 : (t.sort == 1) = false := by simp; omega
    have h2 : (t.sort == 2) = false := by simp; omega
    have h3 : (t.sort == 3) = true := by simpa using h
    obtain ⟨hf0, hf1⟩ := hfl
    have HK := hide (bcI t.num hf0 (by omega))
    clear h hso htb hok hks hns
    have hbx : ∀ (W : World) o, Below W.heap.size W (W.alloc o) := fun W o => (Below.refl _ _).alloc (Nat.le_refl _) o
    have HBX := hide hbx
    clear hbx
    go_enter Tryz.func45, Tryz.ntmps45
    go_wp2_with (at_builtin; refine append_bytes _ rfl _ _ rfl (w.heap.size + 1) (.slice (some ⟨w.heap.size + 1, 0, none⟩) 1 1) [UInt8.ofNat t.sort.toNat] [UInt8.ofNat t.num.toNat] rfl ((unhide HT0 _).row.stay (unhide HBX _ _)) ⟨w.heap.size + 1 + 1, 0, none⟩ 1 1 rfl rfl (by rw [unhide HK]; have := cell_one ((w.alloc (.cells #[.int .i64 t.sort, .int .i64 t.num, .string t.text, .slice a3 t.names.length cap3, .slice a t.kids.length cap] 39)).alloc (.cells #[.int .u8 t.sort] 5)) (.int .u8 t.num) 5; simpa using this) (by simp) (by simp only [World.size_alloc]; omega) ?_; intro a' n' cap' w3 HN HR HG)
    have hfin := (unhide HT0 _).app (unhide HBX _ _) HN.out HR.out HG.out
    rw [← HE.out] at hfin
    have HF := hide hfin
    clear hfin HN HR HG HT0 HBX
    go_ret
    exact (unhide HF).end
  · have hmany := ok_many hok
    have h1 : (t.sort == 1) = false := by simp; omega
    have h2 : (t.sort == 2) = false := by simp; omega
    have h3 : (t.sort == 3) = false := by simp; omega
    have HE : Hid (treeB t = ([UInt8.ofNat t.sort.toNat] ++ [UInt8.ofNat t.kids.length]) ++ kidsB (decide (t.sort = 5)) t.names t.kids) := by show treeB t = _; rw [htb, if_neg hx1, if_neg hx2, if_neg hx3]; rfl
    have HK := hide (bcN t.kids.length (by omega))
    have hnm := ok_names hok
    have HKID := hide (fun k hk => ok_kid hok k hk)
    have HBD : Hid (∀ k, (hk : k < t.kids.length) → ((([UInt8.ofNat t.sort.toNat] ++ [UInt8.ofNat t.kids.length]) ++ kidsB (decide (t.sort = 5)) t.names (t.kids.take k)) ++ ((if decide (t.sort = 5) then shortB (t.names.getD k ByteArray.empty) else []) ++ treeB t.kids[k])).length ≤ 8520) := fun k hk => by
      have h1 := kidsB_le (decide (t.sort = 5)) t.names t.kids (k + 1)
      have h2 := HLEN.out
      rw [HE.out] at h2
      rw [List.append_assoc, ← kidsB_take _ _ _ _ hk]
      simp only [List.length_append] at h2 ⊢
      omega
    have HTS := hide (fun (k : Tr) (hk : k ∈ t.kids) => tsz_kid hk)
    have HHN := hide hn
    have hbx : ∀ (W : World) o, Below W.heap.size W (W.alloc o) := fun W o => (Below.refl _ _).alloc (Nat.le_refl _) o
    have HBX := hide hbx; have HNM := hide hnm; have HKS := hide hks; have HNS := hide hns; have HI := hide IH
    clear hso htb hok hbx hx1 hx2 hx3 hnm hks hns IH hn
    generalize hd5 : decide (t.sort = 5) = f at *
    have HD5 := hide hd5
    clear hd5
    have hf5 : (t.sort == 5) = f := by rw [← unhide HD5]; rfl
    go_enter Tryz.func45, Tryz.ntmps45
    go_wp2_with (at_builtin; refine append_bytes _ rfl _ _ rfl (w.heap.size + 1) (.slice (some ⟨w.heap.size + 1, 0, none⟩) 1 1) [UInt8.ofNat t.sort.toNat] [UInt8.ofNat t.kids.length] rfl ((unhide HT0 _).row.stay (unhide HBX _ _)) ⟨w.heap.size + 1 + 1, 0, none⟩ 1 1 rfl rfl (by rw [unhide HK]; have := cell_one ((w.alloc (.cells #[.int .i64 t.sort, .int .i64 t.num, .string t.text, .slice a3 t.names.length cap3, .slice a t.kids.length cap] 39)).alloc (.cells #[.int .u8 t.sort] 5)) (.int .u8 t.kids.length) 5; simpa using this) (by simp) (by simp only [World.size_alloc]; omega) ?_; intro a' n' cap' w3 HN HR HG)
    have hst := (unhide HT0 _).app (unhide HBX _ _) HN.out HR.out HG.out
    have HST := hide hst
    clear hst HN HR HG HT0 HK
    go_loopw [3, 4] (fun o i wr => ∃ (k : Nat) (ar : Option Addr) (len cp : Nat), k ≤ t.kids.length ∧ i = .int .i64 k ∧ o = .slice ar len cp ∧ Hid (TAt w (.cells #[.int .i64 t.sort, .int .i64 t.num, .string t.text, .slice a3 t.names.length cap3, .slice a t.kids.length cap] 39) wr (.slice ar len cp) len (([UInt8.ofNat t.sort.toNat] ++ [UInt8.ofNat t.kids.length]) ++ kidsB f t.names (t.kids.take k)))) (fun _ i _ => t.kids.length - (intOf i).toNat)
    case atStart => exact ⟨0, _, _, _, Nat.zero_le _, rfl, rfl, by rw [List.take_zero, kidsB, List.append_nil]; exact HST⟩
    case round =>
      clear HST
      obtain ⟨k, ar, len, cp, hk, rfl, rfl, HA⟩ := hrel
      have hbxr := (row5_alloc w (.int .i64 t.sort) (.int .i64 t.num) (.string t.text) (.slice a3 t.names.length cap3) (.slice a t.kids.length cap) 39).of_block (HA.out.below.block _ (by omega))
      have k0 := hbxr.cell (i := 0) (by omega); have k3 := hbxr.cell (i := 3) (by omega); have k4 := hbxr.cell (i := 4) (by omega)
      simp only [row5] at k0 k3 k4
      clear hbxr
      by_cases hlt : k < t.kids.length
      · obtain ⟨b, o, c, rfl, hpb, hcell, hrepk⟩ := unhide HKS k hlt
        have HC5 := hide (fun (W : World) (hW : Below w.heap.size w W) => hcell.carry (hW.block b (unhide HP b hpb)))
        have hsm : tsz t.kids[k] < n := by have := unhide HTS t.kids[k] (List.getElem_mem hlt); have := unhide HHN; omega
        have HCALL := hide (fun (W : World) (hW : Below w.heap.size w W) => unhide HI t.kids[k] hsm P c (d + 1) W (fun b hb => Nat.lt_of_lt_of_le (unhide HP b hb) hW.size) (Rep.carry (fun b hb => hW.block b (unhide HP b hb)) (fun _ h => h) _ _ hrepk) (unhide HKID k hlt))
        have hbd := unhide HBD k hlt
        have hnext := kidsB_take f t.names t.kids k hlt
        obtain ⟨c0, c1, c2, c3, c4⟩ := c
        clear hpb hcell hrepk hsm
        cases f with
        | false =>
          have HLB : Hid ((([UInt8.ofNat t.sort.toNat] ++ [UInt8.ofNat t.kids.length]) ++ kidsB false t.names (t.kids.take k)).length + (treeB t.kids[k]).length ≤ 8520) := by
            simp only [Bool.false_eq_true, if_false, List.nil_append] at hbd
            rw [List.length_append] at hbd
            exact hbd
          have HNEXT : Hid ((([UInt8.ofNat t.sort.toNat] ++ [UInt8.ofNat t.kids.length]) ++ kidsB false t.names (t.kids.take k)) ++ treeB t.kids[k] = ([UInt8.ofNat t.sort.toNat] ++ [UInt8.ofNat t.kids.length]) ++ kidsB false t.names (t.kids.take (k + 1))) := by
            show _ = _
            rw [hnext]; simp
          obtain ⟨e0, e1, e2, e3, e4⟩ := unhide HC5 wr HA.out.old
          simp only at e0 e1 e2 e3 e4
          clear hbd hnext HC5
          go_wp2_with fail
          refine (unhide HCALL wr (HA.out).old).mono ?_
          intro e w6 hnew6
          obtain ⟨g6, n6, cap6, rfl, hn6, hc6, hb6⟩ := hnew6.form (by rw [treeB_eq]; simp)
          have hsz6 := hb6.size
          have HC6 := hide hc6; have HB6 := hide hb6; have HN6 := hide hn6; have HBS := hide (Nat.le_trans (HA.out).size hsz6)
          clear hnew6 hc6 hb6 hn6 hsz6
          go_wp2_with (at_builtin; refine append_bytes _ rfl _ _ rfl (w.heap.size + 1) (.slice ar len cp) (([UInt8.ofNat t.sort.toNat] ++ [UInt8.ofNat t.kids.length]) ++ kidsB false t.names (t.kids.take k)) (treeB t.kids[k]) rfl ((HA.out).row.stay (unhide HB6)) ⟨g6, 0, none⟩ n6 cap6 rfl (unhide HN6) (unhide HC6) (Nat.le_trans (unhide HLB) (by decide)) (unhide HBS) ?_; intro a7 n7 cap7 w7 HN7 HR7 HG7)
          have hst7 := (HA.out).app (unhide HB6) HN7.out HR7.out HG7.out
          rw [unhide HNEXT] at hst7
          have HST7 := hide hst7
          clear hst7 HN7 HR7 HG7 HB6 HN6 HC6 HBS
          go_roundw
          case rel => exact ⟨k + 1, a7, n7, cap7, by omega, by go_num, rfl, HST7⟩
          case measure => simp [intOf]; omega
        | true =>
          obtain ⟨hnl, hn8⟩ := unhide HNM (by simpa using unhide HD5)
          have hkn : k < t.names.length := by omega
          obtain ⟨b', o', rfl, hpb', hcell', -⟩ := unhide HNS k hkn
          have ec : wr.cell? ⟨b', o' + k, none⟩ = some (.string t.names[k]) := by rw [World.cell?_of_block (w := w) (HA.out.old.block b' (unhide HP b' hpb'))]; exact hcell'
          have h8 := hn8 _ (List.getElem_mem hkn)
          have hgd := getD_lt t.names k hkn
          rw [hgd] at hbd hnext
          have HSH := hide (fun W => l4Short_any t.names[k] W (by omega))
          have HLA : Hid ((([UInt8.ofNat t.sort.toNat] ++ [UInt8.ofNat t.kids.length]) ++ kidsB true t.names (t.kids.take k)).length + (shortB t.names[k]).length ≤ 8520) := by
            simp only [if_true, List.length_append] at hbd ⊢
            show _ ≤ _
            omega
          have HLB : Hid (((([UInt8.ofNat t.sort.toNat] ++ [UInt8.ofNat t.kids.length]) ++ kidsB true t.names (t.kids.take k)) ++ shortB t.names[k]).length + (treeB t.kids[k]).length ≤ 8520) := by
            simp only [if_true, List.length_append] at hbd ⊢
            show _ ≤ _
            omega
          have HNEXT : Hid (((([UInt8.ofNat t.sort.toNat] ++ [UInt8.ofNat t.kids.length]) ++ kidsB true t.names (t.kids.take k)) ++ shortB t.names[k]) ++ treeB t.kids[k] = ([UInt8.ofNat t.sort.toNat] ++ [UInt8.ofNat t.kids.length]) ++ kidsB true t.names (t.kids.take (k + 1))) := by
            show _ = _
            rw [hnext]; simp
          have hsl := shortB_len t.names[k]
          have HSL := hide hsl
          clear hbd hnext hgd h8 hn8 hcell' hpb' hsl hnl
          go_wp2_with fail
          refine (unhide HSH _).mono ?_
          intro e w2 hnew
          obtain ⟨g2, n2, cap2, rfl, hn2, hc2, hb2⟩ := hnew.form (by rw [unhide HSL]; omega)
          have HC2 := hide hc2; have HB2 := hide hb2; have HN2 := hide hn2; have HBS := hide (Nat.le_trans HA.out.size hb2.size)
          clear hnew hc2 hb2 hn2 HSH
          go_wp2_with (at_builtin; refine append_bytes _ rfl _ _ rfl (w.heap.size + 1) (.slice ar len cp) (([UInt8.ofNat t.sort.toNat] ++ [UInt8.ofNat t.kids.length]) ++ kidsB true t.names (t.kids.take k)) (shortB t.names[k]) rfl (HA.out.row.stay (unhide HB2)) ⟨g2, 0, none⟩ n2 cap2 rfl (unhide HN2) (unhide HC2) (Nat.le_trans (unhide HLA) (by decide)) (unhide HBS) ?_; intro a4 n4 cap4 w4 HN4 HR4 HG4
                       have hst4 := HA.out.app (unhide HB2) HN4.out HR4.out HG4.out
                       have hbx4 := (row5_alloc w (.int .i64 t.sort) (.int .i64 t.num) (.string t.text) (.slice (some ⟨b', o', none⟩) t.names.length cap3) (.slice (some ⟨b, o, none⟩) t.kids.length cap) 39).of_block (hst4.below.block _ (by omega))
                       have m4 := hbx4.cell (i := 4) (by omega)
                       simp only [row5] at m4
                       obtain ⟨e0, e1, e2, e3, e4⟩ := unhide HC5 w4 hst4.old
                       simp only at e0 e1 e2 e3 e4
                       have HST4 := hide hst4
                       clear hst4 hbx4 HN4 HR4 HG4 HB2 HN2 HC2 HBS)
          refine (unhide HCALL w4 (unhide HST4).old).mono ?_
          intro e w6 hnew6
          obtain ⟨g6, n6, cap6, rfl, hn6, hc6, hb6⟩ := hnew6.form (by rw [treeB_eq]; simp)
          have hsz6 := hb6.size
          have HC6 := hide hc6; have HB6 := hide hb6; have HN6 := hide hn6; have HBS := hide (Nat.le_trans (unhide HST4).size hsz6)
          clear hnew6 hc6 hb6 hn6 hsz6
          go_wp2_with (at_builtin; refine append_bytes _ rfl _ _ rfl (w.heap.size + 1) (.slice a4 n4 cap4) ((([UInt8.ofNat t.sort.toNat] ++ [UInt8.ofNat t.kids.length]) ++ kidsB true t.names (t.kids.take k)) ++ shortB t.names[k]) (treeB t.kids[k]) rfl ((unhide HST4).row.stay (unhide HB6)) ⟨g6, 0, none⟩ n6 cap6 rfl (unhide HN6) (unhide HC6) (Nat.le_trans (unhide HLB) (by decide)) (unhide HBS) ?_; intro a7 n7 cap7 w7 HN7 HR7 HG7)
          have hst7 := (unhide HST4).app (unhide HB6) HN7.out HR7.out HG7.out
          rw [unhide HNEXT] at hst7
          have HST7 := hide hst7
          clear hst7 HN7 HR7 HG7 HB6 HN6 HC6 HBS
          go_roundw
          case rel => exact ⟨k + 1, a7, n7, cap7, by omega, by go_num, rfl, HST7⟩
          case measure => simp [intOf]; omega
      · go_wp2_with fail
        go_ret
        have hfin := HA.out
        rw [List.take_of_length_le (by omega), ← HE.out] at hfin
        exact hfin.end
end Go.Proofs.YtiflfcjocngiiaaGreatDoor

/- What a schema is as plain data, its weight, and how it lies in memory: definitions and small laws, no program. No conditions. -/

namespace Go.Proofs.YtiflfcjocngiiaaGreatDoor
open Go Go.RowKit

/-- A schema as plain data. -/
inductive Kd where
  | mk (sort : Int) (names : List ByteArray) (kids : List Kd)

namespace Kd
end Kd




def row3 (c0 c1 c2 : Value) : Nat → Value
  | 0 => c0
  | 1 => c1
  | _ => c2

theorem row3_alloc (w : World) (c0 c1 c2 : Value) (t : TypeId) : (w.alloc (.cells #[c0, c1, c2] t)).rowIs w.heap.size t 3 (row3 c0 c1 c2) :=
  World.rowIs_alloc w #[c0, c1, c2] t _ (fun i hi => by
    have hi' : i < 3 := hi
    match i, hi' with
    | 0, _ => rfl
    | 1, _ => rfl
    | 2, _ => rfl)

theorem kbox1 {w w1 : World} {x0 x1 x2 : Value} {tx : TypeId}
    (hb : Below (w.alloc (.cells #[x0, x1, x2] tx)).heap.size (w.alloc (.cells #[x0, x1, x2] tx)) w1) :
    w1.rowIs w.heap.size tx 3 (row3 x0 x1 x2) ∧ w.heap.size + 1 ≤ w1.heap.size ∧ Below w.heap.size w w1 := by
  have r0 := row3_alloc w x0 x1 x2 tx
  have hs := hb.size
  refine ⟨r0.of_block (hb.block _ r0.lt), by simpa using hs, ?_⟩
  exact ((Below.refl _ _).alloc (Nat.le_refl _) _).trans (hb.mono (by simp))

end Go.Proofs.YtiflfcjocngiiaaGreatDoor

/- The walks of the program's isDigit, isNameByte, nameOk: what they answer. No conditions. -/

namespace Go.Proofs.YtiflfcjocngiiaaGreatDoor
open Go Go.RowKit

def digitB (c : UInt8) : Bool := 48 ≤ c.toNat && c.toNat ≤ 57
theorem digit_yes {c : UInt8} (h : 48 ≤ c.toNat ∧ c.toNat ≤ 57) : digitB c = true := by unfold digitB; simp [h.1, h.2]
theorem digit_no {c : UInt8} (h : c.toNat < 48 ∨ 57 < c.toNat) : digitB c = false := by
  unfold digitB; simp only [Bool.and_eq_false_iff, decide_eq_false_iff_not]; omega
theorem nameByte_digit {c : UInt8} (h : c.toNat < 97 ∨ 122 < c.toNat) : nameByte c = digitB c := by
  unfold nameByte digitB
  rw [show (decide (97 ≤ c.toNat) && decide (c.toNat ≤ 122)) = false from by simp only [Bool.and_eq_false_iff, decide_eq_false_iff_not]; omega]
  rfl

set_option maxHeartbeats 400000 in
theorem isDigit_any (c : UInt8) (w : World) : Calls Tryz.prog 67 #[.int .u8 c.toNat] w fun e w' => e = .returned (.bool (digitB c)) ∧ w' = w := by
  have hc : (48 ≤ c.toNat ∧ c.toNat ≤ 57) ∨ c.toNat < 48 ∨ 57 < c.toNat := by omega
  rcases hc with hc | hc | hc
  · have HB := hide (digit_yes hc)
    obtain ⟨h1, h2⟩ := hc
    have d2 : decide ((c.toNat : Int) ≤ 57) = true := by simp; omega
    go_enter Tryz.func67, Tryz.ntmps67
    go_wp2_with fail
    go_ret
    exact ⟨ret_bool (unhide HB).symm, rfl⟩
  · have HB := hide (digit_no (Or.inl hc))
    go_enter Tryz.func67, Tryz.ntmps67
    go_wp2_with fail
    go_ret
    exact ⟨ret_bool (unhide HB).symm, rfl⟩
  · have HB := hide (digit_no (Or.inr hc))
    have d2 : decide ((c.toNat : Int) ≤ 57) = false := by simp; omega
    go_enter Tryz.func67, Tryz.ntmps67
    go_wp2_with fail
    go_ret
    exact ⟨ret_bool (unhide HB).symm, rfl⟩

set_option maxHeartbeats 400000 in
theorem isNameByte_any (c : UInt8) (w : World) : Calls Tryz.prog 68 #[.int .u8 c.toNat] w fun e w' => e = .returned (.bool (nameByte c)) ∧ w' = w := by
  have hc : (97 ≤ c.toNat ∧ c.toNat ≤ 122) ∨ c.toNat < 97 ∨ 122 < c.toNat := by omega
  rcases hc with hc | hc | hc
  · have HN := hide (nameByte_yes (Or.inl hc))
    obtain ⟨h1, h2⟩ := hc
    have d2 : decide ((c.toNat : Int) ≤ 122) = true := by simp; omega
    go_enter Tryz.func68, Tryz.ntmps68
    go_wp2_with (go_at_call 67; refine (isDigit_any _ _).mono ?_; rintro e w' ⟨rfl, rfl⟩)
    go_ret
    exact ⟨ret_bool (unhide HN).symm, rfl⟩
  · have HN := hide (nameByte_digit (Or.inl hc))
    go_enter Tryz.func68, Tryz.ntmps68
    go_wp2_with (go_at_call 67; refine (isDigit_any _ _).mono ?_; rintro e w' ⟨rfl, rfl⟩)
    go_ret
    exact ⟨ret_bool (unhide HN).symm, rfl⟩
  · have HN := hide (nameByte_digit (Or.inr hc))
    have d2 : decide ((c.toNat : Int) ≤ 122) = false := by simp; omega
    go_enter Tryz.func68, Tryz.ntmps68
    go_wp2_with (go_at_call 67; refine (isDigit_any _ _).mono ?_; rintro e w' ⟨rfl, rfl⟩)
    go_ret
    exact ⟨ret_bool (unhide HN).symm, rfl⟩

theorem nameOk_digit {s : ByteArray} (h0 : 0 < s.size) (h : digitB s[0] = true) : nameOkB s = false := by
  refine nameOk_first h0 ?_
  simp only [digitB, Bool.and_eq_true, decide_eq_true_eq] at h
  omega
theorem nameOk_yes2 {s : ByteArray} (h1 : 0 < s.size) (h2 : s.size ≤ 8) (hf : digitB s[0] = false) (ha : allTo nameByte s s.size) : nameOkB s = true := by
  refine nameOk_yes h1 h2 ?_ ha
  have hb := ha 0 h1 h1
  simp only [nameByte, digitB, Bool.or_eq_true, Bool.and_eq_true, Bool.and_eq_false_iff, decide_eq_true_eq, decide_eq_false_iff_not] at hb hf
  omega

set_option maxHeartbeats 400000 in
theorem nameOk_any (s : ByteArray) (w : World) (hs : s.size ≤ 9223372036854775807) :
    Calls Tryz.prog 58 #[.string s] w fun e w' => e = .returned (.bool (nameOkB s)) ∧ w' = w := by
  have hl : s.size < 1 ∨ 8 < s.size ∨ (0 < s.size ∧ s.size ≤ 8) := by omega
  rcases hl with hl | hl | ⟨hl0, hl8⟩
  · have HN := hide (nameOk_len (Or.inl hl))
    go_enter Tryz.func58, Tryz.ntmps58
    go_wp2_with fail
    go_ret
    exact ⟨ret_bool (unhide HN).symm, rfl⟩
  · have HN := hide (nameOk_len (Or.inr hl))
    go_enter Tryz.func58, Tryz.ntmps58
    go_wp2_with fail
    go_ret
    exact ⟨ret_bool (unhide HN).symm, rfl⟩
  · by_cases hf : digitB s[0] = true
    · have HN := hide (nameOk_digit hl0 hf)
      go_enter Tryz.func58, Tryz.ntmps58
      go_wp2_with (go_at_call 67; refine (isDigit_any _ _).mono ?_; rintro e w' ⟨rfl, rfl⟩)
      go_ret
      exact ⟨ret_bool (unhide HN).symm, rfl⟩
    · have hf' : digitB s[0] = false := by simpa using hf
      have HF := hide hf'
      clear hf
      go_enter Tryz.func58, Tryz.ntmps58
      go_wp2_with (go_at_call 67; refine (isDigit_any _ _).mono ?_; rintro e w' ⟨rfl, rfl⟩)
      go_loop [19] (fun i => ∃ k : Nat, k ≤ s.size ∧ i = .int .i64 k ∧ Hid (allTo nameByte s k)) (fun i => s.size - (intOf i).toNat)
      case atStart => exact ⟨0, Nat.zero_le _, rfl, fun j hj => by omega⟩
      case round =>
        obtain ⟨k, hk, rfl, HA⟩ := hrel
        by_cases hlt : k < s.size
        · by_cases hb : nameByte s[k] = true
          · have HN := hide (allTo_succ HA.out hlt hb)
            go_wp2_with (go_at_call 68; refine (isNameByte_any _ _).mono ?_; rintro e w' ⟨rfl, rfl⟩)
            go_round
            case rel => exact ⟨k + 1, by omega, by go_num, HN⟩
            case measure => simp [intOf]; omega
          · have hb' : nameByte s[k] = false := by simpa using hb
            clear hb
            have HN := hide (nameOk_not hlt hb')
            go_wp2_with (go_at_call 68; refine (isNameByte_any _ _).mono ?_; rintro e w' ⟨rfl, rfl⟩)
            go_ret
            exact ⟨ret_bool (unhide HN).symm, rfl⟩
        · go_wp2_with fail
          go_ret
          obtain rfl : k = s.size := by omega
          exact ⟨ret_bool (nameOk_yes2 hl0 hl8 (unhide HF) HA.out).symm, rfl⟩
end Go.Proofs.YtiflfcjocngiiaaGreatDoor

/- The walks of the program's treeWant: what it answers, and that it raises a fault. No conditions. -/

namespace Go.Proofs.YtiflfcjocngiiaaGreatDoor
open Go Go.RowKit

/-- A fault is raised. -/
abbrev fltE : Ending := .panicked [{ v := .iface 77 (.agg #[]), recovered := false }]

set_option maxHeartbeats 400000 in
theorem treeWant_yes (w : World) : Calls Tryz.prog 32 #[.bool true] w fun e w' => e = .returned (.tuple #[]) ∧ w' = w := by
  go_enter Tryz.func32, Tryz.ntmps32
  go_wp2_with fail
  go_end0
  exact ⟨rfl, rfl⟩

set_option maxHeartbeats 400000 in
theorem treeWant_no (w : World) : Calls Tryz.prog 32 #[.bool false] w fun e w' => e = fltE ∧ w' = w := by
  go_enter Tryz.func32, Tryz.ntmps32
  go_wp2_with fail
  exact ⟨rfl, rfl, rfl⟩
end Go.Proofs.YtiflfcjocngiiaaGreatDoor
