/- A part. -/
import Derived.Test.YtccnehcpmkgbhaaGreatDoorPart21
namespace Go.Proofs.YtccnehcpmkgbhaaGreatDoor
open Go Go.RowKit
set_option maxRecDepth 100000
set_option maxHeartbeats 1600000
def WtSaid (n : Nat) : Prop := ∀ (t : Tr), tsz t < n → ∀ (p l q : Int), 0 ≤ p → p ≤ 120 → wlk t p l = some q → ∀ (Q : Nat → Prop) (B : Nat) (v r : Value) (L : List UInt8) (w : World), (∀ b, Q b → b < B) → SRep Q w t v → ByRow B w r L → B ≤ w.heap.size →
 Lib.TabBelow Tryz.prog B w "internal/strconv.uint64pow10" .u64 Lib.pow10Tab → L.length + (txT t).length ≤ 1099511627776 → CallsW v r w (WEnd B w (L ++ txT t))
theorem write_step (n : Nat) (IH : WtSaid n) : WtSaid (n + 1) := by
 intro t ht p l q hp0 hp1 hw Q B v r L w hQ hr hrow hB htab hlen
 obtain ⟨h1, h2, ho, hnb, hk⟩ := wlk_open hw
 have hkl := wlkK_len t.kids (p + 1) (l + 1) q (by omega) h1 hk
 have hcall : ∀ i, (hi : i < t.kids.length) → ∀ x W r' L', SRep Q w t.kids[i] x → Wx B w W → ByRow B W r' L' → L'.length + (txT t.kids[i]).length ≤ 1099511627776 → CallsW x r' W (WEnd B W (L' ++ txT t.kids[i])) := fun i hi x W r' L' hx hW hr' hl' => by
  obtain ⟨p', q', g0, g1, g2⟩ := wlkK_get t.kids (p + 1) (l + 1) q (by omega) h1 hk i hi
  exact IH _ (by have := tsz_kid (List.getElem_mem hi); omega) p' _ q' g0 g1 g2 Q B x r' L' W hQ (SRep.carry (fun b hb => hW.below.block b (hQ b hb)) (fun _ h => h) _ _ hx) hr' (Nat.le_trans hB hW.below.size) (htab.on hW.below) hl'
 rcases shapes ho hnb with ⟨m, rfl, hm⟩ | ⟨x, rfl, hx⟩ | ⟨m, rfl, hm⟩ | ⟨ks, rfl, hks⟩ | ⟨ns, ks, rfl, hnl, hri⟩ | ⟨ks, rfl, hks⟩
 · rw [SRep] at hr
   rcases hr with ⟨-, rfl⟩ | ⟨h, -⟩ | ⟨h, -⟩ | ⟨h, -⟩ | ⟨h, -⟩ | ⟨h, -⟩
   · have hx : txT (.mk 1 m ByteArray.empty [] []) = Lib.itoa m := by rw [txT, if_pos rfl]
     rw [hx]
     exact ⟨_, _, _, rfl, fun w => inv1 _ _ w, wr_num B w r L m ⟨by omega, by omega⟩ hrow hB (by omega) htab⟩
   all_goals exact absurd h (by decide)
 · rw [SRep] at hr
   rcases hr with ⟨h, -⟩ | ⟨-, rfl⟩ | ⟨h, -⟩ | ⟨h, -⟩ | ⟨h, -⟩ | ⟨h, -⟩
   · exact absurd h (by decide)
   · have hx : txT (.mk 2 0 x [] []) = [34] ++ x.data.toList ++ [34] := by rw [txT, if_neg (by decide), if_pos rfl]
     have hsz : x.data.toList.length = x.size := by simp
     rw [hx] at hlen ⊢
     simp only [List.length_append, hsz, List.length_cons, List.length_nil] at hlen
     exact ⟨_, _, _, rfl, fun w => inv2 _ _ w, wr_text B w r L x hrow hB (by omega)⟩
   all_goals exact absurd h (by decide)
 · rw [SRep] at hr
   rcases hr with ⟨h, -⟩ | ⟨h, -⟩ | ⟨-, rfl⟩ | ⟨h, -⟩ | ⟨h, -⟩ | ⟨h, -⟩
   · exact absurd h (by decide)
   · exact absurd h (by decide)
   · have hx : txT (.mk 3 m ByteArray.empty [] []) = if (m == 1) = true then [121, 101, 115] else [110, 111] := by
      rw [txT, if_neg (by decide), if_neg (by decide), if_pos rfl]
      rcases hm with rfl | rfl
      · rfl
      · rfl
     rw [hx] at hlen ⊢
     exact ⟨_, _, _, rfl, fun w => inv3 _ _ w, wr_flag B w r L (m == 1) hrow hB hlen⟩
   all_goals exact absurd h (by decide)
 · rw [SRep] at hr
   rcases hr with ⟨h, -⟩ | ⟨h, -⟩ | ⟨h, -⟩ | ⟨-, a, cap, rfl, hkk⟩ | ⟨h, -⟩ | ⟨h, -⟩
   · exact absurd h (by decide)
   · exact absurd h (by decide)
   · exact absurd h (by decide)
   · have hx : txT (.mk 4 0 ByteArray.empty [] ks) = [91] ++ txK false [] 0 ks ++ [93] := by rw [txT, if_neg (by decide), if_neg (by decide), if_neg (by decide), if_neg (by decide), if_neg (by decide)]
     rw [hx] at hlen ⊢
     simp only [List.length_append, List.length_cons, List.length_nil] at hlen
     exact ⟨_, _, _, rfl, fun w => inv4 _ _ w, wr_list B w r L ks [] a cap Q hQ ⟨a, cap, rfl, hkk⟩ (by omega) hcall hrow hB (by omega)⟩
   all_goals exact absurd h (by decide)
 · rw [SRep] at hr
   rcases hr with ⟨h, -⟩ | ⟨h, -⟩ | ⟨h, -⟩ | ⟨h, -⟩ | ⟨-, v3, a, cap, rfl, hst, hkk⟩ | ⟨h, -⟩
   · exact absurd h (by decide)
   · exact absurd h (by decide)
   · exact absurd h (by decide)
   · exact absurd h (by decide)
   · have hx : txT (.mk 5 0 ByteArray.empty ns ks) = [123] ++ txK true ns 0 ks ++ [125] := by rw [txT, if_neg (by decide), if_neg (by decide), if_neg (by decide), if_neg (by decide), if_pos rfl]
     simp only [Tr.kids] at hkl
     rw [hx] at hlen ⊢
     simp only [List.length_append, List.length_cons, List.length_nil] at hlen
     exact ⟨_, _, _, rfl, fun w => inv5 _ _ w, wr_form B w r L ks ns v3 a cap Q hQ hst ⟨a, cap, rfl, hkk⟩ (by omega) hnl hcall hrow hB (by omega)⟩
   · exact absurd h (by decide)
 · rw [SRep] at hr
   rcases hr with ⟨h, -⟩ | ⟨h, -⟩ | ⟨h, -⟩ | ⟨h, -⟩ | ⟨h, -⟩ | ⟨-, a, cap, rfl, hkk⟩
   · exact absurd h (by decide)
   · exact absurd h (by decide)
   · exact absurd h (by decide)
   · exact absurd h (by decide)
   · exact absurd h (by decide)
   · refine ⟨_, _, _, rfl, fun w => inv6 _ _ w, ?_⟩
     cases ks with
     | nil =>
       have hx : txT (.mk 6 0 ByteArray.empty [] []) = [126] := by rw [txT, if_neg (by decide), if_neg (by decide), if_neg (by decide), if_pos rfl]; rfl
       rw [hx] at hlen ⊢
       simp only [List.length_cons, List.length_nil] at hlen
       exact wr_maybe0 B w r L a cap hrow hB hlen
     | cons k0 kr =>
       have hx : txT (.mk 6 0 ByteArray.empty [] (k0 :: kr)) = [63] ++ txT k0 := by rw [txT, if_neg (by decide), if_neg (by decide), if_neg (by decide), if_pos rfl, if_neg (by simp), txM]
       obtain ⟨b, rfl, hqb, hsr⟩ := hkk (by simp)
       obtain ⟨x, hc0, hs0⟩ := hsr.get 0 (by simp)
       have hs1 := hs0
       obtain ⟨T, y, rfl⟩ := hs0.iface
       rw [hx] at hlen ⊢
       simp only [List.length_append, List.length_cons, List.length_nil] at hlen
       exact wr_maybe1 B w r L b (k0 :: kr).length cap T y (txT k0) (by simp) (by omega) (hQ b hqb) hc0 (fun W r' L' h1 h2 h3 => hcall 0 (by simp [Tr.kids]) _ W r' L' hs1 h1 h2 h3) hrow hB (by omega)
theorem write_all : ∀ n, WtSaid n
 | 0 => fun _ h => absurd h (Nat.not_lt_zero _)
 | n + 1 => write_step n (write_all n)
def twS (t : Tr) : ByteArray := if 0 < pT t 1 then ⟨(txT t).toArray⟩ else ⟨#[]⟩
theorem implTreeWrite_any (t : Tr) (P : Nat → Prop) (c : C5) (w : World) (hP : ∀ b, P b → b < w.heap.size) (hrep : Rep P w t c) (hT : Tab w) (hE : Env w) :
 Calls Tryz.prog 8 #[.agg #[c.c0, c.c1, c.c2, c.c3, c.c4]] w fun e w' => e = .returned (.string (twS t)) ∧ Below w.heap.size w w' := by
 obtain ⟨W, hW⟩ : ∃ W, w.alloc (.cells #[c.c0, c.c1, c.c2, c.c3, c.c4] 29) = W := ⟨_, rfl⟩
 have hbx : Below w.heap.size w W := by rw [← hW]; exact (Below.refl _ _).alloc (Nat.le_refl _) _
 have hrepW := Rep.carry (fun b hb => hbx.block b (hP b hb)) (fun _ h => h) _ _ hrep
 have hPW : ∀ b, P b → b < W.heap.size := fun b hb => Nat.lt_of_lt_of_le (hP b hb) hbx.size
 have hTW := hT.of_block (hbx.block 1 hT.lt)
 have hrow : W.rowIs w.heap.size 29 5 (row5 c.c0 c.c1 c.c2 c.c3 c.c4) := by rw [← hW]; exact row5_alloc w _ _ _ _ _ _
 obtain ⟨x0, x1, x2, x3, x4⟩ := cs5 hrow (by omega)
 simp only [row5] at x0 x1 x2 x3 x4
 by_cases hpos : 0 < pT t 1
 · have hw : wlk t 0 0 = some (pT t 1) := by rw [wlk_start, if_neg (by omega)]
   have hS : twS t = ⟨(txT t).toArray⟩ := by unfold twS; rw [if_pos hpos]
   have hsmall := txT_small hw
   have hcall : Calls Tryz.prog 32 #[.agg #[c.c0, c.c1, c.c2, c.c3, c.c4]] W fun e w' => ∃ T y, e = .returned (.tuple #[.iface T y, .int .i64 (pT t 1)]) ∧ Hid (CallsW (.iface T y) (.slice none 0 0) w' (WEnd w'.heap.size w' (txT t))) ∧ Hid (Below w.heap.size w w') :=
    (sortTree_yes P W t c (pT t 1) hrepW hPW hTW hw).mono fun e w' ⟨v, h1, h2, h3⟩ => by
      have hb : Below w.heap.size w w' := hbx.trans (h3.mono hbx.size)
      obtain ⟨T, y, rfl⟩ := h2.iface
      refine ⟨T, y, h1, ?_, hb⟩
      have := write_all (tsz t + 1) t (by omega) 0 0 _ (by omega) (by omega) hw _ w'.heap.size (.iface T y) (.slice none 0 0) [] w' (fun b hb' => by
       rcases hb' with hp | ⟨_, hp⟩
       · exact Nat.lt_of_lt_of_le (hP b hp) hb.size
       · exact hp) h2 (World.ownsRow_nil _ _ _ _) (Nat.le_refl _) (fun w2 hb2 => ((hE.below hb).below hb2).pow) (by simp; omega)
      exact hH (by simpa using this)
   have hd1 : ((pT t 1) == 0) = false := by simp; omega
   have hd2 : decide (pT t 1 = 0) = false := by simp; omega
   have HCALL := hH hcall; have HS := hH hS
   generalize txT t = X at *
   generalize pT t 1 = q at *
   clear hcall hrep hrepW hP hPW hT hTW hE hS hbx hsmall hw hrow
   obtain ⟨c0, c1, c2, c3, c4⟩ := c
   simp only at x0 x1 x2 x3 x4
   go_enter Tryz.func8, Tryz.ntmps8
   go_wp2_with (first
    | (go_at_call 32; refine (uh HCALL).mono ?_; rintro e w2 ⟨T, y, rfl, HCW, HB2⟩)
    | (refine list_write (by rfl) _ _ (by rfl) (.iface T y) (.slice none 0 0) (by rfl) (by rfl) (HCW.out.mono ?_)
       rintro e w3 ⟨a3, n3, cap3, rfl, hn3, hr3, hx3⟩
       refine ⟨_, rfl, ?_⟩
       have hconv := hr3.str
       have HB3 := hH (HB2.out.trans (hx3.below.mono HB2.out.size))
       clear hn3 hr3 hx3 HCW HB2))
   go_ret
   exact ⟨by rw [uh HS]; rfl, uh HB3⟩
 · have hS : twS t = ⟨#[]⟩ := by unfold twS; rw [if_neg hpos]
   have hcall : Calls Tryz.prog 32 #[.agg #[c.c0, c.c1, c.c2, c.c3, c.c4]] W fun e w' => ∃ v, e = .returned (.tuple #[v, .int .i64 0]) ∧ Hid (Below w.heap.size w w') :=
    (sortTree_parts P W t c hrepW hPW hTW).mono fun e w' ⟨v, h1, h2⟩ => by
      refine ⟨v, ?_, hbx.trans (h2.mono hbx.size)⟩
      rw [h1]
      by_cases h : pT t 1 < 0
      · rw [if_pos h]
      · rw [if_neg h, show pT t 1 = 0 from by omega]
   have HCALL := hH hcall; have HS := hH hS
   clear hcall hrep hrepW hP hPW hT hTW hE hS hbx hpos hrow
   obtain ⟨c0, c1, c2, c3, c4⟩ := c
   simp only at x0 x1 x2 x3 x4
   go_enter Tryz.func8, Tryz.ntmps8
   go_wp2_with (go_at_call 32; refine (uh HCALL).mono ?_; rintro e w2 ⟨v, rfl, HB2⟩)
   go_ret
   exact ⟨by rw [uh HS]; rfl, HB2.out⟩

def fx (ns kss : List ByteArray) : Nat → List UInt8
 | 0 => []
 | k + 1 => fx ns kss k ++ (kAhead ns k ++ (kss.getD k ByteArray.empty).data.toList)
theorem fx_le (ns kss : List ByteArray) (k m : Nat) (h : k ≤ m) : (fx ns kss k).length ≤ (fx ns kss m).length := by
 induction m with
 | zero => have : k = 0 := by omega
           subst this; exact Nat.le_refl _
 | succ m ih =>
   by_cases e : k = m + 1
   · subst e; exact Nat.le_refl _
   · have := ih (by omega)
     rw [fx, List.length_append]; omega
theorem writeBetween_any (base : Nat) (v : Value) (l : List UInt8) (k : Nat) (w : World) (h : ByRow base w v l) (hb : base ≤ w.heap.size) (hl : l.length ≤ 1099511627776) :
 Calls Tryz.prog 95 #[v, .int .i64 k] w fun e w' => ∃ v', e = .returned v' ∧ ByRow base w' v' (l ++ (if 0 < k then [44] else [])) ∧ Below base w w' := by
 obtain ⟨a, cap, hv⟩ := h.slice
 subst hv
 obtain ⟨i0, hi, hz0, hz1, hz2⟩ := info_parts infoU8
 have HH := hH h; have HII := hH hi; have HZ0 := hH hz0; have HZ1 := hH hz1; have HZ2 := hH hz2
 clear h hi hz0 hz1 hz2
 by_cases hk : 0 < k
 · have hd : ((k : Int) == 0) = false := by simp; omega
   have HK := hH hk; clear hk
   go_enter Tryz.func95, Tryz.ntmps95
   go_wp2_with (at_builtin; refine append_row _ rfl _ _ 22 rfl base 5 i0 (.int .u8 0) 1 1 Tryz.underlying22 (uh HII) (uh HZ0) (uh HZ1) (uh HZ2) rfl (by decide) (.slice a l.length cap) l.length (bc l) rfl ((uh HH).alloc _) ⟨w.heap.size, 0, none⟩ 1 1 [.int .u8 44] rfl rfl (cell_one _ _ _) (fun u hu => by simp at hu; subst hu; rfl) (by decide) (by unfold maxLen; omega) (by omega) (by simp; omega) ?_; intro v' w4 hown' hgrow hv')
   have hr : ByRow base w4 v' (l ++ [44]) := by
    show w4.ownsRow base 5 1 v' (l ++ [44]).length (bc (l ++ [44]))
    rw [bc_append, List.length_append]; exact hown'
   have hbl : Below base w w4 := ((Below.refl base w).alloc hb _).trans (ByRow.below (l := l) ((uh HH).alloc _) hgrow (by simp; omega))
   obtain ⟨a', cap', hv''⟩ := hr.slice
   subst hv''
   have HR := hH hr; have HBL := hH hbl
   clear hr hbl hgrow hv' hown'
   go_wp2_with fail
   go_ret
   exact ⟨_, rfl, by first | exact uh HR | (rw [if_pos (uh HK)]; exact uh HR), uh HBL⟩
 · have hd : ((k : Int) == 0) = true := by simp; omega
   have HK := hH hk; clear hk
   go_enter Tryz.func95, Tryz.ntmps95
   go_wp2_with fail
   go_ret
   exact ⟨_, rfl, by first | exact uh HH | (rw [List.append_nil]; exact uh HH) | (rw [if_neg (uh HK), List.append_nil]; exact uh HH), Below.refl _ _⟩
theorem step_append_run {P : Program} (w w2 : World) {ops : Array Oper} {o : Oper} {a : Act} {K : Act → World → Prop} {Q : Exit → Act → World → Prop} {E : Prop} (hgd : o.guard = none) (s x : Operand) (t u : TypeId)
 (ho : o.op = .call { callee := .builtin .append, args := #[s, x], argTypes := #[t, u] }) (v1 v2 v' : Value) (hs : a.eval s = v1) (hx : a.eval x = v2)
 (hr : ∀ ty, (Builtin.append_ #[t, u] ty #[v1, v2]).run P w = .ok v' w2) (h : K (a.put o.dst v') w2) :
 if Region.wanted o (yielded ops a.tmps) = true then Oper.wp P o a w K Q else E := by
 have hw : Region.wanted o (yielded ops a.tmps) = true := by simp [Region.wanted, hgd]
 rw [if_pos hw]
 unfold Oper.wp execOp
 simp only [ho, resolve, invoke, builtin, Sem.run_bind, Sem.run_pure, Result.andThen_ok, List.map_toArray, List.map_cons, List.map_nil, hs, hx, hr]
 exact h
theorem fieldTexts_any (ns kss : List ByteArray) (P : Nat → Prop) (vN vK : Value) (w : World) (hP : ∀ b, P b → b < w.heap.size) (hN : StrsAt P w vN ns) (hK : StrsAt P w vK kss) (hle : kss.length ≤ ns.length) (hlen : (fx ns kss kss.length).length ≤ 1099511627776) :
 Calls Tryz.prog 69 #[vN, vK] w fun e w' => e = .returned (.string ⟨(fx ns kss kss.length).toArray⟩) ∧ Below w.heap.size w w' := by
 obtain ⟨aN, capN, rfl, hnl, hnc⟩ := hN
 obtain ⟨aK, capK, rfl, hkl, hkc⟩ := hK
 obtain ⟨i0, hi, hz0, hz1, hz2⟩ := info_parts infoU8
 have HNC := hH hnc; have HKC := hH hkc; have HP := hH hP; have HLEN := hH hlen
 have HII := hH hi; have HZ0 := hH hz0; have HZ1 := hH hz1; have HZ2 := hH hz2
 clear hnc hkc hP hlen hi hz0 hz1 hz2
 go_enter Tryz.func69, Tryz.ntmps69
 go_wp2_with fail
 go_loopw [5, 10] (fun f i wr => ∃ (k : Nat) (l : List UInt8) (a : Option Addr) (cap : Nat), k ≤ kss.length ∧ i = .int .i64 k ∧ f = .slice a l.length cap ∧ l.length ≤ 1099511627776 ∧ Hid (ByRow w.heap.size wr (.slice a l.length cap) l) ∧ Hid (l = fx ns kss k) ∧ Hid (Below w.heap.size w wr)) (fun _ i _ => kss.length - (intOf i).toNat)
 case atStart => exact ⟨0, [], none, 0, Nat.zero_le _, rfl, rfl, by simp, World.ownsRow_nil _ _ _ _, rfl, Below.refl _ _⟩
 case round =>
  obtain ⟨k, l, a, cap, hk, rfl, rfl, hl, HR, HL, HB⟩ := hrel
  by_cases hlt : k < kss.length
  · obtain ⟨kb, ko, rfl, hpk, hck, hsk⟩ := uh HKC k hlt
    obtain ⟨nb, no, rfl, hpn, hcn, hsn⟩ := uh HNC k (by omega)
    have hsw := HB.out.size
    have hkn : k < ns.length := by omega
    have hkb := uh HP kb hpk
    have hnb := uh HP nb hpn
    have ek : wr.cell? ⟨kb, ko + k, none⟩ = some (.string kss[k]) := by rw [HB.out.cell hkb]; exact hck
    have en : wr.cell? ⟨nb, no + k, none⟩ = some (.string (ns[k]'(by omega))) := by rw [HB.out.cell hnb]; exact hcn
    have hstep : fx ns kss (k + 1) = l ++ ((if 0 < k then [44] else [] : List UInt8) ++ ((ns[k]'(by omega)).data.toList ++ [58]) ++ kss[k].data.toList) := by
     rw [fx, ← HL.out]
     simp [kAhead, List.getD, hlt, show k < ns.length by omega]
    have hlen2 : (fx ns kss (k + 1)).length ≤ 1099511627776 := Nat.le_trans (fx_le ns kss (k + 1) kss.length (by omega)) (uh HLEN)
    generalize (ns[k]'(by omega)) = nm at *
    generalize kss[k] = kt at *
    generalize hsep : (if 0 < k then [44] else [] : List UInt8) = sep at *
    have hl3 : l.length + sep.length + nm.size + 1 + kt.size ≤ 1099511627776 := by
     rw [hstep] at hlen2
     simp only [List.length_append, List.length_cons, List.length_nil] at hlen2
     have e1 : nm.data.toList.length = nm.size := rfl
     have e2 : kt.data.toList.length = kt.size := rfl
     omega
    have hcall : Calls Tryz.prog 95 #[.slice a l.length cap, .int .i64 k] wr.drew fun e w1 => ∃ a1 n1 cap1, e = .returned (.slice a1 n1 cap1) ∧ w1.cell? ⟨nb, no + k, none⟩ = some (.string nm) ∧
     ∃ a2 n2 cap2 w2, (∀ ty, (Builtin.append_ #[22, 9] ty #[.slice a1 n1 cap1, .string nm]).run Tryz.prog w1 = .ok (.slice a2 n2 cap2) w2) ∧ w2.cell? ⟨nb, no + k, none⟩ = some (.string nm) ∧ Hid (n2 = (l ++ sep ++ nm.data.toList).length) ∧ Hid (ByRow w.heap.size w2 (.slice a2 n2 cap2) (l ++ sep ++ nm.data.toList)) ∧ Hid (Below w.heap.size w w2) := by
     refine (writeBetween_any w.heap.size _ l k wr.drew HR.out hsw hl).mono ?_
     rintro e w1 ⟨v1, rfl, hr1, hb1⟩
     rw [hsep] at hr1
     obtain ⟨a1, cap1, hv1⟩ := hr1.slice
     subst hv1
     have hb1' : Below w.heap.size wr w1 := (Below.refl _ wr).drew.trans hb1
     have hs1 := hb1'.size
     obtain ⟨v2, w2, hrun, hown2, hg2⟩ : ∃ v2 w2, (∀ ty, (Builtin.append_ #[22, 9] ty #[.slice a1 (l ++ sep).length cap1, .string nm]).run Tryz.prog w1 = .ok v2 w2) ∧ w2.ownsRow w.heap.size 5 1 v2 ((l ++ sep).length + nm.size) (bc (l ++ sep) ++ Lib.strCells nm) ∧ w1.grownBy w2 (Value.slice a1 (l ++ sep).length cap1).ownBlock := by
      obtain ⟨v2, w2, g1, g2, g3, -⟩ := Lib.run_append_own_string (P := Tryz.prog) w1 w.heap.size 22 9 0 5 i0 Tryz.underlying22 Tryz.underlying9 (uh HII) (uh HZ0) (uh HZ1) (uh HZ2) _ _ _ hr1 nm (by unfold maxLen; rw [List.length_append]; omega) (by rw [List.length_append]; omega) (by omega)
      exact ⟨v2, w2, fun ty => g1, g2, g3⟩
     have hr2 : ByRow w.heap.size w2 v2 (l ++ sep ++ nm.data.toList) := by
      show w2.ownsRow w.heap.size 5 1 v2 (l ++ sep ++ nm.data.toList).length (bc (l ++ sep ++ nm.data.toList))
      rw [bc_append, List.length_append]; exact hown2
     have hb2 : Below w.heap.size w1 w2 := hr1.below hg2 (by omega)
     obtain ⟨a2, cap2, hv2⟩ := hr2.slice
     subst hv2
     exact ⟨a1, _, cap1, rfl, by rw [hb1'.cell hnb]; exact en, a2, _, cap2, w2, hrun, by rw [hb2.cell hnb, hb1'.cell hnb]; exact en, rfl, hr2, HB.out.trans (hb1'.trans hb2)⟩
    have HCALL := hH hcall; have HSTEP := hH hstep; have HLEN2 := hH hlen2
    clear hcall hstep hlen2 hpk hpn hck hcn
    go_wp2_with fail
    go_region_held3 (fun W => W.cell? ⟨nb, no + k, none⟩ = some (.string nm)) (first | exact f1 | exact f2 | go_keep)
     (first | (go_at_call 95; refine (uh HCALL).mono ?_; rintro e w1 ⟨a1, n1, cap1, rfl, f1, a2, n2, cap2, w2, hrun, f2, HN2, HR2, HB2⟩) | (refine step_append_run _ _ (by rfl) _ _ _ _ (by rfl) _ _ _ (by rfl) (by rfl) hrun ?_))
    clear hrun f1 f2
    have hn2 : n2 + 1 + kt.size ≤ 1099511627776 := by
     have e : n2 = l.length + sep.length + nm.size := by rw [HN2.out]; simp only [List.length_append]; rfl
     omega
    have hs2 := HB2.out.size
    have hown2 : w2.ownsRow w.heap.size 5 1 (.slice a2 n2 cap2) n2 (bc (l ++ sep ++ nm.data.toList)) := by
     have := HR2.out
     unfold ByRow at this
     rw [← HN2.out] at this
     exact this
    have HOWN2 := hH hown2; clear hown2
    go_wp2_with (first
     | (at_builtin
        refine append_row _ rfl _ _ 22 rfl w.heap.size 5 i0 (.int .u8 0) 1 1 Tryz.underlying22 (uh HII) (uh HZ0) (uh HZ1) (uh HZ2) rfl (by decide) (.slice a2 n2 cap2) n2 (bc (l ++ sep ++ nm.data.toList)) rfl ((uh HOWN2).alloc _) ⟨w2.heap.size, 0, none⟩ 1 1 [.int .u8 58] rfl rfl (cell_one _ _ _) (fun u hu => by simp at hu; subst hu; rfl) (by decide) (by unfold maxLen; omega) (by omega) (by simp; omega) ?_
        intro v3 w3 hown3 hgrow3 hv3
        have hr3 : ByRow w.heap.size w3 v3 (l ++ sep ++ nm.data.toList ++ [58]) := by
         show w3.ownsRow w.heap.size 5 1 v3 (l ++ sep ++ nm.data.toList ++ [58]).length (bc (l ++ sep ++ nm.data.toList ++ [58]))
         rw [bc_append, List.length_append, ← HN2.out]; exact hown3
        have hb3 : Below w.heap.size w2 w3 := ((Below.refl w.heap.size w2).alloc hs2 _).trans ((Below.refl w.heap.size _).grown hgrow3 (by simp; omega) (fun k e => ((uh HOWN2).lt k e).1))
        have hs3 := hb3.size
        obtain ⟨a3, cap3, hv3'⟩ := hr3.slice
        obtain ⟨n3, hn3⟩ : ∃ n3, n3 = (l ++ sep ++ nm.data.toList ++ [58]).length := ⟨_, rfl⟩
        rw [← hn3] at hv3'
        subst hv3'
        have hn3' : n3 + kt.size ≤ 1099511627776 := by
         have e : n3 = l.length + sep.length + nm.size + 1 := by rw [hn3]; simp only [List.length_append, List.length_cons, List.length_nil]; rfl
         omega
        have hown3' : w3.ownsRow w.heap.size 5 1 (.slice a3 n3 cap3) n3 (bc (l ++ sep ++ nm.data.toList ++ [58])) := by
         have := hr3
         unfold ByRow at this
         rw [← hn3] at this
         exact this
        have HOWN3 := hH hown3'; have HB3 := hH hb3; have HN3 := hH hn3
        clear hown3 hown3' hgrow3 hv3 hr3 hb3 hn3)
     | (at_builtin
        refine Lib.wpList_append_own_string _ rfl _ _ 22 9 rfl w.heap.size 5 i0 Tryz.underlying22 Tryz.underlying9 (uh HII) (uh HZ0) (uh HZ1) (uh HZ2) (.slice a3 n3 cap3) n3 (bc (l ++ sep ++ nm.data.toList ++ [58])) rfl (uh HOWN3) kt rfl (by unfold maxLen; omega) (by omega) (by omega) ?_
        intro v4 w4 hown4 hgrow4 hv4))
    have hr4 : ByRow w.heap.size w4 v4 (l ++ sep ++ nm.data.toList ++ [58] ++ kt.data.toList) := by
     show w4.ownsRow w.heap.size 5 1 v4 (l ++ sep ++ nm.data.toList ++ [58] ++ kt.data.toList).length (bc (l ++ sep ++ nm.data.toList ++ [58] ++ kt.data.toList))
     rw [bc_append, List.length_append, ← uh HN3]; exact hown4
    have hb4 : Below w.heap.size w3 w4 := (Below.refl w.heap.size w3).grown hgrow4 (by omega) (fun k e => ((uh HOWN3).lt k e).1)
    have hfin : l ++ sep ++ nm.data.toList ++ [58] ++ kt.data.toList = fx ns kss (k + 1) := by rw [uh HSTEP]; simp
    rw [hfin] at hr4
    obtain ⟨a4, cap4, hv4'⟩ := hr4.slice
    subst hv4'
    have HR4 := hH hr4; have HB4 := hH (HB2.out.trans ((uh HB3).trans hb4))
    clear hown4 hgrow4 hv4 hr4 hb4 hfin
    go_wp2_with fail
    go_roundw
    case rel => exact ⟨k + 1, fx ns kss (k + 1), a4, cap4, by omega, by go_num, rfl, uh HLEN2, uh HR4, rfl, uh HB4⟩
    case measure => simp [intOf]; omega
  · obtain rfl : k = kss.length := by omega
    have hconv := ByRow.str HR.out
    go_wp2_with fail
    go_ret
    exact ⟨by rw [HL.out]; rfl, HB.out⟩

def kTx (t : Kd) : ByteArray := ⟨(kxT t).toArray⟩
theorem fx_kids (ns : List ByteArray) (ks : List Kd) (k : Nat) (hk : k ≤ ks.length) : fx ns (ks.map kTx) k = kxTo ns ks k := by
 induction k with
 | zero => simp [fx, kxTo, kxK]
 | succ k ih =>
   rw [fx, kxTo_succ ns ks k (by omega), ih (by omega)]
   congr 2
   simp [List.getD, show k < ks.length by omega, kTx]
theorem strs_of_row {base : Nat} {w : World} {v : Value} {ss : List ByteArray} (h : w.ownsRow base 9 1 v ss.length (ss.map Value.string)) (hs : ∀ x, x ∈ ss → x.size ≤ 9223372036854775807) : StrsAt (fun b => base ≤ b ∧ b < w.heap.size) w v ss := by
 rcases h.2 with ⟨hv, hn0⟩ | ⟨g, cap, cur, hv, hgb, hh, hle, hm2, hsz, htk⟩
 · exact ⟨none, 0, by rw [hv, hn0], by omega, fun i hi => by omega⟩
 · refine ⟨some ⟨g, 0, none⟩, cap, hv, by unfold maxLen at hm2; omega, fun i hi => ⟨g, 0, rfl, ⟨hgb, (Array.getElem?_eq_some_iff.1 hh).1⟩, ?_, hs _ (List.getElem_mem hi)⟩⟩
   have h1 : (ss.map Value.string)[i]? = some (.string ss[i]) := by simp [hi]
   rw [← htk, List.getElem?_take_of_lt (by omega)] at h1
   simp only [Nat.zero_add, World.cell?, hh]
   simpa using h1
theorem ret_str3 {a b : ByteArray} (h : a = b) : Ending.returned (.string a) = .returned (.string b) := by rw [h]
theorem kindText_any (t : Kd) (P : Nat → Prop) (c : C3) (vK : Value) (w : World) (hP : ∀ b, P b → b < w.heap.size) (hrep : KRep P w t c) (hK : StrsAt P w vK (t.kids.map kTx)) (hT : KTab w) (hsh : shB t = true) (hlen : (kxT t).length ≤ 1099511627776) :
 Calls Tryz.prog 37 #[.agg #[c.c0, c.c1, c.c2], vK] w fun e w' => e = .returned (.string (kTx t)) ∧ Below w.heap.size w w' := by
 obtain ⟨c0, c1, c2⟩ := c
 obtain ⟨e0, -, hns, a, cap, e2, -, -⟩ := hrep.open
 simp only at e0 e2 hns
 have HNS := hH hns; have HKK := hH hK
 obtain ⟨a3, cap3, e1, -, -⟩ := hns
 obtain ⟨aK, capK, eK, hkl, hkc⟩ := hK
 subst e0 e1 e2 eK
 have hbx : ∀ o, Below w.heap.size w (w.alloc o) := fun o => (Below.refl _ _).alloc (Nat.le_refl _) o
 have hx := kxT_eq t
 have HBX := hH hbx
 have hT' : ∀ o, KTab (w.alloc o) := fun o => hT.below (hbx o)
 rcases shB_cases hsh with ⟨hs, -, -⟩ | ⟨hs, hk1, -⟩ | ⟨hs, hk1, -⟩
 · have b4 : (t.sort == 4) = false := by simp; omega
   have b6 : (t.sort == 6) = false := by simp; omega
   have b5 : (t.sort == 5) = false := by simp; omega
   rcases hs with hs | hs | hs
   · have t1 : ∀ o, (w.alloc o).cell? ⟨0, 1, none⟩ = some (.string ⟨#[110, 117, 109]⟩) := fun o => (hT' o).1
     rw [if_pos hs] at hx
     have HX := hH hx
     rw [hs] at b4 b6 b5 ⊢
     clear hrep hkc hbx hx hT hT' hsh hlen HNS HKK hs hP b4 b5 b6
     go_enter Tryz.func37, Tryz.ntmps37
     go_wp2_with fail
     go_ret
     exact ⟨ret_str3 (by rw [kTx, uh HX]), uh HBX _⟩
   · have t2 : ∀ o, (w.alloc o).cell? ⟨0, 2, none⟩ = some (.string ⟨#[116, 101, 120, 116]⟩) := fun o => (hT' o).2.1
     rw [if_neg (by omega), if_pos hs] at hx
     have HX := hH hx
     rw [hs] at b4 b6 b5 ⊢
     clear hrep hkc hbx hx hT hT' hsh hlen HNS HKK hs hP b4 b5 b6
     go_enter Tryz.func37, Tryz.ntmps37
     go_wp2_with fail
     go_ret
     exact ⟨ret_str3 (by rw [kTx, uh HX]), uh HBX _⟩
   · have t3 : ∀ o, (w.alloc o).cell? ⟨0, 3, none⟩ = some (.string ⟨#[102, 108, 97, 103]⟩) := fun o => (hT' o).2.2
     rw [if_neg (by omega), if_neg (by omega), if_pos hs] at hx
     have HX := hH hx
     rw [hs] at b4 b6 b5 ⊢
     clear hrep hkc hbx hx hT hT' hsh hlen HNS HKK hs hP b4 b5 b6
     go_enter Tryz.func37, Tryz.ntmps37
     go_wp2_with fail
     go_ret
     exact ⟨ret_str3 (by rw [kTx, uh HX]), uh HBX _⟩
 · have hp : 0 < t.kids.length := by omega
   obtain ⟨b, o, rfl, hpb, hc0, hsz⟩ := hkc 0 (by simpa using hp)
   have hget : (t.kids.map kTx)[0]'(by simpa using hp) = kTx t.kids[0] := by simp
   rw [hget, Nat.add_zero] at hc0
   have f0 : ∀ ob, (w.alloc ob).cell? ⟨b, o, none⟩ = some (.string (kTx t.kids[0])) := fun ob => by rw [(hbx ob).cell (hP b hpb)]; exact hc0
   have hm : (t.kids.map kTx).length = 1 := by simp [hk1]
   rw [if_neg (by omega), if_neg (by omega), if_neg (by omega), kxM_get hp] at hx
   have hsm : (kTx t.kids[0]).size + 2 ≤ 1099511627778 := by
    have e : (kTx t.kids[0]).size = (kxT t.kids[0]).length := by simp [kTx, ByteArray.size]
    rw [hx] at hlen
    split at hlen
    · simp at hlen; omega
    · split at hlen
      · simp at hlen; omega
      · omega
   have hkx : kxT t.kids[0] = (kTx t.kids[0]).data.toList := by simp [kTx]
   rw [hkx] at hx
   generalize kTx t.kids[0] = tk at *
   rw [hm]
   have HX := hH hx
   clear hrep hkc hbx hx hT hT' hsh hlen HNS HKK hP hc0 hget hm hkl hkx hk1 hp hsz
   rcases hs with hs | hs
   · have HS := hH hs
     rw [hs]
     clear hs
     go_enter Tryz.func37, Tryz.ntmps37
     go_wp2_with fail
     go_ret
     refine ⟨ret_str3 ?_, uh HBX _⟩
     rw [kTx, uh HX, if_pos (uh HS)]; apply ByteArray.ext; simp
   · have HS := hH hs
     rw [hs]
     clear hs
     go_enter Tryz.func37, Tryz.ntmps37
     go_wp2_with fail
     go_ret
     refine ⟨ret_str3 ?_, uh HBX _⟩
     rw [kTx, uh HX, if_neg (by have := uh HS; omega), if_pos (uh HS)]; apply ByteArray.ext; simp
 · rw [if_neg (by omega), if_neg (by omega), if_neg (by omega), if_neg (by omega), if_neg (by omega)] at hx
   have hml : (t.kids.map kTx).length = t.kids.length := List.length_map _
   have hfx : fx t.names (t.kids.map kTx) (t.kids.map kTx).length = kxK t.names 0 t.kids := by
    rw [hml, fx_kids _ _ _ (Nat.le_refl _), kxTo_all]
   have hfl : (kxK t.names 0 t.kids).length + 2 ≤ 1099511627776 := by rw [hx] at hlen; simp at hlen; omega
   have hcall : ∀ ob, Calls Tryz.prog 69 #[.slice a3 t.names.length cap3, .slice aK t.kids.length capK] (w.alloc ob) fun e w' => e = .returned (.string ⟨(kxK t.names 0 t.kids).toArray⟩) ∧ Below (w.alloc ob).heap.size (w.alloc ob) w' := fun ob => by
    have := fieldTexts_any t.names (t.kids.map kTx) P _ _ (w.alloc ob) (fun b hb => Nat.lt_of_lt_of_le (hP b hb) (hbx ob).size) ((uh HNS).carry (fun b hb => (hbx ob).block b (hP b hb)) (fun _ h => h)) ((uh HKK).carry (fun b hb => (hbx ob).block b (hP b hb)) (fun _ h => h)) (by omega) (by rw [hfx]; omega)
    rw [hfx, hml] at this
    exact this
   rw [hml]
   generalize kxK t.names 0 t.kids = tx at *
   have HCALL := hH hcall; have HX := hH hx
   have htz : (⟨tx.toArray⟩ : ByteArray).size = tx.length := by simp [ByteArray.size]
   rw [hs]
   clear hrep hkc hbx hx hT hT' hsh hlen HNS HKK hP hfx hcall hml hs hk1
   go_enter Tryz.func37, Tryz.ntmps37
   go_wp2_with (go_at_call 69; refine (uh HCALL _).mono ?_; rintro e w1 ⟨rfl, hb1⟩)
   go_ret
   refine ⟨ret_str3 ?_, (uh HBX _).trans (hb1.mono (uh HBX _).size)⟩
   rw [kTx, uh HX]; apply ByteArray.ext; simp

def kWr (t : Kd) : ByteArray := if 0 < qT t 1 then ⟨(kxT t).toArray⟩ else ByteArray.empty

theorem infoStr2 : (Tryz.prog.info? 9).map (fun i => (i.zero, i.size, i.bytes)) = some (some (.string ByteArray.empty), 1, 16) := by kernel_rfl
theorem kids_any (c0 c1 : Value) (a : Option Addr) (len cap : Nat) (w : World) :
 Calls Tryz.prog 145 #[.agg #[c0, c1, .slice a len cap]] w fun e w' => e = .returned (.slice a len cap) ∧ w' = w.alloc (.cells #[c0, c1, .slice a len cap] 26) :=
 (callsIn_wide (n := 1)).1 (kids_in Fence.wide _ trivial rfl c0 c1 a len cap w)
def GSaid (n : Nat) : Prop := ∀ (t : Kd), ksz t < n → ∀ (P : Nat → Prop) (c : C3) (w : World), (∀ b, P b → b < w.heap.size) → KRep P w t c → KTab w → okD t = true → (kxT t).length ≤ 1099511627776 → ksz t ≤ 1000000 →
    Calls Tryz.prog 36 #[.agg #[c.c0, c.c1, c.c2], .func (.func 37) #[] #[]] w fun e w' => e = .returned (.string (kTx t)) ∧ Below w.heap.size w w'
theorem klsz_len (l : List Kd) : l.length ≤ klsz l := by
 induction l with
 | nil => simp
 | cons a r ih =>
   rw [klsz, List.length_cons]
   have : 1 ≤ ksz a := by obtain ⟨s, ns, ks⟩ := a; rw [ksz]; omega
   omega
theorem gather_step (n : Nat) (IH : GSaid n) : GSaid (n + 1) := by
 intro t hn P c w hP hrep hT ho hlen hsz
 have hoe := ho
 rw [okD_eq, Bool.and_eq_true] at hoe
 have hkl : ∀ i (hi : i < t.kids.length), (kxT t.kids[i]).length ≤ 1099511627776 := fun i hi => by
  have h1 := kxT_len t.kids[i] (okDs_get hoe.2 i hi)
  have h2 := ksz_kid (List.getElem_mem hi)
  omega
 have hks1 : t.kids.length ≤ 1000000 := by
  have := klsz_len t.kids
  have e : ksz t = 1 + klsz t.kids := by obtain ⟨s, ns, ks⟩ := t; rw [ksz]; rfl
  omega
 obtain ⟨c0, c1, c2⟩ := c
 obtain ⟨e0, -, hns, a, cap, e2, -, hks⟩ := hrep.open
 simp only at e0 e2 hns
 obtain ⟨a3, cap3, e1, -, -⟩ := hns
 subst e0 e1 e2
 obtain ⟨i0, hi, hz0, hz1, hz2⟩ := info_parts infoStr2
 have hm : ∀ w, (method 310 26 (.agg #[.int .i64 t.sort, .slice a3 t.names.length cap3, .slice a t.kids.length cap]) "loop.example/teagle/impl.kids").run Tryz.prog w = .ok (145, .agg #[.int .i64 t.sort, .slice a3 t.names.length cap3, .slice a t.kids.length cap]) w := fun _ => by kernel_rfl
 have hkt := fun (vK : Value) (W : World) (hW : Below w.heap.size w W) (hK : StrsAt (fun b => w.heap.size ≤ b ∧ b < W.heap.size) W vK (t.kids.map kTx)) =>
  kindText_any t (fun b => P b ∨ (w.heap.size ≤ b ∧ b < W.heap.size)) ⟨.int .i64 t.sort, .slice a3 t.names.length cap3, .slice a t.kids.length cap⟩ vK W
   (fun b hb => hb.elim (fun h => Nat.lt_of_lt_of_le (hP b h) hW.size) (fun h => h.2)) (KRep.carry (fun b hb => hW.block b (hP b hb)) (fun b hb => Or.inl hb) _ _ hrep) (hK.carry (fun _ _ => rfl) (fun b hb => Or.inr hb)) (hT.below hW) hoe.1 hlen
 have HKT := hH hkt; have HP := hH hP; have HI := hH IH; have HK := hH hks; have HT := hH hT; have HOK := hH hoe.2; have HKL := hH hkl
 have HII := hH hi; have HZ0 := hH hz0; have HZ1 := hH hz1; have HZ2 := hH hz2
 clear hkt hP IH hks hT hoe hkl hi hz0 hz1 hz2 hrep hlen ho
 go_enter Tryz.func36, Tryz.ntmps36
 go_wp2_with (go_at_call 145; refine (kids_any _ _ _ _ _ _).mono ?_; rintro e w' ⟨rfl, rfl⟩)
 clear hm
 have hbl : Below w.heap.size w ((w.alloc (.cells #[.int .i64 t.sort, .slice a3 t.names.length cap3, .slice a t.kids.length cap] 26)).alloc (.cells #[.int .i64 t.sort, .slice a3 t.names.length cap3, .slice a t.kids.length cap] 26)) := ((Below.refl _ _).alloc (Nat.le_refl _) _).alloc (by simp) _
 have hrow : ((w.alloc (.cells #[.int .i64 t.sort, .slice a3 t.names.length cap3, .slice a t.kids.length cap] 26)).alloc (.cells #[.int .i64 t.sort, .slice a3 t.names.length cap3, .slice a t.kids.length cap] 26)).rowIs w.heap.size 26 3 (row3 (.int .i64 t.sort) (.slice a3 t.names.length cap3) (.slice a t.kids.length cap)) := (row3_alloc w _ _ _ _).alloc _
 have HBL := hH hbl; have HROW := hH hrow
 clear hbl hrow
 generalize hkk : t.kids = ks at *
 have HKS := hH hkk; clear hkk
 go_loopw [5, 12] (fun s i wr => ∃ (k : Nat) (a' : Option Addr) (cap' : Nat), k ≤ ks.length ∧ i = .int .i64 k ∧ s = .slice a' k cap' ∧ Hid (wr.ownsRow (w.heap.size + 1) 9 1 (.slice a' k cap') k ((ks.take k).map (fun x => Value.string (kTx x)))) ∧ Hid (wr.rowIs w.heap.size 26 3 (row3 (.int .i64 t.sort) (.slice a3 t.names.length cap3) (.slice a ks.length cap))) ∧ Hid (Below w.heap.size w wr)) (fun _ i _ => ks.length - (intOf i).toNat)
 case atStart => exact ⟨0, none, 0, Nat.zero_le _, rfl, rfl, World.ownsRow_nil _ _ _ _, uh HROW, uh HBL⟩
 case round =>
  obtain ⟨k, a', cap', hk, rfl, rfl, HOWN, HR, HB⟩ := hrel
  have hsw := HR.out.lt
  by_cases hlt : k < ks.length
  · obtain ⟨b, o, c, rfl, hpb, hcell, hrp⟩ := uh HK k hlt
    have hcell' := hcell.carry (HB.out.block b (uh HP b hpb))
    obtain ⟨d0, d1, d2⟩ := c
    have hrw : KRep P wr ks[k] ⟨d0, d1, d2⟩ := KRep.carry (fun b hb => HB.out.block b (uh HP b hb)) (fun _ h => h) _ _ hrp
    obtain ⟨g0, -, ⟨a5, cap5, g1, -⟩, a6, cap6, g2, -⟩ := hrp.open
    simp only at g0 g1 g2
    subst g0 g1 g2
    obtain ⟨f0, f1, f2⟩ := hcell'
    simp only at f0 f1 f2
    have hmem : ks[k] ∈ t.kids := by rw [uh HKS]; exact List.getElem_mem hlt
    have hsm : ksz ks[k] < n := by have := ksz_kid hmem; omega
    have hsm' : ksz ks[k] < ksz t := ksz_kid hmem
    have hba : ∀ ob, Below wr.heap.size wr (wr.alloc ob) := fun ob => (Below.refl _ _).alloc (Nat.le_refl _) ob
    have hcall : ∀ ob, Calls Tryz.prog 36 #[.agg #[.int .i64 ks[k].sort, .slice a5 ks[k].names.length cap5, .slice a6 ks[k].kids.length cap6], .func (.func 37) #[] #[]] (wr.alloc ob) fun e w' => e = .returned (.string (kTx ks[k])) ∧ Below wr.heap.size wr w' := fun ob =>
     (uh HI ks[k] hsm P ⟨_, _, _⟩ (wr.alloc ob) (fun b hb => by have := uh HP b hb; simp; omega) (KRep.carry (fun b hb => (hba ob).block b (by have := uh HP b hb; omega)) (fun _ h => h) _ _ hrw) (((uh HT).below HB.out).below (hba ob)) (okDs_get (uh HOK) k hlt) (uh HKL k hlt) (by omega)).mono
       fun e w' ⟨h1, h2⟩ => ⟨h1, (hba ob).trans (h2.mono (hba ob).size)⟩
    have htk : (ks.take (k + 1)).map (fun x => Value.string (kTx x)) = (ks.take k).map (fun x => Value.string (kTx x)) ++ [.string (kTx ks[k])] := by
     rw [List.take_succ_eq_append_getElem hlt, List.map_append]; rfl
    generalize kTx ks[k] = tk at *
    have HCALL := hH hcall; have HTK := hH htk
    clear hcall htk hcell hrp hrw hmem hsm hsm' hba hpb
    go_wp2_with fail
    refine (uh HCALL _).mono ?_
    rintro e w2 ⟨rfl, hb2⟩
    have hs2 := hb2.size
    have hown2 : w2.ownsRow (w.heap.size + 1) 9 1 (.slice a' k cap') k ((ks.take k).map (fun x => Value.string (kTx x))) := HOWN.out.kept (But.of_below (B := w.heap.size) hb2) (Or.inr (fun e => by have := (HOWN.out.lt _ e).1; omega))
    have hr2 := HR.out.of_block (hb2.block _ hsw)
    have HOWN2 := hH hown2; have HR2 := hH hr2; have HB2 := hH (HB.out.trans (hb2.mono HB.out.size))
    clear hown2 hr2 hb2 f0 f1 f2 HCALL
    go_wp2_with (at_builtin; refine append_row _ rfl _ _ 23 rfl (w.heap.size + 1) 9 i0 (.string ByteArray.empty) 1 16 Tryz.underlying23 (uh HII) (uh HZ0) (uh HZ1) (uh HZ2) rfl (by decide) (.slice a' k cap') k ((ks.take k).map (fun x => Value.string (kTx x))) rfl ((uh HOWN2).alloc _) ⟨w2.heap.size, 0, none⟩ 1 1 [.string tk] rfl rfl (cell_one _ _ _) (fun u hu => by simp at hu; subst hu; rfl) (by decide) (by unfold maxLen; omega) (by omega) (by simp; omega) ?_; intro v' w4 hown4 hgrow4 hv4)
    have hlt4 := (uh HOWN2).lt
    obtain ⟨g', cap'', hv''⟩ : ∃ g' cap'', v' = .slice (some ⟨g', 0, none⟩) (k + 1) cap'' := by
     rcases hown4.2 with ⟨_, h⟩ | ⟨g', cap'', _, h, _⟩
     · omega
     · exact ⟨g', cap'', h⟩
    subst hv''
    have hb3 : Below w2.heap.size w2 (w2.alloc (.cells #[.string tk] 9)) := (Below.refl _ _).alloc (Nat.le_refl _) _
    have hb4 : Below (w.heap.size + 1) w2 w4 := (hb3.mono (by omega)).trans ((Below.refl _ _).grown hgrow4 (by simp; omega) (fun k e => (hlt4 k e).1))
    have HOWN4 : Hid (w4.ownsRow (w.heap.size + 1) 9 1 (.slice (some ⟨g', 0, none⟩) (k + 1) cap'') (k + 1) ((ks.take (k + 1)).map (fun x => Value.string (kTx x)))) := by
     show World.ownsRow _ _ _ _ _ _ _
     rw [uh HTK]; exact hown4
    have HR4 := hH ((uh HR2).of_block (hb4.block _ (by omega)))
    have HB4 := hH ((uh HB2).trans (hb4.mono (by omega)))
    clear hown4 hgrow4 hv4 hb3 hb4 hlt4
    go_wp2_with fail
    go_roundw
    case rel => exact ⟨k + 1, some ⟨g', 0, none⟩, cap'', by omega, by go_num, rfl, HOWN4, uh HR4, uh HB4⟩
    case measure => simp [intOf]; omega
  · obtain rfl : k = ks.length := by omega
    have hst : StrsAt (fun b => w.heap.size ≤ b ∧ b < wr.heap.size) wr (.slice a' ks.length cap') (ks.map kTx) := by
     have h1 := HOWN.out
     rw [List.take_length] at h1
     have h2 : wr.ownsRow (w.heap.size + 1) 9 1 (.slice a' ks.length cap') (ks.map kTx).length ((ks.map kTx).map Value.string) := by
      rw [List.length_map, List.map_map]; exact h1
     refine (strs_of_row h2 (fun x hx => ?_)).carry (fun _ _ => rfl) (fun b hb => ⟨by omega, hb.2⟩)
     obtain ⟨y, hy, rfl⟩ := List.mem_map.1 hx
     obtain ⟨i, hi, rfl⟩ := List.getElem_of_mem hy
     have := uh HKL i hi
     have e : (kTx ks[i]).size = (kxT ks[i]).length := by simp [kTx, ByteArray.size]
     omega
    have hcall := uh HKT (.slice a' ks.length cap') wr HB.out hst
    obtain ⟨k0, k1, k2⟩ := cs3 HR.out (by omega)
    simp only [row3] at k0 k1 k2
    have HCALL := hH hcall
    clear hcall hst
    go_wp2_with (go_at_call 37; refine (uh HCALL).mono ?_; rintro e w2 ⟨rfl, hb2⟩)
    go_ret
    exact ⟨rfl, HB.out.trans (hb2.mono HB.out.size)⟩
theorem gather_all : ∀ n, GSaid n
 | 0 => fun t h => by omega
 | n + 1 => gather_step n (gather_all n)
theorem implKindWrite_any (t : Kd) (P : Nat → Prop) (c : C3) (w : World) (hP : ∀ b, P b → b < w.heap.size) (hrep : KRep P w t c) (hwt : wKd t ≤ 1048576) (hT : KTab w) :
 Calls Tryz.prog 10 #[.agg #[c.c0, c.c1, c.c2]] w fun e w' => e = .returned (.string (kWr t)) ∧ Below w.heap.size w w' := by
 obtain ⟨c0, c1, c2⟩ := c
 have hbx : ∀ o, Below w.heap.size w (w.alloc o) := fun o => (Below.refl _ _).alloc (Nat.le_refl _) o
 have hok : ∀ o, Calls Tryz.prog 21 #[.agg #[c0, c1, c2]] (w.alloc o) fun e w' => e = .returned (.bool (decide (0 < qT t 1))) ∧ Below (w.alloc o).heap.size (w.alloc o) w' := fun o =>
  implKindOk_any t P ⟨c0, c1, c2⟩ (w.alloc o) (fun b hb => Nat.lt_of_lt_of_le (hP b hb) (hbx o).size) (KRep.carry (fun b hb => (hbx o).block b (hP b hb)) (fun _ h => h) _ _ hrep) hwt
 have hr := fun W (hW : Below w.heap.size w W) => KRep.carry (Q := P) (w' := W) (fun b hb => hW.block b (hP b hb)) (fun _ h => h) _ _ hrep
 obtain ⟨e0, -, ⟨a3, cap3, e1, -, -⟩, a, cap, e2, -, -⟩ := hrep.open
 simp only at e0 e1 e2
 subst e0 e1 e2
 by_cases hq : 0 < qT t 1
 · have hd : decide (0 < qT t 1) = true := decide_eq_true hq
   rw [hd] at hok
   have htx := fun W (hW : Below w.heap.size w W) => gather_all (ksz t + 1) t (by omega) P ⟨.int .i64 t.sort, .slice a3 t.names.length cap3, .slice a t.kids.length cap⟩ W (fun b hb => Nat.lt_of_lt_of_le (hP b hb) hW.size) (hr W hW) (hT.below hW) (ok_of_qT hq).1 (by have := kxT_short hq; omega) (by have := (ok_of_qT hq).2; omega)
   have hk : kWr t = kTx t := if_pos hq
   rw [hk]
   generalize kTx t = tx at *
   have HOK := hH hok; have HTX := hH htx
   clear hok htx hbx hr hrep hP hd hq hk hT hwt
   go_enter Tryz.func10, Tryz.ntmps10
   go_wp2_with fail
   refine (uh HOK _).mono ?_
   rintro e w1 ⟨rfl, hb1⟩
   obtain ⟨q1, hs1, hb01⟩ := kbox1 hb1
   obtain ⟨k0, k1, k2⟩ := cs3 q1 (by omega)
   simp only [row3] at k0 k1 k2
   have HB := hH hb01
   clear hb1 q1 hb01
   go_wp2_with fail
   refine (uh HTX _ (uh HB)).mono ?_
   rintro e w2 ⟨rfl, hb2⟩
   go_wp2_with fail
   go_ret
   exact ⟨rfl, (uh HB).trans (hb2.mono (uh HB).size)⟩
 · have hd : decide (0 < qT t 1) = false := decide_eq_false hq
   rw [hd] at hok
   have hk : kWr t = ByteArray.empty := if_neg hq
   rw [hk]
   have HOK := hH hok
   clear hok hbx hr hrep hP hd hq hk hT hwt
   go_enter Tryz.func10, Tryz.ntmps10
   go_wp2_with fail
   refine (uh HOK _).mono ?_
   rintro e w1 ⟨rfl, hb1⟩
   have HB := hH (kbox1 hb1).2.2
   clear hb1
   go_wp2_with fail
   go_ret
   exact ⟨rfl, uh HB⟩

structure TB (w wr : World) (t : Tr) (c : C5) (B : Nat) : Prop where
 below : Below w.heap.size w wr
 box : wr.rowIs B 29 5 (row5 c.c0 c.c1 c.c2 c.c3 c.c4)
 rep : Rep (fun x => x < B) wr t c
theorem TB.on {w wr w' : World} {t : Tr} {c : C5} {B : Nat} (h : TB w wr t c B) (hb : Below wr.heap.size wr w') : TB w w' t c B :=
 ⟨h.below.trans (hb.mono h.below.size), h.box.of_block (hb.block _ h.box.lt), Rep.carry (fun x hx => hb.block x (Nat.lt_trans hx h.box.lt)) (fun _ h => h) _ _ h.rep⟩
theorem TB.start {w wr : World} {t : Tr} {c0 c1 c2 c3 c4 : Value} (hb : Below w.heap.size w wr) (h : Rep (fun x => x < wr.heap.size) wr t ⟨c0, c1, c2, c3, c4⟩) : TB w (wr.alloc (.cells #[c0, c1, c2, c3, c4] 29)) t ⟨c0, c1, c2, c3, c4⟩ wr.heap.size :=
 ⟨hb.alloc hb.size _, row5_alloc wr c0 c1 c2 c3 c4 _, Rep.carry (fun _ hx => Below.heap_alloc _ _ _ hx) (fun _ h => h) _ _ h⟩
theorem TB.cells {w wr : World} {t : Tr} {c : C5} {B : Nat} (h : TB w wr t c B) : wr.cell? ⟨B, 0, none⟩ = some c.c0 ∧ wr.cell? ⟨B, 1, none⟩ = some c.c1 ∧ wr.cell? ⟨B, 2, none⟩ = some c.c2 ∧ wr.cell? ⟨B, 3, none⟩ = some c.c3 ∧ wr.cell? ⟨B, 4, none⟩ = some c.c4 :=
 ⟨h.box.cell (i := 0) (by omega), h.box.cell (i := 1) (by omega), h.box.cell (i := 2) (by omega), h.box.cell (i := 3) (by omega), h.box.cell (i := 4) (by omega)⟩
structure KT (w wr : World) (k : Kd) (c : C3) (B : Nat) : Prop where
 below : Below w.heap.size w wr
 box : wr.rowIs B 26 3 (row3 c.c0 c.c1 c.c2)
 rep : KRep (fun x => x < B) wr k c
theorem KT.on {w wr w' : World} {k : Kd} {c : C3} {B : Nat} (h : KT w wr k c B) (hb : Below wr.heap.size wr w') : KT w w' k c B :=
 ⟨h.below.trans (hb.mono h.below.size), h.box.of_block (hb.block _ h.box.lt), KRep.carry (fun x hx => hb.block x (Nat.lt_trans hx h.box.lt)) (fun _ h => h) _ _ h.rep⟩
theorem KT.start {w wr : World} {k : Kd} {c0 c1 c2 : Value} (hb : Below w.heap.size w wr) (h : KRep (fun x => x < wr.heap.size) wr k ⟨c0, c1, c2⟩) : KT w (wr.alloc (.cells #[c0, c1, c2] 26)) k ⟨c0, c1, c2⟩ wr.heap.size :=
 ⟨hb.alloc hb.size _, row3_alloc wr c0 c1 c2 _, KRep.carry (fun _ hx => Below.heap_alloc _ _ _ hx) (fun _ h => h) _ _ h⟩
def kOf (o : Option Kd) : Kd := o.getD (.mk 0 [] [])
theorem KAns.form {o : Option Kd} {w w' : World} {e : Ending} (h : KAns o w e w') : ∃ (y0 : Int) (ap : Option Addr) (np cp : Nat) (aq : Option Addr) (nq cq : Nat), e = .returned (.tuple #[.agg #[.int .i64 y0, .slice ap np cp, .slice aq nq cq], .bool o.isSome]) ∧ y0 = (kOf o).sort ∧ KRep (fun x => x < w'.heap.size) w' (kOf o) ⟨.int .i64 y0, .slice ap np cp, .slice aq nq cq⟩ ∧ Below w.heap.size w w' := by
 obtain ⟨k, b, ⟨y0, y1, y2⟩, F, hk, rfl, ho, hnd, hF, hb⟩ := h
 have hh : kOf o = k ∧ o.isSome = b := by
  rcases hk with ⟨rfl, rfl⟩ | ⟨rfl, rfl, rfl⟩ <;> exact ⟨rfl, rfl⟩
 obtain ⟨rfl, rfl⟩ := hh
 obtain ⟨p0, -, F1, F2, -, ⟨ap, cp, p1, -⟩, aq, cq, p2, -⟩ := ho.open
 simp only at p0 p1 p2
 subst p0 p1 p2
 exact ⟨_, _, _, _, _, _, _, rfl, rfl, OwnD.rep _ _ F (fun x hx => (hF x hx).2) ho, hb⟩
theorem kWr_size (k : Kd) : (kWr k).size ≤ 800 := by
 unfold kWr
 split
 · rename_i hq
   have h1 := kxT_len k (ok_of_qT hq).1
   have h2 := (ok_of_qT hq).2
   show (kxT k).toArray.size ≤ 800
   simp
   omega
 · simp
theorem kxT_ne (t : Kd) : kxT t ≠ [] := by
 rw [kxT_eq]
 repeat' split
 all_goals simp
theorem text_facts (k : Kd) : (0 < qT k 1 → (kWr k).size ≠ 0 ∧ progK (kWr k).data.toList = some k) ∧ (¬ 0 < qT k 1 → kWr k = ⟨#[]⟩) := by
 constructor
 · intro h
   have hs := kWr_size k
   have e : kWr k = ⟨(kxT k).toArray⟩ := by unfold kWr; rw [if_pos h]
   have hp : progK (kWr k).data.toList = some k := by
    rw [progK_some]
    refine ⟨?_, h, by rw [e]⟩
    rw [e] at hs ⊢
    exact hs
   refine ⟨fun h0 => ?_, hp⟩
   have hl : (kWr k).data.toList = [] := by
    apply List.eq_nil_of_length_eq_zero
    rw [Array.length_toList]
    exact h0
   rw [hl] at hp
   have := (progK_some.1 hp).2.2
   exact kxT_ne k this
 · intro h
   unfold kWr; rw [if_neg h]; rfl
def tAn (o : Option Tr) : Tr := o.getD (.mk 0 0 ByteArray.empty [] [])
theorem TAns.open {o : Option Tr} {w w' : World} {e : Ending} (h : TAns o w e w') : ∃ (a1 : Option Addr) (p1 : Nat) (a2 : Option Addr) (p2 : Nat) (F : List Nat), e = .returned (.tuple #[.agg #[.int .i64 (tAn o).sort, .int .i64 (tAn o).num, .string (tAn o).text, .slice a1 (tAn o).names.length p1, .slice a2 (tAn o).kids.length p2], .bool o.isSome]) ∧ Own w' (tAn o) ⟨.int .i64 (tAn o).sort, .int .i64 (tAn o).num, .string (tAn o).text, .slice a1 (tAn o).names.length p1, .slice a2 (tAn o).kids.length p2⟩ F ∧ F.Nodup ∧ (∀ b, b ∈ F → w.heap.size ≤ b ∧ b < w'.heap.size) ∧ Below w.heap.size w w' := by
 obtain ⟨t, b, ⟨d0, d1, d2, d3, d4⟩, F, hk, rfl, ho, hnd, hF, hb⟩ := h
 have hh : tAn o = t ∧ o.isSome = b := by
  rcases hk with ⟨rfl, rfl⟩ | ⟨rfl, rfl, rfl⟩ <;> exact ⟨rfl, rfl⟩
 obtain ⟨rfl, rfl⟩ := hh
 obtain ⟨p0, p1, p2, -, -, -, F1, F2, -, ⟨a5, cap5, p3, -⟩, a6, cap6, p4, -⟩ := ho.open
 simp only at p0 p1 p2 p3 p4
 subst p0 p1 p2 p3 p4
 exact ⟨_, _, _, _, F, rfl, ho, hnd, hF, hb⟩
theorem twS_size (t : Tr) : (twS t).size ≤ 9600 := by
 unfold twS
 by_cases h : 0 < pT t 1
 · rw [if_pos h]
   have := txT_small (t := t) (q := pT t 1) (by rw [wlk_start, if_neg (by omega)])
   show (txT t).toArray.size ≤ 9600
   simpa using this
 · rw [if_neg h]; decide
theorem rd_twS {t : Tr} (h : 0 < pT t 1) : rdO (twS t) = some t := by
 have hw : wlk t 0 0 = some (pT t 1) := by rw [wlk_start, if_neg (by omega)]
 have hsz := twS_size t
 have hr := rdT_complete 6 t 0 (pT t 1) [] (by simpa using hw) nd_nil
 rw [List.append_nil] at hr
 unfold rdO
 rw [if_pos (by omega)]
 have e : (twS t).data.toList = txT t := by unfold twS; rw [if_pos h]
 rw [e]
 unfold progRd
 rw [hr]
theorem KT.cells {w wr : World} {k : Kd} {c : C3} {B : Nat} (h : KT w wr k c B) : wr.cell? ⟨B, 0, none⟩ = some c.c0 ∧ wr.cell? ⟨B, 1, none⟩ = some c.c1 ∧ wr.cell? ⟨B, 2, none⟩ = some c.c2 :=
 ⟨h.box.cell (i := 0) (by omega), h.box.cell (i := 1) (by omega), h.box.cell (i := 2) (by omega)⟩
theorem has_ok {k : Kd} {t : Tr} (h : hasA k t = true) : 0 < qT k 1 ∧ 0 < pT t 1 := by
 unfold hasA at h
 rw [Bool.and_eq_true, Bool.and_eq_true] at h
 exact ⟨of_decide_eq_true h.1.1, of_decide_eq_true h.1.2⟩
end Go.Proofs.YtccnehcpmkgbhaaGreatDoor
