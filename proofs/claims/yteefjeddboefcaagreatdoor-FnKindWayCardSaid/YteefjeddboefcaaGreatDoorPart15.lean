/- A part. -/
import Derived.Test.YteefjeddboefcaaGreatDoorPart14
import Derived.WalkLawsBesides
import Derived.Test.YteefjeddboefcaaGreatDoorPart13
set_option maxRecDepth 100000
set_option maxHeartbeats 2000000
namespace Go.Proofs.YteefjeddboefcaaGreatDoor
open Go Go.RowKit
theorem clone_any (s:ByteArray) (w:World) (hlim:s.size≤140737488355328) :
 Calls Tryz.prog 71 #[.string s] w fun e w'=>e=.returned (.string s)∧Below w.heap.size w w':=by
 have hc:∀ W,Calls Tryz.prog 92 #[.string s] W fun e w'=>e=.returned (.string s)∧Below W.heap.size W w':=fun W=>Tryz.stringslite_Clone s W (by omega)
 have HC:=xH hc;clear hc
 go_enter Tryz.func71,Tryz.ntmps71
 go_wp2_with (go_at_call 92;refine (xU HC _).mono ?_;rintro e w' ⟨rfl,hb⟩)
 go_ret
 exact ⟨rfl,hb⟩
theorem infoStrC:(Tryz.prog.info? 9).map (fun i=>(i.zero,i.size,i.bytes))=some (some (.string ByteArray.empty),1,16):=by kernel_rfl
theorem copyNames_row (v:Value) (ss:List ByteArray) (w:World) {P:Nat→Prop} (hP:∀ b,P b→b < w.heap.size) (hv:StrsAt P w v ss) (hl:ss.length≤1048576) (hsz:∀ x,x∈ss→x.size≤1099511627776) :
 Calls Tryz.prog 76 #[v] w fun e w'=>∃ v',e=.returned v'∧w'.ownsRow w.heap.size 9 1 v' ss.length (ss.map Value.string)∧Below w.heap.size w w':=by
 obtain ⟨a,cap,rfl,hlen,hc⟩:=hv
 obtain ⟨i0,hi,hz0,hz1,hz2⟩:=info_parts infoStrC
 have HC:=xH hc;have HP:=xH hP;have HSZ:=xH hsz
 have HII:=xH hi;have HZ0:=xH hz0;have HZ1:=xH hz1;have HZ2:=xH hz2
 clear hc hP hsz hi hz0 hz1 hz2
 go_enter Tryz.func76,Tryz.ntmps76
 go_wp2_with fail
 go_loopw [3,8] (fun s i wr=>∃ (k:Nat) (a':Option Addr) (cap':Nat),k≤ss.length∧i=.int .i64 k∧s=.slice a' k cap'∧Hid (wr.ownsRow w.heap.size 9 1 (.slice a' k cap') k ((ss.take k).map Value.string))∧Hid (Below w.heap.size w wr)) (fun _ i _=>ss.length - (intOf i).toNat)
 case atStart=>exact ⟨0,none,0,Nat.zero_le _,rfl,rfl,World.ownsRow_nil _ _ _ _,Below.refl _ _⟩
 case round =>
  obtain ⟨k,a',cap',hk,rfl,rfl,HOWN,HB⟩:=hrel
  by_cases hlt:k < ss.length
  · obtain ⟨b,o,rfl,hpb,hcell,-⟩:=xU HC k hlt
    have e1:wr.cell? ⟨b,o+k,none⟩=some (.string ss[k]):=by rw [HB.out.cell (xU HP b hpb)];exact hcell
    have hcl:=clone_any ss[k] wr (by have:=xU HSZ _ (List.getElem_mem hlt);omega)
    have htk:(ss.take (k+1)).map Value.string=(ss.take k).map Value.string++[.string ss[k]]:=by
     rw [List.take_succ_eq_append_getElem hlt,List.map_append];rfl
    generalize ss[k]=tk at *
    have HCL:=xH hcl;have HTK:=xH htk
    clear hcl htk hcell hpb
    go_wp2_with fail
    refine (xU HCL).mono ?_
    rintro e w2 ⟨rfl,hb2⟩
    have hs2:=hb2.size
    have hsw:=HB.out.size
    have hown2:w2.ownsRow w.heap.size 9 1 (.slice a' k cap') k ((ss.take k).map Value.string) :=
     HOWN.out.kept (row:=none) ⟨hb2.os,hb2.tape,hb2.output,hb2.size,fun i hi _=>hb2.block i hi⟩ (by
      rcases h:(Value.slice a' k cap').ownBlock with _ | g
      · exact Or.inl rfl
      · exact Or.inr (by simp))
    have HOWN2:=xH hown2;have HB2:=xH (HB.out.trans (hb2.mono hsw))
    clear hown2 hb2 HCL e1
    go_wp2_with (at_builtin;refine append_row _ rfl _ _ 23 rfl w.heap.size 9 i0 (.string ByteArray.empty) 1 16 Tryz.underlying23 (xU HII) (xU HZ0) (xU HZ1) (xU HZ2) rfl (by decide) (.slice a' k cap') k ((ss.take k).map Value.string) rfl ((xU HOWN2).alloc _) ⟨w2.heap.size,0,none⟩ 1 1 [.string tk] rfl rfl (cell_one _ _ _) (fun u hu=>by simp at hu;subst hu;rfl) (by decide) (by unfold maxLen;omega) (by omega) (by simp;omega) ?_;intro v' w4 hown4 hgrow4 hv4)
    have hlt4:=(xU HOWN2).lt
    obtain ⟨g',cap'',hv''⟩:∃ g' cap'',v'=.slice (some ⟨g',0,none⟩) (k+1) cap'':=by
     rcases hown4.2 with ⟨_,h⟩ | ⟨g',cap'',_,h,_⟩
     · omega
     · exact ⟨g',cap'',h⟩
    subst hv''
    have hb4:Below w.heap.size w2 w4:=(((Below.refl _ w2).alloc (by omega) _)).trans ((Below.refl _ _).grown hgrow4 (by simp;omega) (fun k e=>(hlt4 k e).1))
    have HOWN4:Hid (w4.ownsRow w.heap.size 9 1 (.slice (some ⟨g',0,none⟩) (k+1) cap'') (k+1) ((ss.take (k+1)).map Value.string)):=by
     show World.ownsRow _ _ _ _ _ _ _
     rw [xU HTK];exact hown4
    have HB4:=xH ((xU HB2).trans hb4)
    clear hown4 hgrow4 hv4 hb4 hlt4
    go_wp2_with fail
    go_roundw
    case rel=>exact ⟨k+1,some ⟨g',0,none⟩,cap'',by omega,by go_num,rfl,HOWN4,xU HB4⟩
    case measure=>simp [intOf];omega
  · obtain rfl:k=ss.length:=by omega
    have h1:=HOWN.out
    rw [List.take_length] at h1
    have HF:=xH h1
    clear h1
    go_wp2_with fail
    go_ret
    exact ⟨_,rfl,xU HF,HB.out⟩
theorem copyNames_any (v:Value) (ss:List ByteArray) (w:World) {P:Nat→Prop} (hP:∀ b,P b→b < w.heap.size) (hv:StrsAt P w v ss) (hl:ss.length≤1048576) (hsz:∀ x,x∈ss→x.size≤1099511627776) :
 Calls Tryz.prog 76 #[v] w fun e w'=>∃ v' F,e=.returned v'∧StrsOwn w' v' ss F∧F.Nodup∧(∀ b,b∈F→w.heap.size≤b∧b < w'.heap.size)∧Below w.heap.size w w' :=
 (copyNames_row v ss w hP hv hl hsz).mono fun e w' ⟨v',h1,h2,h3⟩=>by
   obtain ⟨F,hF,hnd,hlt',-⟩:=strsOwn_of_row h2 (fun x hx=>by have:=hsz x hx;omega)
   exact ⟨v',F,h1,hF,hnd,hlt',h3⟩
end Go.Proofs.YteefjeddboefcaaGreatDoor

namespace Go.Proofs.YteefjeddboefcaaGreatDoor
open Go Go.RowKit
end Go.Proofs.YteefjeddboefcaaGreatDoor

namespace Go.Proofs.YteefjeddboefcaaGreatDoor
open Go Go.RowKit
end Go.Proofs.YteefjeddboefcaaGreatDoor

namespace Go.Proofs.YteefjeddboefcaaGreatDoor
open Go Go.RowKit
theorem infoTreeS:(Tryz.prog.info? 29).map (fun i=>(i.zero,i.size,i.bytes))=some (some (.agg #[.int .i64 0,.int .i64 0,.string ByteArray.empty,.slice none 0 0,.slice none 0 0]),5,80):=by kernel_rfl
theorem heap_set5s (w:World) (b:Nat) (c0 c1 c2 c3 c4:Value) (k:Nat) (h:k≠b) :
 (((((w.setCell ⟨b,0,none⟩ c0).setCell ⟨b,1,none⟩ c1).setCell ⟨b,2,none⟩ c2).setCell ⟨b,3,none⟩ c3).setCell ⟨b,4,none⟩ c4).heap[k]? = w.heap[k]? := by
 rw [Below.heap_setCell _ _ _ _ h,Below.heap_setCell _ _ _ _ h,Below.heap_setCell _ _ _ _ h,Below.heap_setCell _ _ _ _ h,Below.heap_setCell _ _ _ _ h]
theorem size_set5s (w:World) (b:Nat) (c0 c1 c2 c3 c4:Value) :
 (((((w.setCell ⟨b,0,none⟩ c0).setCell ⟨b,1,none⟩ c1).setCell ⟨b,2,none⟩ c2).setCell ⟨b,3,none⟩ c3).setCell ⟨b,4,none⟩ c4).heap.size=w.heap.size:=by simp [World.setCell]
theorem below_set5s {B:Nat} {a w:World} (h:Below B a w) (b:Nat) (c0 c1 c2 c3 c4:Value) (hb:B≤b) :
 Below B a (((((w.setCell ⟨b,0,none⟩ c0).setCell ⟨b,1,none⟩ c1).setCell ⟨b,2,none⟩ c2).setCell ⟨b,3,none⟩ c3).setCell ⟨b,4,none⟩ c4) :=
 ((((h.setCell hb _).setCell hb _).setCell hb _).setCell hb _).setCell hb _
end Go.Proofs.YteefjeddboefcaaGreatDoor

namespace Go.Proofs.YteefjeddboefcaaGreatDoor
open Go Go.RowKit
def digitB (c:UInt8):Bool:=48≤c.toNat && c.toNat≤57
theorem digit_yes {c:UInt8} (h:48≤c.toNat∧c.toNat≤57):digitB c=true:=by unfold digitB;simp [h.1,h.2]
theorem digit_no {c:UInt8} (h:c.toNat < 48∨57 < c.toNat):digitB c=false:=by
 unfold digitB;simp only [Bool.and_eq_false_iff,decide_eq_false_iff_not];omega
theorem nameByte_digit {c:UInt8} (h:c.toNat < 97∨122 < c.toNat):nameByte c=digitB c:=by
 unfold nameByte digitB
 rw [show (decide (97≤c.toNat) && decide (c.toNat≤122))=false from by simp only [Bool.and_eq_false_iff,decide_eq_false_iff_not];omega]
 rfl
theorem isDigit_any (c:UInt8) (w:World):Calls Tryz.prog 113 #[.int .u8 c.toNat] w fun e w'=>e=.returned (.bool (digitB c))∧w'=w:=by
 have hc:(48≤c.toNat∧c.toNat≤57)∨c.toNat < 48∨57 < c.toNat:=by omega
 rcases hc with hc | hc | hc
 · have HB:=xH (digit_yes hc)
   obtain ⟨h1,h2⟩:=hc
   have d2:decide ((c.toNat:Int)≤57)=true:=by simp;omega
   go_enter Tryz.func113,Tryz.ntmps113
   go_wp2_with fail
   go_ret
   exact ⟨ret_bool (xU HB).symm,rfl⟩
 · have HB:=xH (digit_no (Or.inl hc))
   go_enter Tryz.func113,Tryz.ntmps113
   go_wp2_with fail
   go_ret
   exact ⟨ret_bool (xU HB).symm,rfl⟩
 · have HB:=xH (digit_no (Or.inr hc))
   have d2:decide ((c.toNat:Int)≤57)=false:=by simp;omega
   go_enter Tryz.func113,Tryz.ntmps113
   go_wp2_with fail
   go_ret
   exact ⟨ret_bool (xU HB).symm,rfl⟩
theorem isNameByte_any (c:UInt8) (w:World):Calls Tryz.prog 114 #[.int .u8 c.toNat] w fun e w'=>e=.returned (.bool (nameByte c))∧w'=w:=by
 have hc:(97≤c.toNat∧c.toNat≤122)∨c.toNat < 97∨122 < c.toNat:=by omega
 rcases hc with hc | hc | hc
 · have HN:=xH (nameByte_yes (Or.inl hc))
   obtain ⟨h1,h2⟩:=hc
   have d2:decide ((c.toNat:Int)≤122)=true:=by simp;omega
   go_enter Tryz.func114,Tryz.ntmps114
   go_wp2_with (go_at_call 113;refine (isDigit_any _ _).mono ?_;rintro e w' ⟨rfl,rfl⟩)
   go_ret
   exact ⟨ret_bool (xU HN).symm,rfl⟩
 · have HN:=xH (nameByte_digit (Or.inl hc))
   go_enter Tryz.func114,Tryz.ntmps114
   go_wp2_with (go_at_call 113;refine (isDigit_any _ _).mono ?_;rintro e w' ⟨rfl,rfl⟩)
   go_ret
   exact ⟨ret_bool (xU HN).symm,rfl⟩
 · have HN:=xH (nameByte_digit (Or.inr hc))
   have d2:decide ((c.toNat:Int)≤122)=false:=by simp;omega
   go_enter Tryz.func114,Tryz.ntmps114
   go_wp2_with (go_at_call 113;refine (isDigit_any _ _).mono ?_;rintro e w' ⟨rfl,rfl⟩)
   go_ret
   exact ⟨ret_bool (xU HN).symm,rfl⟩
theorem nameOk_digit {s:ByteArray} (h0:0 < s.size) (h:digitB s[0]=true):nameOkB s=false:=by
 refine nameOk_first h0 ?_
 simp only [digitB,Bool.and_eq_true,decide_eq_true_eq] at h
 omega
theorem nameOk_yes2 {s:ByteArray} (h1:0 < s.size) (h2:s.size≤8) (hf:digitB s[0]=false) (ha:allTo nameByte s s.size):nameOkB s=true:=by
 refine nameOk_yes h1 h2 ?_ ha
 have hb:=ha 0 h1 h1
 simp only [nameByte,digitB,Bool.or_eq_true,Bool.and_eq_true,Bool.and_eq_false_iff,decide_eq_true_eq,decide_eq_false_iff_not] at hb hf
 omega
theorem nameOk_any (s:ByteArray) (w:World) (hs:s.size≤9223372036854775807) :
 Calls Tryz.prog 100 #[.string s] w fun e w'=>e=.returned (.bool (nameOkB s))∧w'=w:=by
 have hl:s.size < 1∨8 < s.size∨(0 < s.size∧s.size≤8):=by omega
 rcases hl with hl | hl | ⟨hl0,hl8⟩
 · have HN:=xH (nameOk_len (Or.inl hl))
   go_enter Tryz.func100,Tryz.ntmps100
   go_wp2_with fail
   go_ret
   exact ⟨ret_bool (xU HN).symm,rfl⟩
 · have HN:=xH (nameOk_len (Or.inr hl))
   go_enter Tryz.func100,Tryz.ntmps100
   go_wp2_with fail
   go_ret
   exact ⟨ret_bool (xU HN).symm,rfl⟩
 · by_cases hf:digitB s[0]=true
   · have HN:=xH (nameOk_digit hl0 hf)
     go_enter Tryz.func100,Tryz.ntmps100
     go_wp2_with (go_at_call 113;refine (isDigit_any _ _).mono ?_;rintro e w' ⟨rfl,rfl⟩)
     go_ret
     exact ⟨ret_bool (xU HN).symm,rfl⟩
   · have hf':digitB s[0]=false:=by simpa using hf
     have HF:=xH hf'
     clear hf
     go_enter Tryz.func100,Tryz.ntmps100
     go_wp2_with (go_at_call 113;refine (isDigit_any _ _).mono ?_;rintro e w' ⟨rfl,rfl⟩)
     go_loop [19] (fun i=>∃ k:Nat,k≤s.size∧i=.int .i64 k∧Hid (allTo nameByte s k)) (fun i=>s.size - (intOf i).toNat)
     case atStart=>exact ⟨0,Nat.zero_le _,rfl,fun j hj=>by omega⟩
     case round =>
      obtain ⟨k,hk,rfl,HA⟩:=hrel
      by_cases hlt:k < s.size
      · by_cases hb:nameByte s[k]=true
        · have HN:=xH (allTo_succ HA.out hlt hb)
          go_wp2_with (go_at_call 114;refine (isNameByte_any _ _).mono ?_;rintro e w' ⟨rfl,rfl⟩)
          go_round
          case rel=>exact ⟨k+1,by omega,by go_num,HN⟩
          case measure=>simp [intOf];omega
        · have hb':nameByte s[k]=false:=by simpa using hb
          clear hb
          have HN:=xH (nameOk_not hlt hb')
          go_wp2_with (go_at_call 114;refine (isNameByte_any _ _).mono ?_;rintro e w' ⟨rfl,rfl⟩)
          go_ret
          exact ⟨ret_bool (xU HN).symm,rfl⟩
      · go_wp2_with fail
        go_ret
        obtain rfl:k=s.size:=by omega
        exact ⟨ret_bool (nameOk_yes2 hl0 hl8 (xU HF) HA.out).symm,rfl⟩
end Go.Proofs.YteefjeddboefcaaGreatDoor

namespace Go.Proofs.YteefjeddboefcaaGreatDoor
open Go Go.RowKit
theorem namesAscend_any (v:Value) (ss:List ByteArray) (w:World) {P:Nat→Prop} (hP:∀ b,P b→b < w.heap.size) (hv:StrsAt P w v ss) :
 Calls Tryz.prog 84 #[v] w fun e w'=>e=.returned (.bool (riseB ss))∧w'=w:=by
 obtain ⟨a,cap,rfl,hlen,hc⟩:=hv
 have HC:=xH hc;have HP:=xH hP
 clear hc hP
 go_enter Tryz.func84,Tryz.ntmps84
 go_wp2_with fail
 go_loop [7] (fun i=>∃ (k:Nat),k≤ss.length∧i=.int .i64 k∧Hid (∀ j,j < k→good ss j=true)) (fun i=>ss.length - (intOf i).toNat)
 case atStart=>exact ⟨0,Nat.zero_le _,rfl,xH (fun j hj=>by omega)⟩
 case round =>
  obtain ⟨k,hk,rfl,HG⟩:=hrel
  by_cases hlt:k < ss.length
  · obtain ⟨b,o,rfl,hpb,hcell,hsz⟩:=xU HC k hlt
    have hname:=fun w=>nameOk_any ss[k] w hsz
    have HN:=xH hname;clear hname hpb
    by_cases hn:nameOkB ss[k]=true
    · by_cases h0:0 < k
      · obtain ⟨b',o',he,-,e0,-⟩:=xU HC (k - 1) (by omega)
        simp only [Option.some.injEq,Addr.mk.injEq,and_true] at he
        obtain ⟨rfl,rfl⟩:=he
        have hd0:decide ((0:Int) < k)=true:=by simp;omega
        have hgd:=good_pos hlt h0 hn
        generalize hlb:Op.bytesLess (ss[k - 1]'(by omega)).toList ss[k].toList=lb at hgd
        have hi1:((k:Int) - 1).toNat=k - 1:=by omega
        have HGD:=xH hgd
        clear hgd
        have hge:=geqS
        cases lb
        · have HR:=xH (rise_no hlt (xU HGD))
          go_wp2_with (go_at_call 100;refine (xU HN _).mono ?_;rintro e w' ⟨rfl,rfl⟩)
          go_ret
          exact ⟨ret_bool (xU HR).symm,rfl⟩
        · go_wp2_with (go_at_call 100;refine (xU HN _).mono ?_;rintro e w' ⟨rfl,rfl⟩)
          go_round
          case rel=>exact ⟨k+1,by omega,by go_num,xH (fun j hj=>by
           by_cases e:j=k
           · subst e;exact xU HGD
           · exact HG.out j (by omega))⟩
          case measure=>simp [intOf];omega
      · have hd0:decide (0 < k)=false:=by simp;omega
        have HK0:Hid (k=0):=by show k=0;omega
        clear h0
        go_wp2_with (go_at_call 100;refine (xU HN _).mono ?_;rintro e w' ⟨rfl,rfl⟩)
        go_round
        case rel => exact ⟨k + 1, by omega, by go_num, hide (fun j hj => by have := HK0.out; subst this; obtain rfl : j = 0 := by omega
                                                                            exact good_zero hlt hn)⟩
        case measure=>simp [intOf];omega
    · have hn':nameOkB ss[k]=false:=by simpa using hn
      have HR:=xH (rise_no hlt (good_name hlt hn'))
      clear hn
      go_wp2_with (go_at_call 100;refine (xU HN _).mono ?_;rintro e w' ⟨rfl,rfl⟩)
      go_ret
      exact ⟨ret_bool (xU HR).symm,rfl⟩
  · go_wp2_with fail
    go_ret
    exact ⟨ret_bool (rise_yes (fun i hi=>HG.out i (by omega))).symm,rfl⟩
end Go.Proofs.YteefjeddboefcaaGreatDoor

namespace Go.Proofs.YteefjeddboefcaaGreatDoor
open Go Go.RowKit
theorem kindShaped_any (t:Kd) (P:Nat→Prop) (c:C3) (w:World) (hP:∀ b,P b→b < w.heap.size) (hrep:KRep P w t c) :
 Calls Tryz.prog 56 #[.agg #[c.c0,c.c1,c.c2]] w fun e w'=>e=.returned (.bool (shB t))∧∃ o,w'=w.alloc o:=by
 obtain ⟨c0,c1,c2⟩:=c
 obtain ⟨e0,-,hns,a,cap,e2,hlen,-⟩:=hrep.open
 simp only at e0 e2 hns
 have HN:=xH hns
 obtain ⟨a3,cap3,e1,hl3,-⟩:=hns
 subst e0 e1 e2
 clear hrep
 have hbx:∀ o,Below w.heap.size w (w.alloc o):=fun o=>(Below.refl _ _).alloc (Nat.le_refl _) o
 have hcall:∀ o,Calls Tryz.prog 84 #[.slice a3 t.names.length cap3] (w.alloc o) fun e w'=>e=.returned (.bool (riseB t.names))∧w'=w.alloc o:=fun o =>
  namesAscend_any _ t.names (w.alloc o) (P:=P) (fun b hb=>Nat.lt_of_lt_of_le (hP b hb) (hbx o).size) ((xU HN).carry (fun b hb=>(hbx o).block b (hP b hb)) (fun _ h=>h))
 have HC:=xH hcall
 clear hcall hbx hP HN
 by_cases h1:t.sort=1
 · have d1:(t.sort==1)=true:=by simp [h1]
   have d2:(t.sort==2)=false:=by simp [h1]
   have d3:(t.sort==3)=false:=by simp [h1]
   have d4:(t.sort==4)=false:=by simp [h1]
   have d6:(t.sort==6)=false:=by simp [h1]
   have d5:(t.sort==5)=false:=by simp [h1]
   have hsh:shB t=(decide (t.kids.length=0) && decide (t.names.length=0)):=by simp [shB,h1]
   have HSH:=xH hsh;clear hsh h1
   go_enter Tryz.func56,Tryz.ntmps56
   go_wp2_with (go_at_call 84;refine (xU HC _).mono ?_;rintro e w' ⟨rfl,rfl⟩)
   all_goals
    go_ret
    refine ⟨ret_bool ?_,_,rfl⟩
    rw [xU HSH]
    clear HSH HC d1 d2 d3 d4 d5 d6
    rw [Bool.eq_iff_iff]
    simp_all <;> omega
 by_cases h2:t.sort=2
 · have d1:(t.sort==1)=false:=by simp [h2]
   have d2:(t.sort==2)=true:=by simp [h2]
   have d3:(t.sort==3)=false:=by simp [h2]
   have d4:(t.sort==4)=false:=by simp [h2]
   have d6:(t.sort==6)=false:=by simp [h2]
   have d5:(t.sort==5)=false:=by simp [h2]
   have hsh:shB t=(decide (t.kids.length=0) && decide (t.names.length=0)):=by simp [shB,h2]
   have HSH:=xH hsh;clear hsh h1 h2
   go_enter Tryz.func56,Tryz.ntmps56
   go_wp2_with (go_at_call 84;refine (xU HC _).mono ?_;rintro e w' ⟨rfl,rfl⟩)
   all_goals
    go_ret
    refine ⟨ret_bool ?_,_,rfl⟩
    rw [xU HSH]
    clear HSH HC d1 d2 d3 d4 d5 d6
    rw [Bool.eq_iff_iff]
    simp_all <;> omega
 by_cases h3:t.sort=3
 · have d1:(t.sort==1)=false:=by simp [h3]
   have d2:(t.sort==2)=false:=by simp [h3]
   have d3:(t.sort==3)=true:=by simp [h3]
   have d4:(t.sort==4)=false:=by simp [h3]
   have d6:(t.sort==6)=false:=by simp [h3]
   have d5:(t.sort==5)=false:=by simp [h3]
   have hsh:shB t=(decide (t.kids.length=0) && decide (t.names.length=0)):=by simp [shB,h3]
   have HSH:=xH hsh;clear hsh h1 h2 h3
   go_enter Tryz.func56,Tryz.ntmps56
   go_wp2_with (go_at_call 84;refine (xU HC _).mono ?_;rintro e w' ⟨rfl,rfl⟩)
   all_goals
    go_ret
    refine ⟨ret_bool ?_,_,rfl⟩
    rw [xU HSH]
    clear HSH HC d1 d2 d3 d4 d5 d6
    rw [Bool.eq_iff_iff]
    simp_all <;> omega
 by_cases h4:t.sort=4
 · have d1:(t.sort==1)=false:=by simp [h4]
   have d2:(t.sort==2)=false:=by simp [h4]
   have d3:(t.sort==3)=false:=by simp [h4]
   have d4:(t.sort==4)=true:=by simp [h4]
   have d6:(t.sort==6)=false:=by simp [h4]
   have d5:(t.sort==5)=false:=by simp [h4]
   have hsh:shB t=(decide (t.kids.length=1) && decide (t.names.length=0)):=by simp [shB,h4]
   have HSH:=xH hsh;clear hsh h1 h2 h3 h4
   go_enter Tryz.func56,Tryz.ntmps56
   go_wp2_with (go_at_call 84;refine (xU HC _).mono ?_;rintro e w' ⟨rfl,rfl⟩)
   all_goals
    go_ret
    refine ⟨ret_bool ?_,_,rfl⟩
    rw [xU HSH]
    clear HSH HC d1 d2 d3 d4 d5 d6
    rw [Bool.eq_iff_iff]
    simp_all <;> omega
 by_cases h6:t.sort=6
 · have d1:(t.sort==1)=false:=by simp [h6]
   have d2:(t.sort==2)=false:=by simp [h6]
   have d3:(t.sort==3)=false:=by simp [h6]
   have d4:(t.sort==4)=false:=by simp [h6]
   have d6:(t.sort==6)=true:=by simp [h6]
   have d5:(t.sort==5)=false:=by simp [h6]
   have hsh:shB t=(decide (t.kids.length=1) && decide (t.names.length=0)):=by simp [shB,h6]
   have HSH:=xH hsh;clear hsh h1 h2 h3 h4 h6
   go_enter Tryz.func56,Tryz.ntmps56
   go_wp2_with (go_at_call 84;refine (xU HC _).mono ?_;rintro e w' ⟨rfl,rfl⟩)
   all_goals
    go_ret
    refine ⟨ret_bool ?_,_,rfl⟩
    rw [xU HSH]
    clear HSH HC d1 d2 d3 d4 d5 d6
    rw [Bool.eq_iff_iff]
    simp_all <;> omega
 by_cases h5:t.sort=5
 · have d1:(t.sort==1)=false:=by simp [h5]
   have d2:(t.sort==2)=false:=by simp [h5]
   have d3:(t.sort==3)=false:=by simp [h5]
   have d4:(t.sort==4)=false:=by simp [h5]
   have d6:(t.sort==6)=false:=by simp [h5]
   have d5:(t.sort==5)=true:=by simp [h5]
   have hsh:shB t=(decide (t.kids.length=t.names.length) && riseB t.names):=by simp [shB,h5]
   have HSH:=xH hsh;clear hsh h1 h2 h3 h4 h6 h5
   go_enter Tryz.func56,Tryz.ntmps56
   go_wp2_with (go_at_call 84;refine (xU HC _).mono ?_;rintro e w' ⟨rfl,rfl⟩)
   all_goals
    go_ret
    refine ⟨ret_bool ?_,_,rfl⟩
    rw [xU HSH]
    clear HSH HC d1 d2 d3 d4 d5 d6
    rw [Bool.eq_iff_iff]
    simp_all <;> omega
 have d1:(t.sort==1)=false:=by simp [h1]
 have d2:(t.sort==2)=false:=by simp [h2]
 have d3:(t.sort==3)=false:=by simp [h3]
 have d4:(t.sort==4)=false:=by simp [h4]
 have d6:(t.sort==6)=false:=by simp [h6]
 have d5:(t.sort==5)=false:=by simp [h5]
 have hsh:shB t=false:=by simp [shB,h1,h2,h3,h4,h5,h6]
 have HSH:=xH hsh;clear hsh h1 h2 h3 h4 h5 h6
 go_enter Tryz.func56,Tryz.ntmps56
 go_wp2_with fail
 go_ret
 exact ⟨ret_bool (xU HSH).symm,_,rfl⟩
end Go.Proofs.YteefjeddboefcaaGreatDoor

namespace Go.Proofs.YteefjeddboefcaaGreatDoor
open Go Go.RowKit Go.Shelf
attribute [local go_sem] Oper.semAt_some
theorem Kept.setCell {n₀:Nat} {S:Nat→Prop} (W:World) (p:Addr) (v:Value) (hS:S p.block) (hn:n₀≤p.block):Kept n₀ S W (W.setCell p v) :=
 ⟨(Below.refl _ W).setCell hn _,fun k o hk ho _=>(Below.heap_setCell _ _ _ _ (fun e=>hk (by rw [e];exact hS))).trans ho⟩
theorem implKindOk_any (t:Kd) (P:Nat→Prop) (c:C3) (w:World) (hP:∀ b,P b→b < w.heap.size) (hrep:KRep P w t c) (hwt:wKd t≤1048576) :
 Calls Tryz.prog 30 #[.agg #[c.c0,c.c1,c.c2]] w fun e w'=>e=.returned (.bool (decide (0 < qT t 1)))∧Below w.heap.size w w':=by
 obtain ⟨c0,c1,c2⟩:=c
 have hrep':KRep (fun b=>b < w.heap.size) w t ⟨c0,c1,c2⟩:=KRep.carry (fun _ _=>rfl) hP _ _ hrep
 obtain ⟨e0,-,⟨a3,cap3,e1,hl3,-⟩,a,cap,e2,hlen,-⟩:=hrep.open
 simp only at e0 e1 e2
 subst e0 e1 e2
 have HREP:=xH hrep'
 clear hrep hrep' hP
 have hksz:ksz t≤1152921504606846970:=by have:=ksz_w t;omega
 refine (callsIn_wide (n:=8)).1 ?_
 refine callsIn_of_wp_marks Tryz.func30 rfl trivial ?_ rfl
 simp only [Tryz.ntmps30,List.size_toArray,List.length_cons,List.length_nil,Nat.reduceAdd,Nat.reduceSub,Array.replicate_succ,Array.replicate_zero,List.push_toArray,List.append_toArray,List.nil_append,List.cons_append]
 gi_wp2_with ((try refine ⟨trivial,?_⟩);gi_at_call 55;refine (walk_in Fence.wide _ trivial rfl _ _ _ _ _ _).mono ?_;rintro e w' ⟨rfl,rfl⟩)
 obtain ⟨W0,hW0⟩:∃ W0,((((w.alloc (.cells #[.int .i64 t.sort,.slice a3 t.names.length cap3,.slice a t.kids.length cap] 26)).alloc (.cells #[.bool false] 4)).alloc (.cells #[.int .i64 0] 3)).alloc (.cells #[.int .i64 t.sort,.slice a3 t.names.length cap3,.slice a t.kids.length cap] 26))=W0:=⟨_,rfl⟩
 have hsz:W0.heap.size=w.heap.size+4:=by rw [← hW0];simp
 have hB0:Below w.heap.size w W0:=by rw [← hW0];exact ((((Below.refl _ w).alloc (Nat.le_refl _) _).alloc (by simp) _).alloc (by simp;omega) _).alloc (by simp;omega) _
 have hbr:Boxed W0 (w.heap.size+1) 4 (.bool false):=by
  rw [← hW0]
  have:=(Boxed.new (w.alloc (.cells #[.int .i64 t.sort,.slice a3 t.names.length cap3,.slice a t.kids.length cap] 26)) 4 (.bool false))
  rw [World.size_alloc] at this
  exact (this.alloc _).alloc _
 have hbp:Boxed W0 (w.heap.size+1+1) 3 (.int .i64 0):=by
  rw [← hW0]
  have:=(Boxed.new ((w.alloc (.cells #[.int .i64 t.sort,.slice a3 t.names.length cap3,.slice a t.kids.length cap] 26)).alloc (.cells #[.bool false] 4)) 3 (.int .i64 0))
  rw [World.size_alloc,World.size_alloc] at this
  exact this.alloc _
 have hbt:C3.at W0 (w.heap.size+1+1+1) 0 ⟨.int .i64 t.sort,.slice a3 t.names.length cap3,.slice a t.kids.length cap⟩:=by
  rw [← hW0]
  have q:=row3_alloc (((w.alloc (.cells #[.int .i64 t.sort,.slice a3 t.names.length cap3,.slice a t.kids.length cap] 26)).alloc (.cells #[.bool false] 4)).alloc (.cells #[.int .i64 0] 3)) (.int .i64 t.sort) (.slice a3 t.names.length cap3) (.slice a t.kids.length cap) 26
  rw [World.size_alloc,World.size_alloc,World.size_alloc] at q
  exact ⟨q.cell (i:=0) (by omega),q.cell (i:=1) (by omega),q.cell (i:=2) (by omega)⟩
 rw [hW0]
 clear hW0
 refine wpIn_rangeFunc_ownH (α:=KX w.heap.size w) (encs:=kEnc) (Kp:=Kept w.heap.size (fun k=>k=w.heap.size+1∨k=w.heap.size+1+1)) (S:=fun ys=>ys.map kKey=pord t 1) (Sp:=fun pre=>pre.map kKey <+: pord t 1) (N:=(pord t 1).length) (w0:=W0) rfl (by omega)
  (gf:=82) (lb:=#[.pointer (some ⟨w.heap.size+1+1+1,0,none⟩)]) rfl trivial (enters_of Tryz.func82 (by kernel_rfl) rfl)
  (fun l J Jx W hW hJ hJx hY h0=>walk1_in Fence.wide rfl _ trivial trivial trivial rfl l (w.heap.size+1+1+1) w.heap.size (w.heap.size+4) _ w (Nat.le_refl _) t _ (xU HREP) hksz J Jx (fun s A B hs hg=>hJ s A B none hs hg (fun r e=>by cases e)) (fun k hk=>by omega) hY W (hbt.carry (hW.block _ (by omega))) (hB0.trans (hW.mono hB0.size)) (by have:=hW.size;omega) h0)
  Kept.trans (Kept.putObj (by omega)) (Below.refl _ _) (fun _=>rfl)
  (fun pre W=>(pre.map kKey).all gdB=true∧pre.length≤40∧(Boxed W (w.heap.size+1) 4 (.bool false)∧Boxed W (w.heap.size+1+1) 3 (.int .i64 pre.length))∧Below w.heap.size w W)
  (fun c pre W=>c=.ret∧((pre.map kKey).all gdB=false∨40 < pre.length)∧Boxed W (w.heap.size+1) 4 (.bool false)∧Below w.heap.size w W)
  ?hI ?hIx ?h0
  (fun x a' W=>∃ Bx,w.heap.size+1+1 < Bx∧C3.at W Bx 0 x.1.2.2∧a'={ tmps:=#[.agg #[.int .i64 t.sort,.slice a3 t.names.length cap3,.slice a t.kids.length cap],.pointer (some ⟨w.heap.size,0,none⟩),.pointer (some ⟨w.heap.size+1,0,none⟩),.pointer (some ⟨w.heap.size+1+1,0,none⟩),.int .i64 x.1.1,.pointer (some ⟨Bx,0,none⟩),.agg #[.int .i64 t.sort,.slice a3 t.names.length cap3,.slice a t.kids.length cap],.func (.func 82) #[] #[.pointer (some ⟨w.heap.size+1+1+1,0,none⟩)],.int .i64 x.1.1,.agg #[x.1.2.2.c0,x.1.2.2.c1,x.1.2.2.c2],undef,undef,undef,undef,undef,undef,undef,undef,undef,undef,undef,undef,undef],defers:=[] })
  ?hAx ?assign ?body ?done ?stop
 case hI =>
  exact fun s W W' row hs hg hr=>⟨hs.1,hs.2.1,⟨boxed_own _ _ (fun _=>.bool false) s W W' row hs.2.2.1.1 hg (fun r e=>(hr r e).2),boxed_own _ _ (fun pre:List (KX w.heap.size w)=>.int .i64 pre.length) s W W' row hs.2.2.1.2 hg (fun r e=>(hr r e).2)⟩,ownFrom_below (Nat.le_refl _) (by omega) s W W' row hs.2.2.2 hg hr⟩
 case hIx =>
  exact fun c s W W' row hs hg hr=>⟨hs.1,hs.2.1,boxed_own _ _ (fun _=>.bool false) s W W' row hs.2.2.1 hg (fun r e=>(hr r e).2),ownFrom_below (Nat.le_refl _) (by omega) s W W' row hs.2.2.2 hg hr⟩
 case h0=>exact ⟨by simp,by simp,⟨hbr,by simpa using hbp⟩,hB0⟩
 case hAx =>
  rintro x a' s W W' row ⟨Bx,hBx,⟨f0,f1,f2⟩,rfl⟩ hg hr
  exact ⟨Bx,hBx,⟨cell_kept f0 hg (fun r e=>(hr r e).2),cell_kept f1 hg (fun r e=>(hr r e).2),cell_kept f2 hg (fun r e=>(hr r e).2)⟩,rfl⟩
 case assign =>
  rintro l pre ⟨⟨lv,T,⟨d0,d1,d2⟩⟩,hx⟩ W K hi hK
  obtain ⟨g0,-,⟨a5,cap5,g1,-⟩,a6,cap6,g2,-⟩:=hx.open
  simp only at g0 g1 g2
  subst g0 g1 g2
  have HK:=xH hK;have HI:=xH hi
  clear hK hi
  simp only [kEnc]
  gi_wp2
  obtain ⟨h1,h2,⟨h3,h4⟩,h5⟩:=xU HI
  have q:=row3_alloc W (.int .i64 T.sort) (.slice a5 T.names.length cap5) (.slice a6 T.kids.length cap6) 26
  exact xU HK _ _ ((KeepsOthers.alloc _ _).from _) (Kept.grown (World.grownBy_alloc _ _ none) h5.size) ⟨h1,h2,⟨h3.alloc _,h4.alloc _⟩,h5.alloc h5.size _⟩ ⟨W.heap.size,h4.lt,⟨q.cell (i:=0) (by omega),q.cell (i:=1) (by omega),q.cell (i:=2) (by omega)⟩,rfl⟩
 case body =>
  rintro l pre x a' W hl - ⟨hall,h40,⟨hbr',hbp'⟩,hB⟩ ⟨Bx,hBx,hat,rfl⟩ hlt
  have hx:=x.2
  have hk:kKey x=(x.1.1,x.1.2.1):=rfl
  obtain ⟨lv,T,d0,d1,d2,hxe⟩:∃ lv T d0 d1 d2,x.1=(lv,T,⟨d0,d1,d2⟩):=by obtain ⟨⟨lv,T,⟨d0,d1,d2⟩⟩,_⟩:=x;exact ⟨_,_,_,_,_,rfl⟩
  rw [hxe] at hx
  simp only [hxe] at hk hat ⊢
  obtain ⟨g0,-,⟨a5,cap5,g1,-⟩,a6,cap6,g2,-⟩:=hx.open
  simp only at g0 g1 g2
  clear hxe
  subst g0 g1 g2
  obtain ⟨f0,f1,f2⟩:=hat
  simp only at f0 f1 f2
  have p0:=hbp'.cell
  have p1:=hbp'.frozen
  have r0:=hbr'.cell
  have r1:=hbr'.frozen
  have hB1:∀ v,Below w.heap.size w (W.setCell ⟨w.heap.size+1+1,0,none⟩ v):=fun v=>hB.setCell (by simp;omega) _
  have hcall:∀ v,Calls Tryz.prog 56 #[.agg #[.int .i64 T.sort,.slice a5 T.names.length cap5,.slice a6 T.kids.length cap6]] (W.setCell ⟨w.heap.size+1+1,0,none⟩ v) fun e w'=>e=.returned (.bool (shB T))∧∃ o,w'=(W.setCell ⟨w.heap.size+1+1,0,none⟩ v).alloc o:=fun v =>
   kindShaped_any T (fun b=>b < w.heap.size) ⟨_,_,_⟩ _ (fun b hb=>Nat.lt_of_lt_of_le hb (hB1 v).size) (KRep.carry (fun b hb=>(hB1 v).block b hb) (fun _ h=>h) _ _ hx)
  have HCALL:=xH hcall;have HB:=xH hB;have HBR:=xH hbr';have HBP:=xH hbp';have HALL:=xH hall
  have HK:=xH hk
  clear hcall hB1 hB hbr' hbp' hall hx hk
  have hkp:∀ v,Kept w.heap.size (fun k=>k=w.heap.size+1∨k=w.heap.size+1+1) W (W.setCell ⟨w.heap.size+1+1,0,none⟩ v):=fun v=>Kept.setCell W _ _ (Or.inr rfl) (by simp;omega)
  have HKP:=xH hkp;clear hkp
  have hbr2:∀ v o,Boxed ((W.setCell ⟨w.heap.size+1+1,0,none⟩ v).alloc o) (w.heap.size+1) 4 (.bool false):=fun v o=>((xU HBR).other (by omega) v).alloc o
  have r2:∀ v o,((W.setCell ⟨w.heap.size+1+1,0,none⟩ v).alloc o).cell? ⟨w.heap.size+1,0,none⟩=some (.bool false):=fun v o=>(hbr2 v o).cell
  have r3:∀ v o,((W.setCell ⟨w.heap.size+1+1,0,none⟩ v).alloc o).frozen? ⟨w.heap.size+1,0,none⟩=false:=fun v o=>(hbr2 v o).frozen
  have HBR2:=xH hbr2;clear hbr2
  have hnx:(((pre++[x]).length:Nat):Int)=(pre.length:Int)+1:=by simp
  have HNX:=xH hnx;clear hnx
  by_cases hp:40 < pre.length+1
  · have b1:decide ((40:Int) < (pre.length:Int)+1)=true:=by simp;omega
    gi_wp2_with fail
    refine ⟨trivial,?_⟩
    gi_wp2_with fail
    refine ⟨((KeepsOthers.setCell _ _ _).trans (KeepsOthers.setCell _ _ _)).from _,rfl,Or.inr (by simp;omega),?_,?_⟩
    · exact ((xU HBR).other (by omega) _).set _
    · exact ((xU HB).setCell (by simp;omega) _).setCell (by simp) _
  · have b1:decide ((40:Int) < (pre.length:Int)+1)=false:=by simp;omega
    by_cases h6:6 < lv
    · have hbad:((pre++[x]).map kKey).all gdB=false:=by
       rw [List.map_append,List.all_append]
       simp [xU HK,gdB];omega
      have HBAD:=xH hbad;clear hbad
      gi_wp2_with fail
      refine ⟨trivial,?_⟩
      gi_wp2_with fail
      refine ⟨((KeepsOthers.setCell _ _ _).trans (KeepsOthers.setCell _ _ _)).from _,rfl,Or.inl (xU HBAD),?_,?_⟩
      · exact ((xU HBR).other (by omega) _).set _
      · exact ((xU HB).setCell (by simp;omega) _).setCell (by simp) _
    · cases hsh:shB T
      · have hbad:((pre++[x]).map kKey).all gdB=false:=by
         rw [List.map_append,List.all_append]
         simp [xU HK,gdB,hsh]
        have HBAD:=xH hbad;clear hbad
        rw [hsh] at HCALL
        gi_wp2_with ((try refine ⟨trivial,?_⟩);gi_at_call 56;refine (CallsIn.inRound l (callsIn_wide.2 (xU HCALL _))).mono ?_;rintro e w' ⟨rfl,o,rfl⟩)
        refine ⟨(((KeepsOthers.setCell _ _ _).trans (KeepsOthers.alloc _ _)).trans (KeepsOthers.setCell _ _ _)).from _,rfl,Or.inl (xU HBAD),?_,?_⟩
        · exact (xU HBR2 _ _).set _
        · exact (((xU HB).setCell (by simp;omega) _).alloc (by have:=(xU HB).size;simp [World.setCell];omega) _).setCell (by simp) _
      · have hgood:((pre++[x]).map kKey).all gdB=true:=by
         rw [List.map_append,List.all_append,xU HALL]
         simp [xU HK,gdB,hsh];omega
        have HGOOD:=xH hgood;clear hgood
        rw [hsh] at HCALL
        gi_wp2_with ((try refine ⟨trivial,?_⟩);gi_at_call 56;refine (CallsIn.inRound l (callsIn_wide.2 (xU HCALL _))).mono ?_;rintro e w' ⟨rfl,o,rfl⟩)
        have hsw:=(xU HB).size
        refine ⟨((KeepsOthers.setCell _ _ _).trans (KeepsOthers.alloc _ _)).from _,(xU HKP _).trans (Kept.grown (World.grownBy_alloc _ _ none) (by simp [World.setCell];omega)),xU HGOOD,by simp;omega,⟨xU HBR2 _ _,?_⟩,?_⟩
        · rw [xU HNX];exact ((xU HBP).set _).alloc _
        · exact ((xU HB).setCell (by simp;omega) _).alloc (by simp [World.setCell];omega) _
 case done =>
  rintro D ys W hD hS ⟨hall,h40,⟨hbr',-⟩,hB⟩ hK
  have hans:decide (0 < qT t 1)=true:=by
   rw [qT_start,← hS,hall]
   simp;omega
  have r0:=hbr'.cell
  have r1:=hbr'.frozen
  gi_wp2_with fail
  have hK':=(KeepsOthers.setCell W ⟨w.heap.size+1,0,none⟩ (.bool true)).same D _ hK rfl
  refine ⟨by simp,.inl ⟨_,_,rfl,run_takeDeferred hK',?_⟩⟩
  have hc5:=cell_kept (hbr'.set (.bool true)).cell (grownBy_putObj' _ D (.deferred none)) (fun r e=>by cases e;exact ⟨_,hK',rfl⟩)
  refine ⟨.bool true,?_,by rw [hans],(hB.setCell (p:=⟨w.heap.size+1,0,none⟩) (by simp) _).trans (belowK_b (w:=w) (Nat.le_refl _) _ D _ _ (by omega) hK' rfl rfl)⟩
  simp [results,Tryz.results30,go_sem,hc5]
 case stop =>
  rintro D c pre W hD hpre ⟨rfl,hbad,hbr',hB⟩ hK
  have hans:decide (0 < qT t 1)=false:=by
   rw [qT_start]
   rcases hbad with h | h
   · have:(pord t 1).all gdB=false:=by
      obtain ⟨r,hr⟩:=hpre
      rw [← hr,List.all_append,h];rfl
     rw [this];rfl
   · have:=hpre.length_le
     simp only [List.length_map] at this
     simp;intro _;omega
  gi_wp2_with fail
  refine ⟨by simp,.inl ⟨_,_,rfl,run_takeDeferred hK,?_⟩⟩
  have hc5:=cell_kept hbr'.cell (grownBy_putObj' _ D (.deferred none)) (fun r e=>by cases e;exact ⟨_,hK,rfl⟩)
  refine ⟨.bool false,?_,by rw [hans],hB.trans (belowK_b (w:=w) (Nat.le_refl _) W D _ _ (by omega) hK rfl rfl)⟩
  simp [results,Tryz.results30,go_sem,hc5]
end Go.Proofs.YteefjeddboefcaaGreatDoor

namespace Go.Proofs.YteefjeddboefcaaGreatDoor
open Go Go.RowKit
theorem boxes {w w1:World} {a b:Obj} (h:Below ((w.alloc a).alloc b).heap.size ((w.alloc a).alloc b) w1):Below w.heap.size w w1∧w.heap.size+2≤w1.heap.size:=by
 have h1:=h.size
 refine ⟨(((Below.refl w.heap.size w).alloc (Nat.le_refl _) a).alloc (by simp) b).trans (h.mono (by simp;omega)),by simp at h1;omega⟩
end Go.Proofs.YteefjeddboefcaaGreatDoor

namespace Go.Proofs.YteefjeddboefcaaGreatDoor
open Go Go.RowKit
def widA (a b:Kd) (t:Tr):Option Tr:=if fitsD a b=true∧hasA a t=true∧0 < pT (widF 40 a b t) 1 then some (widF 40 a b t) else none
def wAn (o:Option Tr):Tr:=o.getD tr0
def WdE (o:Option Tr) (w:World) (e:Ending) (w':World):Prop:=∃ (d:C5) (F:List Nat),e=.returned (.tuple #[.agg #[d.c0,d.c1,d.c2,d.c3,d.c4],.bool o.isSome])∧Own w' (wAn o) d F∧F.Nodup∧(∀ b,b∈F→w.heap.size≤b∧b < w'.heap.size)∧Below w.heap.size w w'
theorem widA_no1 {a b:Kd} {t:Tr} (h:fitsD a b=false):widA a b t=none:=by unfold widA;rw [h];simp
theorem widA_no2 {a b:Kd} {t:Tr} (h:hasA a t=false):widA a b t=none:=by unfold widA;rw [h];simp
theorem widA_no3 {a b:Kd} {t:Tr} (h:¬ 0 < pT (widF 40 a b t) 1):widA a b t=none:=by unfold widA;rw [if_neg (fun k=>h k.2.2)]
theorem widA_yes {a b:Kd} {t:Tr} (h1:fitsD a b=true) (h2:hasA a t=true) (h3:0 < pT (widF 40 a b t) 1):widA a b t=some (widF 40 a b t):=by unfold widA;rw [if_pos ⟨h1,h2,h3⟩]
theorem fitsD_open {a b:Kd} (h:fitsD a b=true):okD a=true∧okD b=true∧ksz a≤40∧ksz b≤40∧fitF 40 a b=true:=by
 unfold fitsD at h
 rw [Bool.and_eq_true,Bool.and_eq_true,decide_eq_true_eq,decide_eq_true_eq] at h
 have h1:=ok_of_qT h.1.1
 have h2:=ok_of_qT h.1.2
 exact ⟨h1.1,h2.1,h1.2,h2.2,h.2⟩
theorem hasA_open {a:Kd} {t:Tr} (h:hasA a t=true):hT t a=true∧okH t=true:=by
 unfold hasA at h
 rw [Bool.and_eq_true,Bool.and_eq_true,decide_eq_true_eq,decide_eq_true_eq] at h
 exact ⟨h.2,okH_of_pT t 1 (by omega)⟩
theorem own_tr0 (w:World):Own w tr0 ⟨.int .i64 0,.int .i64 0,.string ⟨#[]⟩,.slice none 0 0,.slice none 0 0⟩ []:=by
 unfold tr0
 rw [Own]
 exact ⟨rfl,rfl,rfl,⟨by decide,by decide⟩,⟨by decide,by decide⟩,by decide,[],[],rfl,⟨none,0,rfl,by simp,Or.inl ⟨rfl,rfl⟩⟩,none,0,rfl,by simp,Or.inl ⟨rfl,rfl⟩⟩
theorem WdE.none {w w':World} {o:Option Tr} (h:o=Option.none) (hb:Below w.heap.size w w'):WdE o w (.returned (.tuple #[.agg #[.int .i64 0,.int .i64 0,.string ⟨#[]⟩,.slice .none 0 0,.slice .none 0 0],.bool false])) w':=by
 subst h
 exact ⟨⟨_,_,_,_,_⟩,[],rfl,own_tr0 w',List.nodup_nil,fun b hb=>by simp at hb,hb⟩
structure Bx4 (w W:World) (c d:C3) (x:C5):Prop where
 below:Below w.heap.size w W
 size:w.heap.size+4≤W.heap.size
 bA:W.rowIs w.heap.size 26 3 (row3 c.c0 c.c1 c.c2)
 bB:W.rowIs (w.heap.size+1) 26 3 (row3 d.c0 d.c1 d.c2)
 bT:W.rowIs (w.heap.size+2) 29 5 (row5 x.c0 x.c1 x.c2 x.c3 x.c4)
 bR:W.rowIs (w.heap.size+3) 29 5 (row5 (.int .i64 0) (.int .i64 0) (.string ⟨#[]⟩) (.slice none 0 0) (.slice none 0 0))
theorem Bx4.on {w W W':World} {c d:C3} {x:C5} (h:Bx4 w W c d x) (hb:Below W.heap.size W W'):Bx4 w W' c d x:=by
 have:=h.size
 exact ⟨h.below.trans (hb.mono h.below.size),Nat.le_trans h.size hb.size,h.bA.of_block (hb.block _ (by omega)),h.bB.of_block (hb.block _ (by omega)),h.bT.of_block (hb.block _ (by omega)),h.bR.of_block (hb.block _ (by omega))⟩
theorem Bx4.start (w:World) (c0 c1 c2 d0 d1 d2 x0 x1 x2 x3 x4:Value):Bx4 w ((((w.alloc (.cells #[c0,c1,c2] 26)).alloc (.cells #[d0,d1,d2] 26)).alloc (.cells #[x0,x1,x2,x3,x4] 29)).alloc (.cells #[.int .i64 0,.int .i64 0,.string ⟨#[]⟩,.slice none 0 0,.slice none 0 0] 29)) ⟨c0,c1,c2⟩ ⟨d0,d1,d2⟩ ⟨x0,x1,x2,x3,x4⟩:=by
 have h2:=row3_alloc (w.alloc (.cells #[c0,c1,c2] 26)) d0 d1 d2 26
 have h3:=row5_alloc ((w.alloc (.cells #[c0,c1,c2] 26)).alloc (.cells #[d0,d1,d2] 26)) x0 x1 x2 x3 x4 29
 have h4:=row5_alloc (((w.alloc (.cells #[c0,c1,c2] 26)).alloc (.cells #[d0,d1,d2] 26)).alloc (.cells #[x0,x1,x2,x3,x4] 29)) (.int .i64 0) (.int .i64 0) (.string ⟨#[]⟩) (.slice none 0 0) (.slice none 0 0) 29
 simp only [World.size_alloc] at h2 h3 h4
 exact ⟨((((Below.refl _ _).alloc (Nat.le_refl _) _).alloc (by simp) _).alloc (by simp;omega) _).alloc (by simp;omega) _,by simp,(((row3_alloc w c0 c1 c2 _).alloc _).alloc _).alloc _,(h2.alloc _).alloc _,h3.alloc _,h4⟩
end Go.Proofs.YteefjeddboefcaaGreatDoor

namespace Go.Proofs.YteefjeddboefcaaGreatDoor
open Go Go.RowKit
structure TB6 (w wr:World) (t:Tr) (c:C5) (B:Nat):Prop where
 below:Below w.heap.size w wr
 box:wr.rowIs B 29 5 (row5 c.c0 c.c1 c.c2 c.c3 c.c4)
 rep:Rep (fun x=>x < B) wr t c
theorem TB6.on {w wr w':World} {t:Tr} {c:C5} {B:Nat} (h:TB6 w wr t c B) (hb:Below wr.heap.size wr w'):TB6 w w' t c B :=
 ⟨h.below.trans (hb.mono h.below.size),h.box.of_block (hb.block _ h.box.lt),Rep.carry (fun x hx=>hb.block x (Nat.lt_trans hx h.box.lt)) (fun _ h=>h) _ _ h.rep⟩
theorem TB6.start {w wr:World} {t:Tr} {c0 c1 c2 c3 c4:Value} (hb:Below w.heap.size w wr) (h:Rep (fun x=>x < wr.heap.size) wr t ⟨c0,c1,c2,c3,c4⟩):TB6 w (wr.alloc (.cells #[c0,c1,c2,c3,c4] 29)) t ⟨c0,c1,c2,c3,c4⟩ wr.heap.size :=
 ⟨hb.alloc hb.size _,row5_alloc wr c0 c1 c2 c3 c4 _,Rep.carry (fun _ hx=>Below.heap_alloc _ _ _ hx) (fun _ h=>h) _ _ h⟩
theorem TB6.cells {w wr:World} {t:Tr} {c:C5} {B:Nat} (h:TB6 w wr t c B):wr.cell? ⟨B,0,none⟩=some c.c0∧wr.cell? ⟨B,1,none⟩=some c.c1∧wr.cell? ⟨B,2,none⟩=some c.c2∧wr.cell? ⟨B,3,none⟩=some c.c3∧wr.cell? ⟨B,4,none⟩=some c.c4 :=
 ⟨h.box.cell (i:=0) (by omega),h.box.cell (i:=1) (by omega),h.box.cell (i:=2) (by omega),h.box.cell (i:=3) (by omega),h.box.cell (i:=4) (by omega)⟩
structure KT6 (w wr:World) (k:Kd) (c:C3) (B:Nat):Prop where
 below:Below w.heap.size w wr
 box:wr.rowIs B 26 3 (row3 c.c0 c.c1 c.c2)
 rep:KRep (fun x=>x < B) wr k c
theorem KT6.on {w wr w':World} {k:Kd} {c:C3} {B:Nat} (h:KT6 w wr k c B) (hb:Below wr.heap.size wr w'):KT6 w w' k c B :=
 ⟨h.below.trans (hb.mono h.below.size),h.box.of_block (hb.block _ h.box.lt),KRep.carry (fun x hx=>hb.block x (Nat.lt_trans hx h.box.lt)) (fun _ h=>h) _ _ h.rep⟩
theorem KT6.start {w wr:World} {k:Kd} {c0 c1 c2:Value} (hb:Below w.heap.size w wr) (h:KRep (fun x=>x < wr.heap.size) wr k ⟨c0,c1,c2⟩):KT6 w (wr.alloc (.cells #[c0,c1,c2] 26)) k ⟨c0,c1,c2⟩ wr.heap.size :=
 ⟨hb.alloc hb.size _,row3_alloc wr c0 c1 c2 _,KRep.carry (fun _ hx=>Below.heap_alloc _ _ _ hx) (fun _ h=>h) _ _ h⟩
theorem KT6.cells {w wr:World} {k:Kd} {c:C3} {B:Nat} (h:KT6 w wr k c B):wr.cell? ⟨B,0,none⟩=some c.c0∧wr.cell? ⟨B,1,none⟩=some c.c1∧wr.cell? ⟨B,2,none⟩=some c.c2 :=
 ⟨h.box.cell (i:=0) (by omega),h.box.cell (i:=1) (by omega),h.box.cell (i:=2) (by omega)⟩
end Go.Proofs.YteefjeddboefcaaGreatDoor

namespace Go.Proofs.YteefjeddboefcaaGreatDoor
open Go Go.RowKit
theorem kids_mk (s n:Int) (tx:ByteArray) (ns:List ByteArray) (ks:List Tr):(Tr.mk s n tx ns ks).kids=ks:=rfl
theorem rise_names {k:Kd} (h:okD k=true) (h5:k.sort=5):k.kids.length=k.names.length∧riseB k.names=true:=by
 rcases okD_sh h with h' | h' | h'
 · omega
 · omega
 · exact h'.2
theorem fit_refl:∀ (n:Nat) (a:Kd),okD a=true→ksz a≤n→fitF n a a=true
 | 0,a,_,h=>by have:=ksz_pos a;omega
 | n+1,a,ho,hn=>by
   have sa:=okD_sh ho
   by_cases h6:a.sort=6
   · have hk:0 < a.kids.length:=by rcases sa with h | h | h <;> omega
     have:=ksz_kid (List.getElem_mem hk)
     rw [fit_mm h6 h6 hk hk]
     exact fit_refl n _ (okD_kid ho 0 hk) (by omega)
   by_cases h4:a.sort=4
   · have hk:0 < a.kids.length:=by rcases sa with h | h | h <;> omega
     have:=ksz_kid (List.getElem_mem hk)
     rw [fit_ll h4 h4 hk hk]
     exact fit_refl n _ (okD_kid ho 0 hk) (by omega)
   by_cases h5:a.sort=5
   · obtain ⟨hl,hr⟩:=rise_names ho h5
     rw [fit_union h5 h5 hl hl (rise_nodup hr) (rise_nodup hr) (fun k hk=>okD_ne (okD_mem ho hk)) (fun k hk=>okD_ne (okD_mem ho hk)) _ (fun nm=>uniN_mem nm),List.all_eq_true]
     intro nm hm
     have hma:nm∈a.names:=by rcases (uniN_mem nm).1 hm with h | h <;> exact h
     have hin:=kidZ_in ho h5 hma
     have hok:=okD_mem ho hin
     have:=ksz_kid hin
     unfold pF
     rw [if_neg (okD_ne hok),if_neg (okD_ne hok)]
     exact fit_refl n _ hok (by omega)
   · have h1:a.sort=1∨a.sort=2∨a.sort=3:=by rcases sa with h | h | h <;> omega
     have hl:a.kids.length=0∧a.names.length=0:=by rcases sa with h | h | h <;> omega
     refine fit_yes (n:=n) h6 rfl h4 (by omega) (by omega) (fun i hi=>by omega) (fun i hi=>by omega)
theorem tr_eta (t:Tr):t=.mk t.sort t.num t.text t.names t.kids:=by obtain ⟨s,n,tx,ns,ks⟩:=t;rfl
theorem hT_names {t:Tr} {a:Kd} (h:hT t a=true) (ho:okD a=true) (h5:a.sort≠5):t.names=[]:=by
 obtain ⟨-,h2,-⟩:=hT_open h
 rcases okD_sh ho with h' | h' | h'
 · rw [← h2];exact List.eq_nil_of_length_eq_zero h'.2.2
 · rw [← h2];exact List.eq_nil_of_length_eq_zero h'.2.2
 · omega
theorem alone_kids {t:Tr} (h:aloneB t=true) (h1:t.sort=1∨t.sort=2∨t.sort=3):t.kids=[]:=by
 unfold aloneB at h
 split at h
 · simp only [Bool.and_eq_true,decide_eq_true_eq] at h
   exact List.eq_nil_of_length_eq_zero (by omega)
 split at h
 · simp only [Bool.and_eq_true,decide_eq_true_eq] at h
   exact List.eq_nil_of_length_eq_zero (by omega)
 split at h
 · simp only [Bool.and_eq_true,decide_eq_true_eq] at h
   exact List.eq_nil_of_length_eq_zero (by omega)
 · omega
theorem fld_map {t:Tr} (hr:t.names.Pairwise nlt) (hl:t.kids.length=t.names.length):t.names.map (fldZ t)=t.kids:=by
 refine List.ext_getElem (by simp [hl]) fun i h1 h2=>?_
 simp only [List.getElem_map]
 exact fldZ_at hr hl (by simpa using h1) rfl
theorem hK_all:∀ (ks:List Tr) (k:Kd) (j:Nat),(∀ i,(hi:i < ks.length)→hT ks[i] (kidOf k (j+i))=true)→hK ks k j=true
 | [],_,_,_=>by rw [hK]
 | t::r,k,j,h=>by
   rw [hK,Bool.and_eq_true]
   refine ⟨h 0 (by simp),hK_all r k (j+1) fun i hi=>?_⟩
   have:=h (i+1) (by simpa using hi)
   rw [show j+1+i=j+(i+1) by omega]
   simpa using this
theorem hT_make {t:Tr} {k:Kd} (h1:k.sort=t.sort) (h2:k.names=t.names) (h3:∀ i,(hi:i < t.kids.length)→hT t.kids[i] (kidOf k i)=true):hT t k=true:=by
 rw [hT_eq,Bool.and_eq_true,Bool.and_eq_true]
 exact ⟨⟨decide_eq_true h1,decide_eq_true h2⟩,hK_all _ _ 0 fun i hi=>by rw [Nat.zero_add];exact h3 i hi⟩
theorem wid_has:∀ (n:Nat) (a b:Kd) (t:Tr),okD a=true→okD b=true→ksz b≤n→fitF n a b=true→hT t a=true→okH t=true→hT (widF n a b t) b=true
 | 0,_,b,_,_,_,h,_,_,_=>by have:=ksz_pos b;omega
 | n+1,a,b,t,hoa,hob,hn,hf,hh,hk=>by
   have sa:=okD_sh hoa
   have sb:=okD_sh hob
   obtain ⟨e1,e2,e3⟩:=hT_open hh
   obtain ⟨e4,e5⟩:=okH_open hk
   have nil:∀ {l:List ByteArray},l.length=0→l=[]:=fun h=>List.eq_nil_of_length_eq_zero h
   by_cases h6:b.sort=6
   · have hk0:0 < b.kids.length:=by rcases sb with h | h | h <;> omega
     have hz:=ksz_kid (List.getElem_mem hk0)
     have hnb:b.names=[]:=nil (by rcases sb with h | h | h <;> omega)
     by_cases g6:a.sort=6
     · have hka:0 < a.kids.length:=by rcases sa with h | h | h <;> omega
       rw [widF_each (Or.inr ⟨g6,h6⟩) hka hk0]
       rw [fit_mm h6 g6 hka hk0] at hf
       refine hT_make (show b.sort=t.sort by omega) hnb fun i hi=>?_
       simp only [kids_mk,List.getElem_map,List.length_map] at hi ⊢
       have:=e3 i hi
       rw [kidOf_else (by omega) i hka] at this
       rw [kidOf_else (by omega) i hk0]
       exact wid_has n _ _ _ (okD_kid hoa 0 hka) (okD_kid hob 0 hk0) (by omega) hf this (e5 i hi)
     · rw [fit_xm h6 g6 hk0] at hf
       rw [widF_into (okD_ne hoa) h6 g6 hk0]
       refine hT_make h6 hnb fun i hi=>?_
       simp only [kids_mk,List.length_singleton] at hi ⊢
       obtain rfl:i=0:=by omega
       rw [kidOf_else (by omega) 0 hk0]
       exact wid_has n a _ t hoa (okD_kid hob 0 hk0) (by omega) hf hh hk
   have hab:a.sort=b.sort:=Classical.byContradiction fun h'=>by rw [fit_ne h6 h'] at hf;cases hf
   by_cases h4:b.sort=4
   · have hk0:0 < b.kids.length:=by rcases sb with h | h | h <;> omega
     have hka:0 < a.kids.length:=by rcases sa with h | h | h <;> omega
     have hz:=ksz_kid (List.getElem_mem hk0)
     have hnb:b.names=[]:=nil (by rcases sb with h | h | h <;> omega)
     rw [fit_ll h4 (by omega) hka hk0] at hf
     rw [widF_each (Or.inl ⟨by omega,h4⟩) hka hk0]
     refine hT_make (show b.sort=t.sort by omega) hnb fun i hi=>?_
     simp only [kids_mk,List.getElem_map,List.length_map] at hi ⊢
     have:=e3 i hi
     rw [kidOf_else (by omega) i hka] at this
     rw [kidOf_else (by omega) i hk0]
     exact wid_has n _ _ _ (okD_kid hoa 0 hka) (okD_kid hob 0 hk0) (by omega) hf this (e5 i hi)
   by_cases h5:b.sort=5
   · obtain ⟨hlb,hrb⟩:=rise_names hob h5
     obtain ⟨hla,hra⟩:=rise_names hoa (by omega)
     have hfn:=fit_names hoa hob (by omega) h5 hf
     have hu:=uni_wider hoa hob (by omega) h5 hf
     rw [widF_form (by omega) h5,hu]
     rw [hu] at hfn
     refine hT_make h5 rfl fun i hi=>?_
     simp only [kids_mk,List.getElem_map,List.length_map] at hi ⊢
     rw [kidOf_form h5 (by omega)]
     have eb:kidZ b b.names[i]=b.kids[i]:=kidZ_at (rise_pairs hrb) hlb hi rfl
     have hz:=ksz_kid (List.getElem_mem (show i < b.kids.length by omega))
     have hpz:=ksz_pos b.kids[i]
     rw [← eb]
     rcases hfn b.names[i] (List.getElem_mem hi) with ⟨-,⟨k2,k3⟩ | ⟨k2,k3,k4⟩⟩
     · obtain ⟨m,rfl⟩:∃ m,n=m+1:=⟨n - 1,by omega⟩
       rw [widF_zero k2]
       refine hT_make k3 ?_ fun i hi=>by simp [kids_mk] at hi
       rw [eb] at k3 ⊢
       rcases okD_sh (okD_kid hob i (by omega)) with h | h | h
       · omega
       · exact nil h.2.2
       · omega
     · rcases fld_has (by omega) hh hk hla b.names[i] with h | ⟨h7,h8⟩
       · exact absurd h k2
       · rw [eb] at k4 ⊢
         exact wid_has n _ _ _ (okD_mem hoa (kidZ_in hoa (by omega) k3)) (okD_kid hob i (by omega)) (by omega) k4 h7 h8
   · have h1:a.sort=1∨a.sort=2∨a.sort=3:=by rcases sb with h | h | h <;> omega
     rw [widF_leaf hab h1]
     have hnb:b.names=[]:=nil (by rcases sb with h | h | h <;> omega)
     exact hT_make (show b.sort=t.sort by omega) hnb fun i hi=>by simp [kids_mk] at hi
theorem pK_up {d:Int}:∀ (ks:List Tr) (n:Int),(∀ t,t∈ks→∀ e,0≤pT t (e+1)→pT t e=pT t (e+1))→0≤pK ks (d+1) n→pK ks d n=pK ks (d+1) n
 | [],n,_,_=>by rw [pK,pK]
 | t::r,n,h,hp=>by
   rw [pK] at hp
   split at hp
   · omega
   · rename_i h1
     rw [not_or] at h1
     have e:=h t (by simp) (d+1) (by omega)
     rw [pK,pK,e,if_neg (by rw [not_or];exact h1),if_neg (by rw [not_or];exact h1)]
     exact pK_up r _ (fun t ht=>h t (by simp [ht])) hp
theorem pT_up (t:Tr) (d:Int) (h:0≤pT t (d+1)):pT t d=pT t (d+1):=by
 rw [pT_eq] at h
 split at h
 · omega
 · rename_i h1
   rw [not_or] at h1
   rw [pT_eq,pT_eq,if_neg (by rw [not_or];exact ⟨by omega,h1.2⟩),if_neg (by rw [not_or];exact h1)]
   exact pK_up _ 1 (fun x hx e he=>pT_up x e he) h
termination_by SizeOf.sizeOf t
decreasing_by
 obtain ⟨s,n,tx,ns,ks⟩:=t
 have:=List.sizeOf_lt_of_mem (show x∈ks from hx)
 simp only [Tr.mk.sizeOf_spec]
 omega
def Mor (t u:Tr):Prop:=∀ d:Int,0≤pT u d→0≤pT t d∧pT t d≤pT u d
theorem pK_mor {d:Int} (f g:ByteArray→Tr):∀ {xs ys:List ByteArray} (n m:Int),xs.Sublist ys→(∀ x,x∈xs→Mor (f x) (g x))→n≤m→0≤pK (ys.map g) d m→0≤pK (ys.map g) d m→(0≤n→0≤pK (xs.map f) d n∧pK (xs.map f) d n≤pK (ys.map g) d m)
 | _,_,n,m,.slnil,_,h,hp,_,hn=>by simp only [List.map_nil,pK] at hp ⊢;exact ⟨hn,h⟩
 | xs,_,n,m,.cons y (l₂:=r) hs,hm,h,hp,_,hn=>by
   simp only [List.map_cons,pK] at hp ⊢
   split at hp
   · omega
   · rename_i h1
     rw [not_or] at h1
     rw [if_neg (by rw [not_or];exact h1)]
     exact pK_mor f g n _ hs hm (by omega) hp hp hn
 | _,_,n,m,.cons_cons y (l₁:=q) (l₂:=r) hs,hm,h,hp,_,hn=>by
   simp only [List.map_cons,pK] at hp ⊢
   split at hp
   · omega
   · rename_i h1
     rw [not_or] at h1
     obtain ⟨k1,k2⟩:=hm y (by simp) (d+1) (by omega)
     rw [if_neg (show ¬ (pT (f y) (d+1) < 0∨120 < n+pT (f y) (d+1)) by omega),if_neg (show ¬ (pT (g y) (d+1) < 0∨120 < m+pT (g y) (d+1)) by omega)]
     exact pK_mor f g _ _ hs (fun x hx=>hm x (by simp [hx])) (by omega) hp hp (by omega)
theorem pK_mor1 {d:Int} (g:Tr→Tr):∀ (ks:List Tr) (n m:Int),(∀ x,x∈ks→Mor x (g x))→n≤m→0≤n→0≤pK (ks.map g) d m→0≤pK ks d n∧pK ks d n≤pK (ks.map g) d m
 | [],n,m,_,h,hn,hp=>by simp only [List.map_nil,pK] at hp ⊢;exact ⟨hn,h⟩
 | t::r,n,m,hm,h,hn,hp=>by
   simp only [List.map_cons,pK] at hp ⊢
   split at hp
   · omega
   · rename_i h1
     rw [not_or] at h1
     obtain ⟨k1,k2⟩:=hm t (by simp) (d+1) (by omega)
     rw [if_neg (show ¬ (pT t (d+1) < 0∨120 < n+pT t (d+1)) by omega),if_neg (show ¬ (pT (g t) (d+1) < 0∨120 < m+pT (g t) (d+1)) by omega)]
     exact pK_mor1 g r _ _ (fun x hx=>hm x (by simp [hx])) (by omega) (by omega) hp
theorem pT_ge {u:Tr} {d:Int} (h:0≤pT u d):d≤6∧pT u d=pK u.kids d 1:=by
 rw [pT_eq] at h ⊢
 split at h
 · omega
 · rename_i h1
   rw [if_neg h1]
   rw [not_or] at h1
   exact ⟨by omega,rfl⟩
theorem pT_alone {t:Tr} {d:Int} (h:aloneB t=true) (hd:d≤6):pT t d=pK t.kids d 1:=by
 rw [pT_eq,if_neg]
 rw [not_or]
 exact ⟨by omega,by rw [h];simp⟩
theorem wid_more:∀ (n:Nat) (a b:Kd) (t:Tr),okD a=true→okD b=true→ksz b≤n→fitF n a b=true→hT t a=true→okH t=true→Mor t (widF n a b t)
 | 0,_,b,_,_,_,h,_,_,_=>by have:=ksz_pos b;omega
 | n+1,a,b,t,hoa,hob,hn,hf,hh,hk=>by
   have sa:=okD_sh hoa
   have sb:=okD_sh hob
   obtain ⟨e1,e2,e3⟩:=hT_open hh
   obtain ⟨e4,e5⟩:=okH_open hk
   intro d hp
   obtain ⟨hd,hpe⟩:=pT_ge hp
   rw [hpe] at hp ⊢
   by_cases hinto:b.sort=6∧a.sort≠6
   · have hk0:0 < b.kids.length:=by rcases sb with h | h | h <;> omega
     have hz:=ksz_kid (List.getElem_mem hk0)
     rw [fit_xm hinto.1 hinto.2 hk0] at hf
     rw [widF_into (okD_ne hoa) hinto.1 hinto.2 hk0] at hp ⊢
     simp only [kids_mk,pK] at hp ⊢
     split at hp
     · omega
     · rename_i h1
       rw [not_or] at h1
       obtain ⟨k1,k2⟩:=wid_more n a _ t hoa (okD_kid hob 0 hk0) (by omega) hf hh hk (d+1) (by omega)
       have:=pT_up t d k1
       rw [if_neg (by rw [not_or];exact h1)]
       omega
   rw [pT_alone e4 hd]
   have hab:a.sort=b.sort:=by
    by_cases h6:b.sort=6
    · exact Classical.byContradiction fun h'=>hinto ⟨h6,by omega⟩
    · exact Classical.byContradiction fun h'=>by rw [fit_ne h6 h'] at hf;cases hf
   by_cases h46:b.sort=4∨b.sort=6
   · have hk0:0 < b.kids.length:=by rcases sb with h | h | h <;> omega
     have hka:0 < a.kids.length:=by rcases sa with h | h | h <;> omega
     have hz:=ksz_kid (List.getElem_mem hk0)
     have hf':fitF n a.kids[0] b.kids[0]=true:=by
      rcases h46 with h | h
      · rwa [fit_ll h (by omega) hka hk0] at hf
      · rwa [fit_mm h (by omega) hka hk0] at hf
     rw [widF_each (by omega) hka hk0] at hp ⊢
     simp only [kids_mk] at hp ⊢
     refine pK_mor1 _ _ 1 1 (fun x hx=>?_) (by omega) (by omega) hp
     obtain ⟨i,hi,rfl⟩:=List.mem_iff_getElem.1 hx
     have:=e3 i hi
     rw [kidOf_else (by omega) i hka] at this
     exact wid_more n _ _ _ (okD_kid hoa 0 hka) (okD_kid hob 0 hk0) (by omega) hf' this (e5 i hi)
   by_cases h5:b.sort=5
   · obtain ⟨hla,hra⟩:=rise_names hoa (by omega)
     obtain ⟨hlb,hrb⟩:=rise_names hob h5
     have hfn:=fit_names hoa hob (by omega) h5 hf
     have hu:=uni_wider hoa hob (by omega) h5 hf
     have hlt:=(alone_open e4).2.2 (by omega)
     rw [widF_form (by omega) h5,hu] at hp ⊢
     rw [hu] at hfn
     simp only [kids_mk] at hp ⊢
     have hsub:a.names.Sublist b.names:=rise_sub b.names a.names (rise_pairs hrb) (rise_pairs hra) (fun x hx=>by rw [← hu];exact (uniN_mem x).2 (Or.inl hx))
     have hkk:t.kids=a.names.map (fldZ t):=by rw [e2];exact (fld_map (rise_pairs hlt.2) hlt.1).symm
     rw [hkk]
     refine pK_mor (fldZ t) _ 1 1 hsub (fun nm hm=>?_) (by omega) hp hp (by omega)
     have hin:=kidZ_in hoa (by omega) hm
     have hne:=okD_ne (okD_mem hoa hin)
     have hmb:=hsub.subset hm
     rcases (hfn nm hmb).2 with ⟨k2,-⟩ | ⟨k2,k3,k4⟩
     · exact absurd k2 hne
     · rcases fld_has (by omega) hh hk hla nm with h | ⟨h7,h8⟩
       · exact absurd h k2
       · have hib:=kidZ_in hob h5 hmb
         have hz:=ksz_kid hib
         exact wid_more n _ _ _ (okD_mem hoa hin) (okD_mem hob hib) (by omega) k4 h7 h8
   · have h1:a.sort=1∨a.sort=2∨a.sort=3:=by rcases sb with h | h | h <;> omega
     rw [widF_leaf hab h1] at hp ⊢
     have hkk:=alone_kids e4 (by omega)
     rw [hkk]
     simp only [kids_mk] at hp ⊢
     exact ⟨hp,Int.le_refl _⟩
theorem widA_facts {a b:Kd} {t u:Tr} (h:widA a b t=some u):fitsD a b=true∧hasA a t=true∧hasA b u=true∧0 < pT t 1∧0 < pT u 1∧pT t 1≤pT u 1:=by
 unfold widA at h
 split at h
 · rename_i hc
   obtain ⟨h1,h2,h3⟩:=hc
   obtain rfl:=Option.some.inj h
   obtain ⟨f1,f2,f3,f4,f5⟩:=fitsD_open h1
   obtain ⟨g1,g2⟩:=hasA_open h2
   have hqb:0 < qT b 1:=by
    unfold fitsD at h1
    rw [Bool.and_eq_true,Bool.and_eq_true,decide_eq_true_eq,decide_eq_true_eq] at h1
    exact h1.1.2
   have hpt:0 < pT t 1:=by
    unfold hasA at h2
    rw [Bool.and_eq_true,Bool.and_eq_true,decide_eq_true_eq,decide_eq_true_eq] at h2
    exact h2.1.2
   refine ⟨h1,h2,?_,hpt,h3,(wid_more 40 a b t f1 f2 f4 f5 g1 g2 1 (by omega)).2⟩
   unfold hasA
   rw [decide_eq_true hqb,decide_eq_true h3,wid_has 40 a b t f1 f2 f4 f5 g1 g2];rfl
 · cases h
end Go.Proofs.YteefjeddboefcaaGreatDoor
