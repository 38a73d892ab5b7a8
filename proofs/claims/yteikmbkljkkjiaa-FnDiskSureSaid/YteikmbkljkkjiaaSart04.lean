/- A part. -/
import Derived.Test.YteikmbkljkkjiaaSart02
import Derived.Test.YteikmbkljkkjiaaSart03
import Derived.Deep.Upon
import Derived.WalkLawsBesides
namespace Go.Proofs.Yteikmbkljkkjiaa
open Go Go.RowKit
set_option maxRecDepth 100000
set_option maxHeartbeats 1600000
theorem cloneNs_any (v:Value) (ss:List ByteArray) (w:World) {P:Nat→Prop} (hv:StrsAt P w v ss) (hl:ss.length≤3000) :
 Calls Try.prog 72 #[v] w fun e w'=>∃ v',e=.returned v'∧NmOwn w w' v' ss.length ss:=by
 obtain ⟨a,cap,rfl,hlen,hc⟩:=hv
 have hsz:∀ x,x∈ss→x.size≤9223372036854775807:=fun x hx=>by
  obtain ⟨i,hi,rfl⟩:=List.getElem_of_mem hx
  obtain ⟨_,_,_,_,_,h⟩:=hc i hi
  exact h
 rcases Nat.eq_zero_or_pos ss.length with h0 | h0
 · have hss:ss=[]:=List.eq_nil_of_length_eq_zero h0
   subst hss
   cases a with
   | none =>
     refine (Try.slices_Clone_string_nil 0 cap w).mono ?_
     rintro e w' ⟨rfl,rfl⟩
     exact ⟨_,rfl,⟨by simp,Or.inl ⟨rfl,rfl⟩⟩,rfl,hsz,Below.refl _ _⟩
   | some ad =>
     refine (Try.slices_Clone_string_zero ad cap w).mono ?_
     rintro e w' ⟨v',rfl,h1,-,h2⟩
     exact ⟨_,rfl,h1,rfl,hsz,h2⟩
 · obtain ⟨b,o,rfl,-,-,-⟩:=hc 0 h0
   refine (Try.slices_Clone_string b o ss.length cap ss w (Nat.le_refl _) (by omega) (fun j hj=>?_)).mono ?_
   · obtain ⟨b',o',e,-,hcell,-⟩:=hc j hj
     simp only [Option.some.injEq,Addr.mk.injEq,and_true] at e
     obtain ⟨rfl,rfl⟩:=e
     rw [hcell]
     simp [List.getD,hj]
   · rintro e w' ⟨v',rfl,h1,-,h2⟩
     rw [List.take_of_length_le (Nat.le_refl _)] at h1
     exact ⟨_,rfl,h1,rfl,hsz,h2⟩
def idxB (ss:List ByteArray) (x:ByteArray):Int:=match ss.findIdx? (fun y=>sameB y x) with | some i=>i | none=>-1
theorem sameB_symm (x y:ByteArray):sameB x y=sameB y x:=by
 unfold sameB
 rw [Bool.eq_iff_iff,beq_iff_eq,beq_iff_eq]
 exact ⟨Eq.symm,Eq.symm⟩
theorem idxB_yes {ss:List ByteArray} {x:ByteArray} (k:Nat) (hk:k < ss.length) (h:sameB ss[k] x=true) (hno:∀ j,j < k→(hj:j < ss.length)→sameB ss[j] x=false):idxB ss x=k:=by
 unfold idxB
 have:ss.findIdx? (fun y=>sameB y x)=some k:=by
  rw [List.findIdx?_eq_some_iff_getElem]
  exact ⟨hk,h,fun j hj=>by rw [hno j hj (by omega)];decide⟩
 rw [this]
theorem idxB_no {ss:List ByteArray} {x:ByteArray} (hno:∀ j,(hj:j < ss.length)→sameB ss[j] x=false):idxB ss x=-1:=by
 unfold idxB
 have:ss.findIdx? (fun y=>sameB y x)=none:=by
  rw [List.findIdx?_eq_none_iff]
  intro f hf
  obtain ⟨j,hj,rfl⟩:=List.getElem_of_mem hf
  exact hno j hj
 rw [this]
theorem index_any (v:Value) (ss:List ByteArray) (x:ByteArray) (w:World) {P:Nat→Prop} (hv:StrsAt P w v ss) :
 Calls Try.prog 78 #[v,.string x] w fun e w'=>e=.returned (.int .i64 (idxB ss x))∧w'=w:=by
 obtain ⟨a,cap,rfl,hlen,hc⟩:=hv
 have HC:=xH hc;clear hc
 go_enter Try.func78,Try.ntmps78
 go_wp2
 go_loop [8] (fun i=>∃ (k:Nat),k≤ss.length∧i=.int .i64 k∧Hid (∀ j,j < k→(hj:j < ss.length)→sameB ss[j] x=false)) (fun i=>ss.length - (intOf i).toNat)
 case atStart=>exact ⟨0,Nat.zero_le _,rfl,fun j hj=>by omega⟩
 case round =>
  obtain ⟨k,hk,rfl,HQ⟩:=hrel
  by_cases hlt:k < ss.length
  · obtain ⟨b,o,rfl,_,hcell,hsz⟩:=xU HC k hlt
    cases e:sameB ss[k] x with
    | true =>
      have hd:=xH (idxB_yes k hlt e HQ.out)
      rw [sameB_symm] at e
      unfold sameB at e
      go_wp2
      go_ret
      exact ⟨by rw [xU hd];rfl,rfl⟩
    | false =>
      have HE:=xH e
      rw [sameB_symm] at e
      unfold sameB at e
      go_wp2
      go_round
      case rel=>exact ⟨k+1,by omega,by go_num,fun j hj hjl=>by
       by_cases h:j=k
       · subst h;exact xU HE
       · exact HQ.out j (by omega) hjl⟩
      case measure=>simp [intOf];omega
  · go_wp2
    go_ret
    exact ⟨by rw [idxB_no (fun j hj=>HQ.out j (by omega) hj)];rfl,rfl⟩
theorem ownsRow_sets {base:Nat} {e:TypeId} {g n cap:Nat}:∀ (vs a b:List Value) (w:World),w.ownsRow base e 1 (.slice (some ⟨g,0,none⟩) n cap) n (a++b)→b.length=vs.length →
 (w.setCells g a.length vs).ownsRow base e 1 (.slice (some ⟨g,0,none⟩) n cap) n (a++vs)
 | [],a,b,w,h,hb=>by
   have:b=[]:=List.eq_nil_of_length_eq_zero (by simpa using hb)
   subst this;exact h
 | v::r,a,b,w,h,hb=>by
   match b,hb with
   | x::b',hb =>
     have h1:=ownsRow_put h a.length v
     have h2:(a++x::b').set a.length v=(a++[v])++b':=by simp
     rw [h2] at h1
     have h3:=ownsRow_sets r (a++[v]) b' _ h1 (by simpa using hb)
     rw [List.length_append,List.append_assoc] at h3
     exact h3
theorem delete_any (ns:List ByteArray) (i:Nat) (w0 w:World) (v:Value) (n:Nat) (h:NmOwn w0 w v n ns) (hi:i < n) (hw:w0.heap.size≤w.heap.size) :
 Calls Try.prog 79 #[v,.int .i64 (i:Int),.int .i64 ((i:Int)+1)] w fun e w'=>∃ v',e=.returned v'∧NmOwn w0 w' v' (n - 1) (ns.take i++ns.drop (i+1)):=by
 obtain ⟨g,cap,rfl,hg,hlt⟩:=h.own.form (by omega)
 have hn:=h.len
 rcases h.own.2 with ⟨hno,_⟩ | ⟨g',cap',cur,hv,hb,hh,hle,hm,hsz,htk⟩
 · cases hno
 simp only [Value.slice.injEq,Option.some.injEq,Addr.mk.injEq,and_true,true_and] at hv
 obtain ⟨rfl,rfl⟩:=hv
 have hcell:∀ j,j < n→w.cell? ⟨g,0+j,none⟩=some (.string (ns.getD j ByteArray.empty)):=fun j hj=>by
  have h1:(ns.map Value.string)[j]? = some (.string ns[j]):=by simp [show j < ns.length by omega]
  rw [← htk,List.getElem?_take_of_lt (by omega)] at h1
  simp only [World.cell?, hh,Nat.zero_add]
  rw [List.getD_eq_getElem?_getD,List.getElem?_eq_getElem (by omega)]
  simpa using h1
 have hfr:∀ j,j < n→w.frozen? ⟨g,0+j,none⟩=false:=fun j _=>freeOfHeap hh _
 have hd:=Try.slices_Delete_string_cells g 0 n cap i (i+1) (fun j=>ns.getD j ByteArray.empty) w hle (by unfold maxLen at hm;omega) (by omega) (by omega) hcell hfr
 have hs:Lib.strsOf (fun j=>ns.getD j ByteArray.empty) n=ns.map fun (y:ByteArray)=>y.data.toList:=by
  unfold Lib.strsOf
  apply List.ext_getElem
  · simp [hn]
  · intro k h1 h2
    simp at h1 h2
    simp [List.getD,h2]
 rw [hs] at hd
 refine hd.mono ?_
 rintro e w' ⟨rfl,q,rfl⟩
 have hvs:(((ns.map fun (y:ByteArray)=>y.data.toList).take i++(ns.map fun (y:ByteArray)=>y.data.toList).drop (i+1)++List.replicate (i+1 - i) []).map encStr)=((ns.take i++ns.drop (i+1)).map Value.string)++[.string ByteArray.empty]:=by
  rw [show i+1 - i=1 by omega,List.map_append,List.map_append,← List.map_take,← List.map_drop,List.map_map,List.map_map,List.map_append]
  rfl
 rw [hvs]
 have hlen:((ns.take i++ns.drop (i+1)).map Value.string).length=n - 1:=by simp;omega
 have hrow:=ownsRow_sets (((ns.take i++ns.drop (i+1)).map Value.string)++[.string ByteArray.empty]) [] (ns.map Value.string) (w.drewN q) h.own (by rw [List.length_append,hlen,List.length_map];simp;omega)
 rw [List.nil_append,List.length_nil] at hrow
 refine ⟨_,by rw [show n - (i+1 - i)=n - 1 by omega],?_,?_,?_,?_⟩
 · obtain ⟨m,rfl⟩:∃ m,n=m+1:=⟨n - 1,by omega⟩
   exact ownsRow_pop (by rw [hlen];omega) hrow
 · rw [List.length_map] at hlen;exact hlen.symm
 · intro y hy
   rcases List.mem_append.1 hy with h1 | h1
   · exact h.sz y (List.mem_of_mem_take h1)
   · exact h.sz y (List.mem_of_mem_drop h1)
 · have hsz2:∀ (vs:List Value) (o:Nat) (W:World),(W.setCells g o vs).heap.size=W.heap.size:=fun vs=>by
    induction vs with
    | nil=>intro o W;rfl
    | cons a r ih=>intro o W;rw [World.setCells,ih];simp [World.setCell]
   refine h.below.trans ⟨?_,?_,?_,?_,fun k hk=>?_⟩
   · exact World.os_setCells _ _ _ _
   · have:∀ (vs:List Value) (o:Nat) (W:World),(W.setCells g o vs).tape=W.tape:=fun vs=>by
      induction vs with
      | nil=>intro o W;rfl
      | cons a r ih=>intro o W;rw [World.setCells,ih];rfl
     exact this _ _ _
   · exact World.output_setCells _ _ _ _
   · rw [hsz2];exact Nat.le_refl _
   · rw [World.heap_setCells_other _ _ _ _ (by show k < w.heap.size;omega) (by omega)];rfl

def mvF (gone:Bool) (B:Nat):Value:=.func (.func (if gone then 77 else 76)) #[] #[.pointer (some ⟨B,0,none⟩)]
theorem movingOf_any (m:Dm) (w:World) :
 Calls Try.prog 55 #[.agg #[.bool m.gone,.string m.name]] w fun e w'=>e=.returned (mvF m.gone w.heap.size)∧w'=w.alloc (.cells #[.bool m.gone,.string m.name] 60):=by
 obtain ⟨g,nm⟩:=m
 cases g with
 | true =>
   go_enter Try.func55,Try.ntmps55
   go_wp2_with fail
   go_ret
   exact ⟨rfl,rfl⟩
 | false =>
   go_enter Try.func55,Try.ntmps55
   go_wp2_with fail
   go_ret
   exact ⟨rfl,rfl⟩
def mstep (ns:List ByteArray) (m:Dm):Option (List ByteArray) :=
 if m.gone then (match ns.findIdx? (fun y=>sameB y m.name) with | some i=>some (ns.take i++ns.drop (i+1)) | none=>none) else some (ns++[m.name])
theorem make_call (nm:ByteArray) (hz:nm.size≤9223372036854775807) (B:Nat) (ns:List ByteArray) (v:Value) (n:Nat) (w0 w:World) (h:NmOwn w0 w v n ns) (hl:n≤2000) (hB:w.cell? ⟨B,1,none⟩=some (.string nm)) :
 Calls Try.prog 76 #[v,.pointer (some ⟨B,0,none⟩)] w fun e w'=>∃ v',e=.returned (.tuple #[v',.bool true])∧NmOwn w0 w' v' (n+1) (ns++[nm]):=by
 obtain ⟨j0,hj,hy0,hy1,hy2⟩:=infoStrD
 have HJJ:=xH hj;have HY0:=xH hy0;have HY1:=xH hy1;have HY2:=xH hy2
 have H:=xH h
 have hws:=h.below.size
 clear h hj hy0 hy1 hy2
 go_enter Try.func76,Try.ntmps76
 go_wp2_with (at_builtin;(refine append_row _ rfl _ _ 24 rfl w0.heap.size 9 j0 (.string ByteArray.empty) 1 16 Try.underlying24 (xU HJJ) (xU HY0) (xU HY1) (xU HY2) rfl (by decide) v n (ns.map Value.string) rfl (World.ownsRow.alloc (xU H).own _) ⟨w.heap.size,0,none⟩ 1 1 [.string nm] rfl rfl (cell_one w _ _) (fun u hu=>by simp at hu;subst hu;rfl) (by decide) (by unfold maxLen;omega) (by omega) (by simp;omega) ?_;intro v' w5 hown5 hgrow5 hat5;have HO5:=xH hown5;have HB5:=xH (below_grown (by simp;omega) ((xU H).below.alloc (xU H).below.size (.cells #[.string nm] 9)) hgrow5 (fun b e=>((xU H).own.lt b e).1));clear hown5 hgrow5 hat5))
 go_ret2
 refine ⟨v',rfl,by simpa using xU HO5,by simp [(xU H).len],fun y hy=>?_,xU HB5⟩
 rcases List.mem_append.1 hy with h1 | h1
 · exact (xU H).sz y h1
 · simp at h1;rw [h1];exact hz
theorem gone_call (nm:ByteArray) (B:Nat) (ns:List ByteArray) (v:Value) (n:Nat) (w0 w:World) (h:NmOwn w0 w v n ns) (hl:n≤2000) (hB:w.cell? ⟨B,1,none⟩=some (.string nm)) (i:Nat) (hi:ns.findIdx? (fun y=>sameB y nm)=some i) :
 Calls Try.prog 77 #[v,.pointer (some ⟨B,0,none⟩)] w fun e w'=>∃ v',e=.returned (.tuple #[v',.bool true])∧NmOwn w0 w' v' (n - 1) (ns.take i++ns.drop (i+1)):=by
 have hin:i < n:=by have:=(List.findIdx?_eq_some_iff_getElem.1 hi).1;rw [h.len];exact this
 have hx:=index_any v ns nm w h.strs
 have hd:=delete_any ns i w0 w v n h hin h.below.size
 have hii:idxB ns nm=i:=by unfold idxB;rw [hi]
 rw [hii] at hx
 have HX:=xH hx;have HD:=xH hd
 obtain ⟨g,cap,rfl,-,-⟩:=h.own.form (by omega)
 clear h hx hd hii hi
 go_enter Try.func77,Try.ntmps77
 go_wp2_with (first
  | (go_at_call 78;refine (xU HX).mono ?_;rintro e w' ⟨rfl,rfl⟩)
  | (go_at_call 79;refine (xU HD).mono ?_;rintro e w' ⟨v',rfl,hn⟩;have HN:=xH hn;clear hn))
 go_ret2
 exact ⟨v',rfl,xU HN⟩
theorem gone_call_no (nm:ByteArray) (B:Nat) (ns:List ByteArray) (v:Value) (n:Nat) (w0 w:World) (h:NmOwn w0 w v n ns) (hB:w.cell? ⟨B,1,none⟩=some (.string nm)) (hi:ns.findIdx? (fun y=>sameB y nm)=none) :
 Calls Try.prog 77 #[v,.pointer (some ⟨B,0,none⟩)] w fun e w'=>e=.returned (.tuple #[v,.bool false])∧w'=w:=by
 have hx:=index_any v ns nm w h.strs
 have hii:idxB ns nm=-1:=by unfold idxB;rw [hi]
 rw [hii] at hx
 have HX:=xH hx
 clear h hx hii hi
 go_enter Try.func77,Try.ntmps77
 go_wp2_with (go_at_call 78;refine (xU HX).mono ?_;rintro e w' ⟨rfl,rfl⟩)
 go_ret2
 exact ⟨rfl,rfl⟩

def FnAt (P:Nat→Prop) (w:World) (v:Value) (ms:List Dm):Prop :=
 ∃ a cap,v=.slice a ms.length cap∧(ms.length≤cap∧(a=none→cap=0))∧cap≤9223372036854775807 ∧
   ∀ i,(h:i < ms.length)→∃ b B,a=some ⟨b,0,none⟩∧P b∧P B∧w.cell? ⟨b,i,none⟩=some (mvF ms[i].gone B)∧w.cell? ⟨B,1,none⟩=some (.string ms[i].name)∧ms[i].okM
theorem FnAt.carry {P Q:Nat→Prop} {w w':World} {v:Value} {ms:List Dm} (h:FnAt P w v ms) (hP:∀ b,P b→w'.heap[b]? = w.heap[b]?) (hQ:∀ b,P b→Q b):FnAt Q w' v ms:=by
 obtain ⟨a,cap,h1,h2,h3,h4⟩:=h
 refine ⟨a,cap,h1,h2,h3,fun i hi=>?_⟩
 obtain ⟨b,B,e,hb,hB,c1,c2,hk⟩:=h4 i hi
 exact ⟨b,B,e,hQ b hb,hQ B hB,by rw [World.cell?_of_block (w:=w) (hP b hb)];exact c1,by rw [World.cell?_of_block (w:=w) (hP B hB)];exact c2,hk⟩
def mfold (ns:List ByteArray) (ms:List Dm):Option (List ByteArray):=ms.foldl (fun o m=>o.bind fun l=>mstep l m) (some ns)
theorem mfold_take {ns:List ByteArray} {ms:List Dm} {k:Nat} (hk:k < ms.length):mfold ns (ms.take (k+1))=(mfold ns (ms.take k)).bind fun l=>mstep l ms[k]:=by
 unfold mfold
 rw [List.take_succ_eq_append_getElem hk,List.foldl_append];rfl
theorem mfold_none (ms:List Dm):ms.foldl (fun (o:Option (List ByteArray)) m=>o.bind fun l=>mstep l m) none=none:=by
 induction ms with
 | nil=>rfl
 | cons m r ih=>exact ih
theorem mfold_stop {ns:List ByteArray} {ms:List Dm} {k q:Nat} (h:mfold ns (ms.take k)=none) (hk:k≤q):mfold ns (ms.take q)=none:=by
 have e:ms.take q=ms.take k++(ms.take q).drop k:=by
  have:=List.take_append_drop k (ms.take q)
  rw [List.take_take,Nat.min_eq_left hk] at this
  exact this.symm
 unfold mfold at h ⊢
 rw [e,List.foldl_append,h,mfold_none]
def MvEnd (w w':World) (e:Ending):Option (List ByteArray)→Prop
 | none=>e=.returned (.tuple #[.slice none 0 0,.bool false])∧Below w.heap.size w w'
 | some l=>∃ v',e=.returned (.tuple #[v',.bool true])∧NmOwn w w' v' l.length l
def fiveV (p0 p1 vn p2 vm:Value):Nat→Value
 | 0=>p0
 | 1=>p1
 | 2=>vn
 | 3=>p2
 | _=>vm
theorem fiveV_alloc (w:World) (c0 c1 c2 c3 c4:Value) (t:TypeId):(w.alloc (.cells #[c0,c1,c2,c3,c4] t)).rowIs w.heap.size t 5 (fiveV c0 c1 c2 c3 c4) :=
 World.rowIs_alloc w #[c0,c1,c2,c3,c4] t _ (fun i hi=>by
  have hi':i < 5:=hi
  match i,hi' with
  | 0,_=>rfl
  | 1,_=>rfl
  | 2,_=>rfl
  | 3,_=>rfl
  | 4,_=>rfl)
theorem moved_any (ns:List ByteArray) (ms:List Dm) (p0 p1 vn p2 vm:Value) (P:Nat→Prop) (w:World) (hP:∀ b,P b→b < w.heap.size) (hn:StrsAt P w vn ns) (hf:FnAt P w vm ms) (q:Nat) (hq:q≤ms.length) (hl1:ns.length≤1000) (hl2:ms.length≤1000) :
 Calls Try.prog 56 #[.agg #[p0,p1,vn,p2,vm],.int .i64 (q:Int)] w fun e w'=>MvEnd w w' e (mfold ns (ms.take q)):=by
 have hbx:∀ o,Below w.heap.size w (w.alloc o):=fun o=>(Below.refl _ _).alloc (Nat.le_refl _) o
 have HCL:=xH (fun o=>cloneNs_any vn ns (w.alloc o) (P:=P) (hn.carry (fun b hb=>(hbx o).block b (hP b hb)) (fun _ h=>h)) (by omega))
 obtain ⟨am,cm,rfl,⟨hcm,hcn⟩,hcm2,hfc⟩:=hf
 have HFC:=xH hfc;have HP:=xH hP;have HBX:=xH hbx
 have HROW:=xH (fiveV_alloc w p0 p1 vn p2 (.slice am ms.length cm) 71)
 clear hn hfc hP hbx
 go_enter Try.func56,Try.ntmps56
 go_wp2_with fail
 refine (xU HCL _).mono ?_
 rintro e w1 ⟨v1,rfl,hnm⟩
 have hb1:=hnm.below
 have hs1:w.heap.size+1≤w1.heap.size:=by have:=hb1.size;simpa using this
 have hq1:=(xU HROW).of_block (hb1.block w.heap.size (by simp))
 have k4:=hq1.cell (i:=4) (by omega)
 simp only [fiveV] at k4
 have HNM:=xH hnm
 have hb01:=(xU HBX (.cells #[p0,p1,vn,p2,.slice am ms.length cm] 71)).trans (hb1.mono (xU HBX _).size)
 have HB01:=xH hb01
 have hqi0:(0:Int)≤(q:Int):=by omega
 have hqi1:(q:Int)≤(cm:Int):=by omega
 clear hnm hb1 hq1 hb01 HCL
 cases am with
 | none =>
   have hcm0:=hcn rfl
   subst hcm0
   obtain rfl:q=0:=by omega
   go_wp2_with fail
   go_loopw [6,20] (fun vo i wr=>vo=v1∧i=.int .i64 0∧wr=w1) (fun _ i _=>0)
   case atStart=>exact ⟨rfl,rfl,rfl⟩
   case round =>
    obtain ⟨rfl,rfl,rfl⟩:=hrel
    go_wp2_with fail
    go_ret2
    refine ⟨_,rfl,?_⟩
    exact ⟨ownsRow_base (xU HNM).own (xU HBX _).size,(xU HNM).len,(xU HNM).sz,xU HB01⟩
 | some ad =>
   go_wp2_with fail
   have HN1:=xH (show mfold ns (ms.take 0)=some ns from rfl)
   generalize hW1:w.alloc (.cells #[p0,p1,vn,p2,.slice (some ad) ms.length cm] 71)=W1 at *
   have hsW:W1.heap.size=w.heap.size+1:=by rw [← hW1];simp
   have hbW:Below w.heap.size w W1:=by rw [← hW1];exact xU HBX _
   have HBW:=xH hbW;have HSW:=xH hsW
   clear k4 hW1 hbW hsW
   go_loopw [6,20] (fun vo i wr=>∃ (k:Nat) (l:List ByteArray) (vk:Value),k≤q∧i=.int .i64 k∧vk=vo∧l.length≤ns.length+k∧Hid (mfold ns (ms.take k)=some l)∧Hid (NmOwn W1 wr vk l.length l)) (fun _ i _=>q - (intOf i).toNat)
   case atStart=>exact ⟨0,ns,_,Nat.zero_le _,rfl,rfl,by omega,xU HN1,xU HNM⟩
   case round =>
    obtain ⟨k,l,vk,hk,rfl,rfl,hll,HF,HK⟩:=hrel
    have hbk:=HK.out.below
    by_cases hlt:k < q
    rotate_left
    · obtain rfl:k=q:=by omega
      clear hbk
      go_wp2_with fail
      go_ret2
      rw [HF.out]
      exact ⟨_,rfl,ownsRow_base HK.out.own (by have:=xU HSW;omega),HK.out.len,HK.out.sz,(xU HBW).trans (HK.out.below.mono (by have:=xU HSW;omega))⟩
    · have hlm:k < ms.length:=by omega
      obtain ⟨b,B,hab,hpb,hpB,c1,c2,hok⟩:=xU HFC k hlm
      simp only [Option.some.injEq] at hab
      subst hab
      have hbb:=xU HP b hpb;have hbB:=xU HP B hpB
      have e1:wr.cell? ⟨b,k,none⟩=some (mvF ms[k].gone B):=by
       rw [World.cell?_of_block (w:=w) ((hbk.block b (by have:=xU HSW;omega)).trans ((xU HBW).block b hbb))];exact c1
      have e2:wr.cell? ⟨B,1,none⟩=some (.string ms[k].name):=by
       rw [World.cell?_of_block (w:=w) ((hbk.block B (by have:=xU HSW;omega)).trans ((xU HBW).block B hbB))];exact c2
      have HT:=xH (mfold_take (ns:=ns) hlm)
      have hmz:ms[k].name.size≤9223372036854775807:=hok
      have HBK:=xH ((xU HBW).trans (hbk.mono (by have:=xU HSW;omega)))
      clear c1 c2 hpb hpB hbb hbB hok hbk
      generalize ms[k]=m at *
      obtain ⟨g,nm⟩:=m
      simp only at e1 e2 hmz
      cases g with
      | false =>
        simp only [mvF,Bool.false_eq_true,if_false] at e1
        have HCA:=xH (make_call nm hmz B l vk l.length W1 wr HK.out (by omega) e2)
        have HTT:=xH (show mfold ns (ms.take (k+1))=some (l++[nm]) by rw [xU HT,HF.out];rfl)
        go_wp2_with fail
        refine (xU HCA).mono ?_
        rintro e w5 ⟨v5,rfl,hn5⟩
        have HN5:=xH hn5
        clear hn5
        go_wp2_with fail
        go_roundw
        case rel=>exact ⟨k+1,l++[nm],_,by omega,by go_num,rfl,by simp;omega,xU HTT,xH (by simpa using xU HN5)⟩
        case measure=>simp [intOf];omega
      | true =>
        simp only [mvF,if_true] at e1
        cases hfi:l.findIdx? (fun y=>sameB y nm) with
        | none =>
          have HCA:=xH (gone_call_no nm B l vk l.length W1 wr HK.out e2 hfi)
          have HTT:=xH (show mfold ns (ms.take q)=none from mfold_stop (k:=k+1) (by rw [xU HT,HF.out];simp [mstep,hfi]) (by omega))
          clear hfi
          go_wp2_with fail
          refine (xU HCA).mono ?_
          rintro e w5 ⟨rfl,rfl⟩
          go_wp2_with fail
          go_ret2
          rw [xU HTT]
          exact ⟨rfl,xU HBK⟩
        | some i =>
          have hil:=(List.findIdx?_eq_some_iff_getElem.1 hfi).1
          have HCA:=xH (gone_call nm B l vk l.length W1 wr HK.out (by omega) e2 i hfi)
          have HTT:=xH (show mfold ns (ms.take (k+1))=some (l.take i++l.drop (i+1)) by rw [xU HT,HF.out];simp [mstep,hfi])
          have hl5:(l.take i++l.drop (i+1)).length=l.length - 1:=by simp;omega
          have HL5:=xH hl5
          clear hfi hl5
          go_wp2_with fail
          refine (xU HCA).mono ?_
          rintro e w5 ⟨v5,rfl,hn5⟩
          rw [← xU HL5] at hn5
          have HN5:=xH hn5
          clear hn5
          go_wp2_with fail
          go_roundw
          case rel=>exact ⟨k+1,l.take i++l.drop (i+1),_,by omega,by go_num,rfl,by rw [xU HL5];omega,xU HTT,xU HN5⟩
          case measure=>simp [intOf];omega

def fcells (ms:List Dm) (Bs:List Nat):List Value:=List.zipWith (fun m B=>mvF m.gone B) ms Bs
theorem fcells_snoc {ms:List Dm} {Bs:List Nat} (h:Bs.length=ms.length) (m:Dm) (B:Nat):fcells (ms++[m]) (Bs++[B])=fcells ms Bs++[mvF m.gone B]:=by
 unfold fcells
 rw [List.zipWith_append h.symm];rfl
structure Mvs (V:Nat) (W:World) (vm:Value) (ms:List Dm) (Bs:List Nat):Prop where
 len:Bs.length=ms.length
 own:W.ownsRow (V+1) 98 1 vm ms.length (fcells ms Bs)
 box:∀ j (h:j < ms.length) (h2:j < Bs.length),V+1≤Bs[j]∧W.heap[Bs[j]]? = some (.cells #[.bool ms[j].gone,.string ms[j].name] 60)
theorem Mvs.start (V:Nat) (W:World):Mvs V W (.slice none 0 0) [] []:=⟨rfl,⟨rfl,Or.inl ⟨rfl,rfl⟩⟩,fun j h=>by simp at h⟩
theorem Mvs.alloc {V:Nat} {W:World} {vm:Value} {ms:List Dm} {Bs:List Nat} (h:Mvs V W vm ms Bs) (o:Obj):Mvs V (W.alloc o) vm ms Bs :=
 ⟨h.len,h.own.alloc o,fun j h1 h2=>⟨(h.box j h1 h2).1,by
  have h3:=(h.box j h1 h2).2
  rw [Below.heap_alloc _ _ _ (Array.getElem?_eq_some_iff.1 h3).1];exact h3⟩⟩
theorem Mvs.drew {V:Nat} {W:World} {vm:Value} {ms:List Dm} {Bs:List Nat} (h:Mvs V W vm ms Bs):Mvs V W.drew vm ms Bs:=⟨h.len,h.own,h.box⟩
theorem Mvs.set {V:Nat} {W:World} {vm:Value} {ms:List Dm} {Bs:List Nat} (h:Mvs V W vm ms Bs) (o:Nat) (u:Value):Mvs V (W.setCell ⟨V,o,none⟩ u) vm ms Bs :=
 ⟨h.len,ownsRow_setCell_below h.own (a:=⟨V,o,none⟩) (Nat.lt_succ_self V) u,fun j h1 h2=>⟨(h.box j h1 h2).1,by
  rw [Below.heap_setCell _ _ _ _ (by have:=(h.box j h1 h2).1;show Bs[j]≠V;omega)];exact (h.box j h1 h2).2⟩⟩
theorem Mvs.snoc {V:Nat} {W W':World} {vm vm':Value} {ms:List Dm} {Bs:List Nat} (h:Mvs V W vm ms Bs) (m:Dm) (B:Nat) (hB:V+1≤B) (hbox:W.heap[B]? = some (.cells #[.bool m.gone,.string m.name] 60))
 (hown:W'.ownsRow (V+1) 98 1 vm' (ms.length+1) (fcells ms Bs++[mvF m.gone B])) (hg:W.grownBy W' vm.ownBlock):Mvs V W' vm' (ms++[m]) (Bs++[B]):=by
 have hne:∀ b m',W.heap[b]? = some (Obj.cells m' 60 (0,0))→vm.ownBlock≠some b:=fun b m' hb e=>by
  rcases h.own.2 with ⟨hv,_⟩ | ⟨g,cap,cur,hv,_,hh,_⟩
  · rw [hv] at e;cases e
  · rw [hv] at e
    simp only [Value.ownBlock,Option.some.injEq] at e
    subst e
    rw [hh] at hb
    simp only [Option.some.injEq,Obj.cells.injEq] at hb
    exact absurd hb.2.1 (by decide)
 have keep:∀ (b:Nat) (m':Array Value),W.heap[b]? = some (Obj.cells m' 60 (0,0))→W'.heap[b]? = some (Obj.cells m' 60 (0,0)):=fun b m' hb=>by
  rw [hg.block b (Array.getElem?_eq_some_iff.1 hb).1 (fun e=>hne b m' hb e.symm)];exact hb
 refine ⟨by simp [h.len],?_,fun j h1 h2=>?_⟩
 · rw [List.length_append,fcells_snoc h.len];exact hown
 · by_cases hj:j < ms.length
   · have hj2:j < Bs.length:=by rw [h.len];exact hj
     rw [List.getElem_append_left hj,List.getElem_append_left hj2]
     exact ⟨(h.box j hj hj2).1,keep _ _ (h.box j hj hj2).2⟩
   · have e:j=ms.length:=by simp at h1;omega
     subst e
     have e2:(Bs++[B])[ms.length]'h2=B:=by
      rw [List.getElem_append_right (by rw [h.len];exact Nat.le_refl _)];simp [h.len]
     have e3:(ms++[m])[ms.length]'h1=m:=by simp
     rw [e2,e3]
     exact ⟨hB,keep _ _ hbox⟩
theorem Mvs.fns {V:Nat} {w W:World} {vm:Value} {ms:List Dm} {Bs:List Nat} (h:Mvs V W vm ms Bs) (hV:w.heap.size≤V) (hok:∀ m,m∈ms→m.okM):FnAt (New w W) W vm ms:=by
 rcases h.own.2 with ⟨hv,h0⟩ | ⟨g,cap,cur,hv,hb,hh,hle,hm,hsz,htk⟩
 · exact ⟨none,0,by rw [h0];exact hv,⟨by omega,fun _=>rfl⟩,by omega,fun i hi=>by omega⟩
 · refine ⟨some ⟨g,0,none⟩,cap,hv,⟨hle,fun e=>by cases e⟩,by unfold maxLen at hm;omega,fun i hi=>?_⟩
   have hi2:i < Bs.length:=by rw [h.len];exact hi
   obtain ⟨b1,b2⟩:=h.box i hi hi2
   have b3:=(Array.getElem?_eq_some_iff.1 b2).1
   refine ⟨g,Bs[i],rfl,⟨by omega,(Array.getElem?_eq_some_iff.1 hh).1⟩,⟨by omega,b3⟩,?_,?_,hok _ (List.getElem_mem hi)⟩
   · have h1:(fcells ms Bs)[i]? = some (mvF ms[i].gone Bs[i]):=by
      unfold fcells
      rw [List.getElem?_eq_getElem (by rw [List.length_zipWith];omega),List.getElem_zipWith]
     rw [← htk,List.getElem?_take_of_lt (by omega)] at h1
     simp only [World.cell?, hh]
     simpa using h1
   · simp [World.cell?, b2]

def nameByte (c:UInt8):Bool:=(97≤c.toNat && c.toNat≤122) || (48≤c.toNat && c.toNat≤57)
def nameFirst (c:UInt8):Bool:=97≤c.toNat && c.toNat≤122
def allTo (p:UInt8→Bool) (s:ByteArray) (k:Nat):Prop:=∀ j,j < k→(h:j < s.size)→p s[j]=true
def nameOkB (s:ByteArray):Bool:=1≤s.size && s.size≤8 && nameFirst s[0]! && s.data.toList.all nameByte
theorem all_of {p:UInt8→Bool} {s:ByteArray} (h:allTo p s s.size):s.data.toList.all p=true:=by
 rw [List.all_eq_true]
 intro x hx
 obtain ⟨i,hi,rfl⟩:=List.getElem_of_mem hx
 have hi':i < s.size:=by simpa using hi
 exact h i hi' hi'
theorem all_not {p:UInt8→Bool} {s:ByteArray} {k:Nat} (hk:k < s.size) (h:p s[k]=false):s.data.toList.all p=false:=by
 rw [Bool.eq_false_iff]
 intro ha
 rw [List.all_eq_true] at ha
 have:=ha s[k] (by have:s[k]=s.data.toList[k]'(by simpa using hk):=rfl;rw [this];exact List.getElem_mem _)
 rw [h] at this
 cases this
theorem ret_bool {b c:Bool} (h:b=c):Ending.returned (.bool b)=.returned (.bool c):=by rw [h]
theorem allTo_succ {p:UInt8→Bool} {s:ByteArray} {k:Nat} (h:allTo p s k) (hk:k < s.size) (hp:p s[k]=true):allTo p s (k+1):=by
 intro j hj hs
 by_cases e:j=k
 · subst e;exact hp
 · exact h j (by omega) hs
theorem nameByte_yes {c:UInt8} (h:(97≤c.toNat∧c.toNat≤122)∨(48≤c.toNat∧c.toNat≤57)):nameByte c=true:=by
 unfold nameByte;rcases h with h | h <;> simp [h.1,h.2]
theorem nameByte_no {c:UInt8} (h:c.toNat < 48∨(57 < c.toNat∧c.toNat < 97)∨122 < c.toNat):nameByte c=false:=by
 unfold nameByte
 simp only [Bool.or_eq_false_iff,Bool.and_eq_false_iff,decide_eq_false_iff_not]
 omega
theorem nameOk_len {s:ByteArray} (h:s.size < 1∨8 < s.size):nameOkB s=false:=by
 unfold nameOkB
 rcases h with h | h
 · rw [show decide (1≤s.size)=false from decide_eq_false (by omega)];rfl
 · rw [show decide (s.size≤8)=false from decide_eq_false (by omega)];simp
theorem nameOk_first {s:ByteArray} (h0:0 < s.size) (h:s[0].toNat < 97∨122 < s[0].toNat):nameOkB s=false:=by
 unfold nameOkB
 rw [getElem!_pos s 0 h0,show nameFirst s[0]=false from by unfold nameFirst;simp only [Bool.and_eq_false_iff,decide_eq_false_iff_not];omega]
 simp
theorem nameOk_not {s:ByteArray} {k:Nat} (hk:k < s.size) (h:nameByte s[k]=false):nameOkB s=false:=by
 simp [nameOkB,all_not hk h]
theorem nameOk_yes {s:ByteArray} (h1:0 < s.size) (h2:s.size≤8) (hf:97≤s[0].toNat∧s[0].toNat≤122) (ha:allTo nameByte s s.size):nameOkB s=true:=by
 unfold nameOkB
 rw [all_of ha,getElem!_pos s 0 h1,show nameFirst s[0]=true from by unfold nameFirst;simp [hf.1,hf.2]]
 simp;omega
def good (ns:List ByteArray) (i:Nat):Bool:=nameOkB (ns.getD i ByteArray.empty) && (decide (i=0) || Op.bytesLess (ns.getD (i - 1) ByteArray.empty).toList (ns.getD i ByteArray.empty).toList)

def digitB (c:UInt8):Bool:=48≤c.toNat && c.toNat≤57
theorem digit_yes {c:UInt8} (h:48≤c.toNat∧c.toNat≤57):digitB c=true:=by unfold digitB;simp [h.1,h.2]
theorem digit_no {c:UInt8} (h:c.toNat < 48∨57 < c.toNat):digitB c=false:=by
 unfold digitB;simp only [Bool.and_eq_false_iff,decide_eq_false_iff_not];omega
theorem nameByte_digit {c:UInt8} (h:c.toNat < 97∨122 < c.toNat):nameByte c=digitB c:=by
 unfold nameByte digitB
 rw [show (decide (97≤c.toNat) && decide (c.toNat≤122))=false from by simp only [Bool.and_eq_false_iff,decide_eq_false_iff_not];omega]
 rfl
theorem isDigit_any (c:UInt8) (w:World):Calls Try.prog 80 #[.int .u8 c.toNat] w fun e w'=>e=.returned (.bool (digitB c))∧w'=w:=by
 have hc:(48≤c.toNat∧c.toNat≤57)∨c.toNat < 48∨57 < c.toNat:=by omega
 rcases hc with hc | hc | hc
 · have HB:=xH (digit_yes hc)
   obtain ⟨h1,h2⟩:=hc
   have d2:decide ((c.toNat:Int)≤57)=true:=by simp;omega
   go_enter Try.func80,Try.ntmps80
   go_wp2_with fail
   go_ret
   exact ⟨ret_bool (xU HB).symm,rfl⟩
 · have HB:=xH (digit_no (Or.inl hc))
   go_enter Try.func80,Try.ntmps80
   go_wp2_with fail
   go_ret
   exact ⟨ret_bool (xU HB).symm,rfl⟩
 · have HB:=xH (digit_no (Or.inr hc))
   have d2:decide ((c.toNat:Int)≤57)=false:=by simp;omega
   go_enter Try.func80,Try.ntmps80
   go_wp2_with fail
   go_ret
   exact ⟨ret_bool (xU HB).symm,rfl⟩
theorem isNameByte_any (c:UInt8) (w:World):Calls Try.prog 81 #[.int .u8 c.toNat] w fun e w'=>e=.returned (.bool (nameByte c))∧w'=w:=by
 have hc:(97≤c.toNat∧c.toNat≤122)∨c.toNat < 97∨122 < c.toNat:=by omega
 rcases hc with hc | hc | hc
 · have HN:=xH (nameByte_yes (Or.inl hc))
   obtain ⟨h1,h2⟩:=hc
   have d2:decide ((c.toNat:Int)≤122)=true:=by simp;omega
   go_enter Try.func81,Try.ntmps81
   go_wp2_with (go_at_call 80;refine (isDigit_any _ _).mono ?_;rintro e w' ⟨rfl,rfl⟩)
   go_ret
   exact ⟨ret_bool (xU HN).symm,rfl⟩
 · have HN:=xH (nameByte_digit (Or.inl hc))
   go_enter Try.func81,Try.ntmps81
   go_wp2_with (go_at_call 80;refine (isDigit_any _ _).mono ?_;rintro e w' ⟨rfl,rfl⟩)
   go_ret
   exact ⟨ret_bool (xU HN).symm,rfl⟩
 · have HN:=xH (nameByte_digit (Or.inr hc))
   have d2:decide ((c.toNat:Int)≤122)=false:=by simp;omega
   go_enter Try.func81,Try.ntmps81
   go_wp2_with (go_at_call 80;refine (isDigit_any _ _).mono ?_;rintro e w' ⟨rfl,rfl⟩)
   go_ret
   exact ⟨ret_bool (xU HN).symm,rfl⟩
theorem nameOk_digit {s:ByteArray} (h0:0 < s.size) (h:digitB s[0]=true):nameOkB s=false:=by
 refine nameOk_first h0 ?_
 simp only [digitB,Bool.and_eq_true,decide_eq_true_eq] at h
 omega
theorem nameOk_yes2 {s:ByteArray} (h1:0 < s.size) (h2:s.size≤8) (hf:digitB s[0]=false) (ha:allTo nameByte s s.size):nameOkB s=true:=by
 refine nameOk_yes h1 h2 ?_ ha
 have hb:=ha 0 h1 h1
 simp only [nameByte,digitB,Bool.or_eq_true,Bool.and_eq_true,Bool.and_eq_false_iff,decide_eq_true_eq,decide_eq_false_iff_not] at hb hf
 omega
theorem nameOk_any (s:ByteArray) (w:World) (hs:s.size≤9223372036854775807) :
 Calls Try.prog 61 #[.string s] w fun e w'=>e=.returned (.bool (nameOkB s))∧w'=w:=by
 have hl:s.size < 1∨8 < s.size∨(0 < s.size∧s.size≤8):=by omega
 rcases hl with hl | hl | ⟨hl0,hl8⟩
 · have HN:=xH (nameOk_len (Or.inl hl))
   go_enter Try.func61,Try.ntmps61
   go_wp2_with fail
   go_ret
   exact ⟨ret_bool (xU HN).symm,rfl⟩
 · have HN:=xH (nameOk_len (Or.inr hl))
   go_enter Try.func61,Try.ntmps61
   go_wp2_with fail
   go_ret
   exact ⟨ret_bool (xU HN).symm,rfl⟩
 · by_cases hf:digitB s[0]=true
   · have HN:=xH (nameOk_digit hl0 hf)
     go_enter Try.func61,Try.ntmps61
     go_wp2_with (go_at_call 80;refine (isDigit_any _ _).mono ?_;rintro e w' ⟨rfl,rfl⟩)
     go_ret
     exact ⟨ret_bool (xU HN).symm,rfl⟩
   · have hf':digitB s[0]=false:=by simpa using hf
     have HF:=xH hf'
     clear hf
     go_enter Try.func61,Try.ntmps61
     go_wp2_with (go_at_call 80;refine (isDigit_any _ _).mono ?_;rintro e w' ⟨rfl,rfl⟩)
     go_loop [19] (fun i=>∃ k:Nat,k≤s.size∧i=.int .i64 k∧Hid (allTo nameByte s k)) (fun i=>s.size - (intOf i).toNat)
     case atStart=>exact ⟨0,Nat.zero_le _,rfl,fun j hj=>by omega⟩
     case round =>
      obtain ⟨k,hk,rfl,HA⟩:=hrel
      by_cases hlt:k < s.size
      · by_cases hb:nameByte s[k]=true
        · have HN:=xH (allTo_succ HA.out hlt hb)
          go_wp2_with (go_at_call 81;refine (isNameByte_any _ _).mono ?_;rintro e w' ⟨rfl,rfl⟩)
          go_round
          case rel=>exact ⟨k+1,by omega,by go_num,HN⟩
          case measure=>simp [intOf];omega
        · have hb':nameByte s[k]=false:=by simpa using hb
          clear hb
          have HN:=xH (nameOk_not hlt hb')
          go_wp2_with (go_at_call 81;refine (isNameByte_any _ _).mono ?_;rintro e w' ⟨rfl,rfl⟩)
          go_ret
          exact ⟨ret_bool (xU HN).symm,rfl⟩
      · go_wp2_with fail
        go_ret
        obtain rfl:k=s.size:=by omega
        exact ⟨ret_bool (nameOk_yes2 hl0 hl8 (xU HF) HA.out).symm,rfl⟩

theorem l41After_any (d:Dk) (P:Nat→Prop) (c:C3) (w:World) (hP:∀ b,P b→b < w.heap.size) (hd:DkAt P w d c) (hl1:d.names.length≤1000) (hl2:d.moves.length≤1000) (q:Nat) (hq:q≤d.moves.length) :
 Calls Try.prog 33 #[.agg #[c.c0,c.c1,c.c2],.int .i64 (q:Int)] w fun e w'=>∃ a n cap,e=.returned (.slice a n cap)∧Hid (NmOwn w w' (.slice a n cap) n (afterD d.names (d.moves.take q))):=by
 obtain ⟨c0,c1,c2⟩:=c
 obtain ⟨a0,p0,g0,-,-⟩:=hd.fs.open
 obtain ⟨a1,p1,g1,-,hnc⟩:=hd.ns
 obtain ⟨a2,p2,g2,-,hmc⟩:=hd.ms.open
 simp only at g0 g1 g2
 subst g0 g1 g2
 obtain ⟨j0,hj,hy0,hy1,hy2⟩:=infoStrD
 have HJJ:=xH hj;have HY0:=xH hy0;have HY1:=xH hy1;have HY2:=xH hy2
 have hsz:∀ x,x∈d.names→x.size≤9223372036854775807:=fun x hx=>by
  obtain ⟨i,hi,rfl⟩:=List.getElem_of_mem hx
  obtain ⟨_,_,_,_,_,h⟩:=hnc i hi
  exact h
 obtain ⟨W0,hW0⟩:∃ W0,w.alloc (.cells #[.slice a0 d.files.length p0,.slice a1 d.names.length p1,.slice a2 d.moves.length p2] 27)=W0:=⟨_,rfl⟩
 have hb0:Below w.heap.size w W0:=by rw [← hW0];exact (Below.refl _ _).alloc (Nat.le_refl _) _
 have hs0:W0.heap.size=w.heap.size+1:=by rw [← hW0];simp
 have hrow:W0.rowIs w.heap.size 27 3 (row3 (.slice a0 d.files.length p0) (.slice a1 d.names.length p1) (.slice a2 d.moves.length p2)):=by rw [← hW0];exact row3_alloc w _ _ _ _
 have hemp:=empty_row (base:=W0.heap.size) (size:=1) (World.rowIs_alloc W0 #[] 9 (fun _=>.bool false) (fun i hi=>by simp at hi)) (Nat.le_refl _)
 rw [hs0] at hemp
 have hsrc:=names_srcD (hd.ns.carry (P:=P) (Q:=P) (w':=W0) (fun b hb=>hb0.block b (hP b hb)) (fun _ h=>h)) (.cells #[] 9)
 have hxl:(d.names.map Value.string).length=d.names.length * 1:=by simp
 have hbe:Below W0.heap.size W0 (W0.alloc (.cells #[] 9)):=(Below.refl _ _).alloc (Nat.le_refl _) _
 have hse:(W0.alloc (.cells #[] 9)).heap.size=w.heap.size+2:=by simp [hs0]
 have HROW:=xH hrow;have HEMP:=xH hemp;have HSRC:=xH hsrc;have HSZ:=xH hsz;have HMC:=xH hmc;have HB0:=xH hb0;have HP:=xH hP;have HXL:=xH hxl;have HBE:=xH hbe;have HSE:=xH hse
 clear hd hnc hmc hsz hb0 hrow hemp hsrc hP hj hy0 hy1 hy2 hxl hbe hse
 have HMM:=xH (fun k (hk:k < d.moves.length)=>after_take (ns:=d.names) hk)
 have HM0:=xH (show afterD d.names (d.moves.take 0)=d.names by simp [afterD])
 generalize hnf:d.files.length=nf at *
 generalize hnn:d.names.length=nn at *
 have HNN:=xH hnn
 clear hnf hnn
 subst hW0
 go_enter Try.func33,Try.ntmps33
 go_wp2_with (at_builtin;refine append_copyD _ rfl _ _ 24 rfl (w.heap.size+1) 9 j0 (.string ByteArray.empty) 1 16 Try.underlying24 (xU HJJ) (xU HY0) (xU HY1) (xU HY2) rfl (by decide) (w.heap.size+1) rfl (xU HEMP) a1 nn p1 (d.names.map Value.string) rfl (xU HXL) (xU HSRC) (fun u hu=>by obtain ⟨y,-,rfl⟩:=List.mem_map.1 hu;rfl) (by unfold maxLen;omega) (by omega) (by have:=xU HSE;omega) ?_;intro g cap w2 HO HG)
 have hb2:Below (w.heap.size+1) (w.alloc (.cells #[.slice a0 nf p0,.slice a1 nn p1,.slice a2 d.moves.length p2] 27)) w2 :=
  below_grown (by have:=xU HSE;omega) ((xU HBE).mono (by omega)) HG.out (fun x e=>by cases e;omega)
 have HB2:=xH hb2
 clear hb2 HG HEMP HSRC HBE
 go_loopw [5,6] (fun vo i wr=>∃ (k n:Nat) (ao:Option Addr) (co:Nat),k≤q∧n≤nn+k∧i=.int .i64 k∧vo=.slice ao n co∧Hid (n=(afterD d.names (d.moves.take k)).length)∧Hid (wr.ownsRow (w.heap.size+1) 9 1 (.slice ao n co) n ((afterD d.names (d.moves.take k)).map Value.string))∧Hid (∀ y,y∈afterD d.names (d.moves.take k)→y.size≤9223372036854775807)∧Hid (Below (w.heap.size+1) (w.alloc (.cells #[.slice a0 nf p0,.slice a1 nn p1,.slice a2 d.moves.length p2] 27)) wr)) (fun _ i _=>q - (intOf i).toNat)
 case atStart=>exact ⟨0,nn,_,_,Nat.zero_le _,by omega,rfl,rfl,xH (by rw [xU HM0];exact (xU HNN).symm),xH (by rw [xU HM0];exact HO.out),xH (by rw [xU HM0];exact xU HSZ),HB2⟩
 case round =>
  clear HO HB2
  obtain ⟨k,n,ao,co,hk,hn,rfl,rfl,HQ,HO,HY,HB⟩:=hrel
  have hrow:=(xU HROW).of_block (HB.out.block w.heap.size (by omega))
  have k2:=hrow.cell (i:=2) (by omega)
  simp only [row3] at k2
  have hbs:w.heap.size+1≤wr.heap.size:=by have:=HB.out.size;rw [hs0] at this;exact this
  by_cases hlt:k < q
  · have hlm:k < d.moves.length:=by omega
    obtain ⟨b,o,rfl,hpb,hc0,hc1,hok⟩:=xU HMC k hlm
    have hcar:∀ o',wr.cell? ⟨b,o',none⟩=w.cell? ⟨b,o',none⟩:=fun o'=>by
     have hbl:=xU HP b hpb
     rw [World.cell?_of_block (w:=w) ((HB.out.block b (by omega)).trans ((xU HB0).block b hbl))]
    have e0:wr.cell? ⟨b,o+k * 2,none⟩=some (.bool d.moves[k].gone):=by rw [hcar];exact hc0
    have e1:wr.cell? ⟨b,o+k * 2+1,none⟩=some (.string d.moves[k].name):=by rw [hcar];exact hc1
    have hmz:d.moves[k].name.size≤9223372036854775807:=hok
    have HT:=xH (xU HMM k hlm)
    clear hc0 hc1 hcar hpb hok hrow
    unfold stepD at HT
    cases e:d.moves[k].gone with
    | true =>
      rw [e] at HT e0
      simp only [if_true] at HT
      generalize d.moves[k].name=y at *
      have HW:=xH (l41Without_any (.slice ao n co) (afterD d.names (d.moves.take k)) y wr (fun b hb=>hb.2) (strsAt_own (by rw [← HQ.out];exact HO.out) HY.out) (by have:=HQ.out;omega))
      go_wp2_with fail
      refine (xU HW).mono ?_
      rintro e' w5 ⟨a5,n5,c5,rfl,h5,HO5,hb5⟩
      have HB5:=xH (HB.out.trans (hb5.mono hbs))
      have hl5:=without_len (afterD d.names (d.moves.take k)) y
      have hn5:n5≤nn+k:=by have:=HQ.out;omega
      have H5:=xH h5
      clear hb5 HW hl5 h5
      go_wp2_with fail
      go_roundw
      case rel=>exact ⟨k+1,n5,a5,c5,by omega,by omega,by go_num,rfl,xH (by rw [xU HT];exact xU H5),xH (by rw [xU HT];exact ownsRow_base HO5.out hbs),xH (by
       rw [xU HT]
       exact fun z hz=>HY.out z (List.mem_filter.1 hz).1),HB5⟩
      case measure=>simp [intOf];omega
    | false =>
      rw [e] at HT e0
      simp only [Bool.false_eq_true,if_false] at HT
      generalize d.moves[k].name=y at *
      go_wp2_with (at_builtin;(refine append_row _ rfl _ _ 24 rfl (w.heap.size+1) 9 j0 (.string ByteArray.empty) 1 16 Try.underlying24 (xU HJJ) (xU HY0) (xU HY1) (xU HY2) rfl (by decide) (.slice ao n co) n ((afterD d.names (d.moves.take k)).map Value.string) rfl (World.ownsRow.alloc HO.out _) ⟨wr.heap.size,0,none⟩ 1 1 [.string y] rfl rfl (cell_one wr _ _) (fun u hu=>by simp at hu;subst hu;rfl) (by decide) (by unfold maxLen;omega) (by omega) (by simp;omega) ?_;intro v' w5 hown5 hgrow5 hat5;obtain ⟨g5,cap5,rfl,-,-⟩:=hown5.form (by omega);have HO5:=xH hown5;have HB5:=xH (below_grown (by simp;omega) (HB.out.alloc hbs (.cells #[.string y] 9)) hgrow5 (fun b e=>(HO.out.lt b e).1));clear hown5 hgrow5 hat5))
      go_roundw
      case rel=>exact ⟨k+1,n+1,some ⟨g5,0,none⟩,cap5,by omega,by omega,by go_num,rfl,xH (by rw [xU HT];have:=HQ.out;simp;omega),xH (by
       rw [xU HT]
       have:=xU HO5
       simpa using this),xH (by
       rw [xU HT]
       intro z hz
       rcases List.mem_append.1 hz with h | h
       · exact HY.out z h
       · simp at h;rw [h];exact hmz),HB5⟩
      case measure=>simp [intOf];omega
  · obtain rfl:k=q:=by omega
    go_wp2_with fail
    go_ret
    exact ⟨ao,n,co,rfl,⟨ownsRow_base HO.out (by omega),HQ.out,HY.out,(xU HB0).trans (HB.out.mono (by omega))⟩⟩

theorem l6In_any (n lo hi:Int) (w:World) :
 Calls Try.prog 30 #[.int .i64 n,.int .i64 lo,.int .i64 hi] w fun e w'=>e=.returned (.bool (decide (lo≤n∧n≤hi)))∧w'=w:=by
 by_cases h1:lo≤n
 · by_cases h2:n≤hi
   · go_enter Try.func30,Try.ntmps30
     go_wp2_with fail
     go_ret
     exact ⟨by simp [h1,h2],rfl⟩
   · go_enter Try.func30,Try.ntmps30
     go_wp2_with fail
     go_ret
     exact ⟨ret_bool (by symm;simp;omega),rfl⟩
 · go_enter Try.func30,Try.ntmps30
   go_wp2_with fail
   go_ret
   exact ⟨ret_bool (by symm;simp;omega),rfl⟩
theorem l6NameOk_any (s:ByteArray) (w:World) (hs:s.size≤9223372036854775807) :
 Calls Try.prog 26 #[.string s] w fun e w'=>e=.returned (.bool (nameOkB s))∧w'=w:=by
 by_cases h1:1≤s.size∧s.size≤8
 · obtain ⟨h1,h8⟩:=h1
   have hd:decide ((1:Int)≤s.size∧(s.size:Int)≤8)=true:=by simp;omega
   have hc0:s[0].toNat < 97∨122 < s[0].toNat∨(97≤s[0].toNat∧s[0].toNat≤122):=by omega
   rcases hc0 with hc | hc | hc
   · go_enter Try.func26,Try.ntmps26
     go_wp2_with (go_at_call 30;refine (l6In_any _ _ _ _).mono ?_;rintro e w' ⟨rfl,rfl⟩)
     go_ret
     exact ⟨ret_bool (nameOk_first (by omega) (Or.inl hc)).symm,rfl⟩
   · go_enter Try.func26,Try.ntmps26
     go_wp2_with (go_at_call 30;refine (l6In_any _ _ _ _).mono ?_;rintro e w' ⟨rfl,rfl⟩)
     go_ret
     exact ⟨ret_bool (nameOk_first (by omega) (Or.inr hc)).symm,rfl⟩
   · have HF:=xH hc
     obtain ⟨hca,hcb⟩:=hc
     go_enter Try.func26,Try.ntmps26
     go_wp2_with (go_at_call 30;refine (l6In_any _ _ _ _).mono ?_;rintro e w' ⟨rfl,rfl⟩)
     go_loop [3] (fun i=>∃ k:Nat,k≤s.size∧i=.int .i64 k∧Hid (allTo nameByte s k)) (fun i=>s.size - (intOf i).toNat)
     case atStart=>exact ⟨0,Nat.zero_le _,rfl,fun j hj=>by omega⟩
     case round =>
      obtain ⟨k,hk,rfl,HA⟩:=hrel
      by_cases hlt:k < s.size
      · have hc:s[k].toNat < 48∨(57 < s[k].toNat∧s[k].toNat < 97)∨122 < s[k].toNat∨(97≤s[k].toNat∧s[k].toNat≤122)∨(48≤s[k].toNat∧s[k].toNat≤57):=by omega
        rcases hc with hc | hc | hc | hc | hc
        · have HC:=xH (nameOk_not hlt (nameByte_no (Or.inl hc)))
          have d1:decide ((97:Int)≤s[k].toNat)=false:=by simp;omega
          have d2:decide ((s[k].toNat:Int)≤122)=true:=by simp;omega
          have d3:decide ((48:Int)≤s[k].toNat)=false:=by simp;omega
          have d4:decide ((s[k].toNat:Int)≤57)=true:=by simp;omega
          go_wp2_with fail
          go_ret
          exact ⟨ret_bool (xU HC).symm,rfl⟩
        · have HC:=xH (nameOk_not hlt (nameByte_no (Or.inr (Or.inl hc))))
          obtain ⟨hc1,hc2⟩:=hc
          have d1:decide ((97:Int)≤s[k].toNat)=false:=by simp;omega
          have d2:decide ((s[k].toNat:Int)≤122)=true:=by simp;omega
          have d3:decide ((48:Int)≤s[k].toNat)=true:=by simp;omega
          have d4:decide ((s[k].toNat:Int)≤57)=false:=by simp;omega
          go_wp2_with fail
          go_ret
          exact ⟨ret_bool (xU HC).symm,rfl⟩
        · have HC:=xH (nameOk_not hlt (nameByte_no (Or.inr (Or.inr hc))))
          have d1:decide ((97:Int)≤s[k].toNat)=true:=by simp;omega
          have d2:decide ((s[k].toNat:Int)≤122)=false:=by simp;omega
          have d3:decide ((48:Int)≤s[k].toNat)=true:=by simp;omega
          have d4:decide ((s[k].toNat:Int)≤57)=false:=by simp;omega
          go_wp2_with fail
          go_ret
          exact ⟨ret_bool (xU HC).symm,rfl⟩
        · have HN:=xH (allTo_succ HA.out hlt (nameByte_yes (Or.inl hc)))
          obtain ⟨hc1,hc2⟩:=hc
          have d1:decide ((97:Int)≤s[k].toNat)=true:=by simp;omega
          have d2:decide ((s[k].toNat:Int)≤122)=true:=by simp;omega
          have d3:decide ((48:Int)≤s[k].toNat)=true:=by simp;omega
          have d4:decide ((s[k].toNat:Int)≤57)=false:=by simp;omega
          go_wp2_with fail
          go_round
          case rel=>exact ⟨k+1,by omega,by go_num,HN⟩
          case measure=>simp [intOf];omega
        · have HN:=xH (allTo_succ HA.out hlt (nameByte_yes (Or.inr hc)))
          obtain ⟨hc1,hc2⟩:=hc
          have d1:decide ((97:Int)≤s[k].toNat)=false:=by simp;omega
          have d2:decide ((s[k].toNat:Int)≤122)=true:=by simp;omega
          have d3:decide ((48:Int)≤s[k].toNat)=true:=by simp;omega
          have d4:decide ((s[k].toNat:Int)≤57)=true:=by simp;omega
          go_wp2_with fail
          go_round
          case rel=>exact ⟨k+1,by omega,by go_num,HN⟩
          case measure=>simp [intOf];omega
      · go_wp2_with fail
        go_ret
        obtain rfl:k=s.size:=by omega
        exact ⟨ret_bool (nameOk_yes (by omega) (by omega) (xU HF) HA.out).symm,rfl⟩
 · have hd:decide ((1:Int)≤s.size∧(s.size:Int)≤8)=false:=by simp;omega
   go_enter Try.func26,Try.ntmps26
   go_wp2_with (go_at_call 30;refine (l6In_any _ _ _ _).mono ?_;rintro e w' ⟨rfl,rfl⟩)
   go_ret
   exact ⟨ret_bool (nameOk_len (by omega)).symm,rfl⟩
end Go.Proofs.Yteikmbkljkkjiaa
