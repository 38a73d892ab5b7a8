/- A part. -/
import Derived.Test.YteefjeddboefcaaGreatDoorPart05
namespace Go.Proofs.YteefjeddboefcaaGreatDoor
open Go Go.RowKit
set_option maxRecDepth 100000
set_option maxHeartbeats 3200000
section
variable {P:Program} {ops:Array Oper} {Q:Exit→Act→World→Prop} {S:World→Prop}
def lftB (n:Nat) (ls:List Bool):Nat:=(List.range n).countP fun i=>!ls.getD i true
theorem countP_lt {p q:Nat→Bool} {l:List Nat} (h:∀ x,p x=true→q x=true) {x:Nat} (hx:x∈l) (h1:q x=true) (h2:p x=false):l.countP p < l.countP q:=by
 induction l with
 | nil=>cases hx
 | cons y l ih =>
   rw [List.countP_cons,List.countP_cons]
   have hm:l.countP p≤l.countP q:=List.countP_mono_left fun z _=>h z
   rcases List.mem_cons.1 hx with rfl | hx
   · rw [h1,h2];simp;omega
   · have:=ih hx
     cases hp:p y with
     | false=>simp;omega
     | true=>rw [h y hp];simp;omega
theorem lftB_set {n i:Nat} {ls:List Bool} (hi:i < n) (h:ls.getD i true=false):lftB n (ls.set i true) < lftB n ls:=by
 refine countP_lt (fun x hx=>?_) (List.mem_range.2 hi) (by rw [h];rfl) ?_
 · by_cases e:x=i
   · subst e;rw [h];rfl
   · simpa [List.getD_eq_getElem?_getD,List.getElem?_set,Ne.symm e] using hx
 · rw [List.getD_eq_getElem?_getD] at h
   have hlt:i < ls.length:=by
    rcases Nat.lt_or_ge i ls.length with h1 | h1
    · exact h1
    · rw [List.getElem?_eq_none h1] at h;cases h
   simp [List.getD_eq_getElem?_getD,hlt]
structure NtQ (ops:Array Oper) (Q:Exit→Act→World→Prop):Prop where
 s:Region.noSelect ops=true∧neat ops=true
 q:∀ c a d v w,Q (.panic c) (Act.put a d v) w→Q (.panic c) a w
structure wpT (P:Program) (ops:Array Oper) (Q:Exit→Act→World→Prop) (S:World→Prop) (ls:List Bool) (l:List Value) (ds:List Deferred) (w:World):Prop where
 out:S w→∀ fuel,lftB ops.size ls≤fuel→wpAnyH P .any ops Q S fuel ls.toArray ⟨l.toArray,ds⟩ w
theorem U_start {l:List Value} {ds:List Deferred} {id:Nat} {w:World} (hm:P.follows .mixedOrders=true) (hS:S w.drew) (h:wpT P ops Q S (List.replicate ops.size false) l ds w.drew):(Code.region id ops true).wp P Q ⟨l.toArray,ds⟩ w:=by
 refine wp_region_held (S:=S) hm ?_
 have:=h.out hS ops.size (Nat.le_trans (List.countP_le_length ..) (by simp))
 have e:(List.replicate ops.size false).toArray=Array.replicate ops.size false:=by simp
 rw [e] at this
 exact this
theorem U_yld {ls:List Bool} {l:List Value} {ds:List Deferred} {w:World} (hq:NtQ ops Q) (i:Nat) (d:Option Tmp) (v:Value) (hb:tkG ops ls.toArray i d=true) (hy:S w→YieldsIf P ops S (opI ops i) v ⟨l.toArray,ds⟩) (h:wpT P ops Q S (ls.set i true) (putL l d v) ds w):wpT P ops Q S ls l ds w:=by
 refine ⟨fun hS fuel hf=>?_⟩
 have h1:i < ops.size∧ls.getD i true=false:=by
  unfold tkG at hb
  cases hi:ops[i]? with
  | none=>rw [hi] at hb;cases hb
  | some o =>
    rw [hi] at hb
    simp only [Bool.and_eq_true,Bool.not_eq_true'] at hb
    refine ⟨(Array.getElem?_eq_some_iff.1 hi).1,?_⟩
    have:=hb.1.2
    rw [Array.getD_eq_getD_getElem?] at this
    rw [List.getD_eq_getElem?_getD]
    simpa using this
 have h2:=lftB_set h1.1 h1.2
 obtain ⟨f,rfl⟩:∃ f,fuel=f+1:=⟨fuel - 1,by omega⟩
 refine take_yld i d v hq.s hq.q hb (hy hS) hS ?_
 rw [put_putL]
 have:=h.out hS f (by omega)
 simpa using this
def autoL (P:Program) (ops:Array Oper) (ds:List Deferred):List Nat→List Bool→List Value→List Told→List Bool × List Value × List (TypeId × Value)
 | [],ls,l,_=>(ls,l,[])
 | i::is,ls,l,hs =>
   if tkG ops ls.toArray i (opI ops i).dst then
    if Region.wanted (opI ops i) (yielded ops l.toArray) then
     match (opI ops i).op with
     | .load T x=>match hs with
       | t::hs=>match openL (putL l (opI ops i).dst t.2.2) fun l'=>autoL P ops ds is (ls.set i true) l' hs with
         | (r1,r2,r3)=>(r1,r2,(T,(⟨l.toArray,ds⟩:Act).eval x)::r3)
       | []=>autoL P ops ds is ls l []
     | _=>match quiet P (execOp (⟨l.toArray,ds⟩:Act).eval (opI ops i)) with
       | some (.value v)=>openL (putL l (opI ops i).dst v) fun l'=>autoL P ops ds is (ls.set i true) l' hs
       | _=>autoL P ops ds is ls l hs
    else openL (putL l (opI ops i).dst undef) fun l'=>autoL P ops ds is (ls.set i true) l' hs
   else autoL P ops ds is ls l hs
theorem auto_sound {ds:List Deferred} {w:World} (hq:NtQ ops Q):∀ (is:List Nat) (ls:List Bool) (l:List Value) (hs:List Told) (ls':List Bool) (l':List Value),autoL P ops ds is ls l hs=(ls',l',hs.map tp)→(∀ w,S w→Lds P w hs)→wpT P ops Q S ls' l' ds w→wpT P ops Q S ls l ds w
 | [],ls,l,hs,ls',l',h,_,H=>by
   simp only [autoL,Prod.mk.injEq] at h
   rw [h.1,h.2.1];exact H
 | i::is,ls,l,hs,ls',l',h,hl,H=>by
   unfold autoL at h
   split at h
   · rename_i hb
     split at h
     · rename_i hw
       split at h
       · rename_i T x ho
         cases hs with
         | nil=>exact auto_sound hq is ls l [] ls' l' h hl H
         | cons t hs =>
           obtain ⟨T',ad,v⟩:=t
           simp only [openL_eq] at h
           cases hr:autoL P ops ds is (ls.set i true) (putL l (opI ops i).dst v) hs with
           | mk r1 r =>
             obtain ⟨r2,r3⟩:=r
             rw [hr] at h
             simp only [List.map_cons,Prod.mk.injEq,List.cons.injEq,tp] at h
             obtain ⟨rfl,rfl,⟨rfl,e2⟩,e3⟩:=h
             refine U_yld hq i _ v hb (fun _=>Or.inl ⟨hw,fun w hS=>?_⟩) (auto_sound hq is _ _ hs r1 r2 (by rw [hr,e3]) (fun w hS s hs=>hl w hS s (List.mem_cons_of_mem _ hs)) H)
             have:=hl w hS _ (List.mem_cons_self ..)
             unfold execOp
             simp only [ho,e2,Sem.run_bind,Sem.run_pure]
             simp only [this,Result.andThen_ok]
       · split at h
         · rename_i v hv
           rw [openL_eq] at h
           exact U_yld hq i _ v hb (fun _=>Or.inl ⟨hw,fun w _=>quiet_run hv w⟩) (auto_sound hq is _ _ hs ls' l' h hl H)
         · exact auto_sound hq is ls l hs ls' l' h hl H
     · rename_i hw
       rw [openL_eq] at h
       exact U_yld hq i _ undef hb (fun _=>Or.inr ⟨by simpa using hw,rfl⟩) (auto_sound hq is _ _ hs ls' l' h hl H)
   · exact auto_sound hq is ls l hs ls' l' h hl H
def unl (n:Nat) (r:List Nat):List Bool:=(List.range n).map fun i=>!r.contains i
theorem U_q {ls:List Bool} {l:List Value} {ds:List Deferred} {w:World} (hq:NtQ ops Q) (is r:List Nat) (n N:Nat) (s:List (Nat × Value)) (hs:List Told) (h:(fun r=>(lookL s r.2.1,r.1,r.2.2)) (autoL P ops ds is ls l hs)=((N,s.map (·.2)),unl n r,hs.map tp)) (hl:∀ w,S w→Lds P w hs) (H:∀ v,wpT P ops Q S (unl n r) (frL v N s) ds w):wpT P ops Q S ls l ds w:=by
 cases hr:autoL P ops ds is ls l hs with
 | mk r1 r' =>
   obtain ⟨r2,r3⟩:=r'
   rw [hr] at h
   have h1:=congrArg Prod.fst h
   have h2:=congrArg (fun x=>x.2.1) h
   have h3:=congrArg (fun x=>x.2.2) h
   simp only at h1 h2 h3
   subst h2 h3
   obtain ⟨v,rfl⟩:=look_fr h1
   exact auto_sound hq is ls l hs _ _ hr hl (H v)
def wpO (P:Program) (ops:Array Oper) (Q:Exit→Act→World→Prop) (S:World→Prop) (i:Nat) (ls:List Bool) (l:List Value) (ds:List Deferred) (w:World):Prop :=
 wpOp P ops Q i (fun a' w'=>S w'∧∃ l',a'=⟨l'.toArray,ds⟩∧wpT P ops Q S (ls.set i true) l' ds w') ⟨l.toArray,ds⟩ w
theorem U_all {ls:List Bool} {l:List Value} {ds:List Deferred} {w:World} (rs:List Nat) (hr:Region.ready .any ops ls.toArray=rs) (hne:rs≠[]) (h:∀ i∈rs,S w→wpO P ops Q S i ls l ds w):wpT P ops Q S ls l ds w:=by
 refine ⟨fun hS fuel hf=>?_⟩
 obtain ⟨f,rfl⟩:∃ f,fuel=f+1:=by
  cases rs with
  | nil=>exact absurd rfl hne
  | cons i rs =>
    have hi:i∈Region.ready .any ops ls.toArray:=by rw [hr];exact List.mem_cons_self ..
    unfold Region.ready at hi
    rw [List.mem_filter] at hi
    simp only [Bool.and_eq_true,Bool.not_eq_true'] at hi
    have h2:=lftB_set (List.mem_range.1 hi.1) (by have:=hi.2.1;rw [Array.getD_eq_getD_getElem?] at this;rw [List.getD_eq_getElem?_getD];simpa using this)
    exact ⟨fuel - 1,by omega⟩
 refine wpAnyH_all hr hne fun i hi=>?_
 have hi2:i∈Region.ready .any ops ls.toArray:=by rw [hr];exact hi
 unfold Region.ready at hi2
 rw [List.mem_filter] at hi2
 simp only [Bool.and_eq_true,Bool.not_eq_true'] at hi2
 have h2:=lftB_set (List.mem_range.1 hi2.1) (by have:=hi2.2.1;rw [Array.getD_eq_getD_getElem?] at this;rw [List.getD_eq_getElem?_getD];simpa using this)
 refine wpOp_mono (fun a' w' hh=>?_) (h i hi hS)
 obtain ⟨hS',l',rfl,ht⟩:=hh
 refine ⟨hS',?_⟩
 have:=ht.out hS' f (by omega)
 simpa using this
theorem U_one {ls:List Bool} {l:List Value} {ds:List Deferred} {w:World} (i:Nat) (hr:Region.ready .any ops ls.toArray=[i]) (h:S w→wpO P ops Q S i ls l ds w):wpT P ops Q S ls l ds w :=
 U_all [i] hr (by simp) fun j hj=>by rw [List.mem_singleton.1 hj];exact h
theorem U_two {ls:List Bool} {l:List Value} {ds:List Deferred} {w:World} (i k:Nat) (hr:Region.ready .any ops ls.toArray=[i,k]) (h:S w→wpO P ops Q S i ls l ds w) (h2:S w→wpO P ops Q S k ls l ds w):wpT P ops Q S ls l ds w :=
 U_all [i,k] hr (by simp) fun j hj=>by
  simp only [List.mem_cons,List.not_mem_nil,or_false] at hj
  rcases hj with rfl | rfl
  · exact h
  · exact h2
theorem U_done {ls:List Bool} {l:List Value} {ds:List Deferred} {w:World} (hr:Region.ready .any ops ls.toArray=[]) (h:S w→Q .normal ⟨l.toArray,ds⟩ w):wpT P ops Q S ls l ds w :=
 ⟨fun hS fuel _=>wpAnyH_done hr (h hS) fuel⟩
def entB (P:Program) (ops:Array Oper) (ds:List Deferred) (i:Nat) (l:List Value):Option (Option Tmp × FuncId × Array Value) :=
 if opG ops i (opI ops i).dst && Region.wanted (opI ops i) (yielded ops l.toArray) then
  match quiet P (execOp (⟨l.toArray,ds⟩:Act).eval (opI ops i)) with
  | some (.enter f args)=>some ((opI ops i).dst,f,args)
  | _=>none
 else none
theorem V_enter {i:Nat} {ls:List Bool} {l:List Value} {ds:List Deferred} {w:World} (d:Option Tmp) (f:FuncId) (args:Array Value) {R:Ending→World→Prop} (h:entB P ops ds i l=some (d,f,args)) (hc:Calls P f args w R) (H:∀ e w',R e w'→∃ u,e=.returned u∧S w'∧wpT P ops Q S (ls.set i true) (putL l d u) ds w'):wpO P ops Q S i ls l ds w:=by
 unfold entB at h
 split at h
 · rename_i hb
   simp only [Bool.and_eq_true] at hb
   split at h
   · rename_i f' args' hx
     simp only [Option.some.injEq,Prod.mk.injEq] at h
     obtain ⟨rfl,rfl,rfl⟩:=h
     refine op_enterG _ _ _ hb.1 hb.2 (quiet_run hx w) hc fun e w' he=>?_
     obtain ⟨u,rfl,h1,h2⟩:=H e w' he
     exact ⟨u,rfl,h1,_,put_putL ..,h2⟩
   · cases h
 · cases h
theorem V_val {i:Nat} {ls:List Bool} {l:List Value} {ds:List Deferred} {w w':World} (d:Option Tmp) (v:Value) (hb:opB ops i d=true) (hr:(execOp (⟨l.toArray,ds⟩:Act).eval (opI ops i)).run P w=.ok (.value v) w') (hS:S w') (H:wpT P ops Q S (ls.set i true) (putL l d v) ds w'):wpO P ops Q S i ls l ds w :=
 op_val d v hb hr ⟨hS,_,put_putL ..,H⟩
theorem V_skip {i:Nat} {ls:List Bool} {l:List Value} {ds:List Deferred} {w w':World} (d:Option Tmp) (hb:opB ops i d=true) (hr:(execOp (⟨l.toArray,ds⟩:Act).eval (opI ops i)).run P w=.ok .skip w') (hS:S w') (H:wpT P ops Q S (ls.set i true) (putL l d undef) ds w'):wpO P ops Q S i ls l ds w :=
 op_skip d hb hr ⟨hS,_,put_putL ..,H⟩
theorem F_enter {k:Nat} {l:List Value} {ds:List Deferred} {w:World} (d:Option Tmp) (f:FuncId) (args:Array Value) {R:Ending→World→Prop} (h:entB P ops ds k l=some (d,f,args)) (hc:Calls P f args w R) (H:∀ e w',R e w'→∃ u,e=.returned u∧wpFrom P ops Q (k+1) ⟨(putL l d u).toArray,ds⟩ w'):wpFrom P ops Q k ⟨l.toArray,ds⟩ w:=by
 unfold entB at h
 split at h
 · rename_i hb
   simp only [Bool.and_eq_true] at hb
   split at h
   · rename_i f' args' hx
     simp only [Option.some.injEq,Prod.mk.injEq] at h
     obtain ⟨rfl,rfl,rfl⟩:=h
     refine from_enter _ _ _ hb.1 hb.2 (quiet_run hx w) hc fun e w' he=>?_
     obtain ⟨u,rfl,h1⟩:=H e w' he
     exact ⟨u,rfl,by rw [put_putL];exact h1⟩
   · cases h
 · cases h
def oneB (P:Program) (ops:Array Oper) (ds:List Deferred) (k:Nat) (l:List Value):Option (Option Tmp × Value) :=
 if opG ops k (opI ops k).dst && Region.wanted (opI ops k) (yielded ops l.toArray) then
  match quiet P (execOp (⟨l.toArray,ds⟩:Act).eval (opI ops k)) with
  | some (.value v)=>some ((opI ops k).dst,v)
  | _=>none
 else none
theorem oneB_spec {ds:List Deferred} {k:Nat} {l:List Value} {d:Option Tmp} {v:Value} (h:oneB P ops ds k l=some (d,v)):opG ops k d=true∧Region.wanted (opI ops k) (yielded ops l.toArray)=true∧quiet P (execOp (⟨l.toArray,ds⟩:Act).eval (opI ops k))=some (.value v)∧(opI ops k).dst=d:=by
 unfold oneB at h
 split at h
 · rename_i hb
   simp only [Bool.and_eq_true] at hb
   split at h
   · rename_i v' hx
     simp only [Option.some.injEq,Prod.mk.injEq] at h
     obtain ⟨h1,h2⟩:=h
     exact ⟨h1 ▸ hb.1,hb.2,h2 ▸ hx,h1⟩
   · cases h
 · cases h
theorem F_one {k:Nat} {l:List Value} {ds:List Deferred} {w:World} (d:Option Tmp) (v v':Value) (hv:v=v') (h:oneB P ops ds k l=some (d,v)) (H:wpFrom P ops Q (k+1) ⟨(putL l d v').toArray,ds⟩ w):wpFrom P ops Q k ⟨l.toArray,ds⟩ w:=by
 obtain ⟨h1,h2,h3,-⟩:=oneB_spec h
 refine from_val d v v' hv h1 h2 (quiet_run h3 w) ?_
 rw [put_putL]
 exact H
theorem U_val {i:Nat} {ls:List Bool} {l:List Value} {ds:List Deferred} {w:World} (hq:NtQ ops Q) (d:Option Tmp) (v v':Value) (hv:v=v') (hb:tkG ops ls.toArray i d=true) (h:oneB P ops ds i l=some (d,v)) (H:wpT P ops Q S (ls.set i true) (putL l d v') ds w):wpT P ops Q S ls l ds w:=by
 obtain ⟨h1,h2,h3,-⟩:=oneB_spec h
 subst hv
 exact U_yld hq i d v hb (fun _=>Or.inl ⟨h2,fun w _=>quiet_run h3 w⟩) H
theorem U_a {ls:List Bool} {l:List Value} {ds:List Deferred} {w:World} (hq:NtQ ops Q) (is:List Nat) {hs:List Told} (hl:∀ w,S w→Lds P w hs) (h:(autoL P ops ds is ls l hs).2.2=hs.map tp) (H:wpT P ops Q S (autoL P ops ds is ls l hs).1 (autoL P ops ds is ls l hs).2.1 ds w):wpT P ops Q S ls l ds w:=by
 cases hr:autoL P ops ds is ls l hs with
 | mk r1 r' =>
   obtain ⟨r2,r3⟩:=r'
   rw [hr] at h H
   simp only at h H
   subst h
   exact auto_sound hq is ls l hs r1 r2 hr hl H
theorem U_z {ls:List Bool} {l:List Value} {ds:List Deferred} {w:World} (hq:NtQ ops Q) (is:List Nat) (h:(autoL P ops ds is ls l []).2.2=[]) (H:wpT P ops Q S (autoL P ops ds is ls l []).1 (autoL P ops ds is ls l []).2.1 ds w):wpT P ops Q S ls l ds w :=
 U_a hq is (fun _ _=>Lds.nil) h H
theorem U_fr {ls:List Bool} {l:List Value} {ds:List Deferred} {w:World} (n N:Nat) (r:List Nat) (s:List (Nat × Value)) (h:(ls,lookL s l)=(unl n r,(N,s.map (·.2)))) (H:∀ v,wpT P ops Q S (unl n r) (frL v N s) ds w):wpT P ops Q S ls l ds w:=by
 have h1:=congrArg Prod.fst h
 have h2:=congrArg Prod.snd h
 simp only at h1 h2
 subst h1
 obtain ⟨v,rfl⟩:=look_fr h2
 exact H v
theorem U_end {ls:List Bool} {l:List Value} {ds:List Deferred} {w:World} (N:Nat) (s:List (Nat × Value)) (hr:Region.ready .any ops ls.toArray=[]) (h:lookL s l=(N,s.map (·.2))) (H:S w→∀ v,Q .normal ⟨(frL v N s).toArray,ds⟩ w):wpT P ops Q S ls l ds w:=by
 obtain ⟨v,rfl⟩:=look_fr h
 exact U_done hr fun hS=>H hS v
def callB (P:Program) (ops:Array Oper) (ds:List Deferred) (i:Nat) (l:List Value):Option (FuncId × Array Value):=(entB P ops ds i l).map (·.2)
theorem callB_spec {ds:List Deferred} {i:Nat} {l:List Value} {f:FuncId} {args:Array Value} (h:callB P ops ds i l=some (f,args)):entB P ops ds i l=some ((opI ops i).dst,f,args):=by
 unfold callB at h
 rw [Option.map_eq_some_iff] at h
 obtain ⟨⟨d,f',a'⟩,h1,h2⟩:=h
 simp only [Prod.mk.injEq] at h2
 obtain ⟨rfl,rfl⟩:=h2
 rw [h1]
 unfold entB at h1
 split at h1
 · split at h1
   · simp only [Option.some.injEq,Prod.mk.injEq] at h1
     rw [h1.1]
   · cases h1
 · cases h1
theorem V_go {i:Nat} {ls:List Bool} {l:List Value} {ds:List Deferred} {w:World} {f:FuncId} {args:Array Value} {R:Ending→World→Prop} (hc:Calls P f args w R) (h:callB P ops ds i l=some (f,args)) (H:∀ e w',R e w'→∃ u,e=.returned u∧S w'∧wpT P ops Q S (ls.set i true) (putL l (opI ops i).dst u) ds w'):wpO P ops Q S i ls l ds w :=
 V_enter _ f args (callB_spec h) hc H
theorem V_call {i:Nat} {ls:List Bool} {l:List Value} {ds:List Deferred} {w:World} {f:FuncId} {args:Array Value} {u:Value} {T:World→Prop} (hc:Calls P f args w fun e w'=>e=.returned u∧T w') (hon:∀ w',T w'→S w') (h:callB P ops ds i l=some (f,args)) (H:∀ w',T w'→wpT P ops Q S (ls.set i true) (putL l (opI ops i).dst u) ds w'):wpO P ops Q S i ls l ds w :=
 V_go hc h fun _ w' ⟨he,hT⟩=>⟨u,he,hon w' hT,H w' hT⟩
theorem F_go {k:Nat} {l:List Value} {ds:List Deferred} {w:World} {f:FuncId} {args:Array Value} {R:Ending→World→Prop} (hc:Calls P f args w R) (h:callB P ops ds k l=some (f,args)) (H:∀ e w',R e w'→∃ u,e=.returned u∧wpFrom P ops Q (k+1) ⟨(putL l (opI ops k).dst u).toArray,ds⟩ w'):wpFrom P ops Q k ⟨l.toArray,ds⟩ w :=
 F_enter _ f args (callB_spec h) hc H
theorem F_call {k:Nat} {l:List Value} {ds:List Deferred} {w:World} {f:FuncId} {args:Array Value} {u:Value} {T:World→Prop} (hc:Calls P f args w fun e w'=>e=.returned u∧T w') (h:callB P ops ds k l=some (f,args)) (H:∀ w',T w'→wpFrom P ops Q (k+1) ⟨(putL l (opI ops k).dst u).toArray,ds⟩ w'):wpFrom P ops Q k ⟨l.toArray,ds⟩ w :=
 F_go hc h fun _ w' ⟨he,hT⟩=>⟨u,he,H w' hT⟩
theorem Lds.one {w:World} {T:TypeId} {ad:Addr} {v:Value} (h:(Instr.loadAt T (.pointer (some ad))).run P w=.ok v w):Lds P w [(T,ad,v)]:=h |> (Lds.cons · .nil)
theorem from_a {k:Nat} {l:List Value} {ds:List Deferred} {w:World} (n:Nat) {hs:List Told} (hl:Lds P w hs) (h:(fromL P ops ds n (ops.toList.drop k) l hs).map (·.2)=some (hs.map tp)) (H:wpFrom P ops Q (k+n) ⟨(((fromL P ops ds n (ops.toList.drop k) l hs).getD ([],[])).1).toArray,ds⟩ w):wpFrom P ops Q k ⟨l.toArray,ds⟩ w:=by
 rw [Option.map_eq_some_iff] at h
 obtain ⟨⟨l',m⟩,h1,h2⟩:=h
 simp only at h2
 subst h2
 rw [h1] at H
 exact fromL_sound n k _ l _ hs rfl h1 hl H
end

section
variable {P:Program} {ops:Array Oper} {Q:Exit→Act→World→Prop} {S:World→Prop}
abbrev Stt:=List Bool × List Value
structure wpS (P:Program) (ops:Array Oper) (Q:Exit→Act→World→Prop) (S:World→Prop) (st:Stt) (ds:List Deferred) (w:World):Prop where
 out:wpT P ops Q S st.1 st.2 ds w
def autoS (P:Program) (ops:Array Oper) (ds:List Deferred) (is:List Nat) (hs:List Told):Stt→Stt × List (TypeId × Value)
 | (ls,l)=>match autoL P ops ds is ls l hs with
   | (a,b,c)=>((a,b),c)
def setS (i:Nat) (d:Option Tmp) (u:Value):Stt→Stt
 | (ls,l)=>(ls.set i true,putL l d u)
def rdyS (ops:Array Oper):Stt→List Nat
 | (ls,_)=>Region.ready .any ops ls.toArray
theorem T_start {l:List Value} {ds:List Deferred} {id:Nat} {w:World} (hm:P.follows .mixedOrders=true) (hS:S w.drew) (h:wpS P ops Q S (List.replicate ops.size false,l) ds w.drew):(Code.region id ops true).wp P Q ⟨l.toArray,ds⟩ w:=U_start hm hS h.out
theorem T_a {st:Stt} {ds:List Deferred} {w:World} (hq:NtQ ops Q) (is:List Nat) {hs:List Told} (hl:∀ w,S w→Lds P w hs) (h:(autoS P ops ds is hs st).2=hs.map tp) (H:wpS P ops Q S (autoS P ops ds is hs st).1 ds w):wpS P ops Q S st ds w:=by
 obtain ⟨ls,l⟩:=st
 refine ⟨U_a hq is hl h H.out⟩
theorem T_z {st:Stt} {ds:List Deferred} {w:World} (hq:NtQ ops Q) (is:List Nat) (h:(autoS P ops ds is [] st).2=[]) (H:wpS P ops Q S (autoS P ops ds is [] st).1 ds w):wpS P ops Q S st ds w:=T_a hq is (fun _ _=>Lds.nil) h H
theorem T_fr {st:Stt} {ds:List Deferred} {w:World} (n N:Nat) (r:List Nat) (s:List (Nat × Value)) (h:(st.1,lookL s st.2)=(unl n r,(N,s.map (·.2)))) (H:∀ v,wpS P ops Q S (unl n r,frL v N s) ds w):wpS P ops Q S st ds w:=⟨U_fr n N r s h fun v=>(H v).out⟩
theorem T_end {st:Stt} {ds:List Deferred} {w:World} (N:Nat) (s:List (Nat × Value)) (hr:rdyS ops st=[]) (h:lookL s st.2=(N,s.map (·.2))) (H:S w→∀ v,Q .normal ⟨(frL v N s).toArray,ds⟩ w):wpS P ops Q S st ds w:=⟨U_end N s hr h H⟩
structure wpP (P:Program) (ops:Array Oper) (Q:Exit→Act→World→Prop) (S:World→Prop) (i:Nat) (st:Stt) (ds:List Deferred) (w:World):Prop where
 out:wpO P ops Q S i st.1 st.2 ds w
theorem T_all {st:Stt} {ds:List Deferred} {w:World} (rs:List Nat) (hr:rdyS ops st=rs) (hne:rs≠[]) (h:∀ i∈rs,S w→wpP P ops Q S i st ds w):wpS P ops Q S st ds w:=⟨U_all rs hr hne fun i hi hS=>(h i hi hS).out⟩
theorem T_one {st:Stt} {ds:List Deferred} {w:World} (i:Nat) (hr:rdyS ops st=[i]) (h:S w→wpP P ops Q S i st ds w):wpS P ops Q S st ds w:=⟨U_one i hr fun hS=>(h hS).out⟩
theorem T_two {st:Stt} {ds:List Deferred} {w:World} (i k:Nat) (hr:rdyS ops st=[i,k]) (h:S w→wpP P ops Q S i st ds w) (h2:S w→wpP P ops Q S k st ds w):wpS P ops Q S st ds w:=⟨U_two i k hr (fun hS=>(h hS).out) fun hS=>(h2 hS).out⟩
def callS (P:Program) (ops:Array Oper) (ds:List Deferred) (i:Nat):Stt→Option (FuncId × Array Value)
 | (_,l)=>callB P ops ds i l
theorem O_go {i:Nat} {st:Stt} {ds:List Deferred} {w:World} {f:FuncId} {args:Array Value} {R:Ending→World→Prop} (hc:Calls P f args w R) (h:callS P ops ds i st=some (f,args)) (H:∀ e w',R e w'→∃ u,e=.returned u∧S w'∧wpS P ops Q S (setS i (opI ops i).dst u st) ds w'):wpP P ops Q S i st ds w :=
 ⟨V_go hc h fun e w' hr=>by obtain ⟨u,h1,h2,h3⟩:=H e w' hr;exact ⟨u,h1,h2,h3.out⟩⟩
theorem O_call {i:Nat} {st:Stt} {ds:List Deferred} {w:World} {f:FuncId} {args:Array Value} {u:Value} {T:World→Prop} (hc:Calls P f args w fun e w'=>e=.returned u∧T w') (hon:∀ w',T w'→S w') (h:callS P ops ds i st=some (f,args)) (H:∀ w',T w'→wpS P ops Q S (setS i (opI ops i).dst u st) ds w'):wpP P ops Q S i st ds w :=
 O_go hc h fun _ w' ⟨he,hT⟩=>⟨u,he,hon w' hT,H w' hT⟩
theorem O_val {i:Nat} {st:Stt} {ds:List Deferred} {w w':World} (d:Option Tmp) (v:Value) (hb:opB ops i d=true) (hr:(execOp (⟨st.2.toArray,ds⟩:Act).eval (opI ops i)).run P w=.ok (.value v) w') (hS:S w') (H:wpS P ops Q S (setS i d v st) ds w'):wpP P ops Q S i st ds w:=⟨V_val d v hb hr hS H.out⟩
theorem O_skip {i:Nat} {st:Stt} {ds:List Deferred} {w w':World} (d:Option Tmp) (hb:opB ops i d=true) (hr:(execOp (⟨st.2.toArray,ds⟩:Act).eval (opI ops i)).run P w=.ok .skip w') (hS:S w') (H:wpS P ops Q S (setS i d undef st) ds w'):wpP P ops Q S i st ds w:=⟨V_skip d hb hr hS H.out⟩
theorem O_list {i:Nat} {st:Stt} {ds:List Deferred} {w:World} (d:Option Tmp) (hb:opB ops i d=true) (h:wpList P ops (Nrm (fun a' w'=>S w'∧∃ l',a'=⟨l'.toArray,ds⟩∧wpS P ops Q S (st.1.set i true,l') ds w') Q) [opI ops i] ⟨st.2.toArray,ds⟩ w):wpP P ops Q S i st ds w :=
 ⟨wpOp_mono (fun _ _ ⟨h1,l',h2,h3⟩=>⟨h1,l',h2,h3.out⟩) (op_list d hb h)⟩
theorem O_store {i:Nat} {st:Stt} {ds:List Deferred} {w:World} (d:Option Tmp) (ty:TypeId) (x y:Operand) (ad:Addr) (v:Value) (w':World) (hb:opB ops i d=true) (ho:(opI ops i).op=.store ty x y) (hxy:((⟨st.2.toArray,ds⟩:Act).eval x,(⟨st.2.toArray,ds⟩:Act).eval y)=(.pointer (some ad),v)) (hr:(Instr.storeAt ty (.pointer (some ad)) v).run P w=.ok () w') (hS:S w') (H:wpS P ops Q S (setS i d undef st) ds w'):wpP P ops Q S i st ds w:=by
 obtain ⟨hx,hy⟩:=Prod.mk.inj hxy
 refine O_skip d hb ?_ hS H
 unfold execOp
 simp only [ho,hx,hy,Sem.run_bind,Sem.run_pure,Result.andThen_ok,hr]
theorem O_store_mid {i:Nat} {st:Stt} {ds:List Deferred} {w:World} (d:Option Tmp) (ty:TypeId) (x y:Operand) (b o:Nat) (cells:Array Value) (hb:opB ops i d=true) (ho:(opI ops i).op=.store ty x y) (hxy:((⟨st.2.toArray,ds⟩:Act).eval x,(⟨st.2.toArray,ds⟩:Act).eval y)=(.pointer (some ⟨b,o,none⟩),.agg cells)) (ht:w.there b o cells.size) (hi:(P.info? ty).map (·.size)=some cells.size) (h1:cells.all (·.oneCell')=true) (hS:S (w.setCells b o cells.toList)) (H:wpS P ops Q S (setS i d undef st) ds (w.setCells b o cells.toList)):wpP P ops Q S i st ds w:=by
 obtain ⟨hx,hy⟩:=Prod.mk.inj hxy
 refine O_skip d hb ?_ hS H
 unfold execOp
 simp only [ho,hx,hy,Instr.storeAt,Instr.sureAddr,Sem.run_bind,Sem.run_pure,Result.andThen_ok,run_storeVar_mid w b o ty cells ht hi h1]
theorem F_new {k:Nat} {l:List Value} {ds:List Deferred} {w w':World} (d:Option Tmp) (v:Value) (hb:opG ops k d=true) (hw:Region.wanted (opI ops k) (yielded ops l.toArray)=true) (hr:(execOp (⟨l.toArray,ds⟩:Act).eval (opI ops k)).run P w=.ok (.value v) w') (H:wpFrom P ops Q (k+1) ⟨(putL l d v).toArray,ds⟩ w'):wpFrom P ops Q k ⟨l.toArray,ds⟩ w:=by
 have hd:(opI ops k).dst=d:=by unfold opG at hb;simp only [Bool.and_eq_true,decide_eq_true_eq] at hb;exact hb.2
 refine from_step hb ?_
 rw [if_pos hw]
 unfold Oper.wp
 rw [hr,Oper.upon_value,hd,put_putL]
 exact H
theorem T_val {i:Nat} {st:Stt} {ds:List Deferred} {w:World} (hq:NtQ ops Q) (d:Option Tmp) (v v':Value) (hv:v=v') (hb:tkG ops st.1.toArray i d=true) (h:oneB P ops ds i st.2=some (d,v)) (H:wpS P ops Q S (setS i d v' st) ds w):wpS P ops Q S st ds w:=⟨U_val hq d v v' hv hb h H.out⟩
theorem T_yld {st:Stt} {ds:List Deferred} {w:World} (hq:NtQ ops Q) (i:Nat) (d:Option Tmp) (v:Value) (hb:tkG ops st.1.toArray i d=true) (hw:Region.wanted (opI ops i) (yielded ops st.2.toArray)=true) (hy:∀ w,S w→(execOp (⟨st.2.toArray,ds⟩:Act).eval (opI ops i)).run P w=.ok (.value v) w) (H:wpS P ops Q S (setS i d v st) ds w):wpS P ops Q S st ds w :=
 ⟨U_yld hq i d v hb (fun _=>Or.inl ⟨hw,hy⟩) H.out⟩
end

def kd0:Kd:=.mk 0 [] []
def plN (ns:List ByteArray) (nm:ByteArray):Nat:=ns.findIdx (fun x=>decide (x=nm))
def kidN (k:Kd) (nm:ByteArray):Option Kd:=if plN k.names nm < k.names.length then some (k.kids.getD (plN k.names nm) kd0) else none
theorem plN_at {ns:List ByteArray} {nm:ByteArray} {i:Nat} (hi:i < ns.length) (h:ns[i]=nm) (hb:∀ j,(hj:j < i)→ns[j]'(by omega)≠nm):plN ns nm=i:=by
 unfold plN
 rw [List.findIdx_eq hi]
 exact ⟨by simpa using h,fun j hj=>by simpa using hb j hj⟩
theorem plN_none {ns:List ByteArray} {nm:ByteArray} (h:nm∉ns):plN ns nm=ns.length:=by
 unfold plN
 rw [List.findIdx_eq_length]
 intro x hx
 simp only [decide_eq_false_iff_not]
 exact fun e=>h (e ▸ hx)
theorem kidN_some {k:Kd} {nm:ByteArray} {i:Nat} (hi:i < k.names.length) (hk:i < k.kids.length) (h:k.names[i]=nm) (hb:∀ j,(hj:j < i)→k.names[j]'(by omega)≠nm):kidN k nm=some k.kids[i]:=by
 unfold kidN
 rw [plN_at hi h hb,if_pos hi]
 simp [List.getD_eq_getElem?_getD,List.getElem?_eq_getElem hk]
theorem kidN_none {k:Kd} {nm:ByteArray} (h:nm∉k.names):kidN k nm=none:=by
 unfold kidN
 rw [plN_none h,if_neg (by omega)]
theorem less_irr (l:List UInt8):Op.bytesLess l l=false:=by
 induction l with
 | nil=>rfl
 | cons a r ih=>simp [Op.bytesLess,ih]
theorem kidN_is {k:Kd} {nm:ByteArray} (h:(kidN k nm).isSome=true):nm∈k.names:=by
 unfold kidN at h
 split at h
 · next hp =>
   have h2:plN k.names nm < k.names.length:=hp
   unfold plN at h2
   have:=List.findIdx_getElem (w:=h2)
   simp only [decide_eq_true_eq] at this
   rw [← this]
   exact List.getElem_mem _
 · cases h
theorem kidN_has {k:Kd} {nm:ByteArray} (h:nm∈k.names):(kidN k nm).isSome=true:=by
 unfold kidN
 have:plN k.names nm < k.names.length:=by
  unfold plN
  rw [List.findIdx_lt_length]
  exact ⟨nm,h,by simp⟩
 rw [if_pos this];rfl
def fitF:Nat→Kd→Kd→Bool
 | 0,_,_=>false
 | n+1,a,b =>
   if b.sort=6 then (if a.sort=6 then fitF n (a.kids.getD 0 kd0) (b.kids.getD 0 kd0) else fitF n a (b.kids.getD 0 kd0))
   else if a.sort≠b.sort then false
   else if a.sort=4 then fitF n (a.kids.getD 0 kd0) (b.kids.getD 0 kd0)
   else (List.range a.names.length).all (fun i=>match kidN b (a.names.getD i ByteArray.empty) with | some x=>fitF n (a.kids.getD i kd0) x | none=>false)
    && (List.range b.names.length).all (fun i=>(kidN a (b.names.getD i ByteArray.empty)).isSome || decide ((b.kids.getD i kd0).sort=6))
section
variable {n:Nat} {a b:Kd}
theorem fit_mm (hb:b.sort=6) (ha:a.sort=6) (hka:0 < a.kids.length) (hkb:0 < b.kids.length):fitF (n+1) a b=fitF n a.kids[0] b.kids[0]:=by
 rw [fitF,if_pos hb,if_pos ha]
 simp [List.getD_eq_getElem?_getD,List.getElem?_eq_getElem hka,List.getElem?_eq_getElem hkb]
theorem fit_xm (hb:b.sort=6) (ha:a.sort≠6) (hkb:0 < b.kids.length):fitF (n+1) a b=fitF n a b.kids[0]:=by
 rw [fitF,if_pos hb,if_neg ha]
 simp [List.getD_eq_getElem?_getD,List.getElem?_eq_getElem hkb]
theorem fit_ne (hb:b.sort≠6) (h:a.sort≠b.sort):fitF (n+1) a b=false:=by
 rw [fitF,if_neg hb,if_pos h]
theorem fit_ll (hb:b.sort=4) (ha:a.sort=4) (hka:0 < a.kids.length) (hkb:0 < b.kids.length):fitF (n+1) a b=fitF n a.kids[0] b.kids[0]:=by
 rw [fitF,if_neg (by omega),if_neg (by omega),if_pos ha]
 simp [List.getD_eq_getElem?_getD,List.getElem?_eq_getElem hka,List.getElem?_eq_getElem hkb]
theorem fit_eq (hb:b.sort≠6) (h:a.sort=b.sort) (h4:a.sort≠4):fitF (n+1) a b=((List.range a.names.length).all (fun i=>match kidN b (a.names.getD i ByteArray.empty) with | some x=>fitF n (a.kids.getD i kd0) x | none=>false)
 && (List.range b.names.length).all (fun i=>(kidN a (b.names.getD i ByteArray.empty)).isSome || decide ((b.kids.getD i kd0).sort=6))):=by
 rw [fitF,if_neg hb,if_neg (by simpa using h),if_neg h4]
theorem fit_no1 (hb:b.sort≠6) (h:a.sort=b.sort) (h4:a.sort≠4) {i:Nat} (hi:i < a.names.length) (hk:kidN b a.names[i]=none):fitF (n+1) a b=false:=by
 rw [fit_eq hb h h4,Bool.and_eq_false_iff]
 left
 rw [Bool.eq_false_iff]
 intro hh
 rw [List.all_eq_true] at hh
 have:=hh i (List.mem_range.2 hi)
 simp [List.getD_eq_getElem?_getD,List.getElem?_eq_getElem hi,hk] at this
theorem fit_no2 (hb:b.sort≠6) (h:a.sort=b.sort) (h4:a.sort≠4) {i:Nat} (hi:i < a.names.length) (hi2:i < a.kids.length) {x:Kd} (hk:kidN b a.names[i]=some x) (hf:fitF n a.kids[i] x=false):fitF (n+1) a b=false:=by
 rw [fit_eq hb h h4,Bool.and_eq_false_iff]
 left
 rw [Bool.eq_false_iff]
 intro hh
 rw [List.all_eq_true] at hh
 have:=hh i (List.mem_range.2 hi)
 simp [List.getD_eq_getElem?_getD,List.getElem?_eq_getElem hi,List.getElem?_eq_getElem hi2,hk,hf] at this
theorem fit_no3 (hb:b.sort≠6) (h:a.sort=b.sort) (h4:a.sort≠4) {i:Nat} (hi:i < b.names.length) (hi2:i < b.kids.length) (hk:kidN a b.names[i]=none) (hs:b.kids[i].sort≠6):fitF (n+1) a b=false:=by
 rw [fit_eq hb h h4,Bool.and_eq_false_iff]
 right
 rw [Bool.eq_false_iff]
 intro hh
 rw [List.all_eq_true] at hh
 have:=hh i (List.mem_range.2 hi)
 simp [List.getD_eq_getElem?_getD,List.getElem?_eq_getElem hi,List.getElem?_eq_getElem hi2,hk,hs] at this
theorem fit_yes (hb:b.sort≠6) (h:a.sort=b.sort) (h4:a.sort≠4) (hla:a.kids.length=a.names.length) (hlb:b.kids.length=b.names.length)
 (h1:∀ i,(hi:i < a.names.length)→∃ x,kidN b a.names[i]=some x∧fitF n (a.kids[i]'(by omega)) x=true)
 (h2:∀ i,(hi:i < b.names.length)→(kidN a b.names[i]).isSome=true∨(b.kids[i]'(by omega)).sort=6):fitF (n+1) a b=true:=by
 rw [fit_eq hb h h4,Bool.and_eq_true]
 constructor
 · rw [List.all_eq_true]
   intro i hi
   have hi:=List.mem_range.1 hi
   obtain ⟨x,hx,hf⟩:=h1 i hi
   simp [List.getD_eq_getElem?_getD,List.getElem?_eq_getElem hi,List.getElem?_eq_getElem (show i < a.kids.length by omega),hx,hf]
 · rw [List.all_eq_true]
   intro i hi
   have hi:=List.mem_range.1 hi
   have:=h2 i hi
   simp only [List.getD_eq_getElem?_getD,List.getElem?_eq_getElem hi,List.getElem?_eq_getElem (show i < b.kids.length by omega),Option.getD_some,Bool.or_eq_true,decide_eq_true_eq]
   exact this
end
def pF (n:Nat) (a b:Kd):Bool:=if a.sort=0 then decide (b.sort=6) else if b.sort=0 then false else fitF n a b
def kidZ (k:Kd) (nm:ByteArray):Kd:=(kidN k nm).getD kd0
theorem nodup_at {ns:List ByteArray} (h:ns.Nodup) {i j:Nat} (hi:i < ns.length) (hj:j < ns.length) (e:ns[i]=ns[j]):i=j:=by
 have hp:=List.pairwise_iff_getElem.1 h
 rcases Nat.lt_trichotomy i j with h1 | h1 | h1
 · exact absurd e (hp i j hi hj h1)
 · exact h1
 · exact absurd e.symm (hp j i hj hi h1)
theorem kidN_at {k:Kd} (hn:k.names.Nodup) (hl:k.kids.length=k.names.length) {i:Nat} (hi:i < k.names.length):kidN k k.names[i]=some (k.kids[i]'(by omega)) :=
 kidN_some hi (by omega) rfl (fun j hj e=>by have:=nodup_at hn (by omega) hi e;omega)
theorem fit_open {n:Nat} {a b:Kd} (hb:b.sort≠6) (h:a.sort=b.sort) (h4:a.sort≠4) (hla:a.kids.length=a.names.length) (hlb:b.kids.length=b.names.length) (hf:fitF (n+1) a b=true) :
 (∀ i,(hi:i < a.names.length)→∃ x,kidN b a.names[i]=some x∧fitF n (a.kids[i]'(by omega)) x=true)∧(∀ i,(hi:i < b.names.length)→(kidN a b.names[i]).isSome=true∨(b.kids[i]'(by omega)).sort=6):=by
 constructor
 · intro i hi
   cases hk:kidN b a.names[i] with
   | none=>rw [fit_no1 hb h h4 hi hk] at hf;cases hf
   | some x =>
     refine ⟨x,rfl,?_⟩
     cases hx:fitF n (a.kids[i]'(by omega)) x with
     | true=>rfl
     | false=>rw [fit_no2 hb h h4 hi (by omega) hk hx] at hf;cases hf
 · intro i hi
   cases hk:kidN a b.names[i] with
   | some x=>exact Or.inl rfl
   | none =>
     by_cases hs:(b.kids[i]'(by omega)).sort=6
     · exact Or.inr hs
     · rw [fit_no3 hb h h4 hi (by omega) hk hs] at hf;cases hf
theorem fit_union {n:Nat} {a b:Kd} (ha5:a.sort=5) (hb5:b.sort=5) (hla:a.kids.length=a.names.length) (hlb:b.kids.length=b.names.length) (hna:a.names.Nodup) (hnb:b.names.Nodup)
 (hza:∀ k,k∈a.kids→k.sort≠0) (hzb:∀ k,k∈b.kids→k.sort≠0) (U:List ByteArray) (hU:∀ nm,nm∈U↔nm∈a.names∨nm∈b.names) :
 fitF (n+1) a b=U.all fun nm=>pF n (kidZ a nm) (kidZ b nm):=by
 have hb6:b.sort≠6:=by omega
 have hab:a.sort=b.sort:=by omega
 have ha4:a.sort≠4:=by omega
 rw [Bool.eq_iff_iff,List.all_eq_true]
 constructor
 · intro hf nm hm
   obtain ⟨h1,h2⟩:=fit_open hb6 hab ha4 hla hlb hf
   by_cases hma:nm∈a.names
   · obtain ⟨i,hi,rfl⟩:=List.mem_iff_getElem.1 hma
     obtain ⟨x,hx,hfx⟩:=h1 i hi
     have hx0:x.sort≠0:=by
      obtain ⟨j,hj,e⟩:=List.mem_iff_getElem.1 (kidN_is (by rw [hx];rfl))
      rw [← e,kidN_at hnb hlb hj] at hx
      rw [← Option.some.inj hx]
      exact hzb _ (List.getElem_mem _)
     unfold pF kidZ
     rw [kidN_at hna hla hi,hx]
     simp only [Option.getD_some]
     rw [if_neg (hza _ (List.getElem_mem _)),if_neg hx0]
     exact hfx
   · have hmb:nm∈b.names:=((hU nm).1 hm).resolve_left hma
     obtain ⟨i,hi,rfl⟩:=List.mem_iff_getElem.1 hmb
     have:=(h2 i hi).resolve_left (fun h=>hma (kidN_is h))
     unfold pF kidZ
     rw [kidN_none hma,kidN_at hnb hlb hi]
     simp only [Option.getD_some,Option.getD_none]
     rw [if_pos (show kd0.sort=0 from rfl)]
     exact decide_eq_true this
 · intro hall
   refine fit_yes hb6 hab ha4 hla hlb (fun i hi=>?_) (fun i hi=>?_)
   · have:=hall a.names[i] ((hU _).2 (Or.inl (List.getElem_mem _)))
     unfold pF kidZ at this
     rw [kidN_at hna hla hi] at this
     simp only [Option.getD_some] at this
     rw [if_neg (hza _ (List.getElem_mem _))] at this
     cases hk:kidN b a.names[i] with
     | none=>rw [hk] at this;simp [kd0,Kd.sort] at this
     | some x =>
       rw [hk] at this
       simp only [Option.getD_some] at this
       split at this
       · cases this
       · exact ⟨x,rfl,this⟩
   · by_cases hma:b.names[i]∈a.names
     · exact Or.inl (kidN_has hma)
     · have:=hall b.names[i] ((hU _).2 (Or.inr (List.getElem_mem _)))
       unfold pF kidZ at this
       rw [kidN_none hma,kidN_at hnb hlb hi] at this
       simp only [Option.getD_some,Option.getD_none] at this
       rw [if_pos (show kd0.sort=0 from rfl)] at this
       exact Or.inr (of_decide_eq_true this)

theorem sizeKd:(Tryz.prog.info? 26).map (·.size)=some 3:=by kernel_rfl
theorem ldKd (w:World) (b:Nat) (x y z:Value) (h:w.rowIs b 26 3 (row3 x y z)):(Instr.loadAt 26 (.pointer (some ⟨b,0,none⟩))).run Tryz.prog w=.ok (.agg #[x,y,z]) w:=by
 obtain ⟨h0,h1,h2⟩:=cs3 h (by omega)
 simp only [row3] at h0 h1 h2
 have hr:w.rangeAt b 0 [x,y,z]:=fun j v hv=>by
  rw [Nat.zero_add]
  match j,hv with
  | 0,hv=>simp at hv;subst hv;exact h0
  | 1,hv=>simp at hv;subst hv;exact h1
  | 2,hv=>simp at hv;subst hv;exact h2
  | j+3,hv=>simp at hv
 unfold Instr.loadAt
 simp only [Instr.sureAddr,Sem.run_bind,Sem.run_pure,Result.andThen_ok,run_loadVar_mid w b 0 26 [x,y,z] _ hr Tryz.underlying26 rfl sizeKd]
theorem ldStrsF (w:World) (ad:Addr) (v:Value) (h:w.cell? ad=some v):(Instr.loadAt 23 (.pointer (some ad))).run Tryz.prog w=.ok v w:=by
 simp [Instr.loadAt,Instr.sureAddr,loadVar,Tryz.isAgg23,h,go_sem]
theorem ldStrF (w:World) (ad:Addr) (v:Value) (h:w.cell? ad=some v):(Instr.loadAt 9 (.pointer (some ad))).run Tryz.prog w=.ok v w:=by
 simp [Instr.loadAt,Instr.sureAddr,loadVar,Tryz.isAgg9,h,go_sem]
theorem ixRunF {o:Oper} {a:Act} {X I:Operand} {g p n cap i:Nat} (ho:o.op=.indexAddr 23 X I) (hx:a.eval X=.slice (some ⟨g,p,none⟩) n cap) (hi:a.eval I=.int .i64 (i:Nat)) (h:i < n) (w:World):(execOp a.eval o).run Tryz.prog w=.ok (.value (.pointer (some ⟨g,p+i,none⟩))) w:=by
 have h1:(0:Int)≤(i:Int)∧(i:Int) < (n:Int):=⟨by omega,by omega⟩
 have h2:(Instr.indexAt 23 (.slice (some ⟨g,p,none⟩) n cap) (.int .i64 (i:Nat))).run Tryz.prog w=.ok (.pointer (some ⟨g,p+i,none⟩)) w:=by
  have e:(⟨g,p+i,none⟩:Addr)=(⟨g,p,none⟩:Addr).add i:=by simp [Addr.add]
  rw [e]
  simp [go_sem,h1]
 unfold execOp
 simp only [ho,hx,hi,Sem.run_bind,Sem.run_pure,Result.andThen_ok,h2]
theorem set3f (W:World) (b:Nat) (x y z:Value):But b W (W.setCells b 0 [x,y,z])∧(∀ T f,W.rowIs b T 3 f→(W.setCells b 0 [x,y,z]).rowIs b T 3 (row3 x y z)):=by
 show But b W (((W.setCell ⟨b,0,none⟩ x).setCell ⟨b,1,none⟩ y).setCell ⟨b,2,none⟩ z)∧(∀ T f,W.rowIs b T 3 f→(((W.setCell ⟨b,0,none⟩ x).setCell ⟨b,1,none⟩ y).setCell ⟨b,2,none⟩ z).rowIs b T 3 (row3 x y z))
 exact ⟨((But.set W 0 x).trans (But.set _ 1 y)).trans (But.set _ 2 z),fun T f h=>(((h.set 0 x).set 1 y).set 2 z).congr (fun i hi=>by rcases (show i=0∨i=1∨i=2 by omega) with rfl | rfl | rfl <;> rfl)⟩
theorem there3f {w:World} {b:Nat} {T:TypeId} {n:Nat} {f:Nat→Value} (h:w.rowIs b T n f):w.there b 0 n:=fun j hj=>by
 rw [Nat.zero_add]
 exact ⟨by rw [h.cell hj];rfl,h.frozen j⟩
theorem below_boxf {B W:World} {g:Nat} (h:Below B.heap.size B W) (hg:B.heap.size≤g) {W':World} (hb:But g W W'):Below B.heap.size B W':=h.trans ⟨hb.os,hb.tape,hb.output,hb.size,fun i hi=>hb.at (by have:=h.size;omega) (by omega)⟩
theorem below_onf {B W W':World} (h:Below B.heap.size B W) (hb:Below W.heap.size W W'):Below B.heap.size B W':=h.trans (hb.mono h.size)
def kp12 (z:Nat→Value):List (Nat × Value):=[0,1,4,8,9,10,11,12,13,14,15,16,17,18,19,20,21,22,23,24,25,26,27,28,29,30,31,32,33,34,35,36,37,38,39,40,41,42,43,44,45,46,47,48,49,50,51,52,53,54,55,66,67,68,69,70,71,72,73,74,75,76,77,78,79,80,81,82,83,84,85,86,87,88,89,90,91,92,93,94,95,96,97,98,99,100,101,102,103,104,105].map fun i=>(i,z i)
noncomputable def ft12Ops:Array Oper:=fops Tryz.f37 12
theorem ft12_neat:Region.noSelect ft12Ops=true∧neat ft12Ops=true:=⟨by kernel_rfl,by kernel_rfl⟩
theorem ft12z (z:Nat→Value) (LL:(Nat→Value)→Nat→Bool→List Value) (A C:Nat) (c0 c1 c2 n0 n2:Value) (nb no len cap i:Nat) (nm:ByteArray) (G:Value→Value→Value→Bool→Prop) (W0:World) {l:List Value} (Q:Exit→Act→World→Prop) (hQ:∀ c a d v w,Q (.panic c) (Act.put a d v) w→Q (.panic c) a w) (hA:W0.drew.rowIs A 26 3 (row3 n0 (.slice (some ⟨nb,no,none⟩) len cap) n2)) (hC:W0.drew.rowIs C 26 3 (row3 c0 c1 c2)) (hi:i < len) (hc:W0.drew.cell? ⟨nb,no+i,none⟩=some (.string nm)) (hone:∀ y0 y1 y2 ok,G y0 y1 y2 ok→(#[y0,y1,y2]:Array Value).all (·.oneCell')=true) (HK:∀ W,Below W0.drew.heap.size W0.drew W→Calls Tryz.prog 66 #[.agg #[c0,c1,c2],.string nm] W fun e w'=>Below W.heap.size W w'∧∃ y0 y1 y2 ok,e=.returned (.tuple #[.agg #[y0,y1,y2],.bool ok])∧G y0 y1 y2 ok) (hl:lookL (kp12 z++[(2,.pointer (some ⟨A,0,none⟩)),(3,.pointer (some ⟨C,0,none⟩)),(5,.int .i64 (i:Nat))]) l=(106,(kp12 z++[(2,.pointer (some ⟨A,0,none⟩)),(3,.pointer (some ⟨C,0,none⟩)),(5,.int .i64 (i:Nat))]:List (Nat × Value)).map (·.2))) (hfr:∀ (u:Nat→Value) (g:Nat) (ok:Bool),frL u 106 (kp12 z++[(2,.pointer (some ⟨A,0,none⟩)),(3,.pointer (some ⟨C,0,none⟩)),(5,.int .i64 (i:Nat)),(6,.pointer (some ⟨g,0,none⟩)),(7,.bool ok)])=LL u g ok)
 (hend:∀ (u:Nat→Value) (y0 y1 y2:Value) (ok:Bool) (g:Nat) (W':World),Below W0.drew.heap.size W0.drew W'→W'.rowIs g 26 3 (row3 y0 y1 y2)→W0.drew.heap.size≤g→G y0 y1 y2 ok→Q .normal ⟨(LL u g ok).toArray,[]⟩ W'):(Code.region 12 ft12Ops true).wp Tryz.prog Q ⟨l.toArray,[]⟩ W0:=by
 obtain ⟨v0,rfl⟩:=look_fr hl
 have hq:NtQ ft12Ops Q:=⟨ft12_neat,hQ⟩
 refine T_start (S:=fun W=>Below W0.drew.heap.size W0.drew W) (by kernel_rfl) (Below.refl _ _) ?_
 clear hl hQ
 have hcl:=World.block_lt_of_cell? W0.drew _ hc
 generalize W0.drew=B at hA hC hc hcl HK hend ⊢
 have Q1:∀ (u:Nat→Value) (W:World) (hW:Below B.heap.size B W) (g:Nat) (hg:W.rowIs g 26 3 (row3 (.int .i64 0) (.slice none 0 0) (.slice none 0 0))) (hgb:B.heap.size≤g) (y0 y1 y2:Value) (ok:Bool) (hG:G y0 y1 y2 ok) ,wpS Tryz.prog ft12Ops Q (fun W=>Below B.heap.size B W) (unl 13 [11,12],frL u 106 (kp12 z++[(2,.pointer (some ⟨A,0,none⟩)),(3,.pointer (some ⟨C,0,none⟩)),(5,.int .i64 (i:Nat)),(6,.pointer (some ⟨g,0,none⟩)),(64,.agg #[y0,y1,y2]),(65,.bool ok)])) [] W:=by
  intro u W hW g hg hgb y0 y1 y2 ok hG 
  refine T_one 11 (by kernel_rfl) fun _=>?_
  have hs3:=set3f W g y0 y1 y2
  have hW2:=below_boxf hW hgb hs3.1
  refine O_store_mid none 26 (.tmp 6) (.tmp 64) g 0 #[y0,y1,y2] (by kernel_rfl) (by kernel_rfl) (by kernel_rfl) (there3f hg) sizeKd (hone _ _ _ _ hG) hW2 ?_
  refine T_z hq [12] (by kernel_rfl) ?_
  exact T_end 106 (kp12 z++[(2,.pointer (some ⟨A,0,none⟩)),(3,.pointer (some ⟨C,0,none⟩)),(5,.int .i64 (i:Nat)),(6,.pointer (some ⟨g,0,none⟩)),(7,.bool ok)]) (by kernel_rfl) (by kernel_rfl) fun _ u=>by rw [hfr];exact hend u y0 y1 y2 ok g _ hW2 (hs3.2 _ _ hg) hgb hG
 have P1:∀ (u:Nat→Value) (W:World) (hW:Below B.heap.size B W) (y0 y1 y2:Value) (ok:Bool) (hG:G y0 y1 y2 ok) ,wpS Tryz.prog ft12Ops Q (fun W=>Below B.heap.size B W) (unl 13 [10,11,12],frL u 106 (kp12 z++[(2,.pointer (some ⟨A,0,none⟩)),(3,.pointer (some ⟨C,0,none⟩)),(5,.int .i64 (i:Nat)),(64,.agg #[y0,y1,y2]),(65,.bool ok)])) [] W:=by
  intro u W hW y0 y1 y2 ok hG 
  refine T_one 10 (by kernel_rfl) fun _=>?_
  exact O_val (w':=W.alloc (.cells #[.int .i64 0,.slice none 0 0,.slice none 0 0] 26)) (some 6) (.pointer (some ⟨W.heap.size,0,none⟩)) (by kernel_rfl) (by kernel_rfl) (hW.alloc hW.size _) (T_fr 13 106 [11,12] (kp12 z++[(2,.pointer (some ⟨A,0,none⟩)),(3,.pointer (some ⟨C,0,none⟩)),(5,.int .i64 (i:Nat)),(6,.pointer (some ⟨W.heap.size,0,none⟩)),(64,.agg #[y0,y1,y2]),(65,.bool ok)]) (by kernel_rfl) fun u=>Q1 u _ (hW.alloc hW.size _) _ (row3_alloc W _ _ _ _) hW.size y0 y1 y2 ok hG )
 have Q0:∀ (u:Nat→Value) (W:World) (hW:Below B.heap.size B W) (g:Nat) (hg:W.rowIs g 26 3 (row3 (.int .i64 0) (.slice none 0 0) (.slice none 0 0))) (hgb:B.heap.size≤g) ,wpS Tryz.prog ft12Ops Q (fun W=>Below B.heap.size B W) (unl 13 [6,7,8,9,11,12],frL u 106 (kp12 z++[(2,.pointer (some ⟨A,0,none⟩)),(3,.pointer (some ⟨C,0,none⟩)),(5,.int .i64 (i:Nat)),(6,.pointer (some ⟨g,0,none⟩)),(57,.agg #[c0,c1,c2]),(62,.string nm)])) [] W:=by
  intro u W hW g hg hgb
  refine T_one 6 (by kernel_rfl) fun _=>?_
  · refine O_go (HK W hW) (by kernel_rfl) ?_
    rintro e W1 ⟨hb1,y0,y1,y2,ok,rfl,hG⟩
    exact ⟨_,rfl,below_onf hW hb1,T_z hq [7,8,9] (by kernel_rfl) (T_fr 13 106 [11,12] (kp12 z++[(2,.pointer (some ⟨A,0,none⟩)),(3,.pointer (some ⟨C,0,none⟩)),(5,.int .i64 (i:Nat)),(6,.pointer (some ⟨g,0,none⟩)),(64,.agg #[y0,y1,y2]),(65,.bool ok)]) (by kernel_rfl) fun u=>Q1 u W1 (below_onf hW hb1) g (hg.of_block (hb1.block _ hg.lt)) hgb y0 y1 y2 ok hG)⟩
 have P0:∀ (u:Nat→Value) (W:World) (hW:Below B.heap.size B W),wpS Tryz.prog ft12Ops Q (fun W=>Below B.heap.size B W) (unl 13 [6,7,8,9,10,11,12],frL u 106 (kp12 z++[(2,.pointer (some ⟨A,0,none⟩)),(3,.pointer (some ⟨C,0,none⟩)),(5,.int .i64 (i:Nat)),(57,.agg #[c0,c1,c2]),(62,.string nm)])) [] W:=by
  intro u W hW
  refine T_two 6 10 (by kernel_rfl) (fun _=>?_) fun _=>?_
  · refine O_go (HK W hW) (by kernel_rfl) ?_
    rintro e W1 ⟨hb1,y0,y1,y2,ok,rfl,hG⟩
    exact ⟨_,rfl,below_onf hW hb1,T_z hq [7,8,9] (by kernel_rfl) (T_fr 13 106 [10,11,12] (kp12 z++[(2,.pointer (some ⟨A,0,none⟩)),(3,.pointer (some ⟨C,0,none⟩)),(5,.int .i64 (i:Nat)),(64,.agg #[y0,y1,y2]),(65,.bool ok)]) (by kernel_rfl) fun u=>P1 u W1 (below_onf hW hb1) y0 y1 y2 ok hG)⟩
  · exact O_val (w':=W.alloc (.cells #[.int .i64 0,.slice none 0 0,.slice none 0 0] 26)) (some 6) (.pointer (some ⟨W.heap.size,0,none⟩)) (by kernel_rfl) (by kernel_rfl) (hW.alloc hW.size _) (T_fr 13 106 [6,7,8,9,11,12] (kp12 z++[(2,.pointer (some ⟨A,0,none⟩)),(3,.pointer (some ⟨C,0,none⟩)),(5,.int .i64 (i:Nat)),(6,.pointer (some ⟨W.heap.size,0,none⟩)),(57,.agg #[c0,c1,c2]),(62,.string nm)]) (by kernel_rfl) fun u=>Q0 u _ (hW.alloc hW.size _) _ (row3_alloc W _ _ _ _) hW.size )
 refine T_a hq [0] (fun w' h=>.cons (ldKd _ _ _ _ _ (hC.of_block (h.block _ hC.lt))) Lds.nil) (by kernel_rfl) ?_
 refine T_z hq [1,3] (by kernel_rfl) ?_
 refine T_a hq [2] (fun w' h=>.cons (ldStrsF _ _ (.slice (some ⟨nb,no,none⟩) len cap) ((hA.of_block (h.block _ hA.lt)).cell (i:=1) (by omega))) Lds.nil) (by kernel_rfl) ?_
 refine T_yld hq 4 (some 61) (.pointer (some ⟨nb,no+i,none⟩)) (by kernel_rfl) (by kernel_rfl) (fun w _=>ixRunF (n:=len) (cap:=cap) (i:=i) (X:=.tmp 59) (I:=.tmp 60) (by kernel_rfl) (by kernel_rfl) (by kernel_rfl) hi w) ?_
 refine T_a hq [5] (fun w' h=>.cons (ldStrF _ ⟨nb,no+i,none⟩ (.string nm) (by rw [World.cell?_of_block (w:=B) (h.block nb hcl)];exact hc)) Lds.nil) (by kernel_rfl) ?_
 exact T_fr 13 106 [6,7,8,9,10,11,12] (kp12 z++[(2,.pointer (some ⟨A,0,none⟩)),(3,.pointer (some ⟨C,0,none⟩)),(5,.int .i64 (i:Nat)),(57,.agg #[c0,c1,c2]),(62,.string nm)]) (by kernel_rfl) fun u=>P0 u _ (Below.refl _ _)
theorem ft12 (A C:Nat) (c0 c1 c2 n0 n2:Value) (nb no len cap i:Nat) (nm:ByteArray) (G:Value→Value→Value→Bool→Prop) (W0:World) {l:List Value} (Q:Exit→Act→World→Prop) (hQ:∀ c a d v w,Q (.panic c) (Act.put a d v) w→Q (.panic c) a w) (hA:W0.drew.rowIs A 26 3 (row3 n0 (.slice (some ⟨nb,no,none⟩) len cap) n2)) (hC:W0.drew.rowIs C 26 3 (row3 c0 c1 c2)) (hi:i < len) (hc:W0.drew.cell? ⟨nb,no+i,none⟩=some (.string nm)) (hone:∀ y0 y1 y2 ok,G y0 y1 y2 ok→(#[y0,y1,y2]:Array Value).all (·.oneCell')=true) (HK:∀ W,Below W0.drew.heap.size W0.drew W→Calls Tryz.prog 66 #[.agg #[c0,c1,c2],.string nm] W fun e w'=>Below W.heap.size W w'∧∃ y0 y1 y2 ok,e=.returned (.tuple #[.agg #[y0,y1,y2],.bool ok])∧G y0 y1 y2 ok) (hl:lookL (kp12 (fun i=>l.getD i undef)++[(2,.pointer (some ⟨A,0,none⟩)),(3,.pointer (some ⟨C,0,none⟩)),(5,.int .i64 (i:Nat))]) l=(106,(kp12 (fun i=>l.getD i undef)++[(2,.pointer (some ⟨A,0,none⟩)),(3,.pointer (some ⟨C,0,none⟩)),(5,.int .i64 (i:Nat))]:List (Nat × Value)).map (·.2))) (hfr:∀ (u:Nat→Value) (g:Nat) (ok:Bool),frL u 106 (kp12 (fun i=>l.getD i undef)++[(2,.pointer (some ⟨A,0,none⟩)),(3,.pointer (some ⟨C,0,none⟩)),(5,.int .i64 (i:Nat)),(6,.pointer (some ⟨g,0,none⟩)),(7,.bool ok)])=l.take 6++.pointer (some ⟨g,0,none⟩)::.bool ok::((l.drop 8).take 48++(u 56::u 57::u 58::u 59::u 60::u 61::u 62::u 63::u 64::u 65::l.drop 66)))
 (hend:∀ (u:Nat→Value) (y0 y1 y2:Value) (ok:Bool) (g:Nat) (W':World),Below W0.drew.heap.size W0.drew W'→W'.rowIs g 26 3 (row3 y0 y1 y2)→W0.drew.heap.size≤g→G y0 y1 y2 ok→Q .normal ⟨(l.take 6++.pointer (some ⟨g,0,none⟩)::.bool ok::((l.drop 8).take 48++(u 56::u 57::u 58::u 59::u 60::u 61::u 62::u 63::u 64::u 65::l.drop 66))).toArray,[]⟩ W'):(Code.region 12 ft12Ops true).wp Tryz.prog Q ⟨l.toArray,[]⟩ W0 :=
 ft12z (fun i=>l.getD i undef) (fun u g ok=>l.take 6++.pointer (some ⟨g,0,none⟩)::.bool ok::((l.drop 8).take 48++(u 56::u 57::u 58::u 59::u 60::u 61::u 62::u 63::u 64::u 65::l.drop 66))) A C c0 c1 c2 n0 n2 nb no len cap i nm G W0 Q hQ hA hC hi hc hone HK hl hfr hend
def kp18 (z:Nat→Value):List (Nat × Value):=[0,1,4,5,6,7,11,12,13,14,15,16,17,18,19,20,21,22,23,24,25,26,27,28,29,30,31,32,33,34,35,36,37,38,39,40,41,42,43,44,45,46,47,48,49,50,51,52,53,54,55,56,57,58,59,60,61,62,63,64,65,66,67,68,69,70,71,72,73,74,75,76,77,78,79,80,81,82,83,84,95,96,97,98,99,100,101,102,103,104,105].map fun i=>(i,z i)
noncomputable def ft18Ops:Array Oper:=fops Tryz.f37 18
theorem ft18_neat:Region.noSelect ft18Ops=true∧neat ft18Ops=true:=⟨by kernel_rfl,by kernel_rfl⟩
theorem ft18z (z:Nat→Value) (LL:(Nat→Value)→Nat→Bool→List Value) (A C:Nat) (c0 c1 c2 n0 n2:Value) (nb no len cap i:Nat) (nm:ByteArray) (G:Value→Value→Value→Bool→Prop) (W0:World) {l:List Value} (Q:Exit→Act→World→Prop) (hQ:∀ c a d v w,Q (.panic c) (Act.put a d v) w→Q (.panic c) a w) (hA:W0.drew.rowIs A 26 3 (row3 c0 c1 c2)) (hC:W0.drew.rowIs C 26 3 (row3 n0 (.slice (some ⟨nb,no,none⟩) len cap) n2)) (hi:i < len) (hc:W0.drew.cell? ⟨nb,no+i,none⟩=some (.string nm)) (hone:∀ y0 y1 y2 ok,G y0 y1 y2 ok→(#[y0,y1,y2]:Array Value).all (·.oneCell')=true) (HK:∀ W,Below W0.drew.heap.size W0.drew W→Calls Tryz.prog 66 #[.agg #[c0,c1,c2],.string nm] W fun e w'=>Below W.heap.size W w'∧∃ y0 y1 y2 ok,e=.returned (.tuple #[.agg #[y0,y1,y2],.bool ok])∧G y0 y1 y2 ok) (hl:lookL (kp18 z++[(2,.pointer (some ⟨A,0,none⟩)),(3,.pointer (some ⟨C,0,none⟩)),(8,.int .i64 (i:Nat))]) l=(106,(kp18 z++[(2,.pointer (some ⟨A,0,none⟩)),(3,.pointer (some ⟨C,0,none⟩)),(8,.int .i64 (i:Nat))]:List (Nat × Value)).map (·.2))) (hfr:∀ (u:Nat→Value) (g:Nat) (ok:Bool),frL u 106 (kp18 z++[(2,.pointer (some ⟨A,0,none⟩)),(3,.pointer (some ⟨C,0,none⟩)),(8,.int .i64 (i:Nat)),(9,.pointer (some ⟨g,0,none⟩)),(10,.bool ok)])=LL u g ok)
 (hend:∀ (u:Nat→Value) (y0 y1 y2:Value) (ok:Bool) (g:Nat) (W':World),Below W0.drew.heap.size W0.drew W'→W'.rowIs g 26 3 (row3 y0 y1 y2)→W0.drew.heap.size≤g→G y0 y1 y2 ok→Q .normal ⟨(LL u g ok).toArray,[]⟩ W'):(Code.region 18 ft18Ops true).wp Tryz.prog Q ⟨l.toArray,[]⟩ W0:=by
 obtain ⟨v0,rfl⟩:=look_fr hl
 have hq:NtQ ft18Ops Q:=⟨ft18_neat,hQ⟩
 refine T_start (S:=fun W=>Below W0.drew.heap.size W0.drew W) (by kernel_rfl) (Below.refl _ _) ?_
 clear hl hQ
 have hcl:=World.block_lt_of_cell? W0.drew _ hc
 generalize W0.drew=B at hA hC hc hcl HK hend ⊢
 have Q1:∀ (u:Nat→Value) (W:World) (hW:Below B.heap.size B W) (g:Nat) (hg:W.rowIs g 26 3 (row3 (.int .i64 0) (.slice none 0 0) (.slice none 0 0))) (hgb:B.heap.size≤g) (y0 y1 y2:Value) (ok:Bool) (hG:G y0 y1 y2 ok) ,wpS Tryz.prog ft18Ops Q (fun W=>Below B.heap.size B W) (unl 13 [11,12],frL u 106 (kp18 z++[(2,.pointer (some ⟨A,0,none⟩)),(3,.pointer (some ⟨C,0,none⟩)),(8,.int .i64 (i:Nat)),(9,.pointer (some ⟨g,0,none⟩)),(93,.agg #[y0,y1,y2]),(94,.bool ok)])) [] W:=by
  intro u W hW g hg hgb y0 y1 y2 ok hG 
  refine T_one 11 (by kernel_rfl) fun _=>?_
  have hs3:=set3f W g y0 y1 y2
  have hW2:=below_boxf hW hgb hs3.1
  refine O_store_mid none 26 (.tmp 9) (.tmp 93) g 0 #[y0,y1,y2] (by kernel_rfl) (by kernel_rfl) (by kernel_rfl) (there3f hg) sizeKd (hone _ _ _ _ hG) hW2 ?_
  refine T_z hq [12] (by kernel_rfl) ?_
  exact T_end 106 (kp18 z++[(2,.pointer (some ⟨A,0,none⟩)),(3,.pointer (some ⟨C,0,none⟩)),(8,.int .i64 (i:Nat)),(9,.pointer (some ⟨g,0,none⟩)),(10,.bool ok)]) (by kernel_rfl) (by kernel_rfl) fun _ u=>by rw [hfr];exact hend u y0 y1 y2 ok g _ hW2 (hs3.2 _ _ hg) hgb hG
 have P1:∀ (u:Nat→Value) (W:World) (hW:Below B.heap.size B W) (y0 y1 y2:Value) (ok:Bool) (hG:G y0 y1 y2 ok) ,wpS Tryz.prog ft18Ops Q (fun W=>Below B.heap.size B W) (unl 13 [10,11,12],frL u 106 (kp18 z++[(2,.pointer (some ⟨A,0,none⟩)),(3,.pointer (some ⟨C,0,none⟩)),(8,.int .i64 (i:Nat)),(93,.agg #[y0,y1,y2]),(94,.bool ok)])) [] W:=by
  intro u W hW y0 y1 y2 ok hG 
  refine T_one 10 (by kernel_rfl) fun _=>?_
  exact O_val (w':=W.alloc (.cells #[.int .i64 0,.slice none 0 0,.slice none 0 0] 26)) (some 9) (.pointer (some ⟨W.heap.size,0,none⟩)) (by kernel_rfl) (by kernel_rfl) (hW.alloc hW.size _) (T_fr 13 106 [11,12] (kp18 z++[(2,.pointer (some ⟨A,0,none⟩)),(3,.pointer (some ⟨C,0,none⟩)),(8,.int .i64 (i:Nat)),(9,.pointer (some ⟨W.heap.size,0,none⟩)),(93,.agg #[y0,y1,y2]),(94,.bool ok)]) (by kernel_rfl) fun u=>Q1 u _ (hW.alloc hW.size _) _ (row3_alloc W _ _ _ _) hW.size y0 y1 y2 ok hG )
 have Q0:∀ (u:Nat→Value) (W:World) (hW:Below B.heap.size B W) (g:Nat) (hg:W.rowIs g 26 3 (row3 (.int .i64 0) (.slice none 0 0) (.slice none 0 0))) (hgb:B.heap.size≤g) ,wpS Tryz.prog ft18Ops Q (fun W=>Below B.heap.size B W) (unl 13 [6,7,8,9,11,12],frL u 106 (kp18 z++[(2,.pointer (some ⟨A,0,none⟩)),(3,.pointer (some ⟨C,0,none⟩)),(8,.int .i64 (i:Nat)),(9,.pointer (some ⟨g,0,none⟩)),(86,.agg #[c0,c1,c2]),(91,.string nm)])) [] W:=by
  intro u W hW g hg hgb
  refine T_one 6 (by kernel_rfl) fun _=>?_
  · refine O_go (HK W hW) (by kernel_rfl) ?_
    rintro e W1 ⟨hb1,y0,y1,y2,ok,rfl,hG⟩
    exact ⟨_,rfl,below_onf hW hb1,T_z hq [7,8,9] (by kernel_rfl) (T_fr 13 106 [11,12] (kp18 z++[(2,.pointer (some ⟨A,0,none⟩)),(3,.pointer (some ⟨C,0,none⟩)),(8,.int .i64 (i:Nat)),(9,.pointer (some ⟨g,0,none⟩)),(93,.agg #[y0,y1,y2]),(94,.bool ok)]) (by kernel_rfl) fun u=>Q1 u W1 (below_onf hW hb1) g (hg.of_block (hb1.block _ hg.lt)) hgb y0 y1 y2 ok hG)⟩
 have P0:∀ (u:Nat→Value) (W:World) (hW:Below B.heap.size B W),wpS Tryz.prog ft18Ops Q (fun W=>Below B.heap.size B W) (unl 13 [6,7,8,9,10,11,12],frL u 106 (kp18 z++[(2,.pointer (some ⟨A,0,none⟩)),(3,.pointer (some ⟨C,0,none⟩)),(8,.int .i64 (i:Nat)),(86,.agg #[c0,c1,c2]),(91,.string nm)])) [] W:=by
  intro u W hW
  refine T_two 6 10 (by kernel_rfl) (fun _=>?_) fun _=>?_
  · refine O_go (HK W hW) (by kernel_rfl) ?_
    rintro e W1 ⟨hb1,y0,y1,y2,ok,rfl,hG⟩
    exact ⟨_,rfl,below_onf hW hb1,T_z hq [7,8,9] (by kernel_rfl) (T_fr 13 106 [10,11,12] (kp18 z++[(2,.pointer (some ⟨A,0,none⟩)),(3,.pointer (some ⟨C,0,none⟩)),(8,.int .i64 (i:Nat)),(93,.agg #[y0,y1,y2]),(94,.bool ok)]) (by kernel_rfl) fun u=>P1 u W1 (below_onf hW hb1) y0 y1 y2 ok hG)⟩
  · exact O_val (w':=W.alloc (.cells #[.int .i64 0,.slice none 0 0,.slice none 0 0] 26)) (some 9) (.pointer (some ⟨W.heap.size,0,none⟩)) (by kernel_rfl) (by kernel_rfl) (hW.alloc hW.size _) (T_fr 13 106 [6,7,8,9,11,12] (kp18 z++[(2,.pointer (some ⟨A,0,none⟩)),(3,.pointer (some ⟨C,0,none⟩)),(8,.int .i64 (i:Nat)),(9,.pointer (some ⟨W.heap.size,0,none⟩)),(86,.agg #[c0,c1,c2]),(91,.string nm)]) (by kernel_rfl) fun u=>Q0 u _ (hW.alloc hW.size _) _ (row3_alloc W _ _ _ _) hW.size )
 refine T_a hq [0] (fun w' h=>.cons (ldKd _ _ _ _ _ (hA.of_block (h.block _ hA.lt))) Lds.nil) (by kernel_rfl) ?_
 refine T_z hq [1,3] (by kernel_rfl) ?_
 refine T_a hq [2] (fun w' h=>.cons (ldStrsF _ _ (.slice (some ⟨nb,no,none⟩) len cap) ((hC.of_block (h.block _ hC.lt)).cell (i:=1) (by omega))) Lds.nil) (by kernel_rfl) ?_
 refine T_yld hq 4 (some 90) (.pointer (some ⟨nb,no+i,none⟩)) (by kernel_rfl) (by kernel_rfl) (fun w _=>ixRunF (n:=len) (cap:=cap) (i:=i) (X:=.tmp 88) (I:=.tmp 89) (by kernel_rfl) (by kernel_rfl) (by kernel_rfl) hi w) ?_
 refine T_a hq [5] (fun w' h=>.cons (ldStrF _ ⟨nb,no+i,none⟩ (.string nm) (by rw [World.cell?_of_block (w:=B) (h.block nb hcl)];exact hc)) Lds.nil) (by kernel_rfl) ?_
 exact T_fr 13 106 [6,7,8,9,10,11,12] (kp18 z++[(2,.pointer (some ⟨A,0,none⟩)),(3,.pointer (some ⟨C,0,none⟩)),(8,.int .i64 (i:Nat)),(86,.agg #[c0,c1,c2]),(91,.string nm)]) (by kernel_rfl) fun u=>P0 u _ (Below.refl _ _)
theorem ft18 (A C:Nat) (c0 c1 c2 n0 n2:Value) (nb no len cap i:Nat) (nm:ByteArray) (G:Value→Value→Value→Bool→Prop) (W0:World) {l:List Value} (Q:Exit→Act→World→Prop) (hQ:∀ c a d v w,Q (.panic c) (Act.put a d v) w→Q (.panic c) a w) (hA:W0.drew.rowIs A 26 3 (row3 c0 c1 c2)) (hC:W0.drew.rowIs C 26 3 (row3 n0 (.slice (some ⟨nb,no,none⟩) len cap) n2)) (hi:i < len) (hc:W0.drew.cell? ⟨nb,no+i,none⟩=some (.string nm)) (hone:∀ y0 y1 y2 ok,G y0 y1 y2 ok→(#[y0,y1,y2]:Array Value).all (·.oneCell')=true) (HK:∀ W,Below W0.drew.heap.size W0.drew W→Calls Tryz.prog 66 #[.agg #[c0,c1,c2],.string nm] W fun e w'=>Below W.heap.size W w'∧∃ y0 y1 y2 ok,e=.returned (.tuple #[.agg #[y0,y1,y2],.bool ok])∧G y0 y1 y2 ok) (hl:lookL (kp18 (fun i=>l.getD i undef)++[(2,.pointer (some ⟨A,0,none⟩)),(3,.pointer (some ⟨C,0,none⟩)),(8,.int .i64 (i:Nat))]) l=(106,(kp18 (fun i=>l.getD i undef)++[(2,.pointer (some ⟨A,0,none⟩)),(3,.pointer (some ⟨C,0,none⟩)),(8,.int .i64 (i:Nat))]:List (Nat × Value)).map (·.2))) (hfr:∀ (u:Nat→Value) (g:Nat) (ok:Bool),frL u 106 (kp18 (fun i=>l.getD i undef)++[(2,.pointer (some ⟨A,0,none⟩)),(3,.pointer (some ⟨C,0,none⟩)),(8,.int .i64 (i:Nat)),(9,.pointer (some ⟨g,0,none⟩)),(10,.bool ok)])=l.take 9++.pointer (some ⟨g,0,none⟩)::.bool ok::((l.drop 11).take 74++(u 85::u 86::u 87::u 88::u 89::u 90::u 91::u 92::u 93::u 94::l.drop 95)))
 (hend:∀ (u:Nat→Value) (y0 y1 y2:Value) (ok:Bool) (g:Nat) (W':World),Below W0.drew.heap.size W0.drew W'→W'.rowIs g 26 3 (row3 y0 y1 y2)→W0.drew.heap.size≤g→G y0 y1 y2 ok→Q .normal ⟨(l.take 9++.pointer (some ⟨g,0,none⟩)::.bool ok::((l.drop 11).take 74++(u 85::u 86::u 87::u 88::u 89::u 90::u 91::u 92::u 93::u 94::l.drop 95))).toArray,[]⟩ W'):(Code.region 18 ft18Ops true).wp Tryz.prog Q ⟨l.toArray,[]⟩ W0 :=
 ft18z (fun i=>l.getD i undef) (fun u g ok=>l.take 9++.pointer (some ⟨g,0,none⟩)::.bool ok::((l.drop 11).take 74++(u 85::u 86::u 87::u 88::u 89::u 90::u 91::u 92::u 93::u 94::l.drop 95))) A C c0 c1 c2 n0 n2 nb no len cap i nm G W0 Q hQ hA hC hi hc hone HK hl hfr hend
end Go.Proofs.YteefjeddboefcaaGreatDoor
