/- A part. -/
import Derived.Test.YteikmbkljkkjiaaSart01
import Derived.BigQuiet
import Derived.Deep.CutRange
namespace Go.Proofs.Yteikmbkljkkjiaa
open Go Go.RowKit
set_option maxRecDepth 100000
set_option maxHeartbeats 3200000
section
variable {P:Program} {ops:Array Oper} {Q:Exit→Act→World→Prop} {S:World→Prop}
def lftB (n:Nat) (ls:List Bool):Nat:=(List.range n).countP fun i=>!ls.getD i true
theorem countP_lt {p q:Nat→Bool} {l:List Nat} (h:∀ x,p x=true→q x=true) {x:Nat} (hx:x∈l) (h1:q x=true) (h2:p x=false):l.countP p < l.countP q:=by
 induction l with
 | nil=>cases hx
 | cons y l ih =>
   rw [List.countP_cons,List.countP_cons]
   have hm:l.countP p≤l.countP q:=List.countP_mono_left fun z _=>h z
   rcases List.mem_cons.1 hx with rfl | hx
   · rw [h1,h2];simp;omega
   · have:=ih hx
     cases hp:p y with
     | false=>simp;omega
     | true=>rw [h y hp];simp;omega
theorem lftB_set {n i:Nat} {ls:List Bool} (hi:i < n) (h:ls.getD i true=false):lftB n (ls.set i true) < lftB n ls:=by
 refine countP_lt (fun x hx=>?_) (List.mem_range.2 hi) (by rw [h];rfl) ?_
 · by_cases e:x=i
   · subst e;rw [h];rfl
   · simpa [List.getD_eq_getElem?_getD,List.getElem?_set,Ne.symm e] using hx
 · rw [List.getD_eq_getElem?_getD] at h
   have hlt:i < ls.length:=by
    rcases Nat.lt_or_ge i ls.length with h1 | h1
    · exact h1
    · rw [List.getElem?_eq_none h1] at h;cases h
   simp [List.getD_eq_getElem?_getD,hlt]
structure NtQ (ops:Array Oper) (Q:Exit→Act→World→Prop):Prop where
 s:Region.noSelect ops=true∧neat ops=true
 q:∀ c a d v w,Q (.panic c) (Act.put a d v) w→Q (.panic c) a w
structure wpT (P:Program) (ops:Array Oper) (Q:Exit→Act→World→Prop) (S:World→Prop) (ls:List Bool) (l:List Value) (ds:List Deferred) (w:World):Prop where
 out:S w→∀ fuel,lftB ops.size ls≤fuel→wpAnyH P .any ops Q S fuel ls.toArray ⟨l.toArray,ds⟩ w
theorem U_start {l:List Value} {ds:List Deferred} {id:Nat} {w:World} (hm:P.follows .mixedOrders=true) (hS:S w.drew) (h:wpT P ops Q S (List.replicate ops.size false) l ds w.drew):(Code.region id ops true).wp P Q ⟨l.toArray,ds⟩ w:=by
 refine wp_region_held (S:=S) hm ?_
 have:=h.out hS ops.size (Nat.le_trans (List.countP_le_length ..) (by simp))
 have e:(List.replicate ops.size false).toArray=Array.replicate ops.size false:=by simp
 rw [e] at this
 exact this
theorem U_yld {ls:List Bool} {l:List Value} {ds:List Deferred} {w:World} (hq:NtQ ops Q) (i:Nat) (d:Option Tmp) (v:Value) (hb:tkG ops ls.toArray i d=true) (hy:S w→YieldsIf P ops S (opI ops i) v ⟨l.toArray,ds⟩) (h:wpT P ops Q S (ls.set i true) (putL l d v) ds w):wpT P ops Q S ls l ds w:=by
 refine ⟨fun hS fuel hf=>?_⟩
 have h1:i < ops.size∧ls.getD i true=false:=by
  unfold tkG at hb
  cases hi:ops[i]? with
  | none=>rw [hi] at hb;cases hb
  | some o =>
    rw [hi] at hb
    simp only [Bool.and_eq_true,Bool.not_eq_true'] at hb
    refine ⟨(Array.getElem?_eq_some_iff.1 hi).1,?_⟩
    have:=hb.1.2
    rw [Array.getD_eq_getD_getElem?] at this
    rw [List.getD_eq_getElem?_getD]
    simpa using this
 have h2:=lftB_set h1.1 h1.2
 obtain ⟨f,rfl⟩:∃ f,fuel=f+1:=⟨fuel - 1,by omega⟩
 refine take_yld i d v hq.s hq.q hb (hy hS) hS ?_
 rw [put_putL]
 have:=h.out hS f (by omega)
 simpa using this
def autoL (P:Program) (ops:Array Oper) (ds:List Deferred):List Nat→List Bool→List Value→List Told→List Bool × List Value × List (TypeId × Value)
 | [],ls,l,_=>(ls,l,[])
 | i::is,ls,l,hs =>
   if tkG ops ls.toArray i (opI ops i).dst then
    if Region.wanted (opI ops i) (yielded ops l.toArray) then
     match (opI ops i).op with
     | .load T x=>match hs with
       | t::hs=>match openL (putL l (opI ops i).dst t.2.2) fun l'=>autoL P ops ds is (ls.set i true) l' hs with
         | (r1,r2,r3)=>(r1,r2,(T,(⟨l.toArray,ds⟩:Act).eval x)::r3)
       | []=>autoL P ops ds is ls l []
     | _=>match quiet P (execOp (⟨l.toArray,ds⟩:Act).eval (opI ops i)) with
       | some (.value v)=>openL (putL l (opI ops i).dst v) fun l'=>autoL P ops ds is (ls.set i true) l' hs
       | _=>autoL P ops ds is ls l hs
    else openL (putL l (opI ops i).dst undef) fun l'=>autoL P ops ds is (ls.set i true) l' hs
   else autoL P ops ds is ls l hs
theorem auto_sound {ds:List Deferred} {w:World} (hq:NtQ ops Q):∀ (is:List Nat) (ls:List Bool) (l:List Value) (hs:List Told) (ls':List Bool) (l':List Value),autoL P ops ds is ls l hs=(ls',l',hs.map tp)→(∀ w,S w→Lds P w hs)→wpT P ops Q S ls' l' ds w→wpT P ops Q S ls l ds w
 | [],ls,l,hs,ls',l',h,_,H=>by
   simp only [autoL,Prod.mk.injEq] at h
   rw [h.1,h.2.1];exact H
 | i::is,ls,l,hs,ls',l',h,hl,H=>by
   unfold autoL at h
   split at h
   · rename_i hb
     split at h
     · rename_i hw
       split at h
       · rename_i T x ho
         cases hs with
         | nil=>exact auto_sound hq is ls l [] ls' l' h hl H
         | cons t hs =>
           obtain ⟨T',ad,v⟩:=t
           simp only [openL_eq] at h
           cases hr:autoL P ops ds is (ls.set i true) (putL l (opI ops i).dst v) hs with
           | mk r1 r =>
             obtain ⟨r2,r3⟩:=r
             rw [hr] at h
             simp only [List.map_cons,Prod.mk.injEq,List.cons.injEq,tp] at h
             obtain ⟨rfl,rfl,⟨rfl,e2⟩,e3⟩:=h
             refine U_yld hq i _ v hb (fun _=>Or.inl ⟨hw,fun w hS=>?_⟩) (auto_sound hq is _ _ hs r1 r2 (by rw [hr,e3]) (fun w hS s hs=>hl w hS s (List.mem_cons_of_mem _ hs)) H)
             have:=hl w hS _ (List.mem_cons_self ..)
             unfold execOp
             simp only [ho,e2,Sem.run_bind,Sem.run_pure]
             simp only [this,Result.andThen_ok]
       · split at h
         · rename_i v hv
           rw [openL_eq] at h
           exact U_yld hq i _ v hb (fun _=>Or.inl ⟨hw,fun w _=>quiet_run hv w⟩) (auto_sound hq is _ _ hs ls' l' h hl H)
         · exact auto_sound hq is ls l hs ls' l' h hl H
     · rename_i hw
       rw [openL_eq] at h
       exact U_yld hq i _ undef hb (fun _=>Or.inr ⟨by simpa using hw,rfl⟩) (auto_sound hq is _ _ hs ls' l' h hl H)
   · exact auto_sound hq is ls l hs ls' l' h hl H
def unl (n:Nat) (r:List Nat):List Bool:=(List.range n).map fun i=>!r.contains i
theorem U_q {ls:List Bool} {l:List Value} {ds:List Deferred} {w:World} (hq:NtQ ops Q) (is r:List Nat) (n N:Nat) (s:List (Nat × Value)) (hs:List Told) (h:(fun r=>(lookL s r.2.1,r.1,r.2.2)) (autoL P ops ds is ls l hs)=((N,s.map (·.2)),unl n r,hs.map tp)) (hl:∀ w,S w→Lds P w hs) (H:∀ v,wpT P ops Q S (unl n r) (frL v N s) ds w):wpT P ops Q S ls l ds w:=by
 cases hr:autoL P ops ds is ls l hs with
 | mk r1 r' =>
   obtain ⟨r2,r3⟩:=r'
   rw [hr] at h
   have h1:=congrArg Prod.fst h
   have h2:=congrArg (fun x=>x.2.1) h
   have h3:=congrArg (fun x=>x.2.2) h
   simp only at h1 h2 h3
   subst h2 h3
   obtain ⟨v,rfl⟩:=look_fr h1
   exact auto_sound hq is ls l hs _ _ hr hl (H v)
def wpO (P:Program) (ops:Array Oper) (Q:Exit→Act→World→Prop) (S:World→Prop) (i:Nat) (ls:List Bool) (l:List Value) (ds:List Deferred) (w:World):Prop :=
 wpOp P ops Q i (fun a' w'=>S w'∧∃ l',a'=⟨l'.toArray,ds⟩∧wpT P ops Q S (ls.set i true) l' ds w') ⟨l.toArray,ds⟩ w
theorem U_all {ls:List Bool} {l:List Value} {ds:List Deferred} {w:World} (rs:List Nat) (hr:Region.ready .any ops ls.toArray=rs) (hne:rs≠[]) (h:∀ i∈rs,S w→wpO P ops Q S i ls l ds w):wpT P ops Q S ls l ds w:=by
 refine ⟨fun hS fuel hf=>?_⟩
 obtain ⟨f,rfl⟩:∃ f,fuel=f+1:=by
  cases rs with
  | nil=>exact absurd rfl hne
  | cons i rs =>
    have hi:i∈Region.ready .any ops ls.toArray:=by rw [hr];exact List.mem_cons_self ..
    unfold Region.ready at hi
    rw [List.mem_filter] at hi
    simp only [Bool.and_eq_true,Bool.not_eq_true'] at hi
    have h2:=lftB_set (List.mem_range.1 hi.1) (by have:=hi.2.1;rw [Array.getD_eq_getD_getElem?] at this;rw [List.getD_eq_getElem?_getD];simpa using this)
    exact ⟨fuel - 1,by omega⟩
 refine wpAnyH_all hr hne fun i hi=>?_
 have hi2:i∈Region.ready .any ops ls.toArray:=by rw [hr];exact hi
 unfold Region.ready at hi2
 rw [List.mem_filter] at hi2
 simp only [Bool.and_eq_true,Bool.not_eq_true'] at hi2
 have h2:=lftB_set (List.mem_range.1 hi2.1) (by have:=hi2.2.1;rw [Array.getD_eq_getD_getElem?] at this;rw [List.getD_eq_getElem?_getD];simpa using this)
 refine wpOp_mono (fun a' w' hh=>?_) (h i hi hS)
 obtain ⟨hS',l',rfl,ht⟩:=hh
 refine ⟨hS',?_⟩
 have:=ht.out hS' f (by omega)
 simpa using this
theorem U_one {ls:List Bool} {l:List Value} {ds:List Deferred} {w:World} (i:Nat) (hr:Region.ready .any ops ls.toArray=[i]) (h:S w→wpO P ops Q S i ls l ds w):wpT P ops Q S ls l ds w :=
 U_all [i] hr (by simp) fun j hj=>by rw [List.mem_singleton.1 hj];exact h
theorem U_two {ls:List Bool} {l:List Value} {ds:List Deferred} {w:World} (i k:Nat) (hr:Region.ready .any ops ls.toArray=[i,k]) (h:S w→wpO P ops Q S i ls l ds w) (h2:S w→wpO P ops Q S k ls l ds w):wpT P ops Q S ls l ds w :=
 U_all [i,k] hr (by simp) fun j hj=>by
  simp only [List.mem_cons,List.not_mem_nil,or_false] at hj
  rcases hj with rfl | rfl
  · exact h
  · exact h2
theorem U_done {ls:List Bool} {l:List Value} {ds:List Deferred} {w:World} (hr:Region.ready .any ops ls.toArray=[]) (h:S w→Q .normal ⟨l.toArray,ds⟩ w):wpT P ops Q S ls l ds w :=
 ⟨fun hS fuel _=>wpAnyH_done hr (h hS) fuel⟩
def entB (P:Program) (ops:Array Oper) (ds:List Deferred) (i:Nat) (l:List Value):Option (Option Tmp × FuncId × Array Value) :=
 if opG ops i (opI ops i).dst && Region.wanted (opI ops i) (yielded ops l.toArray) then
  match quiet P (execOp (⟨l.toArray,ds⟩:Act).eval (opI ops i)) with
  | some (.enter f args)=>some ((opI ops i).dst,f,args)
  | _=>none
 else none
theorem V_enter {i:Nat} {ls:List Bool} {l:List Value} {ds:List Deferred} {w:World} (d:Option Tmp) (f:FuncId) (args:Array Value) {R:Ending→World→Prop} (h:entB P ops ds i l=some (d,f,args)) (hc:Calls P f args w R) (H:∀ e w',R e w'→∃ u,e=.returned u∧S w'∧wpT P ops Q S (ls.set i true) (putL l d u) ds w'):wpO P ops Q S i ls l ds w:=by
 unfold entB at h
 split at h
 · rename_i hb
   simp only [Bool.and_eq_true] at hb
   split at h
   · rename_i f' args' hx
     simp only [Option.some.injEq,Prod.mk.injEq] at h
     obtain ⟨rfl,rfl,rfl⟩:=h
     refine op_enterG _ _ _ hb.1 hb.2 (quiet_run hx w) hc fun e w' he=>?_
     obtain ⟨u,rfl,h1,h2⟩:=H e w' he
     exact ⟨u,rfl,h1,_,put_putL ..,h2⟩
   · cases h
 · cases h
theorem V_val {i:Nat} {ls:List Bool} {l:List Value} {ds:List Deferred} {w w':World} (d:Option Tmp) (v:Value) (hb:opB ops i d=true) (hr:(execOp (⟨l.toArray,ds⟩:Act).eval (opI ops i)).run P w=.ok (.value v) w') (hS:S w') (H:wpT P ops Q S (ls.set i true) (putL l d v) ds w'):wpO P ops Q S i ls l ds w :=
 op_val d v hb hr ⟨hS,_,put_putL ..,H⟩
theorem V_skip {i:Nat} {ls:List Bool} {l:List Value} {ds:List Deferred} {w w':World} (d:Option Tmp) (hb:opB ops i d=true) (hr:(execOp (⟨l.toArray,ds⟩:Act).eval (opI ops i)).run P w=.ok .skip w') (hS:S w') (H:wpT P ops Q S (ls.set i true) (putL l d undef) ds w'):wpO P ops Q S i ls l ds w :=
 op_skip d hb hr ⟨hS,_,put_putL ..,H⟩
theorem F_enter {k:Nat} {l:List Value} {ds:List Deferred} {w:World} (d:Option Tmp) (f:FuncId) (args:Array Value) {R:Ending→World→Prop} (h:entB P ops ds k l=some (d,f,args)) (hc:Calls P f args w R) (H:∀ e w',R e w'→∃ u,e=.returned u∧wpFrom P ops Q (k+1) ⟨(putL l d u).toArray,ds⟩ w'):wpFrom P ops Q k ⟨l.toArray,ds⟩ w:=by
 unfold entB at h
 split at h
 · rename_i hb
   simp only [Bool.and_eq_true] at hb
   split at h
   · rename_i f' args' hx
     simp only [Option.some.injEq,Prod.mk.injEq] at h
     obtain ⟨rfl,rfl,rfl⟩:=h
     refine from_enter _ _ _ hb.1 hb.2 (quiet_run hx w) hc fun e w' he=>?_
     obtain ⟨u,rfl,h1⟩:=H e w' he
     exact ⟨u,rfl,by rw [put_putL];exact h1⟩
   · cases h
 · cases h
def oneB (P:Program) (ops:Array Oper) (ds:List Deferred) (k:Nat) (l:List Value):Option (Option Tmp × Value) :=
 if opG ops k (opI ops k).dst && Region.wanted (opI ops k) (yielded ops l.toArray) then
  match quiet P (execOp (⟨l.toArray,ds⟩:Act).eval (opI ops k)) with
  | some (.value v)=>some ((opI ops k).dst,v)
  | _=>none
 else none
theorem oneB_spec {ds:List Deferred} {k:Nat} {l:List Value} {d:Option Tmp} {v:Value} (h:oneB P ops ds k l=some (d,v)):opG ops k d=true∧Region.wanted (opI ops k) (yielded ops l.toArray)=true∧quiet P (execOp (⟨l.toArray,ds⟩:Act).eval (opI ops k))=some (.value v)∧(opI ops k).dst=d:=by
 unfold oneB at h
 split at h
 · rename_i hb
   simp only [Bool.and_eq_true] at hb
   split at h
   · rename_i v' hx
     simp only [Option.some.injEq,Prod.mk.injEq] at h
     obtain ⟨h1,h2⟩:=h
     exact ⟨h1 ▸ hb.1,hb.2,h2 ▸ hx,h1⟩
   · cases h
 · cases h
theorem F_one {k:Nat} {l:List Value} {ds:List Deferred} {w:World} (d:Option Tmp) (v v':Value) (hv:v=v') (h:oneB P ops ds k l=some (d,v)) (H:wpFrom P ops Q (k+1) ⟨(putL l d v').toArray,ds⟩ w):wpFrom P ops Q k ⟨l.toArray,ds⟩ w:=by
 obtain ⟨h1,h2,h3,-⟩:=oneB_spec h
 refine from_val d v v' hv h1 h2 (quiet_run h3 w) ?_
 rw [put_putL]
 exact H
theorem U_val {i:Nat} {ls:List Bool} {l:List Value} {ds:List Deferred} {w:World} (hq:NtQ ops Q) (d:Option Tmp) (v v':Value) (hv:v=v') (hb:tkG ops ls.toArray i d=true) (h:oneB P ops ds i l=some (d,v)) (H:wpT P ops Q S (ls.set i true) (putL l d v') ds w):wpT P ops Q S ls l ds w:=by
 obtain ⟨h1,h2,h3,-⟩:=oneB_spec h
 subst hv
 exact U_yld hq i d v hb (fun _=>Or.inl ⟨h2,fun w _=>quiet_run h3 w⟩) H
theorem U_a {ls:List Bool} {l:List Value} {ds:List Deferred} {w:World} (hq:NtQ ops Q) (is:List Nat) {hs:List Told} (hl:∀ w,S w→Lds P w hs) (h:(autoL P ops ds is ls l hs).2.2=hs.map tp) (H:wpT P ops Q S (autoL P ops ds is ls l hs).1 (autoL P ops ds is ls l hs).2.1 ds w):wpT P ops Q S ls l ds w:=by
 cases hr:autoL P ops ds is ls l hs with
 | mk r1 r' =>
   obtain ⟨r2,r3⟩:=r'
   rw [hr] at h H
   simp only at h H
   subst h
   exact auto_sound hq is ls l hs r1 r2 hr hl H
theorem U_z {ls:List Bool} {l:List Value} {ds:List Deferred} {w:World} (hq:NtQ ops Q) (is:List Nat) (h:(autoL P ops ds is ls l []).2.2=[]) (H:wpT P ops Q S (autoL P ops ds is ls l []).1 (autoL P ops ds is ls l []).2.1 ds w):wpT P ops Q S ls l ds w :=
 U_a hq is (fun _ _=>Lds.nil) h H
theorem U_fr {ls:List Bool} {l:List Value} {ds:List Deferred} {w:World} (n N:Nat) (r:List Nat) (s:List (Nat × Value)) (h:(ls,lookL s l)=(unl n r,(N,s.map (·.2)))) (H:∀ v,wpT P ops Q S (unl n r) (frL v N s) ds w):wpT P ops Q S ls l ds w:=by
 have h1:=congrArg Prod.fst h
 have h2:=congrArg Prod.snd h
 simp only at h1 h2
 subst h1
 obtain ⟨v,rfl⟩:=look_fr h2
 exact H v
theorem U_end {ls:List Bool} {l:List Value} {ds:List Deferred} {w:World} (N:Nat) (s:List (Nat × Value)) (hr:Region.ready .any ops ls.toArray=[]) (h:lookL s l=(N,s.map (·.2))) (H:S w→∀ v,Q .normal ⟨(frL v N s).toArray,ds⟩ w):wpT P ops Q S ls l ds w:=by
 obtain ⟨v,rfl⟩:=look_fr h
 exact U_done hr fun hS=>H hS v
def callB (P:Program) (ops:Array Oper) (ds:List Deferred) (i:Nat) (l:List Value):Option (FuncId × Array Value):=(entB P ops ds i l).map (·.2)
theorem callB_spec {ds:List Deferred} {i:Nat} {l:List Value} {f:FuncId} {args:Array Value} (h:callB P ops ds i l=some (f,args)):entB P ops ds i l=some ((opI ops i).dst,f,args):=by
 unfold callB at h
 rw [Option.map_eq_some_iff] at h
 obtain ⟨⟨d,f',a'⟩,h1,h2⟩:=h
 simp only [Prod.mk.injEq] at h2
 obtain ⟨rfl,rfl⟩:=h2
 rw [h1]
 unfold entB at h1
 split at h1
 · split at h1
   · simp only [Option.some.injEq,Prod.mk.injEq] at h1
     rw [h1.1]
   · cases h1
 · cases h1
theorem V_go {i:Nat} {ls:List Bool} {l:List Value} {ds:List Deferred} {w:World} {f:FuncId} {args:Array Value} {R:Ending→World→Prop} (hc:Calls P f args w R) (h:callB P ops ds i l=some (f,args)) (H:∀ e w',R e w'→∃ u,e=.returned u∧S w'∧wpT P ops Q S (ls.set i true) (putL l (opI ops i).dst u) ds w'):wpO P ops Q S i ls l ds w :=
 V_enter _ f args (callB_spec h) hc H
theorem V_call {i:Nat} {ls:List Bool} {l:List Value} {ds:List Deferred} {w:World} {f:FuncId} {args:Array Value} {u:Value} {T:World→Prop} (hc:Calls P f args w fun e w'=>e=.returned u∧T w') (hon:∀ w',T w'→S w') (h:callB P ops ds i l=some (f,args)) (H:∀ w',T w'→wpT P ops Q S (ls.set i true) (putL l (opI ops i).dst u) ds w'):wpO P ops Q S i ls l ds w :=
 V_go hc h fun _ w' ⟨he,hT⟩=>⟨u,he,hon w' hT,H w' hT⟩
theorem F_go {k:Nat} {l:List Value} {ds:List Deferred} {w:World} {f:FuncId} {args:Array Value} {R:Ending→World→Prop} (hc:Calls P f args w R) (h:callB P ops ds k l=some (f,args)) (H:∀ e w',R e w'→∃ u,e=.returned u∧wpFrom P ops Q (k+1) ⟨(putL l (opI ops k).dst u).toArray,ds⟩ w'):wpFrom P ops Q k ⟨l.toArray,ds⟩ w :=
 F_enter _ f args (callB_spec h) hc H
theorem F_call {k:Nat} {l:List Value} {ds:List Deferred} {w:World} {f:FuncId} {args:Array Value} {u:Value} {T:World→Prop} (hc:Calls P f args w fun e w'=>e=.returned u∧T w') (h:callB P ops ds k l=some (f,args)) (H:∀ w',T w'→wpFrom P ops Q (k+1) ⟨(putL l (opI ops k).dst u).toArray,ds⟩ w'):wpFrom P ops Q k ⟨l.toArray,ds⟩ w :=
 F_go hc h fun _ w' ⟨he,hT⟩=>⟨u,he,H w' hT⟩
theorem Lds.one {w:World} {T:TypeId} {ad:Addr} {v:Value} (h:(Instr.loadAt T (.pointer (some ad))).run P w=.ok v w):Lds P w [(T,ad,v)]:=h |> (Lds.cons · .nil)
theorem from_a {k:Nat} {l:List Value} {ds:List Deferred} {w:World} (n:Nat) {hs:List Told} (hl:Lds P w hs) (h:(fromL P ops ds n (ops.toList.drop k) l hs).map (·.2)=some (hs.map tp)) (H:wpFrom P ops Q (k+n) ⟨(((fromL P ops ds n (ops.toList.drop k) l hs).getD ([],[])).1).toArray,ds⟩ w):wpFrom P ops Q k ⟨l.toArray,ds⟩ w:=by
 rw [Option.map_eq_some_iff] at h
 obtain ⟨⟨l',m⟩,h1,h2⟩:=h
 simp only at h2
 subst h2
 rw [h1] at H
 exact fromL_sound n k _ l _ hs rfl h1 hl H
end

section
variable {P:Program} {ops:Array Oper} {Q:Exit→Act→World→Prop} {S:World→Prop}
abbrev Stt:=List Bool × List Value
structure wpS (P:Program) (ops:Array Oper) (Q:Exit→Act→World→Prop) (S:World→Prop) (st:Stt) (ds:List Deferred) (w:World):Prop where
 out:wpT P ops Q S st.1 st.2 ds w
def autoS (P:Program) (ops:Array Oper) (ds:List Deferred) (is:List Nat) (hs:List Told):Stt→Stt × List (TypeId × Value)
 | (ls,l)=>match autoL P ops ds is ls l hs with
   | (a,b,c)=>((a,b),c)
def setS (i:Nat) (d:Option Tmp) (u:Value):Stt→Stt
 | (ls,l)=>(ls.set i true,putL l d u)
def rdyS (ops:Array Oper):Stt→List Nat
 | (ls,_)=>Region.ready .any ops ls.toArray
theorem T_start {l:List Value} {ds:List Deferred} {id:Nat} {w:World} (hm:P.follows .mixedOrders=true) (hS:S w.drew) (h:wpS P ops Q S (List.replicate ops.size false,l) ds w.drew):(Code.region id ops true).wp P Q ⟨l.toArray,ds⟩ w:=U_start hm hS h.out
theorem T_a {st:Stt} {ds:List Deferred} {w:World} (hq:NtQ ops Q) (is:List Nat) {hs:List Told} (hl:∀ w,S w→Lds P w hs) (h:(autoS P ops ds is hs st).2=hs.map tp) (H:wpS P ops Q S (autoS P ops ds is hs st).1 ds w):wpS P ops Q S st ds w:=by
 obtain ⟨ls,l⟩:=st
 refine ⟨U_a hq is hl h H.out⟩
theorem T_z {st:Stt} {ds:List Deferred} {w:World} (hq:NtQ ops Q) (is:List Nat) (h:(autoS P ops ds is [] st).2=[]) (H:wpS P ops Q S (autoS P ops ds is [] st).1 ds w):wpS P ops Q S st ds w:=T_a hq is (fun _ _=>Lds.nil) h H
theorem T_fr {st:Stt} {ds:List Deferred} {w:World} (n N:Nat) (r:List Nat) (s:List (Nat × Value)) (h:(st.1,lookL s st.2)=(unl n r,(N,s.map (·.2)))) (H:∀ v,wpS P ops Q S (unl n r,frL v N s) ds w):wpS P ops Q S st ds w:=⟨U_fr n N r s h fun v=>(H v).out⟩
theorem T_end {st:Stt} {ds:List Deferred} {w:World} (N:Nat) (s:List (Nat × Value)) (hr:rdyS ops st=[]) (h:lookL s st.2=(N,s.map (·.2))) (H:S w→∀ v,Q .normal ⟨(frL v N s).toArray,ds⟩ w):wpS P ops Q S st ds w:=⟨U_end N s hr h H⟩
structure wpP (P:Program) (ops:Array Oper) (Q:Exit→Act→World→Prop) (S:World→Prop) (i:Nat) (st:Stt) (ds:List Deferred) (w:World):Prop where
 out:wpO P ops Q S i st.1 st.2 ds w
theorem T_all {st:Stt} {ds:List Deferred} {w:World} (rs:List Nat) (hr:rdyS ops st=rs) (hne:rs≠[]) (h:∀ i∈rs,S w→wpP P ops Q S i st ds w):wpS P ops Q S st ds w:=⟨U_all rs hr hne fun i hi hS=>(h i hi hS).out⟩
theorem T_one {st:Stt} {ds:List Deferred} {w:World} (i:Nat) (hr:rdyS ops st=[i]) (h:S w→wpP P ops Q S i st ds w):wpS P ops Q S st ds w:=⟨U_one i hr fun hS=>(h hS).out⟩
theorem T_two {st:Stt} {ds:List Deferred} {w:World} (i k:Nat) (hr:rdyS ops st=[i,k]) (h:S w→wpP P ops Q S i st ds w) (h2:S w→wpP P ops Q S k st ds w):wpS P ops Q S st ds w:=⟨U_two i k hr (fun hS=>(h hS).out) fun hS=>(h2 hS).out⟩
def callS (P:Program) (ops:Array Oper) (ds:List Deferred) (i:Nat):Stt→Option (FuncId × Array Value)
 | (_,l)=>callB P ops ds i l
theorem O_go {i:Nat} {st:Stt} {ds:List Deferred} {w:World} {f:FuncId} {args:Array Value} {R:Ending→World→Prop} (hc:Calls P f args w R) (h:callS P ops ds i st=some (f,args)) (H:∀ e w',R e w'→∃ u,e=.returned u∧S w'∧wpS P ops Q S (setS i (opI ops i).dst u st) ds w'):wpP P ops Q S i st ds w :=
 ⟨V_go hc h fun e w' hr=>by obtain ⟨u,h1,h2,h3⟩:=H e w' hr;exact ⟨u,h1,h2,h3.out⟩⟩
theorem O_call {i:Nat} {st:Stt} {ds:List Deferred} {w:World} {f:FuncId} {args:Array Value} {u:Value} {T:World→Prop} (hc:Calls P f args w fun e w'=>e=.returned u∧T w') (hon:∀ w',T w'→S w') (h:callS P ops ds i st=some (f,args)) (H:∀ w',T w'→wpS P ops Q S (setS i (opI ops i).dst u st) ds w'):wpP P ops Q S i st ds w :=
 O_go hc h fun _ w' ⟨he,hT⟩=>⟨u,he,hon w' hT,H w' hT⟩
theorem O_val {i:Nat} {st:Stt} {ds:List Deferred} {w w':World} (d:Option Tmp) (v:Value) (hb:opB ops i d=true) (hr:(execOp (⟨st.2.toArray,ds⟩:Act).eval (opI ops i)).run P w=.ok (.value v) w') (hS:S w') (H:wpS P ops Q S (setS i d v st) ds w'):wpP P ops Q S i st ds w:=⟨V_val d v hb hr hS H.out⟩
theorem O_skip {i:Nat} {st:Stt} {ds:List Deferred} {w w':World} (d:Option Tmp) (hb:opB ops i d=true) (hr:(execOp (⟨st.2.toArray,ds⟩:Act).eval (opI ops i)).run P w=.ok .skip w') (hS:S w') (H:wpS P ops Q S (setS i d undef st) ds w'):wpP P ops Q S i st ds w:=⟨V_skip d hb hr hS H.out⟩
theorem O_list {i:Nat} {st:Stt} {ds:List Deferred} {w:World} (d:Option Tmp) (hb:opB ops i d=true) (h:wpList P ops (Nrm (fun a' w'=>S w'∧∃ l',a'=⟨l'.toArray,ds⟩∧wpS P ops Q S (st.1.set i true,l') ds w') Q) [opI ops i] ⟨st.2.toArray,ds⟩ w):wpP P ops Q S i st ds w :=
 ⟨wpOp_mono (fun _ _ ⟨h1,l',h2,h3⟩=>⟨h1,l',h2,h3.out⟩) (op_list d hb h)⟩
theorem O_store {i:Nat} {st:Stt} {ds:List Deferred} {w:World} (d:Option Tmp) (ty:TypeId) (x y:Operand) (ad:Addr) (v:Value) (w':World) (hb:opB ops i d=true) (ho:(opI ops i).op=.store ty x y) (hxy:((⟨st.2.toArray,ds⟩:Act).eval x,(⟨st.2.toArray,ds⟩:Act).eval y)=(.pointer (some ad),v)) (hr:(Instr.storeAt ty (.pointer (some ad)) v).run P w=.ok () w') (hS:S w') (H:wpS P ops Q S (setS i d undef st) ds w'):wpP P ops Q S i st ds w:=by
 obtain ⟨hx,hy⟩:=Prod.mk.inj hxy
 refine O_skip d hb ?_ hS H
 unfold execOp
 simp only [ho,hx,hy,Sem.run_bind,Sem.run_pure,Result.andThen_ok,hr]
theorem O_store_mid {i:Nat} {st:Stt} {ds:List Deferred} {w:World} (d:Option Tmp) (ty:TypeId) (x y:Operand) (b o:Nat) (cells:Array Value) (hb:opB ops i d=true) (ho:(opI ops i).op=.store ty x y) (hxy:((⟨st.2.toArray,ds⟩:Act).eval x,(⟨st.2.toArray,ds⟩:Act).eval y)=(.pointer (some ⟨b,o,none⟩),.agg cells)) (ht:w.there b o cells.size) (hi:(P.info? ty).map (·.size)=some cells.size) (h1:cells.all (·.oneCell')=true) (hS:S (w.setCells b o cells.toList)) (H:wpS P ops Q S (setS i d undef st) ds (w.setCells b o cells.toList)):wpP P ops Q S i st ds w:=by
 obtain ⟨hx,hy⟩:=Prod.mk.inj hxy
 refine O_skip d hb ?_ hS H
 unfold execOp
 simp only [ho,hx,hy,Instr.storeAt,Instr.sureAddr,Sem.run_bind,Sem.run_pure,Result.andThen_ok,run_storeVar_mid w b o ty cells ht hi h1]
theorem F_new {k:Nat} {l:List Value} {ds:List Deferred} {w w':World} (d:Option Tmp) (v:Value) (hb:opG ops k d=true) (hw:Region.wanted (opI ops k) (yielded ops l.toArray)=true) (hr:(execOp (⟨l.toArray,ds⟩:Act).eval (opI ops k)).run P w=.ok (.value v) w') (H:wpFrom P ops Q (k+1) ⟨(putL l d v).toArray,ds⟩ w'):wpFrom P ops Q k ⟨l.toArray,ds⟩ w:=by
 have hd:(opI ops k).dst=d:=by unfold opG at hb;simp only [Bool.and_eq_true,decide_eq_true_eq] at hb;exact hb.2
 refine from_step hb ?_
 rw [if_pos hw]
 unfold Oper.wp
 rw [hr,Oper.upon_value,hd,put_putL]
 exact H
theorem T_val {i:Nat} {st:Stt} {ds:List Deferred} {w:World} (hq:NtQ ops Q) (d:Option Tmp) (v v':Value) (hv:v=v') (hb:tkG ops st.1.toArray i d=true) (h:oneB P ops ds i st.2=some (d,v)) (H:wpS P ops Q S (setS i d v' st) ds w):wpS P ops Q S st ds w:=⟨U_val hq d v v' hv hb h H.out⟩
theorem T_yld {st:Stt} {ds:List Deferred} {w:World} (hq:NtQ ops Q) (i:Nat) (d:Option Tmp) (v:Value) (hb:tkG ops st.1.toArray i d=true) (hw:Region.wanted (opI ops i) (yielded ops st.2.toArray)=true) (hy:∀ w,S w→(execOp (⟨st.2.toArray,ds⟩:Act).eval (opI ops i)).run P w=.ok (.value v) w) (H:wpS P ops Q S (setS i d v st) ds w):wpS P ops Q S st ds w :=
 ⟨U_yld hq i d v hb (fun _=>Or.inl ⟨hw,hy⟩) H.out⟩
end

theorem neqStrRun {o:Oper} {a:Act} {X Y:Operand} {T S:TypeId} {p q:ByteArray} {b:Bool} (ho:o.op=.binOp .neq T X Y S) (hx:a.eval X=.string p) (hy:a.eval Y=.string q) (h:(p.toList==q.toList)=!b) (w:World):(execOp a.eval o).run Try.prog w=.ok (.value (.bool b)) w:=by
 unfold execOp
 simp only [ho,hx,hy]
 simp [go_sem,h]
theorem sliceFromRun {o:Oper} {a:Act} {X Y:Operand} {T:TypeId} {s:ByteArray} {i:Nat} (ho:o.op=.slice T X (some Y) none none) (hx:a.eval X=.string s) (hy:a.eval Y=.int .i64 (i:Nat)) (hT:Try.prog.underlying T=some .string) (h:i≤s.size) (w:World):(execOp a.eval o).run Try.prog w=.ok (.value (.string (s.extract i s.size))) w:=by
 unfold execOp
 have h2:=run_slice_string_from_if (P:=Try.prog) w T s .i64 (i:Int) hT
 rw [if_pos ⟨by omega,by omega⟩,Int.toNat_natCast] at h2
 simp only [ho,hx,hy,Option.map_some,Option.map_none,Sem.run_bind,Sem.run_pure,Instr.sliceAt,run_underlying hT,Result.andThen_ok,h2]
noncomputable def ln4Ops:Array Oper:=fops Try.f93 4
theorem ln4_neat:Region.noSelect ln4Ops=true∧neat ln4Ops=true:=⟨by kernel_rfl,by kernel_rfl⟩
theorem ln4 (s:ByteArray) (k:Nat) (d:ByteArray) (W0:World) {l:List Value} (Q:Exit→Act→World→Prop) (hQ:∀ c a d v w,Q (.panic c) (Act.put a d v) w→Q (.panic c) a w) (hs1:1≤s.size)
 (HD:∀ W,Calls Try.prog 71 #[.int .i64 (k:Nat)] W fun e w'=>e=.returned (.string d)∧Below W.heap.size W w')
 (hl:lookL [(0,.string s),(5,.int .i64 (k:Nat)),(6,.int .i64 (s.size:Nat))] l=(37,([(0,.string s),(5,.int .i64 (k:Nat)),(6,.int .i64 (s.size:Nat))]:List (Nat × Value)).map (·.2)))
 (hend:∀ (u:Nat→Value) (W:World) (b:Bool),Below W0.drew.heap.size W0.drew W→(b=false→k≤999999)→Q .normal ⟨(frL u 37 [(5,.int .i64 (k:Nat)),(35,.bool b)]).toArray,[]⟩ W):(Code.region 4 ln4Ops true).wp Try.prog Q ⟨l.toArray,[]⟩ W0:=by
 obtain ⟨v0,rfl⟩:=look_fr hl
 have hq:NtQ ln4Ops Q:=⟨ln4_neat,hQ⟩
 refine T_start (S:=fun W=>Below W0.drew.heap.size W0.drew W) (by kernel_rfl) (Below.refl _ _) ?_
 clear hl hQ
 generalize W0.drew=V at hend ⊢
 refine T_z hq [0,1,2] (by kernel_rfl) ?_
 refine T_val (i:=3) hq (some 24) (.bool ((s.size:Int) != (s.size:Int))) (.bool false) (by rw [bne_self_eq_false]) (by kernel_rfl) (by kernel_rfl) ?_
 refine T_z hq [4,5,7] (by kernel_rfl) ?_
 refine T_yld hq 8 (some 29) (.string (s.extract 1 s.size)) (by kernel_rfl) (by kernel_rfl) (fun w _=>sliceFromRun (i:=1) rfl (by kernel_rfl) (by kernel_rfl) Try.underlying9 hs1 w) ?_
 refine T_fr 15 37 [6,9,10,11,12,13,14] [(0,.string s),(5,.int .i64 (k:Nat)),(6,.int .i64 (s.size:Nat)),(25,.bool false),(26,.int .i64 (k:Nat)),(29,.string (s.extract 1 s.size))] (by kernel_rfl) fun u=>?_
 refine T_one 6 (by kernel_rfl) fun hS=>O_go (HD V) (by kernel_rfl) ?_
 rintro e w1 ⟨rfl,hb1⟩
 refine ⟨_,rfl,hb1,?_⟩
 by_cases hx:d.toList=(s.extract 1 s.size).toList
 case neg =>
  refine T_yld hq 9 (some 30) (.bool true) (by kernel_rfl) (by kernel_rfl) (fun w _=>neqStrRun (p:=d) (q:=s.extract 1 s.size) (b:=true) rfl (by kernel_rfl) (by kernel_rfl) (beq_eq_false_iff_ne.2 hx) w) ?_
  refine T_z hq [10,11,12,13,14] (by kernel_rfl) ?_
  exact T_end 37 [(5,.int .i64 (k:Nat)),(35,.bool true)] (by kernel_rfl) (by kernel_rfl) fun hS u=>hend u _ true hS (fun h=>by cases h)
 refine T_yld hq 9 (some 30) (.bool false) (by kernel_rfl) (by kernel_rfl) (fun w _=>neqStrRun (p:=d) (q:=s.extract 1 s.size) (b:=false) rfl (by kernel_rfl) (by kernel_rfl) (by rw [hx];simp) w) ?_
 refine T_z hq [10,11,12] (by kernel_rfl) ?_
 refine T_val (i:=13) hq (some 34) (.bool (decide ((999999:Int) < (k:Int)))) (.bool (decide ((999999:Int) < (k:Int)))) rfl (by kernel_rfl) (by kernel_rfl) ?_
 refine T_z hq [14] (by kernel_rfl) ?_
 exact T_end 37 [(5,.int .i64 (k:Nat)),(35,.bool (decide ((999999:Int) < (k:Int))))] (by kernel_rfl) (by kernel_rfl) fun hS u=>hend u _ _ hS (fun h=>by have:=of_decide_eq_false h;omega)
theorem l43Num_any (s:ByteArray) (c:Int) (w:World) (hs:s.size≤1048576) :
 Calls Try.prog 93 #[.string s,.int .u8 c] w fun e w'=>∃ n:Nat,e=.returned (.int .i64 n)∧n≤999999∧Below w.heap.size w w':=by
 by_cases h2:2≤s.size
 case neg =>
  have hd:decide ((s.size:Int) < 2)=true:=by simp;omega
  go_enter Try.func93,Try.ntmps93
  go_wp2_with fail
  go_ret
  exact ⟨0,rfl,by omega,Below.refl _ _⟩
 have h0:0 < s.size:=by omega
 have hd:decide ((s.size:Int) < 2)=false:=by simp;omega
 by_cases hc:((s[0].toNat:Int)=c)
 case neg =>
  have hc':((s[0].toNat:Int) != c)=true:=by simp [hc]
  go_enter Try.func93,Try.ntmps93
  go_wp2_with fail
  go_ret
  exact ⟨0,rfl,by omega,Below.refl _ _⟩
 have hc':((s[0].toNat:Int) != c)=false:=by simp [hc]
 have HN:=xH (l42Num_any s 1 w hs)
 have hb:=numS_bd s.data.toList 7 0 1 1 (by omega) (by omega) (by omega)
 generalize numS s.data.toList 7 0 1=q at *
 obtain ⟨n,i⟩:=q
 simp only at hb HN
 have hn9:0≤n∧n≤19999999:=by
  have h1:=hb.1;have h2:=hb.2.1
  have:((1:Int)+1) * 10 ^ 7=20000000:=by decide
  omega
 obtain ⟨k,rfl⟩:∃ k:Nat,n=k:=⟨n.toNat,by omega⟩
 clear hb
 go_enter Try.func93,Try.ntmps93
 go_wp2_with fail
 refine (xU HN).mono ?_
 rintro e w1 ⟨rfl,rfl⟩
 by_cases hi:i=s.size
 case neg =>
  have hi':((i:Int) != (s.size:Int))=true:=by simp;omega
  clear HN hd
  go_wp2_with fail
  go_quiet (fail)
  all_goals
   go_wp2_with fail
   skip
   go_ret
   exact ⟨0,rfl,by omega,by first | exact (Below.refl _ _).drew.trans hb2 | exact below_drewN (Below.refl _ _) _⟩
 subst hi
 clear HN hd
 go_wp2_with fail
 obtain ⟨d,hd⟩:∃ d:ByteArray,⟨(Lib.itoa (k:Int)).toArray⟩=d:=⟨_,rfl⟩
 have HD:=xH (fun W=>l6Dec_any (k:Int) W (by omega) (by omega))
 rw [hd] at HD
 go_upto_region 4 with fail
 refine wp_swap (c':=Code.region 4 ln4Ops true) (by kernel_rfl) ?_
 refine wp_region_noPanic ?_
 refine ln4 s k d w1 _ (fun _ _ _ _ _ h=>h) (by omega) (xU HD) (by kernel_rfl) ?_
 intro u W b hb hk
 refine NoPanic.normal ?_
 simp only [frL_eq,frG,List.lookup,Nat.reduceBEq,Nat.reduceAdd,Option.getD_some,Option.getD_none]
 have HB:=xH ((Below.refl w1.heap.size w1).drew.trans hb)
 clear hb HD hd
 cases b with
 | true =>
   clear hk
   go_wp2_with fail
   go_ret
   exact ⟨0,rfl,by omega,xU HB⟩
 | false =>
   have hk2:=hk rfl
   clear hk
   go_wp2_with fail
   go_ret
   exact ⟨k,rfl,hk2,xU HB⟩

theorem size_setCell (w:World) (a:Addr) (v:Value):(w.setCell a v).heap.size=w.heap.size:=by simp [World.setCell]



def sameB (y x:ByteArray):Bool:=y.toList==x.toList
def hasB (ss:List ByteArray) (x:ByteArray):Bool:=ss.any fun y=>sameB y x
theorem hasB_yes {ss:List ByteArray} {x:ByteArray} (k:Nat) (hk:k < ss.length) (h:sameB ss[k] x=true):hasB ss x=true:=by
 unfold hasB;rw [List.any_eq_true];exact ⟨ss[k],List.getElem_mem hk,h⟩
theorem hasB_no {ss:List ByteArray} {x:ByteArray} (h:∀ j,(hj:j < ss.length)→sameB ss[j] x=false):hasB ss x=false:=by
 unfold hasB
 rw [List.any_eq_false]
 intro y hy
 obtain ⟨j,hj,rfl⟩:=List.getElem_of_mem hy
 rw [h j hj];decide
theorem l6Has_any (v:Value) (ss:List ByteArray) (x:ByteArray) (w:World) {P:Nat→Prop} (hv:StrsAt P w v ss) :
 Calls Try.prog 31 #[v,.string x] w fun e w'=>e=.returned (.bool (hasB ss x))∧w'=w:=by
 obtain ⟨a,cap,rfl,hlen,hc⟩:=hv
 have HC:=xH hc;clear hc
 go_enter Try.func31,Try.ntmps31
 go_wp2
 go_loop [5] (fun i=>∃ (k:Nat),k≤ss.length∧i=.int .i64 k∧Hid (∀ j,j < k→(hj:j < ss.length)→sameB ss[j] x=false)) (fun i=>ss.length - (intOf i).toNat)
 case atStart=>exact ⟨0,Nat.zero_le _,rfl,fun j hj=>by omega⟩
 case round =>
  obtain ⟨k,hk,rfl,HQ⟩:=hrel
  by_cases hlt:k < ss.length
  · obtain ⟨b,o,rfl,_,hcell,hsz⟩:=xU HC k hlt
    cases e:sameB ss[k] x with
    | true =>
      have hd:=xH (hasB_yes k hlt e)
      unfold sameB at e
      go_wp2
      go_ret
      exact ⟨by rw [xU hd];rfl,rfl⟩
    | false =>
      have HE:=xH e
      unfold sameB at e
      go_wp2
      go_round
      case rel=>exact ⟨k+1,by omega,by go_num,fun j hj hjl=>by
       by_cases h:j=k
       · subst h;exact xU HE
       · exact HQ.out j (by omega) hjl⟩
      case measure=>simp [intOf];omega
  · go_wp2
    go_ret
    exact ⟨by rw [hasB_no (fun j hj=>HQ.out j (by omega) hj)];rfl,rfl⟩
def findF (fs:List Df) (x:ByteArray):Int:=match fs.findIdx? (fun f=>sameB f.name x) with | some i=>i | none=>-1
theorem findF_yes {fs:List Df} {x:ByteArray} (k:Nat) (hk:k < fs.length) (h:sameB fs[k].name x=true) (hno:∀ j,j < k→(hj:j < fs.length)→sameB fs[j].name x=false):findF fs x=k:=by
 unfold findF
 have:fs.findIdx? (fun f=>sameB f.name x)=some k:=by
  rw [List.findIdx?_eq_some_iff_getElem]
  exact ⟨hk,h,fun j hj=>by rw [hno j hj (by omega)];decide⟩
 rw [this]
theorem findF_no {fs:List Df} {x:ByteArray} (hno:∀ j,(hj:j < fs.length)→sameB fs[j].name x=false):findF fs x=-1:=by
 unfold findF
 have:fs.findIdx? (fun f=>sameB f.name x)=none:=by
  rw [List.findIdx?_eq_none_iff]
  intro f hf
  obtain ⟨j,hj,rfl⟩:=List.getElem_of_mem hf
  exact hno j hj
 rw [this]
theorem l41Find_any (v:Value) (fs:List Df) (x:ByteArray) (w:World) {P:Nat→Prop} (hv:FsAt P w v fs) :
 Calls Try.prog 27 #[v,.string x] w fun e w'=>e=.returned (.int .i64 (findF fs x))∧w'=w:=by
 obtain ⟨a,cap,rfl,hlen,hc⟩:=hv.open
 have HC:=xH hc;clear hc hv
 go_enter Try.func27,Try.ntmps27
 go_wp2
 go_loop [5] (fun i=>∃ (k:Nat),k≤fs.length∧i=.int .i64 k∧Hid (∀ j,j < k→(hj:j < fs.length)→sameB fs[j].name x=false)) (fun i=>fs.length - (intOf i).toNat)
 case atStart=>exact ⟨0,Nat.zero_le _,rfl,fun j hj=>by omega⟩
 case round =>
  obtain ⟨k,hk,rfl,HQ⟩:=hrel
  by_cases hlt:k < fs.length
  · obtain ⟨b,o,rfl,_,⟨hcell,-,-⟩,-⟩:=xU HC k hlt
    simp only at hcell
    cases e:sameB fs[k].name x with
    | true =>
      have hd:=xH (findF_yes k hlt e HQ.out)
      unfold sameB at e
      go_wp2
      go_ret
      exact ⟨by rw [xU hd];rfl,rfl⟩
    | false =>
      have HE:=xH e
      unfold sameB at e
      go_wp2
      go_round
      case rel=>exact ⟨k+1,by omega,by go_num,fun j hj hjl=>by
       by_cases h:j=k
       · subst h;exact xU HE
       · exact HQ.out j (by omega) hjl⟩
      case measure=>simp [intOf];omega
  · go_wp2
    go_ret
    exact ⟨by rw [findF_no (fun j hj=>HQ.out j (by omega) hj)];rfl,rfl⟩

def FreeB (w:World) (b:Nat):Prop:=∀ o,w.frozen? ⟨b,o,none⟩=false
theorem FreeB.of_block {w w':World} {b:Nat} (h:FreeB w b) (e:w'.heap[b]? = w.heap[b]?):FreeB w' b:=fun o=>by
 rw [World.frozen?_of_block (w:=w) (a:=⟨b,o,none⟩) e];exact h o
def StrsOwn (w:World) (v:Value) (ss:List ByteArray) (F:List Nat):Prop :=
 ∃ a cap,v=.slice a ss.length cap∧ss.length≤9223372036854775807∧((ss=[]∧F=[])∨∃ b,a=some ⟨b,0,none⟩∧F=[b]∧FreeB w b∧∀ i,(h:i < ss.length)→w.cell? ⟨b,i,none⟩=some (.string ss[i])∧ss[i].size≤9223372036854775807)
theorem StrsOwn.carry {w w':World} {v:Value} {ss:List ByteArray} {F:List Nat} (h:StrsOwn w v ss F) (hF:∀ b,b∈F→w'.heap[b]? = w.heap[b]?):StrsOwn w' v ss F:=by
 obtain ⟨a,cap,h1,h2,h3⟩:=h
 refine ⟨a,cap,h1,h2,?_⟩
 rcases h3 with h | ⟨b,e,hf,hfr,hc⟩
 · exact Or.inl h
 · have hb:=hF b (by rw [hf];simp)
   exact Or.inr ⟨b,e,hf,hfr.of_block hb,fun i hi=>⟨by rw [World.cell?_of_block (w:=w) hb];exact (hc i hi).1,(hc i hi).2⟩⟩
theorem StrsOwn.at {w:World} {v:Value} {ss:List ByteArray} {F:List Nat} (h:StrsOwn w v ss F):StrsAt (·∈F) w v ss:=by
 obtain ⟨a,cap,h1,h2,h3⟩:=h
 refine ⟨a,cap,h1,h2,fun i hi=>?_⟩
 rcases h3 with ⟨rfl,_⟩ | ⟨b,e,hf,hfr,hc⟩
 · simp at hi
 · exact ⟨b,0,e,by rw [hf];simp,by rw [Nat.zero_add];exact (hc i hi).1,(hc i hi).2⟩

theorem freeOfHeap {w:World} {g:Nat} {cur:Array Value} {e:TypeId} (h:w.heap[g]? = some (.cells cur e (0,0))):FreeB w g:=fun o=>by simp [World.frozen?, h]
theorem strsOwn_of_row {base:Nat} {w:World} {v:Value} {ss:List ByteArray} (h:w.ownsRow base 9 1 v ss.length (ss.map Value.string)) (hs:∀ x,x∈ss→x.size≤9223372036854775807) :
 ∃ F,StrsOwn w v ss F∧F.Nodup∧(∀ b,b∈F→base≤b∧b < w.heap.size)∧∀ b,b∈F→v.ownBlock=some b:=by
 rcases h.2 with ⟨hv,hn0⟩ | ⟨g,cap,cur,hv,hgb,hh,hle,hm2,hsz,htk⟩
 · have hss:ss=[]:=List.eq_nil_of_length_eq_zero hn0
   subst hss
   exact ⟨[],⟨none,0,hv,by simp,Or.inl ⟨rfl,rfl⟩⟩,List.nodup_nil,fun b hb=>by simp at hb,fun b hb=>by simp at hb⟩
 · refine ⟨[g],⟨some ⟨g,0,none⟩,cap,hv,by unfold maxLen at hm2;omega,Or.inr ⟨g,rfl,rfl,freeOfHeap hh,fun i hi=>⟨?_,hs _ (List.getElem_mem hi)⟩⟩⟩,by simp,fun b hb=>?_,fun b hb=>by simp at hb;subst hb;rw [hv];rfl⟩
   · have h1:(ss.map Value.string)[i]? = some (.string ss[i]):=by simp [hi]
     rw [← htk,List.getElem?_take_of_lt (by omega)] at h1
     simp only [World.cell?, hh]
     simpa using h1
   · simp at hb;subst hb
     exact ⟨hgb,(Array.getElem?_eq_some_iff.1 hh).1⟩


theorem ownsRow_put {w:World} {base:Nat} {e:TypeId} {size g n cap:Nat} {xs:List Value} (h:w.ownsRow base e size (.slice (some ⟨g,0,none⟩) n cap) n xs) (j:Nat) (u:Value):(w.setCell ⟨g,j,none⟩ u).ownsRow base e size (.slice (some ⟨g,0,none⟩) n cap) n (xs.set j u):=by
 rcases h.2 with ⟨hv,_⟩ | ⟨g',cap',cur,hv,hb,hg,hnc,hcm,hcs,htk⟩
 · simp at hv
 · simp only [Value.slice.injEq,Option.some.injEq,Addr.mk.injEq,and_true,true_and] at hv
   obtain ⟨rfl,rfl⟩:=hv
   refine ⟨by rw [List.length_set];exact h.1,Or.inr ⟨g,cap,cur.setIfInBounds j u,rfl,hb,?_,hnc,hcm,by rw [Array.size_setIfInBounds];exact hcs,?_⟩⟩
   · simp [World.setCell,Array.getElem?_modify,hg]
   · rw [Array.toList_setIfInBounds,List.take_set,htk]
theorem ownsRow_free {w:World} {base:Nat} {e:TypeId} {size g n cap:Nat} {xs:List Value} (h:w.ownsRow base e size (.slice (some ⟨g,0,none⟩) n cap) n xs) (j:Nat):w.frozen? ⟨g,j,none⟩=false:=by
 rcases h.2 with ⟨hv,_⟩ | ⟨g',cap',cur,hv,hb,hg,_⟩
 · simp at hv
 · simp only [Value.slice.injEq,Option.some.injEq,Addr.mk.injEq,and_true,true_and] at hv
   obtain ⟨rfl,-⟩:=hv
   simp [World.frozen?, hg]
theorem empty_row {w:World} {g base:Nat} {e:TypeId} {size:Nat} {f:Nat→Value} (h:w.rowIs g e 0 f) (hb:base≤g):w.ownsRow base e size (.slice (some ⟨g,0,none⟩) 0 0) 0 []:=by
 obtain ⟨c,h1,h2,-⟩:=h
 exact ⟨by simp,Or.inr ⟨g,0,c,rfl,hb,h1,Nat.le_refl _,by decide,by omega,by simp⟩⟩

theorem infoStrM:(Try.prog.info? 9).map (fun i=>(i.zero,i.size,i.bytes))=some (some (.string ByteArray.empty),1,16):=by kernel_rfl
theorem infoStrD:∃ i,Try.prog.info? 9=some i∧i.zero=some (.string ByteArray.empty)∧i.size=1∧i.bytes=16:=by
 have:=infoStrM
 cases h:Try.prog.info? 9 with
 | none=>rw [h] at this;simp at this
 | some i=>rw [h] at this;exact ⟨i,rfl,by simpa using this⟩
theorem below_grown {n:Nat} {w a b:World} {row:Option Nat} (hn:n≤a.heap.size) (h:Below n w a) (hg:a.grownBy b row) (hr:∀ x,row=some x→n≤x):Below n w b :=
 h.trans ⟨hg.os,hg.tape,hg.output,hg.size,fun k hk=>hg.block k (Nat.lt_of_lt_of_le hk hn) (fun e=>by have:=hr k e.symm;omega)⟩
theorem strsAt_own {base:Nat} {w:World} {v:Value} {ss:List ByteArray} (h:w.ownsRow base 9 1 v ss.length (ss.map Value.string)) (hs:∀ x,x∈ss→x.size≤9223372036854775807):StrsAt (fun b=>base≤b∧b < w.heap.size) w v ss:=by
 obtain ⟨F,hst,-,hF,-⟩:=strsOwn_of_row h hs
 exact hst.at.carry (fun _ _=>rfl) (fun x hx=>hF x hx)
def withoutB (ss:List ByteArray) (x:ByteArray):List ByteArray:=ss.filter fun y=>!sameB y x
theorem without_take {ss:List ByteArray} {x:ByteArray} {k:Nat} (hk:k < ss.length):withoutB (ss.take (k+1)) x=withoutB (ss.take k) x++(if sameB ss[k] x then [] else [ss[k]]):=by
 unfold withoutB
 rw [List.take_succ_eq_append_getElem hk,List.filter_append]
 congr 1
 cases h:sameB ss[k] x <;> simp [h]
theorem l41Without_any (v:Value) (ss:List ByteArray) (x:ByteArray) (w:World) {P:Nat→Prop} (hP:∀ b,P b→b < w.heap.size) (hv:StrsAt P w v ss) (h1:ss.length≤3000) :
 Calls Try.prog 52 #[v,.string x] w fun e w'=>∃ a n cap,e=.returned (.slice a n cap)∧n=(withoutB ss x).length∧Hid (w'.ownsRow w.heap.size 9 1 (.slice a n cap) n ((withoutB ss x).map Value.string))∧Below w.heap.size w w':=by
 obtain ⟨a,cap,rfl,hlen,hc⟩:=hv
 obtain ⟨j0,hj,hy0,hy1,hy2⟩:=infoStrD
 have HJJ:=xH hj;have HY0:=xH hy0;have HY1:=xH hy1;have HY2:=xH hy2
 have HC:=xH hc;have HP:=xH hP;clear hc hP hj hy0 hy1 hy2
 have HEMP:=xH (empty_row (base:=w.heap.size) (size:=1) (World.rowIs_alloc w #[] 9 (fun _=>.bool false) (fun i hi=>by simp at hi)) (Nat.le_refl _))
 go_enter Try.func52,Try.ntmps52
 go_wp2_with fail
 go_loopw [5,6] (fun vo i wr=>∃ (k n:Nat) (ao:Option Addr) (co:Nat),k≤ss.length∧n≤k∧i=.int .i64 k∧vo=.slice ao n co∧Hid (n=(withoutB (ss.take k) x).length∧wr.ownsRow w.heap.size 9 1 (.slice ao n co) n ((withoutB (ss.take k) x).map Value.string))∧Below w.heap.size w wr) (fun _ i _=>ss.length - (intOf i).toNat)
 case atStart=>exact ⟨0,0,_,_,Nat.zero_le _,Nat.le_refl _,rfl,rfl,⟨by simp [withoutB],by simpa [withoutB] using xU HEMP⟩,(Below.refl _ _).alloc (Nat.le_refl _) _⟩
 case round =>
  clear HEMP
  obtain ⟨k,n,ao,co,hk,hnk,rfl,rfl,HQ,hb⟩:=hrel
  by_cases hlt:k < ss.length
  · obtain ⟨b,o,rfl,hpb,hcell0,hsz⟩:=xU HC k hlt
    have hcell:wr.cell? ⟨b,o+k,none⟩=some (.string ss[k]):=by rw [hb.cell (xU HP b hpb)];exact hcell0
    have HT:=xH (without_take (x:=x) hlt)
    have hbs:=hb.size
    clear hcell0 hpb
    cases e:sameB ss[k] x with
    | true =>
      rw [e] at HT
      unfold sameB at e
      have HB:=xH hb;clear hb
      go_wp2_with fail
      go_roundw
      case rel=>exact ⟨k+1,n,ao,co,by omega,by omega,by go_num,rfl,xH (by rw [xU HT];simpa using HQ.out),xU HB⟩
      case measure=>simp [intOf];omega
    | false =>
      rw [e] at HT
      unfold sameB at e
      have HB:=xH hb;clear hb
      generalize ss[k]=y at *
      go_wp2_with (at_builtin;(refine append_row _ rfl _ _ 24 rfl w.heap.size 9 j0 (.string ByteArray.empty) 1 16 Try.underlying24 (xU HJJ) (xU HY0) (xU HY1) (xU HY2) rfl (by decide) (.slice ao n co) n ((withoutB (ss.take k) x).map Value.string) rfl (World.ownsRow.alloc HQ.out.2 _) ⟨wr.heap.size,0,none⟩ 1 1 [.string y] rfl rfl (cell_one wr _ _) (fun u hu=>by simp at hu;subst hu;rfl) (by decide) (by unfold maxLen;omega) (by omega) (by simp;omega) ?_;intro v' w5 hown5 hgrow5 hat5;obtain ⟨g5,cap5,rfl,-,-⟩:=hown5.form (by omega);have HO5:=xH hown5;have HB5:=xH (below_grown (by simp;omega) ((xU HB).alloc (xU HB).size (.cells #[.string y] 9)) hgrow5 (fun b e=>(HQ.out.2.lt b e).1));clear hown5 hgrow5 hat5))
      go_roundw
      case rel=>exact ⟨k+1,n+1,some ⟨g5,0,none⟩,cap5,by omega,by omega,by go_num,rfl,xH (by
       rw [xU HT]
       refine ⟨by have:=HQ.out.1;simp;omega,?_⟩
       have:=xU HO5
       simpa using this),xU HB5⟩
      case measure=>simp [intOf];omega
  · go_wp2_with fail
    go_ret
    have hq:=HQ.out
    rw [List.take_of_length_le (by omega)] at hq
    exact ⟨ao,n,co,rfl,hq.1,xH hq.2,hb⟩

theorem append_copyD {P:Program} (w:World) {ops:Array Oper} {rest:List Oper} {o:Oper} {a:Act} {Q:Exit→Act→World→Prop}
 (hg:o.guard=none) (s x:Operand) (t:TypeId) (hop:o.op=Op.call { callee:=Callee.builtin Builtin.append,args:=#[s,x],argTypes:=#[t,t] })
 (base:Nat) (e:TypeId) (i:TypeInfo) (z:Value) (size bytes:Nat) (h1:P.underlying t=some (.slice e)) (h2:P.info? e=some i) (h3:i.zero=some z) (h4:i.size=size) (h5:i.bytes=bytes) (h6:z.cells.size=size) (h7:0 < size)
 (g0:Nat) (hs:a.eval s=.slice (some ⟨g0,0,none⟩) 0 0) (hown:w.ownsRow base e size (.slice (some ⟨g0,0,none⟩) 0 0) 0 [])
 (ax:Option Addr) (m c:Nat) (xs:List Value) (hx:a.eval x=.slice ax m c) (hn:xs.length=m * size) (hc:0 < m→∃ ad,ax=some ad∧∀ j u,xs[j]? = some u→w.cell? (ad.add j)=some u) (h1c:∀ u∈xs,u.oneCell'=true)
 (b1:m≤maxLen) (b2:m * bytes≤140737488355328) (hbase:base≤w.heap.size)
 (hK:∀ g cap w',Hid (w'.ownsRow base e size (.slice (some ⟨g,0,none⟩) m cap) m xs)→Hid (w.grownBy w' (some g0))→wpList P ops Q rest (a.put o.dst (.slice (some ⟨g,0,none⟩) m cap)) w') :
 wpList P ops Q (o::rest) a w:=by
 rcases Nat.eq_zero_or_pos m with h0 | h0
 · subst h0
   have hxs:xs=[]:=List.eq_nil_of_length_eq_zero (by rw [hn];omega)
   subst hxs
   have hrun:∀ ty,(Builtin.append_ #[t,t] ty #[.slice (some ⟨g0,0,none⟩) 0 0,.slice ax 0 c]).run P w=.ok (.slice (some ⟨g0,0,none⟩) 0 0) w:=fun ty=>by
    cases ax with
    | none=>simp [Builtin.append_,run_underlying h1,sizeOf,typeInfo,h2,Builtin.lenOf,Builtin.firstCells,go_sem]
    | some ad=>simp [Builtin.append_,run_underlying h1,sizeOf,typeInfo,h2,Builtin.lenOf,Builtin.firstCells,go_sem]
   refine wpList_plain hg fun K hKK=>?_
   unfold Oper.wp execOp
   simp only [hop,resolve,invoke,builtin,Sem.run_bind,Sem.run_pure,Result.andThen_ok,List.map_toArray,List.map_cons,List.map_nil,hs,hx,hrun]
   exact hKK _ _ (hK g0 0 w hown (World.grownBy.refl w _))
 · obtain ⟨ad,rfl,hcc⟩:=hc h0
   refine append_row w hg s x t hop base e i z size bytes h1 h2 h3 h4 h5 h6 h7 (.slice (some ⟨g0,0,none⟩) 0 0) 0 [] hs hown ad m c xs hx hn hcc h1c h0 (by omega) (by rw [Nat.zero_add];exact b2) hbase (fun v' w' r1 r2 _=>?_)
   rw [Nat.zero_add,List.nil_append] at r1
   obtain ⟨g,cap,rfl,-,-⟩:=r1.form h0
   exact hK g cap w' r1 r2
theorem names_srcD {P:Nat→Prop} {W:World} {aN:Option Addr} {nN capN:Nat} {ns:List ByteArray} (h:StrsAt P W (.slice aN nN capN) ns) (o:Obj):0 < nN→∃ ad,aN=some ad∧∀ j u,(ns.map Value.string)[j]? = some u→(W.alloc o).cell? (ad.add j)=some u:=by
 obtain ⟨a,cap,e,-,h3⟩:=h
 simp only [Value.slice.injEq] at e
 obtain ⟨rfl,e2,-⟩:=e
 intro h0
 obtain ⟨b,o',rfl,-,-,-⟩:=h3 0 (by omega)
 refine ⟨_,rfl,fun j u hj=>?_⟩
 rw [List.getElem?_map] at hj
 obtain ⟨x,hx,rfl⟩:=Option.map_eq_some_iff.1 hj
 obtain ⟨hlt,rfl⟩:=List.getElem?_eq_some_iff.1 hx
 obtain ⟨b',o'',e3,-,hcell,-⟩:=h3 j hlt
 simp only [Option.some.injEq,Addr.mk.injEq,and_true] at e3
 obtain ⟨rfl,rfl⟩:=e3
 rw [Addr.add_lit,World.cell?_of_block (w:=W) (Below.heap_alloc _ _ _ (World.block_lt_of_cell? W _ hcell))]
 exact hcell

def madeD (ns:List ByteArray) (ms:List Dm):List ByteArray:=ns++(ms.filter fun m=>!m.gone).map Dm.name
theorem made_take {ns:List ByteArray} {ms:List Dm} {k:Nat} (hk:k < ms.length):madeD ns (ms.take (k+1))=if ms[k].gone then madeD ns (ms.take k) else madeD ns (ms.take k)++[ms[k].name]:=by
 unfold madeD
 rw [List.take_succ_eq_append_getElem hk,List.filter_append,List.map_append,← List.append_assoc]
 cases h:ms[k].gone <;> simp [h]
theorem made_len (ns:List ByteArray) (ms:List Dm):(madeD ns ms).length≤ns.length+ms.length:=by
 unfold madeD
 rw [List.length_append,List.length_map]
 have:=List.length_filter_le (fun m:Dm=>!m.gone) ms
 omega
def stepD (ns:List ByteArray) (m:Dm):List ByteArray:=if m.gone then withoutB ns m.name else ns++[m.name]
def afterD (ns:List ByteArray) (ms:List Dm):List ByteArray:=ms.foldl stepD ns
theorem after_take {ns:List ByteArray} {ms:List Dm} {k:Nat} (hk:k < ms.length):afterD ns (ms.take (k+1))=stepD (afterD ns (ms.take k)) ms[k]:=by
 unfold afterD
 rw [List.take_succ_eq_append_getElem hk,List.foldl_append];rfl
theorem without_len (ss:List ByteArray) (x:ByteArray):(withoutB ss x).length≤ss.length:=List.length_filter_le _ _
structure NmOwn (w wr:World) (v:Value) (n:Nat) (ns:List ByteArray):Prop where
 own:wr.ownsRow w.heap.size 9 1 v n (ns.map Value.string)
 len:n=ns.length
 sz:∀ x,x∈ns→x.size≤9223372036854775807
 below:Below w.heap.size w wr
theorem NmOwn.strs {w wr:World} {v:Value} {n:Nat} {ns:List ByteArray} (h:NmOwn w wr v n ns):StrsAt (New w wr) wr v ns:=strsAt_own (by rw [← h.len];exact h.own) h.sz
theorem l41Made_any (d:Dk) (P:Nat→Prop) (c:C3) (w:World) (hP:∀ b,P b→b < w.heap.size) (hd:DkAt P w d c) (hl1:d.names.length≤1000) (hl2:d.moves.length≤1000) :
 Calls Try.prog 32 #[.agg #[c.c0,c.c1,c.c2]] w fun e w'=>∃ a n cap,e=.returned (.slice a n cap)∧Hid (NmOwn w w' (.slice a n cap) n (madeD d.names d.moves)):=by
 obtain ⟨c0,c1,c2⟩:=c
 obtain ⟨a0,p0,g0,-,-⟩:=hd.fs.open
 obtain ⟨a1,p1,g1,-,hnc⟩:=hd.ns
 obtain ⟨a2,p2,g2,-,hmc⟩:=hd.ms.open
 simp only at g0 g1 g2
 subst g0 g1 g2
 obtain ⟨j0,hj,hy0,hy1,hy2⟩:=infoStrD
 have HJJ:=xH hj;have HY0:=xH hy0;have HY1:=xH hy1;have HY2:=xH hy2
 have hsz:∀ x,x∈d.names→x.size≤9223372036854775807:=fun x hx=>by
  obtain ⟨i,hi,rfl⟩:=List.getElem_of_mem hx
  obtain ⟨_,_,_,_,_,h⟩:=hnc i hi
  exact h
 obtain ⟨W0,hW0⟩:∃ W0,w.alloc (.cells #[.slice a0 d.files.length p0,.slice a1 d.names.length p1,.slice a2 d.moves.length p2] 27)=W0:=⟨_,rfl⟩
 have hb0:Below w.heap.size w W0:=by rw [← hW0];exact (Below.refl _ _).alloc (Nat.le_refl _) _
 have hs0:W0.heap.size=w.heap.size+1:=by rw [← hW0];simp
 have hrow:W0.rowIs w.heap.size 27 3 (row3 (.slice a0 d.files.length p0) (.slice a1 d.names.length p1) (.slice a2 d.moves.length p2)):=by rw [← hW0];exact row3_alloc w _ _ _ _
 have hemp:=empty_row (base:=W0.heap.size) (size:=1) (World.rowIs_alloc W0 #[] 9 (fun _=>.bool false) (fun i hi=>by simp at hi)) (Nat.le_refl _)
 rw [hs0] at hemp
 have hsrc:=names_srcD (hd.ns.carry (P:=P) (Q:=P) (w':=W0) (fun b hb=>hb0.block b (hP b hb)) (fun _ h=>h)) (.cells #[] 9)
 have hxl:(d.names.map Value.string).length=d.names.length * 1:=by simp
 have hbe:Below W0.heap.size W0 (W0.alloc (.cells #[] 9)):=(Below.refl _ _).alloc (Nat.le_refl _) _
 have hse:(W0.alloc (.cells #[] 9)).heap.size=w.heap.size+2:=by simp [hs0]
 have HROW:=xH hrow;have HEMP:=xH hemp;have HSRC:=xH hsrc;have HSZ:=xH hsz;have HMC:=xH hmc;have HB0:=xH hb0;have HP:=xH hP;have HXL:=xH hxl;have HBE:=xH hbe;have HSE:=xH hse
 clear hd hnc hmc hsz hb0 hrow hemp hsrc hP hj hy0 hy1 hy2 hxl hbe hse
 have HMM:=xH (fun k (hk:k < d.moves.length)=>made_take (ns:=d.names) hk)
 have HM0:=xH (show madeD d.names (d.moves.take 0)=d.names by simp [madeD])
 have HLN:=xH (fun k=>made_len d.names (d.moves.take k))
 generalize hnf:d.files.length=nf at *
 generalize hnn:d.names.length=nn at *
 have HNN:=xH hnn
 clear hnf hnn
 subst hW0
 go_enter Try.func32,Try.ntmps32
 go_wp2_with (at_builtin;refine append_copyD _ rfl _ _ 24 rfl (w.heap.size+1) 9 j0 (.string ByteArray.empty) 1 16 Try.underlying24 (xU HJJ) (xU HY0) (xU HY1) (xU HY2) rfl (by decide) (w.heap.size+1) rfl (xU HEMP) a1 nn p1 (d.names.map Value.string) rfl (xU HXL) (xU HSRC) (fun u hu=>by obtain ⟨y,-,rfl⟩:=List.mem_map.1 hu;rfl) (by unfold maxLen;omega) (by omega) (by have:=xU HSE;omega) ?_;intro g cap w2 HO HG)
 have hb2:Below (w.heap.size+1) (w.alloc (.cells #[.slice a0 nf p0,.slice a1 nn p1,.slice a2 d.moves.length p2] 27)) w2 :=
  below_grown (by have:=xU HSE;omega) ((xU HBE).mono (by omega)) HG.out (fun x e=>by cases e;omega)
 have HB2:=xH hb2
 clear hb2 HG HEMP HSRC HBE
 go_loopw [3,4] (fun vo i wr=>∃ (k n:Nat) (ao:Option Addr) (co:Nat),k≤d.moves.length∧n≤2000∧i=.int .i64 k∧vo=.slice ao n co∧Hid (n=(madeD d.names (d.moves.take k)).length)∧Hid (wr.ownsRow (w.heap.size+1) 9 1 (.slice ao n co) n ((madeD d.names (d.moves.take k)).map Value.string))∧Hid (Below (w.heap.size+1) (w.alloc (.cells #[.slice a0 nf p0,.slice a1 nn p1,.slice a2 d.moves.length p2] 27)) wr)) (fun _ i _=>d.moves.length - (intOf i).toNat)
 case atStart=>exact ⟨0,nn,_,_,Nat.zero_le _,by omega,rfl,rfl,xH (by rw [xU HM0];exact (xU HNN).symm),xH (by rw [xU HM0];exact HO.out),HB2⟩
 case round =>
  clear HO HB2
  obtain ⟨k,n,ao,co,hk,hn,rfl,rfl,HQ,HO,HB⟩:=hrel
  have hrow:=(xU HROW).of_block (HB.out.block w.heap.size (by omega))
  have k2:=hrow.cell (i:=2) (by omega)
  simp only [row3] at k2
  have hbs:w.heap.size+1≤wr.heap.size:=by have:=HB.out.size;rw [hs0] at this;exact this
  by_cases hlt:k < d.moves.length
  · obtain ⟨b,o,rfl,hpb,hc0,hc1,hok⟩:=xU HMC k hlt
    have hcar:∀ o',wr.cell? ⟨b,o',none⟩=w.cell? ⟨b,o',none⟩:=fun o'=>by
     have hbl:=xU HP b hpb
     rw [World.cell?_of_block (w:=w) ((HB.out.block b (by omega)).trans ((xU HB0).block b hbl))]
    have e0:wr.cell? ⟨b,o+k * 2,none⟩=some (.bool d.moves[k].gone):=by rw [hcar];exact hc0
    have e1:wr.cell? ⟨b,o+k * 2+1,none⟩=some (.string d.moves[k].name):=by rw [hcar];exact hc1
    have HT:=xH (xU HMM k hlt)
    have hn2:n≤nn+k:=by
     have h1:=xU HLN k
     have h2:=HQ.out
     rw [List.length_take,Nat.min_eq_left (by omega)] at h1
     omega
    clear hc0 hc1 hcar hpb hok hrow
    cases e:d.moves[k].gone with
    | true =>
      rw [e] at HT e0
      simp only [if_true] at HT
      go_wp2_with fail
      go_roundw
      case rel=>exact ⟨k+1,n,ao,co,by omega,hn,by go_num,rfl,xH (by rw [xU HT];exact HQ.out),xH (by rw [xU HT];exact HO.out),HB⟩
      case measure=>simp [intOf];omega
    | false =>
      rw [e] at HT e0
      simp only [Bool.false_eq_true,if_false] at HT
      generalize d.moves[k].name=y at *
      go_wp2_with (at_builtin;(refine append_row _ rfl _ _ 24 rfl (w.heap.size+1) 9 j0 (.string ByteArray.empty) 1 16 Try.underlying24 (xU HJJ) (xU HY0) (xU HY1) (xU HY2) rfl (by decide) (.slice ao n co) n ((madeD d.names (d.moves.take k)).map Value.string) rfl (World.ownsRow.alloc HO.out _) ⟨wr.heap.size,0,none⟩ 1 1 [.string y] rfl rfl (cell_one wr _ _) (fun u hu=>by simp at hu;subst hu;rfl) (by decide) (by unfold maxLen;omega) (by omega) (by simp;omega) ?_;intro v' w5 hown5 hgrow5 hat5;obtain ⟨g5,cap5,rfl,-,-⟩:=hown5.form (by omega);have HO5:=xH hown5;have HB5:=xH (below_grown (by simp;omega) (HB.out.alloc hbs (.cells #[.string y] 9)) hgrow5 (fun b e=>(HO.out.lt b e).1));clear hown5 hgrow5 hat5))
      go_roundw
      case rel=>exact ⟨k+1,n+1,some ⟨g5,0,none⟩,cap5,by omega,by omega,by go_num,rfl,xH (by rw [xU HT];have:=HQ.out;simp;omega),xH (by
       rw [xU HT]
       have:=xU HO5
       simpa using this),HB5⟩
      case measure=>simp [intOf];omega
  · obtain rfl:k=d.moves.length:=by omega
    go_wp2_with fail
    go_ret
    have hq:=HQ.out
    have ho:=HO.out
    rw [List.take_of_length_le (Nat.le_refl _)] at hq ho
    refine ⟨ao,n,co,rfl,⟨ownsRow_base ho (by omega),hq,fun y hy=>?_,(xU HB0).trans (HB.out.mono (by omega))⟩⟩
    rcases List.mem_append.1 hy with h | h
    · exact xU HSZ y h
    · obtain ⟨m,hm,rfl⟩:=List.mem_map.1 h
      obtain ⟨i,hi,rfl⟩:=List.getElem_of_mem (List.mem_filter.1 hm).1
      obtain ⟨_,_,_,_,_,_,h⟩:=xU HMC i hi
      exact h
end Go.Proofs.Yteikmbkljkkjiaa
