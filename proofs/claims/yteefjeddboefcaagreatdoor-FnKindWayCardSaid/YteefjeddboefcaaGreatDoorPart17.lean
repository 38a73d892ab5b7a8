/- A part. -/
import Derived.Test.YteefjeddboefcaaGreatDoorPart16
namespace Go.Proofs.YteefjeddboefcaaGreatDoor
open Go Go.RowKit
set_option maxRecDepth 100000
set_option maxHeartbeats 6400000
theorem ofNone_walk (T:Nat) (sa sb:Int) (a1 a2 b1 b2:Option Addr) (n1 n2 p1 p2 m1 m2 q1 q2:Nat) (path:ByteArray) (w:World) :
 Calls Tryz.prog 47 #[.pointer (some ⟨T,0,none⟩),.agg #[.int .i64 sa,.slice a1 n1 p1,.slice a2 n2 p2],.agg #[.int .i64 sb,.slice b1 m1 q1,.slice b2 m2 q2],.string path] w fun e w'=>Below w.heap.size w w'∧e=.returned (.tuple #[.func (.func 69) #[] #[],.nilIface]):=by
 obtain ⟨-,-,hbw⟩:=pr_boxes w sa sb a1 a2 b1 b2 n1 n2 p1 p2 m1 m2 q1 q2
 have HB:=xH hbw
 clear hbw
 go_enter Tryz.func47,Tryz.ntmps47
 go_wp2_with fail
 go_ret2
 exact ⟨xU HB,rfl⟩
theorem ofLeaf_walk (T:Nat) (sa sb:Int) (a1 a2 b1 b2:Option Addr) (n1 n2 p1 p2 m1 m2 q1 q2:Nat) (path:ByteArray) (w:World) :
 Calls Tryz.prog 48 #[.pointer (some ⟨T,0,none⟩),.agg #[.int .i64 sa,.slice a1 n1 p1,.slice a2 n2 p2],.agg #[.int .i64 sb,.slice b1 m1 q1,.slice b2 m2 q2],.string path] w fun e w'=>Below w.heap.size w w'∧e=.returned (.tuple #[.func (.func 70) #[] #[],.nilIface]):=by
 obtain ⟨-,-,hbw⟩:=pr_boxes w sa sb a1 a2 b1 b2 n1 n2 p1 p2 m1 m2 q1 q2
 have HB:=xH hbw
 clear hbw
 go_enter Tryz.func48,Tryz.ntmps48
 go_wp2_with fail
 go_ret2
 exact ⟨xU HB,rfl⟩
theorem eachKid_walk (fv:Value) (hfv:FnV fv) (w:World) :
 Calls Tryz.prog 73 #[fv] w fun e w'=>Below w.heap.size w w'∧e=.returned (.func (.func 93) #[] #[.pointer (some ⟨w.heap.size,0,none⟩)])∧w'.cell? ⟨w.heap.size,0,none⟩=some fv∧w.heap.size < w'.heap.size:=by
 rcases hfv with rfl | ⟨f,b,c,rfl⟩
 · go_enter Tryz.func73,Tryz.ntmps73
   go_wp2_with fail
   go_ret
   exact ⟨(Below.refl _ _).alloc (Nat.le_refl _) _,rfl,by simp,by simp⟩
 · go_enter Tryz.func73,Tryz.ntmps73
   go_wp2_with fail
   go_ret
   exact ⟨(Below.refl _ _).alloc (Nat.le_refl _) _,rfl,by simp,by simp⟩
def InBox (f:Nat) (R:(Nat→Prop)→World→Value→Value→Prop) (w w':World) (e:Ending):Prop :=
 ∃ fv er B,e=.returned (.tuple #[.func (.func f) #[] #[.pointer (some ⟨B,0,none⟩)],er])∧R (New w w') w' fv er∧w'.cell? ⟨B,0,none⟩=some fv∧w.heap.size≤B∧B < w'.heap.size
theorem cell_onP {w w':World} (hb:Below w.drew.heap.size w.drew w') {a:Addr} {v:Value} (h:w.cell? a=some v):w'.cell? a=some v:=by
 rw [World.cell?_of_block (w:=w) (hb.block a.block (World.block_lt_of_cell? w _ h))]
 exact h
theorem ofList_walk (T:Nat) (sa sb:Int) (a1 b1:Option Addr) (n1 p1 p2 m1 q1 q2 xb xo yb yo:Nat) (s t:Int) (x1 x2 y1 y2:Option Addr) (i1 i2 j1 j2 k1 k2 l1 l2:Nat) (path:ByteArray) (w:World) (R:(Nat→Prop)→World→Value→Value→Prop)
 (hx0:w.cell? ⟨xb,xo,none⟩=some (.int .i64 s)) (hx1:w.cell? ⟨xb,xo+1,none⟩=some (.slice x1 i1 j1)) (hx2:w.cell? ⟨xb,xo+2,none⟩=some (.slice x2 i2 j2)) (hxl:xb < w.heap.size)
 (hy0:w.cell? ⟨yb,yo,none⟩=some (.int .i64 t)) (hy1:w.cell? ⟨yb,yo+1,none⟩=some (.slice y1 k1 l1)) (hy2:w.cell? ⟨yb,yo+2,none⟩=some (.slice y2 k2 l2)) (hyl:yb < w.heap.size) (hps:path.size≤1000000)
 (hcall:∀ W,Below w.heap.size w W→Calls Tryz.prog 53 #[.pointer (some ⟨T,0,none⟩),.agg #[.int .i64 s,.slice x1 i1 j1,.slice x2 i2 j2],.agg #[.int .i64 t,.slice y1 k1 l1,.slice y2 k2 l2],.string (path++⟨#[91]⟩)] W fun e w'=>Below W.heap.size W w'∧∃ fv er,e=.returned (.tuple #[fv,er])∧R (New W w') w' fv er)
 (hR:∀ P W fv er,R P W fv er→FnV fv) (hon:∀ P Q W W' fv er,R P W fv er→(∀ b,P b→Q b)→(∀ b,P b→W'.heap[b]? = W.heap[b]?)→R Q W' fv er) :
 Calls Tryz.prog 50 #[.pointer (some ⟨T,0,none⟩),.agg #[.int .i64 sa,.slice a1 n1 p1,.slice (some ⟨xb,xo,none⟩) 1 p2],.agg #[.int .i64 sb,.slice b1 m1 q1,.slice (some ⟨yb,yo,none⟩) 1 q2],.string path] w fun e w'=>Below w.heap.size w w'∧InBox 93 R w w' e:=by
 obtain ⟨hrx,hry,hbw⟩:=pr_boxes w sa sb a1 (some ⟨xb,xo,none⟩) b1 (some ⟨yb,yo,none⟩) n1 1 p1 p2 m1 1 q1 q2
 have x2':=hrx.cell (i:=2) (by omega)
 have y2':=hry.cell (i:=2) (by omega)
 simp only [row3] at x2' y2'
 have g1:¬ (9223372036854775807 < path.size+1):=by omega
 rw [← hbw.cell hxl] at hx0 hx1 hx2
 rw [← hbw.cell hyl] at hy0 hy1 hy2
 have HB:=xH hbw
 have HC:=xH hcall
 have HR:=xH hR
 have HON:=xH hon
 clear hrx hry hcall hxl hyl hps hR hon
 go_enter Tryz.func50,Tryz.ntmps50
 go_upto_region 1 with fail
 generalize ((w.alloc (.cells #[.int .i64 sa,.slice a1 n1 p1,.slice (some ⟨xb,xo,none⟩) 1 p2] 26)).alloc (.cells #[.int .i64 sb,.slice b1 m1 q1,.slice (some ⟨yb,yo,none⟩) 1 q2] 26))=W0 at hx0 hx1 hx2 hy0 hy1 hy2 x2' y2' hbw HB ⊢
 clear hbw
 go_region_held3 (fun W=>W.cell? ⟨w.heap.size,2,none⟩=some (.slice (some ⟨xb,xo,none⟩) 1 p2)∧W.cell? ⟨w.heap.size+1,2,none⟩=some (.slice (some ⟨yb,yo,none⟩) 1 q2)∧W.cell? ⟨xb,xo,none⟩=some (.int .i64 s)∧W.cell? ⟨xb,xo+1,none⟩=some (.slice x1 i1 j1)∧W.cell? ⟨xb,xo+2,none⟩=some (.slice x2 i2 j2)∧W.cell? ⟨yb,yo,none⟩=some (.int .i64 t)∧W.cell? ⟨yb,yo+1,none⟩=some (.slice y1 k1 l1)∧W.cell? ⟨yb,yo+2,none⟩=some (.slice y2 k2 l2)) (first | exact ⟨x2',y2',hx0,hx1,hx2,hy0,hy1,hy2⟩ | exact HK2 | go_keep)
  (first
    | (go_at_call 53
       refine (xU HC W0.drew (xU HB).drew).mono ?_
       rintro e W1 ⟨hb1,fv,er,rfl,hr⟩
       have HB1:=xH ((xU HB).drew.trans (hb1.mono (xU HB).size))
       have HK2:W1.cell? ⟨w.heap.size,2,none⟩=some (.slice (some ⟨xb,xo,none⟩) 1 p2)∧W1.cell? ⟨w.heap.size+1,2,none⟩=some (.slice (some ⟨yb,yo,none⟩) 1 q2)∧W1.cell? ⟨xb,xo,none⟩=some (.int .i64 s)∧W1.cell? ⟨xb,xo+1,none⟩=some (.slice x1 i1 j1)∧W1.cell? ⟨xb,xo+2,none⟩=some (.slice x2 i2 j2)∧W1.cell? ⟨yb,yo,none⟩=some (.int .i64 t)∧W1.cell? ⟨yb,yo+1,none⟩=some (.slice y1 k1 l1)∧W1.cell? ⟨yb,yo+2,none⟩=some (.slice y2 k2 l2) :=
        ⟨cell_onP hb1 x2',cell_onP hb1 y2',cell_onP hb1 hx0,cell_onP hb1 hx1,cell_onP hb1 hx2,cell_onP hb1 hy0,cell_onP hb1 hy1,cell_onP hb1 hy2⟩
       have HRR:=xH hr
       have HSZ:=xH (xU HB).size
       clear hb1 hr))
 all_goals
  clear HK2 hx0 hx1 hx2 hy0 hy1 hy2 x2' y2' g1 HC HB
  go_wp2_with fail
  refine (eachKid_walk fv (xU HR _ _ _ _ (xU HRR)) W1).mono ?_
  rintro e W2 ⟨hb2,rfl,hc2,hl2⟩
  have HE:Hid (Below w.heap.size w W2∧R (New w W2) W2 fv er∧W2.cell? ⟨W1.heap.size,0,none⟩=some fv∧w.heap.size≤W1.heap.size∧W1.heap.size < W2.heap.size):=⟨(xU HB1).trans (hb2.mono (xU HB1).size),xU HON _ _ _ _ _ _ (xU HRR) (fun b hb=>⟨Nat.le_trans (xU HSZ) hb.1,Nat.lt_of_lt_of_le hb.2 hb2.size⟩) (fun b hb=>hb2.block b hb.2),hc2,(xU HB1).size,hl2⟩
  clear hb2 hc2 hl2 HB1 HRR HR HON HSZ
  go_wp2_with fail
  go_ret2
  exact ⟨(xU HE).1,fv,er,_,rfl,(xU HE).2⟩
theorem ofMaybe_walk (T:Nat) (sa sb:Int) (a1 b1:Option Addr) (n1 p1 p2 m1 q1 q2 xb xo yb yo:Nat) (s t:Int) (x1 x2 y1 y2:Option Addr) (i1 i2 j1 j2 k1 k2 l1 l2:Nat) (path:ByteArray) (w:World) (R:(Nat→Prop)→World→Value→Value→Prop)
 (hx0:w.cell? ⟨xb,xo,none⟩=some (.int .i64 s)) (hx1:w.cell? ⟨xb,xo+1,none⟩=some (.slice x1 i1 j1)) (hx2:w.cell? ⟨xb,xo+2,none⟩=some (.slice x2 i2 j2)) (hxl:xb < w.heap.size)
 (hy0:w.cell? ⟨yb,yo,none⟩=some (.int .i64 t)) (hy1:w.cell? ⟨yb,yo+1,none⟩=some (.slice y1 k1 l1)) (hy2:w.cell? ⟨yb,yo+2,none⟩=some (.slice y2 k2 l2)) (hyl:yb < w.heap.size) (hps:path.size≤1000000)
 (hcall:∀ W,Below w.heap.size w W→Calls Tryz.prog 53 #[.pointer (some ⟨T,0,none⟩),.agg #[.int .i64 s,.slice x1 i1 j1,.slice x2 i2 j2],.agg #[.int .i64 t,.slice y1 k1 l1,.slice y2 k2 l2],.string (path++⟨#[63]⟩)] W fun e w'=>Below W.heap.size W w'∧∃ fv er,e=.returned (.tuple #[fv,er])∧R (New W w') w' fv er)
 (hR:∀ P W fv er,R P W fv er→FnV fv) (hon:∀ P Q W W' fv er,R P W fv er→(∀ b,P b→Q b)→(∀ b,P b→W'.heap[b]? = W.heap[b]?)→R Q W' fv er) :
 Calls Tryz.prog 52 #[.pointer (some ⟨T,0,none⟩),.agg #[.int .i64 sa,.slice a1 n1 p1,.slice (some ⟨xb,xo,none⟩) 1 p2],.agg #[.int .i64 sb,.slice b1 m1 q1,.slice (some ⟨yb,yo,none⟩) 1 q2],.string path] w fun e w'=>Below w.heap.size w w'∧InBox 93 R w w' e:=by
 obtain ⟨hrx,hry,hbw⟩:=pr_boxes w sa sb a1 (some ⟨xb,xo,none⟩) b1 (some ⟨yb,yo,none⟩) n1 1 p1 p2 m1 1 q1 q2
 have x2':=hrx.cell (i:=2) (by omega)
 have y2':=hry.cell (i:=2) (by omega)
 simp only [row3] at x2' y2'
 have g1:¬ (9223372036854775807 < path.size+1):=by omega
 rw [← hbw.cell hxl] at hx0 hx1 hx2
 rw [← hbw.cell hyl] at hy0 hy1 hy2
 have HB:=xH hbw
 have HC:=xH hcall
 have HR:=xH hR
 have HON:=xH hon
 clear hrx hry hcall hxl hyl hps hR hon
 go_enter Tryz.func52,Tryz.ntmps52
 go_upto_region 1 with fail
 generalize ((w.alloc (.cells #[.int .i64 sa,.slice a1 n1 p1,.slice (some ⟨xb,xo,none⟩) 1 p2] 26)).alloc (.cells #[.int .i64 sb,.slice b1 m1 q1,.slice (some ⟨yb,yo,none⟩) 1 q2] 26))=W0 at hx0 hx1 hx2 hy0 hy1 hy2 x2' y2' hbw HB ⊢
 clear hbw
 go_region_held3 (fun W=>W.cell? ⟨w.heap.size,2,none⟩=some (.slice (some ⟨xb,xo,none⟩) 1 p2)∧W.cell? ⟨w.heap.size+1,2,none⟩=some (.slice (some ⟨yb,yo,none⟩) 1 q2)∧W.cell? ⟨xb,xo,none⟩=some (.int .i64 s)∧W.cell? ⟨xb,xo+1,none⟩=some (.slice x1 i1 j1)∧W.cell? ⟨xb,xo+2,none⟩=some (.slice x2 i2 j2)∧W.cell? ⟨yb,yo,none⟩=some (.int .i64 t)∧W.cell? ⟨yb,yo+1,none⟩=some (.slice y1 k1 l1)∧W.cell? ⟨yb,yo+2,none⟩=some (.slice y2 k2 l2)) (first | exact ⟨x2',y2',hx0,hx1,hx2,hy0,hy1,hy2⟩ | exact HK2 | go_keep)
  (first
    | (go_at_call 53
       refine (xU HC W0.drew (xU HB).drew).mono ?_
       rintro e W1 ⟨hb1,fv,er,rfl,hr⟩
       have HB1:=xH ((xU HB).drew.trans (hb1.mono (xU HB).size))
       have HK2:W1.cell? ⟨w.heap.size,2,none⟩=some (.slice (some ⟨xb,xo,none⟩) 1 p2)∧W1.cell? ⟨w.heap.size+1,2,none⟩=some (.slice (some ⟨yb,yo,none⟩) 1 q2)∧W1.cell? ⟨xb,xo,none⟩=some (.int .i64 s)∧W1.cell? ⟨xb,xo+1,none⟩=some (.slice x1 i1 j1)∧W1.cell? ⟨xb,xo+2,none⟩=some (.slice x2 i2 j2)∧W1.cell? ⟨yb,yo,none⟩=some (.int .i64 t)∧W1.cell? ⟨yb,yo+1,none⟩=some (.slice y1 k1 l1)∧W1.cell? ⟨yb,yo+2,none⟩=some (.slice y2 k2 l2) :=
        ⟨cell_onP hb1 x2',cell_onP hb1 y2',cell_onP hb1 hx0,cell_onP hb1 hx1,cell_onP hb1 hx2,cell_onP hb1 hy0,cell_onP hb1 hy1,cell_onP hb1 hy2⟩
       have HRR:=xH hr
       have HSZ:=xH (xU HB).size
       clear hb1 hr))
 all_goals
  clear HK2 hx0 hx1 hx2 hy0 hy1 hy2 x2' y2' g1 HC HB
  go_wp2_with fail
  refine (eachKid_walk fv (xU HR _ _ _ _ (xU HRR)) W1).mono ?_
  rintro e W2 ⟨hb2,rfl,hc2,hl2⟩
  have HE:Hid (Below w.heap.size w W2∧R (New w W2) W2 fv er∧W2.cell? ⟨W1.heap.size,0,none⟩=some fv∧w.heap.size≤W1.heap.size∧W1.heap.size < W2.heap.size):=⟨(xU HB1).trans (hb2.mono (xU HB1).size),xU HON _ _ _ _ _ _ (xU HRR) (fun b hb=>⟨Nat.le_trans (xU HSZ) hb.1,Nat.lt_of_lt_of_le hb.2 hb2.size⟩) (fun b hb=>hb2.block b hb.2),hc2,(xU HB1).size,hl2⟩
  clear hb2 hc2 hl2 HB1 HRR HR HON HSZ
  go_wp2_with fail
  go_ret2
  exact ⟨(xU HE).1,fv,er,_,rfl,(xU HE).2⟩

theorem box_onP (W:World) (v:Value) (t:TypeId) {W':World} (hb:Below (W.alloc (.cells #[v] t)).heap.size (W.alloc (.cells #[v] t)) W'):W'.cell? ⟨W.heap.size,0,none⟩=some v∧W'.frozen? ⟨W.heap.size,0,none⟩=false:=by
 have h:=World.rowIs_alloc W #[v] t (fun _=>v) (fun i hi=>by
  have hi':i < 1:=hi
  obtain rfl:i=0:=by omega
  rfl)
 have h2:=h.of_block (hb.block _ h.lt)
 exact ⟨h2.cell (i:=0) (by simp),h2.frozen 0⟩
theorem cell_setP {W0 W1:World} (hb:Below W0.drew.heap.size W0.drew W1) {a:Addr} {v x:Value} (h:W0.cell? a=some x):(W1.setCell ⟨W0.heap.size,0,none⟩ v).cell? a=some x:=by
 have hl:=World.block_lt_of_cell? W0 _ h
 rw [World.cell?_of_block (w:=W1) (Below.heap_setCell _ _ _ _ (by
  intro e
  have e2:a.block=W0.heap.size:=by simpa using e
  omega))]
 exact cell_onP hb h
theorem heap_setP {W:World} {g b:Nat} {v:Value} (h:g < b):(W.setCell ⟨g,0,none⟩ v).heap[b]? = W.heap[b]? := by
 refine Below.heap_setCell _ _ _ _ ?_
 intro e
 have e2:b=g:=by simpa using e
 omega
theorem set_sameP {W:World} {b:Nat} {v x:Value} (h:W.cell? ⟨b,0,none⟩=some x):(W.setCell ⟨b,0,none⟩ v).cell? ⟨b,0,none⟩=some v:=World.cell?_setCell_same _ _ _ h
theorem intoMaybe_walkN (T:Nat) (sa sb:Int) (a1 a2 b1:Option Addr) (n1 n2 p1 p2 m1 q1 q2 yb yo:Nat) (t:Int) (y1 y2:Option Addr) (k1 k2 l1 l2:Nat) (path:ByteArray) (w:World) (R:(Nat→Prop)→World→Value→Value→Prop)
 (hy0:w.cell? ⟨yb,yo,none⟩=some (.int .i64 t)) (hy1:w.cell? ⟨yb,yo+1,none⟩=some (.slice y1 k1 l1)) (hy2:w.cell? ⟨yb,yo+2,none⟩=some (.slice y2 k2 l2)) (hyl:yb < w.heap.size) (hps:path.size≤1000000)
 (hcall:∀ W,Below w.heap.size w W→Calls Tryz.prog 53 #[.pointer (some ⟨T,0,none⟩),.agg #[.int .i64 sa,.slice a1 n1 p1,.slice a2 n2 p2],.agg #[.int .i64 t,.slice y1 k1 l1,.slice y2 k2 l2],.string (path++⟨#[63]⟩)] W fun e w'=>Below W.heap.size W w'∧∃ er,e=.returned (.tuple #[.nilFunc,er])∧R (New W w') w' (.nilFunc) er)
 (hon:∀ P Q W W' fv er,R P W fv er→(∀ b,P b→Q b)→(∀ b,P b→W'.heap[b]? = W.heap[b]?)→R Q W' fv er) :
 Calls Tryz.prog 49 #[.pointer (some ⟨T,0,none⟩),.agg #[.int .i64 sa,.slice a1 n1 p1,.slice a2 n2 p2],.agg #[.int .i64 sb,.slice b1 m1 q1,.slice (some ⟨yb,yo,none⟩) 1 q2],.string path] w fun e w'=>Below w.heap.size w w'∧InBox 72 R w w' e:=by
 obtain ⟨hrx,hry,hbw⟩:=pr_boxes w sa sb a1 a2 b1 (some ⟨yb,yo,none⟩) n1 n2 p1 p2 m1 1 q1 q2
 have x0':=hrx.cell (i:=0) (by omega)
 have x1':=hrx.cell (i:=1) (by omega)
 have x2':=hrx.cell (i:=2) (by omega)
 have y2':=hry.cell (i:=2) (by omega)
 simp only [row3] at x0' x1' x2' y2'
 have g1:¬ (9223372036854775807 < path.size+1):=by omega
 rw [← hbw.cell hyl] at hy0 hy1 hy2
 have HB:=xH hbw
 have HC:=xH hcall
 have HON:=xH hon
 clear hrx hry hcall hyl hps hon
 go_enter Tryz.func49,Tryz.ntmps49
 go_upto_region 1 with fail
 generalize ((w.alloc (.cells #[.int .i64 sa,.slice a1 n1 p1,.slice a2 n2 p2] 26)).alloc (.cells #[.int .i64 sb,.slice b1 m1 q1,.slice (some ⟨yb,yo,none⟩) 1 q2] 26))=W0 at hy0 hy1 hy2 x0' x1' x2' y2' hbw HB ⊢
 clear hbw
 go_region_held3 (fun W=>W.cell? ⟨w.heap.size,0,none⟩=some (.int .i64 sa)∧W.cell? ⟨w.heap.size,1,none⟩=some (.slice a1 n1 p1)∧W.cell? ⟨w.heap.size,2,none⟩=some (.slice a2 n2 p2)∧W.cell? ⟨w.heap.size+1,2,none⟩=some (.slice (some ⟨yb,yo,none⟩) 1 q2)∧W.cell? ⟨yb,yo,none⟩=some (.int .i64 t)∧W.cell? ⟨yb,yo+1,none⟩=some (.slice y1 k1 l1)∧W.cell? ⟨yb,yo+2,none⟩=some (.slice y2 k2 l2)) (first | exact ⟨x0',x1',x2',y2',hy0,hy1,hy2⟩ | exact HK2 | exact HK3 | go_keep)
  (first
    | (go_at_call 53
       first
       | (refine (xU HC W0.drew (xU HB).drew).mono ?_
          rintro e W1 ⟨hb1,er,rfl,hr⟩
          have HB1:=xH ((xU HB).drew.trans (hb1.mono (xU HB).size))
          have HK2:W1.cell? ⟨w.heap.size,0,none⟩=some (.int .i64 sa)∧W1.cell? ⟨w.heap.size,1,none⟩=some (.slice a1 n1 p1)∧W1.cell? ⟨w.heap.size,2,none⟩=some (.slice a2 n2 p2)∧W1.cell? ⟨w.heap.size+1,2,none⟩=some (.slice (some ⟨yb,yo,none⟩) 1 q2)∧W1.cell? ⟨yb,yo,none⟩=some (.int .i64 t)∧W1.cell? ⟨yb,yo+1,none⟩=some (.slice y1 k1 l1)∧W1.cell? ⟨yb,yo+2,none⟩=some (.slice y2 k2 l2) :=
           ⟨cell_onP hb1 x0',cell_onP hb1 x1',cell_onP hb1 x2',cell_onP hb1 y2',cell_onP hb1 hy0,cell_onP hb1 hy1,cell_onP hb1 hy2⟩
          have HRR:=xH hr
          have HSZ:=xH (xU HB).size
          clear hb1 hr)
       | (refine (xU HC (W0.drew.alloc (.cells #[.nilFunc] 55)) ((xU HB).drew.alloc (xU HB).size _)).mono ?_
          rintro e W1 ⟨hb1,er,rfl,hr⟩
          have hb0:=(Below.refl W0.drew.heap.size W0.drew).alloc (Nat.le_refl _) (.cells #[.nilFunc] 55)
          have hb2:=hb0.trans (hb1.mono hb0.size)
          have HB1:=xH ((xU HB).drew.trans (hb2.mono (xU HB).size))
          have HK2:W1.cell? ⟨w.heap.size,0,none⟩=some (.int .i64 sa)∧W1.cell? ⟨w.heap.size,1,none⟩=some (.slice a1 n1 p1)∧W1.cell? ⟨w.heap.size,2,none⟩=some (.slice a2 n2 p2)∧W1.cell? ⟨w.heap.size+1,2,none⟩=some (.slice (some ⟨yb,yo,none⟩) 1 q2)∧W1.cell? ⟨yb,yo,none⟩=some (.int .i64 t)∧W1.cell? ⟨yb,yo+1,none⟩=some (.slice y1 k1 l1)∧W1.cell? ⟨yb,yo+2,none⟩=some (.slice y2 k2 l2) :=
           ⟨cell_onP hb2 x0',cell_onP hb2 x1',cell_onP hb2 x2',cell_onP hb2 y2',cell_onP hb2 hy0,cell_onP hb2 hy1,cell_onP hb2 hy2⟩
          have HLT:=xH (show W0.heap.size < (W0.drew.alloc (.cells #[.nilFunc] 55)).heap.size by rw [World.size_alloc];exact Nat.lt_succ_self _)
          have HSY:=xH (show w.heap.size≤(W0.drew.alloc (.cells #[.nilFunc] 55)).heap.size by rw [World.size_alloc];exact Nat.le_succ_of_le (xU HB).size)
          have HK3:(W1.setCell ⟨W0.heap.size,0,none⟩ (.nilFunc)).cell? ⟨w.heap.size,0,none⟩=some (.int .i64 sa)∧(W1.setCell ⟨W0.heap.size,0,none⟩ (.nilFunc)).cell? ⟨w.heap.size,1,none⟩=some (.slice a1 n1 p1)∧(W1.setCell ⟨W0.heap.size,0,none⟩ (.nilFunc)).cell? ⟨w.heap.size,2,none⟩=some (.slice a2 n2 p2)∧(W1.setCell ⟨W0.heap.size,0,none⟩ (.nilFunc)).cell? ⟨w.heap.size+1,2,none⟩=some (.slice (some ⟨yb,yo,none⟩) 1 q2)∧(W1.setCell ⟨W0.heap.size,0,none⟩ (.nilFunc)).cell? ⟨yb,yo,none⟩=some (.int .i64 t)∧(W1.setCell ⟨W0.heap.size,0,none⟩ (.nilFunc)).cell? ⟨yb,yo+1,none⟩=some (.slice y1 k1 l1)∧(W1.setCell ⟨W0.heap.size,0,none⟩ (.nilFunc)).cell? ⟨yb,yo+2,none⟩=some (.slice y2 k2 l2) :=
           ⟨cell_setP hb2 x0',cell_setP hb2 x1',cell_setP hb2 x2',cell_setP hb2 y2',cell_setP hb2 hy0,cell_setP hb2 hy1,cell_setP hb2 hy2⟩
          have hbx:=box_onP W0.drew .nilFunc 55 hb1
          have hbc:W1.cell? ⟨W0.heap.size,0,none⟩=some .nilFunc:=hbx.1
          have hbf:W1.frozen? ⟨W0.heap.size,0,none⟩=false:=hbx.2
          have HRR:=xH hr
          have HSZ:=xH (xU HB).size
          clear hb1 hr hb0 hb2 hbx)))
 all_goals
  clear HK2 hy0 hy1 hy2 x0' x1' x2' y2' g1 HC HB
 · have hbe:=(xU HB1).alloc (xU HB1).size (.cells #[.nilFunc] 55)
   have HE:Hid (Below w.heap.size w (W1.alloc (.cells #[.nilFunc] 55))∧R (New w (W1.alloc (.cells #[.nilFunc] 55))) (W1.alloc (.cells #[.nilFunc] 55)) (.nilFunc) er∧(W1.alloc (.cells #[.nilFunc] 55)).cell? ⟨W1.heap.size,0,none⟩=some (.nilFunc)∧w.heap.size≤W1.heap.size∧W1.heap.size < (W1.alloc (.cells #[.nilFunc] 55)).heap.size):=⟨hbe,xU HON _ _ _ _ _ _ (xU HRR) (fun b hb=>⟨Nat.le_trans (xU HSZ) hb.1,by have:=hb.2;simp;omega⟩) (fun b hb=>Below.heap_alloc _ _ _ hb.2),by simp,(xU HB1).size,by simp⟩
   clear hbe HB1 HRR HON HSZ
   go_wp2_with fail
   go_ret2
   exact ⟨(xU HE).1,.nilFunc,er,_,rfl,(xU HE).2⟩
 · have HE:Hid (Below w.heap.size w (W1.setCell ⟨W0.heap.size,0,none⟩ (.nilFunc))∧R (New w (W1.setCell ⟨W0.heap.size,0,none⟩ (.nilFunc))) (W1.setCell ⟨W0.heap.size,0,none⟩ (.nilFunc)) (.nilFunc) er∧(W1.setCell ⟨W0.heap.size,0,none⟩ (.nilFunc)).cell? ⟨W0.heap.size,0,none⟩=some (.nilFunc)∧w.heap.size≤W0.heap.size∧W0.heap.size < (W1.setCell ⟨W0.heap.size,0,none⟩ (.nilFunc)).heap.size):=⟨(xU HB1).setCell (xU HSZ) _,xU HON _ _ _ _ _ _ (xU HRR) (fun b hb=>⟨Nat.le_trans (xU HSY) hb.1,by have:=hb.2;simpa [World.setCell] using this⟩) (fun b hb=>heap_setP (Nat.lt_of_lt_of_le (xU HLT) hb.1)),set_sameP hbc,xU HSZ,by have:=World.block_lt_of_cell? W1 _ hbc;simpa [World.setCell] using this⟩
   clear HB1 HRR HON HSZ HSY HLT hbc hbf HK3
   go_wp2_with fail
   go_ret2
   exact ⟨(xU HE).1,.nilFunc,er,_,rfl,(xU HE).2⟩
theorem intoMaybe_walkF (T:Nat) (sa sb:Int) (a1 a2 b1:Option Addr) (n1 n2 p1 p2 m1 q1 q2 yb yo:Nat) (t:Int) (y1 y2:Option Addr) (k1 k2 l1 l2:Nat) (path:ByteArray) (w:World) (R:(Nat→Prop)→World→Value→Value→Prop)
 (hy0:w.cell? ⟨yb,yo,none⟩=some (.int .i64 t)) (hy1:w.cell? ⟨yb,yo+1,none⟩=some (.slice y1 k1 l1)) (hy2:w.cell? ⟨yb,yo+2,none⟩=some (.slice y2 k2 l2)) (hyl:yb < w.heap.size) (hps:path.size≤1000000)
 (hcall:∀ W,Below w.heap.size w W→Calls Tryz.prog 53 #[.pointer (some ⟨T,0,none⟩),.agg #[.int .i64 sa,.slice a1 n1 p1,.slice a2 n2 p2],.agg #[.int .i64 t,.slice y1 k1 l1,.slice y2 k2 l2],.string (path++⟨#[63]⟩)] W fun e w'=>Below W.heap.size W w'∧∃ fn bs cs er,e=.returned (.tuple #[.func fn bs cs,er])∧R (New W w') w' (.func fn bs cs) er)
 (hon:∀ P Q W W' fv er,R P W fv er→(∀ b,P b→Q b)→(∀ b,P b→W'.heap[b]? = W.heap[b]?)→R Q W' fv er) :
 Calls Tryz.prog 49 #[.pointer (some ⟨T,0,none⟩),.agg #[.int .i64 sa,.slice a1 n1 p1,.slice a2 n2 p2],.agg #[.int .i64 sb,.slice b1 m1 q1,.slice (some ⟨yb,yo,none⟩) 1 q2],.string path] w fun e w'=>Below w.heap.size w w'∧InBox 72 R w w' e:=by
 obtain ⟨hrx,hry,hbw⟩:=pr_boxes w sa sb a1 a2 b1 (some ⟨yb,yo,none⟩) n1 n2 p1 p2 m1 1 q1 q2
 have x0':=hrx.cell (i:=0) (by omega)
 have x1':=hrx.cell (i:=1) (by omega)
 have x2':=hrx.cell (i:=2) (by omega)
 have y2':=hry.cell (i:=2) (by omega)
 simp only [row3] at x0' x1' x2' y2'
 have g1:¬ (9223372036854775807 < path.size+1):=by omega
 rw [← hbw.cell hyl] at hy0 hy1 hy2
 have HB:=xH hbw
 have HC:=xH hcall
 have HON:=xH hon
 clear hrx hry hcall hyl hps hon
 go_enter Tryz.func49,Tryz.ntmps49
 go_upto_region 1 with fail
 generalize ((w.alloc (.cells #[.int .i64 sa,.slice a1 n1 p1,.slice a2 n2 p2] 26)).alloc (.cells #[.int .i64 sb,.slice b1 m1 q1,.slice (some ⟨yb,yo,none⟩) 1 q2] 26))=W0 at hy0 hy1 hy2 x0' x1' x2' y2' hbw HB ⊢
 clear hbw
 go_region_held3 (fun W=>W.cell? ⟨w.heap.size,0,none⟩=some (.int .i64 sa)∧W.cell? ⟨w.heap.size,1,none⟩=some (.slice a1 n1 p1)∧W.cell? ⟨w.heap.size,2,none⟩=some (.slice a2 n2 p2)∧W.cell? ⟨w.heap.size+1,2,none⟩=some (.slice (some ⟨yb,yo,none⟩) 1 q2)∧W.cell? ⟨yb,yo,none⟩=some (.int .i64 t)∧W.cell? ⟨yb,yo+1,none⟩=some (.slice y1 k1 l1)∧W.cell? ⟨yb,yo+2,none⟩=some (.slice y2 k2 l2)) (first | exact ⟨x0',x1',x2',y2',hy0,hy1,hy2⟩ | exact HK2 | exact HK3 | go_keep)
  (first
    | (go_at_call 53
       first
       | (refine (xU HC W0.drew (xU HB).drew).mono ?_
          rintro e W1 ⟨hb1,fn,bs,cs,er,rfl,hr⟩
          have HB1:=xH ((xU HB).drew.trans (hb1.mono (xU HB).size))
          have HK2:W1.cell? ⟨w.heap.size,0,none⟩=some (.int .i64 sa)∧W1.cell? ⟨w.heap.size,1,none⟩=some (.slice a1 n1 p1)∧W1.cell? ⟨w.heap.size,2,none⟩=some (.slice a2 n2 p2)∧W1.cell? ⟨w.heap.size+1,2,none⟩=some (.slice (some ⟨yb,yo,none⟩) 1 q2)∧W1.cell? ⟨yb,yo,none⟩=some (.int .i64 t)∧W1.cell? ⟨yb,yo+1,none⟩=some (.slice y1 k1 l1)∧W1.cell? ⟨yb,yo+2,none⟩=some (.slice y2 k2 l2) :=
           ⟨cell_onP hb1 x0',cell_onP hb1 x1',cell_onP hb1 x2',cell_onP hb1 y2',cell_onP hb1 hy0,cell_onP hb1 hy1,cell_onP hb1 hy2⟩
          have HRR:=xH hr
          have HSZ:=xH (xU HB).size
          clear hb1 hr)
       | (refine (xU HC (W0.drew.alloc (.cells #[.nilFunc] 55)) ((xU HB).drew.alloc (xU HB).size _)).mono ?_
          rintro e W1 ⟨hb1,fn,bs,cs,er,rfl,hr⟩
          have hb0:=(Below.refl W0.drew.heap.size W0.drew).alloc (Nat.le_refl _) (.cells #[.nilFunc] 55)
          have hb2:=hb0.trans (hb1.mono hb0.size)
          have HB1:=xH ((xU HB).drew.trans (hb2.mono (xU HB).size))
          have HK2:W1.cell? ⟨w.heap.size,0,none⟩=some (.int .i64 sa)∧W1.cell? ⟨w.heap.size,1,none⟩=some (.slice a1 n1 p1)∧W1.cell? ⟨w.heap.size,2,none⟩=some (.slice a2 n2 p2)∧W1.cell? ⟨w.heap.size+1,2,none⟩=some (.slice (some ⟨yb,yo,none⟩) 1 q2)∧W1.cell? ⟨yb,yo,none⟩=some (.int .i64 t)∧W1.cell? ⟨yb,yo+1,none⟩=some (.slice y1 k1 l1)∧W1.cell? ⟨yb,yo+2,none⟩=some (.slice y2 k2 l2) :=
           ⟨cell_onP hb2 x0',cell_onP hb2 x1',cell_onP hb2 x2',cell_onP hb2 y2',cell_onP hb2 hy0,cell_onP hb2 hy1,cell_onP hb2 hy2⟩
          have HLT:=xH (show W0.heap.size < (W0.drew.alloc (.cells #[.nilFunc] 55)).heap.size by rw [World.size_alloc];exact Nat.lt_succ_self _)
          have HSY:=xH (show w.heap.size≤(W0.drew.alloc (.cells #[.nilFunc] 55)).heap.size by rw [World.size_alloc];exact Nat.le_succ_of_le (xU HB).size)
          have HK3:(W1.setCell ⟨W0.heap.size,0,none⟩ (.func fn bs cs)).cell? ⟨w.heap.size,0,none⟩=some (.int .i64 sa)∧(W1.setCell ⟨W0.heap.size,0,none⟩ (.func fn bs cs)).cell? ⟨w.heap.size,1,none⟩=some (.slice a1 n1 p1)∧(W1.setCell ⟨W0.heap.size,0,none⟩ (.func fn bs cs)).cell? ⟨w.heap.size,2,none⟩=some (.slice a2 n2 p2)∧(W1.setCell ⟨W0.heap.size,0,none⟩ (.func fn bs cs)).cell? ⟨w.heap.size+1,2,none⟩=some (.slice (some ⟨yb,yo,none⟩) 1 q2)∧(W1.setCell ⟨W0.heap.size,0,none⟩ (.func fn bs cs)).cell? ⟨yb,yo,none⟩=some (.int .i64 t)∧(W1.setCell ⟨W0.heap.size,0,none⟩ (.func fn bs cs)).cell? ⟨yb,yo+1,none⟩=some (.slice y1 k1 l1)∧(W1.setCell ⟨W0.heap.size,0,none⟩ (.func fn bs cs)).cell? ⟨yb,yo+2,none⟩=some (.slice y2 k2 l2) :=
           ⟨cell_setP hb2 x0',cell_setP hb2 x1',cell_setP hb2 x2',cell_setP hb2 y2',cell_setP hb2 hy0,cell_setP hb2 hy1,cell_setP hb2 hy2⟩
          have hbx:=box_onP W0.drew .nilFunc 55 hb1
          have hbc:W1.cell? ⟨W0.heap.size,0,none⟩=some .nilFunc:=hbx.1
          have hbf:W1.frozen? ⟨W0.heap.size,0,none⟩=false:=hbx.2
          have HRR:=xH hr
          have HSZ:=xH (xU HB).size
          clear hb1 hr hb0 hb2 hbx)))
 all_goals
  clear HK2 hy0 hy1 hy2 x0' x1' x2' y2' g1 HC HB
 · have hbe:=(xU HB1).alloc (xU HB1).size (.cells #[.func fn bs cs] 55)
   have HE:Hid (Below w.heap.size w (W1.alloc (.cells #[.func fn bs cs] 55))∧R (New w (W1.alloc (.cells #[.func fn bs cs] 55))) (W1.alloc (.cells #[.func fn bs cs] 55)) (.func fn bs cs) er∧(W1.alloc (.cells #[.func fn bs cs] 55)).cell? ⟨W1.heap.size,0,none⟩=some (.func fn bs cs)∧w.heap.size≤W1.heap.size∧W1.heap.size < (W1.alloc (.cells #[.func fn bs cs] 55)).heap.size):=⟨hbe,xU HON _ _ _ _ _ _ (xU HRR) (fun b hb=>⟨Nat.le_trans (xU HSZ) hb.1,by have:=hb.2;simp;omega⟩) (fun b hb=>Below.heap_alloc _ _ _ hb.2),by simp,(xU HB1).size,by simp⟩
   clear hbe HB1 HRR HON HSZ
   go_wp2_with fail
   go_ret2
   exact ⟨(xU HE).1,.func fn bs cs,er,_,rfl,(xU HE).2⟩
 · have HE:Hid (Below w.heap.size w (W1.setCell ⟨W0.heap.size,0,none⟩ (.func fn bs cs))∧R (New w (W1.setCell ⟨W0.heap.size,0,none⟩ (.func fn bs cs))) (W1.setCell ⟨W0.heap.size,0,none⟩ (.func fn bs cs)) (.func fn bs cs) er∧(W1.setCell ⟨W0.heap.size,0,none⟩ (.func fn bs cs)).cell? ⟨W0.heap.size,0,none⟩=some (.func fn bs cs)∧w.heap.size≤W0.heap.size∧W0.heap.size < (W1.setCell ⟨W0.heap.size,0,none⟩ (.func fn bs cs)).heap.size):=⟨(xU HB1).setCell (xU HSZ) _,xU HON _ _ _ _ _ _ (xU HRR) (fun b hb=>⟨Nat.le_trans (xU HSY) hb.1,by have:=hb.2;simpa [World.setCell] using this⟩) (fun b hb=>heap_setP (Nat.lt_of_lt_of_le (xU HLT) hb.1)),set_sameP hbc,xU HSZ,by have:=World.block_lt_of_cell? W1 _ hbc;simpa [World.setCell] using this⟩
   clear HB1 HRR HON HSZ HSY HLT hbc hbf HK3
   go_wp2_with fail
   go_ret2
   exact ⟨(xU HE).1,.func fn bs cs,er,_,rfl,(xU HE).2⟩

theorem addP (t:TypeId) (a b:ByteArray) (h:a.size+b.size≤9223372036854775807):binOp .add t (.string a) (.string b)=pure (.string (a++b)):=by
 simp [binOp,Op.stringOp]
 omega
theorem infoW0:(Tryz.prog.info? 55).map (fun i=>(i.zero,i.size,i.bytes))=some (some .nilFunc,1,8):=by kernel_rfl
theorem infoWV:∃ i,Tryz.prog.info? 55=some i∧i.zero=some .nilFunc∧i.size=1∧i.bytes=8:=by
 have:=infoW0
 cases h:Tryz.prog.info? 55 with
 | none=>rw [h] at this;simp at this
 | some i=>rw [h] at this;exact ⟨i,rfl,by simpa using this⟩
def PR (g:Bool) (G:(Nat→Prop)→World→Value→Prop) (P:Nat→Prop) (W:World) (fv er:Value):Prop :=
 (g=true∧er=.nilIface∧(∃ f b c,fv=.func f b c)∧G P W fv)∨(g=false∧FnV fv∧∃ (x y:Int) (p:ByteArray),er=.iface 103 (.agg #[.int .i64 x,.int .i64 y,.string p]))
theorem PR.fn {g:Bool} {G:(Nat→Prop)→World→Value→Prop} {P:Nat→Prop} {W:World} {fv er:Value} (h:PR g G P W fv er):FnV fv:=by
 rcases h with ⟨-,-,h,-⟩ | ⟨-,h,-⟩
 · exact Or.inr h
 · exact h
theorem PR.on {g:Bool} {G:(Nat→Prop)→World→Value→Prop} (hG:∀ P Q W W' fv,G P W fv→(∀ b,P b→Q b)→(∀ b,P b→W'.heap[b]? = W.heap[b]?)→G Q W' fv) (P Q:Nat→Prop) (W W':World) (fv er:Value) (h:PR g G P W fv er) (h1:∀ b,P b→Q b) (h2:∀ b,P b→W'.heap[b]? = W.heap[b]?):PR g G Q W' fv er:=by
 rcases h with ⟨h,k,l,m⟩ | h
 · exact Or.inl ⟨h,k,l,hG _ _ _ _ _ m h1 h2⟩
 · exact Or.inr h
structure FlS (c d:C3) (U:List ByteArray) (N:Nat) (na:Option Addr) (nc:Nat) (G:ByteArray→(Nat→Prop)→World→Value→Prop) (w W:World) (fa:Option Addr) (k fc:Nat) (fvs:List Value):Prop where
 bel:Below w.heap.size w W
 n0:w.heap.size+2≤N
 n1:N≤W.heap.size
 bx:W.rowIs w.heap.size 26 3 (row3 c.c0 c.c1 c.c2)
 by':W.rowIs (w.heap.size+1) 26 3 (row3 d.c0 d.c1 d.c2)
 st:StrsAt (fun b=>w.heap.size+2≤b∧b < N) W (.slice na U.length nc) U
 own:W.ownsRow N 55 1 (.slice fa k fc) k fvs
 kl:k≤U.length
 gs:∀ i,(hi:i < fvs.length)→(hu:i < U.length)→G U[i] (fun b=>N≤b∧b < W.heap.size∧(Value.slice fa k fc).ownBlock≠some b) W fvs[i]∧∃ f b c,fvs[i]=.func f b c
section
variable {c d:C3} {U:List ByteArray} {N:Nat} {na:Option Addr} {nc:Nat} {G:ByteArray→(Nat→Prop)→World→Value→Prop} {w W:World} {fa:Option Addr} {k fc:Nat} {fvs:List Value}
theorem FlS.len (h:FlS c d U N na nc G w W fa k fc fvs):fvs.length=k:=by have:=h.own.1;omega
theorem FlS.on (hG:∀ nm P Q W W' fv,G nm P W fv→(∀ b,P b→Q b)→(∀ b,P b→W'.heap[b]? = W.heap[b]?)→G nm Q W' fv) (h:FlS c d U N na nc G w W fa k fc fvs) {W':World} (hb:Below W.heap.size W W'):FlS c d U N na nc G w W' fa k fc fvs:=by
 have hs:=hb.size
 have h1:=h.n1
 have h0:=h.n0
 refine ⟨h.bel.trans (hb.mono h.bel.size),h.n0,by omega,h.bx.of_block (hb.block _ h.bx.lt),h.by'.of_block (hb.block _ h.by'.lt),h.st.carry (fun b hb'=>hb.block b (by have:=hb'.2;omega)) (fun _ h=>h),h.own.kept (row:=none) ⟨hb.os,hb.tape,hb.output,hb.size,fun i hi _=>hb.block i hi⟩ ?_,h.kl,fun i hi hu=>?_⟩
 · cases hv:(Value.slice fa k fc).ownBlock with
   | none=>exact Or.inl rfl
   | some g=>exact Or.inr (by simp)
 · obtain ⟨h2,h3⟩:=h.gs i hi hu
   exact ⟨hG _ _ _ _ _ _ h2 (fun b hb'=>⟨hb'.1,by have:=hb'.2.1;omega,hb'.2.2⟩) (fun b hb'=>hb.block b hb'.2.1),h3⟩
theorem FlS.add (hG:∀ nm P Q W W' fv,G nm P W fv→(∀ b,P b→Q b)→(∀ b,P b→W'.heap[b]? = W.heap[b]?)→G nm Q W' fv) (h:FlS c d U N na nc G w W fa k fc fvs) {fv:Value} {P:Nat→Prop} (hk:k < U.length) (hfv:G U[k] P W fv∧∃ f b c,fv=.func f b c) (hP:∀ b,P b→N≤b∧b < W.heap.size∧(Value.slice fa k fc).ownBlock≠some b)
 {W':World} {fa':Option Addr} {fc':Nat} (ho:W'.ownsRow N 55 1 (.slice fa' (k+1) fc') (k+1) (fvs++[fv])) (hg:W.grownBy W' (Value.slice fa k fc).ownBlock) (hn:(Value.slice fa' (k+1) fc').ownBlock=(Value.slice fa k fc).ownBlock∨∃ g,(Value.slice fa' (k+1) fc').ownBlock=some g∧W.heap.size≤g):FlS c d U N na nc G w W' fa' (k+1) fc' (fvs++[fv]):=by
 have hs:=hg.size
 have h1:=h.n1
 have h0:=h.n0
 have hown:∀ g,(Value.slice fa k fc).ownBlock=some g→N≤g:=fun g e=>(h.own.lt g e).1
 have hkeep:∀ b,b < W.heap.size→(Value.slice fa k fc).ownBlock≠some b→W'.heap[b]? = W.heap[b]? := fun b hb hne=>hg.block b hb (fun e=>hne e.symm)
 have hlow:∀ b,b < N→W'.heap[b]? = W.heap[b]? := fun b hb=>hkeep b (by omega) (fun e=>by have:=hown b e;omega)
 refine ⟨h.bel.grown hg h.bel.size (fun g e=>by have:=hown g e;omega),h.n0,by omega,h.bx.of_block (hlow _ (by omega)),h.by'.of_block (hlow _ (by omega)),h.st.carry (fun b hb'=>hlow b hb'.2) (fun _ h=>h),ho,hk,fun i hi hu=>?_⟩
 have hlen:=h.len
 have hsub:∀ b,b < W.heap.size→(Value.slice fa k fc).ownBlock≠some b→(Value.slice fa' (k+1) fc').ownBlock≠some b:=fun b hb hne e=>by
  rcases hn with hn | ⟨g,hn,hg2⟩
  · rw [hn] at e;exact hne e
  · rw [hn] at e
    have:g=b:=by simpa using e
    omega
 by_cases hik:i < fvs.length
 · obtain ⟨h2,h3⟩:=h.gs i hik hu
   rw [List.getElem_append_left hik]
   exact ⟨hG _ _ _ _ _ _ h2 (fun b hb'=>⟨hb'.1,by have:=hb'.2.1;omega,hsub b hb'.2.1 hb'.2.2⟩) (fun b hb'=>hkeep b hb'.2.1 hb'.2.2),h3⟩
 · have hik2:i=k:=by
    rw [List.length_append,List.length_singleton] at hi
    omega
   subst hik2
   have e2:(fvs++[fv])[i]=fv:=by rw [List.getElem_append_right (by omega)];simp [hlen]
   rw [e2]
   refine ⟨hG _ _ _ _ _ _ hfv.1 (fun b hb'=>?_) (fun b hb'=>?_),hfv.2⟩
   · obtain ⟨x1,x2,x3⟩:=hP b hb'
     exact ⟨x1,by omega,hsub b x2 x3⟩
   · obtain ⟨x1,x2,x3⟩:=hP b hb'
     exact hkeep b x2 x3
end

theorem append_fnP (W:World) {ops:Array Oper} {rest:List Oper} {o:Oper} {a:Act} {Q:Exit→Act→World→Prop} (hg:o.guard=none) (s x:Operand) (hop:o.op=Op.call { callee:=Callee.builtin Builtin.append,args:=#[s,x],argTypes:=#[126,126] })
 (N:Nat) (fa:Option Addr) (k fc:Nat) (fvs:List Value) (hs:a.eval s=.slice fa k fc) (hown:W.ownsRow N 55 1 (.slice fa k fc) k fvs) (b:Nat) (fv:Value) (hx:a.eval x=.slice (some ⟨b,0,none⟩) 1 1) (hc:W.cell? ⟨b,0,none⟩=some fv) (h1:fv.oneCell'=true) (hk:k≤2000) (hN:N≤W.heap.size)
 (hK:∀ fa' fc' W',Hid (W'.ownsRow N 55 1 (.slice fa' (k+1) fc') (k+1) (fvs++[fv]))→Hid (W.grownBy W' (Value.slice fa k fc).ownBlock)→Hid ((Value.slice fa' (k+1) fc').ownBlock=(Value.slice fa k fc).ownBlock∨∃ g,(Value.slice fa' (k+1) fc').ownBlock=some g∧W.heap.size≤g)→wpList Tryz.prog ops Q rest (a.put o.dst (.slice fa' (k+1) fc')) W') :
 wpList Tryz.prog ops Q (o::rest) a W:=by
 obtain ⟨i,h2,h3,h4,h5⟩:=infoWV
 refine append_row W hg s x 126 hop N 55 i .nilFunc 1 8 Tryz.underlying126 h2 h3 h4 h5 rfl (by decide) (.slice fa k fc) k fvs hs hown ⟨b,0,none⟩ 1 1 [fv] hx rfl (fun j u hj=>?_) (fun u hu=>?_) (by decide) (by unfold maxLen;omega) (by omega) hN (fun v' w' r1 r2 r3=>?_)
 · match j,hj with
   | 0,hj =>
     simp at hj
     subst hj
     exact hc
 · rw [List.mem_singleton.1 hu];exact h1
 · obtain ⟨fa',fc',rfl⟩:=own_formU r1
   exact hK fa' fc' w' r1 r2 r3
theorem FlS.cellsP {A B:Kd} {a1 a2 b1 b2:Option Addr} {p1 p2 q1 q2:Nat} {U:List ByteArray} {N:Nat} {na:Option Addr} {nc:Nat} {G:ByteArray→(Nat→Prop)→World→Value→Prop} {w W:World} {fa:Option Addr} {k fc:Nat} {fvs:List Value} (h:FlS ⟨.int .i64 A.sort,.slice a1 A.names.length p1,.slice a2 A.kids.length p2⟩ ⟨.int .i64 B.sort,.slice b1 B.names.length q1,.slice b2 B.kids.length q2⟩ U N na nc G w W fa k fc fvs):W.cell? ⟨w.heap.size,0,none⟩=some (.int .i64 A.sort)∧W.cell? ⟨w.heap.size,1,none⟩=some (.slice a1 A.names.length p1)∧W.cell? ⟨w.heap.size,2,none⟩=some (.slice a2 A.kids.length p2)∧W.cell? ⟨w.heap.size+1,0,none⟩=some (.int .i64 B.sort)∧W.cell? ⟨w.heap.size+1,1,none⟩=some (.slice b1 B.names.length q1)∧W.cell? ⟨w.heap.size+1,2,none⟩=some (.slice b2 B.kids.length q2) :=
 ⟨h.bx.cell (i:=0) (by omega),h.bx.cell (i:=1) (by omega),h.bx.cell (i:=2) (by omega),h.by'.cell (i:=0) (by omega),h.by'.cell (i:=1) (by omega),h.by'.cell (i:=2) (by omega)⟩
theorem PR.yes {g:Bool} {G:(Nat→Prop)→World→Value→Prop} {P:Nat→Prop} {W:World} {fv er:Value} (hg:g=true) (h:PR g G P W fv er):er=.nilIface∧(∃ f b c,fv=.func f b c)∧G P W fv:=by
 rcases h with ⟨-,h⟩ | ⟨h,-⟩
 · exact h
 · rw [hg] at h;cases h
theorem PR.no {g:Bool} {G:(Nat→Prop)→World→Value→Prop} {P:Nat→Prop} {W:World} {fv er:Value} (hg:g=false) (h:PR g G P W fv er):∃ (x y:Int) (p:ByteArray),er=.iface 103 (.agg #[.int .i64 x,.int .i64 y,.string p]):=by
 rcases h with ⟨h,-⟩ | ⟨-,-,h⟩
 · rw [hg] at h;cases h
 · exact h
theorem wrkU {k:Nat} (h:k≤2000):wrap64 ((k:Int)+1)=(k:Int)+1:=by unfold wrap64;omega
theorem szU1 {p:ByteArray} (h:p.size≤1000000):p.size+(⟨#[123]⟩:ByteArray).size≤9223372036854775807:=by
 have z1:(⟨#[123]⟩:ByteArray).size=1:=rfl
 omega
theorem szU2 {p nm:ByteArray} (h:p.size≤1000000) (h2:nm.size≤1000):(p++(⟨#[123]⟩:ByteArray)).size+nm.size≤9223372036854775807:=by
 have z1:(⟨#[123]⟩:ByteArray).size=1:=rfl
 rw [ByteArray.size_append];omega
theorem szU3 {p nm:ByteArray} (h:p.size≤1000000) (h2:nm.size≤1000):(p++(⟨#[123]⟩:ByteArray)++nm).size+(⟨#[58]⟩:ByteArray).size≤9223372036854775807:=by
 have z1:(⟨#[123]⟩:ByteArray).size=1:=rfl
 have z2:(⟨#[58]⟩:ByteArray).size=1:=rfl
 rw [ByteArray.size_append,ByteArray.size_append];omega
theorem FlS.apartU {c d:C3} {U:List ByteArray} {N:Nat} {na:Option Addr} {nc:Nat} {G:ByteArray→(Nat→Prop)→World→Value→Prop} {w V2 V3:World} {fa:Option Addr} {k fc:Nat} {fvs:List Value} {ob:Obj} (h:FlS c d U N na nc G w V2 fa k fc fvs) {b:Nat} (hb:New V2 V3 b):N≤b∧b < (V3.alloc ob).heap.size∧(Value.slice fa k fc).ownBlock≠some b:=by
 refine ⟨Nat.le_trans h.n1 hb.1,?_,fun e=>?_⟩
 · have:=hb.2
   rw [World.size_alloc]
   omega
 · have h1:=(h.own.lt b e).2
   have h2:=hb.1
   omega
theorem numU (k:Nat):Value.int .i64 ((k:Int)+1)=.int .i64 ((k+1:Nat):Int):=rfl
theorem measU {k n:Nat} (h:k < n):n - (intOf (.int .i64 ((k:Int)+1))).toNat < n - (intOf (.int .i64 (k:Int))).toNat:=by
 simp [intOf];omega
def FdE (c d:C3) (U:List ByteArray) (g:ByteArray→Bool) (G:ByteArray→(Nat→Prop)→World→Value→Prop) (w w':World) (e:Ending):Prop :=
 (U.all g=true∧∃ na nc fa fc fvs N,e=.returned (.tuple #[.slice na U.length nc,.slice fa U.length fc,.nilIface])∧FlS c d U N na nc G w w' fa U.length fc fvs) ∨
 (U.all g=false∧∃ (x y:Int) (p:ByteArray),e=.returned (.tuple #[.slice none 0 0,.slice none 0 0,.iface 103 (.agg #[.int .i64 x,.int .i64 y,.string p])]))
theorem all_takeU {U:List ByteArray} {g:ByteArray→Bool} {k:Nat} (hk:k < U.length) (h:(U.take k).all g=true) (hg:g U[k]=true):(U.take (k+1)).all g=true:=by
 rw [List.take_succ_eq_append_getElem hk,List.all_append,h]
 simp [hg]
theorem all_no {U:List ByteArray} {g:ByteArray→Bool} {k:Nat} (hk:k < U.length) (hg:g U[k]=false):U.all g=false:=by
 rw [Bool.eq_false_iff]
 intro h
 rw [List.all_eq_true] at h
 rw [h _ (List.getElem_mem hk)] at hg
 cases hg
theorem neNilE (w:World):(binOp .neq 99 .nilIface .nilIface).run Tryz.prog w=.ok (.bool false) w:=by kernel_rfl
theorem neMisE (x y:Int) (p:ByteArray) (w:World):(binOp .neq 99 (.iface 103 (.agg #[.int .i64 x,.int .i64 y,.string p])) .nilIface).run Tryz.prog w=.ok (.bool true) w:=by kernel_rfl
theorem ofFields_walk (A B:Kd) (T:Nat) (a1 a2 b1 b2:Option Addr) (p1 p2 q1 q2:Nat) (path:ByteArray) (w:World) (g:ByteArray→Bool) (G:ByteArray→(Nat→Prop)→World→Value→Prop)
 (hG:∀ nm P Q W W' fv,G nm P W fv→(∀ b,P b→Q b)→(∀ b,P b→W'.heap[b]? = W.heap[b]?)→G nm Q W' fv)
 (hA:KW w A ⟨.int .i64 A.sort,.slice a1 A.names.length p1,.slice a2 A.kids.length p2⟩) (hB:KW w B ⟨.int .i64 B.sort,.slice b1 B.names.length q1,.slice b2 B.kids.length q2⟩) (hsA:A.sort=5) (hsB:B.sort=5) (hlA:A.names.length≤1000) (hlB:B.names.length≤1000) (hps:path.size≤1000000) (hnz:∀ nm,nm∈uniN A.names B.names→nm.size≤1000)
 (hcall:∀ nm,nm∈uniN A.names B.names→∀ W (x y:C3),Below w.heap.size w W→KZ W (kidZ A nm) x→KZ W (kidZ B nm) y→Calls Tryz.prog 53 #[.pointer (some ⟨T,0,none⟩),.agg #[x.c0,x.c1,x.c2],.agg #[y.c0,y.c1,y.c2],.string (path++⟨#[123]⟩++nm++⟨#[58]⟩)] W fun e w'=>Below W.heap.size W w'∧∃ fv er,e=.returned (.tuple #[fv,er])∧PR (g nm) (G nm) (New W w') w' fv er) :
 Calls Tryz.prog 74 #[.pointer (some ⟨T,0,none⟩),.agg #[.int .i64 A.sort,.slice a1 A.names.length p1,.slice a2 A.kids.length p2],.agg #[.int .i64 B.sort,.slice b1 B.names.length q1,.slice b2 B.kids.length q2],.string path] w fun e w'=>Below w.heap.size w w'∧FdE ⟨.int .i64 A.sort,.slice a1 A.names.length p1,.slice a2 A.kids.length p2⟩ ⟨.int .i64 B.sort,.slice b1 B.names.length q1,.slice b2 B.kids.length q2⟩ (uniN A.names B.names) g G w w' e:=by
 obtain ⟨hrx,hry,hbw⟩:=pr_boxes w A.sort B.sort a1 a2 b1 b2 A.names.length A.kids.length p1 p2 B.names.length B.kids.length q1 q2
 have hsz:((w.alloc (.cells #[.int .i64 A.sort,.slice a1 A.names.length p1,.slice a2 A.kids.length p2] 26)).alloc (.cells #[.int .i64 B.sort,.slice b1 B.names.length q1,.slice b2 B.kids.length q2] 26)).heap.size=w.heap.size+2:=by simp
 have hKA:∀ W nm,Below w.heap.size w W→Calls Tryz.prog 95 #[.agg #[.int .i64 A.sort,.slice a1 A.names.length p1,.slice a2 A.kids.length p2],.string nm] W fun e w'=>Below W.heap.size W w'∧∃ (y:C3),e=.returned (.agg #[y.c0,y.c1,y.c2])∧KZ w' (kidZ A nm) y:=fun W nm hW=>kidNamed_any A _ W (hA.on hW) hsA hlA nm
 have hKB:∀ W nm,Below w.heap.size w W→Calls Tryz.prog 95 #[.agg #[.int .i64 B.sort,.slice b1 B.names.length q1,.slice b2 B.kids.length q2],.string nm] W fun e w'=>Below W.heap.size W w'∧∃ (y:C3),e=.returned (.agg #[y.c0,y.c1,y.c2])∧KZ w' (kidZ B nm) y:=fun W nm hW=>kidNamed_any B _ W (hB.on hW) hsB hlB nm
 have x1:=hrx.cell (i:=1) (by omega)
 have y1:=hry.cell (i:=1) (by omega)
 simp only [row3] at x1 y1
 obtain ⟨-,-,hstA,-⟩:=(hA.on hbw).rep.open
 obtain ⟨-,-,hstB,-⟩:=(hB.on hbw).rep.open
 have hnb:=namesOfBoth_any A.names B.names a1 b1 A.names.length B.names.length p1 q1 _ hstA hstB hlA hlB
 have hUl:(uniN A.names B.names).length≤2000:=by have:=uniN_len A.names B.names;have:=uniL_len A.names B.names;omega
 generalize uniN A.names B.names=U at *
 have HNB:=xH hnb;have HKA:=xH hKA;have HKB:=xH hKB;have HC:=xH hcall;have HG:=xH hG;have HRX:=xH hrx;have HRY:=xH hry;have HBW:=xH hbw;have HSZ:=xH hsz;have HPS:=xH hps;have HNZ:=xH hnz;have HUL:=xH hUl
 clear hnb hKA hKB hcall hG hrx hry hbw hsz hps hnz hUl hstA hstB hA hB hsA hsB hlA hlB
 go_enter Tryz.func74,Tryz.ntmps74
 go_wp2_with fail
 generalize ((w.alloc (.cells #[.int .i64 A.sort,.slice a1 A.names.length p1,.slice a2 A.kids.length p2] 26)).alloc (.cells #[.int .i64 B.sort,.slice b1 B.names.length q1,.slice b2 B.kids.length q2] 26))=W0 at x1 y1 HNB HRX HRY HBW HSZ ⊢
 refine (xU HNB).mono ?_
 rintro e W1 ⟨hb1,na,nc,rfl,hst⟩
 have HF0:Hid (FlS ⟨.int .i64 A.sort,.slice a1 A.names.length p1,.slice a2 A.kids.length p2⟩ ⟨.int .i64 B.sort,.slice b1 B.names.length q1,.slice b2 B.kids.length q2⟩ U W1.heap.size na nc G w W1 none 0 0 []) :=
  ⟨(xU HBW).trans (hb1.mono (xU HBW).size),by have:=hb1.size;rw [xU HSZ] at this;exact this,Nat.le_refl _,(xU HRX).of_block (hb1.block _ (xU HRX).lt),(xU HRY).of_block (hb1.block _ (xU HRY).lt),hst.carry (fun _ _=>rfl) (fun b hb=>⟨by have:=hb.1;rw [xU HSZ] at this;exact this,hb.2⟩),World.ownsRow_nil _ _ _ _,Nat.zero_le _,fun i hi _=>by simp at hi⟩
 generalize W1.heap.size=N at HF0
 clear hb1 hst HNB HRX HRY HBW HSZ x1 y1
 go_wp2_with fail
 go_loopw [12,24] (fun vf vi wr=>∃ (k:Nat) (fa:Option Addr) (fc:Nat) (fvs:List Value),k≤U.length∧vi=.int .i64 k∧vf=.slice fa k fc∧Hid ((U.take k).all g=true)∧Hid (FlS ⟨.int .i64 A.sort,.slice a1 A.names.length p1,.slice a2 A.kids.length p2⟩ ⟨.int .i64 B.sort,.slice b1 B.names.length q1,.slice b2 B.kids.length q2⟩ U N na nc G w wr fa k fc fvs)) (fun _ vi _=>U.length - (intOf vi).toNat)
 case atStart=>exact ⟨0,none,0,[],Nat.zero_le _,rfl,rfl,rfl,HF0⟩
 case round =>
  obtain ⟨k,fa,fc,fvs,hk,rfl,rfl,HTK,HF⟩:=hrel
  by_cases hlt:k < U.length
  · obtain ⟨na',nc',e9,-,hcs⟩:=(xU HF).st
    simp only [Value.slice.injEq,true_and] at e9
    obtain ⟨rfl,rfl⟩:=e9
    obtain ⟨nb,no,rfl,hnbl,hcn,-⟩:=hcs k hlt
    have hnm:U[k]∈U:=List.getElem_mem hlt
    have hcall:=xU HC _ hnm
    have hz:=xU HNZ _ hnm
    have HPG:Hid (∀ W W' fv,G U[k] (New W W') W' fv→G U[k] (New W W') W' fv):=fun _ _ _ h=>h
    have HNMK:=xH (show U[k]=U[k] from rfl)
    have hS:=(xU HF).cellsP
    have HNT:=xH (show ∀ g0,g U[k]=g0→(g0=true→(U.take (k+1)).all g=true)∧(g0=false→U.all g=false) from fun g0 h=>⟨fun h1=>all_takeU hlt (xU HTK) (h.trans h1),fun h1=>all_no hlt (h.trans h1)⟩)
    have HADD:=xH (fun W (h:FlS ⟨.int .i64 A.sort,.slice a1 A.names.length p1,.slice a2 A.kids.length p2⟩ ⟨.int .i64 B.sort,.slice b1 B.names.length q1,.slice b2 B.kids.length q2⟩ U N (some ⟨nb,no,none⟩) nc G w W fa k fc fvs) fv P (hfv:G U[k] P W fv∧∃ f b c,fv=.func f b c) hP W' fa' fc' ho hg hn=>h.add (xU HG) hlt hfv hP (W':=W') (fa':=fa') (fc':=fc') ho hg hn)
    generalize hnmU:U[k]=nm at *
    have HC2:=xH hcall
    obtain ⟨x0,x1,x2,y0,y1,y2⟩:=hS
    have hA1:∀ T,binOp .add T (.string path) (.string ⟨#[123]⟩)=pure (.string (path++⟨#[123]⟩)):=fun T=>addP T _ _ (szU1 (xU HPS))
    have hA2:∀ T,binOp .add T (.string (path++⟨#[123]⟩)) (.string nm)=pure (.string (path++⟨#[123]⟩++nm)):=fun T=>addP T _ _ (szU2 (xU HPS) hz)
    have hA3:∀ T,binOp .add T (.string (path++⟨#[123]⟩++nm)) (.string ⟨#[58]⟩)=pure (.string (path++⟨#[123]⟩++nm++⟨#[58]⟩)):=fun T=>addP T _ _ (szU3 (xU HPS) hz)
    have HHZ:=xH hz
    clear hnmU hcall hz hcs hnbl hnm HPG HNMK HTK
    cases hgv:g nm with
    | true =>
      have HGV:=xH hgv
      have HNT2:=xH ((xU HNT _ hgv).1 rfl)
      clear hgv HNT
      go_wp2_with fail
      go_region_held3 (fun W=>W.cell? ⟨w.heap.size,0,none⟩=some (.int .i64 A.sort)∧W.cell? ⟨w.heap.size,1,none⟩=some (.slice a1 A.names.length p1)∧W.cell? ⟨w.heap.size,2,none⟩=some (.slice a2 A.kids.length p2)∧W.cell? ⟨w.heap.size+1,0,none⟩=some (.int .i64 B.sort)∧W.cell? ⟨w.heap.size+1,1,none⟩=some (.slice b1 B.names.length q1)∧W.cell? ⟨w.heap.size+1,2,none⟩=some (.slice b2 B.kids.length q2)) (first | exact ⟨x0,x1,x2,y0,y1,y2⟩ | exact HS3 | exact HS2 | exact HS1 | go_keep)
       (first
         | (go_at_call 95
            first
            | (refine (xU HKB V1 nm (xU HF1).bel).mono ?_
               rintro e V2 ⟨hb2,⟨d0,d1,d2⟩,rfl,hd⟩
               have HF2:=xH ((xU HF1).on (xU HG) hb2)
               have HS2:=(xU HF2).cellsP
               have HKX:=xH ((xU HK1).on hb2)
               have HKY:=xH hd
               clear hb2 hd)
            | (refine (xU HKA wr.drew nm ((xU HF).on (xU HG) (Below.refl _ wr).drew).bel).mono ?_
               rintro e V1 ⟨hb1,⟨c0,c1,c2⟩,rfl,hc⟩
               have HF1:=xH (((xU HF).on (xU HG) (Below.refl _ wr).drew).on (xU HG) hb1)
               have HS1:=(xU HF1).cellsP
               have HK1:=xH hc
               clear hb1 hc))
         | (go_at_call 53
            refine (xU HC2 V2 ⟨c0,c1,c2⟩ ⟨d0,d1,d2⟩ (xU HF2).bel (xU HKX) (xU HKY)).mono ?_
            rintro e V3 ⟨hb3,fv,er,rfl,hpr⟩
            obtain ⟨rfl,⟨fn,bs,cs,rfl⟩,hgv⟩:=PR.yes (xU HGV) hpr
            have HF3:=xH ((xU HF2).on (xU HG) hb3)
            have HS3:=(xU HF3).cellsP
            have HGF:=xH hgv
            have HB3:=xH hb3
            clear hb3 hpr hgv))
      all_goals
       have HFA:=xH ((xU HF3).on (xU HG) ((Below.refl _ _).alloc (Nat.le_refl _) (.cells #[.func fn bs cs] 55)))
       have HPW:Hid (G nm (New V2 V3) (V3.alloc (.cells #[.func fn bs cs] 55)) (.func fn bs cs)):=xU HG _ _ _ _ _ _ (xU HGF) (fun _ h=>h) (fun b hb=>Below.heap_alloc _ _ _ hb.2)
       have HPN:Hid (∀ b,New V2 V3 b→N≤b∧b < (V3.alloc (.cells #[.func fn bs cs] 55)).heap.size∧(Value.slice fa k fc).ownBlock≠some b):=fun b hb=>(xU HF2).apartU hb
       have ne1:=neNilE
       have ke:=wrkU (Nat.le_trans hk (xU HUL))
       clear HS1 HS2 HS3 HC2 HK1 HKX HKY HF1 HF2 HF3 HGF HB3 x0 x1 x2 y0 y1 y2 hA1 hA2 hA3 hcn
       go_wp2_with (at_builtin;refine append_fnP _ rfl _ _ rfl N fa k fc fvs rfl (xU HFA).own V3.heap.size (.func fn bs cs) rfl (by simp) rfl (Nat.le_trans hk (xU HUL)) (xU HFA).n1 ?_;intro fa2 fc2 W5 ho5 hg5 hn5)
       have HF5:=xH (xU HADD _ (xU HFA) _ _ ⟨xU HPW,fn,bs,cs,rfl⟩ (xU HPN) W5 fa2 fc2 (xU ho5) (xU hg5) (xU hn5))
       clear ho5 hg5 hn5 HFA HPW HPN HADD
       go_wp2_with fail
       go_roundw
       case rel=>exact ⟨k+1,fa2,fc2,_,hlt,(by rw [ke];exact numU k),rfl,HNT2,HF5⟩
       case measure=>rw [ke];exact measU hlt
    | false =>
      have HGV:=xH hgv
      have HNT2:=xH ((xU HNT _ hgv).2 rfl)
      clear hgv HNT HADD
      go_wp2_with fail
      go_region_held3 (fun W=>W.cell? ⟨w.heap.size,0,none⟩=some (.int .i64 A.sort)∧W.cell? ⟨w.heap.size,1,none⟩=some (.slice a1 A.names.length p1)∧W.cell? ⟨w.heap.size,2,none⟩=some (.slice a2 A.kids.length p2)∧W.cell? ⟨w.heap.size+1,0,none⟩=some (.int .i64 B.sort)∧W.cell? ⟨w.heap.size+1,1,none⟩=some (.slice b1 B.names.length q1)∧W.cell? ⟨w.heap.size+1,2,none⟩=some (.slice b2 B.kids.length q2)) (first | exact ⟨x0,x1,x2,y0,y1,y2⟩ | exact HS3 | exact HS2 | exact HS1 | go_keep)
       (first
         | (go_at_call 95
            first
            | (refine (xU HKB V1 nm (xU HF1).bel).mono ?_
               rintro e V2 ⟨hb2,⟨d0,d1,d2⟩,rfl,hd⟩
               have HF2:=xH ((xU HF1).on (xU HG) hb2)
               have HS2:=(xU HF2).cellsP
               have HKX:=xH ((xU HK1).on hb2)
               have HKY:=xH hd
               clear hb2 hd)
            | (refine (xU HKA wr.drew nm ((xU HF).on (xU HG) (Below.refl _ wr).drew).bel).mono ?_
               rintro e V1 ⟨hb1,⟨c0,c1,c2⟩,rfl,hc⟩
               have HF1:=xH (((xU HF).on (xU HG) (Below.refl _ wr).drew).on (xU HG) hb1)
               have HS1:=(xU HF1).cellsP
               have HK1:=xH hc
               clear hb1 hc))
         | (go_at_call 53
            refine (xU HC2 V2 ⟨c0,c1,c2⟩ ⟨d0,d1,d2⟩ (xU HF2).bel (xU HKX) (xU HKY)).mono ?_
            rintro e V3 ⟨hb3,fv,er,rfl,hpr⟩
            obtain ⟨xx,yy,pp,rfl⟩:=PR.no (xU HGV) hpr
            have HF3:=xH ((xU HF2).on (xU HG) hb3)
            have HS3:=(xU HF3).cellsP
            clear hb3 hpr))
      all_goals
       have ne1:=neMisE
       have HBE:=xH (xU HF3).bel
       clear HS1 HS2 HS3 HC2 HK1 HKX HKY HF1 HF2 HF3 x0 x1 x2 y0 y1 y2 hA1 hA2 hA3 hcn
       go_wp2_with fail
       refine bodyPost_ret (v:=.tuple #[.slice none 0 0,.slice none 0 0,.iface 103 (.agg #[.int .i64 xx,.int .i64 yy,.string pp])]) (by simp [results,Tryz.results74,go_sem]) rfl ?_
       exact ⟨xU HBE,Or.inr ⟨xU HNT2,xx,yy,pp,rfl⟩⟩
  · have hall:U.all g=true:=by
     have:=xU HTK
     rwa [List.take_of_length_le (by omega)] at this
    have hkk:k=U.length:=by omega
    subst hkk
    have HALL:=xH hall
    clear hall HTK hlt hk
    go_wp2_with fail
    refine bodyPost_ret (v:=.tuple #[.slice na U.length nc,.slice fa U.length fc,.nilIface]) (by simp [results,Tryz.results74,go_sem]) rfl ?_
    exact ⟨(xU HF).bel,Or.inl ⟨xU HALL,na,nc,fa,fc,fvs,N,rfl,xU HF⟩⟩
end Go.Proofs.YteefjeddboefcaaGreatDoor
