/- The walk of the law's own lwWorld: two worlds that are the same. No conditions. -/
import Derived.Test.YtchbialjgcejgaaPart21
namespace Go.Proofs.Ytchbialjgcejgaa
open Go Go.RowKit

noncomputable def lwOps : Array Oper := fops Try.f12 10
set_option maxRecDepth 100000 in
set_option maxHeartbeats 3200000 in
theorem lw10 (c : Cw) (A U : A7) (P1 P2 P3 P4 : Nat → Prop) (b1 b2 g6 g7 : Nat) (W : World) {v0 v1 v4 v5 v8 v9 v10 v11 v12 v13 v14 v15 v16 v17 v18 v19 v20 v21 v22 v23 v24 v25 v26 v27 v28 v29 v30 v31 v32 v33 v34 v35 v36 v37 v38 v39 v40 v41 v42 v43 v44 v45 v46 v47 v48 v49 v50 v51 v52 v53 v54 v55 v56 v57 v58 v59 v60 v61 v62 v63 v64 v65 v66 v67 v68 v69 v70 v71 v72 v73 v74 v75 v76 v77 v78 : Value} (Q : Exit → Act → World → Prop) (h1 : Bc 28 P1 b1 c A W) (h2 : Bc 28 P2 b2 c U W) (hx : ZAt P3 W (.slice (some ⟨g6, 0, none⟩) 11 11) [c.jobs, c.workers, c.window, c.next, c.reader, c.closer, c.keeper, c.due, c.user, c.room, c.ops]) (hy : ZAt P4 W (.slice (some ⟨g7, 0, none⟩) 11 11) [c.jobs, c.workers, c.window, c.next, c.reader, c.closer, c.keeper, c.due, c.user, c.room, c.ops])
    (hend : ∀ a' W', Act.eval a' (.tmp 4) = .bool true → a'.defers = [] → Below W.heap.size W W' → Q .normal a' W') : wpFrom Try.prog lwOps Q 0 ⟨(v0 :: v1 :: .pointer (some ⟨b1, 0, none⟩) :: .pointer (some ⟨b2, 0, none⟩) :: v4 :: v5 :: .slice (some ⟨g6, 0, none⟩) 11 11 :: .slice (some ⟨g7, 0, none⟩) 11 11 :: v8 :: v9 :: v10 :: v11 :: v12 :: v13 :: v14 :: v15 :: v16 :: v17 :: v18 :: v19 :: v20 :: v21 :: v22 :: v23 :: v24 :: v25 :: v26 :: v27 :: v28 :: v29 :: v30 :: v31 :: v32 :: v33 :: v34 :: v35 :: v36 :: v37 :: v38 :: v39 :: v40 :: v41 :: v42 :: v43 :: v44 :: v45 :: v46 :: v47 :: v48 :: v49 :: v50 :: v51 :: v52 :: v53 :: v54 :: v55 :: v56 :: v57 :: v58 :: v59 :: v60 :: v61 :: v62 :: v63 :: v64 :: v65 :: v66 :: v67 :: v68 :: v69 :: v70 :: v71 :: v72 :: v73 :: v74 :: v75 :: v76 :: v77 :: v78 :: undef :: undef :: undef :: undef :: undef :: undef :: undef :: undef :: undef :: undef :: undef :: undef :: undef :: undef :: undef :: undef :: undef :: undef :: undef :: undef :: undef :: undef :: undef :: undef :: undef :: undef :: undef :: undef :: undef :: undef :: undef :: undef :: undef :: undef :: undef :: undef :: undef :: undef :: undef :: undef :: undef :: undef :: undef :: undef :: undef :: []).toArray, []⟩ W := by
  have hB := Below.refl W.heap.size W
  refine from_val (some 79) (.slice (some ⟨g6, 0, none⟩) 11 11) (.slice (some ⟨g6, 0, none⟩) 11 11) rfl (by kernel_rfl) (by kernel_rfl) (by kernel_rfl) ?_
  refine from_val (some 80) (.slice (some ⟨g7, 0, none⟩) 11 11) (.slice (some ⟨g7, 0, none⟩) 11 11) rfl (by kernel_rfl) (by kernel_rfl) (by kernel_rfl) ?_
  refine from_enter (some 81) 38 #[.slice (some ⟨g6, 0, none⟩) 11 11, .slice (some ⟨g7, 0, none⟩) 11 11] (by kernel_rfl) (by kernel_rfl) (by kernel_rfl) (lwInts_any _ _ 11 11 11 [c.jobs, c.workers, c.window, c.next, c.reader, c.closer, c.keeper, c.due, c.user, c.room, c.ops] _ rfl hx hy) ?_
  rintro e W1 ⟨rfl, hb⟩
  have h1 := h1.on hb; have h2 := h2.on hb; have hB := hB.trans (hb.mono hB.size)
  refine ⟨_, rfl, ?_⟩
  clear hb
  refine from_eq (a' := ⟨(v0 :: v1 :: .pointer (some ⟨b1, 0, none⟩) :: .pointer (some ⟨b2, 0, none⟩) :: v4 :: v5 :: .slice (some ⟨g6, 0, none⟩) 11 11 :: .slice (some ⟨g7, 0, none⟩) 11 11 :: v8 :: v9 :: v10 :: v11 :: v12 :: v13 :: v14 :: v15 :: v16 :: v17 :: v18 :: v19 :: v20 :: v21 :: v22 :: v23 :: v24 :: v25 :: v26 :: v27 :: v28 :: v29 :: v30 :: v31 :: v32 :: v33 :: v34 :: v35 :: v36 :: v37 :: v38 :: v39 :: v40 :: v41 :: v42 :: v43 :: v44 :: v45 :: v46 :: v47 :: v48 :: v49 :: v50 :: v51 :: v52 :: v53 :: v54 :: v55 :: v56 :: v57 :: v58 :: v59 :: v60 :: v61 :: v62 :: v63 :: v64 :: v65 :: v66 :: v67 :: v68 :: v69 :: v70 :: v71 :: v72 :: v73 :: v74 :: v75 :: v76 :: v77 :: v78 :: .slice (some ⟨g6, 0, none⟩) 11 11 :: .slice (some ⟨g7, 0, none⟩) 11 11 :: .bool true :: undef :: undef :: undef :: undef :: undef :: undef :: undef :: undef :: undef :: undef :: undef :: undef :: undef :: undef :: undef :: undef :: undef :: undef :: undef :: undef :: undef :: undef :: undef :: undef :: undef :: undef :: undef :: undef :: undef :: undef :: undef :: undef :: undef :: undef :: undef :: undef :: undef :: undef :: undef :: undef :: undef :: undef :: []).toArray, []⟩) (by kernel_rfl) ?_
  refine from_val (some 82) (.bool true) (.bool true) rfl (by kernel_rfl) (by kernel_rfl) (by kernel_rfl) ?_
  refine from_val (some 83) (.pointer (some ⟨b1, 5, none⟩)) (.pointer (some ⟨b1, 5, none⟩)) rfl (by kernel_rfl) (by kernel_rfl) (by kernel_rfl) ?_
  refine from_load (some 84) 25 (.tmp 83) ⟨b1, 5, none⟩ (.slice A.q c.queue.length A.pq) (by kernel_rfl) (by kernel_rfl) (by kernel_rfl) (by kernel_rfl) (ld25 _ _ _ (h1.row.cell (i := 5) (by omega))) ?_
  refine from_val (some 85) (.pointer (some ⟨b2, 5, none⟩)) (.pointer (some ⟨b2, 5, none⟩)) rfl (by kernel_rfl) (by kernel_rfl) (by kernel_rfl) ?_
  refine from_load (some 86) 25 (.tmp 85) ⟨b2, 5, none⟩ (.slice U.q c.queue.length U.pq) (by kernel_rfl) (by kernel_rfl) (by kernel_rfl) (by kernel_rfl) (ld25 _ _ _ (h2.row.cell (i := 5) (by omega))) ?_
  refine from_enter (some 87) 38 #[.slice A.q c.queue.length A.pq, .slice U.q c.queue.length U.pq] (by kernel_rfl) (by kernel_rfl) (by kernel_rfl) (lwInts_any A.q U.q c.queue.length A.pq U.pq c.queue _ rfl h1.at'.q h2.at'.q) ?_
  rintro e W2 ⟨rfl, hb⟩
  have h1 := h1.on hb; have h2 := h2.on hb; have hB := hB.trans (hb.mono hB.size)
  refine ⟨_, rfl, ?_⟩
  clear hb
  refine from_eq (a' := ⟨(v0 :: v1 :: .pointer (some ⟨b1, 0, none⟩) :: .pointer (some ⟨b2, 0, none⟩) :: v4 :: v5 :: .slice (some ⟨g6, 0, none⟩) 11 11 :: .slice (some ⟨g7, 0, none⟩) 11 11 :: v8 :: v9 :: v10 :: v11 :: v12 :: v13 :: v14 :: v15 :: v16 :: v17 :: v18 :: v19 :: v20 :: v21 :: v22 :: v23 :: v24 :: v25 :: v26 :: v27 :: v28 :: v29 :: v30 :: v31 :: v32 :: v33 :: v34 :: v35 :: v36 :: v37 :: v38 :: v39 :: v40 :: v41 :: v42 :: v43 :: v44 :: v45 :: v46 :: v47 :: v48 :: v49 :: v50 :: v51 :: v52 :: v53 :: v54 :: v55 :: v56 :: v57 :: v58 :: v59 :: v60 :: v61 :: v62 :: v63 :: v64 :: v65 :: v66 :: v67 :: v68 :: v69 :: v70 :: v71 :: v72 :: v73 :: v74 :: v75 :: v76 :: v77 :: v78 :: .slice (some ⟨g6, 0, none⟩) 11 11 :: .slice (some ⟨g7, 0, none⟩) 11 11 :: .bool true :: .bool true :: .pointer (some ⟨b1, 5, none⟩) :: .slice A.q c.queue.length A.pq :: .pointer (some ⟨b2, 5, none⟩) :: .slice U.q c.queue.length U.pq :: .bool true :: undef :: undef :: undef :: undef :: undef :: undef :: undef :: undef :: undef :: undef :: undef :: undef :: undef :: undef :: undef :: undef :: undef :: undef :: undef :: undef :: undef :: undef :: undef :: undef :: undef :: undef :: undef :: undef :: undef :: undef :: undef :: undef :: undef :: undef :: undef :: undef :: []).toArray, []⟩) (by kernel_rfl) ?_
  refine from_val (some 88) (.bool true) (.bool true) rfl (by kernel_rfl) (by kernel_rfl) (by kernel_rfl) ?_
  refine from_val (some 89) (.bool true) (.bool true) rfl (by kernel_rfl) (by kernel_rfl) (by kernel_rfl) ?_
  refine from_val (some 90) (.pointer (some ⟨b1, 8, none⟩)) (.pointer (some ⟨b1, 8, none⟩)) rfl (by kernel_rfl) (by kernel_rfl) (by kernel_rfl) ?_
  refine from_load (some 91) 25 (.tmp 90) ⟨b1, 8, none⟩ (.slice A.r c.results.length A.pr) (by kernel_rfl) (by kernel_rfl) (by kernel_rfl) (by kernel_rfl) (ld25 _ _ _ (h1.row.cell (i := 8) (by omega))) ?_
  refine from_val (some 92) (.pointer (some ⟨b2, 8, none⟩)) (.pointer (some ⟨b2, 8, none⟩)) rfl (by kernel_rfl) (by kernel_rfl) (by kernel_rfl) ?_
  refine from_load (some 93) 25 (.tmp 92) ⟨b2, 8, none⟩ (.slice U.r c.results.length U.pr) (by kernel_rfl) (by kernel_rfl) (by kernel_rfl) (by kernel_rfl) (ld25 _ _ _ (h2.row.cell (i := 8) (by omega))) ?_
  refine from_enter (some 94) 38 #[.slice A.r c.results.length A.pr, .slice U.r c.results.length U.pr] (by kernel_rfl) (by kernel_rfl) (by kernel_rfl) (lwInts_any A.r U.r c.results.length A.pr U.pr c.results _ rfl h1.at'.r h2.at'.r) ?_
  rintro e W3 ⟨rfl, hb⟩
  have h1 := h1.on hb; have h2 := h2.on hb; have hB := hB.trans (hb.mono hB.size)
  refine ⟨_, rfl, ?_⟩
  clear hb
  refine from_eq (a' := ⟨(v0 :: v1 :: .pointer (some ⟨b1, 0, none⟩) :: .pointer (some ⟨b2, 0, none⟩) :: v4 :: v5 :: .slice (some ⟨g6, 0, none⟩) 11 11 :: .slice (some ⟨g7, 0, none⟩) 11 11 :: v8 :: v9 :: v10 :: v11 :: v12 :: v13 :: v14 :: v15 :: v16 :: v17 :: v18 :: v19 :: v20 :: v21 :: v22 :: v23 :: v24 :: v25 :: v26 :: v27 :: v28 :: v29 :: v30 :: v31 :: v32 :: v33 :: v34 :: v35 :: v36 :: v37 :: v38 :: v39 :: v40 :: v41 :: v42 :: v43 :: v44 :: v45 :: v46 :: v47 :: v48 :: v49 :: v50 :: v51 :: v52 :: v53 :: v54 :: v55 :: v56 :: v57 :: v58 :: v59 :: v60 :: v61 :: v62 :: v63 :: v64 :: v65 :: v66 :: v67 :: v68 :: v69 :: v70 :: v71 :: v72 :: v73 :: v74 :: v75 :: v76 :: v77 :: v78 :: .slice (some ⟨g6, 0, none⟩) 11 11 :: .slice (some ⟨g7, 0, none⟩) 11 11 :: .bool true :: .bool true :: .pointer (some ⟨b1, 5, none⟩) :: .slice A.q c.queue.length A.pq :: .pointer (some ⟨b2, 5, none⟩) :: .slice U.q c.queue.length U.pq :: .bool true :: .bool true :: .bool true :: .pointer (some ⟨b1, 8, none⟩) :: .slice A.r c.results.length A.pr :: .pointer (some ⟨b2, 8, none⟩) :: .slice U.r c.results.length U.pr :: .bool true :: undef :: undef :: undef :: undef :: undef :: undef :: undef :: undef :: undef :: undef :: undef :: undef :: undef :: undef :: undef :: undef :: undef :: undef :: undef :: undef :: undef :: undef :: undef :: undef :: undef :: undef :: undef :: undef :: undef :: []).toArray, []⟩) (by kernel_rfl) ?_
  refine from_val (some 95) (.bool true) (.bool true) rfl (by kernel_rfl) (by kernel_rfl) (by kernel_rfl) ?_
  refine from_val (some 96) (.bool true) (.bool true) rfl (by kernel_rfl) (by kernel_rfl) (by kernel_rfl) ?_
  refine from_val (some 97) (.pointer (some ⟨b1, 10, none⟩)) (.pointer (some ⟨b1, 10, none⟩)) rfl (by kernel_rfl) (by kernel_rfl) (by kernel_rfl) ?_
  refine from_load (some 98) 25 (.tmp 97) ⟨b1, 10, none⟩ (.slice A.g c.ring.length A.pg) (by kernel_rfl) (by kernel_rfl) (by kernel_rfl) (by kernel_rfl) (ld25 _ _ _ (h1.row.cell (i := 10) (by omega))) ?_
  refine from_val (some 99) (.pointer (some ⟨b2, 10, none⟩)) (.pointer (some ⟨b2, 10, none⟩)) rfl (by kernel_rfl) (by kernel_rfl) (by kernel_rfl) ?_
  refine from_load (some 100) 25 (.tmp 99) ⟨b2, 10, none⟩ (.slice U.g c.ring.length U.pg) (by kernel_rfl) (by kernel_rfl) (by kernel_rfl) (by kernel_rfl) (ld25 _ _ _ (h2.row.cell (i := 10) (by omega))) ?_
  refine from_enter (some 101) 38 #[.slice A.g c.ring.length A.pg, .slice U.g c.ring.length U.pg] (by kernel_rfl) (by kernel_rfl) (by kernel_rfl) (lwInts_any A.g U.g c.ring.length A.pg U.pg c.ring _ rfl h1.at'.g h2.at'.g) ?_
  rintro e W4 ⟨rfl, hb⟩
  have h1 := h1.on hb; have h2 := h2.on hb; have hB := hB.trans (hb.mono hB.size)
  refine ⟨_, rfl, ?_⟩
  clear hb
  refine from_eq (a' := ⟨(v0 :: v1 :: .pointer (some ⟨b1, 0, none⟩) :: .pointer (some ⟨b2, 0, none⟩) :: v4 :: v5 :: .slice (some ⟨g6, 0, none⟩) 11 11 :: .slice (some ⟨g7, 0, none⟩) 11 11 :: v8 :: v9 :: v10 :: v11 :: v12 :: v13 :: v14 :: v15 :: v16 :: v17 :: v18 :: v19 :: v20 :: v21 :: v22 :: v23 :: v24 :: v25 :: v26 :: v27 :: v28 :: v29 :: v30 :: v31 :: v32 :: v33 :: v34 :: v35 :: v36 :: v37 :: v38 :: v39 :: v40 :: v41 :: v42 :: v43 :: v44 :: v45 :: v46 :: v47 :: v48 :: v49 :: v50 :: v51 :: v52 :: v53 :: v54 :: v55 :: v56 :: v57 :: v58 :: v59 :: v60 :: v61 :: v62 :: v63 :: v64 :: v65 :: v66 :: v67 :: v68 :: v69 :: v70 :: v71 :: v72 :: v73 :: v74 :: v75 :: v76 :: v77 :: v78 :: .slice (some ⟨g6, 0, none⟩) 11 11 :: .slice (some ⟨g7, 0, none⟩) 11 11 :: .bool true :: .bool true :: .pointer (some ⟨b1, 5, none⟩) :: .slice A.q c.queue.length A.pq :: .pointer (some ⟨b2, 5, none⟩) :: .slice U.q c.queue.length U.pq :: .bool true :: .bool true :: .bool true :: .pointer (some ⟨b1, 8, none⟩) :: .slice A.r c.results.length A.pr :: .pointer (some ⟨b2, 8, none⟩) :: .slice U.r c.results.length U.pr :: .bool true :: .bool true :: .bool true :: .pointer (some ⟨b1, 10, none⟩) :: .slice A.g c.ring.length A.pg :: .pointer (some ⟨b2, 10, none⟩) :: .slice U.g c.ring.length U.pg :: .bool true :: undef :: undef :: undef :: undef :: undef :: undef :: undef :: undef :: undef :: undef :: undef :: undef :: undef :: undef :: undef :: undef :: undef :: undef :: undef :: undef :: undef :: undef :: []).toArray, []⟩) (by kernel_rfl) ?_
  refine from_val (some 102) (.bool true) (.bool true) rfl (by kernel_rfl) (by kernel_rfl) (by kernel_rfl) ?_
  refine from_val (some 103) (.bool true) (.bool true) rfl (by kernel_rfl) (by kernel_rfl) (by kernel_rfl) ?_
  refine from_val (some 104) (.pointer (some ⟨b1, 12, none⟩)) (.pointer (some ⟨b1, 12, none⟩)) rfl (by kernel_rfl) (by kernel_rfl) (by kernel_rfl) ?_
  refine from_load (some 105) 25 (.tmp 104) ⟨b1, 12, none⟩ (.slice A.o c.out.length A.po) (by kernel_rfl) (by kernel_rfl) (by kernel_rfl) (by kernel_rfl) (ld25 _ _ _ (h1.row.cell (i := 12) (by omega))) ?_
  refine from_val (some 106) (.pointer (some ⟨b2, 12, none⟩)) (.pointer (some ⟨b2, 12, none⟩)) rfl (by kernel_rfl) (by kernel_rfl) (by kernel_rfl) ?_
  refine from_load (some 107) 25 (.tmp 106) ⟨b2, 12, none⟩ (.slice U.o c.out.length U.po) (by kernel_rfl) (by kernel_rfl) (by kernel_rfl) (by kernel_rfl) (ld25 _ _ _ (h2.row.cell (i := 12) (by omega))) ?_
  refine from_enter (some 108) 38 #[.slice A.o c.out.length A.po, .slice U.o c.out.length U.po] (by kernel_rfl) (by kernel_rfl) (by kernel_rfl) (lwInts_any A.o U.o c.out.length A.po U.po c.out _ rfl h1.at'.o h2.at'.o) ?_
  rintro e W5 ⟨rfl, hb⟩
  have h1 := h1.on hb; have h2 := h2.on hb; have hB := hB.trans (hb.mono hB.size)
  refine ⟨_, rfl, ?_⟩
  clear hb
  refine from_eq (a' := ⟨(v0 :: v1 :: .pointer (some ⟨b1, 0, none⟩) :: .pointer (some ⟨b2, 0, none⟩) :: v4 :: v5 :: .slice (some ⟨g6, 0, none⟩) 11 11 :: .slice (some ⟨g7, 0, none⟩) 11 11 :: v8 :: v9 :: v10 :: v11 :: v12 :: v13 :: v14 :: v15 :: v16 :: v17 :: v18 :: v19 :: v20 :: v21 :: v22 :: v23 :: v24 :: v25 :: v26 :: v27 :: v28 :: v29 :: v30 :: v31 :: v32 :: v33 :: v34 :: v35 :: v36 :: v37 :: v38 :: v39 :: v40 :: v41 :: v42 :: v43 :: v44 :: v45 :: v46 :: v47 :: v48 :: v49 :: v50 :: v51 :: v52 :: v53 :: v54 :: v55 :: v56 :: v57 :: v58 :: v59 :: v60 :: v61 :: v62 :: v63 :: v64 :: v65 :: v66 :: v67 :: v68 :: v69 :: v70 :: v71 :: v72 :: v73 :: v74 :: v75 :: v76 :: v77 :: v78 :: .slice (some ⟨g6, 0, none⟩) 11 11 :: .slice (some ⟨g7, 0, none⟩) 11 11 :: .bool true :: .bool true :: .pointer (some ⟨b1, 5, none⟩) :: .slice A.q c.queue.length A.pq :: .pointer (some ⟨b2, 5, none⟩) :: .slice U.q c.queue.length U.pq :: .bool true :: .bool true :: .bool true :: .pointer (some ⟨b1, 8, none⟩) :: .slice A.r c.results.length A.pr :: .pointer (some ⟨b2, 8, none⟩) :: .slice U.r c.results.length U.pr :: .bool true :: .bool true :: .bool true :: .pointer (some ⟨b1, 10, none⟩) :: .slice A.g c.ring.length A.pg :: .pointer (some ⟨b2, 10, none⟩) :: .slice U.g c.ring.length U.pg :: .bool true :: .bool true :: .bool true :: .pointer (some ⟨b1, 12, none⟩) :: .slice A.o c.out.length A.po :: .pointer (some ⟨b2, 12, none⟩) :: .slice U.o c.out.length U.po :: .bool true :: undef :: undef :: undef :: undef :: undef :: undef :: undef :: undef :: undef :: undef :: undef :: undef :: undef :: undef :: undef :: []).toArray, []⟩) (by kernel_rfl) ?_
  refine from_val (some 109) (.bool true) (.bool true) rfl (by kernel_rfl) (by kernel_rfl) (by kernel_rfl) ?_
  refine from_val (some 110) (.bool true) (.bool true) rfl (by kernel_rfl) (by kernel_rfl) (by kernel_rfl) ?_
  refine from_val (some 111) (.pointer (some ⟨b1, 14, none⟩)) (.pointer (some ⟨b1, 14, none⟩)) rfl (by kernel_rfl) (by kernel_rfl) (by kernel_rfl) ?_
  refine from_load (some 112) 25 (.tmp 111) ⟨b1, 14, none⟩ (.slice A.t c.got.length A.pt) (by kernel_rfl) (by kernel_rfl) (by kernel_rfl) (by kernel_rfl) (ld25 _ _ _ (h1.row.cell (i := 14) (by omega))) ?_
  refine from_val (some 113) (.pointer (some ⟨b2, 14, none⟩)) (.pointer (some ⟨b2, 14, none⟩)) rfl (by kernel_rfl) (by kernel_rfl) (by kernel_rfl) ?_
  refine from_load (some 114) 25 (.tmp 113) ⟨b2, 14, none⟩ (.slice U.t c.got.length U.pt) (by kernel_rfl) (by kernel_rfl) (by kernel_rfl) (by kernel_rfl) (ld25 _ _ _ (h2.row.cell (i := 14) (by omega))) ?_
  refine from_enter (some 115) 38 #[.slice A.t c.got.length A.pt, .slice U.t c.got.length U.pt] (by kernel_rfl) (by kernel_rfl) (by kernel_rfl) (lwInts_any A.t U.t c.got.length A.pt U.pt c.got _ rfl h1.at'.t h2.at'.t) ?_
  rintro e W6 ⟨rfl, hb⟩
  have h1 := h1.on hb; have h2 := h2.on hb; have hB := hB.trans (hb.mono hB.size)
  refine ⟨_, rfl, ?_⟩
  clear hb
  refine from_eq (a' := ⟨(v0 :: v1 :: .pointer (some ⟨b1, 0, none⟩) :: .pointer (some ⟨b2, 0, none⟩) :: v4 :: v5 :: .slice (some ⟨g6, 0, none⟩) 11 11 :: .slice (some ⟨g7, 0, none⟩) 11 11 :: v8 :: v9 :: v10 :: v11 :: v12 :: v13 :: v14 :: v15 :: v16 :: v17 :: v18 :: v19 :: v20 :: v21 :: v22 :: v23 :: v24 :: v25 :: v26 :: v27 :: v28 :: v29 :: v30 :: v31 :: v32 :: v33 :: v34 :: v35 :: v36 :: v37 :: v38 :: v39 :: v40 :: v41 :: v42 :: v43 :: v44 :: v45 :: v46 :: v47 :: v48 :: v49 :: v50 :: v51 :: v52 :: v53 :: v54 :: v55 :: v56 :: v57 :: v58 :: v59 :: v60 :: v61 :: v62 :: v63 :: v64 :: v65 :: v66 :: v67 :: v68 :: v69 :: v70 :: v71 :: v72 :: v73 :: v74 :: v75 :: v76 :: v77 :: v78 :: .slice (some ⟨g6, 0, none⟩) 11 11 :: .slice (some ⟨g7, 0, none⟩) 11 11 :: .bool true :: .bool true :: .pointer (some ⟨b1, 5, none⟩) :: .slice A.q c.queue.length A.pq :: .pointer (some ⟨b2, 5, none⟩) :: .slice U.q c.queue.length U.pq :: .bool true :: .bool true :: .bool true :: .pointer (some ⟨b1, 8, none⟩) :: .slice A.r c.results.length A.pr :: .pointer (some ⟨b2, 8, none⟩) :: .slice U.r c.results.length U.pr :: .bool true :: .bool true :: .bool true :: .pointer (some ⟨b1, 10, none⟩) :: .slice A.g c.ring.length A.pg :: .pointer (some ⟨b2, 10, none⟩) :: .slice U.g c.ring.length U.pg :: .bool true :: .bool true :: .bool true :: .pointer (some ⟨b1, 12, none⟩) :: .slice A.o c.out.length A.po :: .pointer (some ⟨b2, 12, none⟩) :: .slice U.o c.out.length U.po :: .bool true :: .bool true :: .bool true :: .pointer (some ⟨b1, 14, none⟩) :: .slice A.t c.got.length A.pt :: .pointer (some ⟨b2, 14, none⟩) :: .slice U.t c.got.length U.pt :: .bool true :: undef :: undef :: undef :: undef :: undef :: undef :: undef :: undef :: []).toArray, []⟩) (by kernel_rfl) ?_
  refine from_val (some 116) (.bool true) (.bool true) rfl (by kernel_rfl) (by kernel_rfl) (by kernel_rfl) ?_
  refine from_val (some 117) (.bool true) (.bool true) rfl (by kernel_rfl) (by kernel_rfl) (by kernel_rfl) ?_
  refine from_val (some 118) (.pointer (some ⟨b1, 16, none⟩)) (.pointer (some ⟨b1, 16, none⟩)) rfl (by kernel_rfl) (by kernel_rfl) (by kernel_rfl) ?_
  refine from_load (some 119) 25 (.tmp 118) ⟨b1, 16, none⟩ (.slice A.s c.shut.length A.ps) (by kernel_rfl) (by kernel_rfl) (by kernel_rfl) (by kernel_rfl) (ld25 _ _ _ (h1.row.cell (i := 16) (by omega))) ?_
  refine from_val (some 120) (.pointer (some ⟨b2, 16, none⟩)) (.pointer (some ⟨b2, 16, none⟩)) rfl (by kernel_rfl) (by kernel_rfl) (by kernel_rfl) ?_
  refine from_load (some 121) 25 (.tmp 120) ⟨b2, 16, none⟩ (.slice U.s c.shut.length U.ps) (by kernel_rfl) (by kernel_rfl) (by kernel_rfl) (by kernel_rfl) (ld25 _ _ _ (h2.row.cell (i := 16) (by omega))) ?_
  refine from_enter (some 122) 38 #[.slice A.s c.shut.length A.ps, .slice U.s c.shut.length U.ps] (by kernel_rfl) (by kernel_rfl) (by kernel_rfl) (lwInts_any A.s U.s c.shut.length A.ps U.ps c.shut _ rfl h1.at'.s h2.at'.s) ?_
  rintro e W7 ⟨rfl, hb⟩
  have h1 := h1.on hb; have h2 := h2.on hb; have hB := hB.trans (hb.mono hB.size)
  refine ⟨_, rfl, ?_⟩
  clear hb
  refine from_eq (a' := ⟨(v0 :: v1 :: .pointer (some ⟨b1, 0, none⟩) :: .pointer (some ⟨b2, 0, none⟩) :: v4 :: v5 :: .slice (some ⟨g6, 0, none⟩) 11 11 :: .slice (some ⟨g7, 0, none⟩) 11 11 :: v8 :: v9 :: v10 :: v11 :: v12 :: v13 :: v14 :: v15 :: v16 :: v17 :: v18 :: v19 :: v20 :: v21 :: v22 :: v23 :: v24 :: v25 :: v26 :: v27 :: v28 :: v29 :: v30 :: v31 :: v32 :: v33 :: v34 :: v35 :: v36 :: v37 :: v38 :: v39 :: v40 :: v41 :: v42 :: v43 :: v44 :: v45 :: v46 :: v47 :: v48 :: v49 :: v50 :: v51 :: v52 :: v53 :: v54 :: v55 :: v56 :: v57 :: v58 :: v59 :: v60 :: v61 :: v62 :: v63 :: v64 :: v65 :: v66 :: v67 :: v68 :: v69 :: v70 :: v71 :: v72 :: v73 :: v74 :: v75 :: v76 :: v77 :: v78 :: .slice (some ⟨g6, 0, none⟩) 11 11 :: .slice (some ⟨g7, 0, none⟩) 11 11 :: .bool true :: .bool true :: .pointer (some ⟨b1, 5, none⟩) :: .slice A.q c.queue.length A.pq :: .pointer (some ⟨b2, 5, none⟩) :: .slice U.q c.queue.length U.pq :: .bool true :: .bool true :: .bool true :: .pointer (some ⟨b1, 8, none⟩) :: .slice A.r c.results.length A.pr :: .pointer (some ⟨b2, 8, none⟩) :: .slice U.r c.results.length U.pr :: .bool true :: .bool true :: .bool true :: .pointer (some ⟨b1, 10, none⟩) :: .slice A.g c.ring.length A.pg :: .pointer (some ⟨b2, 10, none⟩) :: .slice U.g c.ring.length U.pg :: .bool true :: .bool true :: .bool true :: .pointer (some ⟨b1, 12, none⟩) :: .slice A.o c.out.length A.po :: .pointer (some ⟨b2, 12, none⟩) :: .slice U.o c.out.length U.po :: .bool true :: .bool true :: .bool true :: .pointer (some ⟨b1, 14, none⟩) :: .slice A.t c.got.length A.pt :: .pointer (some ⟨b2, 14, none⟩) :: .slice U.t c.got.length U.pt :: .bool true :: .bool true :: .bool true :: .pointer (some ⟨b1, 16, none⟩) :: .slice A.s c.shut.length A.ps :: .pointer (some ⟨b2, 16, none⟩) :: .slice U.s c.shut.length U.ps :: .bool true :: undef :: []).toArray, []⟩) (by kernel_rfl) ?_
  refine from_val (some 123) (.bool true) (.bool true) rfl (by kernel_rfl) (by kernel_rfl) (by kernel_rfl) ?_
  refine from_val (some 4) (.bool true) (.bool true) rfl (by kernel_rfl) (by kernel_rfl) (by kernel_rfl) ?_
  refine from_eq (a' := ⟨(v0 :: v1 :: .pointer (some ⟨b1, 0, none⟩) :: .pointer (some ⟨b2, 0, none⟩) :: .bool true :: v5 :: .slice (some ⟨g6, 0, none⟩) 11 11 :: .slice (some ⟨g7, 0, none⟩) 11 11 :: v8 :: v9 :: v10 :: v11 :: v12 :: v13 :: v14 :: v15 :: v16 :: v17 :: v18 :: v19 :: v20 :: v21 :: v22 :: v23 :: v24 :: v25 :: v26 :: v27 :: v28 :: v29 :: v30 :: v31 :: v32 :: v33 :: v34 :: v35 :: v36 :: v37 :: v38 :: v39 :: v40 :: v41 :: v42 :: v43 :: v44 :: v45 :: v46 :: v47 :: v48 :: v49 :: v50 :: v51 :: v52 :: v53 :: v54 :: v55 :: v56 :: v57 :: v58 :: v59 :: v60 :: v61 :: v62 :: v63 :: v64 :: v65 :: v66 :: v67 :: v68 :: v69 :: v70 :: v71 :: v72 :: v73 :: v74 :: v75 :: v76 :: v77 :: v78 :: .slice (some ⟨g6, 0, none⟩) 11 11 :: .slice (some ⟨g7, 0, none⟩) 11 11 :: .bool true :: .bool true :: .pointer (some ⟨b1, 5, none⟩) :: .slice A.q c.queue.length A.pq :: .pointer (some ⟨b2, 5, none⟩) :: .slice U.q c.queue.length U.pq :: .bool true :: .bool true :: .bool true :: .pointer (some ⟨b1, 8, none⟩) :: .slice A.r c.results.length A.pr :: .pointer (some ⟨b2, 8, none⟩) :: .slice U.r c.results.length U.pr :: .bool true :: .bool true :: .bool true :: .pointer (some ⟨b1, 10, none⟩) :: .slice A.g c.ring.length A.pg :: .pointer (some ⟨b2, 10, none⟩) :: .slice U.g c.ring.length U.pg :: .bool true :: .bool true :: .bool true :: .pointer (some ⟨b1, 12, none⟩) :: .slice A.o c.out.length A.po :: .pointer (some ⟨b2, 12, none⟩) :: .slice U.o c.out.length U.po :: .bool true :: .bool true :: .bool true :: .pointer (some ⟨b1, 14, none⟩) :: .slice A.t c.got.length A.pt :: .pointer (some ⟨b2, 14, none⟩) :: .slice U.t c.got.length U.pt :: .bool true :: .bool true :: .bool true :: .pointer (some ⟨b1, 16, none⟩) :: .slice A.s c.shut.length A.ps :: .pointer (some ⟨b2, 16, none⟩) :: .slice U.s c.shut.length U.ps :: .bool true :: .bool true :: []).toArray, []⟩) (by kernel_rfl) ?_
  exact from_end (by kernel_rfl) (hend _ _ (by kernel_rfl) (by kernel_rfl) hB)
theorem ZAt.alloc (W : World) (zs : List Int) (cs : Array Value) (T : TypeId) (hc : cs = (zs.map (Value.int .i64)).toArray) (hl : zs.length ≤ 1000) : ZAt (fun b => b = W.heap.size) (W.alloc (.cells cs T)) (.slice (some ⟨W.heap.size, 0, none⟩) zs.length zs.length) zs := by
  subst hc
  refine ⟨_, _, by rw [List.length_map], by rw [List.length_map]; omega, fun i hi => ⟨W.heap.size, 0, rfl, rfl, fun j hj => ?_⟩⟩
  rw [List.length_map] at hi
  obtain rfl : j = 0 := by omega
  have hr := World.rowIs_alloc W (zs.map (Value.int .i64)).toArray T (fun i => .int .i64 (zs.getD i 0)) (fun i hi => by
    have hi' : i < zs.length := by simpa using hi
    simp [hi', List.getD])
  have := hr.cell (i := i) (by simpa using hi)
  rw [Nat.zero_add, Nat.add_zero, Nat.mul_one, this, List.getElem_map, List.getD_eq_getElem?_getD, List.getElem?_eq_getElem hi]
  rfl
set_option maxRecDepth 100000 in
set_option maxHeartbeats 12800000 in
theorem lwWorld_any (c : Cw) (A U : A7) (P1 P2 : Nat → Prop) (w : World) (h : CwAt P1 w c (A.v c)) (hu : CwAt P2 w c (U.v c)) (hP1 : ∀ b, P1 b → b < w.heap.size) (hP2 : ∀ b, P2 b → b < w.heap.size) : Calls Try.prog 12 #[.agg #[.int .i64 c.jobs, .int .i64 c.workers, .int .i64 c.window, .int .i64 c.next, .int .i64 c.reader, .slice A.q c.queue.length A.pq, .slice A.h c.hands.length A.ph, .int .i64 c.closer, .slice A.r c.results.length A.pr, .int .i64 c.keeper, .slice A.g c.ring.length A.pg, .int .i64 c.due, .slice A.o c.out.length A.po, .int .i64 c.user, .slice A.t c.got.length A.pt, .int .i64 c.room, .slice A.s c.shut.length A.ps, .int .i64 c.ops], .agg #[.int .i64 c.jobs, .int .i64 c.workers, .int .i64 c.window, .int .i64 c.next, .int .i64 c.reader, .slice U.q c.queue.length U.pq, .slice U.h c.hands.length U.ph, .int .i64 c.closer, .slice U.r c.results.length U.pr, .int .i64 c.keeper, .slice U.g c.ring.length U.pg, .int .i64 c.due, .slice U.o c.out.length U.po, .int .i64 c.user, .slice U.t c.got.length U.pt, .int .i64 c.room, .slice U.s c.shut.length U.ps, .int .i64 c.ops]] w fun e w' => e = .returned (.bool true) ∧ Below w.heap.size w w' := by
  have hbb : Below w.heap.size w ((w.alloc (.cells #[.int .i64 c.jobs, .int .i64 c.workers, .int .i64 c.window, .int .i64 c.next, .int .i64 c.reader, .slice A.q c.queue.length A.pq, .slice A.h c.hands.length A.ph, .int .i64 c.closer, .slice A.r c.results.length A.pr, .int .i64 c.keeper, .slice A.g c.ring.length A.pg, .int .i64 c.due, .slice A.o c.out.length A.po, .int .i64 c.user, .slice A.t c.got.length A.pt, .int .i64 c.room, .slice A.s c.shut.length A.ps, .int .i64 c.ops] 28)).alloc (.cells #[.int .i64 c.jobs, .int .i64 c.workers, .int .i64 c.window, .int .i64 c.next, .int .i64 c.reader, .slice U.q c.queue.length U.pq, .slice U.h c.hands.length U.ph, .int .i64 c.closer, .slice U.r c.results.length U.pr, .int .i64 c.keeper, .slice U.g c.ring.length U.pg, .int .i64 c.due, .slice U.o c.out.length U.po, .int .i64 c.user, .slice U.t c.got.length U.pt, .int .i64 c.room, .slice U.s c.shut.length U.ps, .int .i64 c.ops] 28)) := ((Below.refl _ _).alloc (Nat.le_refl _) _).alloc (by simp) _
  have r1 : (w.alloc (.cells #[.int .i64 c.jobs, .int .i64 c.workers, .int .i64 c.window, .int .i64 c.next, .int .i64 c.reader, .slice A.q c.queue.length A.pq, .slice A.h c.hands.length A.ph, .int .i64 c.closer, .slice A.r c.results.length A.pr, .int .i64 c.keeper, .slice A.g c.ring.length A.pg, .int .i64 c.due, .slice A.o c.out.length A.po, .int .i64 c.user, .slice A.t c.got.length A.pt, .int .i64 c.room, .slice A.s c.shut.length A.ps, .int .i64 c.ops] 28)).rowIs w.heap.size 28 18 (r18 [.int .i64 c.jobs, .int .i64 c.workers, .int .i64 c.window, .int .i64 c.next, .int .i64 c.reader, .slice A.q c.queue.length A.pq, .slice A.h c.hands.length A.ph, .int .i64 c.closer, .slice A.r c.results.length A.pr, .int .i64 c.keeper, .slice A.g c.ring.length A.pg, .int .i64 c.due, .slice A.o c.out.length A.po, .int .i64 c.user, .slice A.t c.got.length A.pt, .int .i64 c.room, .slice A.s c.shut.length A.ps, .int .i64 c.ops]) := box18 w c (A.v c) 28
  have r2 : ((w.alloc (.cells #[.int .i64 c.jobs, .int .i64 c.workers, .int .i64 c.window, .int .i64 c.next, .int .i64 c.reader, .slice A.q c.queue.length A.pq, .slice A.h c.hands.length A.ph, .int .i64 c.closer, .slice A.r c.results.length A.pr, .int .i64 c.keeper, .slice A.g c.ring.length A.pg, .int .i64 c.due, .slice A.o c.out.length A.po, .int .i64 c.user, .slice A.t c.got.length A.pt, .int .i64 c.room, .slice A.s c.shut.length A.ps, .int .i64 c.ops] 28)).alloc (.cells #[.int .i64 c.jobs, .int .i64 c.workers, .int .i64 c.window, .int .i64 c.next, .int .i64 c.reader, .slice U.q c.queue.length U.pq, .slice U.h c.hands.length U.ph, .int .i64 c.closer, .slice U.r c.results.length U.pr, .int .i64 c.keeper, .slice U.g c.ring.length U.pg, .int .i64 c.due, .slice U.o c.out.length U.po, .int .i64 c.user, .slice U.t c.got.length U.pt, .int .i64 c.room, .slice U.s c.shut.length U.ps, .int .i64 c.ops] 28)).rowIs (w.alloc (.cells #[.int .i64 c.jobs, .int .i64 c.workers, .int .i64 c.window, .int .i64 c.next, .int .i64 c.reader, .slice A.q c.queue.length A.pq, .slice A.h c.hands.length A.ph, .int .i64 c.closer, .slice A.r c.results.length A.pr, .int .i64 c.keeper, .slice A.g c.ring.length A.pg, .int .i64 c.due, .slice A.o c.out.length A.po, .int .i64 c.user, .slice A.t c.got.length A.pt, .int .i64 c.room, .slice A.s c.shut.length A.ps, .int .i64 c.ops] 28)).heap.size 28 18 (r18 [.int .i64 c.jobs, .int .i64 c.workers, .int .i64 c.window, .int .i64 c.next, .int .i64 c.reader, .slice U.q c.queue.length U.pq, .slice U.h c.hands.length U.ph, .int .i64 c.closer, .slice U.r c.results.length U.pr, .int .i64 c.keeper, .slice U.g c.ring.length U.pg, .int .i64 c.due, .slice U.o c.out.length U.po, .int .i64 c.user, .slice U.t c.got.length U.pt, .int .i64 c.room, .slice U.s c.shut.length U.ps, .int .i64 c.ops]) := box18 _ c (U.v c) 28
  rw [World.size_alloc] at r2
  have HB1 := hide (show Bc 28 P1 w.heap.size c A _ from ⟨r1.alloc (.cells #[.int .i64 c.jobs, .int .i64 c.workers, .int .i64 c.window, .int .i64 c.next, .int .i64 c.reader, .slice U.q c.queue.length U.pq, .slice U.h c.hands.length U.ph, .int .i64 c.closer, .slice U.r c.results.length U.pr, .int .i64 c.keeper, .slice U.g c.ring.length U.pg, .int .i64 c.due, .slice U.o c.out.length U.po, .int .i64 c.user, .slice U.t c.got.length U.pt, .int .i64 c.room, .slice U.s c.shut.length U.ps, .int .i64 c.ops] 28), h.carry (fun b hb => hbb.block b (hP1 b hb)) (fun _ h => h), fun x hx => Nat.lt_of_lt_of_le (hP1 x hx) hbb.size⟩)
  have HB2 := hide (show Bc 28 P2 (w.heap.size + 1) c U _ from ⟨r2, hu.carry (fun b hb => hbb.block b (hP2 b hb)) (fun _ h => h), fun x hx => Nat.lt_of_lt_of_le (hP2 x hx) hbb.size⟩)
  have HB := hide hbb
  clear h hu hP1 hP2 hbb r1 r2
  go_enter Try.func12, Try.ntmps12
  go_upto_region 1 with fail
  generalize (w.alloc (.cells #[.int .i64 c.jobs, .int .i64 c.workers, .int .i64 c.window, .int .i64 c.next, .int .i64 c.reader, .slice A.q c.queue.length A.pq, .slice A.h c.hands.length A.ph, .int .i64 c.closer, .slice A.r c.results.length A.pr, .int .i64 c.keeper, .slice A.g c.ring.length A.pg, .int .i64 c.due, .slice A.o c.out.length A.po, .int .i64 c.user, .slice A.t c.got.length A.pt, .int .i64 c.room, .slice A.s c.shut.length A.ps, .int .i64 c.ops] 28)).alloc (.cells #[.int .i64 c.jobs, .int .i64 c.workers, .int .i64 c.window, .int .i64 c.next, .int .i64 c.reader, .slice U.q c.queue.length U.pq, .slice U.h c.hands.length U.ph, .int .i64 c.closer, .slice U.r c.results.length U.pr, .int .i64 c.keeper, .slice U.g c.ring.length U.pg, .int .i64 c.due, .slice U.o c.out.length U.po, .int .i64 c.user, .slice U.t c.got.length U.pt, .int .i64 c.room, .slice U.s c.shut.length U.ps, .int .i64 c.ops] 28) = W0 at HB1 HB2 HB ⊢
  generalize w.heap.size + 1 = b2 at HB2 ⊢
  obtain ⟨b1, hb1⟩ : ∃ b, b = w.heap.size := ⟨_, rfl⟩
  have HE1 := hide hb1
  rw [← hb1] at HB1 ⊢
  clear hb1
  have x6 : ∀ m, (W0.drewN m).cell? ⟨b1, 6, none⟩ = some (.slice A.h c.hands.length A.ph) := fun m => (unhide HB1).row.cell (i := 6) (by omega)
  have y6 : ∀ m, (W0.drewN m).cell? ⟨b2, 6, none⟩ = some (.slice U.h c.hands.length U.ph) := fun m => (unhide HB2).row.cell (i := 6) (by omega)
  have x60 : W0.cell? ⟨b1, 6, none⟩ = some (.slice A.h c.hands.length A.ph) := x6 0
  have y60 : W0.cell? ⟨b2, 6, none⟩ = some (.slice U.h c.hands.length U.ph) := y6 0
  have hne : ((c.hands.length : Int) != (c.hands.length : Int)) = false := by simp
  obtain ⟨_, _, -, hhl, -⟩ := (unhide HB1).at'.h.open
  go_wp2_with fail
  clear hne x60 y60
  go_loopw [5] (fun i wr => ∃ (k m : Nat), k ≤ c.hands.length ∧ i = .int .i64 k ∧ wr = W0.drewN m) (fun i _ => c.hands.length - (intOf i).toNat)
  case atStart => exact ⟨0, 0, Nat.zero_le _, rfl, rfl⟩
  case round =>
    obtain ⟨k, m, hk, rfl, hwr⟩ := hrel
    subst hwr
    by_cases hlt : k < c.hands.length
    · obtain ⟨a1, p1, q1, -, hc1⟩ := (unhide HB1).at'.h.open
      obtain ⟨a2, p2, q2, -, hc2⟩ := (unhide HB2).at'.h.open
      simp only [A7.v, Value.slice.injEq] at q1 q2
      obtain ⟨q1, -, -⟩ := q1
      obtain ⟨q2, -, -⟩ := q2
      obtain ⟨b, o, e, -, e0, e1⟩ := hc1 k hlt
      obtain ⟨b', o', e', -, e0', e1'⟩ := hc2 k hlt
      rw [q1, e] at x6
      rw [q2, e'] at y6
      have f0 : ∀ j, (W0.drewN j).cell? ⟨b, o + k * 2, none⟩ = some (.int .i64 c.hands[k].state) := fun _ => e0
      have f1 : ∀ j, (W0.drewN j).cell? ⟨b, o + k * 2 + 1, none⟩ = some (.int .i64 c.hands[k].job) := fun _ => e1
      have g0 : ∀ j, (W0.drewN j).cell? ⟨b', o' + k * 2, none⟩ = some (.int .i64 c.hands[k].state) := fun _ => e0'
      have g1 : ∀ j, (W0.drewN j).cell? ⟨b', o' + k * 2 + 1, none⟩ = some (.int .i64 c.hands[k].job) := fun _ => e1'
      have hgd := fun x y W => gHand x y c.hands[k].state c.hands[k].job c.hands[k].state c.hands[k].job W
      have hnn := fun W => nHand c.hands[k].state c.hands[k].job W
      clear hc1 hc2 e0 e1 e0' e1' q1 q2 e e'
      generalize c.hands[k].state = zs at *
      generalize c.hands[k].job = zj at *
      go_wp2_with fail
      go_quiet (fail)
      go_wp2_with fail
      go_roundw
      case rel => exact ⟨k + 1, _, by omega, by go_num, by first | rfl | trivial⟩
      case measure => simp [intOf]; omega
    · obtain rfl : k = c.hands.length := by omega
      have HW1 := hide ((unhide HB1).on (below_drewN W0 m)); have HW2 := hide ((unhide HB2).on (below_drewN W0 m)); have HBB := hide ((unhide HB).trans ((below_drewN W0 m).mono (unhide HB).size))
      have l6 := x6 m
      clear HB1 HB2 HB x6 y6 hlt hk hhl
      generalize W0.drewN m = W1 at HW1 HW2 HBB l6 ⊢
      have k10 : W1.cell? ⟨b1, 0, none⟩ = some (.int .i64 c.jobs) := (unhide HW1).row.cell (i := 0) (by omega)
      have k11 : W1.cell? ⟨b1, 1, none⟩ = some (.int .i64 c.workers) := (unhide HW1).row.cell (i := 1) (by omega)
      have k12 : W1.cell? ⟨b1, 2, none⟩ = some (.int .i64 c.window) := (unhide HW1).row.cell (i := 2) (by omega)
      have k13 : W1.cell? ⟨b1, 3, none⟩ = some (.int .i64 c.next) := (unhide HW1).row.cell (i := 3) (by omega)
      have k14 : W1.cell? ⟨b1, 4, none⟩ = some (.int .i64 c.reader) := (unhide HW1).row.cell (i := 4) (by omega)
      have k17 : W1.cell? ⟨b1, 7, none⟩ = some (.int .i64 c.closer) := (unhide HW1).row.cell (i := 7) (by omega)
      have k19 : W1.cell? ⟨b1, 9, none⟩ = some (.int .i64 c.keeper) := (unhide HW1).row.cell (i := 9) (by omega)
      have k111 : W1.cell? ⟨b1, 11, none⟩ = some (.int .i64 c.due) := (unhide HW1).row.cell (i := 11) (by omega)
      have k113 : W1.cell? ⟨b1, 13, none⟩ = some (.int .i64 c.user) := (unhide HW1).row.cell (i := 13) (by omega)
      have k115 : W1.cell? ⟨b1, 15, none⟩ = some (.int .i64 c.room) := (unhide HW1).row.cell (i := 15) (by omega)
      have k117 : W1.cell? ⟨b1, 17, none⟩ = some (.int .i64 c.ops) := (unhide HW1).row.cell (i := 17) (by omega)
      have k20 : W1.cell? ⟨b2, 0, none⟩ = some (.int .i64 c.jobs) := (unhide HW2).row.cell (i := 0) (by omega)
      have k21 : W1.cell? ⟨b2, 1, none⟩ = some (.int .i64 c.workers) := (unhide HW2).row.cell (i := 1) (by omega)
      have k22 : W1.cell? ⟨b2, 2, none⟩ = some (.int .i64 c.window) := (unhide HW2).row.cell (i := 2) (by omega)
      have k23 : W1.cell? ⟨b2, 3, none⟩ = some (.int .i64 c.next) := (unhide HW2).row.cell (i := 3) (by omega)
      have k24 : W1.cell? ⟨b2, 4, none⟩ = some (.int .i64 c.reader) := (unhide HW2).row.cell (i := 4) (by omega)
      have k27 : W1.cell? ⟨b2, 7, none⟩ = some (.int .i64 c.closer) := (unhide HW2).row.cell (i := 7) (by omega)
      have k29 : W1.cell? ⟨b2, 9, none⟩ = some (.int .i64 c.keeper) := (unhide HW2).row.cell (i := 9) (by omega)
      have k211 : W1.cell? ⟨b2, 11, none⟩ = some (.int .i64 c.due) := (unhide HW2).row.cell (i := 11) (by omega)
      have k213 : W1.cell? ⟨b2, 13, none⟩ = some (.int .i64 c.user) := (unhide HW2).row.cell (i := 13) (by omega)
      have k215 : W1.cell? ⟨b2, 15, none⟩ = some (.int .i64 c.room) := (unhide HW2).row.cell (i := 15) (by omega)
      have k217 : W1.cell? ⟨b2, 17, none⟩ = some (.int .i64 c.ops) := (unhide HW2).row.cell (i := 17) (by omega)
      go_upto_region 9 with fail
      clear l6 k10 k11 k12 k13 k14 k17 k19 k111 k113 k115 k117
      have HZ6 := hide (ZAt.alloc W1 [c.jobs, c.workers, c.window, c.next, c.reader, c.closer, c.keeper, c.due, c.user, c.room, c.ops] #[.int .i64 c.jobs, .int .i64 c.workers, .int .i64 c.window, .int .i64 c.next, .int .i64 c.reader, .int .i64 c.closer, .int .i64 c.keeper, .int .i64 c.due, .int .i64 c.user, .int .i64 c.room, .int .i64 c.ops] 3 rfl (by simp))
      have ha1 : Below W1.heap.size W1 (W1.alloc (.cells #[.int .i64 c.jobs, .int .i64 c.workers, .int .i64 c.window, .int .i64 c.next, .int .i64 c.reader, .int .i64 c.closer, .int .i64 c.keeper, .int .i64 c.due, .int .i64 c.user, .int .i64 c.room, .int .i64 c.ops] 3)) := (Below.refl _ _).alloc (Nat.le_refl _) _
      have HV1 := hide ((unhide HW1).on ha1); have HV2 := hide ((unhide HW2).on ha1); have HBC := hide ((unhide HBB).trans (ha1.mono (unhide HBB).size))
      clear ha1 HW1 HW2 HBB k20 k21 k22 k23 k24 k27 k29 k211 k213 k215 k217
      obtain ⟨g6, hg6⟩ : ∃ g, g = W1.heap.size := ⟨_, rfl⟩
      have HG6 := hide hg6
      rw [← hg6] at HZ6 ⊢
      clear hg6
      have HG62 := hide (show g6 < (W1.alloc (.cells #[.int .i64 c.jobs, .int .i64 c.workers, .int .i64 c.window, .int .i64 c.next, .int .i64 c.reader, .int .i64 c.closer, .int .i64 c.keeper, .int .i64 c.due, .int .i64 c.user, .int .i64 c.room, .int .i64 c.ops] 3)).heap.size from by rw [unhide HG6]; simp)
      generalize W1.alloc (.cells #[.int .i64 c.jobs, .int .i64 c.workers, .int .i64 c.window, .int .i64 c.next, .int .i64 c.reader, .int .i64 c.closer, .int .i64 c.keeper, .int .i64 c.due, .int .i64 c.user, .int .i64 c.room, .int .i64 c.ops] 3) = W2 at HZ6 HV1 HV2 HBC HG62 ⊢
      have k20 : W2.cell? ⟨b2, 0, none⟩ = some (.int .i64 c.jobs) := (unhide HV2).row.cell (i := 0) (by omega)
      have k21 : W2.cell? ⟨b2, 1, none⟩ = some (.int .i64 c.workers) := (unhide HV2).row.cell (i := 1) (by omega)
      have k22 : W2.cell? ⟨b2, 2, none⟩ = some (.int .i64 c.window) := (unhide HV2).row.cell (i := 2) (by omega)
      have k23 : W2.cell? ⟨b2, 3, none⟩ = some (.int .i64 c.next) := (unhide HV2).row.cell (i := 3) (by omega)
      have k24 : W2.cell? ⟨b2, 4, none⟩ = some (.int .i64 c.reader) := (unhide HV2).row.cell (i := 4) (by omega)
      have k27 : W2.cell? ⟨b2, 7, none⟩ = some (.int .i64 c.closer) := (unhide HV2).row.cell (i := 7) (by omega)
      have k29 : W2.cell? ⟨b2, 9, none⟩ = some (.int .i64 c.keeper) := (unhide HV2).row.cell (i := 9) (by omega)
      have k211 : W2.cell? ⟨b2, 11, none⟩ = some (.int .i64 c.due) := (unhide HV2).row.cell (i := 11) (by omega)
      have k213 : W2.cell? ⟨b2, 13, none⟩ = some (.int .i64 c.user) := (unhide HV2).row.cell (i := 13) (by omega)
      have k215 : W2.cell? ⟨b2, 15, none⟩ = some (.int .i64 c.room) := (unhide HV2).row.cell (i := 15) (by omega)
      have k217 : W2.cell? ⟨b2, 17, none⟩ = some (.int .i64 c.ops) := (unhide HV2).row.cell (i := 17) (by omega)
      go_upto_region 10 with fail
      clear k20 k21 k22 k23 k24 k27 k29 k211 k213 k215 k217
      have HZ7 := hide (ZAt.alloc W2 [c.jobs, c.workers, c.window, c.next, c.reader, c.closer, c.keeper, c.due, c.user, c.room, c.ops] #[.int .i64 c.jobs, .int .i64 c.workers, .int .i64 c.window, .int .i64 c.next, .int .i64 c.reader, .int .i64 c.closer, .int .i64 c.keeper, .int .i64 c.due, .int .i64 c.user, .int .i64 c.room, .int .i64 c.ops] 3 rfl (by simp))
      have ha2 : Below W2.heap.size W2 (W2.alloc (.cells #[.int .i64 c.jobs, .int .i64 c.workers, .int .i64 c.window, .int .i64 c.next, .int .i64 c.reader, .int .i64 c.closer, .int .i64 c.keeper, .int .i64 c.due, .int .i64 c.user, .int .i64 c.room, .int .i64 c.ops] 3)) := (Below.refl _ _).alloc (Nat.le_refl _) _
      have HY1 := hide ((unhide HV1).on ha2); have HY2 := hide ((unhide HV2).on ha2); have HBD := hide ((unhide HBC).trans (ha2.mono (unhide HBC).size))
      have HZ66 := hide ((unhide HZ6).carry (w' := W2.alloc (.cells #[.int .i64 c.jobs, .int .i64 c.workers, .int .i64 c.window, .int .i64 c.next, .int .i64 c.reader, .int .i64 c.closer, .int .i64 c.keeper, .int .i64 c.due, .int .i64 c.user, .int .i64 c.room, .int .i64 c.ops] 3)) (fun b hb => ha2.block b (by have := unhide HG62; rw [hb]; exact this)) (fun _ h => h))
      clear ha2 HV1 HV2 HBC HZ6
      generalize W2.alloc (.cells #[.int .i64 c.jobs, .int .i64 c.workers, .int .i64 c.window, .int .i64 c.next, .int .i64 c.reader, .int .i64 c.closer, .int .i64 c.keeper, .int .i64 c.due, .int .i64 c.user, .int .i64 c.room, .int .i64 c.ops] 3) = W3 at HZ66 HZ7 HY1 HY2 HBD ⊢
      refine wp_swap (c' := Code.region 10 lwOps false) (by kernel_rfl) ?_
      refine wp_region_from ?_
      refine lw10 c A U P1 P2 _ _ b1 b2 g6 W2.heap.size W3 _ (unhide HY1) (unhide HY2) (unhide HZ66) (unhide HZ7) ?_
      intro a' W' ha hd hb
      have HR := hide ((unhide HBD).trans (hb.mono (unhide HBD).size))
      clear hb
      obtain ⟨tm, df⟩ := a'
      simp only at hd
      subst hd
      have HA := hide (show tm.getD 4 undef = .bool true from ha)
      clear ha
      go_wp2_with fail
      refine bodyPost_ret (v := .bool true) ?_ rfl ⟨rfl, unhide HR⟩
      have := unhide HA
      rw [Array.getD_eq_getD_getElem?] at this
      simp [results, Try.results12, go_sem, this]
end Go.Proofs.Ytchbialjgcejgaa
