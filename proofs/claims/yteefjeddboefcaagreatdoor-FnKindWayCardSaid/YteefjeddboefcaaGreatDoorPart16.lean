/- A part. -/
import Derived.Test.YteefjeddboefcaaGreatDoorPart15
import Derived.Shelf.Spec.SearchS
import Derived.Shelf.Spec.SlicesGrow
import Derived.Handy
import Derived.Laws.EntriesVeiled
set_option maxRecDepth 100000
set_option maxHeartbeats 3200000
namespace Go.Proofs.YteefjeddboefcaaGreatDoor
open Go Go.RowKit
theorem kidZ_ok {k:Kd} {nm:ByteArray} (h:okD k=true) (h5:k.sort=5) (hm:nm∈k.names):okD (kidZ k nm)=true∧ksz (kidZ k nm) < ksz k:=⟨okD_mem h (kidZ_in h h5 hm),ksz_kid (kidZ_in h h5 hm)⟩
theorem fit_trans:∀ (m n:Nat) (a b c:Kd),okD a=true→okD b=true→okD c=true→ksz b≤n→ksz c≤m→fitF n a b=true→fitF m b c=true→fitF m a c=true
 | 0,_,_,_,c,_,_,_,_,h,_,_=>by have:=ksz_pos c;omega
 | m+1,0,_,b,_,_,_,_,h,_,_,_=>by have:=ksz_pos b;omega
 | m+1,n+1,a,b,c,hoa,hob,hoc,hnb,hmc,h1,h2=>by
   have sa:=okD_sh hoa
   have sb:=okD_sh hob
   have sc:=okD_sh hoc
   by_cases c6:c.sort=6
   · have hc0:0 < c.kids.length:=by rcases sc with h | h | h <;> omega
     have hzc:=ksz_kid (List.getElem_mem hc0)
     by_cases b6:b.sort=6
     · have hb0:0 < b.kids.length:=by rcases sb with h | h | h <;> omega
       have hzb:=ksz_kid (List.getElem_mem hb0)
       rw [fit_mm c6 b6 hb0 hc0] at h2
       by_cases a6:a.sort=6
       · have ha0:0 < a.kids.length:=by rcases sa with h | h | h <;> omega
         rw [fit_mm b6 a6 ha0 hb0] at h1
         rw [fit_mm c6 a6 ha0 hc0]
         exact fit_trans m n _ _ _ (okD_kid hoa 0 ha0) (okD_kid hob 0 hb0) (okD_kid hoc 0 hc0) (by omega) (by omega) h1 h2
       · rw [fit_xm b6 a6 hb0] at h1
         rw [fit_xm c6 a6 hc0]
         exact fit_trans m n _ _ _ hoa (okD_kid hob 0 hb0) (okD_kid hoc 0 hc0) (by omega) (by omega) h1 h2
     · have hab:a.sort=b.sort:=Classical.byContradiction fun h'=>by rw [fit_ne b6 h'] at h1;cases h1
       rw [fit_xm c6 b6 hc0] at h2
       rw [fit_xm c6 (by omega) hc0]
       exact fit_trans m (n+1) _ _ _ hoa hob (okD_kid hoc 0 hc0) (by omega) (by omega) h1 h2
   have hbc:b.sort=c.sort:=Classical.byContradiction fun h'=>by rw [fit_ne c6 h'] at h2;cases h2
   have b6:b.sort≠6:=by omega
   have hab:a.sort=b.sort:=Classical.byContradiction fun h'=>by rw [fit_ne b6 h'] at h1;cases h1
   by_cases c4:c.sort=4
   · have hc0:0 < c.kids.length:=by rcases sc with h | h | h <;> omega
     have hb0:0 < b.kids.length:=by rcases sb with h | h | h <;> omega
     have ha0:0 < a.kids.length:=by rcases sa with h | h | h <;> omega
     have hzc:=ksz_kid (List.getElem_mem hc0)
     have hzb:=ksz_kid (List.getElem_mem hb0)
     rw [fit_ll (by omega) (by omega) ha0 hb0] at h1
     rw [fit_ll c4 (by omega) hb0 hc0] at h2
     rw [fit_ll c4 (by omega) ha0 hc0]
     exact fit_trans m n _ _ _ (okD_kid hoa 0 ha0) (okD_kid hob 0 hb0) (okD_kid hoc 0 hc0) (by omega) (by omega) h1 h2
   by_cases c5:c.sort=5
   · obtain ⟨hla,hra⟩:=rise_names hoa (by omega)
     obtain ⟨hlb,hrb⟩:=rise_names hob (by omega)
     obtain ⟨hlc,hrc⟩:=rise_names hoc c5
     have f1:=fit_names hoa hob (by omega) (by omega) h1
     have u1:=uni_wider hoa hob (by omega) (by omega) h1
     have f2:=fit_names hob hoc (by omega) c5 h2
     have u2:=uni_wider hob hoc (by omega) c5 h2
     rw [u1] at f1
     rw [u2] at f2
     have hsab:∀ x,x∈a.names→x∈b.names:=fun x hx=>by rw [← u1];exact (uniN_mem x).2 (Or.inl hx)
     have hsbc:∀ x,x∈b.names→x∈c.names:=fun x hx=>by rw [← u2];exact (uniN_mem x).2 (Or.inl hx)
     rw [fit_union (by omega) c5 hla hlc (rise_nodup hra) (rise_nodup hrc) (fun k hk=>okD_ne (okD_mem hoa hk)) (fun k hk=>okD_ne (okD_mem hoc hk)) _ (fun nm=>uniN_mem nm),List.all_eq_true]
     intro nm hm
     have hmc:nm∈c.names:=by
      rcases (uniN_mem nm).1 hm with h | h
      · exact hsbc _ (hsab _ h)
      · exact h
     have hzc:=kidZ_ok hoc c5 hmc
     unfold pF
     by_cases hmb:nm∈b.names
     · have hzb:=kidZ_ok hob (by omega) hmb
       rcases (f2 nm hmc).2 with ⟨k2,-⟩ | ⟨-,-,k4⟩
       · exact absurd k2 (okD_ne hzb.1)
       rcases (f1 nm hmb).2 with ⟨j2,j3⟩ | ⟨j2,j3,j4⟩
       · rw [if_pos j2]
         obtain ⟨m',rfl⟩:∃ m',m=m'+1:=⟨m - 1,by have:=ksz_pos (kidZ c nm);omega⟩
         refine decide_eq_true (Classical.byContradiction fun h'=>?_)
         rw [fit_ne h' (by omega)] at k4
         cases k4
       · have hza:=kidZ_ok hoa (by omega) j3
         rw [if_neg j2,if_neg (okD_ne hzc.1)]
         exact fit_trans m n _ _ _ hza.1 hzb.1 hzc.1 (by omega) (by omega) j4 k4
     · have hma:nm∉a.names:=fun h=>hmb (hsab _ h)
       rw [if_pos (by rw [kidZ_none hma];rfl)]
       rcases (f2 nm hmc).2 with ⟨-,k3⟩ | ⟨-,k3,-⟩
       · exact decide_eq_true k3
       · exact absurd k3 hmb
   · have hz:a.kids.length=0∧a.names.length=0∧c.kids.length=0∧c.names.length=0:=by rcases sa with h | h | h <;> rcases sc with h' | h' | h' <;> omega
     exact fit_yes (n:=m) c6 (by omega) (by omega) (by omega) (by omega) (fun i hi=>by omega) (fun i hi=>by omega)
theorem wid_comp:∀ (m n:Nat) (a b c:Kd) (t:Tr),okD a=true→okD b=true→okD c=true→ksz b≤n→ksz c≤m→fitF n a b=true→fitF m b c=true→hT t a=true→okH t=true→widF m b c (widF n a b t)=widF m a c t
 | 0,_,_,_,c,_,_,_,_,_,h,_,_,_,_=>by have:=ksz_pos c;omega
 | m+1,0,_,b,_,_,_,_,_,h,_,_,_,_,_=>by have:=ksz_pos b;omega
 | m+1,n+1,a,b,c,t,hoa,hob,hoc,hnb,hmc,h1,h2,hh,hk=>by
   have sa:=okD_sh hoa
   have sb:=okD_sh hob
   have sc:=okD_sh hoc
   obtain ⟨e1,e2,e3⟩:=hT_open hh
   obtain ⟨e4,e5⟩:=okH_open hk
   have kid:∀ (x:Tr),x∈t.kids→a.sort≠5→(ha0:0 < a.kids.length)→hT x a.kids[0]=true∧okH x=true:=fun x hx h5 ha0=>by
    obtain ⟨i,hi,rfl⟩:=List.mem_iff_getElem.1 hx
    have:=e3 i hi
    rw [kidOf_else h5 i ha0] at this
    exact ⟨this,e5 i hi⟩
   by_cases c6:c.sort=6
   · have hc0:0 < c.kids.length:=by rcases sc with h | h | h <;> omega
     have hzc:=ksz_kid (List.getElem_mem hc0)
     by_cases b6:b.sort=6
     · have hb0:0 < b.kids.length:=by rcases sb with h | h | h <;> omega
       have hzb:=ksz_kid (List.getElem_mem hb0)
       rw [fit_mm c6 b6 hb0 hc0] at h2
       rw [widF_each (Or.inr ⟨b6,c6⟩) hb0 hc0]
       by_cases a6:a.sort=6
       · have ha0:0 < a.kids.length:=by rcases sa with h | h | h <;> omega
         rw [fit_mm b6 a6 ha0 hb0] at h1
         rw [widF_each (Or.inr ⟨a6,b6⟩) ha0 hb0,widF_each (Or.inr ⟨a6,c6⟩) ha0 hc0,kids_mk,List.map_map]
         show Tr.mk t.sort 0 ByteArray.empty [] _=_
         congr 1
         refine List.map_congr_left fun x hx=>?_
         obtain ⟨k1,k2⟩:=kid x hx (by omega) ha0
         exact wid_comp m n _ _ _ x (okD_kid hoa 0 ha0) (okD_kid hob 0 hb0) (okD_kid hoc 0 hc0) (by omega) (by omega) h1 h2 k1 k2
       · rw [fit_xm b6 a6 hb0] at h1
         rw [widF_into (okD_ne hoa) b6 a6 hb0,widF_into (okD_ne hoa) c6 a6 hc0,kids_mk]
         show Tr.mk 6 0 ByteArray.empty [] _=_
         congr 1
         simp only [List.map_cons,List.map_nil]
         rw [wid_comp m n _ _ _ t hoa (okD_kid hob 0 hb0) (okD_kid hoc 0 hc0) (by omega) (by omega) h1 h2 hh hk]
     · have hab:a.sort=b.sort:=Classical.byContradiction fun h'=>by rw [fit_ne b6 h'] at h1;cases h1
       rw [fit_xm c6 b6 hc0] at h2
       rw [widF_into (okD_ne hob) c6 b6 hc0,widF_into (okD_ne hoa) c6 (by omega) hc0]
       rw [wid_comp m (n+1) _ _ _ t hoa hob (okD_kid hoc 0 hc0) (by omega) (by omega) h1 h2 hh hk]
   have hbc:b.sort=c.sort:=Classical.byContradiction fun h'=>by rw [fit_ne c6 h'] at h2;cases h2
   have b6:b.sort≠6:=by omega
   have hab:a.sort=b.sort:=Classical.byContradiction fun h'=>by rw [fit_ne b6 h'] at h1;cases h1
   by_cases c4:c.sort=4
   · have hc0:0 < c.kids.length:=by rcases sc with h | h | h <;> omega
     have hb0:0 < b.kids.length:=by rcases sb with h | h | h <;> omega
     have ha0:0 < a.kids.length:=by rcases sa with h | h | h <;> omega
     have hzc:=ksz_kid (List.getElem_mem hc0)
     have hzb:=ksz_kid (List.getElem_mem hb0)
     rw [fit_ll (by omega) (by omega) ha0 hb0] at h1
     rw [fit_ll c4 (by omega) hb0 hc0] at h2
     rw [widF_each (Or.inl ⟨by omega,c4⟩) hb0 hc0,widF_each (Or.inl ⟨by omega,by omega⟩) ha0 hb0,widF_each (Or.inl ⟨by omega,c4⟩) ha0 hc0,kids_mk,List.map_map]
     show Tr.mk t.sort 0 ByteArray.empty [] _=_
     congr 1
     refine List.map_congr_left fun x hx=>?_
     obtain ⟨k1,k2⟩:=kid x hx (by omega) ha0
     exact wid_comp m n _ _ _ x (okD_kid hoa 0 ha0) (okD_kid hob 0 hb0) (okD_kid hoc 0 hc0) (by omega) (by omega) h1 h2 k1 k2
   by_cases c5:c.sort=5
   · obtain ⟨hla,hra⟩:=rise_names hoa (by omega)
     obtain ⟨hlb,hrb⟩:=rise_names hob (by omega)
     obtain ⟨hlc,hrc⟩:=rise_names hoc c5
     have f1:=fit_names hoa hob (by omega) (by omega) h1
     have u1:=uni_wider hoa hob (by omega) (by omega) h1
     have f2:=fit_names hob hoc (by omega) c5 h2
     have u2:=uni_wider hob hoc (by omega) c5 h2
     rw [u1] at f1
     rw [u2] at f2
     have hsab:∀ x,x∈a.names→x∈b.names:=fun x hx=>by rw [← u1];exact (uniN_mem x).2 (Or.inl hx)
     have hsbc:∀ x,x∈b.names→x∈c.names:=fun x hx=>by rw [← u2];exact (uniN_mem x).2 (Or.inl hx)
     have u3:uniN a.names c.names=c.names:=by
      have q1:=rise_sub c.names (uniN a.names c.names) (rise_pairs hrc) (uniN_rise _ _) (fun x hx=>by
       rcases (uniN_mem x).1 hx with h | h
       · exact hsbc _ (hsab _ h)
       · exact h)
      have q2:=rise_sub (uniN a.names c.names) c.names (uniN_rise _ _) (rise_pairs hrc) (fun x hx=>(uniN_mem x).2 (Or.inr hx))
      exact q1.eq_of_length_le q2.length_le
     rw [widF_form (by omega) c5,widF_form (by omega) (by omega),widF_form (by omega) c5,u1,u2,u3]
     congr 1
     refine List.map_congr_left fun nm hnc=>?_
     have hzc:=kidZ_ok hoc c5 hnc
     obtain ⟨m',rfl⟩:∃ m',m=m'+1:=⟨m - 1,by have:=ksz_pos (kidZ c nm);omega⟩
     by_cases hmb:nm∈b.names
     · have hzb:=kidZ_ok hob (by omega) hmb
       have hfl:fldZ (.mk 5 0 ByteArray.empty b.names (b.names.map fun nm=>widF n (kidZ a nm) (kidZ b nm) (fldZ t nm))) nm=widF n (kidZ a nm) (kidZ b nm) (fldZ t nm):=by
        obtain ⟨i,hi,e⟩:=List.mem_iff_getElem.1 hmb
        rw [fldZ_at (t:=.mk 5 0 ByteArray.empty b.names (b.names.map fun nm=>widF n (kidZ a nm) (kidZ b nm) (fldZ t nm))) (i:=i) (rise_pairs hrb) (by rw [kids_mk,List.length_map];rfl) hi e]
        simp only [kids_mk,List.getElem_map,e]
       rw [hfl]
       rcases (f2 nm hnc).2 with ⟨k2,-⟩ | ⟨-,-,k4⟩
       · exact absurd k2 (okD_ne hzb.1)
       rcases (f1 nm hmb).2 with ⟨j2,j3⟩ | ⟨j2,j3,j4⟩
       · obtain ⟨n',rfl⟩:∃ n',n=n'+1:=⟨n - 1,by have:=ksz_pos (kidZ b nm);omega⟩
         have hcs:(kidZ c nm).sort=6:=Classical.byContradiction fun h'=>by
          rw [fit_ne h' (by omega)] at k4
          cases k4
         rw [widF_zero j2,widF_zero j2]
         have hb0:0 < (kidZ b nm).kids.length:=by rcases okD_sh hzb.1 with h | h | h <;> omega
         have hc0:0 < (kidZ c nm).kids.length:=by rcases okD_sh hzc.1 with h | h | h <;> omega
         rw [widF_each (Or.inr ⟨j3,hcs⟩) hb0 hc0]
         rfl
       · have hza:=kidZ_ok hoa (by omega) j3
         rcases fld_has (by omega) hh hk hla nm with h | ⟨h7,h8⟩
         · exact absurd h j2
         · exact wid_comp (m'+1) n _ _ _ _ hza.1 hzb.1 hzc.1 (by omega) (by omega) j4 k4 h7 h8
     · have hma:nm∉a.names:=fun h=>hmb (hsab _ h)
       rw [widF_zero (by rw [kidZ_none hmb];rfl),widF_zero (by rw [kidZ_none hma];rfl)]
   · have l1:a.sort=1∨a.sort=2∨a.sort=3:=by rcases sc with h | h | h <;> omega
     rw [widF_leaf hab l1,widF_leaf hbc (by omega),widF_leaf (by omega) l1]
     rfl
theorem okHs_all:∀ (ks:List Tr),(∀ x,x∈ks→okH x=true)→okHs ks=true
 | [],_=>by rw [okHs]
 | t::r,h=>by
   rw [okHs,Bool.and_eq_true]
   exact ⟨h t (by simp),okHs_all r fun x hx=>h x (by simp [hx])⟩
theorem okH_mk {t:Tr} (h1:aloneB t=true) (h2:∀ x,x∈t.kids→okH x=true):okH t=true:=by
 rw [okH_eq,Bool.and_eq_true]
 exact ⟨h1,okHs_all _ h2⟩
theorem alone4 {ks:List Tr} (h:ks.length≤20):aloneB (.mk 4 0 ByteArray.empty [] ks)=true:=by
 unfold aloneB
 simp [Tr.sort,Tr.num,Tr.text,Tr.names,Tr.kids,h]
theorem alone6 {ks:List Tr} (h:ks.length≤1):aloneB (.mk 6 0 ByteArray.empty [] ks)=true:=by
 unfold aloneB
 simp [Tr.sort,Tr.num,Tr.text,Tr.names,Tr.kids,h]
theorem alone5 {ns:List ByteArray} {ks:List Tr} (h:ns.length=ks.length) (hr:riseB ns=true):aloneB (.mk 5 0 ByteArray.empty ns ks)=true:=by
 unfold aloneB
 simp [Tr.sort,Tr.num,Tr.text,Tr.names,Tr.kids,h,hr]
theorem alone_len {t:Tr} (h:aloneB t=true):(t.sort=4→t.kids.length≤20)∧(t.sort=6→t.kids.length≤1):=by
 refine ⟨fun h4=>(alone_open h).2.1 (by omega),fun h6=>?_⟩
 unfold aloneB at h
 rw [if_neg (by omega),if_neg (by omega),if_neg (by omega),if_neg (by omega),if_neg (by omega),if_pos h6] at h
 simp only [Bool.and_eq_true,decide_eq_true_eq] at h
 exact h.2
theorem wid_okH:∀ (n:Nat) (a b:Kd) (t:Tr),okD a=true→okD b=true→ksz b≤n→fitF n a b=true→hT t a=true→okH t=true→okH (widF n a b t)=true
 | 0,_,b,_,_,_,h,_,_,_=>by have:=ksz_pos b;omega
 | n+1,a,b,t,hoa,hob,hn,hf,hh,hk=>by
   have sa:=okD_sh hoa
   have sb:=okD_sh hob
   obtain ⟨e1,e2,e3⟩:=hT_open hh
   obtain ⟨e4,e5⟩:=okH_open hk
   by_cases hinto:b.sort=6∧a.sort≠6
   · have hk0:0 < b.kids.length:=by rcases sb with h | h | h <;> omega
     have hz:=ksz_kid (List.getElem_mem hk0)
     rw [fit_xm hinto.1 hinto.2 hk0] at hf
     rw [widF_into (okD_ne hoa) hinto.1 hinto.2 hk0]
     refine okH_mk (alone6 (by simp)) fun x hx=>?_
     rw [kids_mk,List.mem_singleton] at hx
     subst hx
     exact wid_okH n a _ t hoa (okD_kid hob 0 hk0) (by omega) hf hh hk
   have hab:a.sort=b.sort:=by
    by_cases h6:b.sort=6
    · exact Classical.byContradiction fun h'=>hinto ⟨h6,by omega⟩
    · exact Classical.byContradiction fun h'=>by rw [fit_ne h6 h'] at hf;cases hf
   by_cases h46:b.sort=4∨b.sort=6
   · have hk0:0 < b.kids.length:=by rcases sb with h | h | h <;> omega
     have hka:0 < a.kids.length:=by rcases sa with h | h | h <;> omega
     have hz:=ksz_kid (List.getElem_mem hk0)
     have hf':fitF n a.kids[0] b.kids[0]=true:=by
      rcases h46 with h | h
      · rwa [fit_ll h (by omega) hka hk0] at hf
      · rwa [fit_mm h (by omega) hka hk0] at hf
     rw [widF_each (by omega) hka hk0]
     have hal:aloneB (.mk t.sort 0 ByteArray.empty [] (t.kids.map (widF n a.kids[0] b.kids[0])))=true:=by
      rcases h46 with h | h
      · rw [show t.sort=4 by omega]
        exact alone4 (by rw [List.length_map];exact (alone_len e4).1 (by omega))
      · rw [show t.sort=6 by omega]
        exact alone6 (by rw [List.length_map];exact (alone_len e4).2 (by omega))
     refine okH_mk hal fun x hx=>?_
     rw [kids_mk,List.mem_map] at hx
     obtain ⟨y,hy,rfl⟩:=hx
     obtain ⟨i,hi,rfl⟩:=List.mem_iff_getElem.1 hy
     have:=e3 i hi
     rw [kidOf_else (by omega) i hka] at this
     exact wid_okH n _ _ _ (okD_kid hoa 0 hka) (okD_kid hob 0 hk0) (by omega) hf' this (e5 i hi)
   by_cases h5:b.sort=5
   · obtain ⟨hla,hra⟩:=rise_names hoa (by omega)
     obtain ⟨hlb,hrb⟩:=rise_names hob h5
     have hfn:=fit_names hoa hob (by omega) h5 hf
     have hu:=uni_wider hoa hob (by omega) h5 hf
     rw [widF_form (by omega) h5,hu]
     rw [hu] at hfn
     refine okH_mk (alone5 (by simp) hrb) fun x hx=>?_
     rw [kids_mk,List.mem_map] at hx
     obtain ⟨nm,hm,rfl⟩:=hx
     have hzb:=kidZ_ok hob h5 hm
     rcases (hfn nm hm).2 with ⟨k2,k3⟩ | ⟨k2,k3,k4⟩
     · obtain ⟨n',rfl⟩:∃ n',n=n'+1:=⟨n - 1,by have:=ksz_pos (kidZ b nm);omega⟩
       rw [widF_zero k2]
       exact okH_mk (alone6 (by simp)) fun x hx=>by simp [kids_mk] at hx
     · rcases fld_has (by omega) hh hk hla nm with h | ⟨h7,h8⟩
       · exact absurd h k2
       · exact wid_okH n _ _ _ (kidZ_ok hoa (by omega) k3).1 hzb.1 (by omega) k4 h7 h8
   · have l1:a.sort=1∨a.sort=2∨a.sort=3:=by rcases sb with h | h | h <;> omega
     have hnm:=hT_names hh hoa (by omega)
     have hkk:=alone_kids e4 (by omega)
     rw [widF_leaf hab l1]
     have e:Tr.mk t.sort t.num t.text [] []=t:=by
      conv=>rhs;rw [tr_eta t,hnm,hkk]
     rw [e]
     exact hk
theorem fitsD_trans {a b c:Kd} (h1:fitsD a b=true) (h2:fitsD b c=true):fitsD a c=true:=by
 obtain ⟨f1,f2,f3,f4,f5⟩:=fitsD_open h1
 obtain ⟨g1,g2,g3,g4,g5⟩:=fitsD_open h2
 unfold fitsD at h1 h2 ⊢
 rw [Bool.and_eq_true,Bool.and_eq_true] at h1 h2 ⊢
 exact ⟨⟨h1.1.1,h2.1.2⟩,fit_trans 40 40 a b c f1 f2 g2 f4 g4 f5 g5⟩
theorem hasA_tr0 (b:Kd):hasA b tr0=false:=by
 unfold hasA
 have h1:pT tr0 1=-1:=by
  rw [pT_eq]
  unfold tr0 aloneB
  simp [Tr.sort]
 rw [h1]
 simp
theorem wid_two {a b c:Kd} {t:Tr} (h1:fitsD a b=true) (h2:fitsD b c=true):widA b c (wAn (widA a b t))=widA a c t∧((widA a c t).isSome=true→(widA a b t).isSome=true):=by
 have h3:=fitsD_trans h1 h2
 obtain ⟨f1,f2,f3,f4,f5⟩:=fitsD_open h1
 obtain ⟨g1,g2,g3,g4,g5⟩:=fitsD_open h2
 by_cases hh:hasA a t=true
 · obtain ⟨k1,k2⟩:=hasA_open hh
   have hu1:=wid_has 40 a b t f1 f2 f4 f5 k1 k2
   have hu2:=wid_okH 40 a b t f1 f2 f4 f5 k1 k2
   have hc:=wid_comp 40 40 a b c t f1 f2 g2 f4 g4 f5 g5 k1 k2
   by_cases hp:0 < pT (widF 40 a b t) 1
   · have e:=widA_yes h1 hh hp
     rw [e]
     have hb:hasA b (widF 40 a b t)=true:=(widA_facts e).2.2.1
     refine ⟨?_,fun _=>rfl⟩
     show widA b c (widF 40 a b t)=_
     unfold widA
     rw [hc]
     by_cases hq:0 < pT (widF 40 a c t) 1
     · rw [if_pos ⟨h2,hb,hq⟩,if_pos ⟨h3,hh,hq⟩]
     · rw [if_neg (fun h=>hq h.2.2),if_neg (fun h=>hq h.2.2)]
   · have e:widA a b t=none:=widA_no3 hp
     have hq:¬ 0 < pT (widF 40 a c t) 1:=fun hq=>by
      have:=wid_more 40 b c _ f2 g2 g4 g5 hu1 hu2 1 (by rw [hc];omega)
      rcases pT_bd (widF 40 a b t) 1 with h | h <;> omega
     rw [e,widA_no3 hq]
     exact ⟨widA_no2 (hasA_tr0 b),fun h=>by cases h⟩
 · rw [widA_no2 (b:=b) (Bool.eq_false_iff.2 hh),widA_no2 (b:=c) (Bool.eq_false_iff.2 hh)]
   exact ⟨widA_no2 (hasA_tr0 b),fun h=>by cases h⟩
end Go.Proofs.YteefjeddboefcaaGreatDoor

namespace Go.Proofs.YteefjeddboefcaaGreatDoor
open Go Go.RowKit
structure L6 (w W:World) (k:Kd) (c:C3) (K:Nat) (m:Kd) (d:C3) (M:Nat) (t:Tr) (x:C5) (T:Nat):Prop where
 kb:KT6 w W k c K
 mb:KT6 w W m d M
 tb:TB6 w W t x T
theorem L6.on {w W W':World} {k:Kd} {c:C3} {K:Nat} {m:Kd} {d:C3} {M:Nat} {t:Tr} {x:C5} {T:Nat} (h:L6 w W k c K m d M t x T) (hb:Below W.heap.size W W'):L6 w W' k c K m d M t x T:=⟨h.kb.on hb,h.mb.on hb,h.tb.on hb⟩
theorem L6.start {w w1:World} {k m:Kd} {c d:C3} {t:Tr} {x:C5} (hb:Below w.heap.size w w1) (hk:KRep (fun y=>y < w1.heap.size) w1 k c) (hm:KRep (fun y=>y < w1.heap.size) w1 m d) (ht:Rep (fun y=>y < w1.heap.size) w1 t x) :
 L6 w (((w1.alloc (.cells #[c.c0,c.c1,c.c2] 26)).alloc (.cells #[d.c0,d.c1,d.c2] 26)).alloc (.cells #[x.c0,x.c1,x.c2,x.c3,x.c4] 29)) k c w1.heap.size m d (w1.heap.size+1) t x (w1.heap.size+2):=by
 have hz:∀ (W:World) (o:Obj),(W.alloc o).heap.size=W.heap.size+1:=fun W o=>by simp
 have hn:∀ (W:World) (o:Obj),Below W.heap.size W (W.alloc o):=fun W o=>(Below.refl _ _).alloc (Nat.le_refl _) o
 have h1:=hn w1 (.cells #[c.c0,c.c1,c.c2] 26)
 have h2:=hn (w1.alloc (.cells #[c.c0,c.c1,c.c2] 26)) (.cells #[d.c0,d.c1,d.c2] 26)
 have h3:=hn ((w1.alloc (.cells #[c.c0,c.c1,c.c2] 26)).alloc (.cells #[d.c0,d.c1,d.c2] 26)) (.cells #[x.c0,x.c1,x.c2,x.c3,x.c4] 29)
 have hM:=KT6.start (hb.trans (h1.mono hb.size)) (KRep.carry (w':=w1.alloc (.cells #[c.c0,c.c1,c.c2] 26)) (Q:=fun y=>y < (w1.alloc (.cells #[c.c0,c.c1,c.c2] 26)).heap.size) (fun y hy=>h1.block y hy) (fun y hy=>Nat.lt_of_lt_of_le hy h1.size) _ _ hm)
 rw [hz] at hM
 have h12:Below w1.heap.size w1 ((w1.alloc (.cells #[c.c0,c.c1,c.c2] 26)).alloc (.cells #[d.c0,d.c1,d.c2] 26)):=h1.trans (h2.mono h1.size)
 have hT:=TB6.start (hb.trans (h12.mono hb.size)) (Rep.carry (w':=(w1.alloc (.cells #[c.c0,c.c1,c.c2] 26)).alloc (.cells #[d.c0,d.c1,d.c2] 26)) (Q:=fun y=>y < ((w1.alloc (.cells #[c.c0,c.c1,c.c2] 26)).alloc (.cells #[d.c0,d.c1,d.c2] 26)).heap.size) (fun y hy=>h12.block y hy) (fun y hy=>Nat.lt_of_lt_of_le hy h12.size) _ _ ht)
 rw [hz,hz] at hT
 exact ⟨((KT6.start hb hk).on h2).on h3,hM.on h3,hT⟩
end Go.Proofs.YteefjeddboefcaaGreatDoor

namespace Go.Proofs.YteefjeddboefcaaGreatDoor
open Go Go.RowKit Go.Shelf
def bsRen:Go.Shelf.Ren:=⟨fun | 26=>96 | 33=>111 | 34=>112 | 38=>118 | n=>n,fun | 24=>23 | 40=>191 | n=>n,fun | n=>n⟩
theorem bsLay:Go.Proofs.Lays2.n26 Tryz.prog bsRen:={
 mixed:=by kernel_rfl
 f26:=Tryz.func96.trans (congrArg some (by kernel_rfl))
 f33:=Tryz.func111.trans (congrArg some (by kernel_rfl))
 f34:=Tryz.func112.trans (congrArg some (by kernel_rfl))
 f38:=Tryz.func118.trans (congrArg some (by kernel_rfl))
 t0:=Tryz.underlying0
 a0:=Tryz.isAgg0
 z0:=Tryz.sizeOf0
 v0:=Tryz.zeroValue0
 t3:=Tryz.underlying3
 a3:=Tryz.isAgg3
 z3:=Tryz.sizeOf3
 v3:=Tryz.zeroValue3
 t4:=Tryz.underlying4
 a4:=Tryz.isAgg4
 z4:=Tryz.sizeOf4
 v4:=Tryz.zeroValue4
 t9:=Tryz.underlying9
 a9:=Tryz.isAgg9
 z9:=Tryz.sizeOf9
 v9:=Tryz.zeroValue9
 t24:=Tryz.underlying23
 a24:=Tryz.isAgg23
 z24:=Tryz.sizeOf23
 v24:=Tryz.zeroValue23
 t40:=Tryz.underlying191
 a40:=Tryz.isAgg191
 z40:=Tryz.sizeOf191
 v40:=Tryz.zeroValue191 }
def grRen:Go.Shelf.Ren:=⟨fun | 4=>115 | n=>n,fun | 20=>20 | 22=>23 | 25=>9 | n=>n,fun | n=>n⟩
theorem grLay:Go.Proofs.Lays8.n4 Tryz.prog grRen:={
 mixed:=by kernel_rfl
 f4:=⟨"slices.Grow[[]string,string]", by kernel_rfl,Tryz.func115.trans (congrArg some (by kernel_rfl))⟩
 t0:=Tryz.underlying0
 a0:=Tryz.isAgg0
 z0:=Tryz.sizeOf0
 v0:=Tryz.zeroValue0
 t3:=Tryz.underlying3
 a3:=Tryz.isAgg3
 z3:=Tryz.sizeOf3
 v3:=Tryz.zeroValue3
 t4:=Tryz.underlying4
 a4:=Tryz.isAgg4
 z4:=Tryz.sizeOf4
 v4:=Tryz.zeroValue4
 t9:=Tryz.underlying9
 a9:=Tryz.isAgg9
 z9:=Tryz.sizeOf9
 v9:=Tryz.zeroValue9
 t20:=Tryz.underlying20
 a20:=Tryz.isAgg20
 z20:=Tryz.sizeOf20
 v20:=Tryz.zeroValue20
 t22:=Tryz.underlying23
 a22:=Tryz.isAgg23
 z22:=Tryz.sizeOf23
 v22:=Tryz.zeroValue23 }
end Go.Proofs.YteefjeddboefcaaGreatDoor

namespace Go.Proofs.YteefjeddboefcaaGreatDoor
open Go Go.RowKit
theorem own_capU {w:World} {base:Nat} {e:TypeId} {size:Nat} {a:Option Addr} {n m cap:Nat} {xs:List Value} (h:w.ownsRow base e size (.slice a n cap) m xs):n≤cap:=by
 rcases h.2 with ⟨hv,h0⟩ | ⟨g,c,u,hv,_,_,hle,_⟩
 · simp only [Value.slice.injEq] at hv;omega
 · simp only [Value.slice.injEq] at hv;omega
theorem own_formU {w:World} {base:Nat} {e:TypeId} {size:Nat} {v:Value} {n:Nat} {xs:List Value} (h:w.ownsRow base e size v n xs):∃ a cap,v=.slice a n cap:=by
 rcases h.2 with ⟨hv,h0⟩ | ⟨g,c,u,hv,_⟩
 · exact ⟨none,0,by rw [hv,h0]⟩
 · exact ⟨_,_,hv⟩
theorem append_listU {P:Program} (w:World) {ops:Array Oper} {rest:List Oper} {o:Oper} {a:Act} {Q:Exit→Act→World→Prop}
 (hg:o.guard=none) (s x:Operand) (t:TypeId) (hop:o.op=Op.call { callee:=Callee.builtin Builtin.append,args:=#[s,x],argTypes:=#[t,t] })
 (base:Nat) (e:TypeId) (i:TypeInfo) (z:Value) (size bytes:Nat) (h1:P.underlying t=some (.slice e)) (h2:P.info? e=some i) (h3:i.zero=some z) (h4:i.size=size) (h5:i.bytes=bytes) (h6:z.cells.size=size) (h7:0 < size)
 (a0:Option Addr) (n cap:Nat) (xs:List Value) (hs:a.eval s=.slice a0 n cap) (hown:Hid (w.ownsRow base e size (.slice a0 n cap) n xs))
 (ax:Option Addr) (m c:Nat) (ys:List Value) (hx:a.eval x=.slice ax m c) (hn:ys.length=m * size) (hc:0 < m→∃ ad,ax=some ad∧∀ j u,ys[j]? = some u→w.cell? (ad.add j)=some u) (h1c:∀ u∈ys,u.oneCell'=true)
 (b1:n+m≤maxLen) (b2:(n+m) * bytes≤140737488355328) (hbase:base≤w.heap.size) (k:Nat) (hk:n+m=k)
 (hK:∀ a' cap' w',Hid (w'.ownsRow base e size (.slice a' k cap') k (xs++ys))→Hid (w.grownBy w' (Value.slice a0 n cap).ownBlock)→wpList P ops Q rest (a.put o.dst (.slice a' k cap')) w') :
 wpList P ops Q (o::rest) a w:=by
 have hown:=xU hown
 subst hk
 rcases Nat.eq_zero_or_pos m with h0 | h0
 · subst h0
   have hys:ys=[]:=List.eq_nil_of_length_eq_zero (by rw [hn];omega)
   subst hys
   have hcap:n≤cap:=own_capU hown
   have hrun:∀ ty,(Builtin.append_ #[t,t] ty #[.slice a0 n cap,.slice ax 0 c]).run P w=.ok (.slice a0 n cap) w:=fun ty=>by
    cases a0 with
    | none=>cases ax <;> simp [Builtin.append_,run_underlying h1,sizeOf,typeInfo,h2,Builtin.lenOf,Builtin.firstCells,go_sem,hcap]
    | some a1=>cases ax <;> simp [Builtin.append_,run_underlying h1,sizeOf,typeInfo,h2,Builtin.lenOf,Builtin.firstCells,go_sem,hcap]
   refine wpList_plain hg fun K hKK=>?_
   unfold Oper.wp execOp
   simp only [hop,resolve,invoke,builtin,Sem.run_bind,Sem.run_pure,Result.andThen_ok,List.map_toArray,List.map_cons,List.map_nil,hs,hx,hrun]
   exact hKK _ _ (hK a0 cap w (by rw [Nat.add_zero,List.append_nil];exact hown) (World.grownBy.refl w _))
 · obtain ⟨ad,rfl,hcc⟩:=hc h0
   refine append_row w hg s x t hop base e i z size bytes h1 h2 h3 h4 h5 h6 h7 (.slice a0 n cap) n xs hs hown ad m c ys hx hn hcc h1c h0 b1 b2 hbase (fun v' w' r1 r2 _=>?_)
   obtain ⟨a',cap',rfl⟩:=own_formU r1
   exact hK _ cap' w' r1 r2
theorem infoStrU:(Tryz.prog.info? 9).map (fun i=>(i.zero,i.size,i.bytes))=some (some (.string ByteArray.empty),1,16):=by kernel_rfl
theorem infoStrV:∃ i,Tryz.prog.info? 9=some i∧i.zero=some (.string ByteArray.empty)∧i.size=1∧i.bytes=16:=by
 have:=infoStrU
 cases h:Tryz.prog.info? 9 with
 | none=>rw [h] at this;simp at this
 | some i=>rw [h] at this;exact ⟨i,rfl,by simpa using this⟩
theorem grow_nil (n:Nat) (hn:n≤2000) (w:World) :
 Calls Tryz.prog 115 #[.slice none 0 0,.int .i64 n] w fun e w'=>Below w.heap.size w w'∧∃ a cap,e=.returned (.slice a 0 cap)∧w'.ownsRow w.heap.size 9 1 (.slice a 0 cap) 0 []:=by
 obtain ⟨i,hi,hz,hs,hb⟩:=infoStrV
 rcases Nat.eq_zero_or_pos n with h0 | h0
 · subst h0
   refine (Any8.slices_Grow_room grLay none 0 0 0 w (by omega) (by omega) (by omega) (by omega)).mono ?_
   rintro e w' ⟨rfl,rfl⟩
   exact ⟨Below.refl _ _,none,0,rfl,World.ownsRow_nil _ _ _ _⟩
 · refine (Any8.slices_Grow_grow grLay i (.string ByteArray.empty) hi hz (by omega) none 0 0 n [] w (by omega) (by omega) (by rw [hb];omega) (by omega) (by simp) (fun _=>rfl) (fun a h=>by cases h)).mono ?_
   rintro e w' ⟨rfl,rfl⟩
   have hcap:=grownCap_ge w (0+n) 0 (grRen.t 25)
   have hcm:=grownCap_le_maxLen w (0+n) 0 (grRen.t 25) (by unfold maxLen;omega)
   refine ⟨((Below.refl _ _).drew).alloc (Nat.le_refl _) _,_,_,rfl,?_⟩
   generalize grownCap w (0+n) 0 (grRen.t 25)=cap at hcap hcm ⊢
   refine World.ownsRow_made (base:=w.heap.size) (e:=9) (size:=1) w.drew _ cap (Nat.le_refl _) hcm ?_
   have h1:(Value.string ByteArray.empty).cells.size=1:=rfl
   rw [Array.size_append,Array.size_append,size_zeroCells,size_zeroCells,h1]
   show 0+_+_=_
   omega
theorem strs_src {P:Nat→Prop} {w:World} {a:Option Addr} {n p:Nat} {ns:List ByteArray} (h:StrsAt P w (.slice a n p) ns):n=ns.length∧(0 < n→∃ ad,a=some ad∧∀ j u,(ns.map Value.string)[j]? = some u→w.cell? (ad.add j)=some u):=by
 obtain ⟨a',p',e,-,hc⟩:=h
 simp only [Value.slice.injEq] at e
 obtain ⟨rfl,rfl,rfl⟩:=e
 refine ⟨rfl,fun h0=>?_⟩
 obtain ⟨b,o,rfl,-,-⟩:=hc 0 h0
 refine ⟨_,rfl,fun j u hj=>?_⟩
 rw [List.getElem?_map] at hj
 obtain ⟨x,hx,rfl⟩:=Option.map_eq_some_iff.1 hj
 obtain ⟨hlt,rfl⟩:=List.getElem?_eq_some_iff.1 hx
 obtain ⟨b',o',e3,-,hcell,-⟩:=hc j hlt
 simp only [Option.some.injEq,Addr.mk.injEq,and_true] at e3
 obtain ⟨rfl,rfl⟩:=e3
 rw [Addr.add_lit]
 exact hcell
theorem strs_one (ns:List ByteArray):∀ u∈ns.map Value.string,u.oneCell'=true:=fun u hu=>by
 obtain ⟨x,-,rfl⟩:=List.mem_map.1 hu
 rfl
theorem concat_two (an bn:List ByteArray) (S:Nat) (a1 a2:Option Addr) (n1 n2 p1 p2:Nat) (w:World) (hS0:w.cell? ⟨S,0,none⟩=some (.slice a1 n1 p1)) (hS1:w.cell? ⟨S,1,none⟩=some (.slice a2 n2 p2)) (hSl:S < w.heap.size)
 (h1:StrsAt (fun b=>b < w.heap.size) w (.slice a1 n1 p1) an) (h2:StrsAt (fun b=>b < w.heap.size) w (.slice a2 n2 p2) bn) (hn1:n1≤1000) (hn2:n2≤1000) :
 Calls Tryz.prog 108 #[.slice (some ⟨S,0,none⟩) 2 2] w fun e w'=>Below w.heap.size w w'∧∃ a cap,e=.returned (.slice a (n1+n2) cap)∧w'.ownsRow w.heap.size 9 1 (.slice a (n1+n2) cap) (n1+n2) ((an++bn).map Value.string):=by
 have hm:maxLen=9223372036854775807:=rfl
 obtain ⟨i0,hi0,hi1,hi2,hi3⟩:=infoStrV
 have HI0:=xH hi0;have HI1:=xH hi1;have HI2:=xH hi2;have HI3:=xH hi3
 clear hi0 hi1 hi2 hi3
 have c1:¬ ((n1:Int) < 0):=by omega
 have c2:¬ ((n1:Int)+(n2:Int) < 0):=by omega
 have e1:IntKind.i64.wrap ((n1:Int)+(n2:Int))=(n1:Int)+(n2:Int):=by rw [IntKind.wrap_i64];omega
 have hgr:=grow_nil (n1+n2) (by omega) w
 rw [show (((n1+n2:Nat)):Int)=(n1:Int)+(n2:Int) by omega] at hgr
 have H1:=xH h1;have H2:=xH h2;have HSL:=xH hSl;have HN1:=xH hn1;have HN2:=xH hn2;have HM:=xH hm;have HGR:=xH hgr
 clear h1 h2 hm hgr
 go_enter Tryz.func108,Tryz.ntmps108
 go_wp2_with fail
 refine wp_loop_rounds 3 ?_
 rw [rounds_succ]
 go_wp2_with fail
 rw [rounds_succ]
 go_wp2_with fail
 rw [rounds_succ]
 go_wp2_with fail
 refine (xU HGR).mono ?_
 rintro e W1 ⟨hb1,a0,cap0,rfl,ho1⟩
 rw [← hb1.cell hSl] at hS0 hS1
 have HS1:=xH ((xU H1).carry (fun b hb=>hb1.block b hb) (fun _ h=>h))
 have HO1:=xH ho1
 have HB1:=xH hb1
 clear hb1 ho1 H1 hSl c1 c2 e1 HGR
 go_wp2_with fail
 refine wp_loop_rounds 3 ?_
 rw [rounds_succ]
 go_wp2_with (at_builtin;refine append_listU _ rfl _ _ 23 rfl w.heap.size 9 i0 (.string ByteArray.empty) 1 16 Tryz.underlying23 (xU HI0) (xU HI1) (xU HI2) (xU HI3) rfl (by decide) a0 0 cap0 [] rfl HO1 a1 n1 p1 (an.map Value.string) rfl (by rw [List.length_map,(strs_src (xU HS1)).1];omega) (strs_src (xU HS1)).2 (strs_one an) (by have:=xU HN1;have:=xU HM;omega) (by have:=xU HN1;omega) (xU HB1).size n1 (Nat.zero_add _) ?_;intro a3 cap3 W3 ho3 hg3)
 have hb3:Below w.heap.size w W3:=(xU HB1).grown (xU hg3) (xU HB1).size (fun g e=>((xU HO1).lt g e).1)
 rw [(xU HB1).cell (xU HSL),← hb3.cell (xU HSL)] at hS0 hS1
 have HS2:=xH ((xU H2).carry (fun b hb=>hb3.block b hb) (fun _ h=>h))
 have HB3:=xH hb3
 rw [List.nil_append] at ho3
 clear hb3 hg3 HO1 HB1 HS1 H2
 go_wp2_with fail
 rw [rounds_succ]
 go_wp2_with (at_builtin;refine append_listU _ rfl _ _ 23 rfl w.heap.size 9 i0 (.string ByteArray.empty) 1 16 Tryz.underlying23 (xU HI0) (xU HI1) (xU HI2) (xU HI3) rfl (by decide) a3 n1 cap3 (an.map Value.string) rfl ho3 a2 n2 p2 (bn.map Value.string) rfl (by rw [List.length_map,(strs_src (xU HS2)).1];omega) (strs_src (xU HS2)).2 (strs_one bn) (by have:=xU HN1;have:=xU HN2;have:=xU HM;omega) (by have:=xU HN1;have:=xU HN2;omega) (xU HB3).size (n1+n2) rfl ?_;intro a4 cap4 W4 ho4 hg4)
 have hb4:Below w.heap.size w W4:=(xU HB3).grown (xU hg4) (xU HB3).size (fun g e=>((xU ho3).lt g e).1)
 have HB4:=xH hb4
 rw [← List.map_append] at ho4
 clear hb4 hg4 ho3 HB3 HS2 hS0 hS1
 go_wp2_with fail
 rw [rounds_succ]
 go_wp2_with fail
 go_ret
 exact ⟨xU HB4,_,_,rfl,xU ho4⟩
end Go.Proofs.YteefjeddboefcaaGreatDoor

namespace Go.Proofs.YteefjeddboefcaaGreatDoor
open Go Go.RowKit
theorem below_put {α:Type} [Inhabited α] {n0:Nat} {w W:World} (h:Below n0 w W) (enc:α→Value) (g off:Nat) (d:Array α) (hg:n0≤g):Below n0 w (Sort.putRow enc W g off d) :=
 ⟨h.os,h.tape,h.output,by rw [Sort.size_putRow];exact h.size,fun b hb=>by
  unfold Sort.putRow Sort.mapBlock
  simp only
  rw [Array.getElem?_modify,if_neg (by omega)]
  exact h.block b hb⟩
theorem below_ahead {n0:Nat} {w W:World} (h:Below n0 w W) (m:Nat):Below n0 w (Sort.ahead W m):=⟨h.os,h.tape,h.output,h.size,h.block⟩
theorem below_grow {n0:Nat} {w W:World} (h:Below n0 w W) (hn:n0≤W.heap.size) (os:Array Obj):Below n0 w (Sort.grow W os) :=
 ⟨h.os,h.tape,h.output,by rw [Sort.size_grow];have:=h.size;omega,fun b hb=>by rw [Sort.heap_grow_old _ _ (by omega)];exact h.block b hb⟩
theorem own_holds {W:World} {base g n cap:Nat} {ns:List ByteArray} (h:W.ownsRow base 9 1 (.slice (some ⟨g,0,none⟩) n cap) n (ns.map Value.string)):Sort.Holds encStr W g 0 (ns.map ByteArray.toList).toArray:=fun j hj=>by
 have hj':j < ns.length:=by simpa using hj
 have hc:=h.cells (g:=g) rfl j (.string ns[j]) (by simp [hj'])
 rw [Addr.add_lit] at hc
 refine ⟨?_,?_⟩
 · rw [hc]
   simp [hj',encStr,ba_of]
 · rcases h.2 with ⟨hv,_⟩ | ⟨g',c',u',hv,_,hh,_⟩
   · cases hv
   · simp only [Value.slice.injEq,Option.some.injEq,Addr.mk.injEq] at hv
     obtain ⟨⟨rfl,-,-⟩,-,-⟩:=hv
     unfold World.frozen?
     rw [hh]
     simp
theorem uniN_get {an bn:List ByteArray} {i:Nat} (hi:i < (uniN an bn).length) (hi':i < (uniL an bn).length):(uniN an bn)[i]=⟨((uniL an bn)[i]).toArray⟩:=by
 unfold uniN
 exact List.getElem_map _
theorem uniL_le (an bn:List ByteArray):(uniL an bn).length≤(srtS ((an++bn).map ByteArray.toList)).length:=by
 have:=uniL_len an bn
 rw [srtS_len]
 simpa using this
theorem namesOfBoth_any (an bn:List ByteArray) (a1 a2:Option Addr) (n1 n2 p1 p2:Nat) (w:World)
 (h1:StrsAt (fun b=>b < w.heap.size) w (.slice a1 n1 p1) an) (h2:StrsAt (fun b=>b < w.heap.size) w (.slice a2 n2 p2) bn) (hn1:n1≤1000) (hn2:n2≤1000) :
 Calls Tryz.prog 94 #[.slice a1 n1 p1,.slice a2 n2 p2] w fun e w'=>Below w.heap.size w w'∧∃ a cap,e=.returned (.slice a (uniN an bn).length cap)∧StrsAt (New w w') w' (.slice a (uniN an bn).length cap) (uniN an bn):=by
 have hb0:Below w.heap.size w (w.alloc (.cells #[.slice a1 n1 p1,.slice a2 n2 p2] 23)):=(Below.refl _ _).alloc (Nat.le_refl _) _
 have hs0:(w.alloc (.cells #[.slice a1 n1 p1,.slice a2 n2 p2] 23)).heap.size=w.heap.size+1:=by simp
 have hS0:(w.alloc (.cells #[.slice a1 n1 p1,.slice a2 n2 p2] 23)).cell? ⟨w.heap.size,0,none⟩=some (.slice a1 n1 p1):=by simp
 have hS1:(w.alloc (.cells #[.slice a1 n1 p1,.slice a2 n2 p2] 23)).cell? ⟨w.heap.size,1,none⟩=some (.slice a2 n2 p2):=by simp
 have hnn1:=(strs_src h1).1
 have hnn2:=(strs_src h2).1
 have hzs:∀ nm,nm∈uniN an bn→nm.size≤9223372036854775807:=fun nm hm=>by
  rcases (uniN_mem nm).1 hm with h | h
  · obtain ⟨_,_,_,_,hc⟩:=h1
    obtain ⟨i,hi,rfl⟩:=List.mem_iff_getElem.1 h
    obtain ⟨_,_,_,_,_,hz⟩:=hc i hi
    exact hz
  · obtain ⟨_,_,_,_,hc⟩:=h2
    obtain ⟨i,hi,rfl⟩:=List.mem_iff_getElem.1 h
    obtain ⟨_,_,_,_,_,hz⟩:=hc i hi
    exact hz
 have hcc:=concat_two an bn w.heap.size a1 a2 n1 n2 p1 p2 (w.alloc (.cells #[.slice a1 n1 p1,.slice a2 n2 p2] 23)) hS0 hS1 (by omega) (h1.carry (fun b hb=>hb0.block b hb) (fun _ h=>by omega)) (h2.carry (fun b hb=>hb0.block b hb) (fun _ h=>by omega)) hn1 hn2
 have HCC:=xH hcc;have HB0:=xH hb0;have HS0:=xH hs0;have HN1:=xH hnn1;have HN2:=xH hnn2;have HL1:=xH hn1;have HL2:=xH hn2;have HZS:=xH hzs
 clear hcc hb0 hs0 hS0 hS1 hnn1 hnn2 hn1 hn2 h1 h2 hzs
 go_enter Tryz.func94,Tryz.ntmps94
 go_wp2_with fail
 refine (xU HCC).mono ?_
 rintro e W1 ⟨hb1,a,cap,rfl,ho1⟩
 have hb1':Below w.heap.size w W1:=(xU HB0).trans (hb1.mono (by rw [xU HS0];omega))
 have hW1:w.heap.size+1≤W1.heap.size:=by have:=hb1.size;rw [xU HS0] at this;exact this
 rw [xU HS0] at ho1
 rcases Nat.eq_zero_or_pos (n1+n2) with h0 | h0
 · have hu:uniN an bn=[]:=by
    have h3:=uniN_len an bn
    have h4:=uniL_len an bn
    have:=xU HN1;have:=xU HN2
    exact List.eq_nil_of_length_eq_zero (by omega)
   rw [h0]
   have HB1:=xH hb1'
   have HU:=xH hu
   clear hb1 hb1' ho1 hu HCC HB0
   go_wp2_with (first
    | (go_at_call 109;refine (Tryz.slices_Sort_string_none a cap W1).mono ?_;rintro e W2 ⟨rfl,hw2⟩;have hw3:=hw2.symm;subst hw3)
    | (go_at_call 110;refine (Tryz.slices_Compact_string_empty a cap W1).mono ?_;rintro e W2 ⟨rfl,hw2⟩;have hw3:=hw2.symm;subst hw3))
   go_ret
   rw [xU HU]
   exact ⟨xU HB1,a,cap,rfl,a,cap,rfl,by simp,fun i hi=>by simp at hi⟩
 · obtain ⟨g,rfl⟩:∃ g,a=some ⟨g,0,none⟩:=by
    rcases ho1.2 with ⟨-,h⟩ | ⟨g,_,_,hv,_⟩
    · omega
    · simp only [Value.slice.injEq] at hv
      exact ⟨g,hv.1⟩
   have hgl:=ho1.lt g rfl
   have hcap:n1+n2≤cap:=own_capU ho1
   have hlen:n1+n2=((an++bn).map ByteArray.toList).length:=by
    have:=xU HN1;have:=xU HN2
    simp;omega
   have hH:=own_holds ho1
   have HB1:=xH hb1';have HH:=xH hH;have HGL:=xH hgl;have HCAP:=xH hcap;have HLEN:=xH hlen
   have hsrt:=Tryz.slices_Sort_string g 0 cap ((an++bn).map ByteArray.toList) W1 hH hgl.2 (by have:=xU HL1;have:=xU HL2;omega)
   rw [← hlen] at hsrt
   have hcmp:∀ W,Sort.Holds encStr W g 0 (srtS ((an++bn).map ByteArray.toList)).toArray→Calls Tryz.prog 110 #[.slice (some ⟨g,0,none⟩) (n1+n2) cap] W fun e w'=>e=.returned (.slice (some ⟨g,0,none⟩) (uniL an bn).length cap)∧∃ q,w'=Sort.putRow encStr (Sort.ahead W q) g 0 (uniL an bn++List.replicate ((srtS ((an++bn).map ByteArray.toList)).length - (uniL an bn).length) []).toArray:=fun W hW=>by
    have:=Tryz.slices_Compact_string g 0 cap (srtS ((an++bn).map ByteArray.toList)) W hW (by rw [srtS_len,← hlen];have:=xU HL1;have:=xU HL2;omega) (by rw [srtS_len,← hlen];exact hcap)
    rw [srtS_len,← hlen] at this
    rw [srtS_len,← hlen]
    exact this
   have HSRT:=xH hsrt;have HCMP:=xH hcmp
   clear hsrt hcmp hH hgl hcap hlen hb1 hb1' ho1 HCC HB0 h0
   go_wp2_with fail
   refine (xU HSRT).mono ?_
   rintro e W2 ⟨rfl,m,os,hW2⟩
   have hlt1:g < (Sort.putRow encStr (Sort.ahead W1 m) g 0 (srtS ((an++bn).map ByteArray.toList)).toArray).heap.size:=by rw [Sort.size_putRow];exact (xU HGL).2
   have hsz1:(srtS ((an++bn).map ByteArray.toList)).toArray.size=((an++bn).map ByteArray.toList).toArray.size:=by rw [List.size_toArray,List.size_toArray,srtS_len]
   have hH2:Sort.Holds encStr W2 g 0 (srtS ((an++bn).map ByteArray.toList)).toArray:=by
    rw [hW2]
    exact Sort.holds_grow encStr _ os g 0 _ hlt1 (Sort.holds_putRow encStr (Sort.ahead W1 m) g 0 _ (srtS ((an++bn).map ByteArray.toList)).toArray (xU HH) hsz1)
   have hb2:Below w.heap.size w W2:=by
    rw [hW2]
    exact below_grow (below_put (below_ahead (xU HB1) m) encStr g 0 _ (by have:=(xU HGL).1;omega)) (by rw [Sort.size_putRow];exact (xU HB1).size) os
   have hlt2:g < W2.heap.size:=by rw [hW2,Sort.size_grow];exact Nat.lt_of_lt_of_le hlt1 (Nat.le_add_right _ _)
   have HH2:=xH hH2;have HB2:=xH hb2;have HLT2:=xH hlt2
   clear hW2 hlt1 hsz1 hH2 hb2 hlt2 HSRT HH HB1
   go_wp2_with fail
   refine (xU HCMP W2 (xU HH2)).mono ?_
   rintro e W3 ⟨rfl,q,hW3⟩
   have hul:=uniL_le an bn
   have hsz2:(uniL an bn++List.replicate ((srtS ((an++bn).map ByteArray.toList)).length - (uniL an bn).length) []).toArray.size=(srtS ((an++bn).map ByteArray.toList)).toArray.size:=by
    rw [List.size_toArray,List.size_toArray,List.length_append,List.length_replicate];omega
   have hH3:Sort.Holds encStr W3 g 0 (uniL an bn++List.replicate ((srtS ((an++bn).map ByteArray.toList)).length - (uniL an bn).length) []).toArray:=by
    rw [hW3]
    exact Sort.holds_putRow encStr (Sort.ahead W2 q) g 0 _ _ (xU HH2) hsz2
   have hb3:Below w.heap.size w W3:=by
    rw [hW3]
    exact below_put (below_ahead (xU HB2) q) encStr g 0 _ (by have:=(xU HGL).1;omega)
   have hlt3:g < W3.heap.size:=by rw [hW3,Sort.size_putRow];exact xU HLT2
   have HB3:=xH hb3
   have HST:Hid (StrsAt (New w W3) W3 (.slice (some ⟨g,0,none⟩) (uniN an bn).length cap) (uniN an bn)):=by
    have h5:=uniN_len an bn
    have h6:=uniL_len an bn
    refine ⟨_,_,rfl,by have:=xU HN1;have:=xU HN2;have:=xU HL1;have:=xU HL2;omega,fun i hi=>⟨g,0,rfl,⟨by have:=(xU HGL).1;omega,hlt3⟩,?_,xU HZS _ (List.getElem_mem hi)⟩⟩
    have hi':i < (uniL an bn).length:=by omega
    have h7:=(hH3 i (by rw [hsz2,List.size_toArray];omega)).1
    rw [h7,uniN_get hi hi']
    simp [hi',List.getElem!_eq_getElem?_getD,List.getElem?_append_left hi']
   have HUN:=xH (uniN_len an bn)
   clear hW3 hul hsz2 hH3 hb3 hlt3 HB2 HCMP HH2 HLT2
   go_wp2_with fail
   go_ret
   rw [← xU HUN]
   exact ⟨xU HB3,_,_,rfl,xU HST⟩
end Go.Proofs.YteefjeddboefcaaGreatDoor

namespace Go.Proofs.YteefjeddboefcaaGreatDoor
open Go Go.RowKit
def wv (T:Nat) (f:Nat):Value:=.func (.func f) #[.pointer (some ⟨T,0,none⟩)] #[]
def wRow (T:Nat):List Value:=[Value.nilFunc,Value.nilFunc,Value.nilFunc,Value.nilFunc,Value.nilFunc,Value.nilFunc,wv T 47,Value.nilFunc,wv T 48,Value.nilFunc,Value.nilFunc,Value.nilFunc,Value.nilFunc,wv T 49,Value.nilFunc,Value.nilFunc,wv T 48,Value.nilFunc,Value.nilFunc,Value.nilFunc,wv T 49,Value.nilFunc,Value.nilFunc,Value.nilFunc,wv T 48,Value.nilFunc,Value.nilFunc,wv T 49,Value.nilFunc,Value.nilFunc,Value.nilFunc,Value.nilFunc,wv T 50,Value.nilFunc,wv T 49,Value.nilFunc,Value.nilFunc,Value.nilFunc,Value.nilFunc,Value.nilFunc,wv T 51,wv T 49,Value.nilFunc,Value.nilFunc,Value.nilFunc,Value.nilFunc,Value.nilFunc,Value.nilFunc,wv T 52]
def WT (W:World) (T:Nat):Prop:=W.rowIs T 66 49 (fun i=>(wRow T).getD i .nilFunc)
theorem WT.on {W W':World} {T:Nat} (h:WT W T) (hb:Below W.heap.size W W'):WT W' T:=h.of_block (hb.block _ h.lt)
theorem wRow_len (T:Nat):(wRow T).length=49:=rfl
theorem wRow_one (T:Nat):(wRow T).toArray.all (·.oneCell')=true:=by rw [← Array.all_toList];rfl
theorem there49 {w:World} {b:Nat} {T:TypeId} {n:Nat} {f:Nat→Value} (h:w.rowIs b T n f):w.there b 0 n:=fun j hj=>by
 rw [Nat.zero_add]
 exact ⟨by rw [h.cell hj];rfl,h.frozen j⟩
theorem sizeTab:(Tryz.prog.info? 64).map (·.size)=some 49:=by kernel_rfl
theorem set_row (b:Nat):∀ (vs:List Value) (o:Nat) (W:World) (T:TypeId) (n:Nat) (f:Nat→Value),W.rowIs b T n f→o+vs.length≤n→But b W (W.setCells b o vs)∧(W.setCells b o vs).rowIs b T n (fun i=>if o≤i then (vs[i - o]?).getD (f i) else f i)
 | [],o,W,T,n,f,h,_=>⟨But.of_below (Below.refl _ _),h.congr (fun i hi=>by simp)⟩
 | v::r,o,W,T,n,f,h,hl=>by
   simp only [List.length_cons] at hl
   obtain ⟨h1,h2⟩:=set_row b r (o+1) (W.setCell ⟨b,o,none⟩ v) T n _ (h.set o v) (by omega)
   refine ⟨(But.set W o v).trans h1,World.rowIs.congr (w:=W.setCells b o (v::r)) h2 (fun i hi=>?_)⟩
   by_cases h1:o+1≤i
   · have e:i - o=(i - (o+1))+1:=by omega
     rw [if_pos h1,if_pos (show o≤i by omega),e,List.getElem?_cons_succ]
     have:i≠o:=by omega
     simp [this]
   · rw [if_neg h1]
     by_cases h3:o≤i
     · have e:i=o:=by omega
       subst e
       simp
     · rw [if_neg h3]
       have:i≠o:=by omega
       simp [this]
theorem row_rep (w:World) (n:Nat) (v:Value) (t:TypeId):(w.alloc (.cells (List.replicate n v).toArray t)).rowIs w.heap.size t n (fun _=>v):=by
 have h:=World.rowIs_alloc w (List.replicate n v).toArray t (fun _=>v) (fun i hi=>by
  have hi':i < n:=by simpa using hi
  simp [hi'])
 simpa using h
noncomputable def nwOps:Array Oper:=fops Tryz.f27 2
theorem F_skipW {P:Program} {ops:Array Oper} {Q:Exit→Act→World→Prop} {k:Nat} {l:List Value} {ds:List Deferred} {w w':World} (d:Option Tmp) (hb:opG ops k d=true) (hw:Region.wanted (opI ops k) (yielded ops l.toArray)=true) (hr:(execOp (⟨l.toArray,ds⟩:Act).eval (opI ops k)).run P w=.ok .skip w') (H:wpFrom P ops Q (k+1) ⟨(putL l d undef).toArray,ds⟩ w'):wpFrom P ops Q k ⟨l.toArray,ds⟩ w:=by
 have hd:(opI ops k).dst=d:=by unfold opG at hb;simp only [Bool.and_eq_true,decide_eq_true_eq] at hb;exact hb.2
 refine from_step hb ?_
 rw [if_pos hw]
 unfold Oper.wp
 rw [hr]
 show wpFrom P ops Q (k+1) ((⟨l.toArray,ds⟩:Act).put (opI ops k).dst undef) w'
 rw [hd,put_putL]
 exact H
theorem nw2 (T:Nat) (W0:World) {l:List Value} (Q:Exit→Act→World→Prop) {f:Nat→Value} (hl:lookL [(1,.pointer (some ⟨T,0,none⟩))] l=(40,[.pointer (some ⟨T,0,none⟩)])) (hT:W0.rowIs T 66 49 f)
 (hend:∀ u,Q .normal ⟨(frL u 40 [(1,.pointer (some ⟨T,0,none⟩))]).toArray,[]⟩ (W0.setCells T 0 (wRow T))):(Code.region 2 nwOps false).wp Tryz.prog Q ⟨l.toArray,[]⟩ W0:=by
 obtain ⟨v0,rfl⟩:=look_fr (s:=[(1,.pointer (some ⟨T,0,none⟩))]) hl
 refine wp_region_from ?_
 refine from_q 35 40 [(1,.pointer (some ⟨T,0,none⟩)),(36,.agg (wRow T).toArray),(38,.pointer (some ⟨T,0,none⟩))] [] (by kernel_rfl) Lds.nil fun u=>?_
 refine F_skipW (w':=W0.setCells T 0 (wRow T)) none (by kernel_rfl) (by kernel_rfl) ?_ ?_
 · have h1:(opI nwOps 35).op=.store 64 (.tmp 38) (.tmp 36):=by kernel_rfl
   have h2:(⟨(frL u 40 [(1,.pointer (some ⟨T,0,none⟩)),(36,.agg (wRow T).toArray),(38,.pointer (some ⟨T,0,none⟩))]).toArray,[]⟩:Act).eval (.tmp 38)=.pointer (some ⟨T,0,none⟩):=by kernel_rfl
   have h3:(⟨(frL u 40 [(1,.pointer (some ⟨T,0,none⟩)),(36,.agg (wRow T).toArray),(38,.pointer (some ⟨T,0,none⟩))]).toArray,[]⟩:Act).eval (.tmp 36)=.agg (wRow T).toArray:=by kernel_rfl
   unfold execOp
   simp only [h1,h2,h3,Instr.storeAt,Instr.sureAddr,Sem.run_bind,Sem.run_pure,Result.andThen_ok,run_storeVar_mid W0 T 0 64 (wRow T).toArray (there49 hT) sizeTab (wRow_one T)]
 · refine from_fr 40 [(1,.pointer (some ⟨T,0,none⟩))] (by kernel_rfl) fun u=>?_
   exact from_end (by kernel_rfl) (hend u)
theorem WT.start {W:World} {T:Nat} {f:Nat→Value} (h:W.rowIs T 66 49 f):But T W (W.setCells T 0 (wRow T))∧WT (W.setCells T 0 (wRow T)) T:=by
 obtain ⟨h1,h2⟩:=set_row T (wRow T) 0 W _ 49 f h (by rw [wRow_len];omega)
 refine ⟨h1,World.rowIs.congr h2 (fun i hi=>?_)⟩
 have hi':i < (wRow T).length:=by rw [wRow_len];exact hi
 simp only [Nat.zero_le,if_true,Nat.sub_zero,List.getElem?_eq_getElem hi',Option.getD_some,List.getD_eq_getElem?_getD]
theorem newWidenings_any (w:World) :
 Calls Tryz.prog 27 #[] w fun e w'=>e=.returned (.pointer (some ⟨w.heap.size,0,none⟩))∧Below w.heap.size w w'∧WT w' w.heap.size:=by
 go_enter Tryz.func27,Tryz.ntmps27
 go_upto_region 2 with fail
 refine wp_swap (c':=Code.region 2 nwOps false) (by kernel_rfl) ?_
 generalize hob:Obj.cells _ _ _=ob
 have hob2:ob=.cells (List.replicate 49 Value.nilFunc).toArray 66:=by rw [← hob];rfl
 clear hob
 subst hob2
 have hrow:=row_rep w 49 Value.nilFunc 66
 have hbA:Below w.heap.size w (w.alloc (.cells (List.replicate 49 Value.nilFunc).toArray 66)):=(Below.refl _ _).alloc (Nat.le_refl _) _
 generalize w.alloc (.cells (List.replicate 49 Value.nilFunc).toArray 66)=W0 at hrow hbA ⊢
 refine nw2 w.heap.size W0 _ (by kernel_rfl) hrow fun u=>?_
 obtain ⟨hb1,hw1⟩:=WT.start hrow
 have hb2:Below w.heap.size w (W0.setCells w.heap.size 0 (wRow w.heap.size)):=hbA.trans ⟨hb1.os,hb1.tape,hb1.output,hb1.size,fun i hi=>hb1.at (by have:=hbA.size;omega) (by omega)⟩
 generalize W0.setCells w.heap.size 0 (wRow w.heap.size)=W1 at hw1 hb2 ⊢
 clear hb1 hrow hbA
 have HW1:=xH hw1;have HB2:=xH hb2
 clear hw1 hb2
 have hfr:frL u 40 [(1,.pointer (some ⟨w.heap.size,0,none⟩))]=u 0::.pointer (some ⟨w.heap.size,0,none⟩)::(List.range 38).map (fun i=>u (i+2)):=by kernel_rfl
 rw [hfr]
 simp only [List.range,List.range.loop,List.map_cons,List.map_nil]
 go_wp2_with fail
 go_ret
 exact ⟨rfl,xU HB2,xU HW1⟩
end Go.Proofs.YteefjeddboefcaaGreatDoor

namespace Go.Proofs.YteefjeddboefcaaGreatDoor
open Go Go.RowKit
def KZ (w:World) (k:Kd) (c:C3):Prop:=KW w k c∨(k=kd0∧c=⟨.int .i64 0,.slice none 0 0,.slice none 0 0⟩)
theorem KZ.on {w w':World} {k:Kd} {c:C3} (h:KZ w k c) (hb:Below w.heap.size w w'):KZ w' k c:=h.imp (fun h=>h.on hb) id
theorem KZ.form {w:World} {k:Kd} {c:C3} (h:KZ w k c):∃ (a1 a2:Option Addr) (p1 p2:Nat),c=⟨.int .i64 k.sort,.slice a1 k.names.length p1,.slice a2 k.kids.length p2⟩:=by
 rcases h with h | ⟨rfl,rfl⟩
 · exact h.form
 · exact ⟨none,none,0,0,rfl⟩
theorem bs_any (ns:List ByteArray) (hr:ns.Pairwise nlt) (hl:ns.length≤1000) (a:Option Addr) (cap:Nat) (x:ByteArray) (w:World) (hc:∀ i,(hi:i < ns.length)→∃ b o,a=some ⟨b,o,none⟩∧w.cell? ⟨b,o+i,none⟩=some (.string ns[i])) :
 Calls Tryz.prog 96 #[.slice a ns.length cap,.string x] w fun e w'=>Below w.heap.size w w'∧∃ (k:Nat),k≤ns.length∧e=.returned (.tuple #[.int .i64 k,.bool (decide (k < ns.length∧ns.getD k x=x))])∧(∀ t,t < k→Op.bytesLess (ns.getD t x).toList x.toList=true)∧(∀ t,k≤t→Op.bytesLess (ns.getD t x).toList x.toList=false):=by
 obtain ⟨k,hk,h1,h2⟩:=bs_place hr x
 by_cases h0:ns.length=0
 · have hk0:k=0:=by omega
   subst hk0
   rw [h0]
   refine (Any2.slices_BinarySearch_string_empty bsLay a cap x w).mono ?_
   rintro e w' ⟨rfl,rfl⟩
   refine ⟨Below.refl _ _,0,by omega,?_,h1,h2⟩
   rw [decide_eq_false (by omega)]
   rfl
 · obtain ⟨b,o,rfl,-⟩:=hc 0 (by omega)
   have hg:=Lib.bsGo_spec (fun t=>Op.bytesLess (ns.getD t x).toList x.toList) k h1 h2 ns.length 0 ns.length (by omega) (by omega) hk
   refine (Any2.slices_BinarySearch_string bsLay b o ns.length cap (fun t=>ns.getD t x) x w (by omega) (fun j hj=>?_)).mono ?_
   · obtain ⟨b',o',e,h⟩:=hc j hj
     simp only [Option.some.injEq,Addr.mk.injEq,and_true] at e
     obtain ⟨rfl,rfl⟩:=e
     rw [h,List.getD_eq_getElem?_getD,List.getElem?_eq_getElem hj,Option.getD_some]
   · rintro e w' ⟨rfl,q,rfl⟩
     rw [hg]
     exact ⟨below_drewN (Below.refl _ _) q,k,hk,rfl,h1,h2⟩
theorem kidNamed_any (k:Kd) (c:C3) (w:World) (hk:KW w k c) (hs:k.sort=5) (hl:k.names.length≤1000) (nm:ByteArray) :
 Calls Tryz.prog 95 #[.agg #[c.c0,c.c1,c.c2],.string nm] w fun e w'=>Below w.heap.size w w'∧∃ (y:C3),e=.returned (.agg #[y.c0,y.c1,y.c2])∧KZ w' (kidZ k nm) y:=by
 obtain ⟨a1,a2,p1,p2,rfl⟩:=hk.form
 obtain ⟨hlk,hr⟩:k.kids.length=k.names.length∧riseB k.names=true:=by
  rcases hk.sh with h | h | h
  · omega
  · omega
  · exact h.2
 have hrk:=(row3_alloc w (.int .i64 k.sort) (.slice a1 k.names.length p1) (.slice a2 k.kids.length p2) 26).alloc (.cells #[.int .i64 0,.slice none 0 0,.slice none 0 0] 26)
 have hrz:=row3_alloc (w.alloc (.cells #[.int .i64 k.sort,.slice a1 k.names.length p1,.slice a2 k.kids.length p2] 26)) (.int .i64 0) (.slice none 0 0) (.slice none 0 0) 26
 rw [World.size_alloc] at hrz
 have hbw:Below w.heap.size w ((w.alloc (.cells #[.int .i64 k.sort,.slice a1 k.names.length p1,.slice a2 k.kids.length p2] 26)).alloc (.cells #[.int .i64 0,.slice none 0 0,.slice none 0 0] 26)):=((Below.refl _ _).alloc (Nat.le_refl _) _).alloc (by simp) _
 have HK:=xH hk;have HR:=xH (rise_pairs hr);have HL:=xH hl;have HLK:=xH hlk
 clear hk hr hl hlk hs
 go_enter Tryz.func95,Tryz.ntmps95
 go_wp2_with fail
 generalize ((w.alloc (.cells #[.int .i64 k.sort,.slice a1 k.names.length p1,.slice a2 k.kids.length p2] 26)).alloc (.cells #[.int .i64 0,.slice none 0 0,.slice none 0 0] 26))=W0 at hrk hrz hbw ⊢
 have hkw:=(xU HK).on hbw
 refine (bs_any k.names (xU HR) (xU HL) a1 p1 nm W0 (fun i hi=>?_)).mono ?_
 · obtain ⟨b,o,cap,e,-,hc⟩:=hkw.name hi
   simp only [Value.slice.injEq,true_and] at e
   exact ⟨b,o,e.1,hc⟩
 rintro e W1 ⟨hb1,p,hp,rfl,h1,h2⟩
 have hkw1:=hkw.on hb1
 have hrk1:=hrk.of_block (hb1.block _ hrk.lt)
 have hrz1:=hrz.of_block (hb1.block _ hrz.lt)
 have hb01:Below w.heap.size w W1:=hbw.trans (hb1.mono hbw.size)
 have HBS:=xH hb01.size
 clear hkw hrk hrz hbw hb1
 obtain ⟨m0,m1,m2⟩:=cs3 hrz1 (by omega);have mf:=hrz1.frozen
 have k2:=hrk1.cell (i:=2) (by omega)
 simp only [row3] at m0 m1 m2 k2
 have HB:=xH hb01;have HKW:=xH hkw1;have HRZ:=xH hrz1
 clear hrk1 hrz1 hb01 hkw1
 by_cases hf:p < k.names.length∧k.names.getD p nm=nm
 · have hpk:p < k.kids.length:=by rw [xU HLK];exact hf.1
   obtain ⟨b,o,cap,x1,x2,r1,r2,e2,hbl,y0,y1,y2,hkid⟩:=(xU HK).kid hpk
   simp only [Value.slice.injEq,true_and] at e2
   obtain ⟨rfl,rfl⟩:=e2
   have hz:kidZ k nm=k.kids[p]:=kidZ_at (xU HR) (xU HLK) hf.1 (by have:=hf.2;rwa [List.getD_eq_getElem?_getD,List.getElem?_eq_getElem hf.1,Option.getD_some] at this)
   rw [decide_eq_true hf]
   rw [← (xU HB).cell hbl] at y0 y1 y2
   have HZ:=xH hz
   have HKID:=xH hkid
   clear hkid hf h1 h2 hp hz
   generalize k.kids[p]=x at *
   have hne1:b≠w.heap.size+1:=by omega
   have hne2:w.heap.size+1≠b:=by omega
   have HBL:=xH hbl
   clear hbl
   go_wp2_with fail
   refine bodyPost_ret (v:=.agg #[.int .i64 x.sort,.slice x1 x.names.length r1,.slice x2 x.kids.length r2]) (by simp [results,Tryz.results95,go_sem,m0,m1,m2]) rfl ?_
   have hbe:Below w.heap.size w (((W1.setCell ⟨w.heap.size+1,0,none⟩ (.int .i64 x.sort)).setCell ⟨w.heap.size+1,1,none⟩ (.slice x1 x.names.length r1)).setCell ⟨w.heap.size+1,2,none⟩ (.slice x2 x.kids.length r2)):=(((xU HB).setCell (by simp) _).setCell (by simp) _).setCell (by simp) _
   refine ⟨hbe,⟨.int .i64 x.sort,.slice x1 x.names.length r1,.slice x2 x.kids.length r2⟩,rfl,?_⟩
   rw [xU HZ]
   exact Or.inl ((xU HKID).on hbe)
 · rw [decide_eq_false hf]
   obtain ⟨hz,-⟩:=kidZ_not (xU HR) h1 h2 hf
   have HZ:=xH hz
   clear hz hf h1 h2 hp
   go_wp2_with fail
   refine bodyPost_ret (v:=.agg #[.int .i64 0,.slice none 0 0,.slice none 0 0]) (by simp [results,Tryz.results95,go_sem,m0,m1,m2]) rfl ?_
   refine ⟨?_,⟨.int .i64 0,.slice none 0 0,.slice none 0 0⟩,rfl,Or.inr ⟨xU HZ,rfl⟩⟩
   exact (((xU HB).setCell (by simp) _).setCell (by simp) _).setCell (by simp) _
end Go.Proofs.YteefjeddboefcaaGreatDoor

namespace Go.Proofs.YteefjeddboefcaaGreatDoor
open Go Go.RowKit
def ent (T sa sb:Nat):Value:=(wRow T).getD (sa * 7+sb) .nilFunc
theorem WT.cell' {W:World} {T:Nat} (h:WT W T) {sa sb:Nat} (ha:sa≤6) (hb:sb≤6):W.cell? ⟨T,sa * 7+sb,none⟩=some (ent T sa sb):=World.rowIs.cell h (i:=sa * 7+sb) (by omega)
def FnV (v:Value):Prop:=v=.nilFunc∨∃ f b c,v=.func f b c
theorem eqNilW (w:World):(binOp .eql 61 .nilFunc .nilFunc).run Tryz.prog w=.ok (.bool true) w:=by kernel_rfl
theorem eqFunW (fn:Fn) (a b:Array Value) (w:World):(binOp .eql 61 (.func fn a b) .nilFunc).run Tryz.prog w=.ok (.bool false) w:=by kernel_rfl
theorem gNilW (x y:Operand) (w:World):(eqGuard .eql 61 x y .nilFunc .nilFunc).run Tryz.prog w=.ok () w:=by kernel_rfl
theorem gFunW (x y:Operand) (fn:Fn) (a b:Array Value) (w:World):(eqGuard .eql 61 x y (.func fn a b) .nilFunc).run Tryz.prog w=.ok () w:=by kernel_rfl
theorem pr_boxes (w:World) (sa sb:Int) (a1 a2 b1 b2:Option Addr) (n1 n2 p1 p2 m1 m2 q1 q2:Nat):((w.alloc (.cells #[.int .i64 sa,.slice a1 n1 p1,.slice a2 n2 p2] 26)).alloc (.cells #[.int .i64 sb,.slice b1 m1 q1,.slice b2 m2 q2] 26)).rowIs w.heap.size 26 3 (row3 (.int .i64 sa) (.slice a1 n1 p1) (.slice a2 n2 p2))∧((w.alloc (.cells #[.int .i64 sa,.slice a1 n1 p1,.slice a2 n2 p2] 26)).alloc (.cells #[.int .i64 sb,.slice b1 m1 q1,.slice b2 m2 q2] 26)).rowIs (w.heap.size+1) 26 3 (row3 (.int .i64 sb) (.slice b1 m1 q1) (.slice b2 m2 q2))∧Below w.heap.size w ((w.alloc (.cells #[.int .i64 sa,.slice a1 n1 p1,.slice a2 n2 p2] 26)).alloc (.cells #[.int .i64 sb,.slice b1 m1 q1,.slice b2 m2 q2] 26)):=by
 have h2:=row3_alloc (w.alloc (.cells #[.int .i64 sa,.slice a1 n1 p1,.slice a2 n2 p2] 26)) (.int .i64 sb) (.slice b1 m1 q1) (.slice b2 m2 q2) 26
 rw [World.size_alloc] at h2
 exact ⟨(row3_alloc w _ _ _ _).alloc _,h2,((Below.refl _ _).alloc (Nat.le_refl _) _).alloc (by simp) _⟩
theorem ofPair_no (T sa sb:Nat) (hsa:sa≤6) (hsb:sb≤6) (hent:ent T sa sb=.nilFunc) (a1 a2 b1 b2:Option Addr) (n1 n2 p1 p2 m1 m2 q1 q2:Nat) (path:ByteArray) (w:World) (hT:WT w T) :
 Calls Tryz.prog 53 #[.pointer (some ⟨T,0,none⟩),.agg #[.int .i64 sa,.slice a1 n1 p1,.slice a2 n2 p2],.agg #[.int .i64 sb,.slice b1 m1 q1,.slice b2 m2 q2],.string path] w fun e w'=>Below w.heap.size w w'∧e=.returned (.tuple #[.nilFunc,.iface 103 (.agg #[.int .i64 sa,.int .i64 sb,.string path])]):=by
 obtain ⟨hrx,hry,hbw⟩:=pr_boxes w sa sb a1 a2 b1 b2 n1 n2 p1 p2 m1 m2 q1 q2
 have htc:=(hT.on hbw).cell' hsa hsb
 rw [hent] at htc
 have x0:=hrx.cell (i:=0) (by omega)
 have y0:=hry.cell (i:=0) (by omega)
 simp only [row3] at x0 y0
 have g1:(0:Int)≤(sa:Int):=by omega
 have g2:(sa:Int) < 7:=by omega
 have g3:(0:Int)≤(sb:Int):=by omega
 have g4:(sb:Int) < 7:=by omega
 have eq1:=eqNilW;have eq2:=gNilW
 have HB:=xH hbw
 clear hrx hry hent hsa hsb hT
 go_enter Tryz.func53,Tryz.ntmps53
 go_upto_region 1 with fail
 generalize ((w.alloc (.cells #[.int .i64 sa,.slice a1 n1 p1,.slice a2 n2 p2] 26)).alloc (.cells #[.int .i64 sb,.slice b1 m1 q1,.slice b2 m2 q2] 26))=W0 at htc x0 y0 hbw HB ⊢
 clear hbw
 go_quiet (fail)
 go_wp2_with fail
 go_quiet (fail)
 go_wp2_with fail
 go_ret2
 exact ⟨below_drewN (below_drewN (xU HB) _) _,rfl⟩
theorem ofPair_do (T sa sb f:Nat) (hsa:sa≤6) (hsb:sb≤6) (hent:ent T sa sb=wv T f) (hcall:∀ args w,(callFunc f args).run Tryz.prog w=.ok (.enter f args) w) (a1 a2 b1 b2:Option Addr) (n1 n2 p1 p2 m1 m2 q1 q2:Nat) (path:ByteArray) (w:World) (hT:WT w T) (R:(Nat→Prop)→World→Value→Value→Prop) (hon:∀ P Q W W' fv er,R P W fv er→(∀ b,P b→Q b)→(∀ b,P b→W'.heap[b]? = W.heap[b]?)→R Q W' fv er)
 (hf:∀ W,Below w.heap.size w W→Calls Tryz.prog f #[.pointer (some ⟨T,0,none⟩),.agg #[.int .i64 sa,.slice a1 n1 p1,.slice a2 n2 p2],.agg #[.int .i64 sb,.slice b1 m1 q1,.slice b2 m2 q2],.string path] W fun e w'=>Below W.heap.size W w'∧∃ fv er,e=.returned (.tuple #[fv,er])∧R (New W w') w' fv er) :
 Calls Tryz.prog 53 #[.pointer (some ⟨T,0,none⟩),.agg #[.int .i64 sa,.slice a1 n1 p1,.slice a2 n2 p2],.agg #[.int .i64 sb,.slice b1 m1 q1,.slice b2 m2 q2],.string path] w fun e w'=>Below w.heap.size w w'∧∃ fv er,e=.returned (.tuple #[fv,er])∧R (New w w') w' fv er:=by
 obtain ⟨hrx,hry,hbw⟩:=pr_boxes w sa sb a1 a2 b1 b2 n1 n2 p1 p2 m1 m2 q1 q2
 have htc:=(hT.on hbw).cell' hsa hsb
 rw [hent,wv] at htc
 obtain ⟨x0,x1,x2⟩:=cs3 hrx (by omega)
 have y0:=hry.cell (i:=0) (by omega)
 have y1:=hry.cell (i:=1) (by omega)
 have y2:=hry.cell (i:=2) (by omega)
 simp only [row3] at x0 y0 x1 x2 y1 y2
 have g1:(0:Int)≤(sa:Int):=by omega
 have g2:(sa:Int) < 7:=by omega
 have g3:(0:Int)≤(sb:Int):=by omega
 have g4:(sb:Int) < 7:=by omega
 have eq1:=eqFunW;have eq2:=gFunW
 have HB:=xH hbw
 have HF:=xH hf
 have HMO:=xH hon
 clear hrx hry hent hsa hsb hT hf hon
 go_enter Tryz.func53,Tryz.ntmps53
 go_upto_region 1 with fail
 generalize ((w.alloc (.cells #[.int .i64 sa,.slice a1 n1 p1,.slice a2 n2 p2] 26)).alloc (.cells #[.int .i64 sb,.slice b1 m1 q1,.slice b2 m2 q2] 26))=W0 at htc x0 y0 x1 x2 y1 y2 hbw HB ⊢
 clear hbw
 go_quiet (fail)
 go_wp2_with fail
 refine (xU HF _ (below_drewN (xU HB) _)).mono ?_
 rintro e W1 ⟨hb1,fv,er,rfl,hR⟩
 have HB1:=xH ((below_drewN (xU HB) nq).trans (hb1.mono (xU HB).size))
 have HR:=xH (xU HMO _ (New w W1) _ _ _ _ hR (fun b hb=>⟨Nat.le_trans (below_drewN (xU HB) nq).size hb.1,hb.2⟩) (fun _ _=>rfl))
 clear hb1 hR HMO htc x0 y0 x1 x2 y1 y2 HB HF hcall
 go_wp2_with fail
 go_ret2
 exact ⟨xU HB1,fv,er,rfl,xU HR⟩
end Go.Proofs.YteefjeddboefcaaGreatDoor
