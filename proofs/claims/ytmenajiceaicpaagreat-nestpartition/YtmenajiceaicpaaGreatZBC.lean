import Derived.Test.YtmenajiceaicpaaGreatZBA
import Derived.Test.YtmenajiceaicpaaGreatZBB
open Go.Lib (hid)
namespace Go.Proofs.YtmenajiceaicpaaGreat.Prt
open Go.RowKit
def snB(xs:List Int)(c:Nat)(M:List Nat)(i v:Nat):Bool:=decide (xs.getD v 0<(c:Int))||(M.take i).contains v
theorem snB_step{xs:List Int}{c:Nat}{M:List Nat}{i:Nat}(hi:i<M.length)(v:Nat):updV (fun v=> .bool (snB xs c M i v)) (M.getD i 0) (.bool true) v= .bool (snB xs c M (i+1) v):=by
 have e:M.getD i 0=M[i]:=by rw[List.getD_eq_getElem?_getD,List.getElem?_eq_getElem hi];rfl
 have et:M.take (i+1)=M.take i++[M[i]]:=by rw[List.take_add_one,List.getElem?_eq_getElem hi];rfl
 rw[e]
 unfold snB
 rw[et]
 by_cases h:v=M[i]
 ·have h1:(M.take i++[M[i]]).contains v=true:=by rw[List.contains_iff_mem,h];exact List.mem_append_right _ (by simp)
  rw[h1,Bool.or_true,h,updV_self]
 ·have h1:(M.take i++[M[i]]).contains v=(M.take i).contains v:=by
   rw[Bool.eq_iff_iff,List.contains_iff_mem,List.contains_iff_mem,List.mem_append,List.mem_singleton]
   exact⟨fun h2=>h2.resolve_right h,Or.inl⟩
  rw[updV_ne _ _ h,h1]
theorem snB_no{xs:List Int}{c i:Nat}(hi:i<(mbr xs c).length):snB xs c (mbr xs c) i ((mbr xs c).getD i 0)=false:=by
 have e:(mbr xs c).getD i 0=(mbr xs c)[i]:=by rw[List.getD_eq_getElem?_getD,List.getElem?_eq_getElem hi];rfl
 have hm:=mbr_mem.1 (List.getElem_mem hi)
 rw[e]
 unfold snB
 rw[Bool.or_eq_false_iff]
 refine⟨decide_eq_false (by rw[hm.2];omega),?_⟩
 rw[Bool.eq_false_iff]
 intro h
 rw[List.contains_iff_mem] at h
 obtain⟨j,hj,hje⟩:=List.mem_take_iff_getElem.1 h
 have:=nd_inj (mbr_nodup xs c) (by omega) hi hje
 omega
theorem snB_end{xs:List Int}{c v:Nat}(hv:v<xs.length):snB xs c (mbr xs c) (mbr xs c).length v=snB xs (c+1) [] 0 v:=by
 unfold snB
 rw[List.take_length,Bool.eq_iff_iff]
 simp only[List.take_nil,List.contains_nil,Bool.or_false,Bool.or_eq_true,decide_eq_true_eq,List.contains_iff_mem,mbr_mem]
 constructor
 ·rintro(h | h)
  ·omega
  ·have:=h.2
   omega
 ·intro h
  by_cases h2:xs.getD v 0=(c:Int)
  ·exact Or.inr ⟨hv,h2⟩
  ·exact Or.inl (by omega)
theorem getI{M:List Nat}{i:Nat}(hi:i<M.length):M.getD i 0∈M:=by
 rw[List.getD_eq_getElem?_getD,List.getElem?_eq_getElem hi]
 exact List.getElem_mem hi
set_option maxRecDepth 100000 in
set_option maxHeartbeats 6400000 in
theorem partition_any(N:Int)(a:Option Addr)(l:List A)(cap:Nat)(ba:Option Addr)(bs:List Int)(bc:Nat)(ca:Option Addr)(C:List Cl)(cc:Nat)(w:World)(hlen:l.length*24≤140737488351232)(hbl:bs.length*8≤140737488351232)(hr:Arcs w a l)(hi:Ints w ba bs)(hR:Rws w ca C):
  Calls Tryz.prog 6 #[.agg #[.int .i64 N, .slice a l.length cap], .agg #[.slice ba bs.length bc, .slice ca C.length cc]] w fun e w'=>e= .returned (.bool true)∧Below w.heap.size w w':=by
 have hl:l.length≤9223372036854775807:=by omega
 have hbl':bs.length≤9223372036854775807:=by omega
 obtain⟨hg0,hg1,hb0,hsz⟩:=top2 w (.cells #[.int .i64 N, .slice a l.length cap] 24) (.cells #[.slice ba bs.length bc, .slice ca C.length cc] 28)
 have HAR:=hid hr
 have HI:=hid hi
 have HRR:=hid hR
 have HB0:=hid hb0
 have HG0:=hid hg0
 have HG1:=hid hg1
 clear hr hi hR hb0 hg0 hg1
 generalize hp:w.heap.size=p at*
 go_enter Tryz.func6,Tryz.ntmps6
 go_wp2_with fail
 generalize hW:(w.alloc (.cells #[.int .i64 N, .slice a l.length cap] 24)).alloc (.cells #[.slice ba bs.length bc, .slice ca C.length cc] 28)=W at*
 clear hW
 refine(works_any W).mono ?_
 rintro e w1 ⟨rfl,hb1⟩
 have HB1:=hid (below_tr HB0.out hp hb1)
 have hz1:=hb1.size
 have HK0:=hid ((hb1.block p (by omega)).trans HG0.out)
 have HK1:=hid ((hb1.block (p+1) (by omega)).trans HG1.out)
 obtain⟨⟨g0,g1⟩,_⟩:=two_cells HK0.out
 clear hb1 HB0 HG0 HG1
 have HLG:=hid (large_any N a l cap w1 hl (HAR.out.on (by rw[hp];exact HB1.out)))
 obtain⟨V,HV⟩:=named (lgB N l)
 rw[HV.out] at HLG
 go_wp2_with fail
 refine HLG.out.mono ?_
 rintro e w2 ⟨rfl,hb2⟩
 have HB2:=hid (below_tr HB1.out hp hb2)
 have hz2:=hb2.size
 have HM0:=hid ((hb2.block p (by omega)).trans HK0.out)
 have HM1:=hid ((hb2.block (p+1) (by omega)).trans HK1.out)
 clear hb2 g0 g1 HK0 HK1 HB1 HLG HV
 cases V
 ·obtain⟨⟨g0,g1⟩,_⟩:=two_cells HM0.out
  obtain⟨⟨g2,g3⟩,_⟩:=two_cells HM1.out
  have HCK:=hid (ncheck_any N a l cap ba bs bc ca C cc w2 hl hbl' (HAR.out.on (by rw[hp];exact HB2.out)) (HI.out.on (by rw[hp];exact HB2.out)) (HRR.out.on (by rw[hp];exact HB2.out)))
  obtain⟨E,HE⟩:=named (nsE N l bs (csl C))
  rw[HE.out] at HCK
  generalize nsW N l bs (csl C)=nw at*
  go_wp2_with fail
  refine HCK.out.mono ?_
  rintro e w3 ⟨rfl,hb3⟩
  have HB3:=hid (below_tr HB2.out hp hb3)
  have hz3:=hb3.size
  have HN0:=hid ((hb3.block p (by omega)).trans HM0.out)
  have HN1:=hid ((hb3.block (p+1) (by omega)).trans HM1.out)
  clear hb3 g0 g1 g2 g3 HM0 HM1 HB2 HCK
  by_cases hE:E=0
  ·subst hE
   have hNR:=nsE_zero.1 HE.out
   obtain⟨n,rfl⟩: ∃n:Nat,N=n:=⟨N.toNat,by have:=(chk_zero hNR.1).1;omega⟩
   have HNR:=hid hNR
   have h5:=hNR.2.2.1
   have HN1n:Hid ((1:Int)≤n):=(chk_zero hNR.1).1
   have h1m:1≤bs.length:=hNR.2.1
   have hn8:n≤1024:=by have:=(chk_zero hNR.1).2.1;omega
   have hCl:C.length=bs.length:=by have:=hNR.2.2.2.1;rw[csl_len] at this;omega
   have HCL:=hid hCl
   clear hNR HE hCl
   obtain⟨m,HMM⟩:=named bs.length
   have hm5:m≤5:=by rw[←HMM.out];omega
   have hm1:1≤m:=by rw[←HMM.out];exact h1m
   clear h5 h1m
   obtain⟨i4,hi4,hz4,hs4,hb4⟩:=info_parts info4
   have hmk: ∀w,(Instr.makeSlice 53 (.int .i64 n) (.int .i64 n)).run Tryz.prog w= .ok (.slice (some ⟨w.heap.size,0,none⟩) n n) (w.alloc (.cells ((List.range n).map (fun _=>Value.bool false)).toArray 4)):=fun w=>by
    have:=run_make (P:=Tryz.prog) w 53 4 i4 (.bool false) Tryz.underlying53 hi4 hz4 .i64 .i64 n n (by omega) (by omega) (by rw[hb4];omega) (by omega)
    rw[this,Int.toNat_natCast,hs4,made_bool]
   clear hi4 hz4 hs4 hb4
   clear i4
   have HCM:Hid (∀W2,Below p w W2→∀j:Nat,j<m→Calls Tryz.prog 14 #[.agg #[.int .i64 n, .slice a l.length cap], .agg #[.slice ba bs.length bc, .slice ca C.length cc], .int .i64 ((j:Int)+1)] W2 fun e w'=>e= .returned (.tuple #[.int .i64 ((szL (cl C j).xs).length:Nat), .int .i64 0])∧Below W2.heap.size W2 w'):=fun W2 hb j hj=>by
    have h:=many_any n a l cap ba bs bc ca C cc ((j:Int)+1) W2 hl hbl' (HAR.out.on (by rw[hp];exact hb)) (HI.out.on (by rw[hp];exact hb)) (HRR.out.on (by rw[hp];exact hb))
    have e1:atE n l bs (csl C) ((j:Int)+1)=0:=atE_ok HNR.out (by rw[HMM.out];exact hj)
    unfold manyV at h
    rw[e1,if_pos rfl,show((j:Int)+1).toNat - 1=j by omega,csl_at] at h
    exact h
   have HMB:Hid (∀W2,Below p w W2→∀ (j q:Nat) (K:Int),K=(j:Int)+1→j<m→q<(szL (cl C j).xs).length→Calls Tryz.prog 16 #[.agg #[.int .i64 n, .slice a l.length cap], .agg #[.slice ba bs.length bc, .slice ca C.length cc], .int .i64 K, .int .i64 q] W2 fun e w'=> ∃g c,e= .returned (.tuple #[.slice (some ⟨g,0,none⟩) (mbr (cl C j).xs q).length c, .int .i64 0])∧W2.heap.size≤g∧(∀i,i<(mbr (cl C j).xs q).length→w'.cell? ⟨g,i,none⟩=some (.int .i64 ((mbr (cl C j).xs q).getD i 0:Nat)))∧Below W2.heap.size W2 w'):=fun W2 hb j q K hK hj hq=>by
    subst hK
    have h:=members_any n a l cap ba bs bc ca C cc ((j:Int)+1) q W2 hl hbl' (HAR.out.on (by rw[hp];exact hb)) (HI.out.on (by rw[hp];exact hb)) (HRR.out.on (by rw[hp];exact hb))
    have e1:inE n l bs (csl C) ((j:Int)+1) q=0:=inE_ok HNR.out (by rw[HMM.out];exact hj) (by rw[csl_at];exact hq)
    obtain⟨b1,b2,_⟩:=HNR.out.lv (k:=j) (by rw[HMM.out];exact hj)
    rw[csl_at] at b1 b2
    refine h.mono ?_
    rintro e w' ⟨v,c,S,rfl,ho,hS,hb'⟩
    have hS:=hS.out
    rw[e1,if_pos rfl,show((j:Int)+1).toNat - 1=j by omega,csl_at] at hS
    rw[e1]
    subst hS
    obtain⟨g,c2,e,h1,h2⟩:=ho.form (mbr_some b2 hq)
    cases e
    exact⟨g,_,rfl,h1,fun i hi=>own_cellI ho hi,hb'⟩
   have HCH:Hid (∀W2,Below p w W2→∀ (j q:Nat),0<j→j<m→q<(szL (cl C j).xs).length→Calls Tryz.prog 18 #[.agg #[.int .i64 n, .slice a l.length cap], .agg #[.slice ba bs.length bc, .slice ca C.length cc], .int .i64 ((j:Int)+1), .int .i64 q] W2 fun e w'=> ∃g c,e= .returned (.tuple #[.slice (some ⟨g,0,none⟩) (chL (cl C (j - 1)).xs (cl C j).xs q).length c, .int .i64 0])∧W2.heap.size≤g∧(∀i,i<(chL (cl C (j - 1)).xs (cl C j).xs q).length→w'.cell? ⟨g,i,none⟩=some (.int .i64 ((chL (cl C (j - 1)).xs (cl C j).xs q).getD i 0:Nat)))∧Below W2.heap.size W2 w'):=fun W2 hb j q hj0 hj hq=>by
    have h:=children_any n a l cap ba bs bc ca C cc ((j:Int)+1) q W2 hl hbl' (HAR.out.on (by rw[hp];exact hb)) (HI.out.on (by rw[hp];exact hb)) (HRR.out.on (by rw[hp];exact hb))
    have e1:inE n l bs (csl C) ((j:Int)+1) q=0:=inE_ok HNR.out (by rw[HMM.out];exact hj) (by rw[csl_at];exact hq)
    have e2:chE n l bs (csl C) ((j:Int)+1) q=0:=by unfold chE;rw[e1,if_neg (fun h=>h rfl),if_neg (by omega)]
    obtain⟨b1,b2,_⟩:=HNR.out.lv (k:=j) (by rw[HMM.out];exact hj)
    obtain⟨d1,d2,_⟩:=HNR.out.lv (k:=j - 1) (by rw[HMM.out];omega)
    have hn:=HNR.out.nst (k:=j - 1) (by rw[HMM.out];omega)
    rw[show j - 1+1=j by omega] at hn
    rw[csl_at] at b1 b2 d1 d2
    rw[csl_at,csl_at] at hn
    refine h.mono ?_
    rintro e w' ⟨v,c,S,rfl,ho,hS,hb'⟩
    have hS:=hS.out
    unfold chV at hS
    rw[if_pos e2,show((j:Int)+1).toNat - 1=j by omega,show((j:Int)+1).toNat - 2=j - 1 by omega,csl_at,csl_at] at hS
    rw[e2]
    subst hS
    have hpos:0<(chL (cl C (j - 1)).xs (cl C j).xs q).length:=by
     have h1:=mbr_some b2 hq
     have h2:=mbr_mem.1 (getI h1)
     exact List.length_pos_of_mem ((ch_iff d2 hn q (by omega)).1 h2.2)
    obtain⟨g,c2,e,h1,h2⟩:=ho.form hpos
    cases e
    exact⟨g,_,rfl,h1,fun i hi=>own_cellI ho hi,hb'⟩
   have HPA:Hid (∀W2,Below p w W2→∀ (j q k:Nat),0<j→j<m→k∈chL (cl C (j - 1)).xs (cl C j).xs (q:Int)→Calls Tryz.prog 21 #[.agg #[.int .i64 n, .slice a l.length cap], .agg #[.slice ba bs.length bc, .slice ca C.length cc], .int .i64 (j:Int), .int .i64 (k:Nat)] W2 fun e w'=>e= .returned (.tuple #[.int .i64 (q:Int), .int .i64 0])∧Below W2.heap.size W2 w'):=fun W2 hb j q k hj0 hj hk=>by
    have h:=parent_any n a l cap ba bs bc ca C cc (j:Int) k W2 hl hbl' (HAR.out.on (by rw[hp];exact hb)) (HI.out.on (by rw[hp];exact hb)) (HRR.out.on (by rw[hp];exact hb))
    obtain⟨b1,b2,b3,_⟩:=HNR.out.lv (k:=j - 1) (by rw[HMM.out];omega)
    rw[csl_at] at b1 b2 b3
    obtain⟨k1,k2⟩:=ch_mem.1 hk
    have e1:inE n l bs (csl C) (j:Int) k=0:=by
     have:=inE_ok HNR.out (j:=j - 1) (q:=k) (by rw[HMM.out];omega) (by rw[csl_at,←ls_len b2];exact k1)
     rw[show((j - 1:Nat):Int)+1=j by omega] at this
     exact this
    have e2:paE n l bs (csl C) (j:Int) k=0:=by unfold paE;rw[e1,if_neg (fun h=>h rfl),if_neg (by rw[HMM.out];omega)]
    have e3:paV n l bs (csl C) (j:Int) k=q:=by
     unfold paV
     rw[if_pos e2,Int.toNat_natCast,csl_at,csl_at,Int.toNat_natCast]
     exact k2
    rw[e2,e3] at h
    exact h
   have HKM:Hid (∀j q k:Nat,0<j→j<m→k∈chL (cl C (j - 1)).xs (cl C j).xs (q:Int)→k<(szL (cl C (j - 1)).xs).length):=fun j q k hj0 hj hk=>by
    obtain⟨b1,b2,b3,_⟩:=HNR.out.lv (k:=j - 1) (by rw[HMM.out];omega)
    rw[csl_at] at b2
    rw[←ls_len b2]
    exact(ch_mem.1 hk).1
   have HLV:Hid (∀j:Nat,j<m→(cl C j).xs.length=n∧tdy (cl C j).xs 0=true∧wdB (szL (cl C j).xs) (bs.getD j 0)=true):=fun j hj=>by
    obtain⟨b1,b2,b3,_⟩:=HNR.out.lv (k:=j) (by rw[HMM.out];exact hj)
    rw[csl_at] at b1 b2 b3
    exact⟨by omega,b2,b3⟩
   have HNS:Hid (∀j:Nat,0<j→j<m→Nst (cl C (j - 1)).xs (cl C j).xs):=fun j h0 hj=>by
    have:=HNR.out.nst (k:=j - 1) (by rw[HMM.out];omega)
    rw[show j - 1+1=j by omega,csl_at,csl_at] at this
    exact this
   rw[HMM.out] at HCL HN1 HCM HMB HCH HPA
   have HBS:Hid (∀W2,Below p w W2→∃bb bo,ba=some ⟨bb,bo,none⟩∧∀j,j<m→W2.cell? ⟨bb,bo+j,none⟩=some (.int .i64 (bs.getD j 0))):=fun W2 hb=>by
    obtain⟨bb,bo,h⟩:=HI.out.get
    obtain⟨e,h1,h2⟩:=h (by rw[HMM.out];omega)
    exact⟨bb,bo,e,fun j hj=>(hb.cell (p:=⟨bb,bo+j,none⟩) (hp▸h1)).trans (h2 j (by rw[HMM.out];exact hj))⟩
   have HCS:Hid (∃cb co,ca=some ⟨cb,co,none⟩∧∀W2,Below p w W2→∀j,j<m→W2.cell? ⟨cb,co+j,none⟩=some (.slice (cl C j).a (cl C j).xs.length (cl C j).c)):=by
    obtain⟨cb,co,h⟩:=HRR.out.get
    obtain⟨e,h1,h2⟩:=h (by rw[HCL.out];omega)
    exact⟨cb,co,e,fun W2 hb j hj=>(hb.cell (p:=⟨cb,co+j,none⟩) (hp▸h1)).trans (h2 j (by rw[HCL.out];exact hj))⟩
   have HXS:Hid (∀j,j<m→0<(cl C j).xs.length→∃xb xo,(cl C j).a=some ⟨xb,xo,none⟩∧∀W2,Below p w W2→∀v,v<(cl C j).xs.length→W2.cell? ⟨xb,xo+v,none⟩=some (.int .i64 ((cl C j).xs.getD v 0))):=fun j hj h0=>by
    obtain⟨xb,xo,h⟩:=(HRR.out.2 j (by rw[HCL.out];exact hj)).1.get
    obtain⟨e,h1,h2⟩:=h h0
    exact⟨xb,xo,e,fun W2 hb v hv=>(hb.cell (p:=⟨xb,xo+v,none⟩) (hp▸h1)).trans (h2 v hv)⟩
   obtain⟨bb,bo,rfl⟩: ∃bb bo,ba=some ⟨bb,bo,none⟩:=by
    obtain⟨bb,bo,e,_⟩:=HBS.out w (Below.refl _ _)
    exact⟨bb,bo,e⟩
   have HBJ:Hid (∀W2,Below p w W2→∀j,j<m→W2.cell? ⟨bb,bo+j,none⟩=some (.int .i64 (bs.getD j 0))):=fun W2 hb=>by
    obtain⟨b2,o2,e,h⟩:=HBS.out W2 hb
    cases e
    exact h
   obtain⟨cb,co,rfl,hcs⟩:=HCS.out
   have HCJ:=hid hcs
   clear hcs HCS HBS HNR HI HRR HAR
   have hn1:(1:Int)≤n:=HN1n.out
   go_wp2_with fail
   go_loopw [7] (fun i wr=> ∃j:Nat,j≤m∧i= .int .i64 ((j:Int)+1)∧Hid (wr.heap[p]? =some (.cells #[.int .i64 n, .slice a l.length cap] 24))∧Hid (wr.heap[p+1]? =some (.cells #[.slice (some ⟨bb,bo,none⟩) m bc, .slice (some ⟨cb,co,none⟩) C.length cc] 28))∧Hid (Below p w wr)) (fun i _=>m+1 - (intOf i).toNat)
   case atStart=>exact⟨0,Nat.zero_le _,rfl,HN0,HN1,HB3⟩
   case round=>
    clear HN0 HN1 HB3
    obtain⟨j,hj,rfl,HP0,HP1,HBR⟩:=hrel
    have hwz:p+2≤wr.heap.size:=by have:=lt_of_block HP1.out;omega
    obtain⟨⟨g0,g1⟩,_⟩:=two_cells HP0.out
    obtain⟨⟨g2,g3⟩,_⟩:=two_cells HP1.out
    by_cases hjm:j<m
    ·have hjm':(j:Int)+1≤m:=by omega
     have HLJ:=hid (HLV.out j hjm)
     have HCC:=hid (HCM.out wr HBR.out j hjm)
     obtain⟨X,HX⟩:=named (cl C j).xs
     obtain⟨xa,HXA⟩:=named (cl C j).a
     obtain⟨xc,HXC⟩:=named (cl C j).c
     rw[HX.out] at HCC HLJ
     have HXT:=hid (HXS.out j hjm (by rw[HX.out,HLJ.out.1];omega))
     rw[HX.out,HXA.out] at HXT
     obtain⟨xb,xo,rfl,hxt⟩:=HXT.out
     have HXV:=hid hxt
     clear hxt HXT
     have HCV:Hid (∀W2,Below p w W2→W2.cell? ⟨cb,co+j,none⟩=some (.slice (some ⟨xb,xo,none⟩) n xc)):=fun W2 hb=>by
      have:=HCJ.out W2 hb j hjm
      rw[HX.out,HXA.out,HXC.out,HLJ.out.1] at this
      exact this
     have HMJ:Hid (∀W2,Below p w W2→∀q,q<(szL X).length→Calls Tryz.prog 16 #[.agg #[.int .i64 n, .slice a l.length cap], .agg #[.slice (some ⟨bb,bo,none⟩) m bc, .slice (some ⟨cb,co,none⟩) C.length cc], .int .i64 ((j:Int)+1), .int .i64 q] W2 fun e w'=> ∃g c,e= .returned (.tuple #[.slice (some ⟨g,0,none⟩) (mbr X q).length c, .int .i64 0])∧W2.heap.size≤g∧(∀i,i<(mbr X q).length→w'.cell? ⟨g,i,none⟩=some (.int .i64 ((mbr X q).getD i 0:Nat)))∧Below W2.heap.size W2 w'):=fun W2 hb q hq=>by
      have:=HMB.out W2 hb j q _ rfl hjm (by rw[HX.out];exact hq)
      rw[HX.out] at this
      exact this
     have HTD:Hid (tdy X 0=true):=HLJ.out.2.1
     have HWD:Hid (wdB (szL X) (bs.getD j 0)=true):=HLJ.out.2.2
     have HXN:Hid (X.length=n):=HLJ.out.1
     obtain⟨mn,HMN⟩:=named (szL X).length
     rw[HMN.out] at HCC HMJ
     have hmn:mn≤1024:=by
      have h1:=szL_length X
      rw[HMN.out,HXN.out] at h1
      omega
     obtain⟨bj,HBB⟩:=named (bs.getD j 0)
     rw[HBB.out] at HWD
     have HBJJ:Hid (∀W2,Below p w W2→W2.cell? ⟨bb,bo+j,none⟩=some (.int .i64 bj)):=fun W2 hb=>by rw[←HBB.out];exact HBJ.out W2 hb j hjm
     clear HLJ
     have ej:(j:Int)+1 - 1=j:=by omega
     have hjC:j<C.length:=by rw[HCL.out];exact hjm
     have hjC':(j:Int)<C.length:=by omega
     have hjb:(j:Int)<m:=by omega
     go_wp2_with fail
     refine HCC.out.mono ?_
     rintro e w4 ⟨rfl,hb4⟩
     have HB4:=hid (below_tr HBR.out hp hb4)
     have hz4:=hb4.size
     have HQ0:=hid ((hb4.block p (by omega)).trans HP0.out)
     have HQ1:=hid ((hb4.block (p+1) (by omega)).trans HP1.out)
     clear hb4 g0 g1 g2 g3 HP0 HP1 HBR HCC
     obtain⟨⟨g0,g1⟩,_⟩:=two_cells HQ0.out
     have hbY:Below w4.heap.size w4 (w4.alloc (.cells ((List.range n).map (fun _=>Value.bool false)).toArray 4)):=(Below.refl _ _).alloc (Nat.le_refl _) _
     have HA0:=hid ((hbY.block p (by omega)).trans HQ0.out)
     have HA1:=hid ((hbY.block (p+1) (by omega)).trans HQ1.out)
     have HBY:=hid (below_tr HB4.out hp hbY)
     have HTB:Hid (TbV (w4.alloc (.cells ((List.range n).map (fun _=>Value.bool false)).toArray 4)) w4.heap.size n 4 (fun v=> .bool (snB X 0 [] 0 v))):=by
      have h0:TbV (w4.alloc (.cells ((List.range n).map (fun _=>Value.bool false)).toArray 4)) w4.heap.size n 4 (fun _=>Value.bool false):=heap_top w4 _
      refine h0.congr (fun v hv=> ?_)
      have h1:=((ls_right HTD.out).2.2 v (by rw[HXN.out];exact hv)).1
      unfold snB
      rw[decide_eq_false (by omega)]
      rfl
     have hq4:p+2≤w4.heap.size:=by omega
     go_wp2_with fail
     generalize hq:w4.heap.size=q at*
     generalize hY:w4.alloc (.cells ((List.range n).map (fun _=>Value.bool false)).toArray 4)=Y at*
     clear hY HQ0 HQ1 HB4 hbY g0 g1
     go_loopw [58] (fun i ws=> ∃c:Nat,c≤mn∧i= .int .i64 c∧Hid (TbV ws q n 4 (fun v=> .bool (snB X c [] 0 v)))∧Hid (ws.heap[p]? =some (.cells #[.int .i64 n, .slice a l.length cap] 24))∧Hid (ws.heap[p+1]? =some (.cells #[.slice (some ⟨bb,bo,none⟩) m bc, .slice (some ⟨cb,co,none⟩) C.length cc] 28))∧Hid (Below p w ws)) (fun i _=>mn - (intOf i).toNat)
     case atStart=>exact⟨0,Nat.zero_le _,rfl,HTB,HA0,HA1,HBY⟩
     case round=>
      clear HTB HA0 HA1 HBY
      obtain⟨c,hc,rfl,HT,HP0,HP1,HBR⟩:=hrel
      have hwq:q<wr.heap.size:=HT.out.lt
      obtain⟨⟨g0,g1⟩,_⟩:=two_cells HP0.out
      obtain⟨⟨g2,g3⟩,_⟩:=two_cells HP1.out
      by_cases hcm:c<mn
      ·have hcm':(c:Int)<mn:=by omega
       have HMC:=hid (HMJ.out wr HBR.out c hcm)
       have hpos:0<(mbr X c).length:=mbr_some HTD.out (by rw[HMN.out];exact hcm)
       have hbd:((mbr X c).length:Int)≤bj:=mbr_bound HTD.out HWD.out (by rw[HMN.out];exact hcm)
       have HME:Hid (∀i,i<(mbr X c).length→(mbr X c).getD i 0<n∧X.getD ((mbr X c).getD i 0) 0=(c:Int)):=fun i hi=>by
        have:=mbr_mem.1 (getI hi)
        rw[HXN.out] at this
        exact this
       have HNO:Hid (∀i,i<(mbr X c).length→snB X c (mbr X c) i ((mbr X c).getD i 0)=false):=fun i hi=>snB_no hi
       have HEN:Hid (∀v,v<n→snB X c (mbr X c) (mbr X c).length v=snB X (c+1) [] 0 v):=fun v hv=>snB_end (by rw[HXN.out];exact hv)
       have hM8:(mbr X c).length≤1024:=by
        have h1:(mbr X c).length≤X.length:=by
         have:=List.length_filter_le (fun v=>decide (X.getD v 0=(c:Int))) (List.range X.length)
         rw[List.length_range] at this
         exact this
        rw[HXN.out] at h1
        omega
       obtain⟨M,HMQ⟩:=named (mbr X c)
       rw[HMQ.out] at HMC hpos hbd HME HNO HEN hM8
       have hM0:((M.length:Int)==0)=false:=by rw[beq_eq_false_iff_ne];omega
       have hMb:decide (bj<(M.length:Int))=false:=decide_eq_false (by omega)
       go_wp2_with fail
       refine HMC.out.mono ?_
       rintro e w5 ⟨gm,cm,rfl,hgm,hcell,hb5⟩
       have hz5:=hb5.size
       have HT5:Hid (TbV w5 q n 4 (fun v=> .bool (snB X c M 0 v))):=HT.out.same (hb5.block q hwq)
       have HB5:=hid (below_tr HBR.out hp hb5)
       have HQ0:=hid ((hb5.block p (by omega)).trans HP0.out)
       have HQ1:=hid ((hb5.block (p+1) (by omega)).trans HP1.out)
       have HMR:=hid hcell
       clear hb5 g0 g1 g2 g3 HMC HT HP0 HP1 HBR hcell
       obtain⟨⟨g2,g3⟩,_⟩:=two_cells HQ1.out
       have b0:=HBJJ.out _ HB5.out
       go_wp2_with fail
       clear g2 g3 b0
       go_loopw [89] (fun i ws=> ∃i':Nat,i'≤M.length∧i= .int .i64 i'∧Hid (TbV ws q n 4 (fun v=> .bool (snB X c M i' v)))∧Hid (∀i,i<M.length→ws.cell? ⟨gm,i,none⟩=some (.int .i64 (M.getD i 0:Nat)))∧Hid (ws.heap[p]? =some (.cells #[.int .i64 n, .slice a l.length cap] 24))∧Hid (ws.heap[p+1]? =some (.cells #[.slice (some ⟨bb,bo,none⟩) m bc, .slice (some ⟨cb,co,none⟩) C.length cc] 28))∧Hid (Below p w ws)) (fun i _=>M.length - (intOf i).toNat)
       case atStart=>exact⟨0,Nat.zero_le _,rfl,HT5,HMR,HQ0,HQ1,HB5⟩
       case round=>
        clear HT5 HMR HQ0 HQ1 HB5
        obtain⟨i,hi,rfl,HT,HMR,HP0,HP1,HBR⟩:=hrel
        have hwq:q<wr.heap.size:=HT.out.lt
        obtain⟨⟨g2,g3⟩,_⟩:=two_cells HP1.out
        by_cases hil:i<M.length
        ·have hil':(i:Int)<M.length:=by omega
         have m0:=HMR.out i hil
         obtain⟨hv,hxv⟩:=HME.out i hil
         have hno:=HNO.out i hil
         have HST:Hid (∀W2,TbV W2 q n 4 (fun v=> .bool (snB X c M i v))→TbV (W2.setCell ⟨q,M.getD i 0,none⟩ (.bool true)) q n 4 (fun v=> .bool (snB X c M (i+1) v))):=fun W2 h=>(h.set (M.getD i 0) (.bool true)).congr (fun v _=>snB_step hil v)
         obtain⟨v,HV⟩:=named (M.getD i 0)
         rw[HV.out] at m0 hv hxv hno HST
         have hv':(v:Int)<n:=by omega
         have t0:=HT.out.cell hv
         rw[hno] at t0
         have t1:=HT.out.free v
         have k0:=HCV.out _ HBR.out
         have x0:=HXV.out _ HBR.out v (by rw[HXN.out];exact hv)
         rw[hxv] at x0
         have hne:((c:Int) != (c:Int))=false:=by simp
         have HE1:Hid (∀y:Value,(wr.setCell ⟨q,v,none⟩ y).heap[p]? =some (.cells #[.int .i64 n, .slice a l.length cap] 24)):=fun y=>(Below.heap_setCell _ _ _ _ (by show p≠q;omega)).trans HP0.out
         have HE2:Hid (∀y:Value,(wr.setCell ⟨q,v,none⟩ y).heap[p+1]? =some (.cells #[.slice (some ⟨bb,bo,none⟩) m bc, .slice (some ⟨cb,co,none⟩) C.length cc] 28)):=fun y=>(Below.heap_setCell _ _ _ _ (by show p+1≠q;omega)).trans HP1.out
         have HE3:Hid (∀y:Value,Below p w (wr.setCell ⟨q,v,none⟩ y)):=fun y=>HBR.out.setCell (p:=⟨q,v,none⟩) (by show p≤q;omega) y
         have HE4:Hid (∀y:Value,∀i,i<M.length→(wr.setCell ⟨q,v,none⟩ y).cell? ⟨gm,i,none⟩=some (.int .i64 (M.getD i 0:Nat))):=fun y i hi=>(World.cell?_setCell_other _ _ _ _ (fun e=>by injection e with e;omega)).trans (HMR.out i hi)
         have HE5:=hid (HST.out _ HT.out)
         clear hno hxv HST
         go_wp2_with fail
         exact⟨⟨i+1,hil,by simp,HE5,HE4.out _,HE1.out _,HE2.out _,HE3.out _⟩,by simp[intOf];omega⟩
        ·have hil': ¬(i:Int)<M.length:=by omega
         have HTE:Hid (TbV wr q n 4 (fun v=> .bool (snB X (c+1) [] 0 v))):=by
          have e:i=M.length:=by omega
          rw[e] at HT
          exact HT.out.congr (fun v hv=>by rw[HEN.out v hv])
         clear HT HMR HEN HNO HME
         by_cases hj0:j=0
         ·have e0:((j:Int)+1==1)=true:=by simp;omega
          go_wp2_with fail
          exact⟨⟨c+1,hcm,by simp,HTE,HP0,HP1,HBR⟩,by simp[intOf];omega⟩
         ·have e0:((j:Int)+1==1)=false:=by simp;omega
          have hj1:0<j:=by omega
          have HC8:=hid (HCH.out wr HBR.out j c hj1 hjm (by rw[HX.out,HMN.out];exact hcm))
          obtain⟨Z,HZ⟩:=named (cl C (j - 1)).xs
          rw[HZ.out,HX.out] at HC8
          have HLZ:=hid (HLV.out (j - 1) (by omega))
          have HNZ:=hid (HNS.out j hj1 hjm)
          rw[HZ.out] at HLZ
          rw[HZ.out,HX.out] at HNZ
          have HSA:Hid (chS Z (chL Z X c) (chL Z X c).length=M.length):=by rw[←HMQ.out];exact chS_all HLZ.out.2.1 HNZ.out (by rw[HXN.out,HLZ.out.1]) c
          have HSS:Hid (∀i,i<(chL Z X c).length→chS Z (chL Z X c) (i+1)=chS Z (chL Z X c) i+(mbr Z ((chL Z X c).getD i 0:Nat)).length):=fun i hi=>chS_succ (ch_nodup _ _ _) hi
          have HSL:Hid (∀i,chS Z (chL Z X c) i≤1024):=fun i=>by
           have:=nmb_le Z (fun x=>((chL Z X c).take i).contains x.toNat&&decide (0≤x)) Z.length
           have h2:=HLZ.out.1
           unfold chS
           omega
          have HGM:Hid (∀i,i<(chL Z X c).length→(chL Z X c).getD i 0∈chL Z X c):=fun i hi=>getI hi
          have HML:Hid (∀W2,Below p w W2→∀k,k∈chL Z X c→Calls Tryz.prog 16 #[.agg #[.int .i64 n, .slice a l.length cap], .agg #[.slice (some ⟨bb,bo,none⟩) m bc, .slice (some ⟨cb,co,none⟩) C.length cc], .int .i64 (j:Int), .int .i64 (k:Nat)] W2 fun e w'=> ∃g c,e= .returned (.tuple #[.slice (some ⟨g,0,none⟩) (mbr Z (k:Nat)).length c, .int .i64 0])∧Below W2.heap.size W2 w'):=fun W2 hb k hk=>by
           have hk2:=HKM.out j c k hj1 hjm (by rw[HZ.out,HX.out];exact hk)
           have:=HMB.out W2 hb (j - 1) k (j:Int) (by omega) (by omega) hk2
           rw[HZ.out] at this
           refine this.mono ?_
           rintro e w' ⟨g,c,h1,_,_,h2⟩
           exact⟨g,c,h1,h2⟩
          have HPL:Hid (∀W2,Below p w W2→∀k,k∈chL Z X c→Calls Tryz.prog 21 #[.agg #[.int .i64 n, .slice a l.length cap], .agg #[.slice (some ⟨bb,bo,none⟩) m bc, .slice (some ⟨cb,co,none⟩) C.length cc], .int .i64 (j:Int), .int .i64 (k:Nat)] W2 fun e w'=>e= .returned (.tuple #[.int .i64 (c:Int), .int .i64 0])∧Below W2.heap.size W2 w'):=fun W2 hb k hk=>HPA.out W2 hb j c k hj1 hjm (by rw[HZ.out,HX.out];exact hk)
          have hK8:(chL Z X c).length≤1024:=by
           have h1:=chT_len X (lsL Z 0 []) (c:Int) (lsL Z 0 []).length
           have h2:=ls_len HLZ.out.2.1
           have h3:=szL_length Z
           have h4:=HLZ.out.1
           unfold chL
           omega
          obtain⟨K,HKK⟩:=named (chL Z X c)
          rw[HKK.out] at HC8 HSA HSS HSL HGM HML HPL hK8
          have S0:Hid (chS Z K 0=0):=chS_zero Z K
          obtain⟨⟨g0,g1⟩,_⟩:=two_cells HP0.out
          clear HLZ HNZ HKK
          go_wp2_with fail
          refine HC8.out.mono ?_
          rintro e w6 ⟨gk,ck,rfl,hgk,hcell,hb6⟩
          have hz6:=hb6.size
          have HT6:=hid (HTE.out.same (hb6.block q hwq))
          have HB6:=hid (below_tr HBR.out hp hb6)
          have HR0:=hid ((hb6.block p (by omega)).trans HP0.out)
          have HR1:=hid ((hb6.block (p+1) (by omega)).trans HP1.out)
          have HKR:=hid hcell
          have HKl:Hid (gk<w6.heap.size∨K.length=0):=by
           by_cases h0:0<K.length
           ·exact Or.inl (World.block_lt_of_cell? w6 _ (hcell 0 h0))
           ·exact Or.inr (by omega)
          clear hb6 g0 g1 g2 g3 HC8 HTE HP0 HP1 HBR hcell
          go_wp2_with fail
          go_loopw [18,126] (fun s i ws=> ∃ (i' sm:Nat),i'≤K.length∧i= .int .i64 i'∧s= .int .i64 sm∧Hid (chS Z K i'=sm)∧Hid (TbV ws q n 4 (fun v=> .bool (snB X (c+1) [] 0 v)))∧Hid (∀i,i<K.length→ws.cell? ⟨gk,i,none⟩=some (.int .i64 (K.getD i 0:Nat)))∧Hid (ws.heap[p]? =some (.cells #[.int .i64 n, .slice a l.length cap] 24))∧Hid (ws.heap[p+1]? =some (.cells #[.slice (some ⟨bb,bo,none⟩) m bc, .slice (some ⟨cb,co,none⟩) C.length cc] 28))∧Hid (Below p w ws)) (fun _ i _=>K.length - (intOf i).toNat)
          case atStart=>exact⟨0,0,Nat.zero_le _,rfl,rfl,S0,HT6,HKR,HR0,HR1,HB6⟩
          case round=>
           clear HT6 HKR HR0 HR1 HB6 S0
           obtain⟨i,sm,hi,rfl,rfl,HSM,HT,HKR,HP0,HP1,HBR⟩:=hrel
           have hwq:q<wr.heap.size:=HT.out.lt
           obtain⟨⟨g0,g1⟩,_⟩:=two_cells HP0.out
           obtain⟨⟨g2,g3⟩,_⟩:=two_cells HP1.out
           by_cases hil:i<K.length
           ·have hil':(i:Int)<K.length:=by omega
            have m0:=HKR.out i hil
            have HSN:=hid (HSS.out i hil)
            have hs1:=HSL.out (i+1)
            have hmem:=HGM.out i hil
            obtain⟨k,HKN⟩:=named (K.getD i 0)
            rw[HKN.out] at m0 HSN hmem
            rw[HSM.out] at HSN
            obtain⟨lm,HLM⟩:=named (mbr Z (k:Nat)).length
            rw[HLM.out] at HSN
            rw[HSN.out] at hs1
            have HC1:=hid (HML.out wr HBR.out k hmem)
            rw[HLM.out] at HC1
            have HPL2:Hid (∀W2,Below p w W2→Calls Tryz.prog 21 #[.agg #[.int .i64 n, .slice a l.length cap], .agg #[.slice (some ⟨bb,bo,none⟩) m bc, .slice (some ⟨cb,co,none⟩) C.length cc], .int .i64 (j:Int), .int .i64 (k:Nat)] W2 fun e w'=>e= .returned (.tuple #[.int .i64 (c:Int), .int .i64 0])∧Below W2.heap.size W2 w'):=fun W2 hb=>HPL.out W2 hb k hmem
            clear hmem HKN
            go_wp2_with fail
            refine HC1.out.mono ?_
            rintro e w7 ⟨gz,cz,rfl,hb7⟩
            have hz7:=hb7.size
            have HT7:=hid (HT.out.same (hb7.block q hwq))
            have HB7:=hid (below_tr HBR.out hp hb7)
            have HR0:=hid ((hb7.block p (by omega)).trans HP0.out)
            have HR1:=hid ((hb7.block (p+1) (by omega)).trans HP1.out)
            have HKR7:Hid (∀i,i<K.length→w7.cell? ⟨gk,i,none⟩=some (.int .i64 (K.getD i 0:Nat))):=fun i hi=>(hb7.cell (p:=⟨gk,i,none⟩) (World.block_lt_of_cell? wr _ (HKR.out i hi))).trans (HKR.out i hi)
            clear hb7 g0 g1 g2 g3 HC1 HT HP0 HP1 HBR HKR m0
            obtain⟨⟨g0,g1⟩,_⟩:=two_cells HR0.out
            obtain⟨⟨g2,g3⟩,_⟩:=two_cells HR1.out
            go_wp2_with fail
            refine(HPL2.out w7 HB7.out).mono ?_
            rintro e w8 ⟨rfl,hb8⟩
            have hz8:=hb8.size
            have HT8:=hid (HT7.out.same (hb8.block q (by omega)))
            have HB8:=hid (below_tr HB7.out hp hb8)
            have HU0:=hid ((hb8.block p (by omega)).trans HR0.out)
            have HU1:=hid ((hb8.block (p+1) (by omega)).trans HR1.out)
            have HKR8:Hid (∀i,i<K.length→w8.cell? ⟨gk,i,none⟩=some (.int .i64 (K.getD i 0:Nat))):=fun i hi=>(hb8.cell (p:=⟨gk,i,none⟩) (World.block_lt_of_cell? w7 _ (HKR7.out i hi))).trans (HKR7.out i hi)
            clear hb8 g0 g1 g2 g3 HT7 HR0 HR1 HB7 HKR7
            have hne:((c:Int) != (c:Int))=false:=by simp
            go_wp2_with fail
            exact⟨⟨i+1,sm+lm,hil,by simp,by simp,HSN,HT8,HKR8,HU0,HU1,HB8⟩,by simp[intOf];omega⟩
           ·have hil': ¬(i:Int)<K.length:=by omega
            have hsm:sm=M.length:=by
             have e:i=K.length:=by omega
             rw[←HSM.out,←HSA.out,e]
            have hs2:((sm:Int) != (M.length:Int))=false:=by simp;omega
            clear hsm HSM HSA
            go_wp2_with fail
            exact⟨⟨c+1,hcm,by simp,HT,HP0,HP1,HBR⟩,by simp[intOf];omega⟩
      ·have hcm': ¬(c:Int)<mn:=by omega
       have HAL:Hid (∀v,v<n→snB X c [] 0 v=true):=fun v hv=>by
        obtain⟨y,h1,h2⟩:=right_lt HTD.out (u:=v) (by rw[HXN.out];exact hv)
        unfold snB
        rw[h1,decide_eq_true (by rw[HMN.out] at h2;omega)]
        rfl
       clear g0 g1 g2 g3
       go_wp2_with fail
       go_loopw [175] (fun i ws=> ∃v:Nat,v≤n∧i= .int .i64 v∧ws=wr) (fun i _=>n - (intOf i).toNat)
       case atStart=>exact⟨0,Nat.zero_le _,rfl,rfl⟩
       case round=>
        obtain⟨v,hv,rfl,rfl⟩:=hrel
        by_cases hvn:v<n
        ·have hvn':(v:Int)<n:=by omega
         have t0:=HT.out.cell hvn
         rw[HAL.out v hvn] at t0
         go_wp2_with fail
         exact⟨⟨v+1,hvn,by simp,by first | rfl | trivial⟩,by simp[intOf];omega⟩
        ·have hvn': ¬(v:Int)<n:=by omega
         go_wp2_with fail
         exact⟨⟨j+1,hjm,by simp,HP0,HP1,HBR⟩,by simp[intOf];omega⟩
    ·have hjm': ¬(j:Int)+1≤m:=by omega
     go_wp2_with fail
     go_ret
     exact⟨rfl,HBR.out⟩
  ·have e1:(E != 0)=true:=by simpa using hE
   go_wp2_with fail
   go_ret
   exact⟨rfl,HB3.out⟩
 ·go_wp2_with fail
  go_ret
  exact⟨rfl,HB2.out⟩
end Go.Proofs.YtmenajiceaicpaaGreat.Prt
