import Derived.Test.YtaafkpojjdjphaaGreatYAO
set_option maxRecDepth 100000
namespace Go.Proofs.YtaafkpojjdjphaaGreat
open Go.RowKit
set_option maxHeartbeats 3200000 in
theorem sameM_any(m0 m1 m2:Int)(v v':Option Addr)(c c':Nat)(X:List Int)(w:World)(hlen:X.length≤9223372036854775807)(h:Dts w v X)(h':Dts w v' X):
  Calls Tryz.prog 22 #[.agg #[.int .i64 m0, .int .i64 m1, .int .i64 m2, .slice v X.length c], .agg #[.int .i64 m0, .int .i64 m1, .int .i64 m2, .slice v' X.length c']] w fun e w'=>e= .returned (.bool true)∧Below w.heap.size w w':=by
 obtain⟨hg0,hg1,hb0,hsz⟩:=top2 w (.cells #[.int .i64 m0, .int .i64 m1, .int .i64 m2, .slice v X.length c] 40) (.cells #[.int .i64 m0, .int .i64 m1, .int .i64 m2, .slice v' X.length c'] 40)
 obtain⟨⟨a0,a1,a2,a3⟩,_⟩:=four_cells hg0
 obtain⟨⟨b0,b1,b2,b3⟩,_⟩:=four_cells hg1
 have HSD:=Lib.hid (sameD_any v v' c c' X _ hlen (h.on hb0) (h'.on hb0))
 have HB0:=Lib.hid hb0
 have e0:(m0==m0)=true:=by simp
 have e1:(m1==m1)=true:=by simp
 have e2:(m2==m2)=true:=by simp
 clear h h' hb0 hg0 hg1
 generalize hp:w.heap.size=p at*
 go_enter Tryz.func22,Tryz.ntmps22
 go_wp2_with fail
 refine HSD.out.mono ?_
 rintro e w2 ⟨rfl,hb2⟩
 have HB2:Hid (Below p w w2):=HB0.out.trans (hb2.mono (by omega))
 clear hb2 HSD
 go_wp2_with fail
 go_ret
 exact⟨rfl,HB2.out⟩
theorem mts_of{w:World}{B:Nat}{v:Option Addr}{c:Nat}{M:List Mt}(h:w.ownsRow B 40 4 (.slice v M.length c) M.length (cellsM M))(hD: ∀i,i<M.length→Dts w (mt M i).a (mt M i).D∧(mt M i).D.length≤9223372036854775807∧∀k,k<(mt M i).D.length→0≤(mt M i).D.getD k 0∧(mt M i).D.getD k 0≤N5.Inf):Mts w v M:=by
 refine⟨?_,hD⟩
 by_cases h0:0<M.length
 ·obtain⟨g,c2,e,_,hl⟩:=World.ownsRow.form h h0
  cases e
  refine Or.inr ⟨g,0,rfl,hl,fun j hj=> ?_⟩
  obtain⟨q0,q1,q2,q3⟩:=cellsM_at M j hj
  have hml:=cellsM_len M
  rw[Nat.zero_add,World.ownsRow.cellAt h (j*4) (by omega),World.ownsRow.cellAt h (j*4+1) (by omega),World.ownsRow.cellAt h (j*4+2) (by omega),World.ownsRow.cellAt h (j*4+3) (by omega)]
  exact⟨q0,q1,q2,q3⟩
 ·exact Or.inl (List.eq_nil_of_length_eq_zero (by omega))
theorem wq_zero{n:Nat}{l:List A}{ids:List Nat}(h:chkE n l=0)(h8:ids.length≤8192)(hid: ∀i,i<ids.length→ids.getD i 0<l.length):wqE n l (ints ids)=0:=by
 unfold wqE
 rw[h,if_neg (fun h=>h rfl),if_neg (by rw[ints_len];omega),if_pos]
 rw[List.all_eq_true]
 intro x hx
 unfold ints at hx
 obtain⟨k,hk,rfl⟩:=List.mem_map.1 hx
 obtain⟨i,hi,e⟩:=mem_getD.1 hk
 have:=hid i hi
 exact decide_eq_true (by omega)
theorem wt_ok{l:List A}{ids:List Nat}(hwt: ∀x∈l,0≤x.w∧x.w<4294967296)(hid: ∀i,i<ids.length→ids.getD i 0<l.length): ∀i,i<(wtL l (ints ids)).length→0≤(wtL l (ints ids)).getD i 0∧(wtL l (ints ids)).getD i 0<4294967296:=fun i hi=>by
 have hi':i<ids.length:=by simpa[wtL,ints_len] using hi
 rw[wtL_at (by rw[ints_len];exact hi'),ints_getD hi',Int.toNat_natCast]
 exact hwt _ (getA_memU (hid i hi'))
set_option maxHeartbeats 12800000 in
theorem rises_any(N:Int)(a:Option Addr)(l:List A)(cap:Nat)(ba:Option Addr)(bs:List Int)(bc:Nat)(ca:Option Addr)(C:List Cl)(cc:Nat)(w:World)(hlen:l.length*24≤140737488351232)(hbl:bs.length*8≤140737488351232)(hwt: ∀x∈l,0≤x.w∧x.w<4294967296)(hr:Arcs w a l)(hi:Ints w ba bs)(hR:Rws w ca C):
  Calls Tryz.prog 4 #[.agg #[.int .i64 N, .slice a l.length cap], .agg #[.slice ba bs.length bc, .slice ca C.length cc]] w fun e w'=>e= .returned (.bool true)∧Below w.heap.size w w':=by
 have hl:l.length≤9223372036854775807:=by omega
 have hbl':bs.length≤9223372036854775807:=by omega
 obtain⟨hg0,hg1,hb0,hsz⟩:=top2 w (.cells #[.int .i64 N, .slice a l.length cap] 24) (.cells #[.slice ba bs.length bc, .slice ca C.length cc] 28)
 have HAR:=Lib.hid hr
 have HI:=Lib.hid hi
 have HRR:=Lib.hid hR
 have HWT:=Lib.hid hwt
 have HB0:=Lib.hid hb0
 have HG0:=Lib.hid hg0
 have HG1:=Lib.hid hg1
 clear hr hi hR hb0 hg0 hg1 hwt
 generalize hp:w.heap.size=p at*
 go_enter Tryz.func4,Tryz.ntmps4
 go_wp2_with fail
 generalize hW:(w.alloc (.cells #[.int .i64 N, .slice a l.length cap] 24)).alloc (.cells #[.slice ba bs.length bc, .slice ca C.length cc] 28)=W at*
 clear hW
 refine(works13_any W).mono ?_
 rintro e w1 ⟨rfl,hb1⟩
 have HB1:=Lib.hid (below_tr HB0.out hp hb1)
 have hz1:=hb1.size
 have HK0:=Lib.hid ((hb1.block p (by omega)).trans HG0.out)
 have HK1:=Lib.hid ((hb1.block (p+1) (by omega)).trans HG1.out)
 obtain⟨⟨g0,g1⟩,_⟩:=two_cells HK0.out
 obtain⟨⟨g2,g3⟩,_⟩:=two_cells HK1.out
 clear hb1 HB0 HG0 HG1
 have HCKN:=Lib.hid (ncheck_any N a l cap ba bs bc ca C cc w1 hl hbl' (HAR.out.on (by rw[hp];exact HB1.out)) (HI.out.on (by rw[hp];exact HB1.out)) (HRR.out.on (by rw[hp];exact HB1.out)))
 obtain⟨E,HE⟩:=named (nsE N l bs (csl C))
 rw[HE.out] at HCKN
 generalize nsW N l bs (csl C)=nw at*
 go_wp2_with fail
 refine HCKN.out.mono ?_
 rintro e w2 ⟨rfl,hb2⟩
 have HB2:=Lib.hid (below_tr HB1.out hp hb2)
 have hz2:=hb2.size
 have HM0:=Lib.hid ((hb2.block p (by omega)).trans HK0.out)
 have HM1:=Lib.hid ((hb2.block (p+1) (by omega)).trans HK1.out)
 clear hb2 g0 g1 g2 g3 HK0 HK1 HB1 HCKN
 obtain⟨⟨g0,g1⟩,_⟩:=two_cells HM0.out
 by_cases hE:E=0
 ·subst hE
  have HLG:=Lib.hid (large_any N a l cap w2 hl (HAR.out.on (by rw[hp];exact HB2.out)))
  obtain⟨V,HV⟩:=named (lgB N l)
  rw[HV.out] at HLG
  go_wp2_with fail
  refine HLG.out.mono ?_
  rintro e w3 ⟨rfl,hb3⟩
  have HB3:=Lib.hid (below_tr HB2.out hp hb3)
  have hz3:=hb3.size
  have HN0:=Lib.hid ((hb3.block p (by omega)).trans HM0.out)
  have HN1:=Lib.hid ((hb3.block (p+1) (by omega)).trans HM1.out)
  clear hb3 g0 g1 HM0 HM1 HB2 HLG HV
  cases V
  ·have hNR:=nsE_zero.1 HE.out
   obtain⟨n,rfl⟩: ∃n:Nat,N=n:=⟨N.toNat,by have:=(chk_zero hNR.1).1;omega⟩
   have HNR:=Lib.hid hNR
   have hm5:bs.length≤5:=hNR.2.2.1
   have HE0:=Lib.hid (nsE_zero.2 hNR)
   clear hNR HE
   have HLV:Hid (∀W2,Below p w W2→∀ (j:Nat) (K:Int),K=(j:Int)+1→j<bs.length→Calls Tryz.prog 30 #[.agg #[.int .i64 n, .slice a l.length cap], .agg #[.slice ba bs.length bc, .slice ca C.length cc], .int .i64 K] W2 fun e w'=> ∃v c M,e= .returned (.tuple #[.slice v M.length c, .bool true])∧Lvd w' W2.heap.size n l bs (csl C) j v c M (szL (lvl (csl C) j)).length∧Below W2.heap.size W2 w'):=fun W2 hb j K hK hj=>by
    subst hK
    exact leveled_any n a l cap ba bs bc ca C cc j W2 HNR.out hj hl hbl' (HAR.out.on (hp▸hb)) (HI.out.on (hp▸hb)) (HRR.out.on (hp▸hb)) HWT.out
   have HWE:Hid (∀W2,Below p w W2→∀ (v:Option Addr) (ids:List Nat) (dc:Nat),ids.length≤8192→(∀i,i<ids.length→ids.getD i 0<l.length)→Ints W2 v (ints ids)→Calls Tryz.prog 32 #[.agg #[.int .i64 n, .slice a l.length cap], .slice v ids.length dc] W2 fun e w'=> ∃g,e= .returned (.tuple #[.slice (some ⟨g,0,none⟩) ids.length ids.length, .int .i64 0])∧Wts w' (some ⟨g,0,none⟩) (wtL l (ints ids))∧Below W2.heap.size W2 w'):=fun W2 hb v ids dc h8 hid hin=>by
    have h:=weights_any n a l cap v (ints ids) dc W2 hl (by rw[ints_len];omega) (HAR.out.on (hp▸hb)) hin
    rw[ints_len] at h
    refine h.mono ?_
    rintro e w' ⟨h1,_,h3⟩
    obtain⟨g,e1,_,e2⟩:=h1 (wq_zero HNR.out.1 h8 hid)
    exact⟨g,e1,e2,h3⟩
   go_wp2_with fail
   go_loopw [7] (fun i wr=> ∃j:Nat,j≤bs.length∧i= .int .i64 ((j:Int)+1)∧Hid (wr.heap[p]? =some (.cells #[.int .i64 n, .slice a l.length cap] 24))∧Hid (wr.heap[p+1]? =some (.cells #[.slice ba bs.length bc, .slice ca C.length cc] 28))∧Hid (Below p w wr)) (fun i _=>bs.length+1 - (intOf i).toNat)
   case atStart=>exact⟨0,Nat.zero_le _,rfl,HN0,HN1,HB3⟩
   case round=>
    clear HN0 HN1 HB3
    obtain⟨j,hj,rfl,HP0,HP1,HBR⟩:=hrel
    have hwz:p+2≤wr.heap.size:=by have:=lt_of_block HP1.out;omega
    obtain⟨⟨g0,g1⟩,_⟩:=two_cells HP0.out
    obtain⟨⟨g2,g3⟩,_⟩:=two_cells HP1.out
    by_cases hjm:j<bs.length
    ·have hjm':(j:Int)+1≤bs.length:=by omega
     have HL1:=Lib.hid (HLV.out wr HBR.out j _ rfl hjm)
     go_wp2_with fail
     refine HL1.out.mono ?_
     rintro e w4 ⟨v4,c4,M,rfl,hL4,hb4⟩
     have HL4:=Lib.hid hL4
     have HRG:=Lib.hid hL4.right
     have hz4:=hb4.size
     have HB4:=Lib.hid (below_tr HBR.out hp hb4)
     have HX0:=Lib.hid ((hb4.block p (by omega)).trans HP0.out)
     have HX1:=Lib.hid ((hb4.block (p+1) (by omega)).trans HP1.out)
     have HMlen:M.length≤1024:=by
      have h1:=hL4.len
      have h2:=szL_length (lvl (csl C) j)
      obtain⟨b1,_⟩:=HNR.out.lv (k:=j) hjm
      have h3:=(chk_zero HNR.out.1).2.1
      omega
     clear hL4 hb4 HL1 HP0 HP1 HBR g0 g1 g2 g3
     generalize hq4:w4.heap.size=q4 at*
     go_wp2_with fail
     go_loopw [61] (fun i ws=> ∃c:Nat,c≤M.length∧i= .int .i64 c∧Hid (Below q4 w4 ws)) (fun i _=>M.length - (intOf i).toNat)
     case atStart=>exact⟨0,Nat.zero_le _,rfl,hq4▸Below.refl _ _⟩
     case round=>
      obtain⟨c,hc,rfl,HBS⟩:=hrel
      have hws:q4≤wr.heap.size:=by have:=HBS.out.size;omega
      by_cases hcm:c<M.length
      ·have hcm':(c:Int)<M.length:=by omega
       obtain⟨vb,vc2,e5,hvb,hvbl⟩:=World.ownsRow.form HL4.out.row (by omega)
       cases e5
       have hrow:=HL4.out.row
       obtain⟨q0,q1,q2,q3⟩:=cellsM_at M c hcm
       have hml:=cellsM_len M
       have HPC:Hid (∀r u,r<4→(cellsM M)[c*4+r]? =some u→wr.cell? ⟨vb,c*4+r,none⟩=some u):=fun r u hr4 hu=>by
        rw[←World.ownsRow.cellAt hrow (c*4+r) (by omega)] at hu
        exact(HBS.out.cell (p:=⟨vb,c*4+r,none⟩) (by show vb<q4;omega)).trans hu
       obtain⟨r1,r2,r3,r4⟩:=HRG.out.rgt c hcm
       rw[r1] at q0
       rw[r2] at q1
       rw[r3] at q2
       have y0:=HPC.out 0 _ (by omega) q0
       have y1:=HPC.out 1 _ (by omega) q1
       have y2:=HPC.out 2 _ (by omega) q2
       have y3:=HPC.out 3 _ (by omega) q3
       rw[Nat.add_zero] at y0
       have HWD:=Lib.hid (HL4.out.mem c hcm)
       have hq:c<(szL (lvl (csl C) j)).length:=by rw[←HRG.out.len];exact hcm
       have HQ:=Lib.hid hq
       have HXE:=Lib.hid r4
       have hX63:(mt M c).D.length≤9223372036854775807:=by
        rw[r4,mxL_len]
        have hb:= @bd_len n l bs (csl C) ((j:Int)+1) (c:Nat)
        exact Nat.le_trans (Nat.mul_le_mul hb hb) (by omega)
       clear q0 q1 q2 q3 hml HPC hrow r1 r2 r3 r4 hq
       obtain⟨X,HX⟩:=named (mt M c).D
       rw[HX.out] at y3 HWD HXE hX63
       obtain⟨wa,HWA⟩:=named (mt M c).a
       rw[HWA.out] at y3 HWD
       obtain⟨wc,HWC⟩:=named (mt M c).c
       rw[HWC.out] at y3 HWD
       have HSM:Hid (∀ (lv:Int) (rv:Option Addr) (rc:Nat) (W2:World),Below q4 w4 W2→Dts W2 rv X→lv=(j:Int)+1→Calls Tryz.prog 22 #[.agg #[.int .i64 lv, .int .i64 (c:Nat), .int .i64 0, .slice rv X.length rc], .agg #[.int .i64 ((j:Int)+1), .int .i64 (c:Nat), .int .i64 0, .slice wa X.length wc]] W2 fun e w'=>e= .returned (.bool true)∧Below W2.heap.size W2 w'):=fun lv rv rc W2 hb hd hlv=>by
        rw[hlv]
        exact sameM_any ((j:Int)+1) (c:Nat) 0 rv wa rc wc X W2 hX63 hd (dts_own (own_on HWD.out (hq4▸hb)))
       have HCK:Hid (∀ (lv:Int) (rv:Option Addr) (rc:Nat) (W2:World),Below q4 w4 W2→lv=(j:Int)+1→Calls Tryz.prog 23 #[.agg #[.int .i64 n, .slice a l.length cap], .agg #[.slice ba bs.length bc, .slice ca C.length cc], .agg #[.int .i64 lv, .int .i64 (c:Nat), .int .i64 0, .slice rv X.length rc]] W2 fun e w'=>e= .returned (.int .i64 0)∧Below W2.heap.size W2 w'):=fun lv rv rc W2 hb hlv=>by
        have hbw:Below p w W2:=HB4.out.trans (hb.mono (by omega))
        have h:=cqCheck_any n a l cap ba bs bc ca C cc lv (c:Nat) 0 rv X.length rc W2 hl hbl' (HAR.out.on (hp▸hbw)) (HI.out.on (hp▸hbw)) (HRR.out.on (hp▸hbw))
        have e:mcE n l bs (csl C) lv (c:Nat) 0 X.length=0:=by
         unfold mcE
         rw[HE0.out,if_neg (fun h=>h rfl),hlv,if_pos]
         refine⟨inE_ok HNR.out hjm HQ.out,?_⟩
         unfold mbB
         rw[HXE.out,mxL_len]
         simp
         decide
        rw[e] at h
        exact h
       obtain⟨hA1,hA2,hbA,hzA⟩:=top2 wr (.cells #[.int .i64 ((j:Int)+1), .int .i64 (c:Nat), .int .i64 0, .slice wa X.length wc] 40) (.cells #[.int .i64 0, .int .i64 0, .int .i64 0, .slice none 0 0] 40)
       have HA1:=Lib.hid hA1
       have HA2:=Lib.hid hA2
       have HBA:Hid (Below q4 w4 ((wr.alloc (.cells #[.int .i64 ((j:Int)+1), .int .i64 (c:Nat), .int .i64 0, .slice wa X.length wc] 40)).alloc (.cells #[.int .i64 0, .int .i64 0, .int .i64 0, .slice none 0 0] 40))):=HBS.out.trans (hbA.mono hws)
       clear hA1 hA2 hbA HWA HWC
       by_cases hj0:j=0
       ·have e0:((j:Int)+1==1)=true:=by simp;omega
        have HELV:Hid ((1:Int)=(j:Int)+1):=by show _=_;omega
        have HIN0:Hid (inE n l bs (csl C) 1 (c:Nat)=0):=by
         show _=_
         rw[HELV.out]
         exact inE_ok HNR.out hjm HQ.out
        obtain⟨n2,en2,_,hid,h8,_⟩:=by_facts HIN0.out
        have HID:=Lib.hid hid
        have HIc:Hid (∀W2,Below p w W2→Calls Tryz.prog 31 #[.agg #[.int .i64 n, .slice a l.length cap], .agg #[.slice ba bs.length bc, .slice ca C.length cc], .int .i64 1, .int .i64 (c:Nat)] W2 fun e w'=> ∃v,e= .returned (.tuple #[.slice v (inV n l bs (csl C) 1 (c:Nat)).length (inV n l bs (csl C) 1 (c:Nat)).length, .int .i64 0])∧RowI w' W2.heap.size v (ints (inV n l bs (csl C) 1 (c:Nat)))∧Below W2.heap.size W2 w'):=fun W2 hb=>by
         have h:=inner_any n a l cap ba bs bc ca C cc 1 (c:Nat) W2 hl hbl' (HAR.out.on (hp▸hb)) (HI.out.on (hp▸hb)) (HRR.out.on (hp▸hb))
         rw[HIN0.out] at h
         exact h
        have HLf:Hid (∀W2,Below p w W2→∀g,Wts W2 (some ⟨g,0,none⟩) (wtL l (ints (inV n l bs (csl C) 1 (c:Nat))))→Calls Tryz.prog 33 #[.agg #[.int .i64 n, .slice a l.length cap], .agg #[.slice ba bs.length bc, .slice ca C.length cc], .int .i64 (c:Nat), .int .i64 0, .slice (some ⟨g,0,none⟩) (inV n l bs (csl C) 1 (c:Nat)).length (inV n l bs (csl C) 1 (c:Nat)).length] W2 fun e w'=> ∃v c',e= .returned (.tuple #[.agg #[.int .i64 1, .int .i64 (c:Nat), .int .i64 0, .slice v X.length c'], .int .i64 0])∧w'.ownsRow W2.heap.size 48 1 (.slice v X.length c') X.length (cellsU X)∧Below W2.heap.size W2 w'):=fun W2 hb g hw=>by
         have h:=leaf_any n a l cap ba bs bc ca C cc (c:Nat) 0 (some ⟨g,0,none⟩) (wtL l (ints (inV n l bs (csl C) 1 (c:Nat)))) (inV n l bs (csl C) 1 (c:Nat)).length W2 hl hbl' (HAR.out.on (hp▸hb)) (HI.out.on (hp▸hb)) (HRR.out.on (hp▸hb)) hw (wt_ok HWT.out HID.out)
         have hwl:(wtL l (ints (inV n l bs (csl C) 1 (c:Nat)))).length=(inV n l bs (csl C) 1 (c:Nat)).length:=by rw[wtL_len,ints_len]
         rw[hwl] at h
         have e:byE n l bs (csl C) 1 (c:Nat) 0 (inV n l bs (csl C) 1 (c:Nat)).length=0:=by
          unfold byE jbE
          rw[HIN0.out,if_neg (fun h=>h rfl),if_neg (by decide),if_neg (by simp)]
         have eX:mxL (wgL l (inV n l bs (csl C) 1 (c:Nat)) (wtL l (ints (inV n l bs (csl C) 1 (c:Nat))))) (bdV n l bs (csl C) 1 (c:Nat))=X:=by
          have:=HXE.out
          rw[←HELV.out] at this
          exact this.symm
         rw[eX] at h
         refine h.mono ?_
         rintro e' w' ⟨h1,_,h3⟩
         obtain⟨v,c',g1,g2,_⟩:=h1 e
         exact⟨v,c',g1,g2,h3⟩
        have HWEc:=Lib.hid (fun W2 hb v dc hin=>HWE.out W2 hb v (inV n l bs (csl C) 1 (c:Nat)) dc h8 HID.out hin)
        clear hid en2
        obtain⟨ids,HIDS⟩:=named (inV n l bs (csl C) 1 (c:Nat))
        rw[HIDS.out] at HIc HLf HWEc
        have HBAw:Hid (Below p w ((wr.alloc (.cells #[.int .i64 ((j:Int)+1), .int .i64 (c:Nat), .int .i64 0, .slice wa X.length wc] 40)).alloc (.cells #[.int .i64 0, .int .i64 0, .int .i64 0, .slice none 0 0] 40))):=HB4.out.trans (HBA.out.mono (by omega))
        have HI5:=Lib.hid (HIc.out _ HBAw.out)
        clear hj0 HIc
        obtain⟨⟨z0,z1⟩,_⟩:=two_cells ((HBA.out.block p (by omega)).trans HX0.out)
        obtain⟨⟨z2,z3⟩,_⟩:=two_cells ((HBA.out.block (p+1) (by omega)).trans HX1.out)
        go_wp2_with fail
        generalize hWz:((wr.alloc (.cells #[.int .i64 ((j:Int)+1), .int .i64 (c:Nat), .int .i64 0, .slice wa X.length wc] 40)).alloc (.cells #[.int .i64 0, .int .i64 0, .int .i64 0, .slice none 0 0] 40))=W2 at*
        clear hWz y0 y1 y2 y3 z0 z1 z2 z3
        generalize wr.heap.size=s at*
        refine HI5.out.mono ?_
        rintro e w5 ⟨v5,rfl,hrow5,hb5⟩
        have hz5:=hb5.size
        have HS50:=Lib.hid ((hb5.block s (by omega)).trans HA1.out)
        have HS51:=Lib.hid ((hb5.block (s+1) (by omega)).trans HA2.out)
        have HB5q:Hid (Below q4 w4 w5):=HBA.out.trans (hb5.mono (by omega))
        have HB5:Hid (Below p w w5):=HB4.out.trans (HB5q.out.mono (by omega))
        have HW5:=Lib.hid (HWEc.out w5 HB5.out v5 ids.length hrow5.ints)
        clear hrow5 hb5 HI5 HA1 HA2 HBA HBAw
        obtain⟨⟨z0,z1⟩,_⟩:=two_cells ((HB5q.out.block p (by omega)).trans HX0.out)
        obtain⟨⟨z2,z3⟩,_⟩:=two_cells ((HB5q.out.block (p+1) (by omega)).trans HX1.out)
        go_wp2_with fail
        refine HW5.out.mono ?_
        rintro e w6 ⟨wg,rfl,hwts,hb6⟩
        have hz6:=hb6.size
        have HS60:=Lib.hid ((hb6.block s (by omega)).trans HS50.out)
        have HS61:=Lib.hid ((hb6.block (s+1) (by omega)).trans HS51.out)
        have HB6q:Hid (Below q4 w4 w6):=HB5q.out.trans (hb6.mono (by omega))
        have HB6:Hid (Below p w w6):=HB4.out.trans (HB6q.out.mono (by omega))
        have HF6:=Lib.hid (HLf.out w6 HB6.out wg hwts)
        clear hwts hb6 HW5 HS50 HS51 HB5q HB5 z0 z1 z2 z3 HLf HWEc
        obtain⟨⟨z0,z1⟩,_⟩:=two_cells ((HB6q.out.block p (by omega)).trans HX0.out)
        obtain⟨⟨z2,z3⟩,_⟩:=two_cells ((HB6q.out.block (p+1) (by omega)).trans HX1.out)
        go_wp2_with fail
        refine HF6.out.mono ?_
        rintro e w7 ⟨rv,rc,rfl,hown,hb7⟩
        have hz7:=hb7.size
        have HS0:=Lib.hid ((hb7.block s (by omega)).trans HS60.out)
        have HS1:=Lib.hid ((hb7.block (s+1) (by omega)).trans HS61.out)
        have HBq:Hid (Below q4 w4 w7):=HB6q.out.trans (hb7.mono (by omega))
        clear hb7 HF6 HS60 HS61 HB6q HB6 z0 z1 z2 z3
        have HQB:Hid (Below q4 w4 ((((w7.setCell ⟨s+1,0,none⟩ (.int .i64 1)).setCell ⟨s+1,1,none⟩ (.int .i64 (c:Nat))).setCell ⟨s+1,2,none⟩ (.int .i64 0)).setCell ⟨s+1,3,none⟩ (.slice rv X.length rc))):=below_set4 HBq.out (show q4≤s+1 by omega) _ _ _ _
        have HQS1:=Lib.hid (set4 HS1.out (.int .i64 1) (.int .i64 (c:Nat)) (.int .i64 0) (.slice rv X.length rc))
        have HQS0:Hid (((((w7.setCell ⟨s+1,0,none⟩ (.int .i64 1)).setCell ⟨s+1,1,none⟩ (.int .i64 (c:Nat))).setCell ⟨s+1,2,none⟩ (.int .i64 0)).setCell ⟨s+1,3,none⟩ (.slice rv X.length rc)).heap[s]? =some (.cells #[.int .i64 ((j:Int)+1), .int .i64 (c:Nat), .int .i64 0, .slice wa X.length wc] 40)):=by
         refine Eq.trans ?_ HS0.out
         rw[Below.heap_setCell _ _ _ _ (by show s≠s+1;omega),Below.heap_setCell _ _ _ _ (by show s≠s+1;omega),Below.heap_setCell _ _ _ _ (by show s≠s+1;omega),Below.heap_setCell _ _ _ _ (by show s≠s+1;omega)]
        have HQD:=Lib.hid (dts_own (own_set4 hown (show s+1<w6.heap.size by omega) (.int .i64 1) (.int .i64 (c:Nat)) (.int .i64 0) (.slice rv X.length rc)))
        obtain⟨⟨d0,d1,d2,d3⟩,f0,f1,f2,f3⟩:=four_cells HS1.out
        have HSMc:=Lib.hid (HSM.out 1 rv rc _ HQB.out HQD.out HELV.out)
        obtain⟨t0,t1,t2,t3⟩:=fourU_cells HQS1.out
        obtain⟨u0,u1,u2,u3⟩:=fourU_cells HQS0.out
        clear hown
        go_wp2_with fail
        generalize hWst:((((w7.setCell ⟨s+1,0,none⟩ (.int .i64 1)).setCell ⟨s+1,1,none⟩ (.int .i64 (c:Nat))).setCell ⟨s+1,2,none⟩ (.int .i64 0)).setCell ⟨s+1,3,none⟩ (.slice rv X.length rc))=Wst at*
        clear hWst d0 d1 d2 d3 f0 f1 f2 f3
        refine HSMc.out.mono ?_
        rintro e wA ⟨rfl,hbA⟩
        have hzA:=hbA.size
        have hzs:=lt_of_block HQS1.out
        have HAB:Hid (Below q4 w4 wA):=HQB.out.trans (hbA.mono (by omega))
        have HAS1:=Lib.hid ((hbA.block (s+1) hzs).trans HQS1.out)
        have HCKc:=Lib.hid (HCK.out 1 rv rc wA HAB.out HELV.out)
        clear hbA HSMc t0 t1 t2 t3 u0 u1 u2 u3
        obtain⟨t0,t1,t2,t3⟩:=fourU_cells HAS1.out
        obtain⟨⟨z0,z1⟩,_⟩:=two_cells ((HAB.out.block p (by omega)).trans HX0.out)
        obtain⟨⟨z2,z3⟩,_⟩:=two_cells ((HAB.out.block (p+1) (by omega)).trans HX1.out)
        go_wp2_with fail
        refine HCKc.out.mono ?_
        rintro e wB ⟨rfl,hbB⟩
        have HBB:Hid (Below q4 w4 wB):=HAB.out.trans (hbB.mono (by have:=HAB.out.size;omega))
        clear hbB HCKc t0 t1 t2 t3 z0 z1 z2 z3
        go_wp2_with fail
        exact⟨⟨c+1,hcm,by simp,HBB⟩,by simp[intOf];omega⟩
       ·have e0:((j:Int)+1==1)=false:=by simp;omega
        have hj1:0<j:=by omega
        have ej:(j:Int)+1 - 1=j:=by omega
        have HIN0:Hid (inE n l bs (csl C) ((j:Int)+1) (c:Nat)=0):=inE_ok HNR.out hjm HQ.out
        have HBT0:Hid (btE n l bs (csl C) ((j:Int)+1) (c:Nat)=0):=by
         show _=_
         unfold btE
         rw[HIN0.out,if_neg (fun h=>h rfl),if_neg (by omega)]
        obtain⟨_,_,hid,h8⟩:=bt_facts HBT0.out
        have HID:=Lib.hid hid
        have HBc:Hid (∀W2,Below p w W2→Calls Tryz.prog 34 #[.agg #[.int .i64 n, .slice a l.length cap], .agg #[.slice ba bs.length bc, .slice ca C.length cc], .int .i64 ((j:Int)+1), .int .i64 (c:Nat)] W2 fun e w'=> ∃v,e= .returned (.tuple #[.slice v (btV n l bs (csl C) ((j:Int)+1) (c:Nat)).length (btV n l bs (csl C) ((j:Int)+1) (c:Nat)).length, .int .i64 0])∧RowI w' W2.heap.size v (ints (btV n l bs (csl C) ((j:Int)+1) (c:Nat)))∧Below W2.heap.size W2 w'):=fun W2 hb=>by
         have h:=between_any n a l cap ba bs bc ca C cc ((j:Int)+1) (c:Nat) W2 hl hbl' (HAR.out.on (hp▸hb)) (HI.out.on (hp▸hb)) (HRR.out.on (hp▸hb))
         rw[HBT0.out] at h
         exact h
        have HCc:Hid (∀W2,Below p w W2→Calls Tryz.prog 35 #[.agg #[.int .i64 n, .slice a l.length cap], .agg #[.slice ba bs.length bc, .slice ca C.length cc], .int .i64 ((j:Int)+1), .int .i64 (c:Nat)] W2 fun e w'=> ∃v c',e= .returned (.tuple #[.slice v (chL (lvl (csl C) (j - 1)) (lvl (csl C) j) (c:Nat)).length c', .int .i64 0])∧w'.ownsRow W2.heap.size 3 1 (.slice v (chL (lvl (csl C) (j - 1)) (lvl (csl C) j) (c:Nat)).length c') (chL (lvl (csl C) (j - 1)) (lvl (csl C) j) (c:Nat)).length (cellsI (ints (chL (lvl (csl C) (j - 1)) (lvl (csl C) j) (c:Nat))))∧Below W2.heap.size W2 w'):=fun W2 hb=>by
         have h:=children_any n a l cap ba bs bc ca C cc ((j:Int)+1) (c:Nat) W2 hl hbl' (HAR.out.on (hp▸hb)) (HI.out.on (hp▸hb)) (HRR.out.on (hp▸hb))
         have e2:chE n l bs (csl C) ((j:Int)+1) (c:Nat)=0:=by unfold chE;rw[HIN0.out,if_neg (fun h=>h rfl),if_neg (by omega)]
         refine h.mono ?_
         rintro e w' ⟨v,c',S,rfl,ho,hS,hb'⟩
         have hS:=hS.out
         unfold chV at hS
         rw[if_pos e2,show((j:Int)+1).toNat - 1=j by omega,show((j:Int)+1).toNat - 2=j - 1 by omega] at hS
         rw[e2]
         subst hS
         exact⟨v,c',rfl,ho,hb'⟩
        have HUc:Hid (∀W2,Below p w W2→∀ (M2:List Mt) (g mc:Nat) (ma:Option Addr),Rgt n l bs (csl C) (j - 1) M2→Wts W2 (some ⟨g,0,none⟩) (wtL l (ints (btV n l bs (csl C) ((j:Int)+1) (c:Nat))))→Mts W2 ma (kidM M2 (chL (lvl (csl C) (j - 1)) (lvl (csl C) j) (c:Nat)))→Calls Tryz.prog 20 #[.agg #[.int .i64 n, .slice a l.length cap], .agg #[.slice ba bs.length bc, .slice ca C.length cc], .int .i64 ((j:Int)+1), .int .i64 (c:Nat), .int .i64 0, .slice (some ⟨g,0,none⟩) (btV n l bs (csl C) ((j:Int)+1) (c:Nat)).length (btV n l bs (csl C) ((j:Int)+1) (c:Nat)).length, .slice ma (chL (lvl (csl C) (j - 1)) (lvl (csl C) j) (c:Nat)).length mc] W2 fun e w'=> ∃v c',e= .returned (.tuple #[.agg #[.int .i64 ((j:Int)+1), .int .i64 (c:Nat), .int .i64 0, .slice v X.length c'], .int .i64 0])∧w'.ownsRow W2.heap.size 48 1 (.slice v X.length c') X.length (cellsU X)∧Below W2.heap.size W2 w'):=fun W2 hb M2 g mc ma hR2 hw hM=>by
         have h:=up_any n a l cap ba bs bc ca C cc ((j:Int)+1) (c:Nat) 0 (some ⟨g,0,none⟩) (wtL l (ints (btV n l bs (csl C) ((j:Int)+1) (c:Nat)))) (btV n l bs (csl C) ((j:Int)+1) (c:Nat)).length ma (kidM M2 (chL (lvl (csl C) (j - 1)) (lvl (csl C) j) (c:Nat))) mc W2 hl hbl' (HAR.out.on (hp▸hb)) (HI.out.on (hp▸hb)) (HRR.out.on (hp▸hb)) hw (wt_ok HWT.out HID.out) hM
         have hwl:(wtL l (ints (btV n l bs (csl C) ((j:Int)+1) (c:Nat)))).length=(btV n l bs (csl C) ((j:Int)+1) (c:Nat)).length:=by rw[wtL_len,ints_len]
         rw[hwl,kidM_len] at h
         have hur:=up_right (j:=j - 1) (q:=c) (M:=M) (M2:=M2) HNR.out (by omega) (by rw[show j - 1+1=j by omega];exact HQ.out) HWT.out (by rw[show j - 1+1=j by omega];exact HRG.out) hR2
         rw[show j - 1+1=j by omega] at hur
         refine h.mono ?_
         rintro e' w' ⟨h1,_,h3⟩
         obtain⟨v,c',g1,g2,g3⟩:=h1 hur.1
         have eX:=hur.2 g3
         have eX2:(mt M c).D=X:=HX.out
         rw[eX2] at eX
         rw[eX] at g1 g2
         exact⟨v,c',g1,g2,h3⟩
        have HL2:Hid (∀W2,Below p w W2→Calls Tryz.prog 30 #[.agg #[.int .i64 n, .slice a l.length cap], .agg #[.slice ba bs.length bc, .slice ca C.length cc], .int .i64 (j:Int)] W2 fun e w'=> ∃v c M,e= .returned (.tuple #[.slice v M.length c, .bool true])∧Lvd w' W2.heap.size n l bs (csl C) (j - 1) v c M (szL (lvl (csl C) (j - 1))).length∧Below W2.heap.size W2 w'):=fun W2 hb=>HLV.out W2 hb (j - 1) (j:Int) (by omega) (by omega)
        have HKL:Hid (∀ (M2:List Mt),Rgt n l bs (csl C) (j - 1) M2→∀i,i<(chL (lvl (csl C) (j - 1)) (lvl (csl C) j) (c:Nat)).length→(chL (lvl (csl C) (j - 1)) (lvl (csl C) j) (c:Nat)).getD i 0<M2.length):=fun M2 hR2 i hi=>by
         obtain⟨_,b2,_⟩:=HNR.out.lv (k:=j - 1) (by omega)
         rw[hR2.len]
         exact ch_lt b2 hi
        have hK8:(chL (lvl (csl C) (j - 1)) (lvl (csl C) j) (c:Nat)).length≤1024:=by
         obtain⟨b1,b2,_⟩:=HNR.out.lv (k:=j - 1) (by omega)
         have k1:=chT_len (lvl (csl C) j) (lsL (lvl (csl C) (j - 1)) 0 []) (c:Nat) (lsL (lvl (csl C) (j - 1)) 0 []).length
         have k2:=ls_len b2
         have k3:=szL_length (lvl (csl C) (j - 1))
         have k4:=(chk_zero HNR.out.1).2.1
         unfold chL
         omega
        have HWEc:=Lib.hid (fun W2 hb v dc hin=>HWE.out W2 hb v (btV n l bs (csl C) ((j:Int)+1) (c:Nat)) dc h8 HID.out hin)
        clear hid HID HBT0
        obtain⟨ids,HIDS⟩:=named (btV n l bs (csl C) ((j:Int)+1) (c:Nat))
        rw[HIDS.out] at HBc HUc HWEc
        obtain⟨K,HKK⟩:=named (chL (lvl (csl C) (j - 1)) (lvl (csl C) j) (c:Nat))
        rw[HKK.out] at HCc HUc HKL hK8
        have HBAw:Hid (Below p w ((wr.alloc (.cells #[.int .i64 ((j:Int)+1), .int .i64 (c:Nat), .int .i64 0, .slice wa X.length wc] 40)).alloc (.cells #[.int .i64 0, .int .i64 0, .int .i64 0, .slice none 0 0] 40))):=HB4.out.trans (HBA.out.mono (by omega))
        have HI5:=Lib.hid (HBc.out _ HBAw.out)
        clear hj0 HBc
        obtain⟨⟨z0,z1⟩,_⟩:=two_cells ((HBA.out.block p (by omega)).trans HX0.out)
        obtain⟨⟨z2,z3⟩,_⟩:=two_cells ((HBA.out.block (p+1) (by omega)).trans HX1.out)
        go_wp2_with fail
        generalize hWz:((wr.alloc (.cells #[.int .i64 ((j:Int)+1), .int .i64 (c:Nat), .int .i64 0, .slice wa X.length wc] 40)).alloc (.cells #[.int .i64 0, .int .i64 0, .int .i64 0, .slice none 0 0] 40))=W2 at*
        clear hWz y0 y1 y2 y3 z0 z1 z2 z3
        generalize wr.heap.size=s at*
        refine HI5.out.mono ?_
        rintro e w5 ⟨v5,rfl,hrow5,hb5⟩
        have hz5:=hb5.size
        have HS50:=Lib.hid ((hb5.block s (by omega)).trans HA1.out)
        have HS51:=Lib.hid ((hb5.block (s+1) (by omega)).trans HA2.out)
        have HB5q:Hid (Below q4 w4 w5):=HBA.out.trans (hb5.mono (by omega))
        have HB5:Hid (Below p w w5):=HB4.out.trans (HB5q.out.mono (by omega))
        have HW5:=Lib.hid (HWEc.out w5 HB5.out v5 ids.length hrow5.ints)
        clear hrow5 hb5 HI5 HA1 HA2 HBA HBAw
        obtain⟨⟨z0,z1⟩,_⟩:=two_cells ((HB5q.out.block p (by omega)).trans HX0.out)
        obtain⟨⟨z2,z3⟩,_⟩:=two_cells ((HB5q.out.block (p+1) (by omega)).trans HX1.out)
        go_wp2_with fail
        refine HW5.out.mono ?_
        rintro e w6 ⟨wg,rfl,hwts,hb6⟩
        have hz6:=hb6.size
        have HS60:=Lib.hid ((hb6.block s (by omega)).trans HS50.out)
        have HS61:=Lib.hid ((hb6.block (s+1) (by omega)).trans HS51.out)
        have HB6q:Hid (Below q4 w4 w6):=HB5q.out.trans (hb6.mono (by omega))
        have HB6:Hid (Below p w w6):=HB4.out.trans (HB6q.out.mono (by omega))
        have HWT6:=Lib.hid hwts
        have HC6:=Lib.hid (HCc.out w6 HB6.out)
        clear hwts hb6 HW5 HS50 HS51 HB5q HB5 z0 z1 z2 z3 HCc HWEc
        obtain⟨⟨z0,z1⟩,_⟩:=two_cells ((HB6q.out.block p (by omega)).trans HX0.out)
        obtain⟨⟨z2,z3⟩,_⟩:=two_cells ((HB6q.out.block (p+1) (by omega)).trans HX1.out)
        go_wp2_with fail
        refine HC6.out.mono ?_
        rintro e w7 ⟨kv7,kc7,rfl,hko,hb7⟩
        have hz7:=hb7.size
        have HS70:=Lib.hid ((hb7.block s (by omega)).trans HS60.out)
        have HS71:=Lib.hid ((hb7.block (s+1) (by omega)).trans HS61.out)
        have HB7q:Hid (Below q4 w4 w7):=HB6q.out.trans (hb7.mono (by omega))
        have HB7:Hid (Below p w w7):=HB4.out.trans (HB7q.out.mono (by omega))
        have HWT7:=Lib.hid (HWT6.out.on hb7)
        have HKO:=Lib.hid hko
        have HL7:=Lib.hid (HL2.out w7 HB7.out)
        clear hko hb7 HC6 HS60 HS61 HB6q HB6 HWT6 z0 z1 z2 z3 HL2
        obtain⟨⟨z0,z1⟩,_⟩:=two_cells ((HB7q.out.block p (by omega)).trans HX0.out)
        obtain⟨⟨z2,z3⟩,_⟩:=two_cells ((HB7q.out.block (p+1) (by omega)).trans HX1.out)
        go_wp2_with fail
        refine HL7.out.mono ?_
        rintro e w8 ⟨v8,c8,M2,rfl,hL8,hb8⟩
        have hz8:=hb8.size
        have HS80:=Lib.hid ((hb8.block s (by omega)).trans HS70.out)
        have HS81:=Lib.hid ((hb8.block (s+1) (by omega)).trans HS71.out)
        have HB8q:Hid (Below q4 w4 w8):=HB7q.out.trans (hb8.mono (by omega))
        have HWT8:=Lib.hid (HWT7.out.on hb8)
        have HKO8:=Lib.hid (own_on HKO.out hb8)
        have HR8:=Lib.hid hL8.right
        have HL8:=Lib.hid hL8
        have HKL8:=Lib.hid (HKL.out M2 hL8.right)
        have hM28:M2.length≤1024:=by
         obtain⟨b1,_⟩:=HNR.out.lv (k:=j - 1) (by omega)
         have k1:=hL8.len
         have k3:=szL_length (lvl (csl C) (j - 1))
         have k4:=(chk_zero HNR.out.1).2.1
         omega
        obtain⟨iM,hiM,hzM,hsM,hbyM⟩:=info_parts infoM
        clear hL8 hb8 HL7 HS70 HS71 HB7q HB7 HWT7 HKO z0 z1 z2 z3 HKL
        generalize hq8:w8.heap.size=q8 at*
        go_wp2_with fail
        go_loopw [26,141] (fun sl i ws=> ∃ (k:Nat) (la:Option Addr) (lc:Nat),k≤K.length∧i= .int .i64 k∧sl= .slice la k lc∧Hid (ws.ownsRow q8 40 4 (.slice la k lc) k (cellsM (kidM M2 (K.take k))))∧Hid (Below q8 w8 ws)) (fun _ i _=>K.length - (intOf i).toNat)
        case atStart=>exact⟨0,none,0,Nat.zero_le _,rfl,rfl,World.ownsRow_nil _ _ _ _,hq8▸Below.refl _ _⟩
        case round=>
         obtain⟨k,la,lc,hk,rfl,rfl,HLO,HBK⟩:=hrel
         have hwk:q8≤wr.heap.size:=by have:=HBK.out.size;omega
         by_cases hlk:k<K.length
         ·have hlk':(k:Int)<K.length:=by omega
          obtain⟨kb,kc2,e6,_,hkbl⟩:=World.ownsRow.form HKO8.out (by omega)
          cases e6
          have y0:=(HBK.out.cell (p:=⟨kb,k,none⟩) (by show kb<q8;omega)).trans (own_cellI HKO8.out hlk)
          have hkm:=HKL8.out k hlk
          have HTK:Hid (cellsM (kidM M2 (K.take (k+1)))=cellsM (kidM M2 (K.take k))++[.int .i64 (mt M2 (K.getD k 0)).lv, .int .i64 (mt M2 (K.getD k 0)).ce, .int .i64 (mt M2 (K.getD k 0)).ep, .slice (mt M2 (K.getD k 0)).a (mt M2 (K.getD k 0)).D.length (mt M2 (K.getD k 0)).c]):=by
           have et:K.take (k+1)=K.take k++[K.getD k 0]:=by
            rw[List.take_add_one,List.getElem?_eq_getElem hlk,List.getD_eq_getElem?_getD,List.getElem?_eq_getElem hlk]
            rfl
           show _=_
           rw[et]
           unfold kidM
           rw[List.map_append,cellsM_append]
           rfl
          obtain⟨kv,HKV⟩:=named (K.getD k 0)
          rw[HKV.out] at y0 hkm HTK
          have hkm':(kv:Int)<M2.length:=by omega
          obtain⟨mb,mc2,e7,_,hmbl⟩:=World.ownsRow.form HL8.out.row (by omega)
          cases e7
          have hrow2:=HL8.out.row
          obtain⟨o0,o1,o2,o3⟩:=cellsM_at M2 kv hkm
          have hml2:=cellsM_len M2
          have HPC2:Hid (∀r u,r<4→(cellsM M2)[kv*4+r]? =some u→wr.cell? ⟨mb,kv*4+r,none⟩=some u):=fun r u hr4 hu=>by
           rw[←World.ownsRow.cellAt hrow2 (kv*4+r) (by omega)] at hu
           exact(HBK.out.cell (p:=⟨mb,kv*4+r,none⟩) (by show mb<q8;omega)).trans hu
          have x0:=HPC2.out 0 _ (by omega) o0
          have x1:=HPC2.out 1 _ (by omega) o1
          have x2:=HPC2.out 2 _ (by omega) o2
          have x3:=HPC2.out 3 _ (by omega) o3
          rw[Nat.add_zero] at x0
          clear o0 o1 o2 o3 hml2 HPC2 hrow2
          generalize (mt M2 kv).lv=k0 at*
          generalize (mt M2 kv).ce=k1 at*
          generalize (mt M2 kv).ep=k2 at*
          generalize (mt M2 kv).a=k3 at*
          generalize (mt M2 kv).D.length=k4 at*
          generalize (mt M2 kv).c=k5 at*
          have hbL:Below wr.heap.size wr (wr.alloc (.cells #[.int .i64 k0, .int .i64 k1, .int .i64 k2, .slice k3 k4 k5] 40)):=(Below.refl _ _).alloc (Nat.le_refl _) _
          have HLO2:=Lib.hid (own_on HLO.out hbL)
          have HNW:Hid (∀ (i:Nat) (z:Value),[Value.int .i64 k0, .int .i64 k1, .int .i64 k2, .slice k3 k4 k5][i]? =some z→(wr.alloc (.cells #[.int .i64 k0, .int .i64 k1, .int .i64 k2, .slice k3 k4 k5] 40)).cell? ((⟨wr.heap.size,0,none⟩:Addr).add i)=some z):=World.news_of_block (cs:= #[.int .i64 k0, .int .i64 k1, .int .i64 k2, .slice k3 k4 k5]) (t:=40) (fr:=(0,0)) (heap_top wr _)
          have HZL:Hid ((wr.alloc (.cells #[.int .i64 k0, .int .i64 k1, .int .i64 k2, .slice k3 k4 k5] 40)).heap.size=wr.heap.size+1):=World.size_alloc _ _
          have HBZ:Hid (q8≤(wr.alloc (.cells #[.int .i64 k0, .int .i64 k1, .int .i64 k2, .slice k3 k4 k5] 40)).heap.size):=by show _≤_;rw[World.size_alloc];omega
          have HBX:Hid (Below q8 w8 (wr.alloc (.cells #[.int .i64 k0, .int .i64 k1, .int .i64 k2, .slice k3 k4 k5] 40))):=HBK.out.trans (hbL.mono hwk)
          have HOB:Hid (∀k',(Value.slice la k lc).ownBlock=some k'→q8≤k'):=fun k' hk'=>(own_lt HLO.out hk').1
          clear hbL
          go_wp2_with (at_builtin;go_must (refine wpList_append_lies _ rfl (.tmp 145) (.tmp 150) 30 rfl q8 40 iM _ 4 48 Tryz.underlying30 hiM hzM hsM hbyM rfl (by decide) (.slice la k lc) k (cellsM (kidM M2 (K.take k))) rfl HLO2.out ⟨wr.heap.size,0,none⟩ 1 1 [.int .i64 k0, .int .i64 k1, .int .i64 k2, .slice k3 k4 k5] rfl rfl HNW.out (by intro u hu;simp at hu;rcases hu with rfl | rfl | rfl | rfl <;> rfl) (by decide) (by unfold maxLen;omega) (by omega) HBZ.out (wr.heap.size+1) HZL.out ?_;intro gg cap' wz hownz hgrowz hatz hltz;rw[←HTK.out] at hownz;have HOZ:=Lib.hid hownz;have HBZ2:Hid (Below q8 w8 wz):=HBX.out.grown hgrowz HBZ.out HOB.out;clear hownz hgrowz hatz hltz))
          exact⟨⟨k+1,some ⟨gg,0,none⟩,cap',hlk,by simp,by simp,HOZ,HBZ2⟩,by simp[intOf];omega⟩
         ·have hlk': ¬(k:Int)<K.length:=by omega
          obtain rfl:k=K.length:=by omega
          have HMT:Hid (Mts wr la (kidM M2 K)):=by
           have h:=HLO.out
           rw[List.take_length] at h
           refine mts_of (c:=lc) (by rw[kidM_len];exact h) (fun i hi=> ?_)
           rw[kidM_len] at hi
           rw[kidM_at hi]
           have hlt:=HKL8.out i hi
           refine⟨dts_own (own_on (HL8.out.mem _ hlt) (hq8▸HBK.out)),?_,HR8.out.val hlt⟩
           rw[(HR8.out.rgt _ hlt).2.2.2,mxL_len]
           have hb:= @bd_len n l bs (csl C) (((j - 1:Nat):Int)+1) (K.getD i 0:Nat)
           exact Nat.le_trans (Nat.mul_le_mul hb hb) (by omega)
          have HB9q:Hid (Below q4 w4 wr):=HB8q.out.trans (HBK.out.mono (by omega))
          have HB9:Hid (Below p w wr):=HB4.out.trans (HB9q.out.mono (by omega))
          have HU9:=Lib.hid (HUc.out wr HB9.out M2 wg lc la HR8.out (HWT8.out.on (hq8▸HBK.out)) HMT.out)
          have HS90:=Lib.hid ((HBK.out.block s (by omega)).trans HS80.out)
          have HS91:=Lib.hid ((HBK.out.block (s+1) (by omega)).trans HS81.out)
          clear HMT HLO
          obtain⟨⟨z0,z1⟩,_⟩:=two_cells ((HB9q.out.block p (by omega)).trans HX0.out)
          obtain⟨⟨z2,z3⟩,_⟩:=two_cells ((HB9q.out.block (p+1) (by omega)).trans HX1.out)
          go_wp2_with fail
          refine HU9.out.mono ?_
          rintro e w9 ⟨rv,rc,rfl,hown,hb9⟩
          have hz9:=hb9.size
          have HS0:=Lib.hid ((hb9.block s (by omega)).trans HS90.out)
          have HS1:=Lib.hid ((hb9.block (s+1) (by omega)).trans HS91.out)
          have HBq:Hid (Below q4 w4 w9):=HB9q.out.trans (hb9.mono (by omega))
          clear hb9 HU9 HS90 HS91 HB9q HB9 z0 z1 z2 z3
          have HQB:Hid (Below q4 w4 ((((w9.setCell ⟨s+1,0,none⟩ (.int .i64 ((j:Int)+1))).setCell ⟨s+1,1,none⟩ (.int .i64 (c:Nat))).setCell ⟨s+1,2,none⟩ (.int .i64 0)).setCell ⟨s+1,3,none⟩ (.slice rv X.length rc))):=below_set4 HBq.out (show q4≤s+1 by omega) _ _ _ _
          have HQS1:=Lib.hid (set4 HS1.out (.int .i64 ((j:Int)+1)) (.int .i64 (c:Nat)) (.int .i64 0) (.slice rv X.length rc))
          have HQS0:Hid (((((w9.setCell ⟨s+1,0,none⟩ (.int .i64 ((j:Int)+1))).setCell ⟨s+1,1,none⟩ (.int .i64 (c:Nat))).setCell ⟨s+1,2,none⟩ (.int .i64 0)).setCell ⟨s+1,3,none⟩ (.slice rv X.length rc)).heap[s]? =some (.cells #[.int .i64 ((j:Int)+1), .int .i64 (c:Nat), .int .i64 0, .slice wa X.length wc] 40)):=by
           refine Eq.trans ?_ HS0.out
           rw[Below.heap_setCell _ _ _ _ (by show s≠s+1;omega),Below.heap_setCell _ _ _ _ (by show s≠s+1;omega),Below.heap_setCell _ _ _ _ (by show s≠s+1;omega),Below.heap_setCell _ _ _ _ (by show s≠s+1;omega)]
          have HQD:=Lib.hid (dts_own (own_set4 hown (show s+1<wr.heap.size by omega) (.int .i64 ((j:Int)+1)) (.int .i64 (c:Nat)) (.int .i64 0) (.slice rv X.length rc)))
          obtain⟨⟨d0,d1,d2,d3⟩,f0,f1,f2,f3⟩:=four_cells HS1.out
          have HSMc:=Lib.hid (HSM.out ((j:Int)+1) rv rc _ HQB.out HQD.out rfl)
          obtain⟨t0,t1,t2,t3⟩:=fourU_cells HQS1.out
          obtain⟨u0,u1,u2,u3⟩:=fourU_cells HQS0.out
          clear hown
          go_wp2_with fail
          generalize hWst:((((w9.setCell ⟨s+1,0,none⟩ (.int .i64 ((j:Int)+1))).setCell ⟨s+1,1,none⟩ (.int .i64 (c:Nat))).setCell ⟨s+1,2,none⟩ (.int .i64 0)).setCell ⟨s+1,3,none⟩ (.slice rv X.length rc))=Wst at*
          clear hWst d0 d1 d2 d3 f0 f1 f2 f3
          refine HSMc.out.mono ?_
          rintro e wA ⟨rfl,hbA⟩
          have hzA:=hbA.size
          have hzs:=lt_of_block HQS1.out
          have HAB:Hid (Below q4 w4 wA):=HQB.out.trans (hbA.mono (by omega))
          have HAS1:=Lib.hid ((hbA.block (s+1) hzs).trans HQS1.out)
          have HCKc:=Lib.hid (HCK.out ((j:Int)+1) rv rc wA HAB.out rfl)
          clear hbA HSMc t0 t1 t2 t3 u0 u1 u2 u3
          obtain⟨t0,t1,t2,t3⟩:=fourU_cells HAS1.out
          obtain⟨⟨z0,z1⟩,_⟩:=two_cells ((HAB.out.block p (by omega)).trans HX0.out)
          obtain⟨⟨z2,z3⟩,_⟩:=two_cells ((HAB.out.block (p+1) (by omega)).trans HX1.out)
          go_wp2_with fail
          refine HCKc.out.mono ?_
          rintro e wB ⟨rfl,hbB⟩
          have HBB:Hid (Below q4 w4 wB):=HAB.out.trans (hbB.mono (by have:=HAB.out.size;omega))
          clear hbB HCKc t0 t1 t2 t3 z0 z1 z2 z3
          go_wp2_with fail
          exact⟨⟨c+1,hcm,by simp,HBB⟩,by simp[intOf];omega⟩
      ·have hcm': ¬(c:Int)<M.length:=by omega
       have HO0:=Lib.hid ((HBS.out.block p (by omega)).trans HX0.out)
       have HO1:=Lib.hid ((HBS.out.block (p+1) (by omega)).trans HX1.out)
       have HOB:Hid (Below p w wr):=HB4.out.trans (HBS.out.mono (by omega))
       go_wp2_with fail
       exact⟨⟨j+1,hjm,by simp,HO0,HO1,HOB⟩,by simp[intOf];omega⟩
    ·have hjm': ¬(j:Int)+1≤bs.length:=by omega
     go_wp2_with fail
     go_ret
     exact⟨rfl,HBR.out⟩
  ·go_wp2_with fail
   go_ret
   exact⟨rfl,HB3.out⟩
 ·have e1:(E != 0)=true:=by simpa using hE
  go_wp2_with fail
  go_ret
  exact⟨rfl,HB2.out⟩
end Go.Proofs.YtaafkpojjdjphaaGreat
