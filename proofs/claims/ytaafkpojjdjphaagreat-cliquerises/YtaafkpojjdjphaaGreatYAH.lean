import Derived.Test.YtaafkpojjdjphaaGreatYAG
set_option maxRecDepth 100000
namespace Go.Proofs.YtaafkpojjdjphaaGreat
open Go.RowKit
set_option maxHeartbeats 1600000 in
theorem between_any(N:Int)(a:Option Addr)(l:List A)(cap:Nat)(ba:Option Addr)(bs:List Int)(bc:Nat)(ca:Option Addr)(C:List Cl)(cc:Nat)(k x:Int)(w:World)(hl:l.length≤9223372036854775807)(hbl:bs.length≤9223372036854775807)(hr:Arcs w a l)(hi:Ints w ba bs)(hR:Rws w ca C):
  Calls Tryz.prog 34 #[.agg #[.int .i64 N, .slice a l.length cap], .agg #[.slice ba bs.length bc, .slice ca C.length cc], .int .i64 k, .int .i64 x] w fun e w'=> ∃v,e= .returned (.tuple #[.slice v (btV N l bs (csl C) k x).length (btV N l bs (csl C) k x).length, .int .i64 (btE N l bs (csl C) k x)])∧RowI w' w.heap.size v (ints (btV N l bs (csl C) k x))∧Below w.heap.size w w':=by
 have hb0:Below w.heap.size w (((w.alloc (.cells #[.int .i64 N, .slice a l.length cap] 24)).alloc (.cells #[.slice ba bs.length bc, .slice ca C.length cc] 28)).alloc (.cells #[.int .i64 x] 3)):=(top3 w _ _ _).2.2.2.1
 have hg0:=(top3 w (.cells #[.int .i64 N, .slice a l.length cap] 24) (.cells #[.slice ba bs.length bc, .slice ca C.length cc] 28) (.cells #[.int .i64 x] 3)).1
 have hg1:=(top3 w (.cells #[.int .i64 N, .slice a l.length cap] 24) (.cells #[.slice ba bs.length bc, .slice ca C.length cc] 28) (.cells #[.int .i64 x] 3)).2.1
 have hg2:=(top3 w (.cells #[.int .i64 N, .slice a l.length cap] 24) (.cells #[.slice ba bs.length bc, .slice ca C.length cc] 28) (.cells #[.int .i64 x] 3)).2.2.1
 have hsz:=(top3 w (.cells #[.int .i64 N, .slice a l.length cap] 24) (.cells #[.slice ba bs.length bc, .slice ca C.length cc] 28) (.cells #[.int .i64 x] 3)).2.2.2.2
 obtain⟨⟨a0,a1⟩,_⟩:=two_cells hg0
 obtain⟨⟨a2,a3⟩,_⟩:=two_cells hg1
 have a4:=cell_of_one hg2
 have HB0:=Lib.hid hb0
 have HG0:=Lib.hid hg0
 have HG1:=Lib.hid hg1
 have HG2:=Lib.hid hg2
 have HLK:=Lib.hid (ceLook_any N a l cap ba bs bc ca C cc k x _ hl hbl (hr.on hb0) (hi.on hb0) (hR.on hb0))
 obtain⟨E,HE⟩:=named (inE N l bs (csl C) k x)
 have HEE:=HE
 rw[HE.out] at HLK
 clear HE
 by_cases h1:E=0
 ·subst h1
  obtain⟨hNR,j,q,rfl,hj,rfl,hq⟩:=inE_zero HEE.out
  have hcl:C.length=bs.length:=by have:=hNR.2.2.2.1;rw[csl_len] at this;exact this
  have hjC:j<C.length:=by omega
  obtain⟨hlv,hty,_,_⟩:=hNR.lv hj
  rw[csl_at] at hlv hty
  have hC0:chkE ((cl C j).xs.length:Nat) l=0:=by rw[hlv];exact hNR.1
  have hN:N=((cl C j).xs.length:Nat):=hlv.symm
  have hL:(cl C j).xs.length≤1024:=by have:=(chk_zero hC0).2.1;omega
  have hl8:l.length≤8192:=(chk_zero hC0).2.2.1
  have ej:((j:Int)+1).toNat - 1=j:=by omega
  have HBE:Hid (btE N l bs (csl C) ((j:Int)+1) (q:Int)=if (j:Int)+1=1 then 111 else 0):=by show _=_;unfold btE;rw[if_neg (by rw[HEE.out];simp)]
  by_cases hj0:j=0
  ·subst hj0
   have HB9:Hid (btE N l bs (csl C) (((0:Nat):Int)+1) (q:Int)=111):=HBE.out.trans (if_pos rfl)
   have HV0:Hid (btV N l bs (csl C) (((0:Nat):Int)+1) (q:Int)= []):=by show _=_;unfold btV;rw[if_neg (by rw[HB9.out];decide)]
   rw[HV0.out,HB9.out]
   clear HV0 HB9 HBE
   have HV0:Hid (hld (cl C 0).xs (q:Int)=hld (cl C 0).xs (q:Int)):=rfl
   have HL:=Lib.hid (HLK.out.mono (fun e w' h=>(⟨h.1 rfl,h.2.2⟩:e= .returned (.tuple #[.slice (cl C ((((0:Nat):Int)+1).toNat - 1)).a (cl C ((((0:Nat):Int)+1).toNat - 1)).xs.length (cl C ((((0:Nat):Int)+1).toNat - 1)).c, .int .i64 0])∧_)))
   rw[ej] at HL
   obtain⟨L,va,vc,HLL,HVA,HVC⟩: ∃L va vc,Hid ((cl C 0).xs=L)∧Hid ((cl C 0).a=va)∧Hid ((cl C 0).c=vc):=⟨_,_,_,rfl,rfl,rfl⟩
   rw[HLL.out] at hC0 hL HL hN HV0
   rw[HVA.out,HVC.out] at HL
   have HIL:Hid (Ints w va L):=by have:=(hR.2 0 hjC).1;rw[HLL.out,HVA.out] at this;exact this
   have HC0:=Lib.hid hC0
   obtain⟨m,HM⟩:=named L.length
   rw[HM.out] at HL hN hL
   subst hN
   have HRA:=Lib.hid hr
   have e11:(((0:Nat):Int)+1==1)=true:=by simp
   clear hR hNR
   have hmf: ∀ (fn:Fn) (first cap:Array Value) (w:World),(Instr.makeFunc fn first cap).run Tryz.prog w= .ok (.func fn first cap) w:=fun _ _ _ _=>rfl
   clear hr hi hb0 HEE HLK HV0 hcl hlv hty hC0
   generalize hp:w.heap.size=p at*
   go_enter Tryz.func34,Tryz.ntmps34
   go_wp2_with fail
   generalize hW:(((w.alloc (.cells #[.int .i64 m, .slice a l.length cap] 24)).alloc (.cells #[.slice ba bs.length bc, .slice ca C.length cc] 28)).alloc (.cells #[.int .i64 q] 3))=W at*
   clear hW
   refine HL.out.mono ?_
   rintro e w1 ⟨rfl,hb1⟩
   have HB1:Hid (Below p w w1):=HB0.out.trans (hb1.mono (by omega))
   obtain⟨⟨k0,k1⟩,_⟩:=two_cells (((hb1.block p (by omega)).trans HG0.out))
   obtain⟨⟨k2,k3⟩,_⟩:=two_cells (((hb1.block (p+1) (by omega)).trans HG1.out))
   have k4:=cell_of_one ((hb1.block (p+1+1) (by omega)).trans HG2.out)
   have hw1:p+2<w1.heap.size:=by have:=hb1.size;omega
   have HB2:Hid (Below p w (w1.alloc (.cells #[.slice va m vc] 132))):=HB1.out.alloc (by omega) _
   have HG3:=Lib.hid (heap_top w1 (.cells #[.slice va m vc] 132))
   have j0:(w1.alloc (.cells #[.slice va m vc] 132)).cell? ⟨p,0,none⟩=some (.int .i64 m):=(World.cell?_of_block (w:=w1) (a:=⟨p,0,none⟩) (Below.heap_alloc _ _ _ (by show p<_;omega))).trans k0
   have j1:(w1.alloc (.cells #[.slice va m vc] 132)).cell? ⟨p,1,none⟩=some (.slice a l.length cap):=(World.cell?_of_block (w:=w1) (a:=⟨p,1,none⟩) (Below.heap_alloc _ _ _ (by show p<_;omega))).trans k1
   have j3:(w1.alloc (.cells #[.slice va m vc] 132)).cell? ⟨p+1,1,none⟩=some (.slice ca C.length cc):=(World.cell?_of_block (w:=w1) (a:=⟨p+1,1,none⟩) (Below.heap_alloc _ _ _ (by show p+1<_;omega))).trans k3
   have HK4:Hid ((w1.alloc (.cells #[.slice va m vc] 132)).cell? ⟨p+1+1,0,none⟩=some (.int .i64 q)):=(World.cell?_of_block (w:=w1) (a:=⟨p+1+1,0,none⟩) (Below.heap_alloc _ _ _ (by show p+1+1<_;omega))).trans k4
   have j5:=cell_of_one HG3.out
   clear a0 a1 a2 a3 a4 hb1 HL hg0 hg1 hg2 HB0 HG0 HG1 HG2 k0 k1 k2 k3 k4
   go_wp2_with fail
   go_ret2
   exact⟨none,rfl,Or.inl ⟨rfl,rfl⟩,HB2.out⟩
  ·obtain⟨i0,rfl⟩: ∃i0,j=i0+1:=⟨j - 1,by omega⟩
   have HB9:Hid (btE N l bs (csl C) (((i0+1:Nat):Int)+1) (q:Int)=0):=HBE.out.trans (if_neg (by omega))
   have ei:(((i0+1:Nat):Int)+1).toNat - 2=i0:=by omega
   have HV0:Hid (btV N l bs (csl C) (((i0+1:Nat):Int)+1) (q:Int)=arL l (btP (cl C (i0+1)).xs (cl C i0).xs (q:Int))):=by show _=_;unfold btV;rw[if_pos HB9.out,ej,ei,csl_at,csl_at]
   rw[HV0.out,HB9.out]
   clear HB9 HBE ei
   have hiC:i0<C.length:=by omega
   obtain⟨hlv2,_,_,_⟩:=hNR.lv (show i0<bs.length by omega)
   rw[csl_at] at hlv2
   have hML:(cl C i0).xs.length=(cl C (i0+1)).xs.length:=by omega
   obtain⟨M,da,dc,HMM,HDA,HDC⟩: ∃M da dc,Hid ((cl C i0).xs=M)∧Hid ((cl C i0).a=da)∧Hid ((cl C i0).c=dc):=⟨_,_,_,rfl,rfl,rfl⟩
   have HIM:Hid (Ints w da M):=by have:=(hR.2 i0 hiC).1;rw[HMM.out,HDA.out] at this;exact this
   rw[HMM.out] at HV0 hML
   rw[HMM.out]
   obtain⟨bx,ox,hbx⟩:=hR.get
   obtain⟨rfl,hbl2,hcell⟩:=hbx (by omega)
   have d0:=hcell i0 hiC
   unfold Cl.val at d0
   have h5:bs.length≤5:=hNR.2.2.1
   have HL:=Lib.hid (HLK.out.mono (fun e w' h=>(⟨h.1 rfl,h.2.2⟩:e= .returned (.tuple #[.slice (cl C ((((i0+1:Nat):Int)+1).toNat - 1)).a (cl C ((((i0+1:Nat):Int)+1).toNat - 1)).xs.length (cl C ((((i0+1:Nat):Int)+1).toNat - 1)).c, .int .i64 0])∧_)))
   rw[ej] at HL
   obtain⟨L,va,vc,HLL,HVA,HVC⟩: ∃L va vc,Hid ((cl C (i0+1)).xs=L)∧Hid ((cl C (i0+1)).a=va)∧Hid ((cl C (i0+1)).c=vc):=⟨_,_,_,rfl,rfl,rfl⟩
   rw[HLL.out] at hC0 hL HL hN HV0
   rw[HLL.out]
   rw[HVA.out,HVC.out] at HL
   have HIL:Hid (Ints w va L):=by have:=(hR.2 (i0+1) hjC).1;rw[HLL.out,HVA.out] at this;exact this
   have HC0:=Lib.hid hC0
   obtain⟨m,HM⟩:=named L.length
   rw[HM.out] at HL hN hL
   subst hN
   have HRA:=Lib.hid hr
   rw[HLL.out] at hML
   rw[HMM.out,HDA.out,HDC.out,hML,HM.out] at d0
   have HMLm:Hid (M.length=m):=by show _=_;rw[hML,HM.out]
   have HD0:=Lib.hid d0
   have e11:(((i0+1:Nat):Int)+1==1)=false:=by simp;omega
   have e12:(((i0+1:Nat):Int)+1 - 2)=i0:=by omega
   have hi':(i0:Int)<C.length:=by omega
   have hC5:C.length≤5:=by omega
   clear hR hNR d0 hcell hbx hlv2 hML
   have hmf: ∀ (fn:Fn) (first cap:Array Value) (w:World),(Instr.makeFunc fn first cap).run Tryz.prog w= .ok (.func fn first cap) w:=fun _ _ _ _=>rfl
   clear hr hi hb0 HEE HLK HV0 hcl hlv hty hC0
   generalize hp:w.heap.size=p at*
   go_enter Tryz.func34,Tryz.ntmps34
   go_wp2_with fail
   generalize hW:(((w.alloc (.cells #[.int .i64 m, .slice a l.length cap] 24)).alloc (.cells #[.slice ba bs.length bc, .slice (some ⟨bx,ox,none⟩) C.length cc] 28)).alloc (.cells #[.int .i64 q] 3))=W at*
   clear hW
   refine HL.out.mono ?_
   rintro e w1 ⟨rfl,hb1⟩
   have HB1:Hid (Below p w w1):=HB0.out.trans (hb1.mono (by omega))
   obtain⟨⟨k0,k1⟩,_⟩:=two_cells (((hb1.block p (by omega)).trans HG0.out))
   obtain⟨⟨k2,k3⟩,_⟩:=two_cells (((hb1.block (p+1) (by omega)).trans HG1.out))
   have k4:=cell_of_one ((hb1.block (p+1+1) (by omega)).trans HG2.out)
   have hw1:p+2<w1.heap.size:=by have:=hb1.size;omega
   have HB2:Hid (Below p w (w1.alloc (.cells #[.slice va m vc] 132))):=HB1.out.alloc (by omega) _
   have HG3:=Lib.hid (heap_top w1 (.cells #[.slice va m vc] 132))
   have j0:(w1.alloc (.cells #[.slice va m vc] 132)).cell? ⟨p,0,none⟩=some (.int .i64 m):=(World.cell?_of_block (w:=w1) (a:=⟨p,0,none⟩) (Below.heap_alloc _ _ _ (by show p<_;omega))).trans k0
   have j1:(w1.alloc (.cells #[.slice va m vc] 132)).cell? ⟨p,1,none⟩=some (.slice a l.length cap):=(World.cell?_of_block (w:=w1) (a:=⟨p,1,none⟩) (Below.heap_alloc _ _ _ (by show p<_;omega))).trans k1
   have j3:(w1.alloc (.cells #[.slice va m vc] 132)).cell? ⟨p+1,1,none⟩=some (.slice (some ⟨bx,ox,none⟩) C.length cc):=(World.cell?_of_block (w:=w1) (a:=⟨p+1,1,none⟩) (Below.heap_alloc _ _ _ (by show p+1<_;omega))).trans k3
   have HK4:Hid ((w1.alloc (.cells #[.slice va m vc] 132)).cell? ⟨p+1+1,0,none⟩=some (.int .i64 q)):=(World.cell?_of_block (w:=w1) (a:=⟨p+1+1,0,none⟩) (Below.heap_alloc _ _ _ (by show p+1+1<_;omega))).trans k4
   have j5:=cell_of_one HG3.out
   clear a0 a1 a2 a3 a4 hb1 HL hg0 hg1 hg2 HB0 HG0 HG1 HG2 k0 k1 k2 k3 k4
   have y0:(w1.alloc (.cells #[.slice va m vc] 132)).cell? ⟨bx,ox+i0,none⟩=some (.slice da m dc):=(HB2.out.cell (p:=⟨bx,ox+i0,none⟩) (hp▸hbl2)).trans HD0.out
   have hv1:(w1.alloc (.cells #[.slice va m vc] 132)).heap.size=w1.heap.size+1:=by simp
   have HJ0:=Lib.hid j0
   have HJ1:=Lib.hid j1
   have V2:Below p w ((w1.alloc (.cells #[.slice va m vc] 132)).alloc (.cells #[.slice da m dc] 132)):=HB2.out.alloc (by omega) _
   have HV2:=Lib.hid V2
   have HVV:Hid (Below (w1.alloc (.cells #[.slice va m vc] 132)).heap.size (w1.alloc (.cells #[.slice va m vc] 132)) ((w1.alloc (.cells #[.slice va m vc] 132)).alloc (.cells #[.slice da m dc] 132))):=(Below.refl _ _).alloc (Nat.le_refl _) _
   have HG5:=Lib.hid (heap_top (w1.alloc (.cells #[.slice va m vc] 132)) (.cells #[.slice da m dc] 132))
   rw[hv1] at HG5
   have f0:=(HVV.out.cell (p:=⟨p,0,none⟩) (by show p<_;omega)).trans HJ0.out
   have f1:=(HVV.out.cell (p:=⟨p,1,none⟩) (by show p<_;omega)).trans HJ1.out
   have HF4:Hid (((w1.alloc (.cells #[.slice va m vc] 132)).alloc (.cells #[.slice da m dc] 132)).cell? ⟨p+1+1,0,none⟩=some (.int .i64 q)):=(HVV.out.cell (p:=⟨p+1+1,0,none⟩) (by show p+1+1<_;omega)).trans HK4.out
   have HF3:Hid (((w1.alloc (.cells #[.slice va m vc] 132)).alloc (.cells #[.slice da m dc] 132)).cell? ⟨w1.heap.size,0,none⟩=some (.slice va m vc)):=(HVV.out.cell (p:=⟨w1.heap.size,0,none⟩) (by show w1.heap.size<_;omega)).trans (cell_of_one HG3.out)
   have hv2:((w1.alloc (.cells #[.slice va m vc] 132)).alloc (.cells #[.slice da m dc] 132)).heap.size=w1.heap.size+2:=by simp
   clear HD0 V2 HVV
   go_wp2_with fail
   generalize hV:(w1.alloc (.cells #[.slice va m vc] 132)).alloc (.cells #[.slice da m dc] 132)=V at*
   clear hV
   refine(cArcsB_any m (.pointer (some ⟨w1.heap.size,0,none⟩)) (.pointer (some ⟨p+1+1,0,none⟩)) (.pointer (some ⟨w1.heap.size+1,0,none⟩)) a l cap (btP L M q) V hl8 (HRA.out.on (hp▸HV2.out)) (fun i hi W2 hb=> ?_)).mono ?_
   ·have hbw:Below p w W2:=HV2.out.trans (hb.mono (by omega))
    have hvz:=hb.size
    refine ceW1_any w1.heap.size (p+1+1) (w1.heap.size+1) va L vc da M dc q _ W2 (chk_in HC0.out hi) (by rw[HM.out];exact hL) (by rw[HMLm.out,HM.out]) ?_ ((hb.cell (p:=⟨p+1+1,0,none⟩) (by show p+1+1<_;omega)).trans HF4.out) ?_ (HIL.out.on (hp▸hbw)) (HIM.out.on (hp▸hbw))
    ·rw[HM.out]
     exact(hb.cell (p:=⟨w1.heap.size,0,none⟩) (by show w1.heap.size<_;omega)).trans HF3.out
    ·rw[HMLm.out]
     exact(hb.cell (p:=⟨w1.heap.size+1,0,none⟩) (by show w1.heap.size+1<_;omega)).trans (cell_of_one HG5.out)
   ·rintro e w3 ⟨v,rfl,hrow,hb3⟩
    have HR3:=Lib.hid (hrow.base (C:=p) (by omega))
    have HB3:Hid (Below p w w3):=HV2.out.trans (hb3.mono (by omega))
    clear hrow hb3 j0 j1 f0 f1
    go_wp2_with fail
    go_ret2
    exact⟨v,rfl,HR3.out,HB3.out⟩
 ·have e1:(E != 0)=true:=by simpa using h1
  have HBE:Hid (btE N l bs (csl C) k x=E):=by show _=_;unfold btE;rw[if_pos (by rw[HEE.out];exact h1),HEE.out]
  have HV0:Hid (btV N l bs (csl C) k x= []):=by show _=_;unfold btV;rw[if_neg (by rw[HBE.out];exact h1)]
  rw[HV0.out,HBE.out]
  have HL:=Lib.hid (HLK.out.mono (fun e w' h=>(⟨h.2.1 h1,h.2.2⟩:e= .returned (.tuple #[.slice none 0 0, .int .i64 E])∧_)))
  clear hr hi hR hb0 HEE HLK HV0 HBE
  generalize hp:w.heap.size=p at*
  go_enter Tryz.func34,Tryz.ntmps34
  go_wp2_with fail
  generalize hW:(((w.alloc (.cells #[.int .i64 N, .slice a l.length cap] 24)).alloc (.cells #[.slice ba bs.length bc, .slice ca C.length cc] 28)).alloc (.cells #[.int .i64 x] 3))=W at*
  clear hW
  refine HL.out.mono ?_
  rintro e w1 ⟨rfl,hb1⟩
  have HB1:Hid (Below p w w1):=HB0.out.trans (hb1.mono (by omega))
  clear a0 a1 a2 a3 a4 hb1 HL hg0 hg1 hg2 HB0 HG0 HG1 HG2
  have HB2:Hid (Below p w (w1.alloc (.cells #[.slice none 0 0] 132))):=HB1.out.alloc (by have:=HB1.out.size;omega) _
  go_wp2_with fail
  go_ret2
  exact⟨none,rfl,Or.inl ⟨rfl,rfl⟩,HB2.out⟩
def wl:List A:=[⟨0,1,0⟩,⟨1,2,0⟩,⟨0,2,0⟩]
abbrev wO:Obj:= .cells #[.int .i64 0, .int .i64 1, .int .u32 0, .int .i64 1, .int .i64 2, .int .u32 0, .int .i64 0, .int .i64 2, .int .u32 0] 109
theorem wl_arcs{w:World}{b:Nat}(h:w.heap[b]? =some wO):Arcs w (some ⟨b,0,none⟩) wl:=by
 refine .inr ⟨b,0,rfl,lt_of_block h,fun j hj=> ?_⟩
 have hj:j=0∨j=1∨j=2:=by have:wl.length=3:=rfl;omega
 rcases hj with rfl | rfl | rfl <;> exact⟨by simp[World.cell?,h];rfl,by simp[World.cell?,h];rfl,by simp[World.cell?,h];rfl⟩
theorem ints_block{w:World}{b:Nat}{xs:List Int}{t:TypeId}(h:w.heap[b]? =some (.cells (cellsI xs).toArray t (0,0))):Ints w (some ⟨b,0,none⟩) xs:=by
 by_cases h0:xs= []
 ·exact .inl h0
 ·refine .inr ⟨b,0,rfl,lt_of_block h,fun j hj=> ?_⟩
  simp[World.cell?,h,cellsI,List.getD,hj]
theorem al6(w:World)(o0 o1 o2 o3 o4 o5:Obj): ∀W,W=(((((w.alloc o0).alloc o1).alloc o2).alloc o3).alloc o4).alloc o5→W.heap[w.heap.size]? =some o0∧W.heap[w.heap.size+1]? =some o1∧W.heap[w.heap.size+2]? =some o2∧W.heap[w.heap.size+3]? =some o3∧W.heap[w.heap.size+4]? =some o4∧W.heap[w.heap.size+5]? =some o5∧Below w.heap.size w W∧W.heap.size=w.heap.size+6:=by
 rintro W rfl
 have h3:=top3 w o0 o1 o2
 have h4:=top3 (((w.alloc o0).alloc o1).alloc o2) o3 o4 o5
 generalize ((w.alloc o0).alloc o1).alloc o2=V at*
 obtain⟨a0,a1,a2,a3,a4⟩:=h3
 obtain⟨b0,b1,b2,b3,b4⟩:=h4
 rw[a4] at b0 b1 b2 b4
 exact⟨(b3.block _ (lt_of_block a0)).trans a0,(b3.block _ (lt_of_block a1)).trans a1,(b3.block _ (lt_of_block a2)).trans a2,b0,b1,b2,a3.trans (b3.mono (by omega)),by omega⟩
def wC(p:Nat):List Cl:=[⟨some ⟨p,0,none⟩,3,[0,0,1]⟩]
theorem wC_rws{w:World}{b p:Nat}(h:w.heap[b]? =some (.cells #[.slice (some ⟨p,0,none⟩) 3 3] 25))(h2:w.heap[p]? =some (.cells #[.int .i64 0, .int .i64 0, .int .i64 1] 3)):Rws w (some ⟨b,0,none⟩) (wC p):=by
 refine⟨.inr ⟨b,0,rfl,lt_of_block h,fun j hj=> ?_⟩,fun j hj=> ?_⟩
 ·obtain rfl:j=0:=by have:(wC p).length=1:=rfl;omega
  simp[World.cell?,h];rfl
 ·obtain rfl:j=0:=by have:(wC p).length=1:=rfl;omega
  exact⟨ints_block (xs:=[0,0,1]) h2,by show 3≤9223372036854775807;decide⟩
theorem w_bd(p:Nat):bdV 3 wl [2] (csl (wC p)) 1 0=[0,1]∧inE 3 wl [2] (csl (wC p)) 1 0=0:=by
 show bdV 3 wl [2] [[0,0,1]] 1 0=[0,1]∧inE 3 wl [2] [[0,0,1]] 1 0=0
 decide
theorem bd_len{N:Int}{l:List A}{bs:List Int}{cs:List (List Int)}{k x:Int}:(bdV N l bs cs k x).length≤1024:=by
 unfold bdV
 split
 ·rename_i h
  have h1:=(chk_zero (inE_zero h).1.1).2.1
  have h2:=cho_len (bdP (lvl cs (k.toNat - 1)) l x) N.toNat
  unfold bdL
  omega
 ·simp
theorem getS_mem{S:List Nat}{i:Nat}(h:i<S.length):S.getD i 0∈S:=by
 rw[show S.getD i 0=S[i] by simp[List.getD,List.getElem?_eq_getElem h]]
 exact List.getElem_mem h
theorem by_facts{N:Int}{l:List A}{bs:List Int}{cs:List (List Int)}{k x:Int}(h:inE N l bs cs k x=0): ∃n:Nat,N=n∧chkE n l=0∧(∀i,i<(inV N l bs cs k x).length→(inV N l bs cs k x).getD i 0<l.length)∧(inV N l bs cs k x).length≤8192∧(∀i,i<(bdV N l bs cs k x).length→(bdV N l bs cs k x).getD i 0<n):=by
 obtain⟨hNR,j,q,rfl,hj,rfl,hq⟩:=inE_zero h
 have h1024:=(chk_zero hNR.1).2.1
 have h0N:=(chk_zero hNR.1).1
 have h8:=(chk_zero hNR.1).2.2.1
 obtain⟨n,hn⟩: ∃n:Nat,N=n:=⟨N.toNat,by omega⟩
 refine⟨n,hn,hn▸hNR.1,fun i hi=> ?_,?_,fun i hi=> ?_⟩
 ·have h1:=getS_mem hi
  unfold inV at h1 hi ⊢
  rw[if_pos h] at h1 hi ⊢
  exact(cho_mem.1 h1).1
 ·unfold inV
  rw[if_pos h]
  exact Nat.le_trans (cho_len _ _) h8
 ·have h1:=getS_mem hi
  unfold bdV at h1 hi ⊢
  rw[if_pos h] at h1 hi ⊢
  have h2:=(cho_mem.1 h1).1
  omega
theorem wg_ok{n:Nat}{l:List A}{ids:List Nat}{ws:List Int}(h:chkE n l=0)(hid: ∀i,i<ids.length→ids.getD i 0<l.length)(h8:ids.length≤8192)(hws: ∀i,i<ids.length→0≤ws.getD i 0∧ws.getD i 0<4294967296):WG n (wgL l ids ws):=by
 have hm: ∀x,x∈wgL l ids ws→((0≤x.f∧x.f<n)∧(0≤x.t∧x.t<n))∧0≤x.w∧x.w<4294967296:=fun x hx=>by
  unfold wgL at hx
  obtain⟨i,hi,rfl⟩:=List.mem_map.1 hx
  have hi':i<ids.length:=by simpa using hi
  exact⟨chk_in h (hid i hi'),hws i hi'⟩
 refine⟨?_,fun x hx=>(hm x hx).2⟩
 obtain⟨h1,h2,_,_⟩:=chk_zero h
 unfold chkE
 rw[if_neg (by omega),if_neg (by rw[wgL_len];omega),if_pos]
 rw[List.all_eq_true]
 intro x hx
 obtain⟨⟨⟨a1,a2⟩,a3,a4⟩,_⟩:=hm x hx
 simp[okA,okV,a1,a2,a3,a4]
theorem arcs_far{w:World}{g b i:Nat}{l:List A}{u:Value}(h:Arcs w (some ⟨g,0,none⟩) l)(hne:g≠b):Arcs (w.setCell ⟨b,i,none⟩ u) (some ⟨g,0,none⟩) l:=by
 rcases h with h | ⟨b',o,e,hl,hc⟩
 ·exact Or.inl h
 ·injection e with e
  injection e with e1 e2 e3
  subst e1
  subst e2
  refine Or.inr ⟨g,0,rfl,by simpa using hl,fun j hj=> ?_⟩
  obtain⟨h1,h2,h3⟩:=hc j hj
  have f: ∀k,(w.setCell ⟨b,i,none⟩ u).cell? ⟨g,k,none⟩=w.cell? ⟨g,k,none⟩:=fun k=>World.cell?_of_block (a:=⟨g,k,none⟩) (Below.heap_setCell w ⟨b,i,none⟩ u g hne)
  exact⟨(f _).trans h1,(f _).trans h2,(f _).trans h3⟩
def byE(N:Int)(l:List A)(bs:List Int)(cs:List (List Int))(lv ce ep:Int)(m:Nat):Int:=if inE N l bs cs lv ce≠0 then inE N l bs cs lv ce else jbE ep m (inV N l bs cs lv ce).length
structure AlG(W w:World)(bg g n m:Nat)(wl:List A):Prop where
 be:Below W.heap.size W w
 bg:w.heap[bg]? =some (.cells #[.int .i64 n, .slice (some ⟨g,0,none⟩) m m] 24)
 ar:Arcs w (some ⟨g,0,none⟩) wl
theorem alg_of{W w:World}{bg g n m:Nat}{wl:List A}(hb:Below W.heap.size W w)(hg:w.heap[bg]? =some (.cells #[.int .i64 0, .slice none 0 0] 24))(hgB:W.heap.size≤bg)(ha:Arcs w (some ⟨g,0,none⟩) wl)(hne:g≠bg):
  AlG W ((w.setCell ⟨bg,0,none⟩ (.int .i64 n)).setCell ⟨bg,1,none⟩ (.slice (some ⟨g,0,none⟩) m m)) bg g n m wl:=by
 have g1:=heap_setCell_same w bg 0 _ _ (.int .i64 n) hg
 have g2:=heap_setCell_same _ bg 1 _ _ (.slice (some ⟨g,0,none⟩) m m) g1
 exact⟨(hb.setCell (p:=⟨bg,0,none⟩) hgB _).setCell (p:=⟨bg,1,none⟩) hgB _,by rw[g2];simp,arcs_far (arcs_far ha hne) hne⟩
set_option maxHeartbeats 3200000 in
theorem byArcs_any(N:Int)(a:Option Addr)(l:List A)(cap:Nat)(ba:Option Addr)(bs:List Int)(bc:Nat)(ca:Option Addr)(C:List Cl)(cc:Nat)(lv ce ep:Int)(wa:Option Addr)(ws:List Int)(wk:Nat)(w:World)(hl:l.length≤9223372036854775807)(hbl:bs.length≤9223372036854775807)(hr:Arcs w a l)(hi:Ints w ba bs)(hR:Rws w ca C)(hW:Wts w wa ws)(hws: ∀i,i<ws.length→0≤ws.getD i 0∧ws.getD i 0<4294967296):
  Calls Tryz.prog 88 #[.agg #[.int .i64 N, .slice a l.length cap, .slice ba bs.length bc, .slice ca C.length cc, .int .i64 lv, .int .i64 ce], .int .i64 ep, .slice wa ws.length wk] w fun e w'=>((byE N l bs (csl C) lv ce ep ws.length)=0→(∃v c,e= .returned (.tuple #[.agg #[.int .i64 lv, .int .i64 ce, .int .i64 ep, .slice v (mxL (wgL l (inV N l bs (csl C) lv ce) ws) (bdV N l bs (csl C) lv ce)).length c], .int .i64 0])∧w'.ownsRow w.heap.size 48 1 (.slice v (mxL (wgL l (inV N l bs (csl C) lv ce) ws) (bdV N l bs (csl C) lv ce)).length c) (mxL (wgL l (inV N l bs (csl C) lv ce) ws) (bdV N l bs (csl C) lv ce)).length (cellsU (mxL (wgL l (inV N l bs (csl C) lv ce) ws) (bdV N l bs (csl C) lv ce)))∧∀i,i<(bdV N l bs (csl C) lv ce).length→N5.IsD ((wgL l (inV N l bs (csl C) lv ce) ws).map toN) (fun _=>true) ((bdV N l bs (csl C) lv ce).getD i 0) (dF (wgL l (inV N l bs (csl C) lv ce) ws) ((bdV N l bs (csl C) lv ce).getD i 0))))∧((byE N l bs (csl C) lv ce ep ws.length)≠0→e= .returned (.tuple #[.agg #[.int .i64 0, .int .i64 0, .int .i64 0, .slice none 0 0], .int .i64 (byE N l bs (csl C) lv ce ep ws.length)]))∧Below w.heap.size w w':=by
 obtain⟨hg0,hg1,hb0,hsz⟩:=top2 w (.cells #[.int .i64 N, .slice a l.length cap, .slice ba bs.length bc, .slice ca C.length cc, .int .i64 lv, .int .i64 ce] 118) (.cells #[.int .i64 0, .int .i64 0, .int .i64 0, .slice none 0 0] 40)
 obtain⟨c0,c1,c2,c3,c4,c5⟩:=six_cells hg0
 have HIN:=Lib.hid (plInner_any N a l cap ba bs bc ca C cc lv ce _ hl hbl (hr.on hb0) (hi.on hb0) (hR.on hb0))
 have HB0:=Lib.hid hb0
 have HG0:=Lib.hid hg0
 have HG1:=Lib.hid hg1
 have HRA:=Lib.hid hr
 have HRI:=Lib.hid hi
 have HRR:=Lib.hid hR
 have HWT:=Lib.hid hW
 have HWS:=Lib.hid hws
 have HBF:=Lib.hid (@by_facts N l bs (csl C) lv ce)
 have HBDL:(bdV N l bs (csl C) lv ce).length≤1024:=bd_len
 have HBY:Hid ((byE N l bs (csl C) lv ce ep ws.length)=if inE N l bs (csl C) lv ce≠0 then inE N l bs (csl C) lv ce else jbE ep ws.length (inV N l bs (csl C) lv ce).length):=rfl
 obtain⟨E,HE⟩:=named (inE N l bs (csl C) lv ce)
 obtain⟨ids,HID⟩:=named (inV N l bs (csl C) lv ce)
 obtain⟨S,HS⟩:=named (bdV N l bs (csl C) lv ce)
 rw[HE.out,HID.out] at HIN
 rw[HE.out,HID.out] at HBY
 rw[HE.out,HID.out,HS.out] at HBF
 rw[HS.out] at HBDL
 obtain⟨B,HBB⟩:=named (byE N l bs (csl C) lv ce ep ws.length)
 rw[HBB.out] at HBY
 rw[HBB.out,HID.out,HS.out]
 clear hr hi hR hb0 hg0 hg1 hW hws HBB
 generalize hp:w.heap.size=p at*
 go_enter Tryz.func88,Tryz.ntmps88
 go_wp2_with fail
 generalize hWW:(w.alloc (.cells #[.int .i64 N, .slice a l.length cap, .slice ba bs.length bc, .slice ca C.length cc, .int .i64 lv, .int .i64 ce] 118)).alloc (.cells #[.int .i64 0, .int .i64 0, .int .i64 0, .slice none 0 0] 40)=W at*
 clear hWW
 refine HIN.out.mono ?_
 rintro e w1 ⟨v1,rfl,hr1,hb1⟩
 have hz1:=hb1.size
 have HB1:Hid (Below p w w1):=HB0.out.trans (hb1.mono (by omega))
 have HK0:=Lib.hid ((hb1.block p (by omega)).trans HG0.out)
 have HK1:=Lib.hid ((hb1.block (p+1) (by omega)).trans HG1.out)
 have HI1:=Lib.hid hr1.ints
 have hw1:p+2≤w1.heap.size:=by omega
 clear hr1 hb1 HIN c0 c1 c2 c3 c4 c5 HB0 HG0 HG1 hz1
 have HR4:Hid (∀wr:World,wr.heap[p+1]? =some (.cells #[.int .i64 0, .int .i64 0, .int .i64 0, .slice none 0 0] 40)→((wr.cell? ⟨p+1,0,none⟩=some (.int .i64 0)∧wr.cell? ⟨p+1,1,none⟩=some (.int .i64 0)∧wr.cell? ⟨p+1,2,none⟩=some (.int .i64 0)∧wr.cell? ⟨p+1,3,none⟩=some (.slice none 0 0))∧(wr.frozen? ⟨p+1,0,none⟩=false∧wr.frozen? ⟨p+1,1,none⟩=false∧wr.frozen? ⟨p+1,2,none⟩=false∧wr.frozen? ⟨p+1,3,none⟩=false))):=fun wr h=>four_cells h
 have HZ4:Hid (∀wr:World,wr.heap[p+1]? =some (.cells #[.int .i64 0, .int .i64 0, .int .i64 0, .slice none 0 0] 40)→Below p w wr→((((((wr.setCell ⟨p+1,0,none⟩ (.int .i64 0)).setCell ⟨p+1,1,none⟩ (.int .i64 0)).setCell ⟨p+1,2,none⟩ (.int .i64 0)).setCell ⟨p+1,3,none⟩ (.slice none 0 0)).heap[p+1]? =some (.cells #[.int .i64 0, .int .i64 0, .int .i64 0, .slice none 0 0] 40))∧Below p w ((((wr.setCell ⟨p+1,0,none⟩ (.int .i64 0)).setCell ⟨p+1,1,none⟩ (.int .i64 0)).setCell ⟨p+1,2,none⟩ (.int .i64 0)).setCell ⟨p+1,3,none⟩ (.slice none 0 0)))):=fun wr h hb=>⟨set4 h _ _ _ _,below_set4 hb (by omega) _ _ _ _⟩
 obtain⟨⟨d0,d1,d2,d3⟩,f0,f1,f2,f3⟩:=HR4.out w1 HK1.out
 by_cases h1:E=0
 ·subst h1
  obtain⟨n,rfl,hC0,hid,h8,hSn⟩:=HBF.out rfl
  have HBY:Hid (B=jbE ep ws.length ids.length):=by show _=_;rw[HBY.out,if_neg (by simp)]
  have HCJ:=Lib.hid (checkJob_any ep wa ws.length wk v1 ids.length ids.length w1)
  rw[←HBY.out] at HCJ
  go_wp2_with fail
  refine HCJ.out.mono ?_
  rintro e w2 ⟨rfl,hw2⟩
  subst hw2
  by_cases h2:B=0
  ·subst h2
   have hlw:ws.length=ids.length:=by
    have:=HBY.out
    unfold jbE at this
    split at this
    ·exact absurd this (by decide)
    ·split at this
     ·exact absurd this (by decide)
     ·rename_i h3;simpa using h3
   obtain⟨m,HM⟩:=named ids.length
   rw[HM.out] at hlw
   have HWG:Hid (∀W2,Below w2.heap.size w2 W2→Calls Tryz.prog 138 #[.agg #[.int .i64 n, .slice a l.length cap], .slice v1 m m, .slice wa m wk] W2 fun e w'=> ∃g,e= .returned (.slice (some ⟨g,0,none⟩) m m)∧W2.heap.size≤g∧g<w'.heap.size∧Arcs w' (some ⟨g,0,none⟩) (wgL l ids ws)∧Below W2.heap.size W2 w'):=fun W2 hb=>by
    have hbw:Below p w W2:=HB1.out.trans (hb.mono (by omega))
    exact weighed_any n a l cap v1 ids m wa ws wk m W2 (chk_zero hC0).2.2.1 HM.out hlw (by rw[←HM.out];exact h8) (fun i hi=>hid i (by rw[HM.out];exact hi)) (HRA.out.on (hp▸hbw)) (HI1.out.on hb) (HWT.out.on (hp▸hbw))
   have HG:Hid (WG n (wgL l ids ws)):=wg_ok hC0 hid h8 (fun i hi=>HWS.out i (by rw[hlw,←HM.out];exact hi))
   have HLW:=Lib.hid hlw
   have HSN:=Lib.hid hSn
   have HSS:Hid (∀w':World,Below w2.heap.size w2 w'→w'.cell? ⟨p,0,none⟩=some (.int .i64 n)∧w'.cell? ⟨p,1,none⟩=some (.slice a l.length cap)):=fun W2 hb=>by
    obtain⟨x0,x1,_⟩:=six_cells ((hb.block p (by omega)).trans HK0.out)
    exact⟨x0,x1⟩
   have HB00:Hid (Below w2.heap.size w2 w2.drew):=(Below.refl _ _).drew
   obtain⟨k0,k1⟩:=HSS.out _ (Below.refl _ _)
   rw[HM.out]
   rw[hlw]
   clear hC0 hid h8 hSn hlw HCJ d0 d1 d2 d3 f0 f1 f2 f3 HBY
   generalize hW0:w2=W0 at*
   clear hW0
   go_wp2_with fail
   go_cut [11] (fun s11 wc=> ∃ (bg g:Nat),s11= .pointer (some ⟨bg,0,none⟩)∧Hid (AlG W0 wc bg g n m (wgL l ids ws)))
   case first=>
    refine wp_region_held_drew (S:=fun w'=>w'.cell? ⟨p,0,none⟩=some (.int .i64 n)∧w'.cell? ⟨p,1,none⟩=some (.slice a l.length cap)) (by kernel_rfl) (HSS.out _ HB00.out) ?_
    intro hS0
    generalize W0.drew=Wd at*
    simp only[List.size_toArray,List.length_cons,List.length_nil]
    refine wpAnyH_take (i:=0) (v:= ?_) rfl (by kernel_rfl) (by decide+kernel) (by decide+kernel) (fun _ _ _ h=>h) (Or.inl ⟨by rfl,?_⟩) (by assumption) ?_
    rotate_left
    ·intro w hSw
     (try dsimp only at hSw)
     go_simp
     (try with_reducible rfl)
    try simp only[Act.put,List.getElem_toArray,List.getElem_cons_zero,List.setIfInBounds_toArray,List.set_cons_zero,List.set_cons_succ]
    refine wpAnyH_take (i:=1) (v:= ?_) rfl (by kernel_rfl) (by decide+kernel) (by decide+kernel) (fun _ _ _ h=>h) (Or.inl ⟨by rfl,?_⟩) (by assumption) ?_
    rotate_left
    ·intro w hSw
     (try dsimp only at hSw)
     go_simp
     (try with_reducible rfl)
    try simp only[Act.put,List.getElem_toArray,List.getElem_cons_zero,List.getElem_cons_succ,List.setIfInBounds_toArray,List.set_cons_zero,List.set_cons_succ]
    refine wpAnyH_take (i:=2) (v:= ?_) rfl (by kernel_rfl) (by decide+kernel) (by decide+kernel) (fun _ _ _ h=>h) (Or.inl ⟨by rfl,?_⟩) (by assumption) ?_
    rotate_left
    ·intro w hSw
     (try dsimp only at hSw)
     go_simp
     (try with_reducible rfl)
    try simp only[Act.put,List.getElem_toArray,List.getElem_cons_zero,List.getElem_cons_succ,List.setIfInBounds_toArray,List.set_cons_zero,List.set_cons_succ]
    refine wpAnyH_take (i:=3) (v:= ?_) rfl (by kernel_rfl) (by decide+kernel) (by decide+kernel) (fun _ _ _ h=>h) (Or.inl ⟨by rfl,?_⟩) (by assumption) ?_
    rotate_left
    ·intro w hSw
     (try dsimp only at hSw)
     go_simp
     (try with_reducible rfl)
    try simp only[Act.put,List.getElem_toArray,List.getElem_cons_zero,List.getElem_cons_succ,List.setIfInBounds_toArray,List.set_cons_zero,List.set_cons_succ]
    refine wpAnyH_take (i:=4) (v:= ?_) rfl (by kernel_rfl) (by decide+kernel) (by decide+kernel) (fun _ _ _ h=>h) (Or.inl ⟨by rfl,?_⟩) (by assumption) ?_
    rotate_left
    ·intro w hSw
     (try dsimp only at hSw)
     go_simp
     (try with_reducible rfl)
    try simp only[Act.put,List.getElem_toArray,List.getElem_cons_zero,List.getElem_cons_succ,List.setIfInBounds_toArray,List.set_cons_zero,List.set_cons_succ]
    refine wpAnyH_take (i:=5) (v:= ?_) rfl (by kernel_rfl) (by decide+kernel) (by decide+kernel) (fun _ _ _ h=>h) (Or.inl ⟨by rfl,?_⟩) (by assumption) ?_
    rotate_left
    ·intro w hSw
     (try dsimp only at hSw)
     go_simp
     (try with_reducible rfl)
    try simp only[Act.put,List.getElem_toArray,List.getElem_cons_zero,List.getElem_cons_succ,List.setIfInBounds_toArray,List.set_cons_zero,List.set_cons_succ]
    refine wpAnyH_take (i:=6) (v:= ?_) rfl (by kernel_rfl) (by decide+kernel) (by decide+kernel) (fun _ _ _ h=>h) (Or.inl ⟨by rfl,?_⟩) (by assumption) ?_
    rotate_left
    ·intro w hSw
     (try dsimp only at hSw)
     go_simp
     (try with_reducible rfl)
    try simp only[Act.put,List.getElem_toArray,List.getElem_cons_zero,List.getElem_cons_succ,List.setIfInBounds_toArray,List.set_cons_zero,List.set_cons_succ]
    refine wpAnyH_ready (rs:=[7,9]) (by kernel_rfl) (by simp) ?_
    refine AllReadyH.cons rfl (fun K hK=> ?_) (AllReadyH.cons rfl (fun K hK=> ?_) (AllReadyH.nil))
    ·skip
     rw[if_pos (by rfl)]
     go_simp
     refine(HWG.out Wd HB00.out).mono ?_
     rintro e w7 ⟨g,rfl,hgl,hg7,har,hbn⟩
     have HB7:Hid (Below W0.heap.size W0 w7):=HB00.out.trans (hbn.mono HB00.out.size)
     refine hK.out _ _ (HSS.out _ HB7.out) (fun _=> ?_)
     clear hK K
     try simp only[Act.put,List.getElem_toArray,List.getElem_cons_zero,List.getElem_cons_succ,List.setIfInBounds_toArray,List.set_cons_zero,List.set_cons_succ]
     refine wpAnyH_take (i:=8) (v:= ?_) rfl (by kernel_rfl) (by decide+kernel) (by decide+kernel) (fun _ _ _ h=>h) (Or.inl ⟨by rfl,?_⟩) (by assumption) ?_
     rotate_left
     ·intro w hSw
      (try dsimp only at hSw)
      go_simp
      (try with_reducible rfl)
     try simp only[Act.put,List.getElem_toArray,List.getElem_cons_zero,List.getElem_cons_succ,List.setIfInBounds_toArray,List.set_cons_zero,List.set_cons_succ]
     refine wpAnyH_ready (rs:=[9]) (by kernel_rfl) (by simp) ?_
     refine AllReadyH.cons rfl (fun K hK=> ?_) AllReadyH.nil
     go_simp
     have hbm:Below w7.heap.size w7 (w7.alloc (.cells #[.int .i64 0, .slice none 0 0] 24)):=(Below.refl _ _).alloc (Nat.le_refl _) _
     have HBG:Hid ((w7.alloc (.cells #[.int .i64 0, .slice none 0 0] 24)).heap[w7.heap.size]? =some (.cells #[.int .i64 0, .slice none 0 0] 24)∧W0.heap.size≤w7.heap.size):=⟨heap_top w7 _,HB7.out.size⟩
     have HB9:Hid (Below W0.heap.size W0 (w7.alloc (.cells #[.int .i64 0, .slice none 0 0] 24))):=HB7.out.trans (hbm.mono HB7.out.size)
     have HA9:=Lib.hid (har.on hbm)
     have hne:g≠w7.heap.size:=by omega
     refine hK.out _ _ (HSS.out _ HB9.out) (fun _=> ?_)
     clear hK K
     try simp only[Act.put,List.getElem_toArray,List.getElem_cons_zero,List.getElem_cons_succ,List.setIfInBounds_toArray,List.set_cons_zero,List.set_cons_succ]
     generalize w7.heap.size=bg at*
     generalize w7.alloc (.cells #[.int .i64 0, .slice none 0 0] 24)=w9 at*
     have HAL:=Lib.hid (alg_of HB9.out HBG.out.1 HBG.out.2 HA9.out hne (n:=n) (m:=m))
     obtain⟨⟨z0,z1⟩,zf0,zf1⟩:=two_cells HBG.out.1
     refine wpAnyH_ready (rs:=[10]) (by kernel_rfl) (by simp) ?_
     refine AllReadyH.cons rfl (fun K hK=> ?_) AllReadyH.nil
     go_simp
     refine hK.out _ _ (HSS.out _ HAL.out.be) (fun _=> ?_)
     clear hK K
     try simp only[Act.put,List.getElem_toArray,List.getElem_cons_zero,List.getElem_cons_succ,List.setIfInBounds_toArray,List.set_cons_zero,List.set_cons_succ]
     refine wpAnyH_done (by kernel_rfl) ?_ _
     go_wp2_with fail
     go_meet
     case rel=>exact⟨bg,g,rfl,HAL⟩
    ·skip
     go_simp
     have hbm:Below Wd.heap.size Wd (Wd.alloc (.cells #[.int .i64 0, .slice none 0 0] 24)):=(Below.refl _ _).alloc (Nat.le_refl _) _
     have HG9:Hid ((Wd.alloc (.cells #[.int .i64 0, .slice none 0 0] 24)).heap[Wd.heap.size]? =some (.cells #[.int .i64 0, .slice none 0 0] 24)∧W0.heap.size≤Wd.heap.size):=⟨heap_top Wd _,HB00.out.size⟩
     have HB9:Hid (Below W0.heap.size W0 (Wd.alloc (.cells #[.int .i64 0, .slice none 0 0] 24))):=HB00.out.trans (hbm.mono HB00.out.size)
     have hz9:(Wd.alloc (.cells #[.int .i64 0, .slice none 0 0] 24)).heap.size=Wd.heap.size+1:=by simp
     refine hK.out _ _ (HSS.out _ HB9.out) (fun _=> ?_)
     clear hK K
     try simp only[Act.put,List.getElem_toArray,List.getElem_cons_zero,List.getElem_cons_succ,List.setIfInBounds_toArray,List.set_cons_zero,List.set_cons_succ]
     generalize Wd.heap.size=bg at*
     generalize Wd.alloc (.cells #[.int .i64 0, .slice none 0 0] 24)=w9 at*
     refine wpAnyH_ready (rs:=[7]) (by kernel_rfl) (by simp) ?_
     refine AllReadyH.cons rfl (fun K hK=> ?_) AllReadyH.nil
     rw[if_pos (by rfl)]
     go_simp
     refine(HWG.out w9 HB9.out).mono ?_
     rintro e w7 ⟨g,rfl,hgl,hg7,har,hbn⟩
     have HB7:Hid (Below W0.heap.size W0 w7):=HB9.out.trans (hbn.mono HB9.out.size)
     have HBG:Hid (w7.heap[bg]? =some (.cells #[.int .i64 0, .slice none 0 0] 24)∧W0.heap.size≤bg):=⟨(hbn.block _ (lt_of_block HG9.out.1)).trans HG9.out.1,HG9.out.2⟩
     have hne:g≠bg:=by omega
     have HA9:=Lib.hid har
     refine hK.out _ _ (HSS.out _ HB7.out) (fun _=> ?_)
     clear hK K
     try simp only[Act.put,List.getElem_toArray,List.getElem_cons_zero,List.getElem_cons_succ,List.setIfInBounds_toArray,List.set_cons_zero,List.set_cons_succ]
     refine wpAnyH_take (i:=8) (v:= ?_) rfl (by kernel_rfl) (by decide+kernel) (by decide+kernel) (fun _ _ _ h=>h) (Or.inl ⟨by rfl,?_⟩) (by assumption) ?_
     rotate_left
     ·intro w hSw
      (try dsimp only at hSw)
      go_simp
      (try with_reducible rfl)
     try simp only[Act.put,List.getElem_toArray,List.getElem_cons_zero,List.getElem_cons_succ,List.setIfInBounds_toArray,List.set_cons_zero,List.set_cons_succ]
     have HAL:=Lib.hid (alg_of HB7.out HBG.out.1 HBG.out.2 HA9.out hne (n:=n) (m:=m))
     obtain⟨⟨z0,z1⟩,zf0,zf1⟩:=two_cells HBG.out.1
     refine wpAnyH_ready (rs:=[10]) (by kernel_rfl) (by simp) ?_
     refine AllReadyH.cons rfl (fun K hK=> ?_) AllReadyH.nil
     go_simp
     refine hK.out _ _ (HSS.out _ HAL.out.be) (fun _=> ?_)
     clear hK K
     try simp only[Act.put,List.getElem_toArray,List.getElem_cons_zero,List.getElem_cons_succ,List.setIfInBounds_toArray,List.set_cons_zero,List.set_cons_succ]
     refine wpAnyH_done (by kernel_rfl) ?_ _
     go_wp2_with fail
     go_meet
     case rel=>exact⟨bg,g,rfl,HAL⟩
   case rest=>
    obtain⟨bg,g,rfl,HAL⟩:=hcut
    have HBC:Hid (Below p w wc):=HB1.out.trans (HAL.out.be.mono (by omega))
    have hzc:=HAL.out.be.size
    obtain⟨c0,c1,c2,c3,c4,c5⟩:=six_cells ((HAL.out.be.block p (by omega)).trans HK0.out)
    have HKC:=Lib.hid ((HAL.out.be.block (p+1) (by omega)).trans HK1.out)
    have HWL:Hid ((wgL l ids ws).length=m):=by show _=_;rw[wgL_len,HM.out]
    have HMX:=Lib.hid (matrix_any n a l cap ba bs bc ca C cc lv ce ep bg (wgL l ids ws) (some ⟨g,0,none⟩) m S wc HE.out HS.out HSN.out HBDL HG.out hl hbl (HRA.out.on (hp▸HBC.out)) (HRI.out.on (hp▸HBC.out)) (HRR.out.on (hp▸HBC.out)) (by rw[HWL.out];exact HAL.out.bg) HAL.out.ar)
    obtain⟨X,HX⟩:=named (mxL (wgL l ids ws) S)
    rw[HX.out] at HMX
    have hmf: ∀ (fn:Fn) (first cap:Array Value) (w:World),(Instr.makeFunc fn first cap).run Tryz.prog w= .ok (.func fn first cap) w:=fun _ _ _ _=>rfl
    clear HWG HSS HB00 k0 k1 HG
    go_wp2_with fail
    refine HMX.out.mono ?_
    rintro e w5 ⟨v,c,rfl,hown,hD,hb5⟩
    have hK5:=(hb5.block (p+1) (by omega)).trans HKC.out
    obtain⟨⟨d0,d1,d2,d3⟩,f0,f1,f2,f3⟩:=HR4.out w5 hK5
    have HR5:=Lib.hid (four_cells (set4 hK5 (.int .i64 lv) (.int .i64 ce) (.int .i64 ep) (.slice v X.length c))).1
    have HO5:=Lib.hid (own_base (own_set4 hown (show p+1<wc.heap.size by omega) (.int .i64 lv) (.int .i64 ce) (.int .i64 ep) (.slice v X.length c)) (show p≤wc.heap.size by omega))
    have HB5:=Lib.hid (below_set4 (HBC.out.trans (hb5.mono (by omega))) (show p≤p+1 by omega) (.int .i64 lv) (.int .i64 ce) (.int .i64 ep) (.slice v X.length c))
    have HD5:=Lib.hid hD
    clear hK5 hown hD hb5 HMX c0 c1 c2 c3 c4 c5
    go_wp2_with fail
    obtain⟨r0,r1,r2,r3⟩:=HR5.out
    rw[HX.out]
    refine bodyPost_ret (v:= .tuple #[.agg #[.int .i64 lv, .int .i64 ce, .int .i64 ep, .slice v X.length c], .int .i64 0]) (by simp[results,Tryz.results88,go_sem,r0,r1,r2,r3]) rfl ?_
    first | exact⟨⟨v,c,rfl,HO5.out,HD5.out⟩,HB5.out⟩ | exact⟨fun _=>⟨v,c,rfl,HO5.out,HD5.out⟩,fun h=>absurd rfl h,HB5.out⟩
  ·have e2:(B != 0)=true:=by simpa using h2
   obtain⟨r4,HBZ⟩:=HZ4.out w2 HK1.out HB1.out
   have HRZ:=Lib.hid (HR4.out _ r4).1
   have HBZ:=Lib.hid HBZ
   clear r4
   go_wp2_with fail
   obtain⟨r0,r1,r2,r3⟩:=HRZ.out
   refine bodyPost_ret (v:= .tuple #[.agg #[.int .i64 0, .int .i64 0, .int .i64 0, .slice none 0 0], .int .i64 B]) (by simp[results,Tryz.results88,go_sem,r0,r1,r2,r3]) rfl ?_
   exact⟨fun h=>absurd h h2,fun _=>rfl,HBZ.out⟩
 ·have e1:(E != 0)=true:=by simpa using h1
  obtain rfl:B=E:=by rw[HBY.out,if_pos h1]
  obtain⟨r4,HBZ⟩:=HZ4.out w1 HK1.out HB1.out
  have HRZ:=Lib.hid (HR4.out _ r4).1
  have HBZ:=Lib.hid HBZ
  clear r4
  go_wp2_with fail
  obtain⟨r0,r1,r2,r3⟩:=HRZ.out
  refine bodyPost_ret (v:= .tuple #[.agg #[.int .i64 0, .int .i64 0, .int .i64 0, .slice none 0 0], .int .i64 B]) (by simp[results,Tryz.results88,go_sem,r0,r1,r2,r3]) rfl ?_
  exact⟨fun h=>absurd h h1,fun _=>rfl,HBZ.out⟩
end Go.Proofs.YtaafkpojjdjphaaGreat
