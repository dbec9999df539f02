import Derived.Test.YtmenajiceaicpaaGreatZNE
import Derived.Deep.RegionWith
open Go.Lib (hid)
set_option maxRecDepth 100000
namespace Go.Proofs.YtmenajiceaicpaaGreat
open Go.RowKit
def chT(ys:List Int)(L:List Nat)(q:Int)(k:Nat):List Nat:=(List.range k).filter (fun c=>decide (ys.getD (L.getD c 0) 0=q))
theorem chT_t{ys:List Int}{L:List Nat}{q:Int}{k:Nat}(h:ys.getD (L.getD k 0) 0=q):chT ys L q (k+1)=chT ys L q k++[k]:=by
 unfold chT
 rw[List.range_succ,List.filter_append,List.filter_cons,if_pos (decide_eq_true h)]
 rfl
theorem chT_f{ys:List Int}{L:List Nat}{q:Int}{k:Nat}(h: ¬ys.getD (L.getD k 0) 0=q):chT ys L q (k+1)=chT ys L q k:=by
 unfold chT
 rw[List.range_succ,List.filter_append,List.filter_cons,if_neg (by rw[decide_eq_false h];decide)]
 exact List.append_nil _
theorem chT_len(ys:List Int)(L:List Nat)(q:Int)(k:Nat):(chT ys L q k).length≤k:=by
 have:=List.length_filter_le (fun c=>decide (ys.getD (L.getD c 0) 0=q)) (List.range k)
 simpa[chT] using this
def chL(xs ys:List Int)(q:Int):List Nat:=chT ys (lsL xs 0 []) q (lsL xs 0 []).length
def chE(N:Int)(l:List A)(bs:List Int)(cs:List (List Int))(k x:Int):Int:=if inE N l bs cs k x≠0 then inE N l bs cs k x else if k=1 then 111 else 0
def chV(N:Int)(l:List A)(bs:List Int)(cs:List (List Int))(k x:Int):List Nat:=if chE N l bs cs k x=0 then chL (lvl cs (k.toNat - 2)) (lvl cs (k.toNat - 1)) x else []
set_option maxHeartbeats 3200000 in
theorem children_any(N:Int)(a:Option Addr)(l:List A)(cap:Nat)(ba:Option Addr)(bs:List Int)(bc:Nat)(ca:Option Addr)(C:List Cl)(cc:Nat)(k x:Int)(w:World)(hl:l.length≤9223372036854775807)(hbl:bs.length≤9223372036854775807)(hr:Arcs w a l)(hi:Ints w ba bs)(hR:Rws w ca C):
  Calls Tryz.prog 18 #[.agg #[.int .i64 N, .slice a l.length cap], .agg #[.slice ba bs.length bc, .slice ca C.length cc], .int .i64 k, .int .i64 x] w fun e w'=> ∃v c S,e= .returned (.tuple #[.slice v S.length c, .int .i64 (chE N l bs (csl C) k x)])∧w'.ownsRow w.heap.size 3 1 (.slice v S.length c) S.length (cellsI (ints S))∧Hid (S=chV N l bs (csl C) k x)∧Below w.heap.size w w':=by
 have hb0:Below w.heap.size w ((w.alloc (.cells #[.int .i64 N, .slice a l.length cap] 24)).alloc (.cells #[.slice ba bs.length bc, .slice ca C.length cc] 28)):=(top2 w _ _).2.2.1
 have hg0:=(top2 w (.cells #[.int .i64 N, .slice a l.length cap] 24) (.cells #[.slice ba bs.length bc, .slice ca C.length cc] 28)).1
 have hg1:=(top2 w (.cells #[.int .i64 N, .slice a l.length cap] 24) (.cells #[.slice ba bs.length bc, .slice ca C.length cc] 28)).2.1
 have hsz:=(top2 w (.cells #[.int .i64 N, .slice a l.length cap] 24) (.cells #[.slice ba bs.length bc, .slice ca C.length cc] 28)).2.2.2
 obtain⟨⟨a0,a1⟩,_⟩:=two_cells hg0
 obtain⟨⟨a2,a3⟩,_⟩:=two_cells hg1
 have HB0:=hid hb0
 have HLK:=hid (lookInto_any N a l cap ba bs bc ca C cc k x _ hl hbl (hr.on hb0) (hi.on hb0) (hR.on hb0))
 have HRR:=hid hR
 clear hr hi hR hb0
 generalize hp:w.heap.size=p at*
 by_cases h1:inE N l bs (csl C) k x=0
 ·have HL:=hid (HLK.out.mono (fun e w' h=>(⟨h.1 h1,h.2.2⟩:(∃g,(∃c,e= .returned (.tuple #[.slice (some ⟨g,0,none⟩) bs.length c, .int .i64 0]))∧Hid (LvR w' g C bs))∧_)))
  have hCE:chE N l bs (csl C) k x=if k=1 then 111 else 0:=by unfold chE;rw[if_neg (by rw[h1];simp)]
  obtain⟨hNR,j,q,rfl,hj,rfl,hq⟩:=inE_zero h1
  have h5:=hNR.2.2.1
  clear HLK h1
  by_cases hj0:j=0
  ·rw[if_pos (by omega)] at hCE
   have HV:Hid (chV N l bs (csl C) ((j:Int)+1) q= []):=by show _=_;unfold chV;rw[hCE,if_neg (by decide)]
   rw[hCE,HV.out]
   clear hCE hNR hq
   subst hj0
   go_enter Tryz.func18,Tryz.ntmps18
   go_wp2_with fail
   generalize hW:(w.alloc (.cells #[.int .i64 N, .slice a l.length cap] 24)).alloc (.cells #[.slice ba bs.length bc, .slice ca C.length cc] 28)=W at*
   clear hW
   refine HL.out.mono ?_
   rintro e w1 ⟨⟨g,⟨c,rfl⟩,HLR⟩,hb1⟩
   have HB1:Hid (Below p w w1):=HB0.out.trans (hb1.mono (by omega))
   clear a0 a1 a2 a3 hb1 HL hg0 hg1 HB0
   go_wp2_with fail
   go_ret2
   exact⟨none,0,[],rfl,World.ownsRow_nil _ _ _ _,hid rfl,HB1.out⟩
  ·obtain⟨i,rfl⟩: ∃i,j=i+1:=⟨j - 1,by omega⟩
   rw[if_neg (by omega)] at hCE
   have HV:Hid (chV N l bs (csl C) ((i+1:Nat)+1:Int) q=chL (cl C i).xs (cl C (i+1)).xs q):=by
    show _=_
    unfold chV
    rw[hCE,if_pos rfl,show(((i+1:Nat):Int)+1).toNat - 1=i+1 by omega,show(((i+1:Nat):Int)+1).toNat - 2=i by omega,csl_at,csl_at]
   rw[hCE,HV.out]
   obtain⟨b1,b2,_,_⟩:=hNR.lv hj
   obtain⟨d1,d2,_,_⟩:=hNR.lv (show i<bs.length by omega)
   rw[csl_at] at b1 b2 d1 d2 hq
   have hN:=(chk_zero hNR.1).2.1
   have hjc:i+1<C.length:=by have:=hNR.2.2.2.1;rw[csl_len] at this;omega
   have HIY:=hid (HRR.out.2 (i+1) hjc).1
   have HIX:=hid (HRR.out.2 i (by omega)).1
   have HLS:=hid (ls_right d2)
   have hLn:(lsL (cl C i).xs 0 []).length≤1024:=by rw[ls_len d2];exact Nat.le_trans (szL_length _) (by omega)
   have hxl:(cl C i).xs.length≤1024:=by omega
   have hyl:(cl C (i+1)).xs.length≤1024:=by omega
   have hxy:(cl C i).xs.length≤(cl C (i+1)).xs.length:=by omega
   have hs1:(szL (cl C i).xs).length≤1024:=Nat.le_trans (szL_length _) hxl
   clear hCE hNR b1 b2 d1 d2
   have ej:((i+1:Nat):Int)+1 - 1=(i+1:Nat):=by omega
   have ej1:(i:Int)+1+1 - 1=(i+1:Nat):=by omega
   have ej2:(i:Int)+1+1 - 2=(i:Nat):=by omega
   have ej3:((i+1:Nat):Int)+1 - 2=(i:Nat):=by omega
   have hj':((i+1:Nat):Int)<bs.length:=by omega
   have hj'':(i:Int)<bs.length:=by omega
   have hk1: ¬((i+1:Nat):Int)+1=1:=by omega
   have hk2:(((i+1:Nat):Int)+1==1)=false:=by simp;omega
   obtain⟨K,HK⟩:=named (((i+1:Nat):Int)+1)
   have eK1:K - 1=(i+1:Nat):=by rw[←HK.out];omega
   have eK2:K - 2=(i:Nat):=by rw[←HK.out];omega
   have hK1: ¬K=1:=by rw[←HK.out];omega
   have hK2:(K==1)=false:=by simpa using hK1
   have hKb:K≤5:=by rw[←HK.out];omega
   have hKc:2≤K:=by rw[←HK.out];omega
   rw[HK.out] at HL ⊢
   obtain⟨X,HX⟩:=named (cl C i).xs
   obtain⟨Y,HY⟩:=named (cl C (i+1)).xs
   rw[HX.out] at hxl hxy HIX HLS hLn hs1 ⊢
   rw[HY.out] at hyl hxy HIY ⊢
   clear ej ej1 ej2 ej3 hk1 hk2
   go_enter Tryz.func18,Tryz.ntmps18
   go_wp2_with fail
   generalize hW:(w.alloc (.cells #[.int .i64 N, .slice a l.length cap] 24)).alloc (.cells #[.slice ba bs.length bc, .slice ca C.length cc] 28)=W at*
   clear hW
   refine HL.out.mono ?_
   rintro e w1 ⟨⟨g,⟨c,rfl⟩,HLR⟩,hb1⟩
   have HB1:Hid (Below p w w1):=HB0.out.trans (hb1.mono (by omega))
   have hwz:p≤w1.heap.size:=by have:=hb1.size;omega
   obtain⟨sv,sd,m0,m1,m2,_⟩:=HLR.out.2 (i+1) hj
   obtain⟨tv,td,n0,n1,n2,_⟩:=HLR.out.2 i (by omega)
   have hgw:=HLR.out.1
   unfold Cl.val at m0 n0
   clear a0 a1 a2 a3 hb1 HL hg0 hg1 HB0 hq HV HK
   rw[HX.out] at n0 n1
   rw[HY.out] at m0 m1
   generalize (cl C i).a=xa at*
   generalize (cl C i).c=xc at*
   generalize (cl C (i+1)).a=ya at*
   generalize (cl C (i+1)).c=yc at*
   generalize (szL Y).length=ym at*
   obtain⟨xm,HXM⟩:=named (szL X).length
   rw[HXM.out] at n1 hs1
   generalize bs.getD (i+1) 0=by1 at*
   generalize bs.getD i 0=bx1 at*
   clear HLR
   go_wp2_with fail
   go_cut [12,13] from 30 to 41 (fun s12 s13 wc=> ∃b1 b2,s12= .pointer (some ⟨b1,0,none⟩)∧s13= .pointer (some ⟨b2,0,none⟩)∧Hid (wc.heap[b1]? =some (.cells #[.slice ya Y.length yc, .slice sv ym sd, .int .i64 by1] 69))∧Hid (wc.heap[b2]? =some (.cells #[.slice xa X.length xc, .slice tv xm td, .int .i64 bx1] 69))∧Hid (Below w1.heap.size w1 wc))
   case first=>
    have hgn:g≠w1.heap.size:=by omega
    have hgm:=hgn.symm
    have hgn1:g≠w1.heap.size+1:=by omega
    have hgm1:=hgn1.symm
    clear HIX HIY HLS HB1 HRR
    go_region
    ·go_wp2_with fail
     go_meet
     case rel=>
      obtain⟨t1,t2,t3,_⟩:=top2 w1 (.cells #[.slice ya Y.length yc, .slice sv ym sd, .int .i64 by1] 69) (.cells #[.slice xa X.length xc, .slice tv xm td, .int .i64 bx1] 69)
      exact⟨_,_,rfl,rfl,t1,t2,t3.drew⟩
    ·go_wp2_with fail
     go_meet
     case rel=>
      obtain⟨t1,t2,t3,_⟩:=top2 w1 (.cells #[.slice xa X.length xc, .slice tv xm td, .int .i64 bx1] 69) (.cells #[.slice ya Y.length yc, .slice sv ym sd, .int .i64 by1] 69)
      exact⟨_,_,rfl,rfl,t2,t1,t3.drew⟩
   case rest=>
    obtain⟨b1,b2,rfl,rfl,HG1,HG2,HBC⟩:=hcut
    have hb1c:b1<wc.heap.size:=lt_of_block HG1.out
    have HBW:Hid (Below p w wc):=HB1.out.trans (HBC.out.mono hwz)
    have hwcz:p≤wc.heap.size:=Nat.le_trans hwz HBC.out.size
    obtain⟨r0,r1,_⟩:=three_cells HG2.out
    clear m0 m1 m2 n0 n1 n2 HB1 HBC
    have HLE:=hid (nsLeasts_any xa X xc tv xm td wc hxl hs1 (HIX.out.on (by rw[hp];exact HBW.out)))
    go_wp2_with fail
    refine HLE.out.mono ?_
    rintro e w2 ⟨lv,lc,L,rfl,hown,hL,hb2⟩
    have HL:=hid hL
    have HOL:=hid hown
    have HB2:Hid (Below p w w2):=HBW.out.trans (hb2.mono hwcz)
    have hk1:=(hb2.block b1 hb1c).trans HG1.out
    have HK1:=hid hk1
    have hz2:=hb2.size
    have hb12:b1<w2.heap.size:=by omega
    clear hb2 hown hL HLE r0 r1 HG1 HG2 HBW hk1
    rw[←HL.out] at HLS hLn
    have HCH:Hid (chL X Y q=chT Y L q L.length):=by show _=_;unfold chL;rw[←HL.out]
    have hp2:p≤w2.heap.size:=by omega
    obtain⟨i3,hi3,hz3,hs3,hby3⟩:=info_parts info3
    obtain⟨lg,lo,hlg⟩:=(own_ints HOL.out rfl).get
    have HLG:=hid hlg
    clear hlg
    go_wp2_with fail
    go_loopw [14,44] (fun s14 i wr=> ∃ (k:Nat) (av:Option Addr) (cv:Nat) (S:List Nat),k≤L.length∧i= .int .i64 k∧s14= .slice av S.length cv∧S.length≤k∧Hid (S=chT Y L q k)∧Hid (wr.ownsRow w2.heap.size 3 1 (.slice av S.length cv) S.length (cellsI (ints S)))∧Hid (Below w2.heap.size w2 wr)) (fun _ i _=>L.length - (intOf i).toNat)
    case atStart=>exact⟨0,none,0,[],Nat.zero_le _,rfl,rfl,Nat.zero_le _,rfl,World.ownsRow_nil _ _ _ _,Below.refl _ _⟩
    case round=>
     obtain⟨k,av,cv,S,hk,rfl,rfl,hSk,HS,HOW,HBR⟩:=hrel
     have hwr:=HBR.out.size
     have HBX:Hid (Below p w wr):=HB2.out.trans (HBR.out.mono hp2)
     by_cases hlk:k<L.length
     ·obtain⟨rfl,hbl,hat⟩:=HLG.out (by rw[ints_len];omega)
      have hlk':(k:Int)<L.length:=by omega
      have y0:=(HBR.out.cell (p:=⟨lg,lo+k,none⟩) hbl).trans (hat k (by rw[ints_len];exact hlk))
      rw[ints_getD hlk] at y0
      obtain⟨z0,z1,_⟩:=three_cells ((HBR.out.block b1 hb12).trans HK1.out)
      have hLY:L.getD k 0<Y.length:=by have:=(HLS.out.2.1 k hlk).1;omega
      have HOF:=hid (nsOf_any ya Y yc (.slice sv ym sd) (L.getD k 0) wr hLY (by omega) (HIY.out.on (by rw[hp];exact HBX.out)))
      obtain⟨yv,HYV⟩:=named (Y.getD (L.getD k 0) 0)
      rw[HYV.out] at HOF
      obtain⟨u,HU⟩:=named (L.getD k 0)
      rw[HU.out] at HOF y0
      clear hat hLY
      go_wp2_with fail
      refine HOF.out.mono ?_
      rintro e w3 ⟨rfl,hb3⟩
      have HO3:=hid (own_on HOW.out hb3)
      have HB3:Hid (Below w2.heap.size w2 w3):=HBR.out.trans (hb3.mono hwr)
      have hz3':w2.heap.size≤w3.heap.size:=Nat.le_trans hwr hb3.size
      clear hb3 HOF y0 z0 z1
      by_cases c:yv=q
      ·have hcq:(yv==(q:Int))=true:=by simpa using c
       have HS2:Hid (S++[k]=chT Y L q (k+1)):=by show _=_;rw[chT_t (HYV.out.trans c),HS.out]
       have HNW:=hid (one_new w3 k)
       have HO2:=hid (HO3.out.alloc (.cells #[.int .i64 k] 3))
       have HBZ:Hid (w2.heap.size≤(w3.alloc (.cells #[.int .i64 k] 3)).heap.size):=by show _≤_;rw[World.size_alloc];omega
       have HBB:Hid (Below w2.heap.size w2 (w3.alloc (.cells #[.int .i64 k] 3))):=HB3.out.alloc hz3' _
       have HOB:Hid (∀b,(Value.slice av S.length cv).ownBlock=some b→w2.heap.size≤b):=fun b hb=>(HO3.out.lt b hb).1
       have HCA:Hid (cellsI (ints S)++[.int .i64 k]=cellsI (ints (S++[k]))):=by show _=_;rw[ints_snoc,←cellsI_snoc]
       have hs8:S.length≤1024:=by omega
       clear c
       go_wp2_with (at_builtin;refine wpList_append_own _ rfl (.tmp 55) (.tmp 57) 25 rfl w2.heap.size 3 i3 (.int .i64 0) 1 8 Tryz.underlying25 hi3 hz3 hs3 hby3 rfl (by decide) (.slice av S.length cv) S.length (cellsI (ints S)) rfl HO2.out ⟨w3.heap.size,0,none⟩ 1 1 [.int .i64 k] rfl rfl HNW.out (one_i64 _) (by unfold maxLen;omega) (by omega) HBZ.out ?_;intro v6 w6 hown6 hgrow6 hnil6;obtain⟨g6,c6,hv6,_,hc6,_,hm6⟩:=own_shape hown6 (fun e=>by have:=hnil6.1 e;simp at this);subst hv6;rw[HCA.out] at hown6;have h7:w6.ownsRow w2.heap.size 3 1 (.slice (some ⟨g6,0,none⟩) (S++[k]).length c6) (S++[k]).length (cellsI (ints (S++[k]))):=(by rw[List.length_append];exact hown6);have HO7:=hid h7;have HB6:Hid (Below w2.heap.size w2 w6):=HBB.out.grown hgrow6 HBZ.out (fun j hj=>HOB.out j hj);clear hown6 hgrow6 hnil6 h7)
       exact⟨⟨k+1,some ⟨g6,0,none⟩,c6,S++[k],by omega,by simp,by rw[List.length_append];rfl,by rw[List.length_append];simp;omega,HS2,HO7,HB6⟩,by simp[intOf];omega⟩
      ·have hcq:(yv==(q:Int))=false:=by simpa using c
       have HS2:Hid (S=chT Y L q (k+1)):=by show _=_;rw[chT_f (fun h=>c (HYV.out.symm.trans h)),HS.out]
       clear c
       go_wp2_with fail
       exact⟨⟨k+1,av,cv,S,by omega,by simp,rfl,by omega,HS2,HO3,HB3⟩,by simp[intOf];omega⟩
     ·have hlk': ¬(k:Int)<L.length:=by omega
      have hkk:k=L.length:=by omega
      have HS2:Hid (S=chL X Y q):=by show _=_;rw[HCH.out,HS.out,hkk]
      have HOF:=hid (own_base HOW.out hp2)
      clear hkk
      go_wp2_with fail
      go_ret2
      exact⟨av,cv,S,rfl,HOF.out,HS2,HBX.out⟩
 ·have HL:=hid (HLK.out.mono (fun e w' h=>(⟨h.2.1 h1,h.2.2⟩:e= .returned (.tuple #[.slice none 0 0, .int .i64 (inE N l bs (csl C) k x)])∧_)))
  have hCE:chE N l bs (csl C) k x=inE N l bs (csl C) k x:=by unfold chE;rw[if_pos h1]
  have HV:Hid (chV N l bs (csl C) k x= []):=by show _=_;unfold chV;rw[hCE,if_neg h1]
  rw[hCE,HV.out]
  obtain⟨F,HF⟩:=named (inE N l bs (csl C) k x)
  rw[HF.out] at HL h1 ⊢
  have e1:(F != 0)=true:=by simpa using h1
  clear HLK hCE
  go_enter Tryz.func18,Tryz.ntmps18
  go_wp2_with fail
  generalize hW:(w.alloc (.cells #[.int .i64 N, .slice a l.length cap] 24)).alloc (.cells #[.slice ba bs.length bc, .slice ca C.length cc] 28)=W at*
  clear hW
  refine HL.out.mono ?_
  rintro e w1 ⟨rfl,hb1⟩
  have HB1:Hid (Below p w w1):=HB0.out.trans (hb1.mono (by omega))
  clear a0 a1 a2 a3 hb1 HL hg0 hg1 HB0
  go_wp2_with fail
  go_ret2
  exact⟨none,0,[],rfl,World.ownsRow_nil _ _ _ _,hid rfl,HB1.out⟩
def paE(N:Int)(l:List A)(bs:List Int)(cs:List (List Int))(k x:Int):Int:=if inE N l bs cs k x≠0 then inE N l bs cs k x else if k=bs.length then 111 else 0
def paV(N:Int)(l:List A)(bs:List Int)(cs:List (List Int))(k x:Int):Int:=if paE N l bs cs k x=0 then (lvl cs k.toNat).getD ((lsL (lvl cs (k.toNat - 1)) 0 []).getD x.toNat 0) 0 else 0
set_option maxHeartbeats 3200000 in
theorem parent_any(N:Int)(a:Option Addr)(l:List A)(cap:Nat)(ba:Option Addr)(bs:List Int)(bc:Nat)(ca:Option Addr)(C:List Cl)(cc:Nat)(k x:Int)(w:World)(hl:l.length≤9223372036854775807)(hbl:bs.length≤9223372036854775807)(hr:Arcs w a l)(hi:Ints w ba bs)(hR:Rws w ca C):
  Calls Tryz.prog 21 #[.agg #[.int .i64 N, .slice a l.length cap], .agg #[.slice ba bs.length bc, .slice ca C.length cc], .int .i64 k, .int .i64 x] w fun e w'=>e= .returned (.tuple #[.int .i64 (paV N l bs (csl C) k x), .int .i64 (paE N l bs (csl C) k x)])∧Below w.heap.size w w':=by
 have hb0:Below w.heap.size w ((w.alloc (.cells #[.int .i64 N, .slice a l.length cap] 24)).alloc (.cells #[.slice ba bs.length bc, .slice ca C.length cc] 28)):=(top2 w _ _).2.2.1
 have hg0:=(top2 w (.cells #[.int .i64 N, .slice a l.length cap] 24) (.cells #[.slice ba bs.length bc, .slice ca C.length cc] 28)).1
 have hg1:=(top2 w (.cells #[.int .i64 N, .slice a l.length cap] 24) (.cells #[.slice ba bs.length bc, .slice ca C.length cc] 28)).2.1
 have hsz:=(top2 w (.cells #[.int .i64 N, .slice a l.length cap] 24) (.cells #[.slice ba bs.length bc, .slice ca C.length cc] 28)).2.2.2
 obtain⟨⟨a0,a1⟩,_⟩:=two_cells hg0
 obtain⟨⟨a2,a3⟩,_⟩:=two_cells hg1
 have HB0:=hid hb0
 have HLK:=hid (lookInto_any N a l cap ba bs bc ca C cc k x _ hl hbl (hr.on hb0) (hi.on hb0) (hR.on hb0))
 have HRR:=hid hR
 clear hr hi hR hb0
 generalize hp:w.heap.size=p at*
 by_cases h1:inE N l bs (csl C) k x=0
 ·have HL:=hid (HLK.out.mono (fun e w' h=>(⟨h.1 h1,h.2.2⟩:(∃g,(∃c,e= .returned (.tuple #[.slice (some ⟨g,0,none⟩) bs.length c, .int .i64 0]))∧Hid (LvR w' g C bs))∧_)))
  have hCE:paE N l bs (csl C) k x=if k=bs.length then 111 else 0:=by unfold paE;rw[if_neg (by rw[h1];simp)]
  obtain⟨hNR,j,q,rfl,hj,rfl,hq⟩:=inE_zero h1
  have h5:=hNR.2.2.1
  clear HLK h1
  by_cases hj0:j+1=bs.length
  ·rw[if_pos (by omega)] at hCE
   have HV:Hid (paV N l bs (csl C) ((j:Int)+1) q=0):=by show _=_;unfold paV;rw[hCE,if_neg (by decide)]
   rw[hCE,HV.out]
   have hkk:(((j:Int)+1)==(bs.length:Int))=true:=by simp;omega
   have hkk2:((j:Int)+1)=(bs.length:Int):=by omega
   clear hCE hNR hq hj0
   obtain⟨K,HK⟩:=named ((j:Int)+1)
   rw[HK.out] at HL hkk hkk2 ⊢
   obtain rfl:K=(bs.length:Int):=hkk2
   clear HK
   go_enter Tryz.func21,Tryz.ntmps21
   go_wp2_with fail
   generalize hW:(w.alloc (.cells #[.int .i64 N, .slice a l.length cap] 24)).alloc (.cells #[.slice ba bs.length bc, .slice ca C.length cc] 28)=W at*
   clear hW
   refine HL.out.mono ?_
   rintro e w1 ⟨⟨g,⟨c,rfl⟩,HLR⟩,hb1⟩
   have HB1:Hid (Below p w w1):=HB0.out.trans (hb1.mono (by omega))
   clear a0 a1 a2 a3 hb1 HL hg0 hg1 HB0
   go_wp2_with fail
   go_ret2
   exact⟨rfl,HB1.out⟩
  ·rw[if_neg (by omega)] at hCE
   have HV:Hid (paV N l bs (csl C) ((j:Int)+1) q=(cl C (j+1)).xs.getD ((lsL (cl C j).xs 0 []).getD q 0) 0):=by
    show _=_
    unfold paV
    rw[hCE,if_pos rfl,show((j:Int)+1).toNat - 1=j by omega,show((j:Int)+1).toNat=j+1 by omega,csl_at,csl_at,Int.toNat_natCast]
   rw[hCE,HV.out]
   obtain⟨b1,b2,_,_⟩:=hNR.lv (show j+1<bs.length by omega)
   obtain⟨d1,d2,_,_⟩:=hNR.lv hj
   rw[csl_at] at b1 b2 d1 d2 hq
   have hN:=(chk_zero hNR.1).2.1
   have hjc:j+1<C.length:=by have:=hNR.2.2.2.1;rw[csl_len] at this;omega
   have HIY:=hid (HRR.out.2 (j+1) hjc).1
   have HIX:=hid (HRR.out.2 j (by omega)).1
   have HLS:=hid (ls_right d2)
   have hLn:(lsL (cl C j).xs 0 []).length≤1024:=by rw[ls_len d2];exact Nat.le_trans (szL_length _) (by omega)
   have hqL:q<(lsL (cl C j).xs 0 []).length:=by rw[ls_len d2];exact hq
   have hxl:(cl C j).xs.length≤1024:=by omega
   have hyl:(cl C (j+1)).xs.length≤1024:=by omega
   have hxy:(cl C j).xs.length≤(cl C (j+1)).xs.length:=by omega
   have hs1:(szL (cl C j).xs).length≤1024:=Nat.le_trans (szL_length _) hxl
   clear hCE hNR b1 b2 d1 d2 hq
   have hj':((j+1:Nat):Int)<bs.length:=by omega
   have hj'':(j:Int)<bs.length:=by omega
   obtain⟨K,HK⟩:=named ((j:Int)+1)
   have eK0:K=(j+1:Nat):=by rw[←HK.out];omega
   have hK1: ¬K=bs.length:=by rw[←HK.out];omega
   rw[HK.out] at HL ⊢
   clear HK
   subst eK0
   have eK1:((j+1:Nat):Int) - 1=(j:Nat):=by omega
   have hK2:(((j+1:Nat):Int)==(bs.length:Int))=false:=by simpa using hK1
   obtain⟨X,HX⟩:=named (cl C j).xs
   obtain⟨Y,HY⟩:=named (cl C (j+1)).xs
   rw[HX.out] at hxl hxy HIX HLS hLn hs1 hqL ⊢
   rw[HY.out] at hyl hxy HIY ⊢
   obtain⟨kk,HKK⟩:=named (j+1)
   have hkk1:kk≤5:=by rw[←HKK.out];omega
   rw[HKK.out] at HL hj' eK1 hK1 hK2 ⊢
   obtain⟨R,HRV⟩:=named (Y.getD ((lsL X 0 []).getD q 0) 0)
   rw[HRV.out]
   go_enter Tryz.func21,Tryz.ntmps21
   go_wp2_with fail
   generalize hW:(w.alloc (.cells #[.int .i64 N, .slice a l.length cap] 24)).alloc (.cells #[.slice ba bs.length bc, .slice ca C.length cc] 28)=W at*
   clear hW
   refine HL.out.mono ?_
   rintro e w1 ⟨⟨g,⟨c,rfl⟩,HLR⟩,hb1⟩
   have HB1:Hid (Below p w w1):=HB0.out.trans (hb1.mono (by omega))
   have hwz:p≤w1.heap.size:=by have:=hb1.size;omega
   obtain⟨sv,sd,m0,m1,m2,_⟩:=HLR.out.2 (j+1) (by omega)
   obtain⟨tv,td,n0,n1,n2,_⟩:=HLR.out.2 j hj
   have hgw:=HLR.out.1
   unfold Cl.val at m0 n0
   clear a0 a1 a2 a3 hb1 HL hg0 hg1 HB0 HV hj0
   rw[HX.out] at n0 n1
   rw[HY.out] at m0 m1
   generalize (cl C j).a=xa at*
   generalize (cl C j).c=xc at*
   generalize (cl C (j+1)).a=ya at*
   generalize (cl C (j+1)).c=yc at*
   generalize (szL Y).length=ym at*
   obtain⟨xm,HXM⟩:=named (szL X).length
   rw[HXM.out] at n1 hs1
   generalize bs.getD (j+1) 0=by1 at*
   generalize bs.getD j 0=bx1 at*
   rw[HKK.out] at m0 m1 m2
   clear HLR
   go_wp2_with fail
   go_cut [12,13] from 29 to 39 (fun s12 s13 wc=> ∃b1 b2,s12= .pointer (some ⟨b1,0,none⟩)∧s13= .pointer (some ⟨b2,0,none⟩)∧Hid (wc.heap[b1]? =some (.cells #[.slice xa X.length xc, .slice tv xm td, .int .i64 bx1] 69))∧Hid (wc.heap[b2]? =some (.cells #[.slice ya Y.length yc, .slice sv ym sd, .int .i64 by1] 69))∧Hid (Below w1.heap.size w1 wc))
   case first=>
    have hgn:g≠w1.heap.size:=by omega
    have hgm:=hgn.symm
    have hgn1:g≠w1.heap.size+1:=by omega
    have hgm1:=hgn1.symm
    clear HIX HIY HLS HB1 HRR
    go_region
    ·go_wp2_with fail
     go_meet
     case rel=>
      obtain⟨t1,t2,t3,_⟩:=top2 w1 (.cells #[.slice xa X.length xc, .slice tv xm td, .int .i64 bx1] 69) (.cells #[.slice ya Y.length yc, .slice sv ym sd, .int .i64 by1] 69)
      exact⟨_,_,rfl,rfl,t1,t2,t3.drew⟩
    ·go_wp2_with fail
     go_meet
     case rel=>
      obtain⟨t1,t2,t3,_⟩:=top2 w1 (.cells #[.slice ya Y.length yc, .slice sv ym sd, .int .i64 by1] 69) (.cells #[.slice xa X.length xc, .slice tv xm td, .int .i64 bx1] 69)
      exact⟨_,_,rfl,rfl,t2,t1,t3.drew⟩
   case rest=>
    obtain⟨b1,b2,rfl,rfl,HG1,HG2,HBC⟩:=hcut
    have hb1c:b1<wc.heap.size:=lt_of_block HG1.out
    have hb2c:b2<wc.heap.size:=lt_of_block HG2.out
    have HBW:Hid (Below p w wc):=HB1.out.trans (HBC.out.mono hwz)
    have hwcz:p≤wc.heap.size:=Nat.le_trans hwz HBC.out.size
    obtain⟨r0,r1,_⟩:=three_cells HG1.out
    obtain⟨s0,s1,_⟩:=three_cells HG2.out
    have R0:=hid r0
    have R1:=hid r1
    have S0:=hid s0
    have S1:=hid s1
    clear m0 m1 m2 n0 n1 n2 HB1 HBC HG1 HG2
    have hqi:(q:Int)<(lsL X 0 []).length:=by omega
    have HFIN:Hid (∀w',Below wc.heap.size wc w'→Below p w w'):=fun w' h=>HBW.out.trans (h.mono hwcz)
    have HLE:Hid (∀U,Below wc.heap.size wc U→Calls Tryz.prog 46 #[.agg #[.slice xa X.length xc, .slice tv xm td]] U fun e w'=> ∃g c,e= .returned (.slice (some ⟨g,0,none⟩) (lsL X 0 []).length c)∧g<w'.heap.size∧w'.cell? ⟨g,q,none⟩=some (.int .i64 ((lsL X 0 []).getD q 0:Nat))∧Below U.heap.size U w'∧Below wc.heap.size wc w'):=fun U hU=>by
     refine(nsLeasts_any xa X xc tv xm td U hxl hs1 (HIX.out.on (by rw[hp];exact HFIN.out U hU))).mono ?_
     rintro e w' ⟨v,c,S,rfl,hown,rfl,hb⟩
     obtain⟨g,cg,hv,_,_,hgs,_⟩:=own_shape hown (fun e=>by injection e with _ e2 _;omega)
     injection hv with hv1 _ hv3
     subst hv1 hv3
     exact⟨g,c,rfl,hgs,own_cellI hown hqL,hb,hU.trans (hb.mono hU.size)⟩
    have HOF:Hid (∀U,Below wc.heap.size wc U→Calls Tryz.prog 47 #[.agg #[.slice ya Y.length yc, .slice sv ym sd], .int .i64 ((lsL X 0 []).getD q 0:Nat)] U fun e w'=>e= .returned (.int .i64 R)∧Below wc.heap.size wc w'):=fun U hU=>by
     have hLY:(lsL X 0 []).getD q 0<Y.length:=by have:=(HLS.out.2.1 q hqL).1;omega
     refine(nsOf_any ya Y yc (.slice sv ym sd) _ U hLY (by omega) (HIY.out.on (by rw[hp];exact HFIN.out U hU))).mono ?_
     rintro e w' ⟨rfl,hb⟩
     exact⟨by rw[HRV.out],hU.trans (hb.mono hU.size)⟩
    clear HRV
    generalize (lsL X 0 []).getD q 0=u at*
    generalize (lsL X 0 []).length=Ln at*
    clear HIX HIY HLS HRR HBW
    go_wp2_with fail
    go_region_with (first | (go_at_call 46;refine(HLE.out _ (by first | exact Below.refl _ _ | exact(Below.refl _ _).drew)).mono ?_;rintro e w2 ⟨lg,lc,rfl,hlg,hlu,hbx,hb2⟩;have v0:=(hb2.cell (p:=⟨b1,0,none⟩) hb1c).trans R0.out;have v1:=(hb2.cell (p:=⟨b1,1,none⟩) hb1c).trans R1.out;have v2:=(hb2.cell (p:=⟨b2,0,none⟩) hb2c).trans S0.out;have v3:=(hb2.cell (p:=⟨b2,1,none⟩) hb2c).trans S1.out;clear hbx) | (go_at_call 47;refine(HOF.out _ (by first | exact hb2 | exact hb2.drew)).mono ?_;rintro e w3 ⟨rfl,hb3⟩;have v4:=(hb3.cell (p:=⟨b1,0,none⟩) hb1c).trans R0.out;have v5:=(hb3.cell (p:=⟨b1,1,none⟩) hb1c).trans R1.out;have v6:=(hb3.cell (p:=⟨b2,0,none⟩) hb2c).trans S0.out;have v7:=(hb3.cell (p:=⟨b2,1,none⟩) hb2c).trans S1.out))
    all_goals (go_wp2_with fail)
    all_goals go_ret2
    all_goals (exact⟨rfl,HFIN.out _ hb3⟩)
 ·have HL:=hid (HLK.out.mono (fun e w' h=>(⟨h.2.1 h1,h.2.2⟩:e= .returned (.tuple #[.slice none 0 0, .int .i64 (inE N l bs (csl C) k x)])∧_)))
  have hCE:paE N l bs (csl C) k x=inE N l bs (csl C) k x:=by unfold paE;rw[if_pos h1]
  have HV:Hid (paV N l bs (csl C) k x=0):=by show _=_;unfold paV;rw[hCE,if_neg h1]
  rw[hCE,HV.out]
  obtain⟨F,HF⟩:=named (inE N l bs (csl C) k x)
  rw[HF.out] at HL h1 ⊢
  have e1:(F != 0)=true:=by simpa using h1
  clear HLK hCE
  go_enter Tryz.func21,Tryz.ntmps21
  go_wp2_with fail
  generalize hW:(w.alloc (.cells #[.int .i64 N, .slice a l.length cap] 24)).alloc (.cells #[.slice ba bs.length bc, .slice ca C.length cc] 28)=W at*
  clear hW
  refine HL.out.mono ?_
  rintro e w1 ⟨rfl,hb1⟩
  have HB1:Hid (Below p w w1):=HB0.out.trans (hb1.mono (by omega))
  clear a0 a1 a2 a3 hb1 HL hg0 hg1 HB0
  go_wp2_with fail
  go_ret2
  exact⟨rfl,HB1.out⟩
def nmb(xs:List Int)(p:Int→Bool)(k:Nat):Nat:=((List.range k).filter (fun v=>p (xs.getD v 0))).length
theorem nmb_succ(xs:List Int)(p:Int→Bool)(k:Nat):nmb xs p (k+1)=nmb xs p k+if p (xs.getD k 0)=true then 1 else 0:=by
 unfold nmb
 rw[List.range_succ,List.filter_append,List.length_append]
 by_cases h:p (xs.getD k 0)=true
 ·rw[if_pos h,List.filter_cons,if_pos h];rfl
 ·rw[if_neg h,List.filter_cons,if_neg h];rfl
theorem nmb_or(xs:List Int)(p q:Int→Bool)(h: ∀x,p x=true→q x=true→False): ∀k,nmb xs (fun x=>p x||q x) k=nmb xs p k+nmb xs q k
 | 0=>rfl
 | k+1=>by
   rw[nmb_succ,nmb_succ,nmb_succ,nmb_or xs p q h k]
   have:=h (xs.getD k 0)
   by_cases hp:p (xs.getD k 0)=true
   ·by_cases hq:q (xs.getD k 0)=true
    ·exact(this hp hq).elim
    ·rw[if_pos (by rw[hp];rfl),if_pos hp,if_neg hq];omega
   ·by_cases hq:q (xs.getD k 0)=true
    ·rw[if_pos (by rw[hq,Bool.or_true]),if_neg hp,if_pos hq];omega
    ·rw[if_neg (fun h=>(Bool.or_eq_true_iff.1 h).elim hp hq),if_neg hp,if_neg hq];omega
theorem nmb_congr{xs ys:List Int}{p q:Int→Bool}{k:Nat}(h: ∀v,v<k→p (xs.getD v 0)=q (ys.getD v 0)):nmb xs p k=nmb ys q k:=by
 induction k with
 | zero=>rfl
 | succ k ih=>rw[nmb_succ,nmb_succ,ih (fun v hv=>h v (by omega)),h k (by omega)]
theorem nmb_le(xs:List Int)(p:Int→Bool)(k:Nat):nmb xs p k≤k:=by
 have:=List.length_filter_le (fun v=>p (xs.getD v 0)) (List.range k)
 rw[List.length_range] at this
 exact this
theorem mbr_len(xs:List Int)(q:Int):(mbr xs q).length=nmb xs (fun x=>decide (x=q)) xs.length:=rfl
theorem sz_nmb{xs:List Int}(ht:tdy xs 0=true)(q:Nat): ∀k,k≤xs.length→(szL (xs.take k)).getD q 0=nmb xs (fun x=>decide (x=(q:Int))) k
 | 0,_=>by simp[szL,nmb]
 | k+1,hk=>by
   have ih:=sz_nmb ht q k (by omega)
   obtain⟨a0,a1⟩:=right_next ht k (by omega)
   rw[take_snocI (by omega),szL_snoc,nmb_succ,←ih]
   have e:(if decide (xs.getD k 0=(q:Int))=true then 1 else 0)=if (xs.getD k 0).toNat=q then 1 else 0:=by
    by_cases h:xs.getD k 0=(q:Int)
    ·rw[if_pos (decide_eq_true h),if_pos (by omega)]
    ·rw[if_neg (fun h2=>h (of_decide_eq_true h2)),if_neg (by omega)]
   rw[e]
   unfold szS
   generalize (xs.getD k 0).toNat=x at*
   generalize szL (xs.take k)=S at*
   by_cases h:x=S.length
   ·rw[if_pos h]
    by_cases h2:q<S.length
    ·rw[getD_app_lt h2,if_neg (by omega)];rfl
    ·by_cases h3:q=S.length
     ·subst h3
      rw[getD_end,if_pos h,List.getD_eq_getElem?_getD,List.getElem?_eq_none (Nat.le_refl _)]
      rfl
     ·rw[if_neg (by omega),List.getD_eq_getElem?_getD,List.getD_eq_getElem?_getD,List.getElem?_eq_none (by simp;omega),List.getElem?_eq_none (by omega)]
      rfl
   ·rw[if_neg h,List.getD_eq_getElem?_getD,List.getElem?_set]
    by_cases h2:x=q
    ·subst h2
     rw[if_pos rfl,if_pos (by omega),if_pos rfl]
     rfl
    ·rw[if_neg h2,if_neg h2,List.getD_eq_getElem?_getD]
     rfl
theorem sz_mbr{xs:List Int}(ht:tdy xs 0=true)(q:Nat):(szL xs).getD q 0=(mbr xs q).length:=by
 have:=sz_nmb ht q xs.length (Nat.le_refl _)
 rw[List.take_length] at this
 exact this
theorem nd_inj{l:List Nat}(h:l.Nodup){i j:Nat}(hi:i<l.length)(hj:j<l.length)(e:l[i]=l[j]):i=j:=by
 have h1:=List.Nodup.idxOf_getElem h i hi
 have h2:=List.Nodup.idxOf_getElem h j hj
 rw[e] at h1
 omega
theorem mbr_mem{xs:List Int}{q:Int}{v:Nat}:v∈mbr xs q↔v<xs.length∧xs.getD v 0=q:=by simp[mbr]
theorem mbr_nodup(xs:List Int)(q:Int):(mbr xs q).Nodup:=List.Pairwise.filter _ List.nodup_range
theorem mbr_some{xs:List Int}(ht:tdy xs 0=true){q:Nat}(hq:q<(szL xs).length):0<(mbr xs q).length:=by
 obtain⟨h1,h2,h3⟩:=ls_right ht
 obtain⟨b0,b1,_⟩:=h2 q (by rw[ls_len ht];exact hq)
 exact List.length_pos_of_mem (mbr_mem.2 ⟨b0,b1⟩)
theorem mbr_bound{xs:List Int}(ht:tdy xs 0=true){b:Int}(hw:wdB (szL xs) b=true){q:Nat}(hq:q<(szL xs).length):((mbr xs q).length:Int)≤b:=by
 rw[←sz_mbr ht q]
 exact(of_decide_eq_true hw) q hq
theorem ch_mem{xs ys:List Int}{q:Int}{k:Nat}:k∈chL xs ys q↔k<(lsL xs 0 []).length∧ys.getD ((lsL xs 0 []).getD k 0) 0=q:=by simp[chL,chT]
theorem ch_nodup(xs ys:List Int)(q:Int):(chL xs ys q).Nodup:=List.Pairwise.filter _ List.nodup_range
theorem ch_iff{xs ys:List Int}(ht:tdy xs 0=true)(hn:Nst xs ys)(q:Int){v:Nat}(hv:v<xs.length):ys.getD v 0=q↔(xs.getD v 0).toNat∈chL xs ys q:=by
 obtain⟨h1,h2,h3⟩:=ls_right ht
 obtain⟨a0,a1⟩:=h3 v hv
 obtain⟨b0,b1,_⟩:=h2 _ a1
 have e:ys.getD ((lsL xs 0 []).getD (xs.getD v 0).toNat 0) 0=ys.getD v 0:=hn _ b0 v hv (by omega)
 rw[ch_mem,e]
 exact⟨fun h=>⟨a1,h⟩,fun h=>h.2⟩
def chS(xs:List Int)(c:List Nat)(i:Nat):Nat:=nmb xs (fun x=>(c.take i).contains x.toNat&&decide (0≤x)) xs.length
theorem chS_zero(xs:List Int)(c:List Nat):chS xs c 0=0:=by simp[chS,nmb]
theorem chS_succ{xs:List Int}{c:List Nat}(hc:c.Nodup){i:Nat}(hi:i<c.length):chS xs c (i+1)=chS xs c i+(mbr xs (c.getD i 0:Nat)).length:=by
 rw[mbr_len]
 unfold chS
 rw[←nmb_or]
 ·refine nmb_congr (fun v _=> ?_)
  generalize xs.getD v 0=x
  rw[List.take_add_one,List.getElem?_eq_getElem hi]
  have e:c.getD i 0=c[i]:=by rw[List.getD_eq_getElem?_getD,List.getElem?_eq_getElem hi];rfl
  rw[e,Bool.eq_iff_iff]
  simp only[Option.toList_some,Bool.and_eq_true,Bool.or_eq_true,List.contains_iff_mem,List.mem_append,List.mem_singleton,decide_eq_true_eq]
  constructor
  ·rintro⟨h | h,h0⟩
   ·exact Or.inl ⟨h,h0⟩
   ·exact Or.inr (by omega)
  ·rintro(⟨h,h0⟩ | h)
   ·exact⟨Or.inl h,h0⟩
   ·exact⟨Or.inr (by omega),by omega⟩
 ·intro x h1 h2
  rw[Bool.and_eq_true,List.contains_iff_mem] at h1
  have h3:=of_decide_eq_true h2
  have e:c.getD i 0=c[i]:=by rw[List.getD_eq_getElem?_getD,List.getElem?_eq_getElem hi];rfl
  have h4:x.toNat=c[i]:=by omega
  rw[h4] at h1
  obtain⟨j,hj,hje⟩:=List.mem_take_iff_getElem.1 h1.1
  have:=nd_inj hc (by omega) hi hje
  omega
theorem chS_all{xs ys:List Int}(ht:tdy xs 0=true)(hn:Nst xs ys)(hl:ys.length=xs.length)(q:Int):chS xs (chL xs ys q) (chL xs ys q).length=(mbr ys q).length:=by
 rw[mbr_len,hl]
 unfold chS
 rw[List.take_length]
 refine nmb_congr (fun v hv=> ?_)
 obtain⟨_,_,h3⟩:=ls_right ht
 have h0:=(h3 v hv).1
 rw[Bool.eq_iff_iff,Bool.and_eq_true,List.contains_iff_mem,decide_eq_true_eq,decide_eq_true_eq,ch_iff ht hn q hv]
 exact⟨fun h=>h.1,fun h=>⟨h,h0⟩⟩
end Go.Proofs.YtmenajiceaicpaaGreat
