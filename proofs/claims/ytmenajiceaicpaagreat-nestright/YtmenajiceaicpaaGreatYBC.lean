import Derived.Test.YtmenajiceaicpaaGreatYBB
import Derived.Test.YtmenajiceaicpaaGreatYNE
open Go.Lib (hid)
set_option maxRecDepth 100000
namespace Go.Proofs.YtmenajiceaicpaaGreat
open Go.RowKit
theorem ints_block{w:World}{b:Nat}{xs:List Int}{t:TypeId}(h:w.heap[b]? =some (.cells (cellsI xs).toArray t (0,0))):Ints w (some ⟨b,0,none⟩) xs:=by
 by_cases h0:xs= []
 ·exact .inl h0
 ·refine .inr ⟨b,0,rfl,lt_of_block h,fun j hj=> ?_⟩
  simp[World.cell?,h,cellsI,List.getD,hj]
abbrev wO:Obj:= .cells #[.int .i64 0, .int .i64 1, .int .u32 0, .int .i64 1, .int .i64 2, .int .u32 0, .int .i64 2, .int .i64 0, .int .u32 0, .int .i64 3, .int .i64 4, .int .u32 0, .int .i64 4, .int .i64 5, .int .u32 0, .int .i64 5, .int .i64 3, .int .u32 0, .int .i64 2, .int .i64 3, .int .u32 0] 58
theorem wl_arcs{w:World}{b:Nat}(h:w.heap[b]? =some wO):Arcs w (some ⟨b,0,none⟩) wl:=by
 refine .inr ⟨b,0,rfl,lt_of_block h,fun j hj=> ?_⟩
 have hj:j=0∨j=1∨j=2∨j=3∨j=4∨j=5∨j=6:=by have:wl.length=7:=rfl;omega
 rcases hj with rfl | rfl | rfl | rfl | rfl | rfl | rfl <;> exact⟨by simp[World.cell?,h];rfl,by simp[World.cell?,h];rfl,by simp[World.cell?,h];rfl⟩
theorem wl_plE:plE 6 wl (ints (3::[6])) [0] 0=0:=by decide
theorem wl_made{w:World}{B:Nat}{vb:Option Addr}{cb:Nat}{va:Option Addr}{ca:Nat}(h:MkIs w B vb cb va ca 6 wl (ints (3::[6])) [0] 0):Ints w vb [3,6]∧∃C:List Cl,C.length=2∧Rws w va C∧csl C=[ints wL,ints wZ]∧NR 6 wl [3,6] (csl C):=by
 obtain⟨h1,b,bs',L,C,r,e1,hb,hR,h2,h3,h4,h5,h6⟩:=h
 have e2:(3::[6]:List Nat)=b::bs':=by
  have:=congrArg (List.map Int.toNat) e1
  simpa[ints,Function.comp_def] using this
 injection e2 with e2 e3
 subst e2 e3
 have e4:L=wL:=wl_low h2
 subst e4
 have e5:r=[wZ]:=wl_up h3
 subst e5
 have hl: ∀j,j<C.length→(cl C j).xs.length≤9223372036854775807:=fun j hj=>by
  rw[←csl_at,h6]
  have h4':C.length=2:=h4
  have:j=0∨j=1:=by omega
  rcases this with rfl | rfl <;> decide
 refine⟨ints_own h1,C,h4,h5.rws hl,h6,?_⟩
 rw[h6]
 exact made_right (n:=6) wl_chk hb hR (by decide) h2 h3
theorem wl_ap{cs:List (List Int)}(h:cs=[ints wL,ints wZ])(hN:NR 6 wl [3,6] cs):apE 6 wl [3,6] cs 0 3=0∧apV 6 wl [3,6] cs 0 3=1:=by
 have e:apE 6 wl [3,6] cs 0 3=0:=by
  unfold apE
  rw[if_neg (by rw[nsE_zero.2 hN];simp),if_neg (by decide)]
 refine⟨e,?_⟩
 unfold apV
 rw[if_pos e,h]
 rfl
set_option maxHeartbeats 3200000 in
theorem works_any(w:World):Calls Tryz.prog 9 #[] w fun e w'=>e= .returned (.bool true)∧Below w.heap.size w w':=by
 have hA0:((w.alloc wO).alloc (.cells #[.int .i64 6, .slice (some ⟨w.heap.size,0,none⟩) 7 7] 24)).heap[w.heap.size]? =some wO:=(top2 w _ _).1
 have hG0:=(top2 w wO (.cells #[.int .i64 6, .slice (some ⟨w.heap.size,0,none⟩) 7 7] 24)).2.1
 have hB0:=(top2 w wO (.cells #[.int .i64 6, .slice (some ⟨w.heap.size,0,none⟩) 7 7] 24)).2.2.1
 generalize hp:w.heap.size=p at*
 have HAR:=hid (wl_arcs hA0)
 have HG0:=hid hG0
 have HB0:=hid hB0
 obtain⟨⟨g0,g1⟩,_⟩:=two_cells hG0
 clear hA0 hG0 hB0
 go_enter Tryz.func9,Tryz.ntmps9
 generalize hW:(w.alloc wO).alloc (.cells #[.int .i64 6, .slice (some ⟨p,0,none⟩) 7 7] 24)=W at*
 have hX:=top2 W (.cells #[.int .i64 3, .int .i64 6] 3) (.cells #[.int .i64 0] 3)
 have HBX:=hid hX.2.2.1
 have HN1:Hid (Ints ((W.alloc (.cells #[.int .i64 3, .int .i64 6] 3)).alloc (.cells #[.int .i64 0] 3)) (some ⟨W.heap.size,0,none⟩) [3,6]):=ints_block hX.1
 have HN2:Hid (Ints ((W.alloc (.cells #[.int .i64 3, .int .i64 6] 3)).alloc (.cells #[.int .i64 0] 3)) (some ⟨W.heap.size+1,0,none⟩) [0]):=ints_block hX.2.1
 have hXs:=hX.2.2.2
 clear hX
 have hpW:p+1<W.heap.size:=lt_of_block HG0.out
 go_wp2_with fail
 clear hW g0 g1
 have HMK:=hid (make_ok 6 (some ⟨p,0,none⟩) wl 7 ⟨W.heap.size,0,none⟩ 3 [6] 2 (some ⟨W.heap.size+1,0,none⟩) [0] 1 0 ((W.alloc (.cells #[.int .i64 3, .int .i64 6] 3)).alloc (.cells #[.int .i64 0] 3)) wl_plE (by decide) (by decide) (HAR.out.on HBX.out) HN1.out HN2.out (by decide) impC0)
 generalize hX:(W.alloc (.cells #[.int .i64 3, .int .i64 6] 3)).alloc (.cells #[.int .i64 0] 3)=X at*
 clear hX
 refine HMK.out.mono ?_
 rintro e w1 ⟨vb,cb,va,ca,rfl,hmk,hb1⟩
 obtain⟨m1,C,m2,m3,m4,m5⟩:=wl_made hmk.out
 have HW1:Hid (Below W.heap.size W w1):=HBX.out.trans (hb1.mono (by omega))
 have hz1:=hb1.size
 have hG1:=(HW1.out.block (p+1) hpW).trans HG0.out
 have HA1:=hid (HAR.out.on HW1.out)
 have HB1:Hid (Below p w w1):=HB0.out.trans (HW1.out.mono (by omega))
 have HM1:=hid m1
 have HM3:=hid m3
 have HM4:=hid m4
 have HM5:=hid m5
 have HM2:=hid m2
 clear hb1 HMK HBX HN1 HN2 hmk m1 m3 m4 m5 m2 HAR HB0 HG0
 have HG1:=hid hG1
 have hbY:Below w1.heap.size w1 (w1.alloc (.cells #[.slice vb 2 cb, .slice va 2 ca] 28)):=(Below.refl _ _).alloc (Nat.le_refl _) _
 have HY:=hid (heap_top w1 (.cells #[.slice vb 2 cb, .slice va 2 ca] 28))
 have hG2:=(hbY.block (p+1) (by omega)).trans hG1
 obtain⟨⟨g0,g1⟩,_⟩:=two_cells hG2
 obtain⟨⟨y0,y1⟩,_⟩:=two_cells HY.out
 have HB2:Hid (Below p w (w1.alloc (.cells #[.slice vb 2 cb, .slice va 2 ca] 28))):=HB1.out.trans (hbY.mono (by omega))
 have HM6:=hid (HM3.out.on hbY)
 have HAP:=hid (apart_any 6 (some ⟨p,0,none⟩) wl 7 vb [3,6] cb va C ca 0 3 (w1.alloc (.cells #[.slice vb 2 cb, .slice va 2 ca] 28)) (by decide) (by decide) (HA1.out.on hbY) (HM1.out.on hbY) HM6.out)
 obtain⟨ap1,ap2⟩:=wl_ap HM4.out HM5.out
 rw[ap1,ap2,HM2.out] at HAP
 have hz2:(w1.alloc (.cells #[.slice vb 2 cb, .slice va 2 ca] 28)).heap.size=w1.heap.size+1:=by simp
 clear hbY hG1 hG2 ap1 ap2
 go_wp2_with fail
 generalize hq:w1.heap.size=q at*
 generalize hY:w1.alloc (.cells #[.slice vb 2 cb, .slice va 2 ca] 28)=Y at*
 clear hY
 refine HAP.out.mono ?_
 rintro e w2 ⟨rfl,hb2⟩
 have HB3:Hid (Below p w w2):=HB2.out.trans (hb2.mono (by omega))
 have hz3:=hb2.size
 obtain⟨⟨x0,x1⟩,_⟩:=two_cells ((hb2.block q (by omega)).trans HY.out)
 have HM7:=hid (HM6.out.on hb2)
 obtain⟨ib,ob,hib⟩:=HM7.out.get
 obtain⟨rfl,hibl,hct⟩:=hib (by rw[HM2.out];decide)
 have d0:=hct 0 (by rw[HM2.out];decide)
 have d1:=hct 1 (by rw[HM2.out];decide)
 have HI0:=hid (HM7.out.2 0 (by rw[HM2.out];decide)).1
 have HI1:=hid (HM7.out.2 1 (by rw[HM2.out];decide)).1
 have e0:(cl C 0).xs=[0,0,0,1,1,1]:=by rw[←csl_at,HM4.out];rfl
 have e1:(cl C 1).xs=[0,0,0,0,0,0]:=by rw[←csl_at,HM4.out];rfl
 unfold Cl.val at d0 d1
 rw[e0] at d0 HI0
 rw[e1] at d1 HI1
 rw[Nat.add_zero] at d0
 simp only[List.length_cons,List.length_nil,Nat.zero_add,Nat.reduceAdd] at d0 d1
 generalize (cl C 0).a=xa at*
 generalize (cl C 0).c=xc at*
 generalize (cl C 1).a=ya at*
 generalize (cl C 1).c=yc at*
 have D1:=hid d1
 have X1:=hid x1
 have hqw:q<w2.heap.size:=by omega
 clear hb2 HAP g0 g1 y0 y1 hib hct e0 e1 HB2
 have HX2:Hid (Below w2.heap.size w2 (w2.alloc (.cells #[.int .i64 0, .int .i64 0, .int .i64 0, .int .i64 1, .int .i64 1, .int .i64 1] 3))):=(Below.refl _ _).alloc (Nat.le_refl _) _
 have HN2:Hid (Ints (w2.alloc (.cells #[.int .i64 0, .int .i64 0, .int .i64 0, .int .i64 1, .int .i64 1, .int .i64 1] 3)) (some ⟨w2.heap.size,0,none⟩) [0,0,0,1,1,1]):=ints_block (heap_top w2 _)
 go_wp2_with fail
 refine(sameInts_any xa (some ⟨w2.heap.size,0,none⟩) xc 6 [0,0,0,1,1,1] _ (by decide) (HI0.out.on HX2.out) HN2.out).mono ?_
 rintro e w3 ⟨rfl,hb3⟩
 have HW3:Hid (Below w2.heap.size w2 w3):=HX2.out.trans (hb3.mono HX2.out.size)
 have HB4:Hid (Below p w w3):=HB3.out.trans (HW3.out.mono (by omega))
 have u1:=(HW3.out.cell (p:=⟨q,1,none⟩) hqw).trans X1.out
 have u2:=(HW3.out.cell (p:=⟨ib,ob+1,none⟩) hibl).trans D1.out
 have hz4:=HW3.out.size
 clear hb3 HX2 HN2 d0 d1 x0 x1
 have HX3:Hid (Below w3.heap.size w3 (w3.alloc (.cells #[.int .i64 0, .int .i64 0, .int .i64 0, .int .i64 0, .int .i64 0, .int .i64 0] 3))):=(Below.refl _ _).alloc (Nat.le_refl _) _
 have HN3:Hid (Ints (w3.alloc (.cells #[.int .i64 0, .int .i64 0, .int .i64 0, .int .i64 0, .int .i64 0, .int .i64 0] 3)) (some ⟨w3.heap.size,0,none⟩) [0,0,0,0,0,0]):=ints_block (heap_top w3 _)
 go_wp2_with fail
 refine(sameInts_any ya (some ⟨w3.heap.size,0,none⟩) yc 6 [0,0,0,0,0,0] _ (by decide) ((HI1.out.on HW3.out).on HX3.out) HN3.out).mono ?_
 rintro e w5 ⟨rfl,hb5⟩
 have HB5:Hid (Below p w w5):=HB4.out.trans ((HX3.out.trans (hb5.mono HX3.out.size)).mono (by omega))
 clear hb5
 go_wp2_with fail
 go_ret
 exact⟨rfl,HB5.out⟩
end Go.Proofs.YtmenajiceaicpaaGreat
namespace Go.Proofs.YtmenajiceaicpaaGreat.Rgt
open Go.RowKit
theorem made_nr{w:World}{B:Nat}{vb:Option Addr}{cb:Nat}{va:Option Addr}{ca:Nat}{n:Nat}{l:List A}{bs cs:List Int}{mo:Int}(hP:plE n l bs cs mo=0)(h:MkIs w B vb cb va ca n l bs cs mo):Ints w vb bs∧∃C:List Cl,C.length=bs.length∧Rws w va C∧nsE n l bs (csl C)=0:=by
 obtain⟨h1,b,bs',L,C,r,e1,hb,hR,h2,h3,h4,h5,h6⟩:=h
 obtain⟨hC,⟨_,h5'⟩,_⟩:=plE_zero hP
 have hNR:NR n l bs (csl C):=by
  rw[h6,e1]
  rw[e1,ints_len,List.length_cons] at h5'
  exact made_right hC hb hR h5' h2 h3
 have hl: ∀j,j<C.length→(cl C j).xs.length≤9223372036854775807:=fun j hj=>by
  have:=(hNR.lv (show j<bs.length by omega)).1
  rw[csl_at] at this
  have:=(chk_zero hC).2.1
  omega
 exact⟨ints_own h1,C,h4,h5.rws hl,nsE_zero.2 hNR⟩
set_option maxHeartbeats 3200000 in
theorem right_any(N:Int)(a:Option Addr)(l:List A)(cap:Nat)(ba:Option Addr)(bs:List Int)(bc:Nat)(ca:Option Addr)(cs:List Int)(cc:Nat)(mo:Int)(w:World)(hlen:l.length*24≤140737488351232)(hbl:bs.length*8≤140737488351232)(hcl:cs.length*8≤140737488351232)(hbc:bs.length≤bc)(hbm:bc≤9223372036854775807)(hr:Arcs w a l)(hi:Ints w ba bs)(hj:Ints w ca cs):
  Calls Tryz.prog 5 #[.agg #[.int .i64 N, .slice a l.length cap], .agg #[.slice ba bs.length bc, .slice ca cs.length cc, .int .i64 mo]] w fun e w'=>e= .returned (.bool true)∧Below w.heap.size w w':=by
 have hl:l.length≤9223372036854775807:=by omega
 have hbl':bs.length≤9223372036854775807:=by omega
 have hcl':cs.length≤9223372036854775807:=by omega
 obtain⟨hg0,hg1,hb0,hsz⟩:=top2 w (.cells #[.int .i64 N, .slice a l.length cap] 24) (.cells #[.slice ba bs.length bc, .slice ca cs.length cc, .int .i64 mo] 48)
 have HAR:=hid hr
 have HI:=hid hi
 have HJ:=hid hj
 have HB0:=hid hb0
 have HG0:=hid hg0
 have HG1:=hid hg1
 clear hr hi hj hb0 hg0 hg1
 generalize hp:w.heap.size=p at*
 go_enter Tryz.func5,Tryz.ntmps5
 go_wp2_with fail
 generalize hW:(w.alloc (.cells #[.int .i64 N, .slice a l.length cap] 24)).alloc (.cells #[.slice ba bs.length bc, .slice ca cs.length cc, .int .i64 mo] 48)=W at*
 clear hW
 refine(works_any W).mono ?_
 rintro e w1 ⟨rfl,hb1⟩
 have HB1:=hid (below_tr HB0.out hp hb1)
 have hz1:=hb1.size
 have HK0:=hid ((hb1.block p (by omega)).trans HG0.out)
 have HK1:=hid ((hb1.block (p+1) (by omega)).trans HG1.out)
 obtain⟨⟨g0,g1⟩,_⟩:=two_cells HK0.out
 clear hb1 HB0 HG0 HG1
 go_wp2_with fail
 refine(large_any N a l cap w1 hl (HAR.out.on (by rw[hp];exact HB1.out))).mono ?_
 rintro e w2 ⟨rfl,hb2⟩
 have HB2:=hid (below_tr HB1.out hp hb2)
 have hz2:=hb2.size
 have HM0:=hid ((hb2.block p (by omega)).trans HK0.out)
 have HM1:=hid ((hb2.block (p+1) (by omega)).trans HK1.out)
 clear hb2 g0 g1 HK0 HK1 HB1
 obtain⟨⟨g0,g1⟩,_⟩:=two_cells HM0.out
 obtain⟨p0,p1,p2⟩:=three_cells HM1.out
 obtain⟨V,HV⟩:=named (lgB N l)
 rw[HV.out]
 cases V
 ·by_cases h8:(8:Int)<cs.length
  ·go_wp2_with fail
   go_ret
   exact⟨rfl,HB2.out⟩
  by_cases h9:(100:Int)<mo
  ·have h8':decide ((8:Int)<cs.length)=false:=decide_eq_false h8
   go_wp2_with fail
   go_ret
   exact⟨rfl,HB2.out⟩
  have h8':decide ((8:Int)<cs.length)=false:=decide_eq_false h8
  have h9':decide ((100:Int)<mo)=false:=decide_eq_false h9
  by_cases hP:plE N l bs cs mo=0
  ·obtain⟨hC,⟨hb1,_⟩,hri,_⟩:=plE_zero hP
   obtain⟨n,rfl⟩: ∃n:Nat,N=n:=⟨N.toNat,by have:=(chk_zero hC).1;omega⟩
   obtain⟨bn,ebn,_⟩:=ris_of (bb:=0) hri
   have HMK:Hid (Calls Tryz.prog 29 #[.agg #[.int .i64 n, .slice a l.length cap], .slice ba bs.length bc, .slice ca cs.length cc, .int .i64 mo] w2 fun e w'=> ∃vb cb va ca' C,e= .returned (.tuple #[.agg #[.slice vb bs.length cb, .slice va bs.length ca'], .int .i64 0])∧Hid (Ints w' vb bs∧C.length=bs.length∧Rws w' va C∧nsE n l bs (csl C)=0)∧Below w2.heap.size w2 w'):=by
    cases bn with
    | nil=>rw[ebn] at hb1;exact absurd hb1 (by decide)
    | cons b bn=>
      have hI2:=HI.out.on (show Below w.heap.size w w2 by rw[hp];exact HB2.out)
      have hbs:bs.length=bn.length+1:=by rw[ebn,ints_len];rfl
      obtain⟨ad,rfl⟩: ∃ad,ba=some ad:=by
       rcases hI2 with h | ⟨g,o,hab,_⟩
       ·rw[h] at hb1;exact absurd hb1 (by decide)
       ·exact⟨_,hab⟩
      have hm:=make_ok n a l cap ad b bn bc ca cs cc mo w2 (ebn▸hP) (by omega) hbm (HAR.out.on (by rw[hp];exact HB2.out)) (ebn▸hI2) (HJ.out.on (by rw[hp];exact HB2.out)) hcl' (fun N a l cap b xs bc bd w hl hx hr hi=>improve_any N a l cap b xs bc bd mo w hl hx hr hi)
      rw[hbs]
      refine hm.mono ?_
      rintro e w' ⟨vb,cb,va,ca',rfl,hmk,hb⟩
      obtain⟨t1,C,t2,t3,t4⟩:=made_nr (ebn▸hP) hmk.out
      rw[←ebn] at t1 t2 t4
      exact⟨vb,cb,va,ca',C,rfl,⟨t1,hbs▸t2,t3,t4⟩,hb⟩
   clear hC hb1 hri ebn
   go_wp2_with fail
   refine HMK.out.mono ?_
   rintro e w3 ⟨vb,cb,va,ca',C,rfl,hmk,hb3⟩
   have HB3:=hid (below_tr HB2.out hp hb3)
   have hz3:=hb3.size
   have HN0:=hid ((hb3.block p (by omega)).trans HM0.out)
   have HN1:=hid ((hb3.block (p+1) (by omega)).trans HM1.out)
   clear hb3 g0 g1 p0 p1 p2 HMK HM0 HM1 HB2
   have hbY:Below w3.heap.size w3 (w3.alloc (.cells #[.slice vb bs.length cb, .slice va bs.length ca'] 28)):=(Below.refl _ _).alloc (Nat.le_refl _) _
   have HY:=hid (heap_top w3 (.cells #[.slice vb bs.length cb, .slice va bs.length ca'] 28))
   have HB4:=hid (below_tr HB3.out hp hbY)
   have HO0:=hid ((hbY.block p (by omega)).trans HN0.out)
   have HO1:=hid ((hbY.block (p+1) (by omega)).trans HN1.out)
   obtain⟨⟨g0,g1⟩,_⟩:=two_cells HO0.out
   obtain⟨⟨y0,y1⟩,_⟩:=two_cells HY.out
   have HCK:=hid (ncheck_any n a l cap vb bs cb va C ca' (w3.alloc (.cells #[.slice vb bs.length cb, .slice va bs.length ca'] 28)) hl hbl' (HAR.out.on (by rw[hp];exact HB4.out)) (hmk.out.1.on hbY) (hmk.out.2.2.1.on hbY))
   rw[hmk.out.2.2.2,nsW_zero hmk.out.2.2.2,hmk.out.2.1] at HCK
   have HVB:=hid (hmk.out.1.on hbY)
   have hz4:(w3.alloc (.cells #[.slice vb bs.length cb, .slice va bs.length ca'] 28)).heap.size=w3.heap.size+1:=by simp
   clear hbY HN0 HN1 HB3 hmk
   go_wp2_with fail
   generalize hq:w3.heap.size=q at*
   generalize hY:w3.alloc (.cells #[.slice vb bs.length cb, .slice va bs.length ca'] 28)=Y at*
   clear hY
   refine HCK.out.mono ?_
   rintro e w5 ⟨rfl,hb5⟩
   have HB5:=hid (below_tr HB4.out hp hb5)
   obtain⟨⟨u0,u1⟩,_⟩:=two_cells ((hb5.block q (by omega)).trans HY.out)
   obtain⟨v0,v1,v2⟩:=three_cells ((hb5.block (p+1) (by omega)).trans HO1.out)
   have HVB5:=hid (HVB.out.on hb5)
   clear hb5 g0 g1 y0 y1 HCK
   go_wp2_with fail
   refine(sameInts_any vb ba cb bc bs w5 hbl' HVB5.out (HI.out.on (by rw[hp];exact HB5.out))).mono ?_
   rintro e w6 ⟨rfl,hb6⟩
   have HB6:=hid (below_tr HB5.out hp hb6)
   clear hb6
   go_wp2_with fail
   go_ret
   exact⟨rfl,HB6.out⟩
  ·have HMK:=hid (make_bad N a l cap ba bs bc ca cs cc mo w2 hP hl hbl' hcl' (HAR.out.on (by rw[hp];exact HB2.out)) (HI.out.on (by rw[hp];exact HB2.out)) (HJ.out.on (by rw[hp];exact HB2.out)))
   obtain⟨E,HE⟩:=named (plE N l bs cs mo)
   rw[HE.out] at HMK hP
   have e1:(E != 0)=true:=by simpa using hP
   go_wp2_with fail
   refine HMK.out.mono ?_
   rintro e w3 ⟨rfl,hb3⟩
   have HB3:=hid (below_tr HB2.out hp hb3)
   have hbY:Below w3.heap.size w3 (w3.alloc (.cells #[.slice none 0 0, .slice none 0 0] 28)):=(Below.refl _ _).alloc (Nat.le_refl _) _
   have HB4:=hid (below_tr HB3.out hp hbY)
   obtain⟨⟨y0,y1⟩,_⟩:=two_cells (heap_top w3 (.cells #[.slice none 0 0, .slice none 0 0] 28))
   clear hb3 hbY g0 g1 p0 p1 p2 HMK
   go_wp2_with fail
   go_ret
   exact⟨rfl,HB4.out⟩
 ·go_wp2_with fail
  go_ret
  exact⟨rfl,HB2.out⟩
end Go.Proofs.YtmenajiceaicpaaGreat.Rgt
