import Derived.Test.YtmenajiceaicpaaGreatYAY
open Go.Lib (hid)
set_option maxRecDepth 100000
namespace Go.Proofs.YtmenajiceaicpaaGreat
open Go.RowKit Go.Maps
set_option maxHeartbeats 1600000 in
theorem tidiedL_any(b:Option Addr)(L:List Nat)(bc:Nat)(w:World)(hL:L.length≤1024)(hM: ∀x,x∈L→x≤100000000)(hi:Ints w b (ints L)):
  Calls Tryz.prog 100 #[.slice b L.length bc] w fun e w'=> ∃g,e= .returned (.slice (some ⟨g,0,none⟩) L.length L.length)∧w'.ownsRow w.heap.size 3 1 (.slice (some ⟨g,0,none⟩) (tdL L).length L.length) (tdL L).length (cellsI (ints (tdL L)))∧Below w.heap.size w w':=by
 obtain⟨i3,hi3,hz3,hs3,hb3⟩:=info_parts info3
 have hmk: ∀w,(Instr.makeSlice 25 (.int .i64 L.length) (.int .i64 L.length)).run Tryz.prog w= .ok (.slice (some ⟨w.heap.size,0,none⟩) L.length L.length) (w.alloc (.cells ((List.range L.length).map (fun _=>Value.int .i64 0)).toArray 3)):=fun w=>by
  have:=run_make (P:=Tryz.prog) w 25 3 i3 (.int .i64 0) Tryz.underlying25 hi3 hz3 .i64 .i64 L.length L.length (by omega) (by omega) (by rw[hb3];omega) (by omega)
  rw[this,Int.toNat_natCast,hs3,made_int]
 clear hi3 hz3 hs3 hb3
 clear i3
 have hmm:= @run_makeMap Tryz.prog
 obtain⟨ix,ox,hix⟩:=hi.get
 have HIX:=hid hix
 have HMX:=hid hM
 clear hix hi hM
 generalize hp:w.heap.size=p at*
 have HT0:Hid (TbV ((w.alloc (.cells ((List.range L.length).map (fun _=>Value.int .i64 0)).toArray 3)).alloc (.map #[] 0)) p L.length 3 (fun v=> .int .i64 (((if v<0 then T3.lab (ldI (ints L)) v else 0:Nat)):Int))):=by
  have h:=heap_top w (.cells ((List.range L.length).map (fun _=>Value.int .i64 0)).toArray 3)
  rw[hp] at h
  have h2:=(Below.heap_alloc (w.alloc (.cells ((List.range L.length).map (fun _=>Value.int .i64 0)).toArray 3)) (.map #[] 0) p (lt_of_block h)).trans h
  exact TbV.congr (show TbV _ p L.length 3 (fun _=> .int .i64 0) from h2) (fun v _=>by simp)
 have HM0:Hid (MapN ((w.alloc (.cells ((List.range L.length).map (fun _=>Value.int .i64 0)).toArray 3)).alloc (.map #[] 0)) (p+1) 0 L 0):=by
  have h:=MapN.made (w.alloc (.cells ((List.range L.length).map (fun _=>Value.int .i64 0)).toArray 3)) L
  rw[World.size_alloc,hp] at h
  exact h
 have HB0:Hid (Below p w ((w.alloc (.cells ((List.range L.length).map (fun _=>Value.int .i64 0)).toArray 3)).alloc (.map #[] 0))):=((Below.refl _ _).alloc (by omega) _).alloc (by simp;omega) _
 go_enter Tryz.func100,Tryz.ntmps100
 go_wp2_with fail
 generalize hU:(w.alloc (.cells ((List.range L.length).map (fun _=>Value.int .i64 0)).toArray 3)).alloc (.map #[] 0)=U at*
 clear hU hmk hmm
 go_loopw [15] (fun i wr=> ∃k:Nat,k≤L.length∧i= .int .i64 k∧Hid (MapN wr (p+1) k L k)∧Hid (TbV wr p L.length 3 (fun v=> .int .i64 (((if v<k then T3.lab (ldI (ints L)) v else 0:Nat)):Int)))∧Hid (Below p w wr)) (fun i _=>L.length - (intOf i).toNat)
 case atStart=>exact⟨0,Nat.zero_le _,rfl,HM0,HT0,HB0⟩
 case round=>
  obtain⟨k,hk,rfl,HMR,HTR,HBR⟩:=hrel
  by_cases hlk:k<L.length
  ·obtain⟨rfl,hbl,hat⟩:=HIX.out (by rw[ints_len];omega)
   have hlk':(k:Int)<L.length:=by omega
   have y0:=(HBR.out.cell (p:=⟨ix,ox+k,none⟩) (hp▸hbl)).trans (hat k (by rw[ints_len];exact hlk))
   rw[ints_getD hlk] at y0
   have hx:L.getD k 0≤100000000:=HMX.out _ (by simp[List.getD,List.getElem?_eq_getElem hlk])
   obtain⟨D,hown,hsize,hseen,hnew⟩:=HMR.out
   have HOW:=hid hown
   have d2:=HTR.out.free k
   obtain⟨x,HX⟩:=named (L.getD k 0)
   rw[HX.out] at y0 hx
   have HKX:Hid (keyOf Tryz.prog 3 (.int .i64 (x:Int))=some (.int .i64 (x:Int))):=keyOf_int_mk Tryz.underlying3 (wfN (by omega))
   clear hat HMR
   by_cases hs: ∃v,v<k∧L.getD v 0=x
   ·obtain⟨v,hv1,hv2⟩:=hs
    obtain⟨h1,h2⟩:=hseen v hv1
    rw[hv2] at h1 h2
    obtain⟨h3,h4⟩:=ld_seen hv1 hlk (hv2.trans HX.out.symm)
    rw[←h3] at h2
    have HAT:=hid h2
    have HHS:=hid h1
    have hll:T3.lab (ldI (ints L)) k≤1024:=Nat.le_trans (T3.cnt_le _ _) (Nat.le_trans (ldI_le _ _) (by omega))
    have HMK:Hid (MapN wr (p+1) (k+1) L (k+1)):=⟨D,by obtain⟨es,ck,g1,g2,g3,g4⟩:=hown;exact⟨es,ck,g1,g2,by omega,g4⟩,by rw[h4];exact hsize,fun u hu=>by
      by_cases e:u=k
      ·subst e;rw[HX.out];exact⟨h1,h2⟩
      ·exact hseen u (by omega),fun y hy=>hnew y (fun u hu=>hy u (by omega))⟩
    obtain⟨z,HZ⟩:=named (T3.lab (ldI (ints L)) k)
    rw[HZ.out] at HAT hll
    have HTK:Hid (TbV (wr.setCell ⟨p,k,none⟩ (.int .i64 (z:Int))) p L.length 3 (fun v=> .int .i64 (((if v<k+1 then T3.lab (ldI (ints L)) v else 0:Nat)):Int))):=(HTR.out.set k (.int .i64 (z:Int))).congr (fun u _=>by
     by_cases e:u=k
     ·subst e;rw[updV_self,if_pos (by omega),HZ.out]
     ·rw[updV_ne _ _ e]
      by_cases e2:u<k
      ·rw[if_pos e2,if_pos (by omega)]
      ·rw[if_neg e2,if_neg (by omega)])
    have d1:=HTR.out.cell hlk
    generalize (if k<k then T3.lab (ldI (ints L)) k else 0:Nat)=old at d1
    clear hown hsize hseen hnew h1 h2 h3 h4 hv1 hv2
    go_wp2_with (at_lookup;refine wpList_lookup_own_ok_int _ rfl _ _ 171 rfl 3 3 .i64 law3 Tryz.underlying171 Tryz.underlying3 (zero3 _) (p+1) k D rfl HOW.out _ (.int .i64 (x:Int)) rfl HKX.out ?_;intro c hat hwc;rw[HAT.out] at hat;obtain rfl:c=(z:Int):=(by injection hat with h;injection h with _ h;exact h.symm);rw[HHS.out];clear hat hwc)
    refine⟨⟨k+1,by omega,by simp,?_,HTK,hid (HBR.out.setCell (Nat.le_refl _) _)⟩,by simp[intOf];omega⟩
    obtain⟨D',g1,g2⟩:=HMK.out
    exact⟨D',g1.setCell (by show p+1≠p;omega) _,g2⟩
   ·have hs': ∀v,v<k→L.getD v 0≠x:=fun v hv e=>hs ⟨v,hv,e⟩
    have HHS:=hid (hnew x hs')
    obtain⟨h3,h4⟩:=ld_new hlk (fun v hv=>by rw[HX.out];exact hs' v hv)
    have HSZ:Hid (Maps.size D=T3.lab (ldI (ints L)) k):=hsize.trans h3.symm
    have hll:T3.lab (ldI (ints L)) k≤1024:=Nat.le_trans (T3.cnt_le _ _) (Nat.le_trans (ldI_le _ _) (by omega))
    have HAT:=hid (atKey_of_not_has HHS.out (.lit (.int .i64 0)))
    obtain⟨z,HZ⟩:=named (T3.lab (ldI (ints L)) k)
    rw[HZ.out] at HSZ hll
    have hkl:WideAt.IsKeyLit (Lit.int .i64 (x:Int)):=law3.key HKX.out
    have hTD:=hown.tidy law3
    have HPU:Hid (Maps.size (D.put (.int .i64 (x:Int)) (.lit (.int .i64 (z:Int))))=T3.cnt (ldI (ints L)) (k+1)∧(∀v,v<k+1→has (D.put (.int .i64 (x:Int)) (.lit (.int .i64 (z:Int)))) (.int .i64 ((L.getD v 0:Nat):Int))=true∧(D.put (.int .i64 (x:Int)) (.lit (.int .i64 (z:Int)))).atKey (.int .i64 ((L.getD v 0:Nat):Int)) (.lit (.int .i64 0))= .lit (.int .i64 ((T3.lab (ldI (ints L)) v:Nat):Int)))∧∀y:Nat,(∀v,v<k+1→L.getD v 0≠y)→has (D.put (.int .i64 (x:Int)) (.lit (.int .i64 (z:Int)))) (.int .i64 (y:Int))=false):=by
     refine⟨?_,fun v hv=> ?_,fun y hy=> ?_⟩
     ·rw[size_put hTD,HHS.out,h4,←hsize];rfl
     ·by_cases e:v=k
      ·subst e
       rw[HX.out,HZ.out]
       exact⟨has_put_same hown.isMap hkl _,atKey_put_same hown.isMap hkl _ _⟩
      ·have hne:Lit.int .i64 ((L.getD v 0:Nat):Int)≠Lit.int .i64 (x:Int):=fun e2=>hs' v (by omega) (by injection e2 with _ e3;omega)
       rw[has_put_other hne,atKey_put_other hne]
       exact hseen v (by omega)
     ·have hne:Lit.int .i64 (y:Int)≠Lit.int .i64 (x:Int):=fun e2=>hy k (by omega) (by rw[HX.out];injection e2 with _ e3;omega)
      rw[has_put_other hne]
      exact hnew y (fun v hv=>hy v (by omega))
    have d1:=HTR.out.cell hlk
    generalize (if k<k then T3.lab (ldI (ints L)) k else 0:Nat)=old at d1
    have HOB:Hid (∀w8,w8.ownsMap Tryz.prog 3 (plainElem (H:=Unit) Tryz.prog 3) (p+1) (k+1) (D.put (.int .i64 (x:Int)) (.lit (.int .i64 (z:Int))))→MapN w8 (p+1) (k+1) L (k+1)):=fun w8 h=>⟨_,h,HPU.out⟩
    clear hown hsize hseen hnew h3 h4 hs hs' hkl hTD HPU
    go_wp2_with (first | (at_lookup;refine wpList_lookup_own_ok_int _ rfl _ _ 171 rfl 3 3 .i64 law3 Tryz.underlying171 Tryz.underlying3 (zero3 _) (p+1) k D rfl HOW.out _ (.int .i64 (x:Int)) rfl HKX.out ?_;intro c hat hwc;rw[HAT.out] at hat;obtain rfl:c=(0:Int):=(by injection hat with h;injection h with _ h;exact h.symm);rw[HHS.out];clear hat hwc) | (at_len;refine wpList_len_own _ rfl _ 171 rfl 3 3 Tryz.underlying171 _ (p+1) k D rfl HOW.out ?_;rw[HSZ.out]) | (at_mapUpdate;refine wpList_mapUpdate_own _ rfl _ _ _ 171 rfl 3 3 law3 Tryz.underlying171 (plainElem (H:=Unit) Tryz.prog 3) (p+1) k D rfl HOW.out (by unfold maxLen;omega) _ _ (.int .i64 (x:Int)) rfl rfl HKX.out (.lit (.int .i64 (z:Int))) [] (plainElem_int Tryz.underlying3 (wfN (by omega))) ?_;intro w8 hown8 hgrow8;have HM8:=hid (HOB.out w8 hown8);have HT8:Hid (TbV w8 p L.length 3 (fun v=> .int .i64 (((if v<k then T3.lab (ldI (ints L)) v else 0:Nat)):Int))):=HTR.out.same (hgrow8.block p HTR.out.lt (by simp));have HB8:Hid (Below p w w8):=HBR.out.grown hgrow8 (hp▸HBR.out.size) (by intro j hj;injection hj with hj;omega);have d8:=HT8.out.cell hlk;have f8:=HT8.out.free k;clear hown8 hgrow8))
    refine⟨⟨k+1,by omega,by simp,?_,?_,hid (HB8.out.setCell (Nat.le_refl _) _)⟩,by simp[intOf];omega⟩
    ·obtain⟨D',g1,g2⟩:=HM8.out
     exact⟨D',g1.setCell (by show p+1≠p;omega) _,g2⟩
    ·refine(HT8.out.set k (.int .i64 (z:Int))).congr (fun u _=> ?_)
     by_cases e:u=k
     ·subst e;rw[updV_self,if_pos (by omega),HZ.out]
     ·rw[updV_ne _ _ e]
      by_cases e2:u<k
      ·rw[if_pos e2,if_pos (by omega)]
      ·rw[if_neg e2,if_neg (by omega)]
  ·obtain rfl:k=L.length:=by omega
   have hlk': ¬(L.length:Int)<L.length:=by omega
   have HO:Hid (wr.ownsRow p 3 1 (.slice (some ⟨p,0,none⟩) L.length L.length) L.length (cellsI (ints ((List.range L.length).map (T3.lab (ldI (ints L))))))):=tb_own (HTR.out.congr (fun v hv=>by rw[if_pos hv])) (Nat.le_refl _) (by omega)
   go_wp2_with fail
   go_ret
   refine⟨p,rfl,?_,HBR.out⟩
   rw[tdL_len]
   exact HO.out
def imE(N:Int)(l:List A)(xs:List Int)(bd mo:Int):Int:=if luE N l xs bd≠0 then luE N l xs bd else if mo<0∨16384<mo then 1 else 0
def ImR(N:Int)(l:List A)(xs:List Int)(bd mo:Int)(out:List Nat)(m:Nat):Prop:= ∃ (L:List Nat) (B:Nat) (E:List Nat),xs=ints L∧N=(L.length:Int)∧bd=(B:Int)∧chkE N l=0∧tdy (ints L) 0=true∧Imp (prl l) B mo.toNat L E m∧out=tdL E
theorem prl_PIn0{N:Int}{l:List A}{L:List Nat}(hc:chkE N l=0)(hN:N=(L.length:Int)):PInL (prl l) L.length:=fun p hp=>by
 obtain⟨_,_,_,hoa⟩:=chk_zero hc
 exact prl_lt (n:=L.length) (by rw[←hN];exact hoa) hp
def ImpC(mo:Int):Prop:= ∀ (N:Int) (a:Option Addr) (l:List A) (cap:Nat) (b:Option Addr) (xs:List Int) (bc:Nat) (bd:Int) (w:World),l.length≤9223372036854775807→xs.length≤9223372036854775807→Arcs w a l→Ints w b xs→
  Calls Tryz.prog 70 #[.agg #[.int .i64 N, .slice a l.length cap], .slice b xs.length bc, .int .i64 bd, .int .i64 mo] w fun e w'=> ∃ (v:Option Addr) (c m:Nat) (out:List Nat),e= .returned (.tuple #[.slice v out.length c, .int .i64 (m:Int), .int .i64 (imE N l xs bd mo)])∧w'.ownsRow w.heap.size 3 1 (.slice v out.length c) out.length (cellsI (ints out))∧Below w.heap.size w w'∧Hid (imE N l xs bd mo=0→ImR N l xs bd mo out m)∧Hid (imE N l xs bd mo≠0→out= []∧m=0)
set_option maxHeartbeats 1600000 in
theorem improve0_any(N:Int)(a:Option Addr)(l:List A)(cap:Nat)(b:Option Addr)(xs:List Int)(bc:Nat)(bd mo:Int)(hmo:mo=0)(w:World)(hl:l.length≤9223372036854775807)(hx:xs.length≤9223372036854775807)(hr:Arcs w a l)(hi:Ints w b xs):
  Calls Tryz.prog 70 #[.agg #[.int .i64 N, .slice a l.length cap], .slice b xs.length bc, .int .i64 bd, .int .i64 mo] w fun e w'=> ∃ (v:Option Addr) (c m:Nat) (out:List Nat),e= .returned (.tuple #[.slice v out.length c, .int .i64 (m:Int), .int .i64 (imE N l xs bd mo)])∧w'.ownsRow w.heap.size 3 1 (.slice v out.length c) out.length (cellsI (ints out))∧Below w.heap.size w w'∧Hid (imE N l xs bd mo=0→ImR N l xs bd mo out m)∧Hid (imE N l xs bd mo≠0→out= []∧m=0):=by
 have HMO:=hid hmo
 clear hmo
 have hb0:Below w.heap.size w (w.alloc (.cells #[.int .i64 N, .slice a l.length cap] 24)):=(Below.refl _ _).alloc (Nat.le_refl _) _
 have hg:=heap_top w (.cells #[.int .i64 N, .slice a l.length cap] 24)
 have HB0:=hid hb0
 have hwz:w.heap.size≤(w.alloc (.cells #[.int .i64 N, .slice a l.length cap] 24)).heap.size:=hb0.size
 have HCK:=hid (lookUnder_any N a l cap b xs bc bd (w.alloc (.cells #[.int .i64 N, .slice a l.length cap] 24)) hl hx (hr.on hb0) (hi.on hb0))
 obtain⟨V,HV⟩:=named (luE N l xs bd)
 obtain⟨I,HI⟩:=named (imE N l xs bd mo)
 rw[HV.out] at HCK
 rw[HI.out]
 obtain⟨⟨c0,c1⟩,_⟩:=two_cells hg
 clear hb0 hr hi hl hx
 generalize hp:w.heap.size=p at*
 go_enter Tryz.func70,Tryz.ntmps70
 go_wp2_with fail
 generalize hW:w.alloc (.cells #[.int .i64 N, .slice a l.length cap] 24)=W at*
 clear hW
 refine HCK.out.mono ?_
 rintro e w1 ⟨pv,rfl,hb1,HQ⟩
 have HB1:Hid (Below p w w1):=HB0.out.trans (hb1.mono hwz)
 have hz1:p≤w1.heap.size:=by rw[←hp];exact(show Below w.heap.size w w1 by rw[hp];exact HB1.out).size
 clear hb1 HCK c0 c1 hg
 by_cases hE:V≠0
 ·have e1:(V != 0)=true:=by simpa using hE
  have HIV:Hid (I=V):=by show I=V;rw[←HI.out];unfold imE;rw[HV.out,if_pos hE]
  go_wp2_with fail
  refine bodyPost_ret (v:= .tuple #[.slice none 0 0, .int .i64 0, .int .i64 V]) (by simp[results,Tryz.results70,go_sem]) rfl ?_
  exact⟨none,0,0,[],by rw[HIV.out];rfl,World.ownsRow_nil _ _ _ _,HB1.out,fun h=>absurd (HIV.out.symm.trans h) hE,fun _=>⟨rfl,rfl⟩⟩
 have hE0:V=0:=by simpa using hE
 have e1:(V != 0)=false:=by simpa using hE0
 have HE0:=hid hE0
 have HI2:Hid ((if mo<0∨16384<mo then 1 else 0)=I):=by
  show _=I
  rw[←HI.out]
  unfold imE
  rw[HV.out,hE0,if_neg (show ¬((0:Int)≠0) by simp)]
 clear hE hE0
 by_cases h1:mo<0
 ·have HVV:Hid (I=1):=by show I=1;rw[←HI2.out,if_pos (.inl h1)]
  go_wp2_with fail
  refine bodyPost_ret (v:= .tuple #[.slice none 0 0, .int .i64 0, .int .i64 1]) (by simp[results,Tryz.results70,go_sem]) rfl ?_
  exact⟨none,0,0,[],by rw[HVV.out];rfl,World.ownsRow_nil _ _ _ _,HB1.out,fun h=>absurd (HVV.out.symm.trans h) (by decide),fun _=>⟨rfl,rfl⟩⟩
 by_cases h2:16384<mo
 ·have HVV:Hid (I=1):=by show I=1;rw[←HI2.out,if_pos (.inr h2)]
  go_wp2_with fail
  refine bodyPost_ret (v:= .tuple #[.slice none 0 0, .int .i64 0, .int .i64 1]) (by simp[results,Tryz.results70,go_sem]) rfl ?_
  exact⟨none,0,0,[],by rw[HVV.out];rfl,World.ownsRow_nil _ _ _ _,HB1.out,fun h=>absurd (HVV.out.symm.trans h) (by decide),fun _=>⟨rfl,rfl⟩⟩
 have HVV:Hid (I=0):=by show I=0;rw[←HI2.out,if_neg (by omega)]
 obtain⟨cb,L,B,rfl,hxL,hNl,hbB,hc0,htd,hU⟩:=HQ.out HE0.out
 obtain⟨k,lg,lc,sg,sc,eg,ec,bg,pg,fg,mb,nn,rv,S,Le,Fi,hcs⟩:=hU
 have HPI:=hid (prl_PIn0 hc0 hNl)
 have HPL:Hid ((prl l).length≤8192):=Nat.le_trans (prl_len l) (chk_zero hc0).2.2.1
 have hLl:L.length≤1024:=by have:=chk_zero hc0;omega
 obtain⟨P,HPP⟩:=named (prl l)
 have HR:Hid (∀ (E:List Nat) (m:Nat),Imp P B mo.toNat L E m→ImR N l xs bd mo (tdL E) m):=fun E m hi=>⟨L,B,E,hxL,hNl,hbB,hc0,htd,by rw[HPP.out];exact hi,rfl⟩
 rw[HPP.out] at hcs HPI HPL
 obtain⟨M0,HM0⟩: ∃M0:Nat,Hid (mo=(M0:Int)):=⟨mo.toNat,by show mo=_;omega⟩
 have hM0:M0≤16384:=by have:=HM0.out;omega
 have HMZ:Hid (M0=0):=by show M0=0;have:=HM0.out;have:=HMO.out;omega
 have HTN:Hid (mo.toNat=M0):=by show mo.toNat=M0;have:=HM0.out;omega
 rw[HTN.out] at HR
 have HCS:=hid (hcs.on (Below.refl _ _))
 have HST:Hid (∀ (E:List Nat) (m:Nat),Imp P B (M0 - 0) L E m→Imp P B M0 L E (m+0)):=fun E m h=>h
 have HBW:=hid HB0.out
 obtain⟨nl,HNL⟩:=named L.length
 rw[HNL.out] at HCS HPI hLl
 have HLN:=hid HNL.out
 clear hxL hNl hbB hc0 htd hcs HQ HPP
 have hm1:mo=(M0:Int):=HM0.out
 subst hm1
 clear h1 h2 HM0 HTN
 have h1: ¬(M0:Int)<0:=by omega
 have h2: ¬(16384:Int)<M0:=by omega
 go_wp2_with fail
 go_loopw [9] (fun s9 wr=> ∃ (t:Nat) (nn:Nat→Nat) (L' S:List Nat) (Le:List Int) (Fi:Nat→M),t≤M0∧s9= .int .i64 (t:Int)∧Hid (CS W wr cb nl k B lg lc sg sc eg ec bg pg fg mb nn rv P L' S Le Fi (2*P.length+16384*t))∧Hid (∀ (E:List Nat) (m:Nat),Imp P B (M0 - t) L' E m→Imp P B M0 L E (m+t))) (fun s9 _=>M0 - (intOf s9).toNat)
 case atStart=>exact⟨0,nn,L,S,Le,Fi,Nat.zero_le _,rfl,HCS,HST⟩
 case round=>
  clear HCS HST
  obtain⟨t,nn,L',S,Le,Fi,ht,rfl,HCS,HST⟩:=hrel
  by_cases hlt:t<M0
  ·exact absurd hlt (by have:=HMZ.out;omega)
  ·have hlt': ¬(t:Int)<M0:=by omega
   have HTM:Hid (M0 - t=0):=by show M0 - t=0;omega
   have HCX:=hid HCS.out
   go_upto_region 11 with fail
   have HIP:Hid (Imp P B M0 L L' t):=by
    have q:=HST.out L' 0 (by rw[HTM.out];exact Imp.zero)
    rw[Nat.zero_add] at q
    exact q
   have HLL:=hid HCX.out.Ln
   have c1:wr.cell? ⟨cb,1,none⟩=some (.slice (some ⟨lg,0,none⟩) L'.length lc):=by rw[HLL.out];simp[World.cell?,HCX.out.X.ob,cellsO]
   have HTI:=hid (tidiedL_any (some ⟨lg,0,none⟩) L' lc wr (by rw[HLL.out];exact hLl) (fun x hx=>by
    obtain⟨u,hu,rfl⟩:=mem_getDN hx
    have:=HCX.out.fs.lab u hu
    have:=HCX.out.st.k2
    omega) (own_ints (by have q:=HCX.out.l;unfold OwI at q;rw[ints_len] at q;exact q) rfl))
   have HBX:Hid (Below p w wr):=HBW.out.trans (HCX.out.bel.mono hwz)
   have hzx:p≤wr.heap.size:=Nat.le_trans hwz HCX.out.bel.size
   clear HCX HCS HST
   go_wp2_with fail
   refine HTI.out.mono ?_
   rintro e w4 ⟨g,rfl,hown,hb4⟩
   have HOW:=hid (own_base hown hzx)
   have HB4:Hid (Below p w w4):=HBX.out.trans (hb4.mono hzx)
   clear hown hb4
   go_wp2_with fail
   refine bodyPost_ret (v:= .tuple #[.slice (some ⟨g,0,none⟩) L'.length L'.length, .int .i64 (t:Int), .int .i64 0]) (by simp[results,Tryz.results70,go_sem]) rfl ?_
   exact⟨_,_,t,tdL L',by rw[HVV.out,tdL_len],HOW.out,HB4.out,fun _=>HR.out L' t HIP.out,fun h=>absurd HVV.out h⟩
theorem impC0:ImpC 0:=fun N a l cap b xs bc bd w hl hx hr hi=>improve0_any N a l cap b xs bc bd 0 rfl w hl hx hr hi
set_option maxHeartbeats 1600000 in
theorem improve_any(N:Int)(a:Option Addr)(l:List A)(cap:Nat)(b:Option Addr)(xs:List Int)(bc:Nat)(bd mo:Int)(w:World)(hl:l.length≤9223372036854775807)(hx:xs.length≤9223372036854775807)(hr:Arcs w a l)(hi:Ints w b xs):
  Calls Tryz.prog 70 #[.agg #[.int .i64 N, .slice a l.length cap], .slice b xs.length bc, .int .i64 bd, .int .i64 mo] w fun e w'=> ∃ (v:Option Addr) (c m:Nat) (out:List Nat),e= .returned (.tuple #[.slice v out.length c, .int .i64 (m:Int), .int .i64 (imE N l xs bd mo)])∧w'.ownsRow w.heap.size 3 1 (.slice v out.length c) out.length (cellsI (ints out))∧Below w.heap.size w w'∧Hid (imE N l xs bd mo=0→ImR N l xs bd mo out m)∧Hid (imE N l xs bd mo≠0→out= []∧m=0):=by
 have hb0:Below w.heap.size w (w.alloc (.cells #[.int .i64 N, .slice a l.length cap] 24)):=(Below.refl _ _).alloc (Nat.le_refl _) _
 have hg:=heap_top w (.cells #[.int .i64 N, .slice a l.length cap] 24)
 have HB0:=hid hb0
 have hwz:w.heap.size≤(w.alloc (.cells #[.int .i64 N, .slice a l.length cap] 24)).heap.size:=hb0.size
 have HCK:=hid (lookUnder_any N a l cap b xs bc bd (w.alloc (.cells #[.int .i64 N, .slice a l.length cap] 24)) hl hx (hr.on hb0) (hi.on hb0))
 obtain⟨V,HV⟩:=named (luE N l xs bd)
 obtain⟨I,HI⟩:=named (imE N l xs bd mo)
 rw[HV.out] at HCK
 rw[HI.out]
 obtain⟨⟨c0,c1⟩,_⟩:=two_cells hg
 clear hb0 hr hi hl hx
 generalize hp:w.heap.size=p at*
 go_enter Tryz.func70,Tryz.ntmps70
 go_wp2_with fail
 generalize hW:w.alloc (.cells #[.int .i64 N, .slice a l.length cap] 24)=W at*
 clear hW
 refine HCK.out.mono ?_
 rintro e w1 ⟨pv,rfl,hb1,HQ⟩
 have HB1:Hid (Below p w w1):=HB0.out.trans (hb1.mono hwz)
 have hz1:p≤w1.heap.size:=by rw[←hp];exact(show Below w.heap.size w w1 by rw[hp];exact HB1.out).size
 clear hb1 HCK c0 c1 hg
 by_cases hE:V≠0
 ·have e1:(V != 0)=true:=by simpa using hE
  have HIV:Hid (I=V):=by show I=V;rw[←HI.out];unfold imE;rw[HV.out,if_pos hE]
  go_wp2_with fail
  refine bodyPost_ret (v:= .tuple #[.slice none 0 0, .int .i64 0, .int .i64 V]) (by simp[results,Tryz.results70,go_sem]) rfl ?_
  exact⟨none,0,0,[],by rw[HIV.out];rfl,World.ownsRow_nil _ _ _ _,HB1.out,fun h=>absurd (HIV.out.symm.trans h) hE,fun _=>⟨rfl,rfl⟩⟩
 have hE0:V=0:=by simpa using hE
 have e1:(V != 0)=false:=by simpa using hE0
 have HE0:=hid hE0
 have HI2:Hid ((if mo<0∨16384<mo then 1 else 0)=I):=by
  show _=I
  rw[←HI.out]
  unfold imE
  rw[HV.out,hE0,if_neg (show ¬((0:Int)≠0) by simp)]
 clear hE hE0
 by_cases h1:mo<0
 ·have HVV:Hid (I=1):=by show I=1;rw[←HI2.out,if_pos (.inl h1)]
  go_wp2_with fail
  refine bodyPost_ret (v:= .tuple #[.slice none 0 0, .int .i64 0, .int .i64 1]) (by simp[results,Tryz.results70,go_sem]) rfl ?_
  exact⟨none,0,0,[],by rw[HVV.out];rfl,World.ownsRow_nil _ _ _ _,HB1.out,fun h=>absurd (HVV.out.symm.trans h) (by decide),fun _=>⟨rfl,rfl⟩⟩
 by_cases h2:16384<mo
 ·have HVV:Hid (I=1):=by show I=1;rw[←HI2.out,if_pos (.inr h2)]
  go_wp2_with fail
  refine bodyPost_ret (v:= .tuple #[.slice none 0 0, .int .i64 0, .int .i64 1]) (by simp[results,Tryz.results70,go_sem]) rfl ?_
  exact⟨none,0,0,[],by rw[HVV.out];rfl,World.ownsRow_nil _ _ _ _,HB1.out,fun h=>absurd (HVV.out.symm.trans h) (by decide),fun _=>⟨rfl,rfl⟩⟩
 have HVV:Hid (I=0):=by show I=0;rw[←HI2.out,if_neg (by omega)]
 obtain⟨cb,L,B,rfl,hxL,hNl,hbB,hc0,htd,hU⟩:=HQ.out HE0.out
 obtain⟨k,lg,lc,sg,sc,eg,ec,bg,pg,fg,mb,nn,rv,S,Le,Fi,hcs⟩:=hU
 have HPI:=hid (prl_PIn hc0 hNl)
 have HPN:=hid (prl_ne hc0)
 have HPL:Hid ((prl l).length≤8192):=Nat.le_trans (prl_len l) (chk_zero hc0).2.2.1
 have hLl:L.length≤1024:=by have:=chk_zero hc0;omega
 obtain⟨P,HPP⟩:=named (prl l)
 have HR:Hid (∀ (E:List Nat) (m:Nat),Imp P B mo.toNat L E m→ImR N l xs bd mo (tdL E) m):=fun E m hi=>⟨L,B,E,hxL,hNl,hbB,hc0,htd,by rw[HPP.out];exact hi,rfl⟩
 rw[HPP.out] at hcs HPI HPN HPL
 obtain⟨M0,HM0⟩: ∃M0:Nat,Hid (mo=(M0:Int)):=⟨mo.toNat,by show mo=_;omega⟩
 have hM0:M0≤16384:=by have:=HM0.out;omega
 have HTN:Hid (mo.toNat=M0):=by show mo.toNat=M0;have:=HM0.out;omega
 rw[HTN.out] at HR
 have HCS:=hid (hcs.on (Below.refl _ _))
 have HST:Hid (∀ (E:List Nat) (m:Nat),Imp P B (M0 - 0) L E m→Imp P B M0 L E (m+0)):=fun E m h=>h
 have HBW:=hid HB0.out
 obtain⟨nl,HNL⟩:=named L.length
 rw[HNL.out] at HCS HPI hLl
 have HLN:=hid HNL.out
 clear hxL hNl hbB hc0 htd hcs HQ HPP
 have hm1:mo=(M0:Int):=HM0.out
 subst hm1
 clear h1 h2 HM0 HTN
 have h1: ¬(M0:Int)<0:=by omega
 have h2: ¬(16384:Int)<M0:=by omega
 go_wp2_with fail
 go_loopw [9] (fun s9 wr=> ∃ (t:Nat) (nn:Nat→Nat) (L' S:List Nat) (Le:List Int) (Fi:Nat→M),t≤M0∧s9= .int .i64 (t:Int)∧Hid (CS W wr cb nl k B lg lc sg sc eg ec bg pg fg mb nn rv P L' S Le Fi (2*P.length+16384*t))∧Hid (∀ (E:List Nat) (m:Nat),Imp P B (M0 - t) L' E m→Imp P B M0 L E (m+t))) (fun s9 _=>M0 - (intOf s9).toNat)
 case atStart=>exact⟨0,nn,L,S,Le,Fi,Nat.zero_le _,rfl,HCS,HST⟩
 case round=>
  clear HCS HST
  obtain⟨t,nn,L',S,Le,Fi,ht,rfl,HCS,HST⟩:=hrel
  by_cases hlt:t<M0
  ·have hlt':(t:Int)<M0:=by omega
   have HCN:=hid HCS.out.nextC
   obtain⟨m,HM⟩:=named (pickM ((List.range nl).map Fi) ((List.range nl).map Fi).length)
   rw[HM.out] at HCN
   obtain⟨mv,ml,mg⟩:=m
   have HVM:Hid ((⟨mv,ml,mg⟩:M).val= .agg #[.int .i64 (mv:Int), .int .i64 (ml:Int), .int .i64 mg]):=rfl
   rw[HVM.out] at HCN
   simp only at HCN
   have HPX:Hid (PInL P L'.length):=by show PInL P L'.length;rw[HCS.out.Ln];exact HPI.out
   by_cases hg:0<mg
   ·obtain⟨f,hnx,hfl,_⟩:=HCS.out.fs.next HPX.out (by rw[HM.out];exact hg)
    rw[HM.out] at hnx hfl
    simp only at hnx hfl
    have HST2:Hid (∀ (E:List Nat) (q:Nat),Imp P B (M0 - (t+1)) (L'.set mv ml) E q→Imp P B M0 L E (q+(t+1))):=fun E q h=>by
     have e1:M0 - t=(M0 - (t+1))+1:=by omega
     have e2:=HST.out E (q+1) (by
      rw[e1]
      refine Imp.step hnx ?_
      rw[hfl]
      exact h)
     rw[show q+(t+1)=q+1+t by omega]
     exact e2
    have hdg:decide (0<mg)=true:=decide_eq_true hg
    rw[hdg] at HCN
    clear hnx hfl hdg
    go_wp2_with fail
    refine HCN.out.mono ?_
    rintro e w2 ⟨rfl,hb2⟩
    have hg3:=heap_top w2 (.cells #[.int .i64 (mv:Int), .int .i64 (ml:Int), .int .i64 mg] 136)
    have hal:=al_below w2 (.cells #[.int .i64 (mv:Int), .int .i64 (ml:Int), .int .i64 mg] 136)
    have HC3:=hid ((HCS.out.on hb2).on hal)
    have HCA:=hid (HC3.out.carry HPI.out HPN.out HPL.out HM.out hg (by have:=HPL.out;unfold maxLen;omega))
    rw[HVM.out] at HCA
    simp only at HCA
    obtain⟨m0,m1,m2⟩:=three_cells hg3
    clear hb2 hg3 hal HCN HVM
    go_wp2_with fail
    refine HCA.out.mono ?_
    rintro e w5 ⟨rfl,nn5,S5,Le5,Fi5,hcs5⟩
    have HC5:=hid hcs5
    rw[show 2*P.length+16384*t+16384=2*P.length+16384*(t+1) by omega] at HC5
    clear hcs5 m0 m1 m2
    go_wp2_with fail
    exact⟨⟨t+1,nn5,_,_,_,_,hlt,by simp,HC5,HST2⟩,by simp[intOf];omega⟩
   ·have hs:=HCS.out.fs.stop (by rw[HM.out];exact hg)
    have HS:=hid hs
    have hdg:decide (0<mg)=false:=decide_eq_false hg
    rw[hdg] at HCN
    clear hs hdg
    go_wp2_with fail
    refine HCN.out.mono ?_
    rintro e w2 ⟨rfl,hb2⟩
    have hal:=al_below w2 (.cells #[.int .i64 (mv:Int), .int .i64 (ml:Int), .int .i64 mg] 136)
    have HCX:=hid ((HCS.out.on hb2).on hal)
    clear hb2 hal HCN HVM
    go_upto_region 11 with fail
    generalize hWX:w2.alloc (.cells #[.int .i64 (mv:Int), .int .i64 (ml:Int), .int .i64 mg] 136)=WX at*
    clear hWX
    have HIP:Hid (Imp P B M0 L L' t):=by
     have q:=HST.out L' 0 (Imp.stop HS.out)
     rw[Nat.zero_add] at q
     exact q
    have HLL:=hid HCX.out.Ln
    have c1:WX.cell? ⟨cb,1,none⟩=some (.slice (some ⟨lg,0,none⟩) L'.length lc):=by rw[HLL.out];simp[World.cell?,HCX.out.X.ob,cellsO]
    have HTI:=hid (tidiedL_any (some ⟨lg,0,none⟩) L' lc WX (by rw[HLL.out];exact hLl) (fun x hx=>by
     obtain⟨u,hu,rfl⟩:=mem_getDN hx
     have:=HCX.out.fs.lab u hu
     have:=HCX.out.st.k2
     omega) (own_ints (by have q:=HCX.out.l;unfold OwI at q;rw[ints_len] at q;exact q) rfl))
    have HBX:Hid (Below p w WX):=HBW.out.trans (HCX.out.bel.mono hwz)
    have hzx:p≤WX.heap.size:=Nat.le_trans hwz HCX.out.bel.size
    clear HCX HCS HST
    go_wp2_with fail
    refine HTI.out.mono ?_
    rintro e w4 ⟨g,rfl,hown,hb4⟩
    have HOW:=hid (own_base hown hzx)
    have HB4:Hid (Below p w w4):=HBX.out.trans (hb4.mono hzx)
    clear hown hb4
    go_wp2_with fail
    refine bodyPost_ret (v:= .tuple #[.slice (some ⟨g,0,none⟩) L'.length L'.length, .int .i64 (t:Int), .int .i64 0]) (by simp[results,Tryz.results70,go_sem]) rfl ?_
    exact⟨_,_,t,tdL L',by rw[HVV.out,tdL_len],HOW.out,HB4.out,fun _=>HR.out L' t HIP.out,fun h=>absurd HVV.out h⟩
  ·have hlt': ¬(t:Int)<M0:=by omega
   have HTM:Hid (M0 - t=0):=by show M0 - t=0;omega
   have HCX:=hid HCS.out
   go_upto_region 11 with fail
   have HIP:Hid (Imp P B M0 L L' t):=by
    have q:=HST.out L' 0 (by rw[HTM.out];exact Imp.zero)
    rw[Nat.zero_add] at q
    exact q
   have HLL:=hid HCX.out.Ln
   have c1:wr.cell? ⟨cb,1,none⟩=some (.slice (some ⟨lg,0,none⟩) L'.length lc):=by rw[HLL.out];simp[World.cell?,HCX.out.X.ob,cellsO]
   have HTI:=hid (tidiedL_any (some ⟨lg,0,none⟩) L' lc wr (by rw[HLL.out];exact hLl) (fun x hx=>by
    obtain⟨u,hu,rfl⟩:=mem_getDN hx
    have:=HCX.out.fs.lab u hu
    have:=HCX.out.st.k2
    omega) (own_ints (by have q:=HCX.out.l;unfold OwI at q;rw[ints_len] at q;exact q) rfl))
   have HBX:Hid (Below p w wr):=HBW.out.trans (HCX.out.bel.mono hwz)
   have hzx:p≤wr.heap.size:=Nat.le_trans hwz HCX.out.bel.size
   clear HCX HCS HST
   go_wp2_with fail
   refine HTI.out.mono ?_
   rintro e w4 ⟨g,rfl,hown,hb4⟩
   have HOW:=hid (own_base hown hzx)
   have HB4:Hid (Below p w w4):=HBX.out.trans (hb4.mono hzx)
   clear hown hb4
   go_wp2_with fail
   refine bodyPost_ret (v:= .tuple #[.slice (some ⟨g,0,none⟩) L'.length L'.length, .int .i64 (t:Int), .int .i64 0]) (by simp[results,Tryz.results70,go_sem]) rfl ?_
   exact⟨_,_,t,tdL L',by rw[HVV.out,tdL_len],HOW.out,HB4.out,fun _=>HR.out L' t HIP.out,fun h=>absurd HVV.out h⟩
end Go.Proofs.YtmenajiceaicpaaGreat
namespace Go.Proofs.YtmenajiceaicpaaGreat
open Go.RowKit
def btB(L:List Nat)(p:Pr):Bool:= !(L.getD p.a 0==L.getD p.b 0)
def bt(P:List Pr)(L:List Nat):Nat:=P.countP (btB L)
theorem bt_iff{L:List Nat}{p:Pr}:btB L p=true↔L.getD p.a 0≠L.getD p.b 0:=by
 unfold btB
 simp
theorem bt_set{L:List Nat}{v x:Nat}(hv:v<L.length)(hx:x≠L.getD v 0): ∀P:List Pr,(∀p,p∈P→p.a≠p.b)→(bt P (L.set v x):Int)=(bt P L:Int) - (cv P L v x:Int)+(cv P L v (L.getD v 0):Int)
 | [],_=>by simp[bt,cv]
 | p::P,hp=>by
   have ih:=bt_set hv hx P (fun q hq=>hp q (List.mem_cons_of_mem _ hq))
   have hne:=hp p (List.mem_cons_self ..)
   have c1:bt (p::P) (L.set v x)=bt P (L.set v x)+if btB (L.set v x) p=true then 1 else 0:=by unfold bt;rw[List.countP_cons]
   have c2:bt (p::P) L=bt P L+if btB L p=true then 1 else 0:=by unfold bt;rw[List.countP_cons]
   have c3:cv (p::P) L v x=cv P L v x+if hitV L v x p=true then 1 else 0:=by unfold cv;rw[List.countP_cons]
   have c4:cv (p::P) L v (L.getD v 0)=cv P L v (L.getD v 0)+if hitV L v (L.getD v 0) p=true then 1 else 0:=by unfold cv;rw[List.countP_cons]
   have key:((if btB (L.set v x) p=true then 1 else 0:Nat):Int)=((if btB L p=true then 1 else 0:Nat):Int) - ((if hitV L v x p=true then 1 else 0:Nat):Int)+((if hitV L v (L.getD v 0) p=true then 1 else 0:Nat):Int):=by
    have ea:(L.set v x).getD p.a 0=if p.a=v then x else L.getD p.a 0:=getD_setN' hv
    have eb:(L.set v x).getD p.b 0=if p.b=v then x else L.getD p.b 0:=getD_setN' hv
    simp only[bt_iff,hit_iffL]
    rw[ea,eb]
    clear ih c1 c2 c3 c4 ea eb
    by_cases a1:p.a=v
    ·have b1:p.b≠v:=fun e=>hne (a1.trans e.symm)
     rw[if_pos a1,if_neg b1,a1]
     generalize L.getD v 0=z at hx ⊢
     generalize L.getD p.b 0=lb
     generalize p.b=pb at b1 ⊢
     clear hne a1 hp hv
     repeat' split
     all_goals omega
    ·rw[if_neg a1]
     by_cases b1:p.b=v
     ·rw[if_pos b1,b1]
      generalize L.getD v 0=z at hx ⊢
      generalize L.getD p.a 0=la
      generalize p.a=pa at a1 ⊢
      clear hne hp hv b1
      repeat' split
      all_goals omega
     ·rw[if_neg b1]
      generalize L.getD v 0=z at hx ⊢
      generalize L.getD p.a 0=la
      generalize L.getD p.b 0=lb
      generalize p.a=pa at a1 ⊢
      generalize p.b=pb at b1 ⊢
      clear hne hp hv
      repeat' split
      all_goals omega
   rw[c1,c2,c3,c4]
   push_cast
   push_cast at key
   omega
theorem Open.bt{P:List Pr}{L:List Nat}{B v f:Nat}(h:Open P L B v f)(hd: ∀p,p∈P→p.a≠p.b):L.getD f 0≠L.getD v 0∧(bt P (L.set v (L.getD f 0)):Int)=(bt P L:Int) - gn P L v f:=by
 have hg:=h.2.2.2.1
 have hne:L.getD f 0≠L.getD v 0:=fun e=>by
  unfold gn at hg
  rw[e] at hg
  omega
 refine⟨hne,?_⟩
 rw[bt_set h.1 hne P hd]
 unfold gn
 omega
def Und(B:Nat)(L:List Nat):Prop:= ∀y,L.count y≤B
theorem und_set{B:Nat}{L:List Nat}{v x:Nat}(h:Und B L)(hv:v<L.length)(hx:x≠L.getD v 0)(hc:L.count x<B):Und B (L.set v x):=fun y=>by
 by_cases c1:y=x
 ·rw[c1,(count_set_at hv hx).1];omega
 ·by_cases c2:y=L.getD v 0
  ·have:=(count_set_at hv hx).2
   have:=h y
   rw[c2] at this ⊢
   omega
  ·rw[count_set_far hv c1 c2];exact h y
theorem Imp.und{P:List Pr}{B k m:Nat}{L E:List Nat}(h:Imp P B k L E m)(hd: ∀p,p∈P→p.a≠p.b)(hu:Und B L):Und B E:=by
 induction h with
 | zero=>exact hu
 | stop _=>exact hu
 | step hn _ ih=>exact ih (und_set hu hn.1.1 (hn.1.bt hd).1 hn.1.2.2.2.2)
theorem und_pat{B:Nat}{L T:List Nat}(h:Pat L T)(hu:Und B L):Und B T:=fun y=>by
 by_cases c:y∈T
 ·obtain⟨u,hu1,rfl⟩:=mem_getDN c
  have hu2:u<L.length:=by rw[←h.len];exact hu1
  rw[h.count hu2]
  exact hu _
 ·rw[List.count_eq_zero.2 c];exact Nat.zero_le _
theorem szL_getD_le{L:List Nat}{B:Nat}(htd:tdy (ints L) 0=true)(hu:Und B L)(y:Nat):(szL (ints L)).getD y 0≤B:=by rw[sz_cntL htd];exact hu y
theorem lu_ok{N:Int}{l:List A}{L:List Nat}{B:Nat}(hc:chkE N l=0)(hN:N=(L.length:Int))(htd:tdy (ints L) 0=true)(h1:1≤B)(h2:B≤1024)(hu:Und B L):cntE N l (ints L)=0∧luE N l (ints L) (B:Int)=0:=by
 have hcn:cntE N l (ints L)=0:=by
  unfold cntE
  rw[hc,if_neg (by simp),ints_len,htd,if_neg (by simp;omega)]
 refine⟨hcn,?_⟩
 unfold luE
 rw[hcn,if_neg (by simp),if_neg (by omega)]
 obtain⟨j,_,e⟩:=mxL_atL (szL (ints L)) ((szL (ints L)).length - 1)
 have:=szL_getD_le htd hu j
 rw[if_neg (by omega)]
theorem lu_und{N:Int}{l:List A}{L:List Nat}{B:Nat}(h:luE N l (ints L) (B:Int)=0)(htd:tdy (ints L) 0=true):1≤B∧B≤1024∧Und B L:=by
 unfold luE at h
 by_cases c0:cntE N l (ints L)≠0
 ·rw[if_pos c0] at h;exact absurd h c0
 ·rw[if_neg c0] at h
  by_cases c1:(B:Int)<1∨1024<(B:Int)
  ·rw[if_pos c1] at h;cases h
  ·rw[if_neg c1] at h
   by_cases c2:(B:Int)<((mxLL (szL (ints L)) ((szL (ints L)).length - 1):Nat):Int)
   ·rw[if_pos c2] at h;cases h
   ·refine⟨by omega,by omega,fun y=> ?_⟩
    rw[←sz_cntL htd]
    by_cases c3:y≤(szL (ints L)).length - 1
    ·have:=mxL_leL (szL (ints L)) _ y c3
     omega
    ·by_cases c4:y<(szL (ints L)).length
     ·omega
     ·simp[List.getD,List.getElem?_eq_none (Nat.le_of_not_lt c4)]
theorem ImR.right{N:Int}{l:List A}{L:List Nat}{B:Nat}{mo:Int}{out:List Nat}{m:Nat}(h:ImR N l (ints L) (B:Int) mo out m)(hlu:luE N l (ints L) (B:Int)=0): ∃E,Imp (prl l) B mo.toNat L E m∧out=tdL E∧chkE N l=0∧N=(L.length:Int)∧N=(out.length:Int)∧tdy (ints L) 0=true∧tdy (ints out) 0=true∧Und B L∧Und B out∧Pat E out∧1≤B∧B≤1024:=by
 obtain⟨L',B',E,h1,h2,h3,h4,h5,h6,h7⟩:=h
 have e1:L'=L:=by
  have q:=congrArg (List.map Int.toNat) h1
  simpa[ints,Function.comp_def] using q.symm
 have e2:B'=B:=by omega
 subst e1
 subst e2
 obtain⟨b1,b2,hu⟩:=lu_und hlu h5
 have hel:=h6.len
 refine⟨E,h6,h7,h4,h2,?_,h5,?_,hu,?_,?_,b1,b2⟩
 ·rw[h7,tdL_len,hel];exact h2
 ·rw[h7];exact tdL_right E
 ·rw[h7];exact und_pat (pat_tdL E) (h6.und (prl_ne h4) hu)
 ·rw[h7];exact pat_tdL E
end Go.Proofs.YtmenajiceaicpaaGreat
