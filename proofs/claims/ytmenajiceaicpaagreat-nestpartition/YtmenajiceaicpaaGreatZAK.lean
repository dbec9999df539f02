import Derived.Test.YtmenajiceaicpaaGreatZAJ
import Derived.Test.YtmenajiceaicpaaGreatZAG
open Go.Lib (hid)
set_option maxRecDepth 100000
namespace Go.Proofs.YtmenajiceaicpaaGreat
open Go.RowKit Go.Maps
theorem law3:Keyed Tryz.prog 3:=int_keyed Tryz.underlying3
theorem zero3(w:World):(zeroValue 3).run Tryz.prog w= .ok (.int .i64 0) w:=by kernel_rfl
theorem wfN{x:Nat}(h:x≤9223372036854775807):(Lit.int .i64 (x:Int)).wf=true:=WalkArith.wf_i64 (by omega)
def tdL(L:List Nat):List Nat:=T3.labs (ldI (ints L)) L.length
theorem tdL_len(L:List Nat):(tdL L).length=L.length:=T3.labs_len _ _
theorem ints_at{L:List Nat}{v:Nat}(h:v<L.length):(ints L).getD v 0=((L.getD v 0:Nat):Int):=ints_getD h
theorem ld_seen{L:List Nat}{v k:Nat}(hv:v<k)(hk:k<L.length)(e:L.getD v 0=L.getD k 0):T3.lab (ldI (ints L)) k=T3.lab (ldI (ints L)) v∧T3.cnt (ldI (ints L)) (k+1)=T3.cnt (ldI (ints L)) k:=by
 have h1:ldI (ints L) v=ldI (ints L) k:=ldI_eq (by rw[ints_at (by omega),ints_at hk,e])
 have h2:=ldI_le (ints L) v
 refine⟨by unfold T3.lab;rw[h1],?_⟩
 rw[T3.cnt,if_neg (by omega)]
theorem ld_new{L:List Nat}{k:Nat}(hk:k<L.length)(h: ∀v,v<k→L.getD v 0≠L.getD k 0):T3.lab (ldI (ints L)) k=T3.cnt (ldI (ints L)) k∧T3.cnt (ldI (ints L)) (k+1)=T3.cnt (ldI (ints L)) k+1:=by
 have h1:ldI (ints L) k=k:=by
  rcases Nat.lt_or_ge (ldI (ints L) k) k with h2 | h2
  ·have h3:=ldI_at (ints L) k
   rw[ints_at (by omega),ints_at hk] at h3
   exact absurd (by omega) (h _ h2)
  ·have:=ldI_le (ints L) k
   omega
 exact⟨by unfold T3.lab;rw[h1],by rw[T3.cnt,if_pos h1]⟩
def MapN(w:World)(z nn:Nat)(L:List Nat)(k:Nat):Prop:= ∃D:DataW Unit,w.ownsMap Tryz.prog 3 (plainElem (H:=Unit) Tryz.prog 3) z nn D∧Maps.size D=T3.cnt (ldI (ints L)) k∧(∀v,v<k→has D (.int .i64 ((L.getD v 0:Nat):Int))=true∧D.atKey (.int .i64 ((L.getD v 0:Nat):Int)) (.lit (.int .i64 0))= .lit (.int .i64 ((T3.lab (ldI (ints L)) v:Nat):Int)))∧∀x:Nat,(∀v,v<k→L.getD v 0≠x)→has D (.int .i64 (x:Int))=false
theorem MapN.made(w:World)(L:List Nat):MapN (w.alloc (.map #[] 0)) w.heap.size 0 L 0:=⟨_,World.ownsMap_made _ _ _ _,rfl,fun v hv=>by omega,fun x _=>by simp[Maps.has]⟩
theorem tb_own{w:World}{B b n:Nat}{F:Nat→Nat}(h:TbV w b n 3 (fun v=> .int .i64 ((F v:Nat):Int)))(hB:B≤b)(hn:n≤9223372036854775807):w.ownsRow B 3 1 (.slice (some ⟨b,0,none⟩) n n) n (cellsI (ints ((List.range n).map F))):=by
 refine⟨by rw[cellsI_len,ints_len];simp, .inr ⟨b,n,_,rfl,hB,h,Nat.le_refl _,by unfold maxLen;omega,by simp,?_⟩⟩
 unfold cellsI ints
 simp
 rw[List.take_of_length_le (by simp)]
 rfl
set_option maxHeartbeats 1600000 in
theorem tidied_any(b:Option Addr)(L:List Nat)(bc:Nat)(w:World)(hL:L.length≤1024)(hM: ∀x,x∈L→x≤100000000)(hi:Ints w b (ints L)):
  Calls Tryz.prog 89 #[.slice b L.length bc] w fun e w'=> ∃g,e= .returned (.slice (some ⟨g,0,none⟩) L.length L.length)∧w'.ownsRow w.heap.size 3 1 (.slice (some ⟨g,0,none⟩) (tdL L).length L.length) (tdL L).length (cellsI (ints (tdL L)))∧Below w.heap.size w w':=by
 obtain⟨i3,hi3,hz3,hs3,hb3⟩:=info_parts info3
 have hmk: ∀w,(Instr.makeSlice 25 (.int .i64 L.length) (.int .i64 L.length)).run Tryz.prog w= .ok (.slice (some ⟨w.heap.size,0,none⟩) L.length L.length) (w.alloc (.cells ((List.range L.length).map (fun _=>Value.int .i64 0)).toArray 3)):=fun w=>by
  have:=run_make (P:=Tryz.prog) w 25 3 i3 (.int .i64 0) Tryz.underlying25 hi3 hz3 .i64 .i64 L.length L.length (by omega) (by omega) (by rw[hb3];omega) (by omega)
  rw[this,Int.toNat_natCast,hs3,made_int]
 clear hi3 hz3 hs3 hb3
 clear i3
 have hmm:= @run_makeMap Tryz.prog
 obtain⟨ix,ox,hix⟩:=hi.get
 have HIX:=hid hix
 have HMX:=hid hM
 clear hix hi hM
 generalize hp:w.heap.size=p at*
 have HT0:Hid (TbV ((w.alloc (.cells ((List.range L.length).map (fun _=>Value.int .i64 0)).toArray 3)).alloc (.map #[] 0)) p L.length 3 (fun v=> .int .i64 (((if v<0 then T3.lab (ldI (ints L)) v else 0:Nat)):Int))):=by
  have h:=heap_top w (.cells ((List.range L.length).map (fun _=>Value.int .i64 0)).toArray 3)
  rw[hp] at h
  have h2:=(Below.heap_alloc (w.alloc (.cells ((List.range L.length).map (fun _=>Value.int .i64 0)).toArray 3)) (.map #[] 0) p (lt_of_block h)).trans h
  exact TbV.congr (show TbV _ p L.length 3 (fun _=> .int .i64 0) from h2) (fun v _=>by simp)
 have HM0:Hid (MapN ((w.alloc (.cells ((List.range L.length).map (fun _=>Value.int .i64 0)).toArray 3)).alloc (.map #[] 0)) (p+1) 0 L 0):=by
  have h:=MapN.made (w.alloc (.cells ((List.range L.length).map (fun _=>Value.int .i64 0)).toArray 3)) L
  rw[World.size_alloc,hp] at h
  exact h
 have HB0:Hid (Below p w ((w.alloc (.cells ((List.range L.length).map (fun _=>Value.int .i64 0)).toArray 3)).alloc (.map #[] 0))):=((Below.refl _ _).alloc (by omega) _).alloc (by simp;omega) _
 go_enter Tryz.func89,Tryz.ntmps89
 go_wp2_with fail
 generalize hU:(w.alloc (.cells ((List.range L.length).map (fun _=>Value.int .i64 0)).toArray 3)).alloc (.map #[] 0)=U at*
 clear hU hmk hmm
 go_loopw [15] (fun i wr=> ∃k:Nat,k≤L.length∧i= .int .i64 k∧Hid (MapN wr (p+1) k L k)∧Hid (TbV wr p L.length 3 (fun v=> .int .i64 (((if v<k then T3.lab (ldI (ints L)) v else 0:Nat)):Int)))∧Hid (Below p w wr)) (fun i _=>L.length - (intOf i).toNat)
 case atStart=>exact⟨0,Nat.zero_le _,rfl,HM0,HT0,HB0⟩
 case round=>
  obtain⟨k,hk,rfl,HMR,HTR,HBR⟩:=hrel
  by_cases hlk:k<L.length
  ·obtain⟨rfl,hbl,hat⟩:=HIX.out (by rw[ints_len];omega)
   have hlk':(k:Int)<L.length:=by omega
   have y0:=(HBR.out.cell (p:=⟨ix,ox+k,none⟩) (hp▸hbl)).trans (hat k (by rw[ints_len];exact hlk))
   rw[ints_getD hlk] at y0
   have hx:L.getD k 0≤100000000:=HMX.out _ (by simp[List.getD,List.getElem?_eq_getElem hlk])
   obtain⟨D,hown,hsize,hseen,hnew⟩:=HMR.out
   have HOW:=hid hown
   have d2:=HTR.out.free k
   obtain⟨x,HX⟩:=named (L.getD k 0)
   rw[HX.out] at y0 hx
   have HKX:Hid (keyOf Tryz.prog 3 (.int .i64 (x:Int))=some (.int .i64 (x:Int))):=keyOf_int_mk Tryz.underlying3 (wfN (by omega))
   clear hat HMR
   by_cases hs: ∃v,v<k∧L.getD v 0=x
   ·obtain⟨v,hv1,hv2⟩:=hs
    obtain⟨h1,h2⟩:=hseen v hv1
    rw[hv2] at h1 h2
    obtain⟨h3,h4⟩:=ld_seen hv1 hlk (hv2.trans HX.out.symm)
    rw[←h3] at h2
    have HAT:=hid h2
    have HHS:=hid h1
    have hll:T3.lab (ldI (ints L)) k≤1024:=Nat.le_trans (T3.cnt_le _ _) (Nat.le_trans (ldI_le _ _) (by omega))
    have HMK:Hid (MapN wr (p+1) (k+1) L (k+1)):=⟨D,by obtain⟨es,ck,g1,g2,g3,g4⟩:=hown;exact⟨es,ck,g1,g2,by omega,g4⟩,by rw[h4];exact hsize,fun u hu=>by
      by_cases e:u=k
      ·subst e;rw[HX.out];exact⟨h1,h2⟩
      ·exact hseen u (by omega),fun y hy=>hnew y (fun u hu=>hy u (by omega))⟩
    obtain⟨z,HZ⟩:=named (T3.lab (ldI (ints L)) k)
    rw[HZ.out] at HAT hll
    have HTK:Hid (TbV (wr.setCell ⟨p,k,none⟩ (.int .i64 (z:Int))) p L.length 3 (fun v=> .int .i64 (((if v<k+1 then T3.lab (ldI (ints L)) v else 0:Nat)):Int))):=(HTR.out.set k (.int .i64 (z:Int))).congr (fun u _=>by
     by_cases e:u=k
     ·subst e;rw[updV_self,if_pos (by omega),HZ.out]
     ·rw[updV_ne _ _ e]
      by_cases e2:u<k
      ·rw[if_pos e2,if_pos (by omega)]
      ·rw[if_neg e2,if_neg (by omega)])
    have d1:=HTR.out.cell hlk
    generalize (if k<k then T3.lab (ldI (ints L)) k else 0:Nat)=old at d1
    clear hown hsize hseen hnew h1 h2 h3 h4 hv1 hv2
    go_wp2_with (at_lookup;refine wpList_lookup_own_ok_int _ rfl _ _ 171 rfl 3 3 .i64 law3 Tryz.underlying171 Tryz.underlying3 (zero3 _) (p+1) k D rfl HOW.out _ (.int .i64 (x:Int)) rfl HKX.out ?_;intro c hat hwc;rw[HAT.out] at hat;obtain rfl:c=(z:Int):=(by injection hat with h;injection h with _ h;exact h.symm);rw[HHS.out];clear hat hwc)
    refine⟨⟨k+1,by omega,by simp,?_,HTK,hid (HBR.out.setCell (Nat.le_refl _) _)⟩,by simp[intOf];omega⟩
    obtain⟨D',g1,g2⟩:=HMK.out
    exact⟨D',g1.setCell (by show p+1≠p;omega) _,g2⟩
   ·have hs': ∀v,v<k→L.getD v 0≠x:=fun v hv e=>hs ⟨v,hv,e⟩
    have HHS:=hid (hnew x hs')
    obtain⟨h3,h4⟩:=ld_new hlk (fun v hv=>by rw[HX.out];exact hs' v hv)
    have HSZ:Hid (Maps.size D=T3.lab (ldI (ints L)) k):=hsize.trans h3.symm
    have hll:T3.lab (ldI (ints L)) k≤1024:=Nat.le_trans (T3.cnt_le _ _) (Nat.le_trans (ldI_le _ _) (by omega))
    have HAT:=hid (atKey_of_not_has HHS.out (.lit (.int .i64 0)))
    obtain⟨z,HZ⟩:=named (T3.lab (ldI (ints L)) k)
    rw[HZ.out] at HSZ hll
    have hkl:WideAt.IsKeyLit (Lit.int .i64 (x:Int)):=law3.key HKX.out
    have hTD:=hown.tidy law3
    have HPU:Hid (Maps.size (D.put (.int .i64 (x:Int)) (.lit (.int .i64 (z:Int))))=T3.cnt (ldI (ints L)) (k+1)∧(∀v,v<k+1→has (D.put (.int .i64 (x:Int)) (.lit (.int .i64 (z:Int)))) (.int .i64 ((L.getD v 0:Nat):Int))=true∧(D.put (.int .i64 (x:Int)) (.lit (.int .i64 (z:Int)))).atKey (.int .i64 ((L.getD v 0:Nat):Int)) (.lit (.int .i64 0))= .lit (.int .i64 ((T3.lab (ldI (ints L)) v:Nat):Int)))∧∀y:Nat,(∀v,v<k+1→L.getD v 0≠y)→has (D.put (.int .i64 (x:Int)) (.lit (.int .i64 (z:Int)))) (.int .i64 (y:Int))=false):=by
     refine⟨?_,fun v hv=> ?_,fun y hy=> ?_⟩
     ·rw[size_put hTD,HHS.out,h4,←hsize];rfl
     ·by_cases e:v=k
      ·subst e
       rw[HX.out,HZ.out]
       exact⟨has_put_same hown.isMap hkl _,atKey_put_same hown.isMap hkl _ _⟩
      ·have hne:Lit.int .i64 ((L.getD v 0:Nat):Int)≠Lit.int .i64 (x:Int):=fun e2=>hs' v (by omega) (by injection e2 with _ e3;omega)
       rw[has_put_other hne,atKey_put_other hne]
       exact hseen v (by omega)
     ·have hne:Lit.int .i64 (y:Int)≠Lit.int .i64 (x:Int):=fun e2=>hy k (by omega) (by rw[HX.out];injection e2 with _ e3;omega)
      rw[has_put_other hne]
      exact hnew y (fun v hv=>hy v (by omega))
    have d1:=HTR.out.cell hlk
    generalize (if k<k then T3.lab (ldI (ints L)) k else 0:Nat)=old at d1
    have HOB:Hid (∀w8,w8.ownsMap Tryz.prog 3 (plainElem (H:=Unit) Tryz.prog 3) (p+1) (k+1) (D.put (.int .i64 (x:Int)) (.lit (.int .i64 (z:Int))))→MapN w8 (p+1) (k+1) L (k+1)):=fun w8 h=>⟨_,h,HPU.out⟩
    clear hown hsize hseen hnew h3 h4 hs hs' hkl hTD HPU
    go_wp2_with (first | (at_lookup;refine wpList_lookup_own_ok_int _ rfl _ _ 171 rfl 3 3 .i64 law3 Tryz.underlying171 Tryz.underlying3 (zero3 _) (p+1) k D rfl HOW.out _ (.int .i64 (x:Int)) rfl HKX.out ?_;intro c hat hwc;rw[HAT.out] at hat;obtain rfl:c=(0:Int):=(by injection hat with h;injection h with _ h;exact h.symm);rw[HHS.out];clear hat hwc) | (at_len;refine wpList_len_own _ rfl _ 171 rfl 3 3 Tryz.underlying171 _ (p+1) k D rfl HOW.out ?_;rw[HSZ.out]) | (at_mapUpdate;refine wpList_mapUpdate_own _ rfl _ _ _ 171 rfl 3 3 law3 Tryz.underlying171 (plainElem (H:=Unit) Tryz.prog 3) (p+1) k D rfl HOW.out (by unfold maxLen;omega) _ _ (.int .i64 (x:Int)) rfl rfl HKX.out (.lit (.int .i64 (z:Int))) [] (plainElem_int Tryz.underlying3 (wfN (by omega))) ?_;intro w8 hown8 hgrow8;have HM8:=hid (HOB.out w8 hown8);have HT8:Hid (TbV w8 p L.length 3 (fun v=> .int .i64 (((if v<k then T3.lab (ldI (ints L)) v else 0:Nat)):Int))):=HTR.out.same (hgrow8.block p HTR.out.lt (by simp));have HB8:Hid (Below p w w8):=HBR.out.grown hgrow8 (hp▸HBR.out.size) (by intro j hj;injection hj with hj;omega);have d8:=HT8.out.cell hlk;have f8:=HT8.out.free k;clear hown8 hgrow8))
    refine⟨⟨k+1,by omega,by simp,?_,?_,hid (HB8.out.setCell (Nat.le_refl _) _)⟩,by simp[intOf];omega⟩
    ·obtain⟨D',g1,g2⟩:=HM8.out
     exact⟨D',g1.setCell (by show p+1≠p;omega) _,g2⟩
    ·refine(HT8.out.set k (.int .i64 (z:Int))).congr (fun u _=> ?_)
     by_cases e:u=k
     ·subst e;rw[updV_self,if_pos (by omega),HZ.out]
     ·rw[updV_ne _ _ e]
      by_cases e2:u<k
      ·rw[if_pos e2,if_pos (by omega)]
      ·rw[if_neg e2,if_neg (by omega)]
  ·obtain rfl:k=L.length:=by omega
   have hlk': ¬(L.length:Int)<L.length:=by omega
   have HO:Hid (wr.ownsRow p 3 1 (.slice (some ⟨p,0,none⟩) L.length L.length) L.length (cellsI (ints ((List.range L.length).map (T3.lab (ldI (ints L))))))):=tb_own (HTR.out.congr (fun v hv=>by rw[if_pos hv])) (Nat.le_refl _) (by omega)
   go_wp2_with fail
   go_ret
   refine⟨p,rfl,?_,HBR.out⟩
   rw[tdL_len]
   exact HO.out
end Go.Proofs.YtmenajiceaicpaaGreat
namespace Go.Proofs.YtmenajiceaicpaaGreat.T3
open Go.RowKit
theorem mem_indA{q:Nat→Bool}{l:List A}{y:A}:y∈indA q l↔ ∃x∈l,both q x=true∧ren q x=y:=by
 unfold indA
 rw[List.mem_map]
 constructor
 ·rintro⟨x,hx,rfl⟩
  rw[List.mem_filter] at hx
  exact⟨x,hx.1,hx.2,rfl⟩
 ·rintro⟨x,h1,h2,rfl⟩
  exact⟨x,List.mem_filter.2 ⟨h1,h2⟩,rfl⟩
theorem hits_some{q:Nat→Bool}{n v:Nat}(hv:v<n)(hq:q v=true):hits q n≠ []:=by
 intro e
 have:=(hits_rank hv hq).1
 rw[e] at this
 simp at this
theorem chk_ind{n:Nat}{l:List A}{q:Nat→Bool}(hC:chkE n l=0)(hH:hits q n≠ []):chkE ((hits q n).length:Nat) (indA q l)=0:=by
 obtain⟨h1,h2,h3,h4⟩:=chk_zero hC
 have hl:=hits_len q n
 have hp:0<(hits q n).length:=by
  rcases Nat.eq_zero_or_pos (hits q n).length with h | h
  ·exact absurd (List.eq_nil_of_length_eq_zero h) hH
  ·exact h
 have hil:(indA q l).length≤l.length:=by rw[indA_len];exact hits_len _ _
 refine(chk_ok (by omega) (by omega) ?_).1
 rw[List.all_eq_true]
 intro y hy
 obtain⟨x,hx,hb,rfl⟩:=mem_indA.1 hy
 have hx':=h4 x hx
 have hb':q x.f.toNat=true∧q x.t.toNat=true:=by simpa[both] using hb
 have r1:=(hits_rank (n:=n) (show x.f.toNat<n by omega) hb'.1).1
 have r2:=(hits_rank (n:=n) (show x.t.toNat<n by omega) hb'.2).1
 unfold okA okV ren
 simp
 omega
end Go.Proofs.YtmenajiceaicpaaGreat.T3
namespace Go.Proofs.YtmenajiceaicpaaGreat
open Go.RowKit
def toT(x:A):T3.A:=⟨x.f,x.t,x.w⟩
theorem toT_at{x:A}{w:World}{b o:Nat}(h:x.at w b o):(toT x).at w b o:=h
theorem mapT_getD(l:List A)(j:Nat)(hj:j<l.length):(l.map toT).getD j T3.A.zero=toT (l.getD j A.zero):=by simp[List.getD,hj]
theorem arcs_T{w:World}{a:Option Addr}{l:List A}(h:Arcs w a l):T3.Arcs w a (l.map toT):=by
 rcases h with rfl | ⟨b,o,rfl,hl,hc⟩
 ·exact .inl rfl
 ·refine .inr ⟨b,o,rfl,hl,fun j hj=> ?_⟩
  have hj':j<l.length:=by simpa using hj
  rw[mapT_getD l j hj']
  exact toT_at (hc j hj')
theorem okA_T(N:Int):(T3.okA N ∘ toT)=okA N:=by funext x;rfl
theorem chkE_T(N:Int)(l:List A):T3.chkE N (l.map toT)=chkE N l:=by
 unfold T3.chkE chkE
 rw[List.length_map,List.all_map,okA_T]
def toA(x:T3.A):A:=⟨x.f,x.t,x.w⟩
theorem mapA_getD(l:List T3.A)(j:Nat)(hj:j<l.length):(l.map toA).getD j A.zero=toA (l.getD j T3.A.zero):=by simp[List.getD,hj]
theorem arcs_M{w:World}{a:Option Addr}{l:List T3.A}(h:T3.Arcs w a l):Arcs w a (l.map toA):=by
 rcases h with rfl | ⟨b,o,rfl,hl,hc⟩
 ·exact .inl rfl
 ·refine .inr ⟨b,o,rfl,hl,fun j hj=> ?_⟩
  have hj':j<l.length:=by simpa using hj
  rw[mapA_getD l j hj']
  exact hc j hj'
theorem okA_M(N:Int):(okA N ∘ toA)=T3.okA N:=by funext x;rfl
theorem chkE_M(N:Int)(l:List T3.A):chkE N (l.map toA)=T3.chkE N l:=by
 unfold T3.chkE chkE
 rw[List.length_map,List.all_map,okA_M]
def kpB(L:List Nat)(lb:Nat):List Bool:=(List.range L.length).map (fun v=>decide (L.getD v 0=lb))
def mq(L:List Nat)(lb:Nat):Nat→Bool:=T3.mk (kpB L lb)
theorem kpB_len(L:List Nat)(lb:Nat):(kpB L lb).length=L.length:=by simp[kpB]
theorem mq_iff{L:List Nat}{lb v:Nat}:mq L lb v=true↔v<L.length∧L.getD v 0=lb:=by
 unfold mq T3.mk kpB
 by_cases h:v<L.length
 ·simp[List.getD,h]
 ·simp[List.getD,h]
def vsL(L:List Nat)(lb:Nat):List Int:=T3.hits (mq L lb) L.length
def inL(l:List A)(L:List Nat)(lb:Nat):List A:=(T3.indA (mq L lb) (l.map toT)).map toA
def owL(l:List A)(L:List Nat)(lb:Nat):List Nat:=(ordw (edl (inL l L lb)) (2*(inL l L lb).length) (vsL L lb).length (vsL L lb).length).1
def orL(l:List A)(L:List Nat)(lb:Nat):List Nat:=(owL l L lb).map (fun v=>((vsL L lb).getD v 0).toNat)
theorem inL_ok{n:Nat}{l:List A}{L:List Nat}{lb:Nat}(hC:chkE n l=0)(hL:L.length=n)(hH:vsL L lb≠ []):chkE ((vsL L lb).length:Nat) (inL l L lb)=0:=by
 unfold inL
 rw[chkE_M]
 subst hL
 exact T3.chk_ind ((chkE_T _ l).trans hC) hH
theorem owL_inv{n:Nat}{l:List A}{L:List Nat}{lb:Nat}(hC:chkE n l=0)(hL:L.length=n)(hH:vsL L lb≠ []):(owL l L lb).Nodup∧(∀u,u∈owL l L lb↔u<(vsL L lb).length):=by
 have h0:=(chk_zero (inL_ok hC hL hH)).2.2.2
 have hi:=ordw_inv (E:=edl (inL l L lb)) (M:=2*(inL l L lb).length) (N:=(vsL L lb).length) (fun u v=>adj_sym (fun x hx=>⟨(h0 x hx).1.1,(h0 x hx).2.1⟩) u v) (vsL L lb).length (Nat.le_refl _)
 exact⟨hi.nd,fun u=>⟨hi.lt u,hi.al u⟩⟩
end Go.Proofs.YtmenajiceaicpaaGreat
namespace Go.Proofs.YtmenajiceaicpaaGreat
open Go.RowKit
theorem info4C:(Tryz.prog.info? 4).map (fun i=>(i.zero,i.size,i.bytes))=some (some (.bool false),1,1):=by kernel_rfl
theorem tb_bools{w:World}{b m:Nat}{F:Nat→Bool}(h:TbV w b m 4 (fun j=> .bool (F j))):T3.Bools (· <w.heap.size) w (some ⟨b,0,none⟩) ((List.range m).map F):=
 .inr ⟨b,0,rfl,h.lt,fun j hj=>by
  have hj':j<m:=by simpa using hj
  rw[Nat.zero_add,h.cell hj']
  simp[List.getD,hj']⟩
theorem set_mid{α:Type}(a b:List α)(x y:α):(a++x::b).set a.length y=a++y::b:=by simp
def trn(xs:List Nat)(f:Nat→Nat)(k:Nat):List Nat:=(xs.take k).map f++xs.drop k
theorem trn_len(xs:List Nat)(f:Nat→Nat)(k:Nat)(hk:k≤xs.length):(trn xs f k).length=xs.length:=by
 unfold trn
 rw[List.length_append,List.length_map,List.length_take,List.length_drop]
 omega
theorem trn_step{xs:List Nat}{f:Nat→Nat}{k:Nat}(hk:k<xs.length):(trn xs f k).set k (f (xs.getD k 0))=trn xs f (k+1):=by
 have h1:xs.drop k=xs.getD k 0::xs.drop (k+1):=by rw[List.drop_eq_getElem_cons hk];simp[List.getD,List.getElem?_eq_getElem hk]
 have h2:xs.take (k+1)=xs.take k++[xs.getD k 0]:=by rw[List.take_succ_eq_append_getElem hk];simp[List.getD,List.getElem?_eq_getElem hk]
 have hl:((xs.take k).map f).length=k:=by rw[List.length_map,List.length_take];omega
 unfold trn
 rw[h1,h2,List.map_append]
 generalize (xs.take k).map f=A at*
 subst hl
 rw[set_mid]
 simp
theorem trn_at{xs:List Nat}{f:Nat→Nat}{k:Nat}(hk:k<xs.length):(trn xs f k).getD k 0=xs.getD k 0:=by
 have h1:xs.drop k=xs.getD k 0::xs.drop (k+1):=by rw[List.drop_eq_getElem_cons hk];simp[List.getD,List.getElem?_eq_getElem hk]
 have hl:((xs.take k).map f).length=k:=by rw[List.length_map,List.length_take];omega
 unfold trn
 rw[h1]
 generalize (xs.take k).map f=A at*
 subst hl
 simp[List.getD]
set_option maxHeartbeats 3200000 in
theorem ordered_any(n:Nat)(a:Option Addr)(l:List A)(cap:Nat)(b:Option Addr)(L:List Nat)(bc lb:Nat)(w:World)(hC:chkE n l=0)(hL:L.length=n)(hH:vsL L lb≠ [])(hr:Arcs w a l)(hi:Ints w b (ints L)):
  Calls Tryz.prog 88 #[.agg #[.int .i64 n, .slice a l.length cap], .slice b L.length bc, .int .i64 lb] w fun e w'=> ∃v c,e= .returned (.tuple #[.slice v (orL l L lb).length c, .int .i64 0])∧w'.ownsRow w.heap.size 3 1 (.slice v (orL l L lb).length c) (orL l L lb).length (cellsI (ints (orL l L lb)))∧Below w.heap.size w w':=by
 subst hL
 obtain⟨h1n,hn,hl,hoa⟩:=chk_zero hC
 have hn':L.length≤1024:=by omega
 have HC:=hid hC
 have HH:=hid hH
 have HCI:=hid (inL_ok hC rfl hH)
 obtain⟨hnd,hmem⟩:=owL_inv hC rfl hH
 have HMEM:=hid hmem
 have hb0:Below w.heap.size w (w.alloc (.cells #[.int .i64 L.length, .slice a l.length cap] 24)):=(Below.refl _ _).alloc (Nat.le_refl _) _
 have hg:=heap_top w (.cells #[.int .i64 L.length, .slice a l.length cap] 24)
 have HR:=hid (hr.on hb0)
 have HI:=hid (hi.on hb0)
 have HB0:=hid hb0
 obtain⟨i4,hi4,hz4',hs4,hb4'⟩:=info_parts info4C
 have hmk: ∀w,(Instr.makeSlice 53 (.int .i64 L.length) (.int .i64 L.length)).run Tryz.prog w= .ok (.slice (some ⟨w.heap.size,0,none⟩) L.length L.length) (w.alloc (.cells ((List.range L.length).map (fun _=>Value.bool false)).toArray 4)):=fun w=>by
  have:=run_make (P:=Tryz.prog) w 53 4 i4 (.bool false) Tryz.underlying53 hi4 hz4' .i64 .i64 L.length L.length (by omega) (by omega) (by rw[hb4'];omega) (by omega)
  rw[this,Int.toNat_natCast,hs4,made_bool]
 clear hi4 hz4' hs4 hb4'
 clear i4
 obtain⟨⟨c0,c1⟩,_⟩:=two_cells hg
 clear hb0 hr hi hoa h1n hn hC hH hnd hmem
 generalize hp:w.heap.size=p at*
 have hWs:(w.alloc (.cells #[.int .i64 L.length, .slice a l.length cap] 24)).heap.size=p+1:=by simp[hp]
 go_enter Tryz.func88,Tryz.ntmps88
 go_wp2_with fail
 generalize hW:w.alloc (.cells #[.int .i64 L.length, .slice a l.length cap] 24)=W at*
 clear hW c0 c1
 have HT0:Hid (TbV (W.alloc (.cells ((List.range L.length).map (fun _=>Value.bool false)).toArray 4)) (p+1) L.length 4 (fun v=> .bool (decide (v<0)&&decide (L.getD v 0=lb)))):=by
  have h:=heap_top W (.cells ((List.range L.length).map (fun _=>Value.bool false)).toArray 4)
  rw[hWs] at h
  exact TbV.congr (show TbV _ (p+1) L.length 4 (fun _=> .bool false) from h) (fun v _=>by simp)
 have HBU:Hid (Below (p+1) W (W.alloc (.cells ((List.range L.length).map (fun _=>Value.bool false)).toArray 4))):=(Below.refl _ _).alloc (by omega) _
 obtain⟨ix,ox,hix⟩:=HI.out.get
 have HIX:=hid hix
 have HG:=hid hg
 clear hix HI hg
 try rw[hWs]
 generalize hU:W.alloc (.cells ((List.range L.length).map (fun _=>Value.bool false)).toArray 4)=U at*
 clear hU hmk
 go_loopw [22] (fun i wr=> ∃k:Nat,k≤L.length∧i= .int .i64 k∧Hid (TbV wr (p+1) L.length 4 (fun v=> .bool (decide (v<k)&&decide (L.getD v 0=lb))))∧Hid (Below (p+1) W wr)) (fun i _=>L.length - (intOf i).toNat)
 case atStart=>exact⟨0,Nat.zero_le _,rfl,HT0,HBU⟩
 case round=>
  obtain⟨k,hk,rfl,HTR,HBR⟩:=hrel
  by_cases hlk:k<L.length
  ·obtain⟨rfl,hbl,hat⟩:=HIX.out (by rw[ints_len];omega)
   have hlk':(k:Int)<L.length:=by omega
   have y0:=(HBR.out.cell (p:=⟨ix,ox+k,none⟩) (hWs▸hbl)).trans (hat k (by rw[ints_len];exact hlk))
   rw[ints_getD hlk] at y0
   have d1:=HTR.out.cell hlk
   have d2:=HTR.out.free k
   generalize (decide (k<k)&&decide (L.getD k 0=lb))=old at d1
   have HTK:Hid (TbV (wr.setCell ⟨p+1,k,none⟩ (.bool (decide (L.getD k 0=lb)))) (p+1) L.length 4 (fun v=> .bool (decide (v<k+1)&&decide (L.getD v 0=lb)))):=(HTR.out.set k (.bool (decide (L.getD k 0=lb)))).congr (fun u _=>by
    by_cases e:u=k
    ·subst e;rw[updV_self];simp
    ·rw[updV_ne _ _ e]
     congr 2
     rw[Bool.eq_iff_iff]
     simp only[decide_eq_true_eq]
     omega)
   have HBK:Hid (Below (p+1) W (wr.setCell ⟨p+1,k,none⟩ (.bool (decide (L.getD k 0=lb))))):=HBR.out.setCell (Nat.le_refl _) _
   clear hat
   by_cases he:L.getD k 0=lb
   ·rw[decide_eq_true he] at HTK HBK
    rw[he] at y0
    have hq:((lb:Int)==(lb:Int))=true:=by simp
    clear he
    go_wp2_with fail
    exact⟨⟨k+1,by omega,by simp,HTK,HBK⟩,by simp[intOf];omega⟩
   ·rw[decide_eq_false he] at HTK HBK
    obtain⟨x,HX⟩:=named (L.getD k 0)
    rw[HX.out] at y0 he
    have hq:((x:Int)==(lb:Int))=false:=by simp;omega
    clear he
    go_wp2_with fail
    exact⟨⟨k+1,by omega,by simp,HTK,HBK⟩,by simp[intOf];omega⟩
  ·obtain rfl:k=L.length:=by omega
   have hlk': ¬(L.length:Int)<L.length:=by omega
   have hwr:p+1≤wr.heap.size:=hWs▸HBR.out.size
   have HBL:Hid (T3.Bools (· <wr.heap.size) wr (some ⟨p+1,0,none⟩) (kpB L lb)):=tb_bools (HTR.out.congr (fun v hv=>by simp[hv]))
   have HRr:Hid (Arcs wr a l):=HR.out.on (by rw[hWs];exact HBR.out)
   have hgr:=(HBR.out.block p (by omega)).trans HG.out
   obtain⟨⟨c0,c1⟩,_⟩:=two_cells hgr
   have HBP:Hid (Below p w wr):=HB0.out.trans (HBR.out.mono (by omega))
   have HIN:=hid (T3.induced_ok L.length a (l.map toT) cap (some ⟨p+1,0,none⟩) (kpB L lb) L.length wr ((chkE_T _ l).trans HC.out) (kpB_len L lb) HH.out (arcs_T HRr.out) HBL.out)
   rw[List.length_map] at HIN
   obtain⟨IA,HIA⟩:=named (T3.indA (mq L lb) (l.map toT))
   obtain⟨vs,HVS⟩:=named (vsL L lb)
   have HIA':Hid (T3.indA (T3.mk (kpB L lb)) (l.map toT)=IA):=HIA
   have HVS':Hid (T3.hits (T3.mk (kpB L lb)) L.length=vs):=HVS
   rw[HIA'.out,HVS'.out] at HIN
   have HINL:Hid (inL l L lb=IA.map toA):=by show _=_;unfold inL;rw[HIA.out]
   have HOR:Hid (orL l L lb=(owL l L lb).map (fun v=>(vs.getD v 0).toNat)):=by show _=_;unfold orL;rw[HVS.out]
   rw[HVS.out] at HMEM HCI
   have hvl:vs.length≤1024:=by rw[←HVS.out];exact Nat.le_trans (T3.hits_len _ _) hn'
   have hv1:1≤vs.length:=by
    have h:=HH.out
    rw[HVS.out] at h
    rcases Nat.eq_zero_or_pos vs.length with e | e
    ·exact absurd (List.eq_nil_of_length_eq_zero e) h
    ·exact e
   have HVN:Hid (∀j,j<vs.length→∃u:Nat,u<1024∧vs.getD j 0=(u:Int)):=fun j hj=>by
    obtain⟨u,h1,_,h3,_⟩:=T3.hits_idx (q:=mq L lb) (n:=L.length) (j:=j) (by have e:T3.hits (mq L lb) L.length=vs:=HVS.out;rw[e];exact hj)
    have e:T3.hits (mq L lb) L.length=vs:=HVS.out
    rw[e] at h3
    exact⟨u,by omega,h3⟩
   clear HBL HRr HTR HBR HIX HR HT0 HBU hk hlk hgr
   go_wp2_with fail
   refine HIN.out.mono ?_
   rintro e w2 ⟨ah,ch,av,cv,ai,ci,rfl,hownA,_,hownV,_,hb2⟩
   have HB2:Hid (Below p w w2):=HBP.out.trans (hb2.mono (by omega))
   have hw2:wr.heap.size≤w2.heap.size:=hb2.size
   have HAR:Hid (Arcs w2 ah (IA.map toA)):=arcs_M hownA.arcs
   have HVI:Hid (Ints w2 av vs):=hownV.ints
   clear hb2 hownA hownV HIN c0 c1
   have hb23:Below w2.heap.size w2 (w2.alloc (.cells #[.int .i64 vs.length, .slice ah IA.length ch] 24)):=(Below.refl _ _).alloc (Nat.le_refl _) _
   have hg3:=heap_top w2 (.cells #[.int .i64 vs.length, .slice ah IA.length ch] 24)
   have HB3:Hid (Below p w (w2.alloc (.cells #[.int .i64 vs.length, .slice ah IA.length ch] 24))):=HB2.out.trans (hb23.mono (by omega))
   have HA3:=hid (HAR.out.on hb23)
   have HV3:=hid (HVI.out.on hb23)
   have hz3:p≤(w2.alloc (.cells #[.int .i64 vs.length, .slice ah IA.length ch] 24)).heap.size:=by have:=hb23.size;omega
   obtain⟨⟨c0,c1⟩,_⟩:=two_cells hg3
   clear hb23
   go_wp2_with fail
   generalize hw3:w2.alloc (.cells #[.int .i64 vs.length, .slice ah IA.length ch] 24)=w3 at*
   clear hw3
   have HOD:=hid (order_any vs.length ah (IA.map toA) ch w3 (by have h:=(chk_zero HCI.out).2.2.1;rw[HINL.out] at h;omega) HA3.out)
   have HLI:Hid ((inL l L lb).length=IA.length):=by show _=_;rw[HINL.out,List.length_map]
   obtain⟨Q,HQ⟩:=named (owL l L lb)
   have HOW:Hid ((ordw (edl (inL l L lb)) (2*(inL l L lb).length) vs.length vs.length).1=Q):=by show _=_;rw[←HQ.out];unfold owL;rw[HVS.out]
   rw[←HINL.out,HCI.out,if_pos rfl,Int.toNat_natCast,HOW.out,HLI.out] at HOD
   rw[HQ.out] at HOR HMEM
   have hQl:Q.length≤1024:=by
    have h:=HQ.out
    have h2:=owL_inv HC.out rfl HH.out
    rw[h,HVS.out] at h2
    have h3:=List.Nodup.length_le_of_subset h2.1 (l₂:=List.range vs.length) (fun u hu=>List.mem_range.2 ((h2.2 u).1 hu))
    rw[List.length_range] at h3
    omega
   obtain⟨f,HF⟩: ∃f:Nat→Nat,Hid (∀v,f v=(vs.getD v 0).toNat):=⟨_,fun _=>rfl⟩
   have HOF:Hid (orL l L lb=Q.map f):=by
    show _=_
    rw[HOR.out]
    congr 1
    funext v
    exact(HF.out v).symm
   go_wp2_with fail
   refine HOD.out.mono ?_
   rintro e w4 ⟨v4,xs,rfl,hown4,rfl,hb4⟩
   obtain⟨a4,c4,rfl⟩:=own_slice hown4
   have HB4:Hid (Below p w w4):=HB3.out.trans (hb4.mono hz3)
   have HV4:=hid (HV3.out.on hb4)
   obtain⟨iv,ov,hiv⟩:=HV3.out.get
   have HIV:=hid hiv
   have HT4:Hid (trn xs f 0=xs):=by show _=_;simp[trn]
   have HL4:=hid hb4
   obtain⟨z,hz⟩: ∃z,w3.heap.size=z:=⟨_,rfl⟩
   rw[hz] at hown4 hz3
   have HO4:=hid hown4
   clear hown4 hb4 hiv HOD HOW HLI HA3 HAR HVI hg3 c0 c1
   rw[hz] at HL4
   go_wp2_with fail
   go_loopw [56] (fun i wr=> ∃ (k:Nat),k≤xs.length∧i= .int .i64 k∧Hid (wr.ownsRow z 3 1 (.slice a4 xs.length c4) xs.length (cellsI (ints (trn xs f k))))∧Hid (Below z w3 wr)) (fun i _=>xs.length - (intOf i).toNat)
   case atStart=>exact⟨0,Nat.zero_le _,rfl,by rw[HT4.out];exact HO4,HL4⟩
   case round=>
    obtain⟨k,hk,rfl,HOR2,HBR⟩:=hrel
    by_cases hlk:k<xs.length
    ·have hlk':(k:Int)<xs.length:=by omega
     have hkv:xs.getD k 0<vs.length:=(HMEM.out _).1 (by simp[List.getD,List.getElem?_eq_getElem hlk])
     obtain⟨u,hu1,hu2⟩:=HVN.out _ hkv
     obtain⟨rfl,hvb,hvat⟩:=HIV.out (by omega)
     have y1:=(HBR.out.cell (p:=⟨iv,ov+xs.getD k 0,none⟩) (hz▸hvb)).trans (hvat _ hkv)
     rw[hu2] at y1
     have HFU:Hid (f (xs.getD k 0)=u):=by show _=_;rw[HF.out,hu2];simp
     have hrow:=HOR2.out
     rw[←trn_len xs f k (by omega)] at hrow
     obtain⟨g,cg,hv,hg1,_,_,_⟩:=own_shape hrow (fun e=>by injection e with _ e2 _;rw[trn_len xs f k (by omega)] at e2;omega)
     injection hv with hv1 _ hv3
     subst hv1 hv3
     have d1:=own_cellI hrow (k:=k) (by rw[trn_len xs f k (by omega)];exact hlk)
     rw[trn_at hlk] at d1
     have d2:=World.ownsRow.frozenAt hrow k
     have hrow2:=own_setI hrow k u
     rw[←HFU.out,trn_step hlk,trn_len xs f (k+1) (by omega),HFU.out] at hrow2
     have HO7:=hid hrow2
     clear hrow hrow2 hvat hu2
     generalize xs.getD k 0=x at*
     have hkv':(x:Int)<vs.length:=by omega
     go_wp2_with fail
     exact⟨⟨k+1,by omega,by simp,HO7,hid (HBR.out.setCell hg1 _)⟩,by simp[intOf];omega⟩
    ·obtain rfl:k=xs.length:=by omega
     have hlk': ¬(xs.length:Int)<xs.length:=by omega
     have HTE:Hid (trn xs f xs.length=xs.map f):=by show _=_;simp[trn]
     have HLE:Hid ((xs.map f).length=xs.length):=by show _=_;rw[List.length_map]
     rw[HTE.out] at HOR2
     go_wp2_with fail
     go_ret2
     refine⟨a4,c4,?_,?_,HB3.out.trans (HBR.out.mono hz3)⟩
     ·rw[HOF.out,HLE.out];rfl
     ·rw[HOF.out,HLE.out]
      exact own_base HOR2.out hz3
theorem szS_len(S:List Nat)(x:Nat):(szS S x).length=if x=S.length then S.length+1 else S.length:=by
 unfold szS
 split <;> simp
theorem ints_take(L:List Nat)(k:Nat):(ints L).take k=ints (L.take k):=by simp[ints,List.map_take]
theorem getD_app_lt{S:List Nat}{j x:Nat}(h:j<S.length):(S++[x]).getD j 0=S.getD j 0:=by simp[List.getD,List.getElem?_append_left h]
theorem getD_out{S:List Nat}{j:Nat}(h:S.length≤j):S.getD j 0=0:=by simp[List.getD,List.getElem?_eq_none h]
theorem getD_setN{S:List Nat}{k j x:Nat}(hk:k<S.length):(S.set k x).getD j 0=if j=k then x else S.getD j 0:=by
 by_cases e:j=k
 ·subst e;simp[List.getD,hk]
 ·rw[if_neg e];simp[List.getD,List.getElem?_set_ne (Ne.symm e)]
theorem szS_at{S:List Nat}{x:Nat}(hx:x≤S.length)(j:Nat):(szS S x).getD j 0=S.getD j 0+(if j=x then 1 else 0):=by
 unfold szS
 by_cases e:x=S.length
 ·rw[if_pos e]
  by_cases e2:j=x
  ·rw[if_pos e2,e2,e,getD_end,getD_out (Nat.le_refl _)]
  ·rw[if_neg e2]
   rcases Nat.lt_or_ge j S.length with h | h
   ·rw[getD_app_lt h];omega
   ·rw[getD_out h,getD_out (by rw[List.length_append];simp;omega)]
 ·rw[if_neg e,getD_setN (by omega)]
  by_cases e2:j=x
  ·subst e2;rw[if_pos rfl,if_pos rfl]
  ·rw[if_neg e2,if_neg e2];omega
theorem tdy_next{xs:List Int}: ∀j k,k+j=xs.length→tdy (xs.drop k) ((szL (xs.take k)).length:Nat)=true→∀i,k≤i→i<xs.length→0≤xs.getD i 0∧(xs.getD i 0).toNat≤(szL (xs.take i)).length
 | 0,k,e,_=>fun i h1 h2=>by omega
 | j+1,k,e,h=>by
   have hk:k<xs.length:=by omega
   rw[drop_getI hk] at h
   simp only[tdy] at h
   split at h
   ·cases h
   ·rename_i hx
    intro i h1 h2
    by_cases e2:i=k
    ·subst e2;exact⟨by omega,by omega⟩
    ·refine tdy_next j (k+1) (by omega) ?_ i (by omega) h2
     rw[take_snocI hk,szL_snoc,szS_len]
     by_cases e3:xs.getD k 0=((szL (xs.take k)).length:Nat)
     ·rw[if_pos e3] at h
      rw[if_pos (by omega)]
      exact h
     ·rw[if_neg e3] at h
      rw[if_neg (by omega)]
      exact h
theorem right_next{xs:List Int}(h:tdy xs 0=true): ∀i,i<xs.length→0≤xs.getD i 0∧(xs.getD i 0).toNat≤(szL (xs.take i)).length:=fun i hi=>tdy_next xs.length 0 (by omega) h i (Nat.zero_le _) hi
theorem sz_hits{L:List Nat}(h:tdy (ints L) 0=true)(lb:Nat): ∀k,k≤L.length→(szL (ints (L.take k))).getD lb 0=(T3.hits (mq L lb) k).length
 | 0,_=>by simp[szL,T3.hits,ints]
 | k+1,hk=>by
   have hk':k<L.length:=by omega
   have ih:=sz_hits h lb k (by omega)
   have h1:=right_next h k (by rw[ints_len];exact hk')
   rw[ints_getD hk',Int.toNat_natCast,ints_take] at h1
   have e:ints (L.take (k+1))=ints (L.take k)++[((L.getD k 0:Nat):Int)]:=by
    rw[show L.take (k+1)=L.take k++[L.getD k 0] by rw[List.take_succ_eq_append_getElem hk'];simp[List.getD,List.getElem?_eq_getElem hk'],ints_snoc]
   rw[e,szL_snoc,Int.toNat_natCast,szS_at h1.2,ih]
   by_cases e2:lb=L.getD k 0
   ·rw[if_pos e2,T3.hits_t (mq_iff.2 ⟨hk',e2.symm⟩)]
    simp
   ·rw[if_neg e2,T3.hits_f (by rw[Bool.eq_false_iff];exact fun h2=>e2 (mq_iff.1 h2).2.symm)]
    rfl
theorem sz_vs{L:List Nat}(h:tdy (ints L) 0=true)(lb:Nat):(szL (ints L)).getD lb 0=(vsL L lb).length:=by
 have h1:=sz_hits h lb L.length (Nat.le_refl _)
 rw[List.take_length] at h1
 exact h1
theorem owL_len{n:Nat}{l:List A}{L:List Nat}{lb:Nat}(hC:chkE n l=0)(hL:L.length=n)(hH:vsL L lb≠ []):(owL l L lb).length=(vsL L lb).length:=by
 obtain⟨h1,h2⟩:=owL_inv hC hL hH
 have h3:=List.Nodup.length_le_of_subset h1 (l₂:=List.range (vsL L lb).length) (fun u hu=>List.mem_range.2 ((h2 u).1 hu))
 have h4:=List.Nodup.length_le_of_subset (List.nodup_range (n:=(vsL L lb).length)) (l₂:=owL l L lb) (fun u hu=>(h2 u).2 (List.mem_range.1 hu))
 rw[List.length_range] at h3 h4
 omega
theorem orL_len{n:Nat}{l:List A}{L:List Nat}{lb:Nat}(hC:chkE n l=0)(hL:L.length=n)(hH:vsL L lb≠ []):(orL l L lb).length=(vsL L lb).length:=by
 unfold orL
 rw[List.length_map]
 exact owL_len hC hL hH
theorem vs_at{L:List Nat}{lb j:Nat}(hj:j<(vsL L lb).length): ∃u:Nat,u<L.length∧L.getD u 0=lb∧(vsL L lb).getD j 0=(u:Int):=by
 obtain⟨u,h1,h2,h3,_⟩:=T3.hits_idx (q:=mq L lb) (n:=L.length) (j:=j) hj
 exact⟨u,h1,(mq_iff.1 h2).2,h3⟩
theorem orL_mem{n:Nat}{l:List A}{L:List Nat}{lb:Nat}(hC:chkE n l=0)(hL:L.length=n)(hH:vsL L lb≠ []){v:Nat}(hv:v∈orL l L lb):v<L.length∧L.getD v 0=lb:=by
 unfold orL at hv
 obtain⟨j,hj,rfl⟩:=List.mem_map.1 hv
 obtain⟨u,h1,h2,h3⟩:=vs_at (((owL_inv hC hL hH).2 j).1 hj)
 rw[h3]
 exact⟨by simpa using h1,by simpa using h2⟩
def asg(P M:List Nat)(nx bd:Nat):Nat→List Nat
 | 0=>P
 | k+1=>(asg P M nx bd k).set (M.getD k 0) (nx+k / bd)
theorem asg_len(P M:List Nat)(nx bd:Nat): ∀k,(asg P M nx bd k).length=P.length
 | 0=>rfl
 | k+1=>by rw[asg,List.length_set,asg_len P M nx bd k]
def cuS(l:List A)(L S:List Nat)(bd:Nat):Nat→List Nat × Nat
 | 0=>(L,S.length)
 | k+1=>if S.getD k 0≤bd then cuS l L S bd k else (asg (cuS l L S bd k).1 (orL l L k) (cuS l L S bd k).2 bd (orL l L k).length,(cuS l L S bd k).2+((orL l L k).length - 1) / bd+1)
theorem cuS_len(l:List A)(L S:List Nat)(bd:Nat): ∀k,(cuS l L S bd k).1.length=L.length
 | 0=>rfl
 | k+1=>by
   rw[cuS]
   split
   ·exact cuS_len l L S bd k
   ·rw[asg_len,cuS_len l L S bd k]
def cuL(l:List A)(L:List Nat)(bd:Nat):List Nat:=tdL (cuS l L (szL (ints L)) bd (szL (ints L)).length).1
end Go.Proofs.YtmenajiceaicpaaGreat
