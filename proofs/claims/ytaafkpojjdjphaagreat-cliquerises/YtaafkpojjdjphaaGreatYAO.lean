import Derived.Test.YtaafkpojjdjphaaGreatYAN
open Go.Lib (hid)
namespace Go.Proofs.YtaafkpojjdjphaaGreat
open Go.RowKit
def cellsM:List Mt→List Value
 | []=> []
 | m::r=> .int .i64 m.lv:: .int .i64 m.ce:: .int .i64 m.ep:: .slice m.a m.D.length m.c::cellsM r
theorem cellsM_len: ∀r:List Mt,(cellsM r).length=r.length*4
 | []=>rfl
 | k::r=>by simp[cellsM,cellsM_len r];omega
theorem cellsM_append: ∀r s:List Mt,cellsM (r++s)=cellsM r++cellsM s
 | [],s=>rfl
 | k::r,s=>by simp[cellsM,cellsM_append r s]
theorem cellsM_at: ∀ (r:List Mt) (j:Nat),j<r.length→(cellsM r)[j*4]? =some (.int .i64 (mt r j).lv)∧(cellsM r)[j*4+1]? =some (.int .i64 (mt r j).ce)∧(cellsM r)[j*4+2]? =some (.int .i64 (mt r j).ep)∧(cellsM r)[j*4+3]? =some (.slice (mt r j).a (mt r j).D.length (mt r j).c)
 | [],_,h=>absurd h (by simp)
 | x::r,0,_=>⟨rfl,rfl,rfl,rfl⟩
 | x::r,j+1,h=>by
   have:=cellsM_at r j (by simpa using h)
   rw[show(j+1)*4=j*4+4 by omega]
   exact this
theorem mt_snoc_lt{M:List Mt}{m:Mt}{j:Nat}(h:j<M.length):mt (M++[m]) j=mt M j:=by
 unfold mt
 rw[List.getD_eq_getElem?_getD,List.getElem?_append_left h,←List.getD_eq_getElem?_getD]
theorem mt_snoc_eq(M:List Mt)(m:Mt):mt (M++[m]) M.length=m:=by
 unfold mt
 rw[List.getD_eq_getElem?_getD,List.getElem?_append_right (Nat.le_refl _)]
 simp
def MtO(w:World)(B:Nat)(M:List Mt):Prop:= ∀j,j<M.length→w.ownsRow B 48 1 (.slice (mt M j).a (mt M j).D.length (mt M j).c) (mt M j).D.length (cellsU (mt M j).D)
theorem MtO.on{w w':World}{B:Nat}{M:List Mt}(h:MtO w B M)(hb:Below w.heap.size w w'):MtO w' B M:=fun j hj=>own_on (h j hj) hb
theorem MtO.base{w:World}{B B':Nat}{M:List Mt}(h:MtO w B M)(hb:B'≤B):MtO w B' M:=fun j hj=>own_base (h j hj) hb
theorem MtO.snoc{w:World}{B:Nat}{M:List Mt}{m:Mt}(h:MtO w B M)(hm:w.ownsRow B 48 1 (.slice m.a m.D.length m.c) m.D.length (cellsU m.D)):MtO w B (M++[m]):=fun j hj=>by
 rw[List.length_append] at hj
 by_cases e:j=M.length
 ·subst e;rw[mt_snoc_eq];exact hm
 ·rw[mt_snoc_lt (by simp at hj;omega)];exact h j (by simp at hj;omega)
theorem MtO.grown{w w':World}{B B':Nat}{M:List Mt}{v:Value}{n:Nat}{xs:List Value}(h:MtO w B M)(ho:w.ownsRow B' 40 4 v n xs)(hg:w.grownBy w' v.ownBlock):MtO w' B M:=fun j hj=>own_kept (h j hj) ho (by decide) hg
theorem infoM:(Tryz.prog.info? 40).map (fun i=>(i.zero,i.size,i.bytes))=some (some (.agg #[.int .i64 0, .int .i64 0, .int .i64 0, .slice none 0 0]),4,48):=by kernel_rfl
structure Lvd(w:World)(B n:Nat)(l:List A)(bs:List Int)(cs:List (List Int))(j:Nat)(v:Option Addr)(c:Nat)(M:List Mt)(k:Nat):Prop where
 len:M.length=k
 row:w.ownsRow B 40 4 (.slice v M.length c) M.length (cellsM M)
 mem:MtO w B M
 rgt: ∀i,i<k→(mt M i).lv=(j:Int)+1∧(mt M i).ce=i∧(mt M i).ep=0∧(mt M i).D=mxL (wiL l (inV n l bs cs ((j:Int)+1) i)) (bdV n l bs cs ((j:Int)+1) i)
 isd: ∀i,i<k→∀t,t<(bdV n l bs cs ((j:Int)+1) i).length→N5.IsD ((wiL l (inV n l bs cs ((j:Int)+1) i)).map toN) (fun _=>true) ((bdV n l bs cs ((j:Int)+1) i).getD t 0) (dF (wiL l (inV n l bs cs ((j:Int)+1) i)) ((bdV n l bs cs ((j:Int)+1) i).getD t 0))
set_option maxRecDepth 100000 in
set_option maxHeartbeats 3200000 in
theorem leveled_any(n:Nat)(a:Option Addr)(l:List A)(cap:Nat)(ba:Option Addr)(bs:List Int)(bc:Nat)(ca:Option Addr)(C:List Cl)(cc:Nat)(j:Nat)(w:World)(hNR:NR n l bs (csl C))(hj:j<bs.length)(hl:l.length≤9223372036854775807)(hbl:bs.length≤9223372036854775807)(hr:Arcs w a l)(hi:Ints w ba bs)(hR:Rws w ca C)(hwt: ∀x∈l,0≤x.w∧x.w<4294967296):
  Calls Tryz.prog 30 #[.agg #[.int .i64 n, .slice a l.length cap], .agg #[.slice ba bs.length bc, .slice ca C.length cc], .int .i64 ((j:Int)+1)] w fun e w'=> ∃v c M,e= .returned (.tuple #[.slice v M.length c, .bool true])∧Lvd w' w.heap.size n l bs (csl C) j v c M (szL (lvl (csl C) j)).length∧Below w.heap.size w w':=by
 obtain⟨hg0,hg1,hb0,hsz⟩:=top2 w (.cells #[.int .i64 n, .slice a l.length cap] 24) (.cells #[.slice ba bs.length bc, .slice ca C.length cc] 28)
 obtain⟨iM,hiM,hzM,hsM,hbyM⟩:=info_parts infoM
 have HMN:=hid (many_any n a l cap ba bs bc ca C cc ((j:Int)+1) _ hl hbl (hr.on hb0) (hi.on hb0) (hR.on hb0))
 have e1:atE n l bs (csl C) ((j:Int)+1)=0:=atE_ok hNR hj
 unfold manyV at HMN
 rw[e1,if_pos rfl,show((j:Int)+1).toNat - 1=j by omega] at HMN
 have HWH:Hid (∀W2,Below w.heap.size w W2→∀k:Nat,k<(szL (lvl (csl C) j)).length→Calls Tryz.prog 82 #[.agg #[.int .i64 n, .slice a l.length cap], .agg #[.slice ba bs.length bc, .slice ca C.length cc], .int .i64 ((j:Int)+1), .int .i64 (k:Nat), .int .i64 0] W2 fun e w'=> ∃v c,e= .returned (.tuple #[.agg #[.int .i64 ((j:Int)+1), .int .i64 (k:Nat), .int .i64 0, .slice v (mxL (wiL l (inV n l bs (csl C) ((j:Int)+1) (k:Nat))) (bdV n l bs (csl C) ((j:Int)+1) (k:Nat))).length c], .int .i64 0])∧w'.ownsRow W2.heap.size 48 1 (.slice v (mxL (wiL l (inV n l bs (csl C) ((j:Int)+1) (k:Nat))) (bdV n l bs (csl C) ((j:Int)+1) (k:Nat))).length c) (mxL (wiL l (inV n l bs (csl C) ((j:Int)+1) (k:Nat))) (bdV n l bs (csl C) ((j:Int)+1) (k:Nat))).length (cellsU (mxL (wiL l (inV n l bs (csl C) ((j:Int)+1) (k:Nat))) (bdV n l bs (csl C) ((j:Int)+1) (k:Nat))))∧(∀t,t<(bdV n l bs (csl C) ((j:Int)+1) (k:Nat)).length→N5.IsD ((wiL l (inV n l bs (csl C) ((j:Int)+1) (k:Nat))).map toN) (fun _=>true) ((bdV n l bs (csl C) ((j:Int)+1) (k:Nat)).getD t 0) (dF (wiL l (inV n l bs (csl C) ((j:Int)+1) (k:Nat))) ((bdV n l bs (csl C) ((j:Int)+1) (k:Nat)).getD t 0)))∧Below W2.heap.size W2 w'):=fun W2 hb k hk=>by
  have h:=whole_any n a l cap ba bs bc ca C cc ((j:Int)+1) (k:Nat) 0 W2 hl hbl (hr.on hb) (hi.on hb) (hR.on hb) hwt
  have e2:whE n l bs (csl C) ((j:Int)+1) (k:Nat) 0=0:=by
   unfold whE
   rw[inE_ok hNR hj hk,if_neg (fun h=>h rfl),if_neg (by decide)]
  refine h.mono ?_
  rintro e w' ⟨h1,_,h3⟩
  obtain⟨v,c,g1,g2,g3⟩:=h1 e2
  exact⟨v,c,g1,g2,g3,h3⟩
 have hk8:(szL (lvl (csl C) j)).length≤1024:=by
  obtain⟨b1,_⟩:=hNR.lv hj
  have h1:=szL_length (lvl (csl C) j)
  have h2:=(chk_zero hNR.1).2.1
  omega
 have HB0:=hid hb0
 have HG0:=hid hg0
 have HG1:=hid hg1
 obtain⟨⟨a0,a1⟩,_⟩:=two_cells hg0
 obtain⟨⟨a2,a3⟩,_⟩:=two_cells hg1
 obtain⟨mn,HMM⟩:=named (szL (lvl (csl C) j)).length
 rw[HMM.out] at HMN HWH hk8
 rw[HMM.out]
 clear hr hi hR hb0 hg0 hg1 hNR hwt e1 hj
 generalize hp:w.heap.size=p at*
 go_enter Tryz.func30,Tryz.ntmps30
 go_wp2_with fail
 generalize hWW:(w.alloc (.cells #[.int .i64 n, .slice a l.length cap] 24)).alloc (.cells #[.slice ba bs.length bc, .slice ca C.length cc] 28)=W at*
 clear hWW
 refine HMN.out.mono ?_
 rintro e w1 ⟨rfl,hb1⟩
 have hz1:=hb1.size
 have HB1:Hid (Below p w w1):=HB0.out.trans (hb1.mono (by omega))
 have HK0:=hid ((hb1.block p (by omega)).trans HG0.out)
 have HK1:=hid ((hb1.block (p+1) (by omega)).trans HG1.out)
 clear hb1 HMN a0 a1 a2 a3 HG0 HG1 HB0
 go_wp2_with fail
 go_loopw [10,24] (fun s i wr=> ∃ (k:Nat) (v:Option Addr) (c:Nat) (M:List Mt),k≤mn∧i= .int .i64 k∧s= .slice v k c∧Hid (Lvd wr (p+2) n l bs (csl C) j v c M k)∧Hid (wr.heap[p]? =some (.cells #[.int .i64 n, .slice a l.length cap] 24))∧Hid (wr.heap[p+1]? =some (.cells #[.slice ba bs.length bc, .slice ca C.length cc] 28))∧Hid (Below p w wr)) (fun _ i _=>mn - (intOf i).toNat)
 case atStart=>exact⟨0,none,0,[],Nat.zero_le _,rfl,rfl,⟨rfl,World.ownsRow_nil _ _ _ _,fun j hj=>absurd hj (by simp),fun i hi=>absurd hi (by omega),fun i hi=>absurd hi (by omega)⟩,HK0,HK1,HB1⟩
 case round=>
  clear HK0 HK1 HB1
  obtain⟨k,v,c,M,hk,rfl,rfl,HL,HP0,HP1,HBR⟩:=hrel
  have hwz:p+2≤wr.heap.size:=by have:=lt_of_block HP1.out;omega
  obtain⟨⟨a0,a1⟩,_⟩:=two_cells HP0.out
  obtain⟨⟨a2,a3⟩,_⟩:=two_cells HP1.out
  by_cases hlk:k<mn
  ·have hlk':(k:Int)<mn:=by omega
   have HW:=hid (HWH.out wr HBR.out k hlk)
   obtain⟨X,HX⟩:=named (mxL (wiL l (inV n l bs (csl C) ((j:Int)+1) (k:Nat))) (bdV n l bs (csl C) ((j:Int)+1) (k:Nat)))
   rw[HX.out] at HW
   go_wp2_with fail
   refine HW.out.mono ?_
   rintro e w5 ⟨v5,c5,rfl,hown5,hisd,hb5⟩
   have hz5:=hb5.size
   have HL5:Hid (Lvd w5 (p+2) n l bs (csl C) j v c M k):=⟨HL.out.len,own_on HL.out.row hb5,HL.out.mem.on hb5,HL.out.rgt,HL.out.isd⟩
   have HD5:=hid (own_base hown5 (show p+2≤wr.heap.size from hwz))
   have HIS:=hid hisd
   have HB5:Hid (Below p w w5):=HBR.out.trans (hb5.mono (by omega))
   have HQ0:=hid ((hb5.block p (by omega)).trans HP0.out)
   have HQ1:=hid ((hb5.block (p+1) (by omega)).trans HP1.out)
   clear hown5 hisd hb5 HW HL HP0 HP1 HBR a0 a1 a2 a3
   obtain⟨hA1,hA2,hbA,hzA⟩:=top2 w5 (.cells #[.int .i64 ((j:Int)+1), .int .i64 (k:Nat), .int .i64 0, .slice v5 X.length c5] 40) (.cells #[.int .i64 ((j:Int)+1), .int .i64 (k:Nat), .int .i64 0, .slice v5 X.length c5] 40)
   have HA2:=hid hA2
   have HBA:=hid hbA
   have HNW:Hid (∀ (i:Nat) (z:Value),[Value.int .i64 ((j:Int)+1), .int .i64 (k:Nat), .int .i64 0, .slice v5 X.length c5][i]? =some z→((w5.alloc (.cells #[.int .i64 ((j:Int)+1), .int .i64 (k:Nat), .int .i64 0, .slice v5 X.length c5] 40)).alloc (.cells #[.int .i64 ((j:Int)+1), .int .i64 (k:Nat), .int .i64 0, .slice v5 X.length c5] 40)).cell? ((⟨w5.heap.size+1,0,none⟩:Addr).add i)=some z):=World.news_of_block (cs:= #[.int .i64 ((j:Int)+1), .int .i64 (k:Nat), .int .i64 0, .slice v5 X.length c5]) (t:=40) (fr:=(0,0)) HA2.out
   have HRO:Hid (((w5.alloc (.cells #[.int .i64 ((j:Int)+1), .int .i64 (k:Nat), .int .i64 0, .slice v5 X.length c5] 40)).alloc (.cells #[.int .i64 ((j:Int)+1), .int .i64 (k:Nat), .int .i64 0, .slice v5 X.length c5] 40)).ownsRow (p+2) 40 4 (.slice v k c) k (cellsM M)):=by
    have h:=own_on HL5.out.row hbA
    rw[HL5.out.len] at h
    exact h
   have HMO:Hid (MtO ((w5.alloc (.cells #[.int .i64 ((j:Int)+1), .int .i64 (k:Nat), .int .i64 0, .slice v5 X.length c5] 40)).alloc (.cells #[.int .i64 ((j:Int)+1), .int .i64 (k:Nat), .int .i64 0, .slice v5 X.length c5] 40)) (p+2) (M++[⟨(j:Int)+1,k,0,v5,c5,X⟩])):=(HL5.out.mem.on hbA).snoc (own_on HD5.out hbA)
   have HZA:Hid (((w5.alloc (.cells #[.int .i64 ((j:Int)+1), .int .i64 (k:Nat), .int .i64 0, .slice v5 X.length c5] 40)).alloc (.cells #[.int .i64 ((j:Int)+1), .int .i64 (k:Nat), .int .i64 0, .slice v5 X.length c5] 40)).heap.size=w5.heap.size+2):=hzA
   have HBX:Hid (Below p w ((w5.alloc (.cells #[.int .i64 ((j:Int)+1), .int .i64 (k:Nat), .int .i64 0, .slice v5 X.length c5] 40)).alloc (.cells #[.int .i64 ((j:Int)+1), .int .i64 (k:Nat), .int .i64 0, .slice v5 X.length c5] 40))):=HB5.out.trans (hbA.mono (by omega))
   have HOB:Hid (∀k',(Value.slice v k c).ownBlock=some k'→p+2≤k'):=fun k' hk'=>(own_lt HRO.out hk').1
   have HCM:Hid (cellsM M++[.int .i64 ((j:Int)+1), .int .i64 (k:Nat), .int .i64 0, .slice v5 X.length c5]=cellsM (M++[⟨(j:Int)+1,k,0,v5,c5,X⟩])):=by show _=_;rw[cellsM_append];rfl
   have HE0:Hid (∀w7,((w5.alloc (.cells #[.int .i64 ((j:Int)+1), .int .i64 (k:Nat), .int .i64 0, .slice v5 X.length c5] 40)).alloc (.cells #[.int .i64 ((j:Int)+1), .int .i64 (k:Nat), .int .i64 0, .slice v5 X.length c5] 40)).grownBy w7 (Value.slice v k c).ownBlock→w7.heap[p]? =some (.cells #[.int .i64 n, .slice a l.length cap] 24)∧w7.heap[p+1]? =some (.cells #[.slice ba bs.length bc, .slice ca C.length cc] 28)∧Below p w w7):=fun w7 hgr=>by
    have hz:p+2≤((w5.alloc (.cells #[.int .i64 ((j:Int)+1), .int .i64 (k:Nat), .int .i64 0, .slice v5 X.length c5] 40)).alloc (.cells #[.int .i64 ((j:Int)+1), .int .i64 (k:Nat), .int .i64 0, .slice v5 X.length c5] 40)).heap.size:=by rw[HZA.out];omega
    exact⟨(hgr.block p (by omega) (fun e=>by have:=HOB.out p e.symm;omega)).trans ((HBA.out.block p (by omega)).trans HQ0.out),(hgr.block (p+1) (by omega) (fun e=>by have:=HOB.out (p+1) e.symm;omega)).trans ((HBA.out.block (p+1) (by omega)).trans HQ1.out),HBX.out.grown hgr (by omega) (fun k' hk'=>by have:=HOB.out k' hk';omega)⟩
   have HBZ:Hid (p+2≤((w5.alloc (.cells #[.int .i64 ((j:Int)+1), .int .i64 (k:Nat), .int .i64 0, .slice v5 X.length c5] 40)).alloc (.cells #[.int .i64 ((j:Int)+1), .int .i64 (k:Nat), .int .i64 0, .slice v5 X.length c5] 40)).heap.size):=by show _≤_;rw[HZA.out];omega
   clear hA1 hA2 hbA hzA
   go_wp2_with (at_builtin;go_must (refine wpList_append_lies _ rfl (.tmp 37) (.tmp 39) 30 rfl (p+2) 40 iM _ 4 48 Tryz.underlying30 hiM hzM hsM hbyM rfl (by decide) (.slice v k c) k (cellsM M) rfl HRO.out ⟨w5.heap.size+1,0,none⟩ 1 1 [.int .i64 ((j:Int)+1), .int .i64 (k:Nat), .int .i64 0, .slice v5 X.length c5] rfl rfl HNW.out (by intro u hu;simp at hu;rcases hu with rfl | rfl | rfl | rfl <;> rfl) (by decide) (by unfold maxLen;omega) (by omega) HBZ.out (w5.heap.size+2) HZA.out ?_;intro gg cap' w7 hown7 hgrow7 hat7 hlt7;rw[HCM.out] at hown7;have HW7:=hid hown7;have HM7:=hid (HMO.out.grown HRO.out hgrow7);have HE7:=hid (HE0.out w7 hgrow7);clear hown7 hgrow7 hat7 hlt7))
   have HL7:Hid (Lvd w7 (p+2) n l bs (csl C) j (some ⟨gg,0,none⟩) cap' (M++[⟨(j:Int)+1,k,0,v5,c5,X⟩]) (k+1)):=by
    have hln:(M++[(⟨(j:Int)+1,k,0,v5,c5,X⟩:Mt)]).length=k+1:=by rw[List.length_append,HL5.out.len];rfl
    refine⟨hln,by rw[hln];exact HW7.out,HM7.out,fun i hi=> ?_,fun i hi=> ?_⟩
    ·by_cases e:i=k
     ·subst e
      have:=mt_snoc_eq M ⟨(j:Int)+1,i,0,v5,c5,X⟩
      rw[HL5.out.len] at this
      rw[this]
      exact⟨rfl,rfl,rfl,HX.out.symm⟩
     ·rw[mt_snoc_lt (by rw[HL5.out.len];omega)]
      exact HL5.out.rgt i (by omega)
    ·by_cases e:i=k
     ·subst e;exact HIS.out
     ·exact HL5.out.isd i (by omega)
   exact⟨⟨k+1,some ⟨gg,0,none⟩,cap',M++[⟨(j:Int)+1,k,0,v5,c5,X⟩],hlk,by simp,by simp,HL7,HE7.out.1,HE7.out.2.1,HE7.out.2.2⟩,by simp[intOf];omega⟩
  ·have hlk': ¬(k:Int)<mn:=by omega
   obtain rfl:k=mn:=by omega
   have HL9:Hid (Lvd wr p n l bs (csl C) j v c M k):=⟨HL.out.len,own_base HL.out.row (by omega),HL.out.mem.base (by omega),HL.out.rgt,HL.out.isd⟩
   have HLN:=hid HL.out.len
   clear HL
   go_wp2_with fail
   go_ret2
   exact⟨v,c,M,by rw[HLN.out];rfl,HL9.out,HBR.out⟩
def kidM(M:List Mt)(K:List Nat):List Mt:=K.map (fun k=>mt M k)
theorem kidM_len(M:List Mt)(K:List Nat):(kidM M K).length=K.length:=by simp[kidM]
theorem kidM_at{M:List Mt}{K:List Nat}{i:Nat}(h:i<K.length):mt (kidM M K) i=mt M (K.getD i 0):=by
 unfold kidM mt
 rw[List.getD_eq_getElem?_getD,List.getElem?_map,List.getElem?_eq_getElem h,List.getD_eq_getElem?_getD (l:=K),List.getElem?_eq_getElem h]
 rfl
theorem ch_lt{X Y:List Int}(ht:tdy X 0=true){q:Int}{i:Nat}(h:i<(chL X Y q).length):(chL X Y q).getD i 0<(szL X).length:=by
 have h1:=getS_mem h
 have h2:(chL X Y q).getD i 0<(lsL X 0 []).length∧Y.getD ((lsL X 0 []).getD ((chL X Y q).getD i 0) 0) 0=q:=by
  have: ∀k,k∈chL X Y q→k<(lsL X 0 []).length∧Y.getD ((lsL X 0 []).getD k 0) 0=q:=fun k hk=>by simpa[chL,chT] using hk
  exact this _ h1
 rw[←ls_len ht]
 exact h2.1
structure Rgt(n:Nat)(l:List A)(bs:List Int)(cs:List (List Int))(j:Nat)(M:List Mt):Prop where
 len:M.length=(szL (lvl cs j)).length
 rgt: ∀i,i<M.length→(mt M i).lv=(j:Int)+1∧(mt M i).ce=i∧(mt M i).ep=0∧(mt M i).D=mxL (wiL l (inV n l bs cs ((j:Int)+1) i)) (bdV n l bs cs ((j:Int)+1) i)
 isd: ∀i,i<M.length→∀t,t<(bdV n l bs cs ((j:Int)+1) i).length→N5.IsD ((wiL l (inV n l bs cs ((j:Int)+1) i)).map toN) (fun _=>true) ((bdV n l bs cs ((j:Int)+1) i).getD t 0) (dF (wiL l (inV n l bs cs ((j:Int)+1) i)) ((bdV n l bs cs ((j:Int)+1) i).getD t 0))
theorem Lvd.right{w:World}{B n:Nat}{l:List A}{bs:List Int}{cs:List (List Int)}{j:Nat}{v:Option Addr}{c:Nat}{M:List Mt}(h:Lvd w B n l bs cs j v c M (szL (lvl cs j)).length):Rgt n l bs cs j M:=⟨h.len,fun i hi=>h.rgt i (by rw[←h.len];exact hi),fun i hi=>h.isd i (by rw[←h.len];exact hi)⟩
theorem Rgt.val{n:Nat}{l:List A}{bs:List Int}{cs:List (List Int)}{j:Nat}{M:List Mt}(h:Rgt n l bs cs j M){i:Nat}(hi:i<M.length): ∀k,k<(mt M i).D.length→0≤(mt M i).D.getD k 0∧(mt M i).D.getD k 0≤N5.Inf:=fun k hk=>by
 rw[(h.rgt i hi).2.2.2] at hk ⊢
 obtain⟨h1,h2,h3⟩:=mxL_at hk
 have hd:=h.isd i hi _ h1
 rw[h3]
 exact⟨hd.lo _,hd.hi _⟩
theorem up_right{n:Nat}{l:List A}{bs:List Int}{cs:List (List Int)}{j q:Nat}{M M2:List Mt}(hNR:NR n l bs cs)(hj:j+1<bs.length)(hq:q<(szL (lvl cs (j+1))).length)(hwt: ∀x∈l,0≤x.w∧x.w<4294967296)(hM:Rgt n l bs cs (j+1) M)(h2:Rgt n l bs cs j M2):
  upE n l bs cs (((j+1:Nat):Int)+1) (q:Nat) 0 (btV n l bs cs (((j+1:Nat):Int)+1) (q:Nat)).length (kidM M2 (chL (lvl cs j) (lvl cs (j+1)) (q:Nat)))=0∧((∀i,i<(bdV n l bs cs (((j+1:Nat):Int)+1) (q:Nat)).length→N5.IsD ((upL n l bs cs (((j+1:Nat):Int)+1) (q:Nat) (wtL l (ints (btV n l bs cs (((j+1:Nat):Int)+1) (q:Nat)))) (kidM M2 (chL (lvl cs j) (lvl cs (j+1)) (q:Nat)))).map toN) (fun _=>true) ((bdV n l bs cs (((j+1:Nat):Int)+1) (q:Nat)).getD i 0) (dF (upL n l bs cs (((j+1:Nat):Int)+1) (q:Nat) (wtL l (ints (btV n l bs cs (((j+1:Nat):Int)+1) (q:Nat)))) (kidM M2 (chL (lvl cs j) (lvl cs (j+1)) (q:Nat)))) ((bdV n l bs cs (((j+1:Nat):Int)+1) (q:Nat)).getD i 0)))→mxL (upL n l bs cs (((j+1:Nat):Int)+1) (q:Nat) (wtL l (ints (btV n l bs cs (((j+1:Nat):Int)+1) (q:Nat)))) (kidM M2 (chL (lvl cs j) (lvl cs (j+1)) (q:Nat)))) (bdV n l bs cs (((j+1:Nat):Int)+1) (q:Nat))=(mt M q).D):=by
 obtain⟨b1,b2,_⟩:=hNR.lv (k:=j) (by omega)
 have hn:=hNR.nst (k:=j) hj
 have e0:(((j+1:Nat):Int)+1)=(j:Int)+2:=by omega
 rw[e0]
 have hin:inE n l bs cs ((j:Int)+2) (q:Nat)=0:=by
  have:=inE_ok hNR hj hq
  rw[e0] at this
  exact this
 have hbt:btE n l bs cs ((j:Int)+2) (q:Nat)=0:=by
  unfold btE
  rw[hin,if_neg (fun h=>h rfl),if_neg (by omega)]
 have hki: ∀i,i<(chL (lvl cs j) (lvl cs (j+1)) (q:Nat)).length→(chL (lvl cs j) (lvl cs (j+1)) (q:Nat)).getD i 0<M2.length:=fun i hi=>by
  rw[h2.len]
  exact ch_lt b2 hi
 have t2:((j:Int)+2).toNat - 2=j:=by omega
 have t1:((j:Int)+2).toNat - 1=j+1:=by omega
 have s1:(j:Int)+2 - 1=(j:Int)+1:=by omega
 constructor
 ·unfold upE
  rw[hbt,if_neg (fun h=>h rfl),if_neg (by unfold jbE;rw[if_neg (by decide),if_neg (by simp)];simp),t2,t1,s1,if_neg (by rw[kidM_len];simp),if_pos]
  rw[List.all_eq_true]
  intro i hi
  rw[List.mem_range,kidM_len] at hi
  obtain⟨r1,r2,r3,r4⟩:=h2.rgt _ (hki i hi)
  unfold kidB hsB mbB
  rw[kidM_at hi,r1,r2,r3,r4,mxL_len]
  simp
  decide
 ·intro hF
  have hdef:bdV n l bs cs ((j:Int)+2) (q:Nat)=bdL n (lvl cs (j+1)) l (q:Nat):=by
   unfold bdV
   rw[if_pos hin,t1,Int.toNat_natCast]
  have hidef:inV n l bs cs ((j:Int)+2) (q:Nat)=arL l (hld (lvl cs (j+1)) (q:Nat)):=by
   unfold inV
   rw[if_pos hin,t1]
  have hbdef:btV n l bs cs ((j:Int)+2) (q:Nat)=arL l (btP (lvl cs (j+1)) (lvl cs j) (q:Nat)):=by
   unfold btV
   rw[if_pos hbt,t1,t2]
  obtain⟨r1,r2,r3,r4⟩:=hM.rgt q (by rw[hM.len];exact hq)
  have hU:upL n l bs cs ((j:Int)+2) (q:Nat) (wtL l (ints (btV n l bs cs ((j:Int)+2) (q:Nat)))) (kidM M2 (chL (lvl cs j) (lvl cs (j+1)) (q:Nat)))=adA (upR (fun i=>bdV n l bs cs ((j:Int)+1) ((chL (lvl cs j) (lvl cs (j+1)) (q:Nat)).getD i 0:Nat)) (fun i=>(mt (kidM M2 (chL (lvl cs j) (lvl cs (j+1)) (q:Nat))) i).D) (chL (lvl cs j) (lvl cs (j+1)) (q:Nat)).length) (wiL l (arL l (btP (lvl cs (j+1)) (lvl cs j) (q:Nat)))):=by
   unfold upL
   rw[t2,t1,s1,hbdef]
   rfl
  rw[hU] at hF ⊢
  rw[e0,hdef] at r4
  rw[hidef] at r4
  rw[hdef] at hF ⊢
  rw[r4]
  have hkin: ∀i,i<(chL (lvl cs j) (lvl cs (j+1)) (q:Nat)).length→inE n l bs cs ((j:Int)+1) ((chL (lvl cs j) (lvl cs (j+1)) (q:Nat)).getD i 0:Nat)=0:=fun i hi=>kid_in hin (getS_mem hi)
  have t3:((j:Int)+1).toNat - 1=j:=by omega
  have hkb: ∀i,i<(chL (lvl cs j) (lvl cs (j+1)) (q:Nat)).length→bdV n l bs cs ((j:Int)+1) ((chL (lvl cs j) (lvl cs (j+1)) (q:Nat)).getD i 0:Nat)=bdL n (lvl cs j) l ((chL (lvl cs j) (lvl cs (j+1)) (q:Nat)).getD i 0:Nat):=fun i hi=>by
   unfold bdV
   rw[if_pos (hkin i hi),t3,Int.toNat_natCast]
  have hkv: ∀i,i<(chL (lvl cs j) (lvl cs (j+1)) (q:Nat)).length→inV n l bs cs ((j:Int)+1) ((chL (lvl cs j) (lvl cs (j+1)) (q:Nat)).getD i 0:Nat)=arL l (hld (lvl cs j) ((chL (lvl cs j) (lvl cs (j+1)) (q:Nat)).getD i 0:Nat)):=fun i hi=>by
   unfold inV
   rw[if_pos (hkin i hi),t3]
  have hen: ∀x∈l,(0≤x.f∧x.f<n)∧(0≤x.t∧x.t<n):=fun x hx=>by
   have hrg:=(show WG n l from ⟨hNR.1,hwt⟩).rg
   exact hrg.ends (toN x) (List.mem_map.2 ⟨x,hx,rfl⟩)
  refine rise_eq hen hwt (by omega) b2 hn rfl hkb (fun i hi=> ?_) (fun i hi b hb=> ?_) (fun s hs=> ?_) (fun s hs=> ?_)
  ·rw[kidM_at hi]
   have:=(h2.rgt _ (hki i hi)).2.2.2
   rw[hkv i hi] at this
   exact this
  ·obtain⟨t,ht,e⟩:=mem_getD.1 hb
   have:=h2.isd _ (hki i hi) t ht
   rw[hkv i hi,e] at this
   exact this
  ·obtain⟨t,ht,e⟩:=mem_getD.1 hs
   have:=hF t ht
   rw[e] at this
   exact this
  ·obtain⟨t,ht,e⟩:=mem_getD.1 hs
   have:=hM.isd q (by rw[hM.len];exact hq) t (by rw[e0,hdef];exact ht)
   rw[e0,hdef,hidef,e] at this
   exact this
end Go.Proofs.YtaafkpojjdjphaaGreat
