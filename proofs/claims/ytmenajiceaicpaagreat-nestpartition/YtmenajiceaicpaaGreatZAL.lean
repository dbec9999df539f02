import Derived.Test.YtmenajiceaicpaaGreatZAK
import Derived.Test.YtmenajiceaicpaaGreatZAJ
open Go.Lib (hid)
set_option maxRecDepth 100000
namespace Go.Proofs.YtmenajiceaicpaaGreat
open Go.RowKit
theorem one_I(xs:List Int): ∀u∈cellsI xs,u.oneCell'=true:=by
 intro u hu
 unfold cellsI at hu
 obtain⟨x,_,rfl⟩:=List.mem_map.1 hu
 rfl
theorem ints_newsC{w:World}{ad:Addr}{xs:List Int}(h:Ints w (some ad) xs)(o:Obj): ∀j u,(cellsI xs)[j]? =some u→(w.alloc o).cell? (ad.add j)=some u:=by
 intro j u hu
 rcases h with rfl | ⟨b,o',hab,hl,hc⟩
 ·simp[cellsI] at hu
 ·cases hab
  have hj:j<xs.length:=by
   rcases Nat.lt_or_ge j xs.length with h' | h'
   ·exact h'
   ·rw[List.getElem?_eq_none (by rw[cellsI_len];exact h')] at hu;cases hu
  rw[cellsI_getD xs j hj] at hu
  rw[Go.WideShapes.add_plain]
  exact((((Below.refl w.heap.size w).alloc (Nat.le_refl _) o).cell (p:=⟨b,o'+j,none⟩) hl).trans (hc j hj)).trans hu
set_option maxHeartbeats 800000 in
theorem clone_any(ad:Addr)(xs:List Int)(bc:Nat)(w:World)(hl:xs.length≤1024)(hi:Ints w (some ad) xs):
  Calls Tryz.prog 57 #[.slice (some ad) xs.length bc] w fun e w'=> ∃g c,e= .returned (.slice (some ⟨g,0,none⟩) xs.length c)∧w'.ownsRow w.heap.size 3 1 (.slice (some ⟨g,0,none⟩) xs.length c) xs.length (cellsI xs)∧Below w.heap.size w w':=by
 obtain⟨i3,hi3,hz3,hs3,hby3⟩:=info_parts info3
 have HNW:=hid (ints_newsC hi (.cells #[] 3))
 have HOW:Hid ((w.alloc (.cells #[] 3)).ownsRow w.heap.size 3 1 (.slice (some ⟨w.heap.size,0,none⟩) 0 0) 0 []):=World.ownsRow_lit (base:=w.heap.size) (e:=3) (size:=1) w #[] 0 (Nat.le_refl _) (by decide) rfl
 have HBB:Hid (Below w.heap.size w (w.alloc (.cells #[] 3))):=(Below.refl _ _).alloc (Nat.le_refl _) _
 have HCL:Hid ((cellsI xs).length=xs.length*1):=by show _=_;rw[cellsI_len];omega
 have q25: ∀ (w:World) (a:Option Addr) (n c n' c':Nat),(binOp .eql 25 (.slice a n c) (.slice none n' c')).run Tryz.prog w= .ok (.bool a.isNone) w:=fun w a n c n' c'=>Lib.run_eql_slice_nil w _ _ a n c n' c' Tryz.underlying25
 go_enter Tryz.func57,Tryz.ntmps57
 go_wp2_with (at_builtin;refine wpList_append_own _ rfl (.tmp 5) (.tmp 6) 25 rfl w.heap.size 3 i3 (.int .i64 0) 1 8 Tryz.underlying25 hi3 hz3 hs3 hby3 rfl (by decide) (.slice (some ⟨w.heap.size,0,none⟩) 0 0) 0 [] rfl HOW.out ad xs.length bc (cellsI xs) rfl HCL.out HNW.out (one_I _) (by unfold maxLen;omega) (by omega) (by simp) ?_;intro v6 w6 hown6 hgrow6 hnil6;obtain⟨g6,c6,hv6,_,_,_,_⟩:=own_shape hown6 (fun e=>by have:=hnil6.1 e;simp at this);rw[hv6] at hown6 ⊢;clear hnil6 hv6;simp only[Nat.zero_add,List.nil_append] at hown6 ⊢;have HO6:=hid hown6;have HB6:Hid (Below w.heap.size w w6):=HBB.out.grown hgrow6 (by simp) (by intro k hk;cases hk;exact Nat.le_refl _);clear hown6 hgrow6)
 go_ret
 exact⟨g6,c6,rfl,HO6.out,HB6.out⟩
theorem right_ints{xs:List Int}(h:tdy xs 0=true):xs=ints (xs.map Int.toNat):=by
 apply List.ext_getElem
 ·rw[ints_len,List.length_map]
 ·intro i h1 h2
  have h3:=(right_next h i h1).1
  rw[show xs.getD i 0=xs[i] by simp[List.getD,List.getElem?_eq_getElem h1]] at h3
  simp only[ints,List.getElem_map]
  omega
theorem cuS_le{l:List A}{L S:List Nat}{bd k:Nat}(h:S.getD k 0≤bd):cuS l L S bd (k+1)=cuS l L S bd k:=if_pos h
theorem cuS_gt{l:List A}{L S:List Nat}{bd k:Nat}(h: ¬S.getD k 0≤bd):cuS l L S bd (k+1)=(asg (cuS l L S bd k).1 (orL l L k) (cuS l L S bd k).2 bd (orL l L k).length,(cuS l L S bd k).2+((orL l L k).length - 1) / bd+1):=if_neg h
theorem cu_next{l:List A}{L S:List Nat}{bd c:Nat}(hb: ∀k,bd<S.getD k 0→(orL l L k).length+1≤c): ∀k,(cuS l L S bd k).2≤S.length+k*c
 | 0=>Nat.le_add_right _ _
 | k+1=>by
   have ih:=cu_next hb k
   have e:(k+1)*c=k*c+c:=Nat.succ_mul k c
   rw[e]
   generalize k*c=kc at ih ⊢
   by_cases h:S.getD k 0≤bd
   ·rw[cuS_le h];omega
   ·rw[cuS_gt h]
    have h1:=hb k (by omega)
    have h2:((orL l L k).length - 1) / bd≤(orL l L k).length - 1:=Nat.div_le_self _ _
    show(cuS l L S bd k).2+((orL l L k).length - 1) / bd+1≤_
    generalize ((orL l L k).length - 1) / bd=q at h2 ⊢
    omega
theorem asg_le{P M:List Nat}{nx bd m:Nat}(hP: ∀u,u∈P→u≤m): ∀k,(∀j,j<k→nx+j / bd≤m)→∀u,u∈asg P M nx bd k→u≤m
 | 0,_,u,hu=>hP u hu
 | k+1,h,u,hu=>by
   rcases List.mem_or_eq_of_mem_set hu with h1 | h1
   ·exact asg_le hP k (fun j hj=>h j (by omega)) u h1
   ·rw[h1];exact h k (by omega)
theorem cuS_mem{l:List A}{L S:List Nat}{bd m c:Nat}(hb: ∀k,bd<S.getD k 0→(orL l L k).length+1≤c)(hL: ∀u,u∈L→u≤m): ∀k,S.length+k*c≤m→∀u,u∈(cuS l L S bd k).1→u≤m
 | 0,_,u,hu=>hL u hu
 | k+1,hm,u,hu=>by
   have e:(k+1)*c=k*c+c:=Nat.succ_mul k c
   rw[e] at hm
   have ih:=cuS_mem (bd:=bd) hb hL k (by omega)
   by_cases h:S.getD k 0≤bd
   ·rw[cuS_le h] at hu;exact ih u hu
   ·rw[cuS_gt h] at hu
    have h1:=hb k (by omega)
    have h2:=cu_next hb k
    refine asg_le ih _ (fun j hj=> ?_) u hu
    have h3:j / bd≤j:=Nat.div_le_self _ _
    generalize j / bd=q at h3 ⊢
    generalize k*c=kc at hm h2
    omega
theorem asg_last{P M:List Nat}{nx bd k:Nat}(hk:M.getD k 0<P.length):(asg P M nx bd (k+1)).getD (M.getD k 0) 0=nx+k / bd:=by
 show((asg P M nx bd k).set (M.getD k 0) (nx+k / bd)).getD (M.getD k 0) 0=_
 rw[getD_setN (by rw[asg_len];exact hk),if_pos rfl]
theorem szL_length(xs:List Int):(szL xs).length≤xs.length:=by
 have: ∀ (xs:List Int) (S:List Nat),(xs.foldl (fun S x=>szS S x.toNat) S).length≤S.length+xs.length:=by
  intro xs
  induction xs with
  | nil=>intro S;exact Nat.le_refl _
  | cons x r ih=>
    intro S
    have h:=ih (szS S x.toNat)
    rw[szS_len] at h
    simp only[List.foldl_cons,List.length_cons]
    split at h <;> omega
 have h:=this xs []
 simpa[szL] using h
def cuB:Nat:=2000000
theorem cuB_le:cuB=2000000:=rfl
set_option maxHeartbeats 1600000 in
theorem cutUp_ok(n:Nat)(a:Option Addr)(l:List A)(cap:Nat)(ad:Addr)(L:List Nat)(bc B:Nat)(w:World)(hC:chkE n l=0)(hL:L.length=n)(hT:tdy (ints L) 0=true)(hB1:1≤B)(hB2:B≤1024)(hr:Arcs w a l)(hi:Ints w (some ad) (ints L)):
  Calls Tryz.prog 68 #[.agg #[.int .i64 n, .slice a l.length cap], .slice (some ad) L.length bc, .int .i64 B] w fun e w'=> ∃v c,e= .returned (.tuple #[.slice v (cuL l L B).length c, .int .i64 0])∧w'.ownsRow w.heap.size 3 1 (.slice v (cuL l L B).length c) (cuL l L B).length (cellsI (ints (cuL l L B)))∧Below w.heap.size w w':=by
 subst hL
 obtain⟨h1n,hn,hl,hoa⟩:=chk_zero hC
 have hn':L.length≤1024:=by omega
 have h1n':1≤L.length:=by omega
 have HC:=hid hC
 have HCK:Hid (ckE L.length l (ints L) B=0):=by
  show _=_
  unfold ckE siE szE
  rw[if_neg (by rw[hC,if_neg (by simp),if_neg (by rw[ints_len];simp[hT])];simp),if_neg (by omega)]
 have hb0:Below w.heap.size w (w.alloc (.cells #[.int .i64 L.length, .slice a l.length cap] 24)):=(Below.refl _ _).alloc (Nat.le_refl _) _
 have hg:=heap_top w (.cells #[.int .i64 L.length, .slice a l.length cap] 24)
 have HR:=hid (hr.on hb0)
 have HI:=hid (hi.on hb0)
 have HB0:=hid hb0
 obtain⟨S,HS⟩:=named (szL (ints L))
 have hS1:S.length≤1024:=by rw[←HS.out];exact Nat.le_trans (szL_length _) (by rw[ints_len];exact hn')
 have HSV:Hid (∀k,S.getD k 0=(vsL L k).length):=fun k=>by rw[←HS.out];exact sz_vs hT k
 have HSL:Hid (∀k,S.getD k 0≤1024):=fun k=>by rw[←HS.out];exact Nat.le_trans (szL_le _ k) (by rw[ints_len];exact hn')
 have HVN:Hid (∀k,B<S.getD k 0→vsL L k≠ []):=fun k hk e=>by rw[HSV.out,e] at hk;simp at hk
 have HOL:Hid (∀k,B<S.getD k 0→(orL l L k).length=S.getD k 0):=fun k hk=>by rw[HSV.out,orL_len hC rfl (HVN.out k hk)]
 have HOC:Hid (∀k,B<S.getD k 0→(orL l L k).length+1≤1025):=fun k hk=>by have h1:=HOL.out k hk;have h2:=HSL.out k;omega
 have HLM:Hid (∀u,u∈L→u≤cuB):=fun u hu=>by
  obtain⟨i,hi,rfl⟩:=List.getElem_of_mem hu
  have h:=(right_next hT i (by rw[ints_len];exact hi)).2
  rw[ints_getD hi,Int.toNat_natCast] at h
  have h2:=szL_length ((ints L).take i)
  rw[List.length_take,ints_len] at h2
  have h3:L.getD i 0=L[i]:=by simp[List.getD,List.getElem?_eq_getElem hi]
  rw[cuB_le]
  omega
 have HNX:Hid (∀k,k≤S.length→(cuS l L S B k).2≤cuB - 1024):=fun k hk=>by
  have h:=cu_next HOC.out k
  have h2:k*1025≤1024*1025:=Nat.mul_le_mul_right _ (by omega)
  rw[cuB_le]
  omega
 have HPM:Hid (∀k,k≤S.length→∀u,u∈(cuS l L S B k).1→u≤cuB):=fun k hk=>cuS_mem HOC.out HLM.out k (by
  have h2:k*1025≤1024*1025:=Nat.mul_le_mul_right _ (by omega)
  rw[cuB_le]
  omega)
 have HMEM:Hid (∀k,B<S.getD k 0→∀v,v∈orL l L k→v<L.length):=fun k hk v hv=>(orL_mem hC rfl (HVN.out k hk) hv).1
 have HSZ:=hid (scheck_any L.length a l cap (some ad) (ints L) bc B (w.alloc (.cells #[.int .i64 L.length, .slice a l.length cap] 24)) (by omega) (by rw[ints_len];omega) HR.out HI.out)
 rw[HCK.out,if_pos rfl,HS.out,ints_len] at HSZ
 have HCU:Hid (cuL l L B=tdL (cuS l L S B S.length).1):=by show _=_;unfold cuL;rw[HS.out]
 obtain⟨R,HRR⟩:=named (cuL l L B)
 rw[HRR.out]
 rw[HRR.out] at HCU
 obtain⟨⟨c0,c1⟩,_⟩:=two_cells hg
 have hwz:w.heap.size≤(w.alloc (.cells #[.int .i64 L.length, .slice a l.length cap] 24)).heap.size:=hb0.size
 clear hb0 hr hi hoa h1n hn hC hT
 generalize hp:w.heap.size=p at*
 go_enter Tryz.func68,Tryz.ntmps68
 go_wp2_with fail
 generalize hW:w.alloc (.cells #[.int .i64 L.length, .slice a l.length cap] 24)=W at*
 clear hW
 refine HSZ.out.mono ?_
 rintro e w1 ⟨v1,c1',S',rfl,hown1,rfl,hb1⟩
 have HB1:Hid (Below p w w1):=HB0.out.trans (hb1.mono hwz)
 have HS1:Hid (Ints w1 v1 (ints S')):=own_ints hown1 rfl
 have HR1:=hid (HR.out.on hb1)
 have HI1:=hid (HI.out.on hb1)
 have hg1:=(hb1.block p (by have:=lt_of_block hg;omega)).trans hg
 obtain⟨⟨d0,d1⟩,_⟩:=two_cells hg1
 have hz1:p+1≤w1.heap.size:=by have:=hb1.size;have:=lt_of_block hg;omega
 have HCL:=hid (clone_any ad (ints L) bc w1 (by rw[ints_len];exact hn') HI1.out)
 rw[ints_len] at HCL
 have HG1:=hid hg1
 clear hown1 hb1 HSZ hg c0 c1 hg1 HR HI HB0 hwz
 go_wp2_with fail
 refine HCL.out.mono ?_
 rintro e w2 ⟨g,gc,rfl,hown2,hb2⟩
 generalize hq:w1.heap.size=q at*
 have HO2:=hid hown2
 have HB2:=hid hb2
 clear hown2 hb2 HCL d0 d1
 go_wp2_with fail
 go_loopw [11,34] (fun x i wr=> ∃k:Nat,k≤S'.length∧i= .int .i64 k∧x= .int .i64 (((cuS l L S' B k).2:Nat):Int)∧Hid (wr.ownsRow q 3 1 (.slice (some ⟨g,0,none⟩) (cuS l L S' B k).1.length gc) (cuS l L S' B k).1.length (cellsI (ints (cuS l L S' B k).1)))∧Hid (Below q w1 wr)) (fun x i _=>S'.length - (intOf i).toNat)
 case atStart=>exact⟨0,Nat.zero_le _,rfl,rfl,HO2,HB2⟩
 case round=>
  obtain⟨k,hk,rfl,rfl,HOR,HBR⟩:=hrel
  have hqr:q≤wr.heap.size:=hq▸HBR.out.size
  have hgr:=(HBR.out.block p (by omega)).trans HG1.out
  by_cases hlk:k<S'.length
  ·have hlk':(k:Int)<S'.length:=by omega
   obtain⟨ix,ox,hix⟩:=HS1.out.get
   obtain⟨rfl,hbl,hat⟩:=hix (by rw[ints_len];omega)
   have y0:=(HBR.out.cell (p:=⟨ix,ox+k,none⟩) (hq▸hbl)).trans (hat k (by rw[ints_len];exact hlk))
   rw[ints_getD hlk] at y0
   clear hat hix
   have hs1:=HSL.out k
   obtain⟨s,Hs⟩:=named (S'.getD k 0)
   rw[Hs.out] at y0 hs1
   by_cases hsb:s≤B
   ·have hsb':(s:Int)≤B:=by omega
    have HE:Hid (cuS l L S' B (k+1)=cuS l L S' B k):=cuS_le (by rw[Hs.out];exact hsb)
    clear hgr
    go_wp2_with fail
    refine⟨⟨k+1,by omega,by simp,by rw[HE.out],by rw[HE.out];exact HOR,HBR⟩,by simp[intOf];omega⟩
   ·have hsb': ¬(s:Int)≤B:=by omega
    obtain⟨⟨d0,d1⟩,_⟩:=two_cells hgr
    have hsB:B<S'.getD k 0:=by rw[Hs.out];omega
    have HOD:=hid (ordered_any L.length a l cap (some ad) L bc k wr HC.out rfl (HVN.out k hsB) (HR1.out.on (hq▸HBR.out)) (HI1.out.on (hq▸HBR.out)))
    have HML:=hid (HOL.out k hsB)
    have HMM:=hid (HMEM.out k hsB)
    have HCG:=hid (cuS_gt (l:=l) (L:=L) (S:=S') (bd:=B) (k:=k) (by omega))
    have HPL:Hid ((cuS l L S' B k).1.length=L.length):=cuS_len l L S' B k
    have hnx:=HNX.out k hk
    obtain⟨P,HP⟩:=named (cuS l L S' B k).1
    obtain⟨nx,Hn⟩:=named (cuS l L S' B k).2
    obtain⟨M,HM⟩:=named (orL l L k)
    rw[HM.out] at HOD HML HMM HCG
    rw[HP.out] at HOR HPL HCG
    rw[Hn.out] at hnx HCG ⊢
    rw[Hs.out] at HML
    rw[HPL.out] at HOR
    rw[HML.out] at HOD
    have hnx':nx≤2000000:=by have:=cuB_le;omega
    clear hgr hsB hnx
    go_wp2_with fail
    refine HOD.out.mono ?_
    rintro e w3 ⟨v3,c3,rfl,hown3,hb3⟩
    obtain⟨gm,cm,hv3,hgm,_,_,_⟩:=own_shape hown3 (fun e=>by injection e with _ e2;omega)
    obtain⟨rfl,rfl⟩:v3=some ⟨gm,0,none⟩∧c3=cm:=by injection hv3 with e1 _ e2;exact⟨e1,e2⟩
    have HO3:=hid hown3
    have hgq:q≤g∧g<wr.heap.size:=by
     rcases HOR.out.2 with ⟨h,_⟩ | ⟨g',c',cur,h,h2,h3,_⟩
     ·cases h
     ·injection h with e1;injection e1 with e1;injection e1 with e1;exact⟨e1▸h2,e1▸lt_of_block h3⟩
    have HP3:Hid (w3.ownsRow q 3 1 (.slice (some ⟨g,0,none⟩) L.length gc) L.length (cellsI (ints P))):=by
     refine⟨HOR.out.1,?_⟩
     rcases HOR.out.2 with h' | ⟨g',c',cur,h1,h2,h3,h4⟩
     ·exact Or.inl h'
     ·exact Or.inr ⟨g',c',cur,h1,h2,(hb3.block g' (lt_of_block h3)).trans h3,h4⟩
    have HB3:Hid (Below q w1 w3):=HBR.out.trans (hb3.mono hqr)
    clear hown3 hb3 HOD hv3 d0 d1 HBR HOR y0
    go_wp2_with fail
    go_loopw [54] (fun i wi=> ∃t:Nat,t≤s∧i= .int .i64 t∧Hid (wi.ownsRow q 3 1 (.slice (some ⟨g,0,none⟩) (asg P M nx B t).length gc) (asg P M nx B t).length (cellsI (ints (asg P M nx B t))))∧Hid (wi.ownsRow wr.heap.size 3 1 (.slice (some ⟨gm,0,none⟩) M.length c3) M.length (cellsI (ints M)))∧Hid (Below q w1 wi)) (fun i _=>s - (intOf i).toNat)
    case atStart=>exact⟨0,Nat.zero_le _,rfl,by rw[asg_len,HPL.out];exact HP3,by rw[HML.out];exact HO3,HB3⟩
    case round=>
     obtain⟨t,ht,rfl,HPT,HMT,HBT⟩:=hrel
     by_cases hlt:t<s
     ·have hlt':(t:Int)<s:=by omega
      have y0:=own_cellI HMT.out (k:=t) (by rw[HML.out];exact hlt)
      have hv:=HMM.out (M.getD t 0) (by have h:t<M.length:=(by rw[HML.out];exact hlt);simp[List.getD,List.getElem?_eq_getElem h])
      obtain⟨x,HX⟩:=named (M.getD t 0)
      rw[HX.out] at y0 hv
      have y1:=own_cellI HPT.out (k:=x) (by rw[asg_len,HPL.out];exact hv)
      have y2:=World.ownsRow.frozenAt HPT.out x
      have hB0: ¬(B:Int)=0:=by omega
      have hdl:t / B≤t:=Nat.div_le_self _ _
      have HAE:Hid (asg P M nx B (t+1)=(asg P M nx B t).set x (nx+t / B)):=by show _=_;rw[←HX.out];rfl
      obtain⟨d,Hd⟩:=named (t / B)
      have hd:(t:Int) / (B:Int)=(d:Int):=by rw[←Hd.out];exact(Int.natCast_ediv t B).symm
      rw[Hd.out] at hdl HAE
      go_wp2_with fail
      have e:(nx:Int)+(d:Int)=((nx+d:Nat):Int):=by omega
      rw[e]
      refine⟨⟨t+1,by omega,by simp,?_,hid (own_set HMT.out _ _ hgq.2),hid (HBT.out.setCell hgq.1 _)⟩,by simp[intOf];omega⟩
      rw[HAE.out]
      exact own_setI HPT.out x (nx+d)
     ·obtain rfl:t=s:=by omega
      have hlt': ¬(t:Int)<t:=by omega
      have y0:=own_cellI HMT.out (k:=t - 1) (by rw[HML.out];omega)
      have hv:=HMM.out (M.getD (t - 1) 0) (by have h:t - 1<M.length:=(by rw[HML.out];omega);simp[List.getD,List.getElem?_eq_getElem h])
      have HAL:=hid (asg_last (P:=P) (M:=M) (nx:=nx) (bd:=B) (k:=t - 1) (by rw[HPL.out];exact hv))
      rw[show t - 1+1=t by omega] at HAL
      have HML':=hid HML.out
      rw[HML.out] at HCG
      have hdl:(t - 1) / B≤t - 1:=Nat.div_le_self _ _
      obtain⟨d,Hd⟩:=named ((t - 1) / B)
      rw[Hd.out] at hdl HCG HAL
      obtain⟨x,HX⟩:=named (M.getD (t - 1) 0)
      rw[HX.out] at y0 hv HAL
      have y1:=own_cellI HPT.out (k:=x) (by rw[asg_len,HPL.out];exact hv)
      rw[HAL.out] at y1
      have hdl':d+1≤t:=by omega
      clear hdl
      go_wp2_with fail
      refine⟨⟨k+1,by omega,by simp,by rw[HCG.out];simp,?_,HBT⟩,by simp[intOf];omega⟩
      rw[HCG.out]
      exact HPT
  ·obtain rfl:k=S'.length:=by omega
   have hlk': ¬(S'.length:Int)<S'.length:=by omega
   have HPL:Hid ((cuS l L S' B S'.length).1.length=L.length):=cuS_len l L S' B S'.length
   obtain⟨P,HP⟩:=named (cuS l L S' B S'.length).1
   have HTD:=hid (tidied_any (some ⟨g,0,none⟩) P gc wr (by rw[←HP.out,HPL.out];exact hn') (by rw[←HP.out];intro x hx;have h:=HPM.out _ (Nat.le_refl _) x hx;rw[cuB_le] at h;omega) (by rw[←HP.out];exact own_ints HOR.out rfl))
   rw[HP.out] at HPL HCU
   rw[HPL.out] at HTD
   clear hgr
   go_wp2_with fail
   refine HTD.out.mono ?_
   rintro e w3 ⟨g3,rfl,hown3,hb3⟩
   rw[tdL_len] at hown3
   rw[←HCU.out] at hown3
   have HRL:Hid (R.length=L.length):=by show _=_;rw[HCU.out,tdL_len,HPL.out]
   have HO3:=hid (own_base hown3 (show p≤wr.heap.size by omega))
   have HB3:Hid (Below p w w3):=HB1.out.trans ((HBR.out.mono (by omega)).trans (hb3.mono (by omega)))
   clear hown3 hb3 HTD
   go_wp2_with fail
   go_ret2
   refine⟨some ⟨g3,0,none⟩,L.length,by rw[HRL.out];rfl,?_,HB3.out⟩
   have h:=HO3.out
   rw[HPL.out] at h
   rw[HRL.out]
   exact h
theorem ckE_zero{N:Int}{l:List A}{xs:List Int}{bd:Int}(h:ckE N l xs bd=0):chkE N l=0∧(xs.length:Int)=N∧tdy xs 0=true∧1≤bd∧bd≤1024:=by
 unfold ckE at h
 by_cases h1:siE N l xs≠0
 ·rw[if_pos h1] at h;exact absurd h h1
 ·rw[if_neg h1] at h
  have h1':siE N l xs=0:=by omega
  unfold siE at h1'
  by_cases h2:chkE N l≠0
  ·rw[if_pos h2] at h1';exact absurd h1' h2
  ·rw[if_neg h2] at h1'
   unfold szE at h1'
   split at h1'
   ·cases h1'
   ·rename_i h3
    split at h
    ·cases h
    ·rename_i h4
     refine⟨by omega,?_,?_,by omega,by omega⟩
     ·rcases Decidable.em ((xs.length:Int)=N) with h5 | h5
      ·exact h5
      ·exact absurd (.inl h5) h3
     ·rcases h6:tdy xs 0 with _ | _
      ·exact absurd (.inr h6) h3
      ·rfl
set_option maxHeartbeats 1600000 in
theorem cutUp_any(N:Int)(a:Option Addr)(l:List A)(cap:Nat)(b:Option Addr)(xs:List Int)(bc:Nat)(bd:Int)(w:World)(hl:l.length≤9223372036854775807)(hx:xs.length≤9223372036854775807)(hr:Arcs w a l)(hi:Ints w b xs):
  Calls Tryz.prog 68 #[.agg #[.int .i64 N, .slice a l.length cap], .slice b xs.length bc, .int .i64 bd] w fun e w'=> ∃v c P,e= .returned (.tuple #[.slice v P.length c, .int .i64 (ckE N l xs bd)])∧w'.ownsRow w.heap.size 3 1 (.slice v P.length c) P.length (cellsI (ints P))∧P=(if ckE N l xs bd=0 then cuL l (xs.map Int.toNat) bd.toNat else [])∧Below w.heap.size w w':=by
 by_cases h0:ckE N l xs bd=0
 ·obtain⟨h1,h2,h3,h4,h5⟩:=ckE_zero h0
  obtain⟨L,HL⟩:=named (xs.map Int.toNat)
  have e1:xs=ints L:=by rw[←HL.out];exact right_ints h3
  have e2:L.length=xs.length:=by rw[←HL.out,List.length_map]
  obtain⟨B,rfl⟩: ∃B:Nat,bd=(B:Int):=⟨bd.toNat,by omega⟩
  rw[if_pos h0,h0,HL.out,Int.toNat_natCast]
  obtain rfl:N=((xs.length:Nat):Int):=h2.symm
  have h6:=(chk_zero h1).1
  obtain⟨ad,rfl⟩: ∃ad,b=some ad:=by
   rcases hi with rfl | ⟨g,o,hab,_⟩
   ·simp at h6
   ·exact⟨_,hab⟩
  rw[e1] at hi h3
  refine((e2▸cutUp_ok L.length a l cap ad L bc B w (e2▸h1) rfl h3 (by omega) (by omega) hr hi:)).mono ?_
  rintro e w' ⟨v,c,rfl,ho,hb⟩
  exact⟨v,c,_,rfl,ho,rfl,hb⟩
 ·rw[if_neg h0]
  have hb0:Below w.heap.size w (w.alloc (.cells #[.int .i64 N, .slice a l.length cap] 24)):=(Below.refl _ _).alloc (Nat.le_refl _) _
  have hg:=heap_top w (.cells #[.int .i64 N, .slice a l.length cap] 24)
  have HB0:=hid hb0
  have hwz:w.heap.size≤(w.alloc (.cells #[.int .i64 N, .slice a l.length cap] 24)).heap.size:=hb0.size
  have HSZ:=hid (scheck_any N a l cap b xs bc bd (w.alloc (.cells #[.int .i64 N, .slice a l.length cap] 24)) hl hx (hr.on hb0) (hi.on hb0))
  rw[if_neg h0] at HSZ
  obtain⟨E,HE⟩:=named (ckE N l xs bd)
  rw[HE.out] at HSZ h0 ⊢
  clear hb0 hr hi
  generalize hp:w.heap.size=p at*
  obtain⟨⟨c0,c1⟩,_⟩:=two_cells hg
  go_enter Tryz.func68,Tryz.ntmps68
  go_wp2_with fail
  generalize hW:w.alloc (.cells #[.int .i64 N, .slice a l.length cap] 24)=W at*
  clear hW
  refine HSZ.out.mono ?_
  rintro e w1 ⟨v1,c1',S',rfl,hown1,rfl,hb1⟩
  have HB1:Hid (Below p w w1):=HB0.out.trans (hb1.mono hwz)
  have e1:(E != 0)=true:=by simpa using h0
  clear hown1 hb1 HSZ hg c0 c1
  go_wp2_with fail
  go_ret2
  exact⟨none,0,[],rfl,World.ownsRow_nil _ _ _ _,rfl,HB1.out⟩
theorem nsOf_any(a:Option Addr)(xs:List Int)(c:Nat)(s:Value)(v:Nat)(w:World)(hv:v<xs.length)(hx:xs.length≤9223372036854775807)(hi:Ints w a xs):
  Calls Tryz.prog 47 #[.agg #[.slice a xs.length c,s], .int .i64 v] w fun e w'=>e= .returned (.int .i64 (xs.getD v 0))∧Below w.heap.size w w':=by
 have hb0:Below w.heap.size w (w.alloc (.cells #[.slice a xs.length c,s] 67)):=(Below.refl _ _).alloc (Nat.le_refl _) _
 have hg:=heap_top w (.cells #[.slice a xs.length c,s] 67)
 obtain⟨ix,ox,hix⟩:=(hi.on hb0).get
 obtain⟨rfl,_,hat⟩:=hix (by omega)
 have d1:=hat v hv
 obtain⟨⟨c0,c1⟩,_⟩:=two_cells hg
 have HB0:=hid hb0
 have hv':(v:Int)<xs.length:=by omega
 generalize xs.getD v 0=y at*
 clear hix hat hi hg hb0
 generalize hp:w.heap.size=p at*
 go_enter Tryz.func47,Tryz.ntmps47
 go_wp2_with fail
 go_ret
 exact⟨rfl,HB0.out⟩
theorem nsMany_any(s:Value)(b:Option Addr)(m c:Nat)(w:World):
  Calls Tryz.prog 39 #[.agg #[s, .slice b m c]] w fun e w'=>e= .returned (.int .i64 (m:Int))∧Below w.heap.size w w':=by
 have hb0:Below w.heap.size w (w.alloc (.cells #[s, .slice b m c] 67)):=(Below.refl _ _).alloc (Nat.le_refl _) _
 have hg:=heap_top w (.cells #[s, .slice b m c] 67)
 obtain⟨⟨c0,c1⟩,_⟩:=two_cells hg
 have HB0:=hid hb0
 clear hg hb0
 generalize hp:w.heap.size=p at*
 go_enter Tryz.func39,Tryz.ntmps39
 go_wp2_with fail
 go_ret
 exact⟨rfl,HB0.out⟩
theorem nsSome_any(b:Option Addr)(m c:Nat)(w:World)(hm:m≤9223372036854775807):
  Calls Tryz.prog 60 #[.slice b m c] w fun e w'=>e= .returned (.bool (decide (1≤m∧m≤5)))∧w'=w:=by
 by_cases h1:(1:Int)≤m
 ·by_cases h2:(m:Int)≤5
  ·rw[decide_eq_true (by omega)]
   go_enter Tryz.func60,Tryz.ntmps60
   go_wp2_with fail
   go_ret
   exact⟨rfl,rfl⟩
  ·rw[decide_eq_false (by omega)]
   go_enter Tryz.func60,Tryz.ntmps60
   go_wp2_with fail
   go_ret
   exact⟨rfl,rfl⟩
 ·rw[decide_eq_false (by omega)]
  go_enter Tryz.func60,Tryz.ntmps60
  go_wp2_with fail
  go_ret
  exact⟨rfl,rfl⟩
theorem nsBound_any(x y:Int)(w:World):
  Calls Tryz.prog 65 #[.int .i64 x, .int .i64 y] w fun e w'=>e= .returned (.bool (decide (y<x∧x≤1024)))∧w'=w:=by
 by_cases h1:y<x
 ·by_cases h2:x≤1024
  ·rw[decide_eq_true (by omega)]
   go_enter Tryz.func65,Tryz.ntmps65
   go_wp2_with fail
   go_ret
   exact⟨rfl,rfl⟩
  ·rw[decide_eq_false (by omega)]
   go_enter Tryz.func65,Tryz.ntmps65
   go_wp2_with fail
   go_ret
   exact⟨rfl,rfl⟩
 ·rw[decide_eq_false (by omega)]
  go_enter Tryz.func65,Tryz.ntmps65
  go_wp2_with fail
  go_ret
  exact⟨rfl,rfl⟩
theorem nsHas_any(s:Value)(b:Option Addr)(m c:Nat)(x:Int)(w:World):
  Calls Tryz.prog 63 #[.agg #[s, .slice b m c], .int .i64 x] w fun e w'=>e= .returned (.bool (decide (0≤x∧x<(m:Int))))∧Below w.heap.size w w':=by
 have hb0:Below w.heap.size w (w.alloc (.cells #[s, .slice b m c] 67)):=(Below.refl _ _).alloc (Nat.le_refl _) _
 have hg:=heap_top w (.cells #[s, .slice b m c] 67)
 obtain⟨⟨c0,c1⟩,_⟩:=two_cells hg
 have HB0:=hid hb0
 have hwz:=hb0.size
 have HMA:=hid (nsMany_any s b m c (w.alloc (.cells #[s, .slice b m c] 67)))
 clear hg hb0
 by_cases h1:0≤x
 ·by_cases h2:x<(m:Int)
  ·rw[decide_eq_true ⟨h1,h2⟩]
   generalize hp:w.heap.size=p at*
   go_enter Tryz.func63,Tryz.ntmps63
   go_wp2_with fail
   refine HMA.out.mono ?_
   rintro e w1 ⟨rfl,hb1⟩
   have HB1:Hid (Below p w w1):=HB0.out.trans (hb1.mono hwz)
   clear hb1
   go_wp2_with fail
   go_ret
   exact⟨rfl,HB1.out⟩
  ·rw[decide_eq_false (by omega)]
   have f2:decide (x<(m:Int))=false:=decide_eq_false h2
   generalize hp:w.heap.size=p at*
   go_enter Tryz.func63,Tryz.ntmps63
   go_wp2_with fail
   refine HMA.out.mono ?_
   rintro e w1 ⟨rfl,hb1⟩
   have HB1:Hid (Below p w w1):=HB0.out.trans (hb1.mono hwz)
   clear hb1
   go_wp2_with fail
   go_ret
   exact⟨rfl,HB1.out⟩
 ·rw[decide_eq_false (by omega)]
  generalize hp:w.heap.size=p at*
  go_enter Tryz.func63,Tryz.ntmps63
  go_wp2_with fail
  go_ret
  exact⟨rfl,HB0.out⟩
def wdB(S:List Nat)(bd:Int):Bool:=decide (∀j,j<S.length→((S.getD j 0:Nat):Int)≤bd)
set_option maxHeartbeats 800000 in
theorem nsWithin_any(s:Value)(b:Option Addr)(S:List Nat)(c:Nat)(bd:Int)(w:World)(hS:S.length≤1024)(hi:Ints w b (ints S)):
  Calls Tryz.prog 78 #[.agg #[s, .slice b S.length c], .int .i64 bd] w fun e w'=>e= .returned (.bool (wdB S bd))∧Below w.heap.size w w':=by
 have hb0:Below w.heap.size w (w.alloc (.cells #[s, .slice b S.length c] 67)):=(Below.refl _ _).alloc (Nat.le_refl _) _
 have hg:=heap_top w (.cells #[s, .slice b S.length c] 67)
 obtain⟨⟨c0,c1⟩,_⟩:=two_cells hg
 have HB0:=hid hb0
 obtain⟨ix,ox,hix⟩:=(hi.on hb0).get
 have HIX:=hid hix
 obtain⟨V,HV⟩:=named (wdB S bd)
 rw[HV.out]
 clear hg hb0 hi hix
 generalize hp:w.heap.size=p at*
 go_enter Tryz.func78,Tryz.ntmps78
 go_wp2_with fail
 generalize hW:w.alloc (.cells #[s, .slice b S.length c] 67)=W at*
 clear hW c0 c1
 go_loopw [10] (fun i wr=> ∃j:Nat,j≤S.length∧i= .int .i64 (j:Int)∧Hid (∀t,t<j→((S.getD t 0:Nat):Int)≤bd)∧wr=W) (fun i _=>S.length - (intOf i).toNat)
 case atStart=>exact⟨0,Nat.zero_le _,rfl,fun t ht=>absurd ht (Nat.not_lt_zero _),rfl⟩
 case round=>
  obtain⟨j,hj,rfl,HA,rfl⟩:=hrel
  by_cases hlk:j<S.length
  ·have hlk':(j:Int)<S.length:=by omega
   obtain⟨rfl,_,hat⟩:=HIX.out (by rw[ints_len];omega)
   have d1:=hat j (by rw[ints_len];exact hlk)
   rw[ints_getD hlk] at d1
   clear hat
   obtain⟨y,HY⟩:=named (S.getD j 0)
   rw[HY.out] at d1
   by_cases c:bd<(y:Int)
   ·obtain rfl:V=false:=by
     rw[←HV.out]
     unfold wdB
     refine decide_eq_false (fun h=> ?_)
     have:=h j hlk
     rw[HY.out] at this
     omega
    go_wp2_with fail
    refine bodyPost_ret (results_tmp rfl _ _ _) rfl ?_
    exact⟨rfl,HB0.out⟩
   ·have HA2:Hid (∀t,t<j+1→((S.getD t 0:Nat):Int)≤bd):=fun t ht=>by
     by_cases e:t=j
     ·rw[e,HY.out];omega
     ·exact HA.out t (by omega)
    go_wp2_with fail
    exact⟨⟨j+1,hlk,by simp,HA2,trivial⟩,by simp[intOf];omega⟩
  ·have hlk': ¬(j:Int)<S.length:=by omega
   obtain rfl:V=true:=by
    rw[←HV.out]
    exact decide_eq_true (fun t ht=>HA.out t (by omega))
   go_wp2_with fail
   refine bodyPost_ret (results_tmp rfl _ _ _) rfl ?_
   exact⟨rfl,HB0.out⟩
def lsS(S:List Nat)(v:Nat)(x:Int):List Nat:=if x=S.length then S++[v] else S
def lsL:List Int→Nat→List Nat→List Nat
 | [],_,S=>S
 | x::r,v,S=>lsL r (v+1) (lsS S v x)
set_option maxHeartbeats 1600000 in
theorem nsLeasts_any(a:Option Addr)(xs:List Int)(c:Nat)(b:Option Addr)(m cb:Nat)(w:World)(hx:xs.length≤1024)(hm:m≤1024)(hi:Ints w a xs):
  Calls Tryz.prog 46 #[.agg #[.slice a xs.length c, .slice b m cb]] w fun e w'=> ∃v c S,e= .returned (.slice v S.length c)∧w'.ownsRow w.heap.size 3 1 (.slice v S.length c) S.length (cellsI (ints S))∧S=lsL xs 0 []∧Below w.heap.size w w':=by
 have hb0:Below w.heap.size w (w.alloc (.cells #[.slice a xs.length c, .slice b m cb] 67)):=(Below.refl _ _).alloc (Nat.le_refl _) _
 have hg:=heap_top w (.cells #[.slice a xs.length c, .slice b m cb] 67)
 obtain⟨i3,hi3,hz3,hs3,hby3⟩:=info_parts info3
 obtain⟨⟨c0,c1⟩,_⟩:=two_cells hg
 obtain⟨ix,ox,hix⟩:=hi.get
 have HIX:=hid hix
 have HB0:=hid hb0
 have hmk: ∀w,(Instr.makeSlice 25 (.int .i64 0) (.int .i64 m)).run Tryz.prog w= .ok (.slice (some ⟨w.heap.size,0,none⟩) 0 m) (w.alloc (.cells ((List.range m).map (fun _=>Value.int .i64 0)).toArray 3)):=fun w=>by
  have:=run_make (P:=Tryz.prog) w 25 3 i3 (.int .i64 0) Tryz.underlying25 hi3 hz3 .i64 .i64 0 m (by omega) (by omega) (by rw[hby3];omega) (by omega)
  rw[hs3] at this
  rw[this,Int.toNat_natCast,made_int]
  rfl
 clear hi hb0 hix
 generalize hp:w.heap.size=p at*
 go_enter Tryz.func46,Tryz.ntmps46
 go_wp2_with fail
 have hw1:w.heap.size<(w.alloc (.cells #[.slice a xs.length c, .slice b m cb] 67)).heap.size:=by simp
 generalize hW:w.alloc (.cells #[.slice a xs.length c, .slice b m cb] 67)=W at*
 clear hW
 go_wp2_with (go_at_call 39;refine(nsMany_any _ b m cb W).mono ?_;rintro e w1 ⟨rfl,hb1⟩;have c0:=(hb1.cell (p:=⟨p,0,none⟩) (by show p<_;omega)).trans c0;have HB1:Hid (Below p w w1):=HB0.out.trans (hb1.mono (by omega));have hz1:=hb1.size;have c2:=(((Below.refl w1.heap.size w1).alloc (Nat.le_refl _) (.cells ((List.range m).map (fun _=>Value.int .i64 0)).toArray 3)).cell (p:=⟨p,0,none⟩) (by show p<_;omega)).trans c0;clear hb1 HB0)
 have HO0:Hid ((w1.alloc (.cells ((List.range m).map (fun _=>Value.int .i64 0)).toArray 3)).ownsRow p 3 1 (.slice (some ⟨w1.heap.size,0,none⟩) 0 m) 0 []):=World.ownsRow_made w1 _ m (by omega) (by unfold maxLen;omega) (by simp)
 have HB2:Hid (Below p w (w1.alloc (.cells ((List.range m).map (fun _=>Value.int .i64 0)).toArray 3))):=HB1.out.alloc (by omega) _
 generalize w1.alloc (.cells ((List.range m).map (fun _=>Value.int .i64 0)).toArray 3)=V at*
 clear hg hw1 c0 c1 c2 HB1
 go_loopw [3,12] (fun s3 i wr=> ∃ (k:Nat) (av:Option Addr) (cv:Nat) (S:List Nat),k≤xs.length∧i= .int .i64 k∧s3= .slice av S.length cv∧S.length≤k∧Hid (lsL (xs.drop k) k S=lsL xs 0 [])∧Hid (wr.ownsRow p 3 1 (.slice av S.length cv) S.length (cellsI (ints S)))∧Hid (Below p w wr)) (fun _ i _=>xs.length - (intOf i).toNat)
 case atStart=>exact⟨0,_,_,[],Nat.zero_le _,rfl,rfl,Nat.zero_le _,rfl,HO0,HB2⟩
 case round=>
  obtain⟨k,av,cv,S,hk,rfl,rfl,hSk,HS,HOW,HBR⟩:=hrel
  have hwr:p≤wr.heap.size:=by have:=HBR.out.size;omega
  by_cases hlk:k<xs.length
  ·obtain⟨rfl,hbl,hat⟩:=HIX.out (by omega)
   have hlk':(k:Int)<xs.length:=by omega
   have y0:=(HBR.out.cell (p:=⟨ix,ox+k,none⟩) (hp▸hbl)).trans (hat k hlk)
   have hk2:=HS.out
   rw[drop_getI hlk] at hk2
   simp only[lsL] at hk2
   have HK2:=hid hk2
   clear hat hk2
   generalize xs.getD k 0=x at*
   by_cases h2:x=S.length
   ·subst h2
    have hq:((S.length:Int)==(S.length:Int))=true:=by simp
    have HNS:Hid (lsS S k S.length=S++[k]):=if_pos rfl
    rw[HNS.out] at HK2
    have HNW:=hid (one_new wr k)
    have HO2:=hid (HOW.out.alloc (.cells #[.int .i64 k] 3))
    have HBZ:Hid (p≤(wr.alloc (.cells #[.int .i64 k] 3)).heap.size):=by show _≤_;rw[World.size_alloc];omega
    have HBB:Hid (Below p w (wr.alloc (.cells #[.int .i64 k] 3))):=HBR.out.alloc (by omega) _
    have HOL:Hid (∀b,(Value.slice av S.length cv).ownBlock=some b→p≤b):=fun b hb=>(HOW.out.lt b hb).1
    have HCA:Hid (cellsI (ints S)++[.int .i64 k]=cellsI (ints (S++[k]))):=by show _=_;rw[ints_snoc,←cellsI_snoc]
    have hs8:S.length≤1024:=by omega
    go_wp2_with (at_builtin;refine wpList_append_own _ rfl (.tmp 21) (.tmp 23) 25 rfl p 3 i3 (.int .i64 0) 1 8 Tryz.underlying25 hi3 hz3 hs3 hby3 rfl (by decide) (.slice av S.length cv) S.length (cellsI (ints S)) rfl HO2.out ⟨wr.heap.size,0,none⟩ 1 1 [.int .i64 k] rfl rfl HNW.out (one_i64 _) (by unfold maxLen;omega) (by omega) HBZ.out ?_;intro v6 w6 hown6 hgrow6 hnil6;obtain⟨g6,c6,hv6,_,hc6,_,hm6⟩:=own_shape hown6 (fun e=>by have:=hnil6.1 e;simp at this);subst hv6;rw[HCA.out] at hown6;have h7:w6.ownsRow p 3 1 (.slice (some ⟨g6,0,none⟩) (S++[k]).length c6) (S++[k]).length (cellsI (ints (S++[k]))):=(by rw[List.length_append];exact hown6);have HO7:=hid h7;have HB6:Hid (Below p w w6):=HBB.out.grown hgrow6 HBZ.out (fun j hj=>HOL.out j hj);clear hown6 hgrow6 hnil6 h7)
    exact⟨⟨k+1,some ⟨g6,0,none⟩,c6,S++[k],by omega,by simp,by rw[List.length_append];rfl,by rw[List.length_append];simp;omega,HK2,HO7,HB6⟩,by simp[intOf];omega⟩
   ·have hq:(x==(S.length:Int))=false:=by simpa using h2
    have HNS:Hid (lsS S k x=S):=if_neg h2
    rw[HNS.out] at HK2
    clear h2
    go_wp2_with fail
    exact⟨⟨k+1,av,cv,S,by omega,by simp,rfl,by omega,HK2,HOW,HBR⟩,by simp[intOf];omega⟩
  ·have e0:xs.drop k= []:=List.drop_eq_nil_of_le (by omega)
   have hlk': ¬(k:Int)<xs.length:=by omega
   rw[e0] at HS
   clear e0
   go_wp2_with fail
   go_ret
   exact⟨av,cv,S,rfl,HOW.out,HS.out,HBR.out⟩
end Go.Proofs.YtmenajiceaicpaaGreat
