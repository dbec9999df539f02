import Derived.Test.YtmenajiceaicpaaGreatZJB
import Derived.Test.YtmenajiceaicpaaGreatZJC
import Derived.Test.YtmenajiceaicpaaGreatZAL
import Derived.Deep.LoopGhost
import Derived.Test.YtmenajiceaicpaaGreatZAW
open Go.Lib (hid)
set_option maxRecDepth 100000
namespace Go.Proofs.YtmenajiceaicpaaGreat
open Go.RowKit
def mxL(S:List Nat):Nat→Nat
 | 0=>S.getD 0 0
 | k+1=>max (mxL S k) (S.getD (k+1) 0)
theorem mxL_at(S:List Nat): ∀k,∃j,j≤k∧mxL S k=S.getD j 0
 | 0=>⟨0,Nat.le_refl _,rfl⟩
 | k+1=>by
   obtain⟨j,hj,e⟩:=mxL_at S k
   show ∃j,_∧max (mxL S k) (S.getD (k+1) 0)=_
   by_cases h:mxL S k≤S.getD (k+1) 0
   ·exact⟨k+1,Nat.le_refl _,Nat.max_eq_right h⟩
   ·exact⟨j,by omega,by rw[Nat.max_eq_left (by omega)];exact e⟩
set_option maxHeartbeats 1600000 in
theorem max_any(b:Option Addr)(S:List Nat)(bc:Nat)(w:World)(hn:0<S.length)(hS:S.length≤1024)(hi:Ints w b (ints S)):
  Calls Tryz.prog 90 #[.slice b S.length bc] w fun e w'=>e= .returned (.int .i64 ((mxL S (S.length - 1):Nat):Int))∧Below w.heap.size w w':=by
 obtain⟨ix,ox,hix⟩:=hi.get
 obtain⟨rfl,hbl,hat⟩:=hix (by rw[ints_len];exact hn)
 have HAT:Hid (∀j,j<S.length→w.cell? ⟨ix,ox+j,none⟩=some (.int .i64 ((S.getD j 0:Nat):Int))):=fun j hj=>by rw[←ints_getD hj];exact hat j (by rw[ints_len];exact hj)
 have y0:=HAT.out 0 hn
 rw[Nat.add_zero] at y0
 have HX0:Hid (mxL S 0=S.getD 0 0):=rfl
 obtain⟨m0,HM0⟩:=named (S.getD 0 0)
 rw[HM0.out] at y0 HX0
 have hn': ¬(S.length:Int)<1:=by omega
 have hn2:(0:Int)<S.length:=by omega
 obtain⟨R,HR⟩:=named (mxL S (S.length - 1))
 rw[HR.out]
 clear hix hat hi
 go_enter Tryz.func90,Tryz.ntmps90
 go_wp2_with fail
 clear y0
 go_loopw [3,4] (fun s3 i wr=> ∃k m:Nat,k<S.length∧s3= .int .i64 m∧i= .int .i64 ((k:Int)+1)∧Hid (mxL S k=m)∧Hid (wr=w)) (fun _ i _=>S.length - (intOf i).toNat)
 case atStart=>exact⟨0,m0,hn,rfl,rfl,HX0,rfl⟩
 case round=>
  obtain⟨k,m,hk,rfl,rfl,HM,HW⟩:=hrel
  by_cases hlk:k+1<S.length
  ·have hlk':(k:Int)+1<S.length:=by omega
   have y0:=HAT.out (k+1) hlk
   have HNX:Hid (mxL S (k+1)=max m (S.getD (k+1) 0)):=by show _=_;rw[←HM.out];rfl
   obtain⟨x,HX⟩:=named (S.getD (k+1) 0)
   rw[HX.out] at y0 HNX
   rw[←HW.out] at y0
   have e1:((k:Int)+1).toNat=k+1:=by omega
   have e2:(0:Int)≤(k:Int)+1:=by omega
   go_wp2_with fail
   exact⟨⟨k+1,max m x,hlk,by congr 1;omega,by simp,HNX,HW⟩,by simp[intOf];omega⟩
  ·have hlk': ¬(k:Int)+1<S.length:=by omega
   obtain rfl:R=m:=by rw[←HR.out,←HM.out];congr 1;omega
   go_wp2_with fail
   go_ret
   refine⟨rfl,?_⟩
   rw[HW.out]
   exact Below.refl _ _
set_option maxHeartbeats 3200000 in
theorem sbegin_any(pa:Option Addr)(P:List Pr)(pc:Nat)(ad:Addr)(L:List Nat)(bc:Nat)(S:List Nat)(sg sc bd B:Nat)(w:World)(hP:P.length≤8192)(hL:L.length≤1024)(hPI:PIn P L.length)(hM: ∀x,x∈L→x<S.length)(hS:S.length≤1024)(hs: ∀j,S.getD j 0≤1024)(hbd:bd≤1024)(hB:B≤w.heap.size)(hpr:Prs w pa P)(hi:Ints w (some ad) (ints L))(hso:w.ownsRow B 3 1 (.slice (some ⟨sg,0,none⟩) S.length sc) S.length (cellsI (ints S))):
  Calls Tryz.prog 91 #[.slice pa P.length pc, .slice (some ad) L.length bc, .slice (some ⟨sg,0,none⟩) S.length sc, .int .i64 (bd:Int)] w fun e w'=> ∃jb,e= .returned (.pointer (some ⟨jb,0,none⟩))∧Hid (∃lg lc ov l,JS w' jb B bd L S (fits S bd l) lg sg lc sc ov∧Lks P L l∧l.length≤P.length)∧Below w.heap.size w w':=by
 have hsw:sg<w.heap.size:=(hso.lt sg rfl).2
 have HCL:=hid (clone_any ad (ints L) bc w (by rw[ints_len];exact hL) hi)
 rw[ints_len] at HCL
 have HPR:=hid hpr
 have HI:=hid hi
 have HSO:=hid hso
 have HPI:=hid hPI
 have HM:=hid hM
 have HSS:=hid hs
 clear hpr hi hso hPI hM hs
 generalize hp:w.heap.size=p at*
 go_enter Tryz.func91,Tryz.ntmps91
 go_wp2_with fail
 refine HCL.out.mono ?_
 rintro e w1 ⟨lg,lc,rfl,hown1,hb1⟩
 have HB1:=hid hb1
 have HO1:=hid hown1
 have hlg:p≤lg:=(hown1.lt lg rfl).1
 have hlw:lg<w1.heap.size:=(hown1.lt lg rfl).2
 have hpw1:p≤w1.heap.size:=by have:=hb1.size;omega
 have HSO1:=hid (own_on HSO.out (hp▸hb1))
 have HPR1:=hid (HPR.out.on (hp▸hb1))
 have HI1:=hid (HI.out.on (hp▸hb1))
 clear hown1 hb1 HCL
 have HBA:Hid (Below w1.heap.size w1 (w1.alloc (.cells #[.int .i64 (bd:Int), .slice (some ⟨lg,0,none⟩) L.length lc, .slice (some ⟨sg,0,none⟩) S.length sc, .slice none 0 0] 125))):=(Below.refl _ _).alloc (Nat.le_refl _) _
 have HJ0:Hid (JS (w1.alloc (.cells #[.int .i64 (bd:Int), .slice (some ⟨lg,0,none⟩) L.length lc, .slice (some ⟨sg,0,none⟩) S.length sc, .slice none 0 0] 125)) w1.heap.size B bd L S [] lg sg lc sc (.slice none 0 0)):=⟨heap_top w1 _,own_base (own_on HO1.out HBA.out) hB,own_on HSO1.out HBA.out,World.ownsRow_nil _ _ _ _,by omega,by omega⟩
 have HB2:Hid (Below p w (w1.alloc (.cells #[.int .i64 (bd:Int), .slice (some ⟨lg,0,none⟩) L.length lc, .slice (some ⟨sg,0,none⟩) S.length sc, .slice none 0 0] 125))):=HB1.out.trans (HBA.out.mono hpw1)
 have HPR2:=hid (HPR1.out.on HBA.out)
 have HI2:=hid (HI1.out.on HBA.out)
 have hsz2:p≤(w1.alloc (.cells #[.int .i64 (bd:Int), .slice (some ⟨lg,0,none⟩) L.length lc, .slice (some ⟨sg,0,none⟩) S.length sc, .slice none 0 0] 125)).heap.size:=Nat.le_trans hpw1 HBA.out.size
 go_wp2_with fail
 generalize hX:w1.alloc (.cells #[.int .i64 (bd:Int), .slice (some ⟨lg,0,none⟩) L.length lc, .slice (some ⟨sg,0,none⟩) S.length sc, .slice none 0 0] 125)=X at*
 generalize hj:w1.heap.size=jb at*
 clear hX hj HBA HB1 HO1 HSO1 HPR1 HI1 HPR HI HSO
 refine(linksOf_any pa P pc (some ad) L bc X hP hL HPI.out (fun x hx=>by have:=HM.out x hx;omega) HPR2.out HI2.out).mono ?_
 rintro e w2 ⟨v,c,l,rfl,hown2,HLK,hll,hb2⟩
 have HJ2:=hid (HJ0.out.on hb2)
 have HB3:Hid (Below p w w2):=HB2.out.trans (hb2.mono hsz2)
 have HO2:=hid (own_base hown2 hsz2)
 have hsz3:p≤w2.heap.size:=Nat.le_trans hsz2 hb2.size
 clear hown2 hb2 HJ0 HB2 HPR2 HI2 hsz2
 go_wp2_with fail
 go_loopw [22] (fun i wr=> ∃ (k:Nat) (ov:Value),k≤l.length∧i= .int .i64 k∧Hid (JS wr jb B bd L S (fits S bd (l.take k)) lg sg lc sc ov)∧Hid (∀j,ov.ownBlock=some j→p≤j∧(Value.slice v l.length c).ownBlock≠some j)∧Hid (wr.ownsRow p 128 3 (.slice v l.length c) l.length (cellsK l))∧Hid (Below p w wr)) (fun i _=>l.length - (intOf i).toNat)
 case atStart=>exact⟨0, .slice none 0 0,Nat.zero_le _,rfl,HJ2,(fun j hj=>absurd hj (by simp[Value.ownBlock])),HO2,HB3⟩
 case round=>
  obtain⟨k,ov,hk,rfl,HJ,HOV,HO,HBW⟩:=hrel
  clear HJ2 HO2 HB3
  by_cases hlk:k<l.length
  ·have hlk':(k:Int)<l.length:=by omega
   obtain⟨g,cg,hv,hg1,_,hgw,_⟩:=own_shape HO.out (fun e=>by injection e with _ e2 _;omega)
   injection hv with hv1 _ hv3
   subst hv1 hv3
   obtain⟨y0,y1,y2⟩:=rowK_atS HO.out k hlk
   have HTS:=hid (take_snocK hlk)
   have HFS:=hid (fits_snoc S bd (l.take k) (l.getD k K.zero))
   rw[←HTS.out] at HFS
   have hfit:=HLK.out.fit _ (getD_memK hlk)
   have hmem:=pair_mem HPI.out (by rw[←hfit.2.1];exact hfit.2.2)
   obtain⟨x,HX⟩:=named (l.getD k K.zero)
   rw[HX.out] at y0 y1 y2 HFS hfit hmem
   have hxa:=HM.out _ hmem.1
   have hxb:=HM.out _ hmem.2
   have hs1:=HSS.out x.a
   have hs2:=HSS.out x.b
   clear hfit hmem HTS HX
   have HBX:Hid (Below wr.heap.size wr (wr.alloc (.cells #[.int .i64 (x.a:Int), .int .i64 (x.b:Int), .int .i64 (x.n:Int)] 128))):=(Below.refl _ _).alloc (Nat.le_refl _) _
   have hpr:p≤wr.heap.size:=by have:=HBW.out.size;omega
   have HJX:=hid (HJ.out.on HBX.out)
   have HOX:=hid (own_on HO.out HBX.out)
   have HBXW:Hid (Below p w (wr.alloc (.cells #[.int .i64 (x.a:Int), .int .i64 (x.b:Int), .int .i64 (x.n:Int)] 128))):=HBW.out.trans (HBX.out.mono hpr)
   have hgx:=heap_top wr (.cells #[.int .i64 (x.a:Int), .int .i64 (x.b:Int), .int .i64 (x.n:Int)] 128)
   obtain⟨e0,e1,e2⟩:=three_cells hgx
   have hXs:p≤(wr.alloc (.cells #[.int .i64 (x.a:Int), .int .i64 (x.b:Int), .int .i64 (x.n:Int)] 128)).heap.size:=Nat.le_trans hpr HBX.out.size
   have hgX:g<(wr.alloc (.cells #[.int .i64 (x.a:Int), .int .i64 (x.b:Int), .int .i64 (x.n:Int)] 128)).heap.size:=Nat.lt_of_lt_of_le hgw HBX.out.size
   clear hgx
   have HOF:=hid (offer_any jb B bd L S (fits S bd (l.take k)) lg sg lc sc ov x _ HJX.out hxa hxb (by omega) hbd (by have h1:=fits_len S bd (l.take k);rw[List.length_take] at h1;omega) (Nat.le_trans hB hXs))
   have HXV:Hid (x.val= .agg #[.int .i64 (x.a:Int), .int .i64 (x.b:Int), .int .i64 (x.n:Int)]):=rfl
   rw[HXV.out,←HFS.out] at HOF
   have hjg:jb≠g:=fun e=>by
    obtain⟨cur,hc⟩:=own_block HO.out (k:=g) rfl
    have:=(e▸HJ.out.hd).symm.trans hc
    injection this with this
    injection this with _ this
    cases this
   go_wp2_with fail
   refine HOF.out.mono ?_
   rintro e w5 ⟨rfl,ov5,hj5,hf5,hob5⟩
   have HJ5:=hid hj5
   have HO5:=hid (own_frQ HOX.out hf5 (fun j hj=>by
    injection hj with hj
    have hj:g=j:=hj
    subst hj
    rintro(e | e)
    ·exact hjg e.symm
    ·exact(HOV.out g e).2 rfl))
   have HB5:Hid (Below p w w5):=HBXW.out.trans (hf5.below hXs (fun j hj=>by
    rcases hj with e | e
    ·omega
    ·exact(HOV.out j e).1))
   have HV5:Hid (∀j,ov5.ownBlock=some j→p≤j∧(Value.slice (some ⟨g,0,none⟩) l.length c).ownBlock≠some j):=fun j hj=>by
    rcases hob5 with e | ⟨i,e,hi⟩
    ·exact HOV.out j (e▸hj)
    ·rw[e] at hj
     injection hj with hj
     subst hj
     refine⟨by omega,fun e2=> ?_⟩
     injection e2 with e2
     have e2:g=i:=e2
     omega
   clear hj5 hf5 hob5 HOF
   go_wp2_with fail
   exact⟨⟨k+1,ov5,by omega,by simp,HJ5,HV5,HO5,HB5⟩,by simp[intOf];omega⟩
  ·obtain rfl:k=l.length:=by omega
   have hlk': ¬(l.length:Int)<l.length:=by omega
   rw[List.take_length] at HJ
   go_wp2_with fail
   go_ret
   exact⟨jb,rfl,⟨lg,lc,ov,l,HJ.out,HLK.out,hll⟩,HBW.out⟩
theorem rules_cells(w:World): ∀k,k<3→(w.alloc (.cells #[.func (.func 94) #[] #[], .func (.func 95) #[] #[], .func (.func 96) #[] #[]] 130)).cell? ⟨w.heap.size,k,none⟩=some (ruleV k):=fun k hk=>by
 have h:=three_cells (heap_top w (.cells #[.func (.func 94) #[] #[], .func (.func 95) #[] #[], .func (.func 96) #[] #[]] 130))
 match k,hk with
 | 0,_=>exact h.1
 | 1,_=>exact h.2.1
 | 2,_=>exact h.2.2
set_option maxHeartbeats 3200000 in
theorem join_ok(n:Nat)(a:Option Addr)(l:List A)(cap:Nat)(ad:Addr)(L:List Nat)(bc B:Nat)(w:World)(hC:chkE n l=0)(hL:L.length=n)(hT:tdy (ints L) 0=true)(hB1:1≤B)(hB2:B≤1024)(hm:mxL (szL (ints L)) ((szL (ints L)).length - 1)≤B)(hr:Arcs w a l)(hi:Ints w (some ad) (ints L)):
  Calls Tryz.prog 69 #[.agg #[.int .i64 n, .slice a l.length cap], .slice (some ad) L.length bc, .int .i64 B] w fun e w'=> ∃v c E,e= .returned (.tuple #[.slice v E.length c, .int .i64 0])∧w'.ownsRow w.heap.size 3 1 (.slice v E.length c) E.length (cellsI (ints E))∧Hid (∃F,Jn (prl l) B L F∧E=tdL F)∧Below w.heap.size w w':=by
 subst hL
 obtain⟨h1n,hn,hl,hoa⟩:=chk_zero hC
 have hn':L.length≤1024:=by omega
 have h1n':0<L.length:=by omega
 have HPI:=hid (prl_in hC)
 have hPL:(prl l).length≤8192:=Nat.le_trans (prl_len l) hl
 have HCK:Hid (ckE L.length l (ints L) B=0):=by
  show _=_
  unfold ckE siE szE
  rw[if_neg (by rw[hC,if_neg (by simp),if_neg (by rw[ints_len];simp[hT])];simp),if_neg (by omega)]
 have hb0:Below w.heap.size w (w.alloc (.cells #[.int .i64 L.length, .slice a l.length cap] 24)):=(Below.refl _ _).alloc (Nat.le_refl _) _
 have hg:=heap_top w (.cells #[.int .i64 L.length, .slice a l.length cap] 24)
 have HR:=hid (hr.on hb0)
 have HI:=hid (hi.on hb0)
 have HB0:=hid hb0
 have hwz:w.heap.size≤(w.alloc (.cells #[.int .i64 L.length, .slice a l.length cap] 24)).heap.size:=hb0.size
 have HSZ:=hid (scheck_any L.length a l cap (some ad) (ints L) bc B (w.alloc (.cells #[.int .i64 L.length, .slice a l.length cap] 24)) (by omega) (by rw[ints_len];omega) HR.out HI.out)
 rw[HCK.out,if_pos rfl,ints_len] at HSZ
 have HST:Hid (∀q,Lks (prl l) L q→JI (prl l) B L L (szL (ints L)) (fits (szL (ints L)) B q)):=fun q hq=>JI.start hT hn' HPI.out hq
 obtain⟨PP,HPP⟩:=named (prl l)
 rw[HPP.out] at HPI hPL HST ⊢
 have hS0:=szL_pos hT h1n'
 have HSO:=hid (right_sz hT)
 have hS1:(szL (ints L)).length≤1024:=Nat.le_trans (szL_length _) (by rw[ints_len];exact hn')
 have HSB:Hid (∀j,(szL (ints L)).getD j 0≤1024):=fun j=>by rw[sz_cnt hT];exact Nat.le_trans List.count_le_length hn'
 obtain⟨S,HS⟩:=named (szL (ints L))
 rw[HS.out] at HSZ HST hS0 HSO hS1 HSB hm
 have HC:=hid hC
 clear hb0 hr hi hT hC h1n hn hoa
 generalize hp:w.heap.size=p at*
 obtain⟨⟨c0,c1⟩,_⟩:=two_cells hg
 have HG:=hid hg
 go_enter Tryz.func69,Tryz.ntmps69
 go_wp2_with fail
 generalize hW:w.alloc (.cells #[.int .i64 L.length, .slice a l.length cap] 24)=W at*
 clear hW hg
 have hpW:p<W.heap.size:=lt_of_block HG.out
 refine HSZ.out.mono ?_
 rintro e w1 ⟨v1,c1',S',rfl,hown1,rfl,hb1⟩
 obtain⟨sg,sc,hv1,hsg,_,hsw,_⟩:=own_shape hown1 (fun e=>by injection e with _ e2 _;omega)
 injection hv1 with hv1 _ hv3
 subst hv1 hv3
 have HO1:=hid (own_base hown1 hwz)
 have HB1:Hid (Below p w w1):=HB0.out.trans (hb1.mono hwz)
 have HR1:=hid (HR.out.on hb1)
 have HI1:=hid (HI.out.on hb1)
 have hg1:=(hb1.block p hpW).trans HG.out
 have HG1:=hid hg1
 obtain⟨⟨d0,d1⟩,_⟩:=two_cells hg1
 have hp1:p≤w1.heap.size:=Nat.le_trans hwz hb1.size
 have hp1':p<w1.heap.size:=Nat.lt_of_lt_of_le hpW hb1.size
 have HII:=hid (own_ints HO1.out rfl)
 clear hb1 hown1 hg1 c0 c1 HSZ HR HI HG HB0 hsg
 go_wp2_with fail
 refine(max_any _ S' c1' w1 hS0 hS1 HII.out).mono ?_
 rintro e w2 ⟨rfl,hb2⟩
 have HO2:=hid (own_on HO1.out hb2)
 have HB2:Hid (Below p w w2):=HB1.out.trans (hb2.mono hp1)
 have HR2:=hid (HR1.out.on hb2)
 have HI2:=hid (HI1.out.on hb2)
 have hg2:=(hb2.block p hp1').trans HG1.out
 have HG2:=hid hg2
 obtain⟨⟨e0,e1⟩,_⟩:=two_cells hg2
 have hp2:p≤w2.heap.size:=Nat.le_trans hp1 hb2.size
 have hm': ¬(B:Int)<((mxL S' (S'.length - 1):Nat):Int):=by omega
 generalize mxL S' (S'.length - 1)=mx at*
 clear hb2 hg2 d0 d1 HO1 HB1 HR1 HI1 HG1 HII
 go_wp2_with fail
 have HPA:=hid (pairs_any L.length a l cap w2 (by omega) HR2.out)
 rw[HC.out] at HPA
 refine HPA.out.mono ?_
 rintro e w3 ⟨pv,pc,ps,rfl,hown3,hps,hb3⟩
 rw[if_pos rfl,HPP.out] at hps
 subst hps
 have HO3:=hid (own_on HO2.out hb3)
 have HB3:Hid (Below p w w3):=HB2.out.trans (hb3.mono hp2)
 have HI3:=hid (HI2.out.on hb3)
 have HP3:=hid hown3.prs
 have hp3:p≤w3.heap.size:=Nat.le_trans hp2 hb3.size
 clear hb3 hown3 HPA HO2 HB2 HI2 HR2 HG2 e0 e1
 go_wp2_with fail
 refine(sbegin_any pv ps pc ad L bc S' sg c1' B p w3 hPL hn' HPI.out (fun x hx=>(HSO.out x hx).1) hS1 HSB.out hB2 hp3 HP3.out HI3.out HO3.out).mono ?_
 rintro e w4 ⟨jb,rfl,H4,hb4⟩
 obtain⟨lg,lc,ov,q,hj4,hq,hql⟩:=H4.out
 have HJ4:=hid hj4
 have HJI:=hid (HST.out q hq)
 have HB4:Hid (Below p w w4):=HB3.out.trans (hb4.mono hp3)
 clear H4 hj4 hq hb4 HO3 HB3 HI3 HP3 HST
 go_wp2_with fail
 go_loopg [] (L.sum) (fun gk wr=> ∃ (Lc Sc:List Nat) (O:List K) (ov:Value),Lc.sum=gk∧Sc.length=S'.length∧Hid (JI ps B L Lc Sc O)∧Hid (JS wr jb p B Lc Sc O lg sg lc c1' ov)∧Hid (Below p w wr))
 case atStart=>exact⟨L,S',_,ov,rfl,rfl,HJI,HJ4,HB4⟩
 case round=>
  obtain⟨Lc,Sc,O,ov,rfl,hSc,HJ,HJS,HBW⟩:=hrel
  clear HJI HJ4 HB4
  obtain⟨av,cv,rfl⟩:=own_slice HJS.out.oo
  obtain⟨j0,j1,j2,j3⟩:=four_cellsJ HJS.out.hd
  have hOL:O.length≤8192:=Nat.le_trans HJ.out.opn.len hPL
  have hpr:p≤wr.heap.size:=by have:=HBW.out.size;omega
  by_cases h0:0<O.length
  ·have h0':(0:Int)<O.length:=by omega
   obtain⟨og,oc,hv,hog,_,hogw,_⟩:=own_shape HJS.out.oo (fun e=>by injection e with _ e2 _;omega)
   injection hv with hv1 _ hv3
   subst hv1 hv3
   have HBX:Hid (Below wr.heap.size wr (wr.alloc (.cells #[.func (.func 94) #[] #[], .func (.func 95) #[] #[], .func (.func 96) #[] #[]] 130))):=(Below.refl _ _).alloc (Nat.le_refl _) _
   have HJX:=hid (HJS.out.on HBX.out)
   have HBXW:Hid (Below p w (wr.alloc (.cells #[.func (.func 94) #[] #[], .func (.func 95) #[] #[], .func (.func 96) #[] #[]] 130))):=HBW.out.trans (HBX.out.mono hpr)
   have hXs:p≤(wr.alloc (.cells #[.func (.func 94) #[] #[], .func (.func 95) #[] #[], .func (.func 96) #[] #[]] 130)).heap.size:=Nat.le_trans hpr HBX.out.size
   have HCH:=hid (choose_any og cv wr.heap.size O (wr.alloc (.cells #[.func (.func 94) #[] #[], .func (.func 95) #[] #[], .func (.func 96) #[] #[]] 130)) h0 (by omega) (Nat.lt_of_lt_of_le hogw HBX.out.size) (fun j hj=>rowK_at HJX.out.oo j hj) (by simp) (rules_cells wr))
   have hpk:=HJ.out.pick HPI.out hn' h0
   obtain⟨m,HMM⟩:=named (pickK O (O.length - 1))
   rw[HMM.out] at HCH
   simp only[HMM.out] at hpk
   obtain⟨k1,k2,k3,k4,k5,k6⟩:=hpk
   have HK3:=hid k3
   have HK6:=hid k6
   have HSM:Hid ((mrg Lc m.a m.b).sum<Lc.sum):=k5
   have HXV:Hid (m.val= .agg #[.int .i64 (m.a:Int), .int .i64 (m.b:Int), .int .i64 (m.n:Int)]):=rfl
   have HIN:=hid (HJ.out.in HPI.out hPL)
   rw[HXV.out] at HCH
   clear k3 k5 k6
   go_wp2_with fail
   refine HCH.out.mono ?_
   rintro e w5 ⟨rfl,hb5⟩
   have HJ5:=hid (HJX.out.on hb5)
   have HB5:Hid (Below p w w5):=HBXW.out.trans (hb5.mono hXs)
   have hp5:p≤w5.heap.size:=Nat.le_trans hXs hb5.size
   have HJA:=hid (join_any jb p B Lc Sc O lg sg lc c1' og cv m w5 HJ5.out HIN.out (by omega) (by omega) (by rw[HJ.out.len];exact hn') hB2 hp5 k1 k2 HK3.out k4)
   rw[HXV.out] at HJA
   clear hb5 HCH HJX HBX HBXW
   go_wp2_with fail
   refine HJA.out.mono ?_
   rintro e w6 ⟨rfl,ov6,hj6,hb6⟩
   have HJ6:=hid hj6
   have HB6:Hid (Below p w w6):=HB5.out.trans hb6
   clear hj6 hb6 HJA
   go_wp2_with fail
   go_roundg (mrg Lc m.a m.b).sum
   case measure=>exact HSM.out
   case rel=>exact⟨_,_,_,ov6,rfl,by rw[List.length_set];exact hSc,HK6,HJ6,HB6⟩
  ·have h0': ¬(0:Int)<O.length:=by omega
   have HJE:=hid (HJ.out.end (by omega))
   have HTD:=hid (tidied_any (some ⟨lg,0,none⟩) Lc lc wr (by rw[HJ.out.len];exact hn') (fun x hx=>by have:=(HJ.out.sz x hx).1;omega) (own_ints HJS.out.lo rfl))
   go_wp2_with fail
   refine HTD.out.mono ?_
   rintro e w5 ⟨g5,rfl,hown5,hb5⟩
   have HO5:=hid (own_base hown5 hpr)
   have HB5:Hid (Below p w w5):=HBW.out.trans (hb5.mono hpr)
   clear hown5 hb5 HTD
   go_wp2_with fail
   go_ret2
   refine⟨some ⟨g5,0,none⟩,Lc.length,tdL Lc,?_,HO5.out,⟨Lc,HJE.out,rfl⟩,HB5.out⟩
   rw[tdL_len];rfl
def jnE(N:Int)(l:List A)(xs:List Int)(bd:Int):Int:=if ckE N l xs bd≠0 then ckE N l xs bd else if bd<((mxL (szL xs) ((szL xs).length - 1):Nat):Int) then 90 else 0
def JnR(N:Int)(l:List A)(xs:List Int)(bd:Int)(E:List Nat):Prop:=(jnE N l xs bd=0→∃F,Jn (prl l) bd.toNat (xs.map Int.toNat) F∧E=tdL F)∧(jnE N l xs bd≠0→E= [])
set_option maxHeartbeats 1600000 in
theorem join_all(N:Int)(a:Option Addr)(l:List A)(cap:Nat)(b:Option Addr)(xs:List Int)(bc:Nat)(bd:Int)(w:World)(hl:l.length≤9223372036854775807)(hx:xs.length≤9223372036854775807)(hr:Arcs w a l)(hi:Ints w b xs):
  Calls Tryz.prog 69 #[.agg #[.int .i64 N, .slice a l.length cap], .slice b xs.length bc, .int .i64 bd] w fun e w'=> ∃v c E,e= .returned (.tuple #[.slice v E.length c, .int .i64 (jnE N l xs bd)])∧w'.ownsRow w.heap.size 3 1 (.slice v E.length c) E.length (cellsI (ints E))∧Hid (JnR N l xs bd E)∧Below w.heap.size w w':=by
 by_cases h0:ckE N l xs bd=0
 ·obtain⟨h1,h2,h3,h4,h5⟩:=ckE_zero h0
  by_cases h6:((mxL (szL xs) ((szL xs).length - 1):Nat):Int)≤bd
  ·have hj:jnE N l xs bd=0:=by unfold jnE;rw[if_neg (by rw[h0];simp),if_neg (by omega)]
   have HJR:Hid (∀E,(∃F,Jn (prl l) bd.toNat (xs.map Int.toNat) F∧E=tdL F)→JnR N l xs bd E):=fun E h=>⟨fun _=>h,fun h7=>absurd hj h7⟩
   obtain⟨L,HL⟩:=named (xs.map Int.toNat)
   have e1:xs=ints L:=by rw[←HL.out];exact right_ints h3
   have e2:L.length=xs.length:=by rw[←HL.out,List.length_map]
   obtain⟨B,rfl⟩: ∃B:Nat,bd=(B:Int):=⟨bd.toNat,by omega⟩
   rw[hj]
   rw[HL.out,Int.toNat_natCast] at HJR
   obtain rfl:N=((xs.length:Nat):Int):=h2.symm
   have h7:=(chk_zero h1).1
   obtain⟨ad,rfl⟩: ∃ad,b=some ad:=by
    rcases hi with rfl | ⟨g,o,hab,_⟩
    ·simp at h7
    ·exact⟨_,hab⟩
   rw[e1] at hi h3 h6
   refine((e2▸join_ok L.length a l cap ad L bc B w (e2▸h1) rfl h3 (by omega) (by omega) (by omega) hr hi:)).mono ?_
   rintro e w' ⟨v,c,E,rfl,ho,hE,hb⟩
   exact⟨v,c,E,rfl,ho,HJR.out E hE.out,hb⟩
  ·have hj:jnE N l xs bd=90:=by unfold jnE;rw[if_neg (by rw[h0];simp),if_pos (by omega)]
   have HJR:Hid (JnR N l xs bd []):=⟨fun h7=>absurd (hj.symm.trans h7) (by decide),fun _=>rfl⟩
   rw[hj]
   have hb0:Below w.heap.size w (w.alloc (.cells #[.int .i64 N, .slice a l.length cap] 24)):=(Below.refl _ _).alloc (Nat.le_refl _) _
   have hg:=heap_top w (.cells #[.int .i64 N, .slice a l.length cap] 24)
   have HB0:=hid hb0
   have hwz:w.heap.size≤(w.alloc (.cells #[.int .i64 N, .slice a l.length cap] 24)).heap.size:=hb0.size
   have HSZ:=hid (scheck_any N a l cap b xs bc bd (w.alloc (.cells #[.int .i64 N, .slice a l.length cap] 24)) hl hx (hr.on hb0) (hi.on hb0))
   rw[h0,if_pos rfl] at HSZ
   have hN:=(chk_zero h1).2.1
   have hN1:=(chk_zero h1).1
   have e1:xs=ints (xs.map Int.toNat):=right_ints h3
   have hS0:0<(szL xs).length:=by rw[e1];exact szL_pos (e1▸h3) (by rw[List.length_map];omega)
   have hS1:(szL xs).length≤1024:=Nat.le_trans (szL_length _) (by omega)
   obtain⟨S,HS⟩:=named (szL xs)
   rw[HS.out] at HSZ hS0 hS1 h6
   clear hb0 hr hi hj h0 h3 e1 h2 h1
   generalize hp:w.heap.size=p at*
   obtain⟨⟨c0,c1⟩,_⟩:=two_cells hg
   go_enter Tryz.func69,Tryz.ntmps69
   go_wp2_with fail
   generalize hW:w.alloc (.cells #[.int .i64 N, .slice a l.length cap] 24)=W at*
   clear hW
   refine HSZ.out.mono ?_
   rintro e w1 ⟨v1,c1',S',rfl,hown1,rfl,hb1⟩
   have HB1:Hid (Below p w w1):=HB0.out.trans (hb1.mono hwz)
   have hp1:p≤w1.heap.size:=Nat.le_trans hwz hb1.size
   have HII:=hid (own_ints hown1 rfl)
   clear hown1 hb1 HSZ hg c0 c1
   go_wp2_with fail
   refine(max_any _ S' c1' w1 hS0 hS1 HII.out).mono ?_
   rintro e w2 ⟨rfl,hb2⟩
   have HB2:Hid (Below p w w2):=HB1.out.trans (hb2.mono hp1)
   have hm':bd<((mxL S' (S'.length - 1):Nat):Int):=by omega
   generalize mxL S' (S'.length - 1)=mx at*
   clear hb2 h6
   go_wp2_with fail
   go_ret2
   exact⟨none,0,[],rfl,World.ownsRow_nil _ _ _ _,HJR,HB2.out⟩
 ·have hj:jnE N l xs bd=ckE N l xs bd:=by unfold jnE;rw[if_pos h0]
  have HJR:Hid (JnR N l xs bd []):=⟨fun h7=>absurd (hj.symm.trans h7) h0,fun _=>rfl⟩
  rw[hj]
  have hb0:Below w.heap.size w (w.alloc (.cells #[.int .i64 N, .slice a l.length cap] 24)):=(Below.refl _ _).alloc (Nat.le_refl _) _
  have hg:=heap_top w (.cells #[.int .i64 N, .slice a l.length cap] 24)
  have HB0:=hid hb0
  have hwz:w.heap.size≤(w.alloc (.cells #[.int .i64 N, .slice a l.length cap] 24)).heap.size:=hb0.size
  have HSZ:=hid (scheck_any N a l cap b xs bc bd (w.alloc (.cells #[.int .i64 N, .slice a l.length cap] 24)) hl hx (hr.on hb0) (hi.on hb0))
  rw[if_neg h0] at HSZ
  clear hj
  obtain⟨E,HE⟩:=named (ckE N l xs bd)
  rw[HE.out] at HSZ h0 ⊢
  clear hb0 hr hi
  generalize hp:w.heap.size=p at*
  obtain⟨⟨c0,c1⟩,_⟩:=two_cells hg
  go_enter Tryz.func69,Tryz.ntmps69
  go_wp2_with fail
  generalize hW:w.alloc (.cells #[.int .i64 N, .slice a l.length cap] 24)=W at*
  clear hW
  refine HSZ.out.mono ?_
  rintro e w1 ⟨v1,c1',S',rfl,hown1,rfl,hb1⟩
  have HB1:Hid (Below p w w1):=HB0.out.trans (hb1.mono hwz)
  have e1:(E != 0)=true:=by simpa using h0
  clear hown1 hb1 HSZ hg c0 c1
  go_wp2_with fail
  go_ret2
  exact⟨none,0,[],rfl,World.ownsRow_nil _ _ _ _,HJR,HB1.out⟩
end Go.Proofs.YtmenajiceaicpaaGreat
