import Derived.Test.YtmenajiceaicpaaGreatZAY
import Derived.Test.YtmenajiceaicpaaGreatZNB
open Go.Lib (hid)
set_option maxRecDepth 100000
namespace Go.Proofs.YtmenajiceaicpaaGreat
open Go.RowKit
def wl:List A:=[⟨0,1,0⟩,⟨1,2,0⟩,⟨2,0,0⟩,⟨3,4,0⟩,⟨4,5,0⟩,⟨5,3,0⟩,⟨2,3,0⟩]
def wP:List Pr:=[⟨0,1⟩,⟨0,2⟩,⟨1,2⟩,⟨2,3⟩,⟨3,4⟩,⟨3,5⟩,⟨4,5⟩]
theorem wl_chk:chkE 6 wl=0:=by decide
theorem wl_prl:prl wl=wP:=by
 refine sorted_one (prl_sorted wl) ?_ (fun x=> ?_)
 ·simp[ltP,wP]
 ·rw[prl_mem (by decide)]
  obtain⟨a,b⟩:=x
  simp only[nr,wl,wP,List.any_cons,List.any_nil,Bool.or_false,Bool.or_eq_true,Bool.and_eq_true,beq_iff_eq,List.mem_cons,Pr.mk.injEq,List.not_mem_nil,or_false]
  omega
theorem wl_reg:reg 6 wl 0 3=[0,1,2]:=by decide
theorem wl_core:core 6 wl 0 3=[0]:=by unfold core;rw[wl_reg];rfl
def wE:List F6.A:=[⟨0,2,1⟩,⟨2,0,1⟩,⟨0,3,1⟩,⟨3,0,1⟩,⟨2,3,1⟩,⟨3,2,1⟩,⟨3,1,1⟩,⟨1,3,1⟩]
theorem wl_dN:dN 6 wl 0 3=nd [0,1,2] 1:=by unfold dN;rw[wl_reg,wl_core];rfl
theorem wl_nN:nN 6 wl 0 3=4:=by unfold nN;rw[wl_reg,wl_core];rfl
theorem wl_eN:eN 6 wl 0 3=wE:=by unfold eN;rw[wl_prl,wl_dN];decide
def wf(j:Nat):Int:=if j=2∨j=6 then 1 else 0
def wk(v:Nat):Int:=if v=0 then 0 else if v=2 then 1 else if v=3 then 2 else -1
theorem wl_cf:Cf 6 wl 0 3 wf wk:=by
 refine⟨?_,?_,rfl⟩
 ·rw[wl_nN,wl_eN]
  exact⟨by decide,by decide,by decide⟩
 ·rw[wl_nN,wl_eN]
  refine⟨rfl,?_,by decide,fun _=>by decide⟩
  intro v hv
  match v,hv with
  | 0,_=>exact fun _=> .inl rfl
  | 1,_=>exact fun h=>absurd rfl h
  | 2,_=>exact fun _=> .inr ⟨0,by decide,by decide,by decide,by decide,by decide⟩
  | 3,_=>exact fun _=> .inr ⟨8,by decide,by decide,by decide,by decide,by decide⟩
  | v+4,h=>exact absurd h (by omega)
theorem wl_cut{xs:List Pr}(h:CutIs 6 wl 0 3 xs):xs=[⟨2,3⟩]:=by
 refine h.one (by decide) (by decide) (by decide) (by decide) ?_
 unfold CutIs
 rw[if_neg (by rw[wl_reg];decide)]
 refine⟨wf,wk,wl_cf,?_⟩
 unfold cutP
 rw[wl_prl,wl_dN]
 decide
theorem wl_marks{xs:List Pr}(h:MarksIs 6 wl [0] 3 xs):xs=[⟨2,3⟩]:=by
 obtain⟨cf,h1,rfl⟩:=h
 have h2:=wl_cut (h1 0 (by simp))
 rw[wl_prl]
 refine Eq.trans (List.filter_congr (q:=fun p=>decide (p=⟨2,3⟩)) (fun p _=> ?_)) (by decide)
 rw[decide_eq_decide]
 simp[h2]
theorem wl_others:others wl [⟨2,3⟩]=[⟨0,1⟩,⟨0,2⟩,⟨1,2⟩,⟨3,4⟩,⟨3,5⟩,⟨4,5⟩]:=by unfold others;rw[wl_prl];decide
theorem wl_frE:frE 6 wl [⟨2,3⟩]=0:=by decide
theorem wl_frL:frL 6 wl [⟨2,3⟩]=[0,0,0,1,1,1]:=by unfold frL;rw[if_pos wl_frE,wl_others];decide
instance (P:List Pr) (L:List Nat) (B a b:Nat):Decidable (Fit P L B a b):=by unfold Fit;exact inferInstance
instance (n a b m c d:Nat):Decidable (noWorse n a b m c d):=by unfold noWorse;exact inferInstance
theorem Bst.of{P:List Pr}{L:List Nat}{B a b:Nat}(hP:PIn P L.length)(h:Fit P L B a b)(h2: ∀c,c∈L→∀d,d∈L→Fit P L B c d→noWorse (bw P L a b) a b (bw P L c d) c d):Bst P L B a b:=
 ⟨h,fun c d hf=>h2 c (hf.mem hP).1 d (hf.mem hP).2 hf⟩
theorem noFit{P:List Pr}{L:List Nat}{B:Nat}(hP:PIn P L.length)(h: ∀c,c∈L→∀d,d∈L→¬Fit P L B c d): ∀a b,¬Fit P L B a b:=fun a b hf=>h a (hf.mem hP).1 b (hf.mem hP).2 hf
theorem wP_in:PIn wP 6:=by unfold PIn;decide
def wL:List Nat:=[0,0,0,1,1,1]
def wZ:List Nat:=[0,0,0,0,0,0]
theorem wl_join1:Jn (prl wl) 3 wL wL:=by
 rw[wl_prl]
 exact .stop (noFit wP_in (by decide))
theorem wl_join2:Jn (prl wl) 6 wL wZ:=by
 rw[wl_prl]
 refine .step (a:=0) (b:=1) (Bst.of wP_in (by decide) (by decide)) ?_
 exact .stop (L:=wZ) (noFit wP_in (by decide))
theorem wL_right:tdy (ints wL) 0=true:=by decide
theorem wZ_right:tdy (ints wZ) 0=true:=by decide
theorem wl_cuL:cuL wl wL 3=wL:=by decide+kernel
theorem wl_low{L:List Nat}(h:LowIs 6 wl 3 [0] 0 L):L=wL:=by
 obtain⟨xs,L0,F,E,m,h1,h2,_,_,h5,h6,rfl⟩:=h
 rw[wl_marks h1] at h2
 have e0:L0=wL:=by
  have h3:ints L0=ints wL:=by rw[←h2];exact wl_frL
  have:=congrArg (List.map Int.toNat) h3
  simpa[ints,Function.comp_def] using this
 rw[e0,wl_cuL] at h5
 have e1:=wl_join1.one h5
 rw[←e1,tdL_self wL_right] at h6
 have e2:E=wL:=(h6.one .zero).1
 rw[e2,tdL_self wL_right]
theorem wl_up{r:List (List Nat)}(h:UpIs wl [6] wL r):r=[wZ]:=by
 cases h with
 | cons h hr=>
   cases hr
   have e1:=wl_join2.one h
   rw[←e1,tdL_self wZ_right]
end Go.Proofs.YtmenajiceaicpaaGreat
namespace Go.Proofs.YtmenajiceaicpaaGreat
open Go.RowKit Go.Maps
theorem t3_own{w:World}{B:Nat}{a:Option Addr}{c:Nat}{xs:List Int}(h:w.ownsRow B 3 1 (.slice a xs.length c) xs.length (T3.cellsI xs)):w.ownsRow B 3 1 (.slice a xs.length c) xs.length (cellsI xs):=h
theorem frag_right{n:Nat}{l:List A}{xs:List Pr}(hC:chkE n l=0)(hs: ∀p,p∈xs→p∈prl l)(hl:xs.length≤16384): ∃L0:List Nat,frL n l (xs.map toI)=ints L0∧L0.length=n∧tdy (ints L0) 0=true:=by
 have e:frL n l (xs.map toI)=T3.partsL n (arQ (others l (xs.map toI))):=by unfold frL;rw[if_pos (frE_good hC hs hl)]
 obtain⟨h1,h2,_⟩:=tdy_parts (others_ok hC (xs.map toI))
 have h3:=right_ints h1
 rw[←e] at h1 h2 h3
 refine⟨_,h3,?_,h3▸h1⟩
 rw[List.length_map,h2]
theorem MarksIs.sub{n:Nat}{l:List A}{cs:List Nat}{m:Nat}{xs:List Pr}(h:MarksIs n l cs m xs):(∀p,p∈xs→p∈prl l)∧xs.length≤(prl l).length:=by
 obtain⟨cf,_,rfl⟩:=h
 exact⟨fun p hp=>(List.mem_filter.1 hp).1,List.length_filter_le _ _⟩
set_option maxHeartbeats 1600000 in
theorem lowest_any(n:Nat)(a:Option Addr)(l:List A)(cap:Nat)(B:Nat)(ca:Option Addr)(cs:List Int)(cc:Nat)(mo:Int)(w:World)(hC:chkE n l=0)(hce:ceE n B cs=0)(hmo:0≤mo∧mo≤16384)(hIM:ImpC mo)(hr:Arcs w a l)(hi:Ints w ca cs):
  Calls Tryz.prog 55 #[.agg #[.int .i64 n, .slice a l.length cap], .int .i64 B, .slice ca cs.length cc, .int .i64 mo] w fun e w'=> ∃v c L,e= .returned (.tuple #[.slice v L.length c, .int .i64 0])∧w'.ownsRow w.heap.size 3 1 (.slice v L.length c) L.length (cellsI (ints L))∧Hid (LowIs n l B (cs.map Int.toNat) mo.toNat L)∧Below w.heap.size w w':=by
 obtain⟨h1n,hn,hl,_⟩:=chk_zero hC
 obtain⟨hcl,hB1,hB2,_⟩:=ceE_zero hce
 have hB1':1≤B:=by omega
 have hB2':B≤1024:=by omega
 have hb0:Below w.heap.size w (w.alloc (.cells #[.int .i64 n, .slice a l.length cap] 24)):=(Below.refl _ _).alloc (Nat.le_refl _) _
 have hg:=heap_top w (.cells #[.int .i64 n, .slice a l.length cap] 24)
 have HAR:=hid hr
 have HB0:=hid hb0
 have HC:=hid hC
 have HIM0:=hid hIM
 clear hIM
 have HMA:=hid (marks_any n B a l cap ca cs cc _ (by omega) (by omega) (hr.on hb0) (hi.on hb0))
 have e0:maE n B l cs=0:=by unfold maE;rw[if_neg (by rw[hC];simp),hce]
 rw[e0] at HMA
 have hpl:(prl l).length≤8192:=Nat.le_trans (prl_len l) hl
 clear hr hi hb0 hC hce e0
 generalize hp:w.heap.size=p at*
 obtain⟨⟨g0,g1⟩,_⟩:=two_cells hg
 have HG:=hid hg
 go_enter Tryz.func55,Tryz.ntmps55
 go_wp2_with fail
 generalize hW:w.alloc (.cells #[.int .i64 n, .slice a l.length cap] 24)=W at*
 clear hW hg
 have hpW:p<W.heap.size:=lt_of_block HG.out
 refine HMA.out.mono ?_
 rintro e w1 ⟨v1,c1,xs,rfl,hown1,hM1,_,hb1⟩
 have HM:=hid (hM1.out (by first | exact rfl | trivial))
 have HB1:Hid (Below p w w1):=HB0.out.trans (hb1.mono (by omega))
 have hk1:=(hb1.block p hpW).trans HG.out
 have hz1:=hb1.size
 have hsub:=HM.out.sub
 have HSUB:=hid hsub.1
 have hxl:xs.length≤8192:=by omega
 have HFR:=hid (frag_any n a l cap v1 (xs.map toI) c1 w1 (by omega) (by rw[List.length_map];omega) (HAR.out.on (by rw[hp];exact HB1.out)) (prs_I hown1.prs))
 obtain⟨L0,hL0,hL0n,hL0t⟩:=frag_right HC.out HSUB.out (by omega)
 rw[frE_good HC.out HSUB.out (by omega),hL0,List.length_map] at HFR
 have HL0:=hid hL0
 have HL0t:=hid hL0t
 have HL0n:=hid hL0n
 have hL0l:L0.length≤1024:=by omega
 clear hb1 hown1 hM1 HMA g0 g1 HB0 hsub hL0 hL0t hL0n
 obtain⟨⟨g0,g1⟩,_⟩:=two_cells hk1
 have HG1:=hid hk1
 clear hk1 HG
 go_wp2_with fail
 refine HFR.out.mono ?_
 rintro e w2 ⟨v2,c2,rfl,hown2,hb2⟩
 have HI2:=hid (ints_own (t3_own hown2))
 have HB2:Hid (Below p w w2):=HB1.out.trans (hb2.mono (by omega))
 have hz2:=hb2.size
 have hk2:=(hb2.block p (by omega)).trans HG1.out
 have HCU:=hid (cutUp_any n a l cap v2 (ints L0) c2 B w2 (by omega) (by rw[ints_len];omega) (HAR.out.on (by rw[hp];exact HB2.out)) HI2.out)
 rw[ckE_ok HC.out HL0n.out HL0t.out hB1' hB2',if_pos rfl,show(ints L0).map Int.toNat=L0 by simp[ints,Function.comp_def],Int.toNat_natCast,ints_len] at HCU
 clear hb2 hown2 HFR g0 g1 HB1 HG1 HI2
 obtain⟨⟨g0,g1⟩,_⟩:=two_cells hk2
 have HG2:=hid hk2
 clear hk2
 rw[ints_len]
 go_wp2_with fail
 refine HCU.out.mono ?_
 rintro e w3 ⟨v3,c3,P3,rfl,hown3,hP3,hb3⟩
 obtain⟨k1,k2,k3,_⟩:=cuL_holds HC.out HL0n.out HL0t.out hB1'
 rw[←hP3] at k1 k2 k3
 have HP3:=hid hP3
 have HK2:=hid k2
 have HK3:=hid k3
 have hP3n:P3.length=n:=by have:=HL0n.out;omega
 have HP3n:=hid hP3n
 have hP3l:P3.length≤1024:=by have:=HL0n.out;omega
 have HB3:Hid (Below p w w3):=HB2.out.trans (hb3.mono (by omega))
 have hz3:=hb3.size
 have hk3:=(hb3.block p (by omega)).trans HG2.out
 obtain⟨hj0,hjA⟩:=join_holds HC.out HP3n.out HK2.out HK3.out hB1' hB2'
 have HJA:=hid hjA
 have HJN:=hid (join_all n a l cap v3 (ints P3) c3 B w3 (by omega) (by rw[ints_len];omega) (HAR.out.on (by rw[hp];exact HB3.out)) (own_ints hown3 rfl))
 rw[hj0,ints_len] at HJN
 clear hb3 hown3 HCU g0 g1 HB2 HG2 k1 k2 k3 hP3 hP3n hjA hj0
 obtain⟨⟨g0,g1⟩,_⟩:=two_cells hk3
 have HG3:=hid hk3
 clear hk3
 go_wp2_with fail
 refine HJN.out.mono ?_
 rintro e w4 ⟨v4,c4,E4,rfl,hown4,hJ4,hb4⟩
 obtain⟨m1,m2,m3,_,F,m5,m6⟩:=HJA.out E4 hJ4.out
 have HM2:=hid m2
 have HM3:=hid m3
 have HM5:=hid m5
 have HM6:=hid m6
 have hE4n:E4.length=n:=by have:=HP3n.out;omega
 have HE4n:=hid hE4n
 have hE4l:E4.length≤1024:=by omega
 have HB4:Hid (Below p w w4):=HB3.out.trans (hb4.mono (by omega))
 have hz4:=hb4.size
 have hk4:=(hb4.block p (by omega)).trans HG3.out
 obtain⟨_,hlu⟩:=lu_ok HC.out (by rw[HE4n.out]) HM2.out hB1' hB2' HM3.out
 have HLU:=hid hlu
 have HIM:=hid (HIM0.out n a l cap v4 (ints E4) c4 B w4 (by omega) (by rw[ints_len];omega) (HAR.out.on (by rw[hp];exact HB4.out)) (own_ints hown4 rfl))
 have hie:imE n l (ints E4) B mo=0:=by unfold imE;rw[if_neg (by rw[hlu];simp),if_neg (by omega)]
 rw[hie,ints_len] at HIM
 clear hb4 hown4 HJN g0 g1 HB3 HG3 m1 m2 m3 m5 m6 hE4n hlu hie hJ4
 obtain⟨⟨g0,g1⟩,_⟩:=two_cells hk4
 clear hk4
 go_wp2_with fail
 refine HIM.out.mono ?_
 rintro e w5 ⟨v5,c5,m,out,rfl,hown5,hb5,hI5,_⟩
 have HB5:Hid (Below p w w5):=HB4.out.trans (hb5.mono (by omega))
 have HO5:=hid (own_base hown5 (show p≤w4.heap.size by omega))
 obtain⟨E,q1,q2,_⟩:=(hI5.out (by first | exact rfl | trivial)).right HLU.out
 have HLOW:Hid (LowIs n l B (cs.map Int.toNat) mo.toNat out):=⟨xs,L0,F,E,m,HM.out,HL0.out,HL0n.out,HL0t.out,HP3.out▸HM5.out,HM6.out▸q1,q2⟩
 clear hb5 hown5 hI5 q1 q2 HIM g0 g1
 go_wp2_with fail
 go_ret2
 exact⟨v5,c5,out,rfl,HO5.out,HLOW,HB5.out⟩
def RwO(w:World)(B:Nat)(v:Option Addr)(c:Nat)(C:List Cl):Prop:=
 w.ownsRow B 25 1 (.slice v C.length c) C.length (C.map Cl.val)∧∀j,j<C.length→w.ownsRow B 3 1 (cl C j).val (cl C j).xs.length (cellsI (cl C j).xs)
theorem RwO.on{w w':World}{B:Nat}{v:Option Addr}{c:Nat}{C:List Cl}(h:RwO w B v c C)(hb:Below w.heap.size w w'):RwO w' B v c C:=⟨own_on h.1 hb,fun j hj=>own_on (h.2 j hj) hb⟩
theorem RwO.rws{w:World}{B:Nat}{v:Option Addr}{c:Nat}{C:List Cl}(h:RwO w B v c C)(hx: ∀j,j<C.length→(cl C j).xs.length≤9223372036854775807):Rws w v C:=by
 refine⟨?_,fun j hj=>⟨ints_own (h.2 j hj),hx j hj⟩⟩
 rcases h.1.2 with ⟨_,h0⟩ | ⟨g,c',cur,h',hb,hg,_⟩
 ·exact .inl (List.eq_nil_of_length_eq_zero h0)
 ·injection h' with e1 e2 e3
  subst e1
  refine .inr ⟨g,0,rfl,lt_of_block hg,fun j hj=> ?_⟩
  have h1:=World.ownsRow.cellAt h.1 j (by simpa using hj)
  rw[Nat.zero_add]
  refine h1.trans ?_
  simp[cl,List.getD,hj]
def UpM(w:World)(B:Nat)(v:Option Addr)(c:Nat)(l:List A)(bs L:List Nat):Prop:= ∃C r,C.length=bs.length+1∧RwO w B v c C∧UpIs l bs L r∧csl C=(L::r).map ints
theorem cl_snoc{C:List Cl}{x:Cl}{j:Nat}(hj:j<C.length):cl (C++[x]) j=cl C j:=by simp[cl,List.getD,List.getElem?_append_left hj]
theorem cl_end(C:List Cl)(x:Cl):cl (C++[x]) C.length=x:=by simp[cl,List.getD]
theorem newsC(w:World)(v:Value): ∀j u,[v][j]? =some u→(w.alloc (.cells #[v] 25)).cell? ((⟨w.heap.size,0,none⟩:Addr).add j)=some u:=by
 intro j u hu
 have h:=heap_top w (.cells #[v] 25)
 rw[Go.WideShapes.add_plain,Nat.zero_add]
 generalize w.alloc (.cells #[v] 25)=W at*
 generalize w.heap.size=b at*
 match j,hu with
 | 0,hu=>simp at hu;subst hu;simp[World.cell?,h]
theorem ris_drop{bb:Nat}: ∀ {bs:List Nat} {k:Nat},Ris bb bs→k<bs.length→Ris (bs.getD k 0) (bs.drop (k+1))∧bs.getD k 0≤1024∧(if k=0 then bb else bs.getD (k - 1) 0)<bs.getD k 0
 | [],k,_,h=>absurd h (by simp)
 | b::bs,0,h,_=>⟨h.2.2,h.2.1,h.1⟩
 | b::bs,k+1,h,hk=>by
   have ih:=ris_drop (bb:=b) (k:=k) h.2.2 (by simpa using hk)
   refine⟨ih.1,ih.2.1,?_⟩
   rw[if_neg (by omega)]
   have e:=ih.2.2
   cases k with
   | zero=>exact e
   | succ k=>rw[if_neg (by omega)] at e;exact e
theorem getLast_eq(L:List Nat)(r:List (List Nat)):(L::r).getLast (by simp)=(L::r).getD r.length []:=by
 rw[List.getLast_eq_getElem]
 simp[List.getD]
set_option maxHeartbeats 3200000 in
theorem upwards_any(n:Nat)(a:Option Addr)(l:List A)(cap:Nat)(B:Nat)(va:Option Addr)(L:List Nat)(vc:Nat)(ba:Option Addr)(bs:List Nat)(bc:Nat)(bb:Nat)(w:World)(hC:chkE n l=0)(hL:L.length=n)(hT:tdy (ints L) 0=true)(hU:Und bb L)(hRis:Ris bb bs)(h5:bs.length≤5)(hB:B≤w.heap.size)(hr:Arcs w a l)(hi:Ints w ba (ints bs))(ho:w.ownsRow B 3 1 (.slice va L.length vc) L.length (cellsI (ints L))):
  Calls Tryz.prog 56 #[.agg #[.int .i64 n, .slice a l.length cap], .slice va L.length vc, .slice ba bs.length bc] w fun e w'=> ∃v c,e= .returned (.tuple #[.slice v (bs.length+1) c, .int .i64 0])∧Hid (UpM w' B v c l bs L)∧Below w.heap.size w w':=by
 obtain⟨h1n,hn,hl,_⟩:=chk_zero hC
 obtain⟨i25,hi25,hz25,hs25,hby25⟩:=info_parts info25
 have hb0:Below w.heap.size w (w.alloc (.cells #[.int .i64 n, .slice a l.length cap] 24)):=(Below.refl _ _).alloc (Nat.le_refl _) _
 have hg:=heap_top w (.cells #[.int .i64 n, .slice a l.length cap] 24)
 have HAR:=hid hr
 have HI:=hid hi
 have HB0:=hid hb0
 have HC:=hid hC
 have HL:=hid hL
 have HT:=hid hT
 have HU:=hid hU
 have HRIS:=hid hRis
 have HO:=hid ho
 have hLl:L.length≤1024:=by omega
 obtain⟨ib,ob,hib⟩:=hi.get
 have HIB:=hid hib
 clear hr hi hb0 hC hL hT hU hRis ho hib
 generalize hp:w.heap.size=p at*
 obtain⟨⟨a0,a1⟩,_⟩:=two_cells hg
 go_enter Tryz.func56,Tryz.ntmps56
 go_wp2_with fail
 have hbx:Below w.heap.size w ((w.alloc (.cells #[.int .i64 n, .slice a l.length cap] 24)).alloc (.cells #[.slice va L.length vc] 25)):=(top2 w _ _).2.2.1
 have HG:Hid (((w.alloc (.cells #[.int .i64 n, .slice a l.length cap] 24)).alloc (.cells #[.slice va L.length vc] 25)).heap[p]? =some (.cells #[.int .i64 n, .slice a l.length cap] 24)):=hp▸ (top2 w _ _).1
 have HR1:Hid (((w.alloc (.cells #[.int .i64 n, .slice a l.length cap] 24)).alloc (.cells #[.slice va L.length vc] 25)).ownsRow B 25 1 (.slice (some ⟨p+1,0,none⟩) 1 1) 1 [.slice va L.length vc]):=by
  have h:=World.ownsRow_lit (base:=B) (e:=25) (size:=1) (w.alloc (.cells #[.int .i64 n, .slice a l.length cap] 24)) #[.slice va L.length vc] 1 (by simp;omega) (by decide) rfl
  rw[World.size_alloc,hp] at h
  exact h
 have HO1:=hid (own_on HO.out hbx)
 have HBX:Hid (Below p w ((w.alloc (.cells #[.int .i64 n, .slice a l.length cap] 24)).alloc (.cells #[.slice va L.length vc] 25))):=hp▸hbx
 clear a0 a1 hg HB0 hbx HO
 generalize hW:(w.alloc (.cells #[.int .i64 n, .slice a l.length cap] 24)).alloc (.cells #[.slice va L.length vc] 25)=W at*
 clear hW
 go_loopw [1,8,17] (fun s1 s8 i wr=> ∃ (k:Nat) (av:Option Addr) (cv:Nat) (C:List Cl) (r:List (List Nat)) (ka:Option Addr) (K:List Nat) (kc:Nat),k≤bs.length∧i= .int .i64 k∧s8= .slice av (k+1) cv∧s1= .slice ka K.length kc∧K.length≤1024∧Hid (C.length=k+1∧RwO wr B av cv C∧cl C k=⟨ka,kc,ints K⟩∧UpIs l (bs.take k) L r∧csl C=(L::r).map ints∧(L::r).getD k []=K)∧Hid (∀j,(Value.slice av (k+1) cv).ownBlock=some j→p<j)∧Hid (K.length=n∧tdy (ints K) 0=true∧Und (if k=0 then bb else bs.getD (k - 1) 0) K)∧Hid (wr.heap[p]? =some (.cells #[.int .i64 n, .slice a l.length cap] 24))∧Hid (Below p w wr)) (fun _ _ i _=>bs.length - (intOf i).toNat)
 case atStart=>exact⟨0,some ⟨p+1,0,none⟩,1,[⟨va,vc,ints L⟩],[],va,L,vc,Nat.zero_le _,rfl,rfl,rfl,hLl,⟨rfl,⟨by show World.ownsRow _ _ _ _ _ 1 [Value.slice va (ints L).length vc];rw[ints_len];exact HR1.out,fun j hj=>by
   obtain rfl:j=0:=by simpa using hj
   show World.ownsRow _ _ _ _ (Value.slice va (ints L).length vc) (ints L).length (cellsI (ints L))
   rw[ints_len]
   exact HO1.out⟩,rfl, .nil,rfl,rfl⟩,fun j hj=>by
   have:p+1=j:=Option.some.inj hj
   omega,⟨HL.out,HT.out,HU.out⟩,HG,HBX⟩
 case round=>
  obtain⟨k,av,cv,C,r,ka,K,kc,hk,rfl,rfl,rfl,hKl,HCC,HOB,HKK,HGP,HBR⟩:=hrel
  have hwr:p<wr.heap.size:=lt_of_block HGP.out
  by_cases hlk:k<bs.length
  ·obtain⟨rfl,hbl2,hat⟩:=HIB.out (by rw[ints_len];omega)
   have hlk':(k:Int)<bs.length:=by omega
   have y0:=(HBR.out.cell (p:=⟨ib,ob+k,none⟩) (hp▸hbl2)).trans (hat k (by rw[ints_len];exact hlk))
   rw[ints_getD hlk] at y0
   obtain⟨g1,g2,g3⟩:=ris_drop HRIS.out hlk
   have HOK:Hid (wr.ownsRow B 3 1 (.slice ka K.length kc) K.length (cellsI (ints K))):=by
    have h:=HCC.out.2.1.2 k (by rw[HCC.out.1];omega)
    rw[HCC.out.2.2.1] at h
    have h':wr.ownsRow B 3 1 (.slice ka (ints K).length kc) (ints K).length (cellsI (ints K)):=h
    rw[ints_len] at h'
    exact h'
   obtain⟨b,HBD⟩:=named (bs.getD k 0)
   rw[HBD.out] at y0 g1 g2 g3
   have hb1:1≤b:=by omega
   obtain⟨k1,k2,k3⟩:=HKK.out
   have HUK:=hid (und_mono k3 (Nat.le_of_lt g3))
   have HJH:=hid (join_holds HC.out k1 k2 HUK.out hb1 g2)
   have HJN:=hid (join_all n a l cap ka (ints K) kc b wr (by omega) (by rw[ints_len];omega) (HAR.out.on (by rw[hp];exact HBR.out)) (own_ints HOK.out rfl))
   rw[HJH.out.1,ints_len] at HJN
   obtain⟨⟨a0,a1⟩,_⟩:=two_cells HGP.out
   clear hat k1 k2 k3 g1 g3
   go_wp2_with fail
   refine HJN.out.mono ?_
   rintro e w1 ⟨ve,ce,E,rfl,hown,hJ,hb1'⟩
   obtain⟨m1,m2,m3,_,F,m5,m6⟩:=HJH.out.2 E hJ.out
   have hEl:E.length≤1024:=by omega
   have HEE:Hid (E.length=n∧tdy (ints E) 0=true∧Und b E):=⟨by have:=HKK.out.1;omega,m2,m3⟩
   have HJF:Hid (Jn (prl l) b K F∧E=tdL F):=⟨m5,m6⟩
   have HOE:=hid (own_base hown (show B≤wr.heap.size by omega))
   have HCO:=hid (HCC.out.2.1.on hb1')
   have HB1:Hid (Below p w w1):=HBR.out.trans (hb1'.mono (by omega))
   have HGP1:=hid ((hb1'.block p hwr).trans HGP.out)
   have hz1:=hb1'.size
   clear hb1' hown hJ HJN m1 m2 m3 m5 m6 a0 a1 HOK HJH HUK HGP HBR
   have hlt5:k+1+1≤6:=by omega
   have hCl:=HCC.out.1
   have HRR:Hid (w1.ownsRow B 25 1 (.slice av (k+1) cv) (k+1) (C.map Cl.val)):=hCl▸HCO.out.1
   clear hCl
   have hba:Below w1.heap.size w1 (w1.alloc (.cells #[.slice ve E.length ce] 25)):=(Below.refl _ _).alloc (Nat.le_refl _) _
   have HO2:=hid (own_on HRR.out hba)
   have HNW:=hid (newsC w1 (.slice ve E.length ce))
   have HBZ:Hid (B≤(w1.alloc (.cells #[.slice ve E.length ce] 25)).heap.size):=by show _≤_;simp;omega
   have HBB:Hid (Below p w (w1.alloc (.cells #[.slice ve E.length ce] 25))):=HB1.out.trans (hba.mono (by omega))
   have HOL:Hid (∀j,(Value.slice av (k+1) cv).ownBlock=some j→B≤j):=fun j hj=>(HRR.out.lt j hj).1
   have HOLP:Hid (∀j,(Value.slice av (k+1) cv).ownBlock=some j→p<j):=fun j hj=>HOB.out j hj
   have HOE2:=hid (own_on HOE.out hba)
   have HCO2:Hid (∀j,j<C.length→(w1.alloc (.cells #[.slice ve E.length ce] 25)).ownsRow B 3 1 (cl C j).val (cl C j).xs.length (cellsI (cl C j).xs)):=fun j hj=>own_on (HCO.out.2 j hj) hba
   have HGP2:=hid ((hba.block p (by omega)).trans HGP1.out)
   have hza:(w1.alloc (.cells #[.slice ve E.length ce] 25)).heap.size=w1.heap.size+1:=by simp
   clear hba HRR
   go_wp2_with (at_builtin;go_must (refine wpList_append_own_at _ rfl (.tmp 31) (.tmp 33) 26 rfl B 25 i25 (.slice none 0 0) 1 24 Tryz.underlying26 hi25 hz25 hs25 hby25 rfl (by decide) (.slice av (k+1) cv) (k+1) (C.map Cl.val) rfl HO2.out ⟨w1.heap.size,0,none⟩ 1 1 [.slice ve E.length ce] rfl rfl HNW.out (fun u hu=>by rw[List.mem_singleton] at hu;rw[hu];rfl) (by unfold maxLen;omega) (by omega) HBZ.out ?_;intro v6 w6 hown6 hgrow6 hnil6 hat6;obtain⟨g6,c6,hv6,_,_,_,_⟩:=own_shape hown6 (fun e=>by have:=hnil6.1 e;simp at this);subst hv6;have HOB6:=hid hat6;have HO6:=hid hown6;have HOE6:=hid (own_kept HOE2.out HO2.out (by decide) hgrow6);have HCO6:Hid (∀j,j<C.length→w6.ownsRow B 3 1 (cl C j).val (cl C j).xs.length (cellsI (cl C j).xs)):=fun j hj=>own_kept (HCO2.out j hj) HO2.out (by decide) hgrow6;have HGP6:=hid ((hgrow6.block p (by omega) (fun e=>by have:=HOLP.out p e.symm;omega)).trans HGP2.out);have HB6:Hid (Below p w w6):=HBB.out.grown hgrow6 (by omega) (fun j hj=>Nat.le_of_lt (HOLP.out j hj));clear hown6 hgrow6 hnil6 hat6))
   refine⟨⟨k+1,some ⟨g6,0,none⟩,c6,C++[⟨ve,ce,ints E⟩],r++[E],ve,E,ce,hlk,by simp,rfl,rfl,hEl,?_,?_,?_,HGP6,HB6⟩,by simp[intOf];omega⟩
   ·obtain⟨q1,q2,q3,q4,q5,q6⟩:=HCC.out
    have hrl:r.length=k:=by have:=q4.len;rw[List.length_take] at this;omega
    have e1:E=tdL F:=HJF.out.2
    refine⟨by rw[List.length_append,q1];rfl,⟨?_,fun j hj=> ?_⟩,?_,?_,?_,?_⟩
    ·rw[List.length_append,q1,List.map_append]
     have h:=HO6.out
     have e2:(C.map Cl.val++[⟨ve,ce,ints E⟩].map Cl.val)=C.map Cl.val++[Value.slice ve E.length ce]:=by simp[Cl.val,ints_len]
     rw[e2]
     exact h
    ·rw[List.length_append] at hj
     by_cases e:j=C.length
     ·subst e
      rw[cl_end]
      show World.ownsRow _ _ _ _ (Value.slice ve (ints E).length ce) (ints E).length (cellsI (ints E))
      rw[ints_len]
      exact HOE6.out
     ·rw[cl_snoc (by simp at hj;omega)]
      exact HCO6.out j (by simp at hj;omega)
    ·rw[←q1,cl_end]
    ·rw[e1,List.take_succ_eq_append_getElem hlk]
     refine q4.snoc ?_
     rw[getLast_eq,hrl,q6]
     have e2:bs[k]=b:=by rw[←HBD.out];simp[List.getD,hlk]
     rw[e2]
     exact HJF.out.1
    ·show(C++[_]).map Cl.xs=_
     rw[List.map_append,show C.map Cl.xs=(L::r).map ints from q5]
     simp
    ·rw[←hrl]
     simp[List.getD]
   ·intro j hj
    rcases HOB6.out with h | h
    ·exact HOLP.out j (h.symm.trans hj)
    ·have:=Option.some.inj (h.symm.trans hj)
     omega
   ·rw[if_neg (by omega),show k+1 - 1=k by omega,HBD.out]
    exact HEE.out
  ·have hlk': ¬(k:Int)<bs.length:=by omega
   have hkk:k=bs.length:=by omega
   have HFIN:Hid (UpM wr B av cv l bs L):=by
    obtain⟨q1,q2,_,q4,q5,_⟩:=HCC.out
    subst hkk
    rw[List.take_length] at q4
    exact⟨C,r,q1,q2,q4,q5⟩
   clear HCC HKK
   subst hkk
   go_wp2_with fail
   go_ret2
   exact⟨av,cv,rfl,HFIN,HBR.out⟩
end Go.Proofs.YtmenajiceaicpaaGreat
