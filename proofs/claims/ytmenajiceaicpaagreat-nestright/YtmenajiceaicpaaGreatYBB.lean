import Derived.Test.YtmenajiceaicpaaGreatYBA
import Derived.Test.YtmenajiceaicpaaGreatYNC
open Go.Lib (hid)
set_option maxRecDepth 100000
namespace Go.Proofs.YtmenajiceaicpaaGreat
open Go.RowKit Go.Maps
def RwO(w:World)(B:Nat)(v:Option Addr)(c:Nat)(C:List Cl):Prop:=
 w.ownsRow B 25 1 (.slice v C.length c) C.length (C.map Cl.val)∧∀j,j<C.length→w.ownsRow B 3 1 (cl C j).val (cl C j).xs.length (cellsI (cl C j).xs)
theorem RwO.on{w w':World}{B:Nat}{v:Option Addr}{c:Nat}{C:List Cl}(h:RwO w B v c C)(hb:Below w.heap.size w w'):RwO w' B v c C:=⟨own_on h.1 hb,fun j hj=>own_on (h.2 j hj) hb⟩
theorem RwO.rws{w:World}{B:Nat}{v:Option Addr}{c:Nat}{C:List Cl}(h:RwO w B v c C)(hx: ∀j,j<C.length→(cl C j).xs.length≤9223372036854775807):Rws w v C:=by
 refine⟨?_,fun j hj=>⟨ints_own (h.2 j hj),hx j hj⟩⟩
 rcases h.1.2 with ⟨_,h0⟩ | ⟨g,c',cur,h',hb,hg,_⟩
 ·exact .inl (List.eq_nil_of_length_eq_zero h0)
 ·injection h' with e1 e2 e3
  subst e1
  refine .inr ⟨g,0,rfl,lt_of_block hg,fun j hj=> ?_⟩
  have h1:=World.ownsRow.cellAt h.1 j (by simpa using hj)
  rw[Nat.zero_add]
  refine h1.trans ?_
  simp[cl,List.getD,hj]
def UpM(w:World)(B:Nat)(v:Option Addr)(c:Nat)(l:List A)(bs L:List Nat):Prop:= ∃C r,C.length=bs.length+1∧RwO w B v c C∧UpIs l bs L r∧csl C=(L::r).map ints
theorem cl_snoc{C:List Cl}{x:Cl}{j:Nat}(hj:j<C.length):cl (C++[x]) j=cl C j:=by simp[cl,List.getD,List.getElem?_append_left hj]
theorem cl_end(C:List Cl)(x:Cl):cl (C++[x]) C.length=x:=by simp[cl,List.getD]
theorem newsC(w:World)(v:Value): ∀j u,[v][j]? =some u→(w.alloc (.cells #[v] 25)).cell? ((⟨w.heap.size,0,none⟩:Addr).add j)=some u:=by
 intro j u hu
 have h:=heap_top w (.cells #[v] 25)
 rw[Go.WideShapes.add_plain,Nat.zero_add]
 generalize w.alloc (.cells #[v] 25)=W at*
 generalize w.heap.size=b at*
 match j,hu with
 | 0,hu=>simp at hu;subst hu;simp[World.cell?,h]
theorem ris_drop{bb:Nat}: ∀ {bs:List Nat} {k:Nat},Ris bb bs→k<bs.length→Ris (bs.getD k 0) (bs.drop (k+1))∧bs.getD k 0≤1024∧(if k=0 then bb else bs.getD (k - 1) 0)<bs.getD k 0
 | [],k,_,h=>absurd h (by simp)
 | b::bs,0,h,_=>⟨h.2.2,h.2.1,h.1⟩
 | b::bs,k+1,h,hk=>by
   have ih:=ris_drop (bb:=b) (k:=k) h.2.2 (by simpa using hk)
   refine⟨ih.1,ih.2.1,?_⟩
   rw[if_neg (by omega)]
   have e:=ih.2.2
   cases k with
   | zero=>exact e
   | succ k=>rw[if_neg (by omega)] at e;exact e
theorem getLast_eq(L:List Nat)(r:List (List Nat)):(L::r).getLast (by simp)=(L::r).getD r.length []:=by
 rw[List.getLast_eq_getElem]
 simp[List.getD]
set_option maxHeartbeats 3200000 in
theorem upwards_any(n:Nat)(a:Option Addr)(l:List A)(cap:Nat)(B:Nat)(va:Option Addr)(L:List Nat)(vc:Nat)(ba:Option Addr)(bs:List Nat)(bc:Nat)(bb:Nat)(w:World)(hC:chkE n l=0)(hL:L.length=n)(hT:tdy (ints L) 0=true)(hU:Und bb L)(hRis:Ris bb bs)(h5:bs.length≤5)(hB:B≤w.heap.size)(hr:Arcs w a l)(hi:Ints w ba (ints bs))(ho:w.ownsRow B 3 1 (.slice va L.length vc) L.length (cellsI (ints L))):
  Calls Tryz.prog 56 #[.agg #[.int .i64 n, .slice a l.length cap], .slice va L.length vc, .slice ba bs.length bc] w fun e w'=> ∃v c,e= .returned (.tuple #[.slice v (bs.length+1) c, .int .i64 0])∧Hid (UpM w' B v c l bs L)∧Below w.heap.size w w':=by
 obtain⟨h1n,hn,hl,_⟩:=chk_zero hC
 obtain⟨i25,hi25,hz25,hs25,hby25⟩:=info_parts info25
 have hb0:Below w.heap.size w (w.alloc (.cells #[.int .i64 n, .slice a l.length cap] 24)):=(Below.refl _ _).alloc (Nat.le_refl _) _
 have hg:=heap_top w (.cells #[.int .i64 n, .slice a l.length cap] 24)
 have HAR:=hid hr
 have HI:=hid hi
 have HB0:=hid hb0
 have HC:=hid hC
 have HL:=hid hL
 have HT:=hid hT
 have HU:=hid hU
 have HRIS:=hid hRis
 have HO:=hid ho
 have hLl:L.length≤1024:=by omega
 obtain⟨ib,ob,hib⟩:=hi.get
 have HIB:=hid hib
 clear hr hi hb0 hC hL hT hU hRis ho hib
 generalize hp:w.heap.size=p at*
 obtain⟨⟨a0,a1⟩,_⟩:=two_cells hg
 go_enter Tryz.func56,Tryz.ntmps56
 go_wp2_with fail
 have hbx:Below w.heap.size w ((w.alloc (.cells #[.int .i64 n, .slice a l.length cap] 24)).alloc (.cells #[.slice va L.length vc] 25)):=(top2 w _ _).2.2.1
 have HG:Hid (((w.alloc (.cells #[.int .i64 n, .slice a l.length cap] 24)).alloc (.cells #[.slice va L.length vc] 25)).heap[p]? =some (.cells #[.int .i64 n, .slice a l.length cap] 24)):=hp▸ (top2 w _ _).1
 have HR1:Hid (((w.alloc (.cells #[.int .i64 n, .slice a l.length cap] 24)).alloc (.cells #[.slice va L.length vc] 25)).ownsRow B 25 1 (.slice (some ⟨p+1,0,none⟩) 1 1) 1 [.slice va L.length vc]):=by
  have h:=World.ownsRow_lit (base:=B) (e:=25) (size:=1) (w.alloc (.cells #[.int .i64 n, .slice a l.length cap] 24)) #[.slice va L.length vc] 1 (by simp;omega) (by decide) rfl
  rw[World.size_alloc,hp] at h
  exact h
 have HO1:=hid (own_on HO.out hbx)
 have HBX:Hid (Below p w ((w.alloc (.cells #[.int .i64 n, .slice a l.length cap] 24)).alloc (.cells #[.slice va L.length vc] 25))):=hp▸hbx
 clear a0 a1 hg HB0 hbx HO
 generalize hW:(w.alloc (.cells #[.int .i64 n, .slice a l.length cap] 24)).alloc (.cells #[.slice va L.length vc] 25)=W at*
 clear hW
 go_loopw [1,8,17] (fun s1 s8 i wr=> ∃ (k:Nat) (av:Option Addr) (cv:Nat) (C:List Cl) (r:List (List Nat)) (ka:Option Addr) (K:List Nat) (kc:Nat),k≤bs.length∧i= .int .i64 k∧s8= .slice av (k+1) cv∧s1= .slice ka K.length kc∧K.length≤1024∧Hid (C.length=k+1∧RwO wr B av cv C∧cl C k=⟨ka,kc,ints K⟩∧UpIs l (bs.take k) L r∧csl C=(L::r).map ints∧(L::r).getD k []=K)∧Hid (∀j,(Value.slice av (k+1) cv).ownBlock=some j→p<j)∧Hid (K.length=n∧tdy (ints K) 0=true∧Und (if k=0 then bb else bs.getD (k - 1) 0) K)∧Hid (wr.heap[p]? =some (.cells #[.int .i64 n, .slice a l.length cap] 24))∧Hid (Below p w wr)) (fun _ _ i _=>bs.length - (intOf i).toNat)
 case atStart=>exact⟨0,some ⟨p+1,0,none⟩,1,[⟨va,vc,ints L⟩],[],va,L,vc,Nat.zero_le _,rfl,rfl,rfl,hLl,⟨rfl,⟨by show World.ownsRow _ _ _ _ _ 1 [Value.slice va (ints L).length vc];rw[ints_len];exact HR1.out,fun j hj=>by
   obtain rfl:j=0:=by simpa using hj
   show World.ownsRow _ _ _ _ (Value.slice va (ints L).length vc) (ints L).length (cellsI (ints L))
   rw[ints_len]
   exact HO1.out⟩,rfl, .nil,rfl,rfl⟩,fun j hj=>by
   have:p+1=j:=Option.some.inj hj
   omega,⟨HL.out,HT.out,HU.out⟩,HG,HBX⟩
 case round=>
  obtain⟨k,av,cv,C,r,ka,K,kc,hk,rfl,rfl,rfl,hKl,HCC,HOB,HKK,HGP,HBR⟩:=hrel
  have hwr:p<wr.heap.size:=lt_of_block HGP.out
  by_cases hlk:k<bs.length
  ·obtain⟨rfl,hbl2,hat⟩:=HIB.out (by rw[ints_len];omega)
   have hlk':(k:Int)<bs.length:=by omega
   have y0:=(HBR.out.cell (p:=⟨ib,ob+k,none⟩) (hp▸hbl2)).trans (hat k (by rw[ints_len];exact hlk))
   rw[ints_getD hlk] at y0
   obtain⟨g1,g2,g3⟩:=ris_drop HRIS.out hlk
   have HOK:Hid (wr.ownsRow B 3 1 (.slice ka K.length kc) K.length (cellsI (ints K))):=by
    have h:=HCC.out.2.1.2 k (by rw[HCC.out.1];omega)
    rw[HCC.out.2.2.1] at h
    have h':wr.ownsRow B 3 1 (.slice ka (ints K).length kc) (ints K).length (cellsI (ints K)):=h
    rw[ints_len] at h'
    exact h'
   obtain⟨b,HBD⟩:=named (bs.getD k 0)
   rw[HBD.out] at y0 g1 g2 g3
   have hb1:1≤b:=by omega
   obtain⟨k1,k2,k3⟩:=HKK.out
   have HUK:=hid (und_mono k3 (Nat.le_of_lt g3))
   have HJH:=hid (join_holds HC.out k1 k2 HUK.out hb1 g2)
   have HJN:=hid (join_all n a l cap ka (ints K) kc b wr (by omega) (by rw[ints_len];omega) (HAR.out.on (by rw[hp];exact HBR.out)) (own_ints HOK.out rfl))
   rw[HJH.out.1,ints_len] at HJN
   obtain⟨⟨a0,a1⟩,_⟩:=two_cells HGP.out
   clear hat k1 k2 k3 g1 g3
   go_wp2_with fail
   refine HJN.out.mono ?_
   rintro e w1 ⟨ve,ce,E,rfl,hown,hJ,hb1'⟩
   obtain⟨m1,m2,m3,_,F,m5,m6⟩:=HJH.out.2 E hJ.out
   have hEl:E.length≤1024:=by omega
   have HEE:Hid (E.length=n∧tdy (ints E) 0=true∧Und b E):=⟨by have:=HKK.out.1;omega,m2,m3⟩
   have HJF:Hid (Jn (prl l) b K F∧E=tdL F):=⟨m5,m6⟩
   have HOE:=hid (own_base hown (show B≤wr.heap.size by omega))
   have HCO:=hid (HCC.out.2.1.on hb1')
   have HB1:Hid (Below p w w1):=HBR.out.trans (hb1'.mono (by omega))
   have HGP1:=hid ((hb1'.block p hwr).trans HGP.out)
   have hz1:=hb1'.size
   clear hb1' hown hJ HJN m1 m2 m3 m5 m6 a0 a1 HOK HJH HUK HGP HBR
   have hlt5:k+1+1≤6:=by omega
   have hCl:=HCC.out.1
   have HRR:Hid (w1.ownsRow B 25 1 (.slice av (k+1) cv) (k+1) (C.map Cl.val)):=hCl▸HCO.out.1
   clear hCl
   have hba:Below w1.heap.size w1 (w1.alloc (.cells #[.slice ve E.length ce] 25)):=(Below.refl _ _).alloc (Nat.le_refl _) _
   have HO2:=hid (own_on HRR.out hba)
   have HNW:=hid (newsC w1 (.slice ve E.length ce))
   have HBZ:Hid (B≤(w1.alloc (.cells #[.slice ve E.length ce] 25)).heap.size):=by show _≤_;simp;omega
   have HBB:Hid (Below p w (w1.alloc (.cells #[.slice ve E.length ce] 25))):=HB1.out.trans (hba.mono (by omega))
   have HOL:Hid (∀j,(Value.slice av (k+1) cv).ownBlock=some j→B≤j):=fun j hj=>(HRR.out.lt j hj).1
   have HOLP:Hid (∀j,(Value.slice av (k+1) cv).ownBlock=some j→p<j):=fun j hj=>HOB.out j hj
   have HOE2:=hid (own_on HOE.out hba)
   have HCO2:Hid (∀j,j<C.length→(w1.alloc (.cells #[.slice ve E.length ce] 25)).ownsRow B 3 1 (cl C j).val (cl C j).xs.length (cellsI (cl C j).xs)):=fun j hj=>own_on (HCO.out.2 j hj) hba
   have HGP2:=hid ((hba.block p (by omega)).trans HGP1.out)
   have hza:(w1.alloc (.cells #[.slice ve E.length ce] 25)).heap.size=w1.heap.size+1:=by simp
   clear hba HRR
   go_wp2_with (at_builtin;go_must (refine wpList_append_own_at _ rfl (.tmp 31) (.tmp 33) 26 rfl B 25 i25 (.slice none 0 0) 1 24 Tryz.underlying26 hi25 hz25 hs25 hby25 rfl (by decide) (.slice av (k+1) cv) (k+1) (C.map Cl.val) rfl HO2.out ⟨w1.heap.size,0,none⟩ 1 1 [.slice ve E.length ce] rfl rfl HNW.out (fun u hu=>by rw[List.mem_singleton] at hu;rw[hu];rfl) (by unfold maxLen;omega) (by omega) HBZ.out ?_;intro v6 w6 hown6 hgrow6 hnil6 hat6;obtain⟨g6,c6,hv6,_,_,_,_⟩:=own_shape hown6 (fun e=>by have:=hnil6.1 e;simp at this);subst hv6;have HOB6:=hid hat6;have HO6:=hid hown6;have HOE6:=hid (own_kept HOE2.out HO2.out (by decide) hgrow6);have HCO6:Hid (∀j,j<C.length→w6.ownsRow B 3 1 (cl C j).val (cl C j).xs.length (cellsI (cl C j).xs)):=fun j hj=>own_kept (HCO2.out j hj) HO2.out (by decide) hgrow6;have HGP6:=hid ((hgrow6.block p (by omega) (fun e=>by have:=HOLP.out p e.symm;omega)).trans HGP2.out);have HB6:Hid (Below p w w6):=HBB.out.grown hgrow6 (by omega) (fun j hj=>Nat.le_of_lt (HOLP.out j hj));clear hown6 hgrow6 hnil6 hat6))
   refine⟨⟨k+1,some ⟨g6,0,none⟩,c6,C++[⟨ve,ce,ints E⟩],r++[E],ve,E,ce,hlk,by simp,rfl,rfl,hEl,?_,?_,?_,HGP6,HB6⟩,by simp[intOf];omega⟩
   ·obtain⟨q1,q2,q3,q4,q5,q6⟩:=HCC.out
    have hrl:r.length=k:=by have:=q4.len;rw[List.length_take] at this;omega
    have e1:E=tdL F:=HJF.out.2
    refine⟨by rw[List.length_append,q1];rfl,⟨?_,fun j hj=> ?_⟩,?_,?_,?_,?_⟩
    ·rw[List.length_append,q1,List.map_append]
     have h:=HO6.out
     have e2:(C.map Cl.val++[⟨ve,ce,ints E⟩].map Cl.val)=C.map Cl.val++[Value.slice ve E.length ce]:=by simp[Cl.val,ints_len]
     rw[e2]
     exact h
    ·rw[List.length_append] at hj
     by_cases e:j=C.length
     ·subst e
      rw[cl_end]
      show World.ownsRow _ _ _ _ (Value.slice ve (ints E).length ce) (ints E).length (cellsI (ints E))
      rw[ints_len]
      exact HOE6.out
     ·rw[cl_snoc (by simp at hj;omega)]
      exact HCO6.out j (by simp at hj;omega)
    ·rw[←q1,cl_end]
    ·rw[e1,List.take_succ_eq_append_getElem hlk]
     refine q4.snoc ?_
     rw[getLast_eq,hrl,q6]
     have e2:bs[k]=b:=by rw[←HBD.out];simp[List.getD,hlk]
     rw[e2]
     exact HJF.out.1
    ·show(C++[_]).map Cl.xs=_
     rw[List.map_append,show C.map Cl.xs=(L::r).map ints from q5]
     simp
    ·rw[←hrl]
     simp[List.getD]
   ·intro j hj
    rcases HOB6.out with h | h
    ·exact HOLP.out j (h.symm.trans hj)
    ·have:=Option.some.inj (h.symm.trans hj)
     omega
   ·rw[if_neg (by omega),show k+1 - 1=k by omega,HBD.out]
    exact HEE.out
  ·have hlk': ¬(k:Int)<bs.length:=by omega
   have hkk:k=bs.length:=by omega
   have HFIN:Hid (UpM wr B av cv l bs L):=by
    obtain⟨q1,q2,_,q4,q5,_⟩:=HCC.out
    subst hkk
    rw[List.take_length] at q4
    exact⟨C,r,q1,q2,q4,q5⟩
   clear HCC HKK
   subst hkk
   go_wp2_with fail
   go_ret2
   exact⟨av,cv,rfl,HFIN,HBR.out⟩
end Go.Proofs.YtmenajiceaicpaaGreat
namespace Go.Proofs.YtmenajiceaicpaaGreat
open Go.RowKit
def MkIs(w:World)(B:Nat)(vb:Option Addr)(cb:Nat)(va:Option Addr)(ca:Nat)(n:Nat)(l:List A)(bs cs:List Int)(mo:Int):Prop:=
 w.ownsRow B 3 1 (.slice vb bs.length cb) bs.length (cellsI bs)∧∃ (b:Nat) (bs' L:List Nat) (C:List Cl) (r:List (List Nat)),bs=ints (b::bs')∧1≤b∧Ris 0 (b::bs')∧LowIs n l b (cs.map Int.toNat) mo.toNat L∧UpIs l bs' L r∧C.length=bs.length∧RwO w B va ca C∧csl C=(L::r).map ints
theorem ris_of{bs:List Int}: ∀ {bb:Nat},risB bb bs=true→∃bn:List Nat,bs=ints bn∧Ris bb bn:=by
 induction bs with
 | nil=>exact fun _=>⟨[],rfl,trivial⟩
 | cons b r ih=>
   intro bb h
   simp only[risB] at h
   by_cases c:(bb:Int)<b∧b≤1024
   ·rw[if_pos c] at h
    obtain⟨m,rfl⟩: ∃m:Nat,b=m:=⟨b.toNat,by omega⟩
    obtain⟨bn,e,hr⟩:=ih h
    exact⟨m::bn,by rw[e];rfl,by omega,by omega,hr⟩
   ·rw[if_neg c] at h;cases h
theorem below_set2'{w w':World}{p b:Nat}(h:Below p w w')(hb:p≤b)(x y:Value):Below p w ((w'.setCell ⟨b,0,none⟩ x).setCell ⟨b,1,none⟩ y):=(h.setCell (p:=⟨b,0,none⟩) hb x).setCell (p:=⟨b,1,none⟩) hb y
theorem set2_at{w:World}{b:Nat}{u0 u1:Value}{t:TypeId}(h:w.heap[b]? =some (.cells #[u0,u1] t))(x y:Value):((w.setCell ⟨b,0,none⟩ x).setCell ⟨b,1,none⟩ y).heap[b]? =some (.cells #[x,y] t):=by
 have h1:=heap_setCell_same w b 0 _ _ x h
 exact(heap_setCell_same _ b 1 _ _ y h1).trans (by simp)
theorem own_set_b{w:World}{base b:Nat}{e t:TypeId}{size:Nat}{v:Value}{n:Nat}{xs:List Value}{cs:Array Value}(h:w.ownsRow base e size v n xs)(hb:w.heap[b]? =some (.cells cs t))(he:e≠t)(k:Nat)(u:Value):(w.setCell ⟨b,k,none⟩ u).ownsRow base e size v n xs:=by
 refine⟨h.1,?_⟩
 rcases h.2 with h' | ⟨g,c,cur,h1,h2,h3,h4⟩
 ·exact Or.inl h'
 ·refine Or.inr ⟨g,c,cur,h1,h2,(Below.heap_setCell w _ u g (fun e2=> ?_)).trans h3,h4⟩
  have e2:g=b:=e2
  subst e2
  rw[hb] at h3
  injection h3 with h3
  injection h3 with _ h3
  exact he h3.symm
theorem own_set2_b{w:World}{base b:Nat}{e:TypeId}{size:Nat}{v:Value}{n:Nat}{xs:List Value}{u0 u1:Value}(h:w.ownsRow base e size v n xs)(hb:w.heap[b]? =some (.cells #[u0,u1] 28))(he:e≠28)(x y:Value):((w.setCell ⟨b,0,none⟩ x).setCell ⟨b,1,none⟩ y).ownsRow base e size v n xs:=
 own_set_b (own_set_b h hb he 0 x) (heap_setCell_same w b 0 _ _ x hb) he 1 y
theorem RwO.set{w:World}{B b:Nat}{v:Option Addr}{c:Nat}{C:List Cl}{u0 u1:Value}(h:RwO w B v c C)(hb:w.heap[b]? =some (.cells #[u0,u1] 28))(x y:Value):RwO ((w.setCell ⟨b,0,none⟩ x).setCell ⟨b,1,none⟩ y) B v c C:=⟨own_set2_b h.1 hb (by decide) x y,fun j hj=>own_set2_b (h.2 j hj) hb (by decide) x y⟩
set_option maxHeartbeats 3200000 in
theorem make_ok(n:Nat)(a:Option Addr)(l:List A)(cap:Nat)(bd:Addr)(b:Nat)(bs:List Nat)(bc:Nat)(ca:Option Addr)(cs:List Int)(cc:Nat)(mo:Int)(w:World)(hP:plE n l (ints (b::bs)) cs mo=0)(hbc:bs.length+1≤bc)(hbm:bc≤9223372036854775807)(hr:Arcs w a l)(hi:Ints w (some bd) (ints (b::bs)))(hj:Ints w ca cs)(hcl:cs.length≤9223372036854775807)(hIM:ImpC mo):
  Calls Tryz.prog 29 #[.agg #[.int .i64 n, .slice a l.length cap], .slice (some bd) (bs.length+1) bc, .slice ca cs.length cc, .int .i64 mo] w fun e w'=> ∃vb cb va ca',e= .returned (.tuple #[.agg #[.slice vb (bs.length+1) cb, .slice va (bs.length+1) ca'], .int .i64 0])∧Hid (MkIs w' w.heap.size vb cb va ca' n l (ints (b::bs)) cs mo)∧Below w.heap.size w w':=by
 obtain⟨hC,⟨_,h5⟩,hri,hcl2,hca,hmo⟩:=plE_zero hP
 obtain⟨bn,ebn,hRis⟩:=ris_of (bb:=0) hri
 obtain rfl:bn=b::bs:=by
  have:=congrArg (List.map Int.toNat) ebn
  simpa[ints,Function.comp_def] using this.symm
 rw[ints_len] at h5
 obtain⟨h1n,hn,hl,_⟩:=chk_zero hC
 obtain⟨g1,g2,g3⟩:=hRis
 have hb1:1≤b:=by omega
 have hce:ceE n b cs=0:=by unfold ceE;rw[if_neg (by omega),if_neg (by omega),if_pos hca]
 obtain⟨hg0,hg1,hb0,hsz⟩:=top2 w (.cells #[.int .i64 n, .slice a l.length cap] 24) (.cells #[.slice none 0 0, .slice none 0 0] 28)
 have HPL:=hid (plan_any n a l cap (some bd) (ints (b::bs)) bc ca cs cc mo _ (by omega) (by rw[ints_len,List.length_cons];simp at h5;omega) hcl (hr.on hb0) (hi.on hb0) (hj.on hb0))
 rw[hP,ints_len,List.length_cons] at HPL
 obtain⟨ib,ob,hib⟩:=hi.get
 obtain⟨ebd,hibl,hiat⟩:=hib (by rw[ints_len,List.length_cons];omega)
 injection ebd with ebd
 subst ebd
 have y0:=hiat 0 (by rw[ints_len,List.length_cons];omega)
 have ey:(ints (b::bs)).getD 0 0=(b:Int):=rfl
 rw[ey,Nat.add_zero] at y0
 have HY0:=hid y0
 have HIB:=hid hi
 have HIM0:=hid hIM
 clear hIM
 have HAR:=hid hr
 have HJ:=hid hj
 have HB0:=hid hb0
 have HC:=hid hC
 have HCE:=hid hce
 have HR3:=hid g3
 have HG0:=hid hg0
 have HG1:=hid hg1
 simp only[List.length_cons] at h5
 clear hr hi hj hb0 hC hce g1 g3 hP hri ebn hib hiat y0 ey hca
 generalize hp:w.heap.size=p at*
 obtain⟨⟨a0,a1⟩,_⟩:=two_cells hg0
 clear hg0 hg1
 go_enter Tryz.func29,Tryz.ntmps29
 go_wp2_with fail
 generalize hW:(w.alloc (.cells #[.int .i64 n, .slice a l.length cap] 24)).alloc (.cells #[.slice none 0 0, .slice none 0 0] 28)=W at*
 clear hW a0 a1
 refine HPL.out.mono ?_
 rintro e w1 ⟨rfl,hb1'⟩
 have HB1:Hid (Below p w w1):=HB0.out.trans (hb1'.mono (by omega))
 have hz1:=hb1'.size
 have k0:=(hb1'.block p (by omega)).trans HG0.out
 have HK1:=hid ((hb1'.block (p+1) (by omega)).trans HG1.out)
 have HK0:=hid k0
 obtain⟨⟨a0,a1⟩,_⟩:=two_cells k0
 have y0:=(HB1.out.cell (p:=⟨ib,ob,none⟩) (hp▸hibl)).trans HY0.out
 have HLO:Hid (∀X,Below w1.heap.size w1 X→Calls Tryz.prog 55 #[.agg #[.int .i64 n, .slice a l.length cap], .int .i64 b, .slice ca cs.length cc, .int .i64 mo] X fun e w'=> ∃v c L,e= .returned (.tuple #[.slice v L.length c, .int .i64 0])∧w'.ownsRow X.heap.size 3 1 (.slice v L.length c) L.length (cellsI (ints L))∧Hid (LowIs n l b (cs.map Int.toNat) mo.toNat L)∧Below w1.heap.size w1 w'):=fun X hX=>by
  have hbX:Below w.heap.size w X:=by rw[hp];exact HB1.out.trans (hX.mono (by omega))
  refine(lowest_any n a l cap b ca cs cc mo X HC.out HCE.out hmo HIM0.out (HAR.out.on hbX) (HJ.out.on hbX)).mono ?_
  rintro e w' ⟨v,c,L,rfl,h1,h2,h3⟩
  exact⟨v,c,L,rfl,h1,h2,hX.trans (h3.mono hX.size)⟩
 have HBD:Hid (Below w1.heap.size w1 w1.drew):=(Below.refl _ _).drew
 clear hb1' k0 HPL HB0 HG0 HG1
 have A0:=hid a0
 have A1:=hid a1
 have Y0:=hid y0
 have hpw:p<w1.heap.size:=by omega
 have hiw:ib<w1.heap.size:=by omega
 have hlb:(0:Int)<(bs.length:Int)+1:=by omega
 go_wp2_with fail
 go_region_held3 (fun w'=>w'.cell? ⟨p,0,none⟩=some (.int .i64 n)∧w'.cell? ⟨p,1,none⟩=some (.slice a l.length cap)∧w'.cell? ⟨ib,ob,none⟩=some (.int .i64 b)) (go_keep) ((go_at_call 55;refine(HLO.out _ HBD.out).mono ?_;rintro e w2 ⟨v2,c2,L,rfl,hown2,hlow,hb2⟩;have HOW2:=hid hown2;have v0:=(hb2.cell (p:=⟨p,0,none⟩) hpw).trans A0.out;have v1:=(hb2.cell (p:=⟨p,1,none⟩) hpw).trans A1.out;have v3:=(hb2.cell (p:=⟨ib,ob,none⟩) hiw).trans Y0.out;have HBW:=hid hb2;clear hb2 hown2))
 have HB2:Hid (Below p w w2):=HB1.out.trans (HBW.out.mono (by omega))
 have hz2:=HBW.out.size
 have HK2:=hid ((HBW.out.block (p+1) (by omega)).trans HK1.out)
 have HOL:=hid (own_base HOW2.out (show p≤w1.heap.size by omega))
 have HLOW:=hlow
 obtain⟨hLn,hLt,hLu⟩:=HLOW.out.right HC.out hb1
 have hLl:L.length≤1024:=by omega
 have HLR:Hid (L.length=n∧tdy (ints L) 0=true∧Und b L):=⟨hLn,hLt,hLu⟩
 have HUPG:Hid (∀X,Below w2.heap.size w2 X→∀ (ba:Option Addr) (bc':Nat),Ints X ba (ints bs)→Calls Tryz.prog 56 #[.agg #[.int .i64 n, .slice a l.length cap], .slice v2 L.length c2, .slice ba bs.length bc'] X fun e w'=> ∃v c,e= .returned (.tuple #[.slice v (bs.length+1) c, .int .i64 0])∧Hid (UpM w' p v c l bs L)∧Below X.heap.size X w'):=fun X hX ba bc' hI=>by
  have hbX:Below w.heap.size w X:=by rw[hp];exact HB2.out.trans (hX.mono (by omega))
  exact upwards_any n a l cap p v2 L c2 ba bs bc' b X HC.out HLR.out.1 HLR.out.2.1 HLR.out.2.2 HR3.out (by omega) (by have:=hX.size;omega) (HAR.out.on hbX) hI (own_on HOL.out hX)
 have V0:=hid v0
 have V1:=hid v1
 have hpw2:p<w2.heap.size:=by omega
 have HBD2:Hid (Below w2.heap.size w2 w2.drew):=(Below.refl _ _).drew
 have HIT:Hid (∀X,Below w.heap.size w X→Ints X (some ⟨ib,ob+1,none⟩) (ints bs)):=fun X hX=>by
  rcases HIB.out.on hX with h | ⟨b',o',h1,h2,h3⟩
  ·cases h
  ·injection h1 with h1
   injection h1 with h1 h1' _
   subst h1 h1'
   refine .inr ⟨ib,ob+1,rfl,h2,fun j hj=> ?_⟩
   have:=h3 (j+1) (by simp[ints] at hj ⊢;omega)
   rw[show ob+1+j=ob+(j+1) by omega]
   exact this
 clear hLn hLt hLu v0 v1 v3 HLO HBD A0 A1 Y0 a0 a1 y0 HOW2 HK1
 have e1:(bs.length:Int)+1 - 1=bs.length:=by omega
 by_cases hc1:bc=1
 ·subst hc1
  have hbe:bs.length=0:=by omega
  obtain rfl:bs= []:=List.eq_nil_of_length_eq_zero hbe
  clear hbe
  have HUP:Hid (∀X,Below w2.heap.size w2 X→Calls Tryz.prog 56 #[.agg #[.int .i64 n, .slice a l.length cap], .slice v2 L.length c2, .slice (some ⟨ib,ob,none⟩) 0 0] X fun e w'=> ∃v c,e= .returned (.tuple #[.slice v (0+1) c, .int .i64 0])∧Hid (UpM w' p v c l [] L)∧Below w2.heap.size w2 w'):=fun X hX=>by
   have hbX:Below w.heap.size w X:=by rw[hp];exact HB2.out.trans (hX.mono (by omega))
   refine(HUPG.out X hX (some ⟨ib,ob,none⟩) 0 (by exact .inl rfl)).mono ?_
   rintro e w' ⟨v,c,rfl,h2,h3⟩
   exact⟨v,c,rfl,h2,hX.trans (h3.mono hX.size)⟩
  clear HUPG
  go_wp2_with fail
  go_region_held3 (fun w'=>w'.cell? ⟨p,0,none⟩=some (.int .i64 n)∧w'.cell? ⟨p,1,none⟩=some (.slice a l.length cap)) (go_keep) ((go_at_call 56;refine(HUP.out _ HBD2.out).mono ?_;rintro e w3 ⟨v3,c3,rfl,hup,hb3⟩;have x0:=(hb3.cell (p:=⟨p,0,none⟩) hpw2).trans V0.out;have x1:=(hb3.cell (p:=⟨p,1,none⟩) hpw2).trans V1.out;have HBY:=hid hb3;clear hb3))
  have HB3:Hid (Below p w w3):=HB2.out.trans (HBY.out.mono (by omega))
  have hz3:=HBY.out.size
  have HK3:=hid ((HBY.out.block (p+1) (by omega)).trans HK2.out)
  have HCL:=hid (clone_any ⟨ib,ob,none⟩ (ints (b:: [])) 1 w3 (by rw[ints_len,List.length_cons];omega) (HIB.out.on (by rw[hp];exact HB3.out)))
  rw[ints_len,List.length_cons] at HCL
  clear x0 x1 HUP
  go_wp2_with fail
  refine HCL.out.mono ?_
  rintro e w4 ⟨g4,c4,rfl,hown4,hb4⟩
  have HB4:Hid (Below p w w4):=HB3.out.trans (hb4.mono (by omega))
  have hk4:=(hb4.block (p+1) (by omega)).trans HK3.out
  have HK4:=hid hk4
  have HO4:=hid (own_base hown4 (show p≤w3.heap.size by omega))
  obtain⟨⟨q0,q1⟩,f0,f1⟩:=two_cells hk4
  have HMK:Hid (∀x y,MkIs ((w4.setCell ⟨p+1,0,none⟩ x).setCell ⟨p+1,1,none⟩ y) p (some ⟨g4,0,none⟩) c4 v3 c3 n l (ints (b:: [])) cs mo):=fun x y=>by
   obtain⟨C,r,u1,u2,u3,u4⟩:=hup.out
   refine⟨?_,b,[],L,C,r,rfl,hb1,⟨by omega,g2,HR3.out⟩,HLOW.out,u3,by rw[ints_len,List.length_cons];exact u1,(u2.on hb4).set HK4.out x y,u4⟩
   rw[ints_len,List.length_cons]
   exact own_set2_b HO4.out HK4.out (by decide) x y
  have HFB:Hid (∀x y,Below p w ((w4.setCell ⟨p+1,0,none⟩ x).setCell ⟨p+1,1,none⟩ y)):=fun x y=>below_set2' HB4.out (by omega) x y
  obtain⟨⟨z0,z1⟩,_⟩:=two_cells (set2_at HK4.out (.slice (some ⟨g4,0,none⟩) (0+1) c4) (.slice v3 (0+1) c3))
  clear hb4 hown4 hk4 HCL
  go_wp2_with fail
  refine bodyPost_ret (v:= .tuple #[.agg #[.slice (some ⟨g4,0,none⟩) (0+1) c4, .slice v3 (0+1) c3], .int .i64 0]) (by simp[results,Tryz.results29,go_sem,z0,z1]) rfl ?_
  exact⟨_,_,_,_,rfl,HMK.out _ _,HFB.out _ _⟩
 ·have hc2:2≤bc:=by omega
  have e2:(bc:Int) - 1=((bc - 1:Nat):Int):=by omega
  have hc3:(bs.length:Int)+1≤bc:=by omega
  have f1:(1:Int)≤(bs.length:Int)+1:=by omega
  have HUP:Hid (∀X,Below w2.heap.size w2 X→Calls Tryz.prog 56 #[.agg #[.int .i64 n, .slice a l.length cap], .slice v2 L.length c2, .slice (some ⟨ib,ob+1,none⟩) bs.length (bc - 1)] X fun e w'=> ∃v c,e= .returned (.tuple #[.slice v (bs.length+1) c, .int .i64 0])∧Hid (UpM w' p v c l bs L)∧Below w2.heap.size w2 w'):=fun X hX=>by
   have hbX:Below w.heap.size w X:=by rw[hp];exact HB2.out.trans (hX.mono (by omega))
   refine(HUPG.out X hX (some ⟨ib,ob+1,none⟩) (bc - 1) (by exact HIT.out X hbX)).mono ?_
   rintro e w' ⟨v,c,rfl,h2,h3⟩
   exact⟨v,c,rfl,h2,hX.trans (h3.mono hX.size)⟩
  clear HUPG
  go_wp2_with fail
  go_region_held3 (fun w'=>w'.cell? ⟨p,0,none⟩=some (.int .i64 n)∧w'.cell? ⟨p,1,none⟩=some (.slice a l.length cap)) (go_keep) ((go_at_call 56;refine(HUP.out _ HBD2.out).mono ?_;rintro e w3 ⟨v3,c3,rfl,hup,hb3⟩;have x0:=(hb3.cell (p:=⟨p,0,none⟩) hpw2).trans V0.out;have x1:=(hb3.cell (p:=⟨p,1,none⟩) hpw2).trans V1.out;have HBY:=hid hb3;clear hb3))
  have HB3:Hid (Below p w w3):=HB2.out.trans (HBY.out.mono (by omega))
  have hz3:=HBY.out.size
  have HK3:=hid ((HBY.out.block (p+1) (by omega)).trans HK2.out)
  have HCL:=hid (clone_any ⟨ib,ob,none⟩ (ints (b::bs)) bc w3 (by rw[ints_len,List.length_cons];omega) (HIB.out.on (by rw[hp];exact HB3.out)))
  rw[ints_len,List.length_cons] at HCL
  clear x0 x1 HUP
  go_wp2_with fail
  refine HCL.out.mono ?_
  rintro e w4 ⟨g4,c4,rfl,hown4,hb4⟩
  have HB4:Hid (Below p w w4):=HB3.out.trans (hb4.mono (by omega))
  have hk4:=(hb4.block (p+1) (by omega)).trans HK3.out
  have HK4:=hid hk4
  have HO4:=hid (own_base hown4 (show p≤w3.heap.size by omega))
  obtain⟨⟨q0,q1⟩,f0,f1⟩:=two_cells hk4
  have HMK:Hid (∀x y,MkIs ((w4.setCell ⟨p+1,0,none⟩ x).setCell ⟨p+1,1,none⟩ y) p (some ⟨g4,0,none⟩) c4 v3 c3 n l (ints (b::bs)) cs mo):=fun x y=>by
   obtain⟨C,r,u1,u2,u3,u4⟩:=hup.out
   refine⟨?_,b,bs,L,C,r,rfl,hb1,⟨by omega,g2,HR3.out⟩,HLOW.out,u3,by rw[ints_len,List.length_cons];exact u1,(u2.on hb4).set HK4.out x y,u4⟩
   rw[ints_len,List.length_cons]
   exact own_set2_b HO4.out HK4.out (by decide) x y
  have HFB:Hid (∀x y,Below p w ((w4.setCell ⟨p+1,0,none⟩ x).setCell ⟨p+1,1,none⟩ y)):=fun x y=>below_set2' HB4.out (by omega) x y
  obtain⟨⟨z0,z1⟩,_⟩:=two_cells (set2_at HK4.out (.slice (some ⟨g4,0,none⟩) (bs.length+1) c4) (.slice v3 (bs.length+1) c3))
  clear hb4 hown4 hk4 HCL
  go_wp2_with fail
  refine bodyPost_ret (v:= .tuple #[.agg #[.slice (some ⟨g4,0,none⟩) (bs.length+1) c4, .slice v3 (bs.length+1) c3], .int .i64 0]) (by simp[results,Tryz.results29,go_sem,z0,z1]) rfl ?_
  exact⟨_,_,_,_,rfl,HMK.out _ _,HFB.out _ _⟩
set_option maxHeartbeats 1600000 in
theorem make_bad(N:Int)(a:Option Addr)(l:List A)(cap:Nat)(ba:Option Addr)(bs:List Int)(bc:Nat)(ca:Option Addr)(cs:List Int)(cc:Nat)(mo:Int)(w:World)(hP:plE N l bs cs mo≠0)(hl:l.length≤9223372036854775807)(hbl:bs.length≤9223372036854775807)(hcl:cs.length≤9223372036854775807)(hr:Arcs w a l)(hi:Ints w ba bs)(hj:Ints w ca cs):
  Calls Tryz.prog 29 #[.agg #[.int .i64 N, .slice a l.length cap], .slice ba bs.length bc, .slice ca cs.length cc, .int .i64 mo] w fun e w'=>e= .returned (.tuple #[.agg #[.slice none 0 0, .slice none 0 0], .int .i64 (plE N l bs cs mo)])∧Below w.heap.size w w':=by
 obtain⟨hg0,hg1,hb0,hsz⟩:=top2 w (.cells #[.int .i64 N, .slice a l.length cap] 24) (.cells #[.slice none 0 0, .slice none 0 0] 28)
 have HPL:=hid (plan_any N a l cap ba bs bc ca cs cc mo _ hl hbl hcl (hr.on hb0) (hi.on hb0) (hj.on hb0))
 obtain⟨E,HE⟩:=named (plE N l bs cs mo)
 rw[HE.out] at HPL hP ⊢
 have e1:(E != 0)=true:=by simpa using hP
 have HB0:=hid hb0
 have HG1:=hid hg1
 clear hr hi hj hb0 hg1
 generalize hp:w.heap.size=p at*
 obtain⟨⟨a0,a1⟩,_⟩:=two_cells hg0
 clear hg0
 go_enter Tryz.func29,Tryz.ntmps29
 go_wp2_with fail
 generalize hW:(w.alloc (.cells #[.int .i64 N, .slice a l.length cap] 24)).alloc (.cells #[.slice none 0 0, .slice none 0 0] 28)=W at*
 clear hW a0 a1
 refine HPL.out.mono ?_
 rintro e w1 ⟨rfl,hb1⟩
 have HB1:Hid (Below p w w1):=HB0.out.trans (hb1.mono (by omega))
 have k1:=(hb1.block (p+1) (by omega)).trans HG1.out
 obtain⟨⟨q0,q1⟩,f0,f1⟩:=two_cells k1
 obtain⟨⟨z0,z1⟩,_⟩:=two_cells (set2_at k1 (.slice none 0 0) (.slice none 0 0))
 have HFB:Hid (∀x y,Below p w ((w1.setCell ⟨p+1,0,none⟩ x).setCell ⟨p+1,1,none⟩ y)):=fun x y=>below_set2' HB1.out (by omega) x y
 clear hb1 k1 HPL
 go_wp2_with fail
 refine bodyPost_ret (v:= .tuple #[.agg #[.slice none 0 0, .slice none 0 0], .int .i64 E]) (by simp[results,Tryz.results29,go_sem,z0,z1]) rfl ?_
 exact⟨rfl,HFB.out _ _⟩
def wl:List A:=[⟨0,1,0⟩,⟨1,2,0⟩,⟨2,0,0⟩,⟨3,4,0⟩,⟨4,5,0⟩,⟨5,3,0⟩,⟨2,3,0⟩]
def wP:List Pr:=[⟨0,1⟩,⟨0,2⟩,⟨1,2⟩,⟨2,3⟩,⟨3,4⟩,⟨3,5⟩,⟨4,5⟩]
theorem wl_chk:chkE 6 wl=0:=by decide
theorem wl_prl:prl wl=wP:=by
 refine sorted_one (prl_sorted wl) ?_ (fun x=> ?_)
 ·simp[ltP,wP]
 ·rw[prl_mem (by decide)]
  obtain⟨a,b⟩:=x
  simp only[nr,wl,wP,List.any_cons,List.any_nil,Bool.or_false,Bool.or_eq_true,Bool.and_eq_true,beq_iff_eq,List.mem_cons,Pr.mk.injEq,List.not_mem_nil,or_false]
  omega
theorem wl_reg:reg 6 wl 0 3=[0,1,2]:=by decide
theorem wl_core:core 6 wl 0 3=[0]:=by unfold core;rw[wl_reg];rfl
def wE:List F6.A:=[⟨0,2,1⟩,⟨2,0,1⟩,⟨0,3,1⟩,⟨3,0,1⟩,⟨2,3,1⟩,⟨3,2,1⟩,⟨3,1,1⟩,⟨1,3,1⟩]
theorem wl_dN:dN 6 wl 0 3=nd [0,1,2] 1:=by unfold dN;rw[wl_reg,wl_core];rfl
theorem wl_nN:nN 6 wl 0 3=4:=by unfold nN;rw[wl_reg,wl_core];rfl
theorem wl_eN:eN 6 wl 0 3=wE:=by unfold eN;rw[wl_prl,wl_dN];decide
def wf(j:Nat):Int:=if j=2∨j=6 then 1 else 0
def wk(v:Nat):Int:=if v=0 then 0 else if v=2 then 1 else if v=3 then 2 else -1
theorem wl_cf:Cf 6 wl 0 3 wf wk:=by
 refine⟨?_,?_,rfl⟩
 ·rw[wl_nN,wl_eN]
  exact⟨by decide,by decide,by decide⟩
 ·rw[wl_nN,wl_eN]
  refine⟨rfl,?_,by decide,fun _=>by decide⟩
  intro v hv
  match v,hv with
  | 0,_=>exact fun _=> .inl rfl
  | 1,_=>exact fun h=>absurd rfl h
  | 2,_=>exact fun _=> .inr ⟨0,by decide,by decide,by decide,by decide,by decide⟩
  | 3,_=>exact fun _=> .inr ⟨8,by decide,by decide,by decide,by decide,by decide⟩
  | v+4,h=>exact absurd h (by omega)
theorem wl_cut{xs:List Pr}(h:CutIs 6 wl 0 3 xs):xs=[⟨2,3⟩]:=by
 refine h.one (by decide) (by decide) (by decide) (by decide) ?_
 unfold CutIs
 rw[if_neg (by rw[wl_reg];decide)]
 refine⟨wf,wk,wl_cf,?_⟩
 unfold cutP
 rw[wl_prl,wl_dN]
 decide
theorem wl_marks{xs:List Pr}(h:MarksIs 6 wl [0] 3 xs):xs=[⟨2,3⟩]:=by
 obtain⟨cf,h1,rfl⟩:=h
 have h2:=wl_cut (h1 0 (by simp))
 rw[wl_prl]
 refine Eq.trans (List.filter_congr (q:=fun p=>decide (p=⟨2,3⟩)) (fun p _=> ?_)) (by decide)
 rw[decide_eq_decide]
 simp[h2]
theorem wl_others:others wl [⟨2,3⟩]=[⟨0,1⟩,⟨0,2⟩,⟨1,2⟩,⟨3,4⟩,⟨3,5⟩,⟨4,5⟩]:=by unfold others;rw[wl_prl];decide
theorem wl_frE:frE 6 wl [⟨2,3⟩]=0:=by decide
theorem wl_frL:frL 6 wl [⟨2,3⟩]=[0,0,0,1,1,1]:=by unfold frL;rw[if_pos wl_frE,wl_others];decide
instance (P:List Pr) (L:List Nat) (B a b:Nat):Decidable (Fit P L B a b):=by unfold Fit;exact inferInstance
instance (n a b m c d:Nat):Decidable (noWorse n a b m c d):=by unfold noWorse;exact inferInstance
theorem Bst.of{P:List Pr}{L:List Nat}{B a b:Nat}(hP:PIn P L.length)(h:Fit P L B a b)(h2: ∀c,c∈L→∀d,d∈L→Fit P L B c d→noWorse (bw P L a b) a b (bw P L c d) c d):Bst P L B a b:=
 ⟨h,fun c d hf=>h2 c (hf.mem hP).1 d (hf.mem hP).2 hf⟩
theorem noFit{P:List Pr}{L:List Nat}{B:Nat}(hP:PIn P L.length)(h: ∀c,c∈L→∀d,d∈L→¬Fit P L B c d): ∀a b,¬Fit P L B a b:=fun a b hf=>h a (hf.mem hP).1 b (hf.mem hP).2 hf
theorem wP_in:PIn wP 6:=by unfold PIn;decide
def wL:List Nat:=[0,0,0,1,1,1]
def wZ:List Nat:=[0,0,0,0,0,0]
theorem wl_join1:Jn (prl wl) 3 wL wL:=by
 rw[wl_prl]
 exact .stop (noFit wP_in (by decide))
theorem wl_join2:Jn (prl wl) 6 wL wZ:=by
 rw[wl_prl]
 refine .step (a:=0) (b:=1) (Bst.of wP_in (by decide) (by decide)) ?_
 exact .stop (L:=wZ) (noFit wP_in (by decide))
theorem wL_right:tdy (ints wL) 0=true:=by decide
theorem wZ_right:tdy (ints wZ) 0=true:=by decide
theorem wl_cuL:cuL wl wL 3=wL:=by decide+kernel
theorem wl_low{L:List Nat}(h:LowIs 6 wl 3 [0] 0 L):L=wL:=by
 obtain⟨xs,L0,F,E,m,h1,h2,_,_,h5,h6,rfl⟩:=h
 rw[wl_marks h1] at h2
 have e0:L0=wL:=by
  have h3:ints L0=ints wL:=by rw[←h2];exact wl_frL
  have:=congrArg (List.map Int.toNat) h3
  simpa[ints,Function.comp_def] using this
 rw[e0,wl_cuL] at h5
 have e1:=wl_join1.one h5
 rw[←e1,tdL_self wL_right] at h6
 have e2:E=wL:=(h6.one .zero).1
 rw[e2,tdL_self wL_right]
theorem wl_up{r:List (List Nat)}(h:UpIs wl [6] wL r):r=[wZ]:=by
 cases h with
 | cons h hr=>
   cases hr
   have e1:=wl_join2.one h
   rw[←e1,tdL_self wZ_right]
end Go.Proofs.YtmenajiceaicpaaGreat
