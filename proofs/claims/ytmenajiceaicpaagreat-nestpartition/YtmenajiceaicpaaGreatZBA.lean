import Derived.Test.YtmenajiceaicpaaGreatZAZ
import Derived.Test.YtmenajiceaicpaaGreatZND
open Go.Lib (hid)
set_option maxRecDepth 100000
namespace Go.Proofs.YtmenajiceaicpaaGreat
open Go.RowKit
def MkIs(w:World)(B:Nat)(vb:Option Addr)(cb:Nat)(va:Option Addr)(ca:Nat)(n:Nat)(l:List A)(bs cs:List Int)(mo:Int):Prop:=
 w.ownsRow B 3 1 (.slice vb bs.length cb) bs.length (cellsI bs)∧∃ (b:Nat) (bs' L:List Nat) (C:List Cl) (r:List (List Nat)),bs=ints (b::bs')∧1≤b∧Ris 0 (b::bs')∧LowIs n l b (cs.map Int.toNat) mo.toNat L∧UpIs l bs' L r∧C.length=bs.length∧RwO w B va ca C∧csl C=(L::r).map ints
theorem ris_of{bs:List Int}: ∀ {bb:Nat},risB bb bs=true→∃bn:List Nat,bs=ints bn∧Ris bb bn:=by
 induction bs with
 | nil=>exact fun _=>⟨[],rfl,trivial⟩
 | cons b r ih=>
   intro bb h
   simp only[risB] at h
   by_cases c:(bb:Int)<b∧b≤1024
   ·rw[if_pos c] at h
    obtain⟨m,rfl⟩: ∃m:Nat,b=m:=⟨b.toNat,by omega⟩
    obtain⟨bn,e,hr⟩:=ih h
    exact⟨m::bn,by rw[e];rfl,by omega,by omega,hr⟩
   ·rw[if_neg c] at h;cases h
theorem below_set2'{w w':World}{p b:Nat}(h:Below p w w')(hb:p≤b)(x y:Value):Below p w ((w'.setCell ⟨b,0,none⟩ x).setCell ⟨b,1,none⟩ y):=(h.setCell (p:=⟨b,0,none⟩) hb x).setCell (p:=⟨b,1,none⟩) hb y
theorem set2_at{w:World}{b:Nat}{u0 u1:Value}{t:TypeId}(h:w.heap[b]? =some (.cells #[u0,u1] t))(x y:Value):((w.setCell ⟨b,0,none⟩ x).setCell ⟨b,1,none⟩ y).heap[b]? =some (.cells #[x,y] t):=by
 have h1:=heap_setCell_same w b 0 _ _ x h
 exact(heap_setCell_same _ b 1 _ _ y h1).trans (by simp)
theorem own_set_b{w:World}{base b:Nat}{e t:TypeId}{size:Nat}{v:Value}{n:Nat}{xs:List Value}{cs:Array Value}(h:w.ownsRow base e size v n xs)(hb:w.heap[b]? =some (.cells cs t))(he:e≠t)(k:Nat)(u:Value):(w.setCell ⟨b,k,none⟩ u).ownsRow base e size v n xs:=by
 refine⟨h.1,?_⟩
 rcases h.2 with h' | ⟨g,c,cur,h1,h2,h3,h4⟩
 ·exact Or.inl h'
 ·refine Or.inr ⟨g,c,cur,h1,h2,(Below.heap_setCell w _ u g (fun e2=> ?_)).trans h3,h4⟩
  have e2:g=b:=e2
  subst e2
  rw[hb] at h3
  injection h3 with h3
  injection h3 with _ h3
  exact he h3.symm
theorem own_set2_b{w:World}{base b:Nat}{e:TypeId}{size:Nat}{v:Value}{n:Nat}{xs:List Value}{u0 u1:Value}(h:w.ownsRow base e size v n xs)(hb:w.heap[b]? =some (.cells #[u0,u1] 28))(he:e≠28)(x y:Value):((w.setCell ⟨b,0,none⟩ x).setCell ⟨b,1,none⟩ y).ownsRow base e size v n xs:=
 own_set_b (own_set_b h hb he 0 x) (heap_setCell_same w b 0 _ _ x hb) he 1 y
theorem RwO.set{w:World}{B b:Nat}{v:Option Addr}{c:Nat}{C:List Cl}{u0 u1:Value}(h:RwO w B v c C)(hb:w.heap[b]? =some (.cells #[u0,u1] 28))(x y:Value):RwO ((w.setCell ⟨b,0,none⟩ x).setCell ⟨b,1,none⟩ y) B v c C:=⟨own_set2_b h.1 hb (by decide) x y,fun j hj=>own_set2_b (h.2 j hj) hb (by decide) x y⟩
set_option maxHeartbeats 3200000 in
theorem make_ok(n:Nat)(a:Option Addr)(l:List A)(cap:Nat)(bd:Addr)(b:Nat)(bs:List Nat)(bc:Nat)(ca:Option Addr)(cs:List Int)(cc:Nat)(mo:Int)(w:World)(hP:plE n l (ints (b::bs)) cs mo=0)(hbc:bs.length+1≤bc)(hbm:bc≤9223372036854775807)(hr:Arcs w a l)(hi:Ints w (some bd) (ints (b::bs)))(hj:Ints w ca cs)(hcl:cs.length≤9223372036854775807)(hIM:ImpC mo):
  Calls Tryz.prog 29 #[.agg #[.int .i64 n, .slice a l.length cap], .slice (some bd) (bs.length+1) bc, .slice ca cs.length cc, .int .i64 mo] w fun e w'=> ∃vb cb va ca',e= .returned (.tuple #[.agg #[.slice vb (bs.length+1) cb, .slice va (bs.length+1) ca'], .int .i64 0])∧Hid (MkIs w' w.heap.size vb cb va ca' n l (ints (b::bs)) cs mo)∧Below w.heap.size w w':=by
 obtain⟨hC,⟨_,h5⟩,hri,hcl2,hca,hmo⟩:=plE_zero hP
 obtain⟨bn,ebn,hRis⟩:=ris_of (bb:=0) hri
 obtain rfl:bn=b::bs:=by
  have:=congrArg (List.map Int.toNat) ebn
  simpa[ints,Function.comp_def] using this.symm
 rw[ints_len] at h5
 obtain⟨h1n,hn,hl,_⟩:=chk_zero hC
 obtain⟨g1,g2,g3⟩:=hRis
 have hb1:1≤b:=by omega
 have hce:ceE n b cs=0:=by unfold ceE;rw[if_neg (by omega),if_neg (by omega),if_pos hca]
 obtain⟨hg0,hg1,hb0,hsz⟩:=top2 w (.cells #[.int .i64 n, .slice a l.length cap] 24) (.cells #[.slice none 0 0, .slice none 0 0] 28)
 have HPL:=hid (plan_any n a l cap (some bd) (ints (b::bs)) bc ca cs cc mo _ (by omega) (by rw[ints_len,List.length_cons];simp at h5;omega) hcl (hr.on hb0) (hi.on hb0) (hj.on hb0))
 rw[hP,ints_len,List.length_cons] at HPL
 obtain⟨ib,ob,hib⟩:=hi.get
 obtain⟨ebd,hibl,hiat⟩:=hib (by rw[ints_len,List.length_cons];omega)
 injection ebd with ebd
 subst ebd
 have y0:=hiat 0 (by rw[ints_len,List.length_cons];omega)
 have ey:(ints (b::bs)).getD 0 0=(b:Int):=rfl
 rw[ey,Nat.add_zero] at y0
 have HY0:=hid y0
 have HIB:=hid hi
 have HIM0:=hid hIM
 clear hIM
 have HAR:=hid hr
 have HJ:=hid hj
 have HB0:=hid hb0
 have HC:=hid hC
 have HCE:=hid hce
 have HR3:=hid g3
 have HG0:=hid hg0
 have HG1:=hid hg1
 simp only[List.length_cons] at h5
 clear hr hi hj hb0 hC hce g1 g3 hP hri ebn hib hiat y0 ey hca
 generalize hp:w.heap.size=p at*
 obtain⟨⟨a0,a1⟩,_⟩:=two_cells hg0
 clear hg0 hg1
 go_enter Tryz.func29,Tryz.ntmps29
 go_wp2_with fail
 generalize hW:(w.alloc (.cells #[.int .i64 n, .slice a l.length cap] 24)).alloc (.cells #[.slice none 0 0, .slice none 0 0] 28)=W at*
 clear hW a0 a1
 refine HPL.out.mono ?_
 rintro e w1 ⟨rfl,hb1'⟩
 have HB1:Hid (Below p w w1):=HB0.out.trans (hb1'.mono (by omega))
 have hz1:=hb1'.size
 have k0:=(hb1'.block p (by omega)).trans HG0.out
 have HK1:=hid ((hb1'.block (p+1) (by omega)).trans HG1.out)
 have HK0:=hid k0
 obtain⟨⟨a0,a1⟩,_⟩:=two_cells k0
 have y0:=(HB1.out.cell (p:=⟨ib,ob,none⟩) (hp▸hibl)).trans HY0.out
 have HLO:Hid (∀X,Below w1.heap.size w1 X→Calls Tryz.prog 55 #[.agg #[.int .i64 n, .slice a l.length cap], .int .i64 b, .slice ca cs.length cc, .int .i64 mo] X fun e w'=> ∃v c L,e= .returned (.tuple #[.slice v L.length c, .int .i64 0])∧w'.ownsRow X.heap.size 3 1 (.slice v L.length c) L.length (cellsI (ints L))∧Hid (LowIs n l b (cs.map Int.toNat) mo.toNat L)∧Below w1.heap.size w1 w'):=fun X hX=>by
  have hbX:Below w.heap.size w X:=by rw[hp];exact HB1.out.trans (hX.mono (by omega))
  refine(lowest_any n a l cap b ca cs cc mo X HC.out HCE.out hmo HIM0.out (HAR.out.on hbX) (HJ.out.on hbX)).mono ?_
  rintro e w' ⟨v,c,L,rfl,h1,h2,h3⟩
  exact⟨v,c,L,rfl,h1,h2,hX.trans (h3.mono hX.size)⟩
 have HBD:Hid (Below w1.heap.size w1 w1.drew):=(Below.refl _ _).drew
 clear hb1' k0 HPL HB0 HG0 HG1
 have A0:=hid a0
 have A1:=hid a1
 have Y0:=hid y0
 have hpw:p<w1.heap.size:=by omega
 have hiw:ib<w1.heap.size:=by omega
 have hlb:(0:Int)<(bs.length:Int)+1:=by omega
 go_wp2_with fail
 go_region_held3 (fun w'=>w'.cell? ⟨p,0,none⟩=some (.int .i64 n)∧w'.cell? ⟨p,1,none⟩=some (.slice a l.length cap)∧w'.cell? ⟨ib,ob,none⟩=some (.int .i64 b)) (go_keep) ((go_at_call 55;refine(HLO.out _ HBD.out).mono ?_;rintro e w2 ⟨v2,c2,L,rfl,hown2,hlow,hb2⟩;have HOW2:=hid hown2;have v0:=(hb2.cell (p:=⟨p,0,none⟩) hpw).trans A0.out;have v1:=(hb2.cell (p:=⟨p,1,none⟩) hpw).trans A1.out;have v3:=(hb2.cell (p:=⟨ib,ob,none⟩) hiw).trans Y0.out;have HBW:=hid hb2;clear hb2 hown2))
 have HB2:Hid (Below p w w2):=HB1.out.trans (HBW.out.mono (by omega))
 have hz2:=HBW.out.size
 have HK2:=hid ((HBW.out.block (p+1) (by omega)).trans HK1.out)
 have HOL:=hid (own_base HOW2.out (show p≤w1.heap.size by omega))
 have HLOW:=hlow
 obtain⟨hLn,hLt,hLu⟩:=HLOW.out.right HC.out hb1
 have hLl:L.length≤1024:=by omega
 have HLR:Hid (L.length=n∧tdy (ints L) 0=true∧Und b L):=⟨hLn,hLt,hLu⟩
 have HUPG:Hid (∀X,Below w2.heap.size w2 X→∀ (ba:Option Addr) (bc':Nat),Ints X ba (ints bs)→Calls Tryz.prog 56 #[.agg #[.int .i64 n, .slice a l.length cap], .slice v2 L.length c2, .slice ba bs.length bc'] X fun e w'=> ∃v c,e= .returned (.tuple #[.slice v (bs.length+1) c, .int .i64 0])∧Hid (UpM w' p v c l bs L)∧Below X.heap.size X w'):=fun X hX ba bc' hI=>by
  have hbX:Below w.heap.size w X:=by rw[hp];exact HB2.out.trans (hX.mono (by omega))
  exact upwards_any n a l cap p v2 L c2 ba bs bc' b X HC.out HLR.out.1 HLR.out.2.1 HLR.out.2.2 HR3.out (by omega) (by have:=hX.size;omega) (HAR.out.on hbX) hI (own_on HOL.out hX)
 have V0:=hid v0
 have V1:=hid v1
 have hpw2:p<w2.heap.size:=by omega
 have HBD2:Hid (Below w2.heap.size w2 w2.drew):=(Below.refl _ _).drew
 have HIT:Hid (∀X,Below w.heap.size w X→Ints X (some ⟨ib,ob+1,none⟩) (ints bs)):=fun X hX=>by
  rcases HIB.out.on hX with h | ⟨b',o',h1,h2,h3⟩
  ·cases h
  ·injection h1 with h1
   injection h1 with h1 h1' _
   subst h1 h1'
   refine .inr ⟨ib,ob+1,rfl,h2,fun j hj=> ?_⟩
   have:=h3 (j+1) (by simp[ints] at hj ⊢;omega)
   rw[show ob+1+j=ob+(j+1) by omega]
   exact this
 clear hLn hLt hLu v0 v1 v3 HLO HBD A0 A1 Y0 a0 a1 y0 HOW2 HK1
 have e1:(bs.length:Int)+1 - 1=bs.length:=by omega
 by_cases hc1:bc=1
 ·subst hc1
  have hbe:bs.length=0:=by omega
  obtain rfl:bs= []:=List.eq_nil_of_length_eq_zero hbe
  clear hbe
  have HUP:Hid (∀X,Below w2.heap.size w2 X→Calls Tryz.prog 56 #[.agg #[.int .i64 n, .slice a l.length cap], .slice v2 L.length c2, .slice (some ⟨ib,ob,none⟩) 0 0] X fun e w'=> ∃v c,e= .returned (.tuple #[.slice v (0+1) c, .int .i64 0])∧Hid (UpM w' p v c l [] L)∧Below w2.heap.size w2 w'):=fun X hX=>by
   have hbX:Below w.heap.size w X:=by rw[hp];exact HB2.out.trans (hX.mono (by omega))
   refine(HUPG.out X hX (some ⟨ib,ob,none⟩) 0 (by exact .inl rfl)).mono ?_
   rintro e w' ⟨v,c,rfl,h2,h3⟩
   exact⟨v,c,rfl,h2,hX.trans (h3.mono hX.size)⟩
  clear HUPG
  go_wp2_with fail
  go_region_held3 (fun w'=>w'.cell? ⟨p,0,none⟩=some (.int .i64 n)∧w'.cell? ⟨p,1,none⟩=some (.slice a l.length cap)) (go_keep) ((go_at_call 56;refine(HUP.out _ HBD2.out).mono ?_;rintro e w3 ⟨v3,c3,rfl,hup,hb3⟩;have x0:=(hb3.cell (p:=⟨p,0,none⟩) hpw2).trans V0.out;have x1:=(hb3.cell (p:=⟨p,1,none⟩) hpw2).trans V1.out;have HBY:=hid hb3;clear hb3))
  have HB3:Hid (Below p w w3):=HB2.out.trans (HBY.out.mono (by omega))
  have hz3:=HBY.out.size
  have HK3:=hid ((HBY.out.block (p+1) (by omega)).trans HK2.out)
  have HCL:=hid (clone_any ⟨ib,ob,none⟩ (ints (b:: [])) 1 w3 (by rw[ints_len,List.length_cons];omega) (HIB.out.on (by rw[hp];exact HB3.out)))
  rw[ints_len,List.length_cons] at HCL
  clear x0 x1 HUP
  go_wp2_with fail
  refine HCL.out.mono ?_
  rintro e w4 ⟨g4,c4,rfl,hown4,hb4⟩
  have HB4:Hid (Below p w w4):=HB3.out.trans (hb4.mono (by omega))
  have hk4:=(hb4.block (p+1) (by omega)).trans HK3.out
  have HK4:=hid hk4
  have HO4:=hid (own_base hown4 (show p≤w3.heap.size by omega))
  obtain⟨⟨q0,q1⟩,f0,f1⟩:=two_cells hk4
  have HMK:Hid (∀x y,MkIs ((w4.setCell ⟨p+1,0,none⟩ x).setCell ⟨p+1,1,none⟩ y) p (some ⟨g4,0,none⟩) c4 v3 c3 n l (ints (b:: [])) cs mo):=fun x y=>by
   obtain⟨C,r,u1,u2,u3,u4⟩:=hup.out
   refine⟨?_,b,[],L,C,r,rfl,hb1,⟨by omega,g2,HR3.out⟩,HLOW.out,u3,by rw[ints_len,List.length_cons];exact u1,(u2.on hb4).set HK4.out x y,u4⟩
   rw[ints_len,List.length_cons]
   exact own_set2_b HO4.out HK4.out (by decide) x y
  have HFB:Hid (∀x y,Below p w ((w4.setCell ⟨p+1,0,none⟩ x).setCell ⟨p+1,1,none⟩ y)):=fun x y=>below_set2' HB4.out (by omega) x y
  obtain⟨⟨z0,z1⟩,_⟩:=two_cells (set2_at HK4.out (.slice (some ⟨g4,0,none⟩) (0+1) c4) (.slice v3 (0+1) c3))
  clear hb4 hown4 hk4 HCL
  go_wp2_with fail
  refine bodyPost_ret (v:= .tuple #[.agg #[.slice (some ⟨g4,0,none⟩) (0+1) c4, .slice v3 (0+1) c3], .int .i64 0]) (by simp[results,Tryz.results29,go_sem,z0,z1]) rfl ?_
  exact⟨_,_,_,_,rfl,HMK.out _ _,HFB.out _ _⟩
 ·have hc2:2≤bc:=by omega
  have e2:(bc:Int) - 1=((bc - 1:Nat):Int):=by omega
  have hc3:(bs.length:Int)+1≤bc:=by omega
  have f1:(1:Int)≤(bs.length:Int)+1:=by omega
  have HUP:Hid (∀X,Below w2.heap.size w2 X→Calls Tryz.prog 56 #[.agg #[.int .i64 n, .slice a l.length cap], .slice v2 L.length c2, .slice (some ⟨ib,ob+1,none⟩) bs.length (bc - 1)] X fun e w'=> ∃v c,e= .returned (.tuple #[.slice v (bs.length+1) c, .int .i64 0])∧Hid (UpM w' p v c l bs L)∧Below w2.heap.size w2 w'):=fun X hX=>by
   have hbX:Below w.heap.size w X:=by rw[hp];exact HB2.out.trans (hX.mono (by omega))
   refine(HUPG.out X hX (some ⟨ib,ob+1,none⟩) (bc - 1) (by exact HIT.out X hbX)).mono ?_
   rintro e w' ⟨v,c,rfl,h2,h3⟩
   exact⟨v,c,rfl,h2,hX.trans (h3.mono hX.size)⟩
  clear HUPG
  go_wp2_with fail
  go_region_held3 (fun w'=>w'.cell? ⟨p,0,none⟩=some (.int .i64 n)∧w'.cell? ⟨p,1,none⟩=some (.slice a l.length cap)) (go_keep) ((go_at_call 56;refine(HUP.out _ HBD2.out).mono ?_;rintro e w3 ⟨v3,c3,rfl,hup,hb3⟩;have x0:=(hb3.cell (p:=⟨p,0,none⟩) hpw2).trans V0.out;have x1:=(hb3.cell (p:=⟨p,1,none⟩) hpw2).trans V1.out;have HBY:=hid hb3;clear hb3))
  have HB3:Hid (Below p w w3):=HB2.out.trans (HBY.out.mono (by omega))
  have hz3:=HBY.out.size
  have HK3:=hid ((HBY.out.block (p+1) (by omega)).trans HK2.out)
  have HCL:=hid (clone_any ⟨ib,ob,none⟩ (ints (b::bs)) bc w3 (by rw[ints_len,List.length_cons];omega) (HIB.out.on (by rw[hp];exact HB3.out)))
  rw[ints_len,List.length_cons] at HCL
  clear x0 x1 HUP
  go_wp2_with fail
  refine HCL.out.mono ?_
  rintro e w4 ⟨g4,c4,rfl,hown4,hb4⟩
  have HB4:Hid (Below p w w4):=HB3.out.trans (hb4.mono (by omega))
  have hk4:=(hb4.block (p+1) (by omega)).trans HK3.out
  have HK4:=hid hk4
  have HO4:=hid (own_base hown4 (show p≤w3.heap.size by omega))
  obtain⟨⟨q0,q1⟩,f0,f1⟩:=two_cells hk4
  have HMK:Hid (∀x y,MkIs ((w4.setCell ⟨p+1,0,none⟩ x).setCell ⟨p+1,1,none⟩ y) p (some ⟨g4,0,none⟩) c4 v3 c3 n l (ints (b::bs)) cs mo):=fun x y=>by
   obtain⟨C,r,u1,u2,u3,u4⟩:=hup.out
   refine⟨?_,b,bs,L,C,r,rfl,hb1,⟨by omega,g2,HR3.out⟩,HLOW.out,u3,by rw[ints_len,List.length_cons];exact u1,(u2.on hb4).set HK4.out x y,u4⟩
   rw[ints_len,List.length_cons]
   exact own_set2_b HO4.out HK4.out (by decide) x y
  have HFB:Hid (∀x y,Below p w ((w4.setCell ⟨p+1,0,none⟩ x).setCell ⟨p+1,1,none⟩ y)):=fun x y=>below_set2' HB4.out (by omega) x y
  obtain⟨⟨z0,z1⟩,_⟩:=two_cells (set2_at HK4.out (.slice (some ⟨g4,0,none⟩) (bs.length+1) c4) (.slice v3 (bs.length+1) c3))
  clear hb4 hown4 hk4 HCL
  go_wp2_with fail
  refine bodyPost_ret (v:= .tuple #[.agg #[.slice (some ⟨g4,0,none⟩) (bs.length+1) c4, .slice v3 (bs.length+1) c3], .int .i64 0]) (by simp[results,Tryz.results29,go_sem,z0,z1]) rfl ?_
  exact⟨_,_,_,_,rfl,HMK.out _ _,HFB.out _ _⟩
theorem ints_block{w:World}{b:Nat}{xs:List Int}{t:TypeId}(h:w.heap[b]? =some (.cells (cellsI xs).toArray t (0,0))):Ints w (some ⟨b,0,none⟩) xs:=by
 by_cases h0:xs= []
 ·exact .inl h0
 ·refine .inr ⟨b,0,rfl,lt_of_block h,fun j hj=> ?_⟩
  simp[World.cell?,h,cellsI,List.getD,hj]
abbrev wO:Obj:= .cells #[.int .i64 0, .int .i64 1, .int .u32 0, .int .i64 1, .int .i64 2, .int .u32 0, .int .i64 2, .int .i64 0, .int .u32 0, .int .i64 3, .int .i64 4, .int .u32 0, .int .i64 4, .int .i64 5, .int .u32 0, .int .i64 5, .int .i64 3, .int .u32 0, .int .i64 2, .int .i64 3, .int .u32 0] 58
theorem wl_arcs{w:World}{b:Nat}(h:w.heap[b]? =some wO):Arcs w (some ⟨b,0,none⟩) wl:=by
 refine .inr ⟨b,0,rfl,lt_of_block h,fun j hj=> ?_⟩
 have hj:j=0∨j=1∨j=2∨j=3∨j=4∨j=5∨j=6:=by have:wl.length=7:=rfl;omega
 rcases hj with rfl | rfl | rfl | rfl | rfl | rfl | rfl <;> exact⟨by simp[World.cell?,h];rfl,by simp[World.cell?,h];rfl,by simp[World.cell?,h];rfl⟩
theorem wl_plE:plE 6 wl (ints (3::[6])) [0] 0=0:=by decide
theorem wl_made{w:World}{B:Nat}{vb:Option Addr}{cb:Nat}{va:Option Addr}{ca:Nat}(h:MkIs w B vb cb va ca 6 wl (ints (3::[6])) [0] 0):Ints w vb [3,6]∧∃C:List Cl,C.length=2∧Rws w va C∧csl C=[ints wL,ints wZ]∧NR 6 wl [3,6] (csl C):=by
 obtain⟨h1,b,bs',L,C,r,e1,hb,hR,h2,h3,h4,h5,h6⟩:=h
 have e2:(3::[6]:List Nat)=b::bs':=by
  have:=congrArg (List.map Int.toNat) e1
  simpa[ints,Function.comp_def] using this
 injection e2 with e2 e3
 subst e2 e3
 have e4:L=wL:=wl_low h2
 subst e4
 have e5:r=[wZ]:=wl_up h3
 subst e5
 have hl: ∀j,j<C.length→(cl C j).xs.length≤9223372036854775807:=fun j hj=>by
  rw[←csl_at,h6]
  have h4':C.length=2:=h4
  have:j=0∨j=1:=by omega
  rcases this with rfl | rfl <;> decide
 refine⟨ints_own h1,C,h4,h5.rws hl,h6,?_⟩
 rw[h6]
 exact made_right (n:=6) wl_chk hb hR (by decide) h2 h3
theorem wl_ap{cs:List (List Int)}(h:cs=[ints wL,ints wZ])(hN:NR 6 wl [3,6] cs):apE 6 wl [3,6] cs 0 3=0∧apV 6 wl [3,6] cs 0 3=1:=by
 have e:apE 6 wl [3,6] cs 0 3=0:=by
  unfold apE
  rw[if_neg (by rw[nsE_zero.2 hN];simp),if_neg (by decide)]
 refine⟨e,?_⟩
 unfold apV
 rw[if_pos e,h]
 rfl
set_option maxHeartbeats 3200000 in
theorem works_any(w:World):Calls Tryz.prog 9 #[] w fun e w'=>e= .returned (.bool true)∧Below w.heap.size w w':=by
 have hA0:((w.alloc wO).alloc (.cells #[.int .i64 6, .slice (some ⟨w.heap.size,0,none⟩) 7 7] 24)).heap[w.heap.size]? =some wO:=(top2 w _ _).1
 have hG0:=(top2 w wO (.cells #[.int .i64 6, .slice (some ⟨w.heap.size,0,none⟩) 7 7] 24)).2.1
 have hB0:=(top2 w wO (.cells #[.int .i64 6, .slice (some ⟨w.heap.size,0,none⟩) 7 7] 24)).2.2.1
 generalize hp:w.heap.size=p at*
 have HAR:=hid (wl_arcs hA0)
 have HG0:=hid hG0
 have HB0:=hid hB0
 obtain⟨⟨g0,g1⟩,_⟩:=two_cells hG0
 clear hA0 hG0 hB0
 go_enter Tryz.func9,Tryz.ntmps9
 generalize hW:(w.alloc wO).alloc (.cells #[.int .i64 6, .slice (some ⟨p,0,none⟩) 7 7] 24)=W at*
 have hX:=top2 W (.cells #[.int .i64 3, .int .i64 6] 3) (.cells #[.int .i64 0] 3)
 have HBX:=hid hX.2.2.1
 have HN1:Hid (Ints ((W.alloc (.cells #[.int .i64 3, .int .i64 6] 3)).alloc (.cells #[.int .i64 0] 3)) (some ⟨W.heap.size,0,none⟩) [3,6]):=ints_block hX.1
 have HN2:Hid (Ints ((W.alloc (.cells #[.int .i64 3, .int .i64 6] 3)).alloc (.cells #[.int .i64 0] 3)) (some ⟨W.heap.size+1,0,none⟩) [0]):=ints_block hX.2.1
 have hXs:=hX.2.2.2
 clear hX
 have hpW:p+1<W.heap.size:=lt_of_block HG0.out
 go_wp2_with fail
 clear hW g0 g1
 have HMK:=hid (make_ok 6 (some ⟨p,0,none⟩) wl 7 ⟨W.heap.size,0,none⟩ 3 [6] 2 (some ⟨W.heap.size+1,0,none⟩) [0] 1 0 ((W.alloc (.cells #[.int .i64 3, .int .i64 6] 3)).alloc (.cells #[.int .i64 0] 3)) wl_plE (by decide) (by decide) (HAR.out.on HBX.out) HN1.out HN2.out (by decide) impC0)
 generalize hX:(W.alloc (.cells #[.int .i64 3, .int .i64 6] 3)).alloc (.cells #[.int .i64 0] 3)=X at*
 clear hX
 refine HMK.out.mono ?_
 rintro e w1 ⟨vb,cb,va,ca,rfl,hmk,hb1⟩
 obtain⟨m1,C,m2,m3,m4,m5⟩:=wl_made hmk.out
 have HW1:Hid (Below W.heap.size W w1):=HBX.out.trans (hb1.mono (by omega))
 have hz1:=hb1.size
 have hG1:=(HW1.out.block (p+1) hpW).trans HG0.out
 have HA1:=hid (HAR.out.on HW1.out)
 have HB1:Hid (Below p w w1):=HB0.out.trans (HW1.out.mono (by omega))
 have HM1:=hid m1
 have HM3:=hid m3
 have HM4:=hid m4
 have HM5:=hid m5
 have HM2:=hid m2
 clear hb1 HMK HBX HN1 HN2 hmk m1 m3 m4 m5 m2 HAR HB0 HG0
 have HG1:=hid hG1
 have hbY:Below w1.heap.size w1 (w1.alloc (.cells #[.slice vb 2 cb, .slice va 2 ca] 28)):=(Below.refl _ _).alloc (Nat.le_refl _) _
 have HY:=hid (heap_top w1 (.cells #[.slice vb 2 cb, .slice va 2 ca] 28))
 have hG2:=(hbY.block (p+1) (by omega)).trans hG1
 obtain⟨⟨g0,g1⟩,_⟩:=two_cells hG2
 obtain⟨⟨y0,y1⟩,_⟩:=two_cells HY.out
 have HB2:Hid (Below p w (w1.alloc (.cells #[.slice vb 2 cb, .slice va 2 ca] 28))):=HB1.out.trans (hbY.mono (by omega))
 have HM6:=hid (HM3.out.on hbY)
 have HAP:=hid (apart_any 6 (some ⟨p,0,none⟩) wl 7 vb [3,6] cb va C ca 0 3 (w1.alloc (.cells #[.slice vb 2 cb, .slice va 2 ca] 28)) (by decide) (by decide) (HA1.out.on hbY) (HM1.out.on hbY) HM6.out)
 obtain⟨ap1,ap2⟩:=wl_ap HM4.out HM5.out
 rw[ap1,ap2,HM2.out] at HAP
 have hz2:(w1.alloc (.cells #[.slice vb 2 cb, .slice va 2 ca] 28)).heap.size=w1.heap.size+1:=by simp
 clear hbY hG1 hG2 ap1 ap2
 go_wp2_with fail
 generalize hq:w1.heap.size=q at*
 generalize hY:w1.alloc (.cells #[.slice vb 2 cb, .slice va 2 ca] 28)=Y at*
 clear hY
 refine HAP.out.mono ?_
 rintro e w2 ⟨rfl,hb2⟩
 have HB3:Hid (Below p w w2):=HB2.out.trans (hb2.mono (by omega))
 have hz3:=hb2.size
 obtain⟨⟨x0,x1⟩,_⟩:=two_cells ((hb2.block q (by omega)).trans HY.out)
 have HM7:=hid (HM6.out.on hb2)
 obtain⟨ib,ob,hib⟩:=HM7.out.get
 obtain⟨rfl,hibl,hct⟩:=hib (by rw[HM2.out];decide)
 have d0:=hct 0 (by rw[HM2.out];decide)
 have d1:=hct 1 (by rw[HM2.out];decide)
 have HI0:=hid (HM7.out.2 0 (by rw[HM2.out];decide)).1
 have HI1:=hid (HM7.out.2 1 (by rw[HM2.out];decide)).1
 have e0:(cl C 0).xs=[0,0,0,1,1,1]:=by rw[←csl_at,HM4.out];rfl
 have e1:(cl C 1).xs=[0,0,0,0,0,0]:=by rw[←csl_at,HM4.out];rfl
 unfold Cl.val at d0 d1
 rw[e0] at d0 HI0
 rw[e1] at d1 HI1
 rw[Nat.add_zero] at d0
 simp only[List.length_cons,List.length_nil,Nat.zero_add,Nat.reduceAdd] at d0 d1
 generalize (cl C 0).a=xa at*
 generalize (cl C 0).c=xc at*
 generalize (cl C 1).a=ya at*
 generalize (cl C 1).c=yc at*
 have D1:=hid d1
 have X1:=hid x1
 have hqw:q<w2.heap.size:=by omega
 clear hb2 HAP g0 g1 y0 y1 hib hct e0 e1 HB2
 have HX2:Hid (Below w2.heap.size w2 (w2.alloc (.cells #[.int .i64 0, .int .i64 0, .int .i64 0, .int .i64 1, .int .i64 1, .int .i64 1] 3))):=(Below.refl _ _).alloc (Nat.le_refl _) _
 have HN2:Hid (Ints (w2.alloc (.cells #[.int .i64 0, .int .i64 0, .int .i64 0, .int .i64 1, .int .i64 1, .int .i64 1] 3)) (some ⟨w2.heap.size,0,none⟩) [0,0,0,1,1,1]):=ints_block (heap_top w2 _)
 go_wp2_with fail
 refine(sameInts_any xa (some ⟨w2.heap.size,0,none⟩) xc 6 [0,0,0,1,1,1] _ (by decide) (HI0.out.on HX2.out) HN2.out).mono ?_
 rintro e w3 ⟨rfl,hb3⟩
 have HW3:Hid (Below w2.heap.size w2 w3):=HX2.out.trans (hb3.mono HX2.out.size)
 have HB4:Hid (Below p w w3):=HB3.out.trans (HW3.out.mono (by omega))
 have u1:=(HW3.out.cell (p:=⟨q,1,none⟩) hqw).trans X1.out
 have u2:=(HW3.out.cell (p:=⟨ib,ob+1,none⟩) hibl).trans D1.out
 have hz4:=HW3.out.size
 clear hb3 HX2 HN2 d0 d1 x0 x1
 have HX3:Hid (Below w3.heap.size w3 (w3.alloc (.cells #[.int .i64 0, .int .i64 0, .int .i64 0, .int .i64 0, .int .i64 0, .int .i64 0] 3))):=(Below.refl _ _).alloc (Nat.le_refl _) _
 have HN3:Hid (Ints (w3.alloc (.cells #[.int .i64 0, .int .i64 0, .int .i64 0, .int .i64 0, .int .i64 0, .int .i64 0] 3)) (some ⟨w3.heap.size,0,none⟩) [0,0,0,0,0,0]):=ints_block (heap_top w3 _)
 go_wp2_with fail
 refine(sameInts_any ya (some ⟨w3.heap.size,0,none⟩) yc 6 [0,0,0,0,0,0] _ (by decide) ((HI1.out.on HW3.out).on HX3.out) HN3.out).mono ?_
 rintro e w5 ⟨rfl,hb5⟩
 have HB5:Hid (Below p w w5):=HB4.out.trans ((HX3.out.trans (hb5.mono HX3.out.size)).mono (by omega))
 clear hb5
 go_wp2_with fail
 go_ret
 exact⟨rfl,HB5.out⟩
end Go.Proofs.YtmenajiceaicpaaGreat
