import Derived.Test.YtmenajiceaicpaaGreatZMA
open Go.Lib (hid)
set_option maxRecDepth 100000
namespace Go.Proofs.YtmenajiceaicpaaGreat
open Go.RowKit
theorem filter_snocPM{ps:List Pr}{f:Pr→Bool}{k:Nat}(h:k<ps.length):(ps.take (k+1)).filter f=(ps.take k).filter f++(if f (ps.getD k Pr.zero) then [ps.getD k Pr.zero] else []):=by
 rw[take_snocP h,List.filter_append]
 congr 1
 simp only[List.filter_cons,List.filter_nil]
set_option maxHeartbeats 3200000 in
theorem cutAround_any(n:Nat)(c m:Int)(a:Option Addr)(l:List A)(cap:Nat)(pa:Option Addr)(pc:Nat)(w:World)(hE:chkE n l=0)(hr:Arcs w a l)(hps:Prs w pa (prl l)):
  Calls Tryz.prog 82 #[.agg #[.int .i64 n, .slice a l.length cap], .slice pa (prl l).length pc, .int .i64 c, .int .i64 m] w fun e w'=> ∃v cc xs,e= .returned (.tuple #[.slice v xs.length cc, .int .i64 (gchk n c m l)])∧OwnP w' w.heap.size v cc xs∧(gchk n c m l=0→CutIs n l c.toNat m.toNat xs)∧(gchk n c m l≠0→xs= [])∧Below w.heap.size w w':=by
 obtain⟨h1n,hn,hl,hoa⟩:=chk_zero hE
 have hn':n≤1024:=by omega
 obtain⟨G,HG⟩:=named (gchk n c m l)
 rw[HG.out]
 have HND:Hid (∀p,p∈prl l→p.a<n∧p.b<n):=fun p hp=>prl_ltM hoa hp
 have hpl:(prl l).length≤8192:=Nat.le_trans (prl_len l) hl
 have HE:=hid hE
 have hb0:Below w.heap.size w (w.alloc (.cells #[.int .i64 n, .slice a l.length cap] 24)):=(Below.refl _ _).alloc (Nat.le_refl _) _
 have hg:=heap_top w (.cells #[.int .i64 n, .slice a l.length cap] 24)
 have HR:=hid (hr.on hb0)
 have HPS:=hid (hps.on hb0)
 have hwz:w.heap.size≤(w.alloc (.cells #[.int .i64 n, .slice a l.length cap] 24)).heap.size:=hb0.size
 have HB0:=hid hb0
 clear hE hr hps hb0 hoa
 generalize hp:w.heap.size=p at*
 go_enter Tryz.func82,Tryz.ntmps82
 go_wp2_with fail
 generalize hW:w.alloc (.cells #[.int .i64 n, .slice a l.length cap] 24)=W at*
 clear hW
 have hpz:p<W.heap.size:=lt_of_block hg
 refine(region_any n c m a l cap W (by omega) HR.out).mono ?_
 rintro e w1 ⟨v1,xs,rfl,hown1,hxs,hb1⟩
 obtain⟨q1,q2,rfl⟩:=own_slice hown1
 rw[HG.out] at hxs ⊢
 have HB1:Hid (Below p w w1):=HB0.out.trans (hb1.mono hwz)
 have HW1:=hid hb1
 have hg1:=(hb1.block p hpz).trans hg
 obtain⟨⟨c0,_⟩,_⟩:=two_cells hg1
 have HO1:=hid (own_base hown1 hwz)
 have HI1:=hid (own_ints hown1 rfl)
 clear hown1 hb1
 by_cases hG:G≠0
 ·have e1:(G != 0)=true:=by simpa using hG
  have e2:(G==0)=false:=by simpa using hG
  go_wp2_with fail
  go_ret2
  exact⟨none,0,[],rfl,⟨rfl, .inl ⟨rfl,rfl⟩⟩,fun h=>absurd h hG,fun _=>rfl,HB1.out⟩
 obtain rfl:G=0:=by omega
 clear hG
 rw[if_pos rfl] at hxs
 obtain⟨_,⟨hc0,hcn⟩,hm1,hm2⟩:=gchk_zero HG.out
 have HCN:Hid (c.toNat<n∧1≤m.toNat):=⟨by omega,by omega⟩
 rw[Int.toNat_natCast] at hxs
 have hxl:xs.length≤n:=by rw[hxs];exact reg_short HCN.out.1
 have HXS:=hid hxs
 clear hxs
 by_cases hxn:xs.length=n
 ·have hxi:((xs.length:Int)==(n:Int))=true:=by simp;omega
  have HCI:Hid (CutIs n l c.toNat m.toNat []):=by show CutIs _ _ _ _ _;unfold CutIs;rw[if_pos (by rw[←HXS.out];exact hxn)]
  go_wp2_with fail
  go_ret2
  exact⟨none,0,[],rfl,⟨rfl, .inl ⟨rfl,rfl⟩⟩,HCI.out,HB1.out⟩
 have hxi:((xs.length:Int)==(n:Int))=false:=by simp;omega
 go_wp2_with fail
 refine(core_any n c m a l cap w1 (by omega) (HR.out.on HW1.out)).mono ?_
 rintro e w2 ⟨v2,ys,rfl,hown2,hys,hb2⟩
 obtain⟨q3,q4,rfl⟩:=own_slice hown2
 rw[HG.out] at hys ⊢
 rw[if_pos rfl,Int.toNat_natCast] at hys
 have hpz1:p<w1.heap.size:=lt_of_block hg1
 have hg2:=(hb2.block p hpz1).trans hg1
 obtain⟨⟨c0',_⟩,_⟩:=two_cells hg2
 have HB2:Hid (Below p w w2):=HB1.out.trans (hb2.mono (by omega))
 have HI2:=hid (HI1.out.on hb2)
 have HW2:=hid (HW1.out.trans (hb2.mono HW1.out.size))
 have HYS:=hid hys
 have hyl:ys.length≤xs.length:=by rw[hys,HXS.out];exact core_le _ _ _ _
 have HQN:Hid (∀u,u∈xs→u<n):=fun u hu=>reg_lt HCN.out.1 u (HXS.out▸hu)
 obtain⟨D,HD⟩:=named (dN n l c.toNat m.toNat)
 obtain⟨NN,HNN⟩:=named (nN n l c.toNat m.toNat)
 obtain⟨EN,HEN⟩:=named (eN n l c.toNat m.toNat)
 have HND2:Hid (nd xs ys.length=D):=by show _=_;rw[HXS.out,HYS.out];exact HD.out
 have hnn:(2:Int)+xs.length - ys.length=(NN:Int):=by
  have h:=HNN.out
  unfold nN at h
  rw[←HXS.out,←HYS.out] at h
  omega
 have HED:Hid (eds (prl l) D=EN):=by show _=_;rw[←HD.out];exact HEN.out
 have HDL:Hid (∀v,D v<NN):=fun v=>by rw[←HD.out,←HNN.out];exact dN_lt _ _ _ _ v
 have HOK:=hid (eN_ok (l:=l) hn' hl HCN.out.1 HCN.out.2)
 rw[HNN.out,HEN.out] at HOK
 have hnl:NN≤1024:=HOK.out.2.g.nb
 have hel:EN.length≤16384:=by have:=HOK.out.2.g.lb;rwa [F6.edl_len] at this
 clear hown2 hys hb2 hg hg1 HI1 HB1 c0
 go_wp2_with fail
 refine(nodes_any n (.slice a l.length cap) q1 xs ys.length q2 w2 hn' (by omega) HQN.out HI2.out).mono ?_
 rintro e w3 ⟨bn,rfl,hbn,htb,hb3⟩
 rw[HND2.out] at htb
 have hpz2:p<w2.heap.size:=lt_of_block hg2
 have HB3:Hid (Below p w w3):=HB2.out.trans (hb3.mono (by omega))
 have HW3:=hid (HW2.out.trans (hb3.mono HW2.out.size))
 have HTB3:=hid htb
 clear hb3 htb c0' hg2 HI2
 go_wp2_with fail
 refine(edges_any (prl l) pa pc bn n D w3 hpl (HPS.out.on HW3.out) HND.out HTB3.out).mono ?_
 rintro e w4 ⟨v4,c4,rfl,how4,hb4⟩
 rw[HED.out] at how4 ⊢
 have hpz3:p<w3.heap.size:=by have:=HW3.out.size;omega
 have hbn3:bn<w3.heap.size:=HTB3.out.lt
 have HB4:Hid (Below p w w4):=HB3.out.trans (hb4.mono (by omega))
 have HW4:=hid (HW3.out.trans (hb4.mono HW3.out.size))
 have HTB4:=hid (HTB3.out.same (hb4.block bn hbn3))
 have HO4:=hid how4
 have hz4:w3.heap.size≤w4.heap.size:=hb4.size
 clear hb4 how4
 have hb5:Below w4.heap.size w4 (w4.alloc (.cells #[.int .i64 NN, .slice v4 EN.length c4] 162)):=(Below.refl _ _).alloc (Nat.le_refl _) _
 have hg5:=heap_top w4 (.cells #[.int .i64 NN, .slice v4 EN.length c4] 162)
 have HB5:Hid (Below p w (w4.alloc (.cells #[.int .i64 NN, .slice v4 EN.length c4] 162))):=HB4.out.trans (hb5.mono (by omega))
 have HW5:=hid (HW4.out.trans (hb5.mono HW4.out.size))
 have HTB5:=hid (HTB4.out.same (hb5.block bn (by omega)))
 have HA5:=hid (HO4.out.alloc (.cells #[.int .i64 NN, .slice v4 EN.length c4] 162)).arcs
 have hz5:w4.heap.size≤(w4.alloc (.cells #[.int .i64 NN, .slice v4 EN.length c4] 162)).heap.size:=hb5.size
 clear hb5
 go_wp2_with fail
 generalize hU5:w4.alloc (.cells #[.int .i64 NN, .slice v4 EN.length c4] 162)=w5 at*
 clear hU5
 refine(F6.cut_ok NN v4 EN c4 w5 0 1 HA5.out HOK.out.1 HOK.out.2).mono ?_
 rintro e w6 ⟨fl,rk,bs,ve,rfl,hfl,hrk,hfar,hside,_,_,hbs,hb6⟩
 have HCF:Hid (Cf n l c.toNat m.toNat fl rk):=⟨by rw[HNN.out,HEN.out];exact hfl,by rw[HNN.out,HEN.out];exact hrk,hfar⟩
 have HB6:Hid (Below p w w6):=HB5.out.trans (hb6.mono (by omega))
 have hbn5:bn<w5.heap.size:=by omega
 have HTB6:=hid (HTB5.out.same (hb6.block bn hbn5))
 have HPS6:=hid (HPS.out.on (HW5.out.trans (hb6.mono HW5.out.size)))
 have HSD:Hid (TbV w6 bs NN 4 (fun v=> .bool (F6.side rk v))):=hside
 have hbs6:bs<w6.heap.size:=HSD.out.lt
 have hz6:w5.heap.size≤w6.heap.size:=hb6.size
 obtain⟨S,HS⟩:=named (F6.side rk)
 rw[HS.out] at HSD
 have HCP:Hid (cutP n l c.toNat m.toNat rk=(prl l).filter (fun p=>S (D p.a) != S (D p.b))):=by show _=_;unfold cutP;rw[HD.out,HS.out]
 clear hfl hrk hfar hside hb6 HTB5 HTB4 HTB3 HA5 HOK HO4 HED HND2 HPS HW5 HW4 HW3 HW2 HB5 HB4 HB3 HB2 hg5 HQN HR HW1 HO1
 generalize F6.net (F6.edl EN) fl 0 (F6.edl EN).length=nt
 obtain⟨i0,hi,hz0,hz1,hz2⟩:=info_parts info41
 obtain⟨ix,ox,hix⟩:=HPS6.out.get
 have HIX:=hid hix
 clear hix HPS6
 go_wp2_with fail
 generalize hB:w6.heap.size=B at*
 have hpB:p≤B:=by omega
 go_loopw [18,73] (fun s18 i wr=> ∃ (k:Nat) (av:Option Addr) (cv len:Nat),k≤(prl l).length∧i= .int .i64 k∧s18= .slice av len cv∧Hid ((((prl l).take k).filter (fun p=>S (D p.a) != S (D p.b))).length=len)∧Hid (wr.ownsRow B 119 2 (.slice av len cv) len (cellsP (((prl l).take k).filter (fun p=>S (D p.a) != S (D p.b)))))∧Hid (Below B w6 wr)) (fun _ i _=>(prl l).length - (intOf i).toNat)
 case atStart=>exact⟨0,none,0,0,Nat.zero_le _,rfl,rfl,rfl,World.ownsRow_nil _ _ _ _,Below.refl _ _⟩
 case round=>
  obtain⟨k,av,cv,len,hk,rfl,rfl,HLN,HOW,HBR⟩:=hrel
  have hpw:B≤wr.heap.size:=hB▸HBR.out.size
  by_cases hlk:k<(prl l).length
  ·obtain⟨rfl,hbl,hat⟩:=HIX.out (by omega)
   have hlk':(k:Int)<(prl l).length:=by omega
   obtain⟨x0,x1⟩:=hat k hlk
   have y0:=(HBR.out.cell (p:=⟨ix,ox+k*2,none⟩) hbl).trans x0
   have y1:=(HBR.out.cell (p:=⟨ix,ox+k*2+1,none⟩) hbl).trans x1
   obtain⟨ha,hb⟩:=HND.out ((prl l).getD k Pr.zero) (getD_memP hlk)
   have hlen:len≤8192:=by
    rw[←HLN.out]
    refine Nat.le_trans (List.length_filter_le _ _) ?_
    rw[List.length_take]
    omega
   have HSN:=hid (filter_snocPM (f:=fun p=>S (D p.a) != S (D p.b)) hlk)
   clear hat x0 x1
   generalize (prl l).getD k Pr.zero=x at*
   have hbB:Below B w6 (wr.alloc (.cells #[.int .i64 (x.a:Int), .int .i64 (x.b:Int)] 119)):=HBR.out.alloc hpw _
   have htr:=HTB6.out.same (hbB.block bn (by omega))
   have hts:=HSD.out.same (hbB.block bs (by omega))
   have ha':(x.a:Int)<n:=by omega
   have hb':(x.b:Int)<n:=by omega
   have da:=htr.cell ha
   have db:=htr.cell hb
   have ea:=hts.cell (HDL.out x.a)
   have eb:=hts.cell (HDL.out x.b)
   have la:=HDL.out x.a
   have lb:=HDL.out x.b
   have hbx:=heap_top wr (.cells #[.int .i64 (x.a:Int), .int .i64 (x.b:Int)] 119)
   obtain⟨⟨b0,b1⟩,_⟩:=two_cells hbx
   have HOA:=hid (HOW.out.alloc (.cells #[.int .i64 (x.a:Int), .int .i64 (x.b:Int)] 119))
   have HBA:=hid hbB
   have hzA:(wr.alloc (.cells #[.int .i64 (x.a:Int), .int .i64 (x.b:Int)] 119)).heap.size=wr.heap.size+1:=by simp
   clear htr hts hbB
   generalize hda:D x.a=na at*
   generalize hdb:D x.b=nb at*
   generalize hsa:S na=ta at*
   generalize hsb:S nb=tb at*
   have la':(na:Int)<NN:=by omega
   have lb':(nb:Int)<NN:=by omega
   go_wp2_with fail
   generalize hU:wr.alloc (.cells #[.int .i64 (x.a:Int), .int .i64 (x.b:Int)] 119)=U at*
   go_quiet (fail)
   have HON:Hid ((U.drewN nq).ownsRow B 119 2 (.slice av len cv) len (cellsP (((prl l).take k).filter (fun p=>S (D p.a) != S (D p.b))))):=HOA.out
   have HBN:Hid (Below B w6 (U.drewN nq)):=⟨HBA.out.os,HBA.out.tape,HBA.out.output,HBA.out.size,HBA.out.block⟩
   have hzN:(U.drewN nq).heap.size=wr.heap.size+1:=hzA
   have hbN:(U.drewN nq).heap[wr.heap.size]? =some (.cells #[.int .i64 (x.a:Int), .int .i64 (x.b:Int)] 119):=hbx
   generalize hUN:U.drewN nq=UN at*
   obtain⟨⟨u0,u1⟩,_⟩:=two_cells hbN
   generalize hne0:(!(ta==tb))=tt at*
   cases tt
   ·have hne:(ta != tb)=false:=hne0
    have HE2:Hid (((prl l).take (k+1)).filter (fun p=>S (D p.a) != S (D p.b))=((prl l).take k).filter (fun p=>S (D p.a) != S (D p.b))):=by show _=_;rw[HSN.out,if_neg (by rw[hne];decide),List.append_nil]
    go_wp2_with fail
    refine⟨⟨k+1,av,cv,len,by omega,by simp,rfl,?_,?_,HBN⟩,by simp[intOf];omega⟩
    ·rw[HE2.out];exact HLN
    ·rw[HE2.out];exact HON
   ·have hne:(ta != tb)=true:=hne0
    have HE2:Hid (((prl l).take (k+1)).filter (fun p=>S (D p.a) != S (D p.b))=((prl l).take k).filter (fun p=>S (D p.a) != S (D p.b))++[⟨x.a,x.b⟩]):=by show _=_;rw[HSN.out,if_pos hne]
    have hnw:=news1 UN x.a x.b
    rw[hzN] at hnw
    have HNW:=hid hnw
    clear hnw
    have HOW2:=hid (HON.out.alloc (.cells #[.int .i64 (x.a:Int), .int .i64 (x.b:Int)] 119))
    have HBS:Hid (B≤(UN.alloc (.cells #[.int .i64 (x.a:Int), .int .i64 (x.b:Int)] 119)).heap.size):=by show _≤_;simp;omega
    have HBB:Hid (Below B w6 (UN.alloc (.cells #[.int .i64 (x.a:Int), .int .i64 (x.b:Int)] 119))):=HBN.out.alloc (by omega) _
    have HOL:Hid (∀b,(Value.slice av len cv).ownBlock=some b→B≤b):=fun b hb=>(HOW.out.lt b hb).1
    have HCA:Hid (cellsP (((prl l).take k).filter (fun p=>S (D p.a) != S (D p.b)))++cellsP [⟨x.a,x.b⟩]=cellsP (((prl l).take (k+1)).filter (fun p=>S (D p.a) != S (D p.b)))):=by show _=_;rw[HE2.out,cellsP_append]
    have HL2:Hid ((((prl l).take (k+1)).filter (fun p=>S (D p.a) != S (D p.b))).length=len+1):=by show _=_;rw[HE2.out,List.length_append,HLN.out];rfl
    go_wp2_with (at_builtin;refine wpList_append_own _ rfl (.tmp 94) (.tmp 96) 96 rfl B 119 i0 _ 2 16 Tryz.underlying96 hi hz0 hz1 hz2 rfl (by decide) (.slice av len cv) len (cellsP (((prl l).take k).filter (fun p=>S (D p.a) != S (D p.b)))) rfl HOW2.out ⟨wr.heap.size+1,0,none⟩ 1 1 (cellsP [⟨x.a,x.b⟩]) rfl rfl HNW.out (cellsP_one _) (by unfold maxLen;omega) (by omega) HBS.out ?_;intro v7 w7 hown7 hgrow7 hnil7;obtain⟨g7,c7,hv7,_,_,_,_⟩:=own_shape hown7 (fun e=>by have:=hnil7.1 e;simp at this);subst hv7;rw[HCA.out] at hown7;have HO7:=hid hown7;have HB7:=hid (HBB.out.grown hgrow7 HBS.out (by intro b hb;exact HOL.out b hb));clear hown7 hgrow7 hnil7)
    exact⟨⟨k+1,some ⟨g7,0,none⟩,c7,len+1,by omega,by simp,rfl,HL2,HO7,HB7⟩,by simp[intOf];omega⟩
  ·have e0:(prl l).take k=prl l:=List.take_of_length_le (by omega)
   have hlk': ¬(k:Int)<(prl l).length:=by omega
   rw[e0] at HLN HOW
   clear e0
   go_wp2_with fail
   go_ret2
   refine⟨av,cv,cutP n l c.toNat m.toNat rk,?_,?_,?_,?_⟩
   ·rw[HCP.out,HLN.out];rfl
   ·show World.ownsRow _ _ _ _ _ _ _
    rw[HCP.out,HLN.out]
    exact own_base HOW.out hpB
   ·unfold CutIs
    rw[if_neg (by rw[←HXS.out];exact hxn)]
    exact⟨fl,rk,HCF.out,rfl⟩
   ·exact HB6.out.trans (HBR.out.mono hpB)
end Go.Proofs.YtmenajiceaicpaaGreat
namespace Go.Proofs.YtmenajiceaicpaaGreat
open Go.RowKit Go.Maps
structure Tk(wr w0:World)(b n B:Nat)(D:DataW Unit)(T O:List Pr)(vt vo:Value):Prop where
 own:wr.ownsMap Tryz.prog 119 (unitElem (H:=Unit)) b n D
 tk:wr.ownsRow B 119 2 vt T.length (cellsP T)
 ot:wr.ownsRow B 119 2 vo O.length (cellsP O)
 ap: ∀g,vt.ownBlock=some g→vo.ownBlock≠some g
 bl:w0.grownBy wr (some b)
 sz:B≤wr.heap.size
theorem gby_row{w0 wr w1:World}{b:Nat}{row:Option Nat}(h:w0.grownBy wr (some b))(hg:wr.grownBy w1 row)(hr: ∀j,row=some j→w0.heap.size≤j):w0.grownBy w1 (some b):=
 ⟨hg.os.trans h.os,hg.tape.trans h.tape,hg.output.trans h.output,Nat.le_trans h.size hg.size,fun k hk hn=>(hg.block k (Nat.lt_of_lt_of_le hk h.size) (fun e=>by have:=hr k e.symm;omega)).trans (h.block k hk hn)⟩
section
variable {wr w0 w1:World} {b n B:Nat} {D:DataW Unit} {T O:List Pr} {vt vo:Value}
theorem Tk.alloc(h:Tk wr w0 b n B D T O vt vo)(_:b<B)(o:Obj):Tk (wr.alloc o) w0 b n B D T O vt vo:=⟨h.own.alloc o,h.tk.alloc o,h.ot.alloc o,h.ap,h.bl.trans (World.grownBy_alloc _ _ _),by have:=h.sz;simp;omega⟩
theorem Tk.other(h:Tk wr w0 b n B D T O vt vo)(hb:b<B)(hB:w0.heap.size=B){O':List Pr}{v':Value}{k:Nat}(hk:O'.length=k)(ho:w1.ownsRow B 119 2 v' k (cellsP O'))(hg:wr.grownBy w1 vo.ownBlock)(hl:v'.ownBlock=vo.ownBlock∨v'.ownBlock=some wr.heap.size):Tk w1 w0 b n B D T O' vt v':=by
 refine⟨h.own.kept hg (fun e=> ?_),h.tk.kept hg ?_,hk▸ho,fun g hg1 hg2=> ?_,gby_row h.bl hg (fun j hj=> ?_),Nat.le_trans h.sz hg.size⟩
 ·have:=(h.ot.lt b e.symm).1;omega
 ·cases e:vt.ownBlock with
  | none=>exact .inl rfl
  | some g=>exact .inr (fun e2=>h.ap g e e2.symm)
 ·rcases hl with e | e
  ·exact h.ap g hg1 (e▸hg2)
  ·have:=(h.tk.lt g hg1).2
   rw[e] at hg2
   injection hg2 with hg2
   omega
 ·have:=(h.ot.lt j hj).1;omega
theorem Tk.taken(h:Tk wr w0 b n B D T O vt vo)(hb:b<B)(hB:w0.heap.size=B){T':List Pr}{v':Value}{k:Nat}(hk:T'.length=k)(ho:w1.ownsRow B 119 2 v' k (cellsP T'))(hg:wr.grownBy w1 vt.ownBlock)(hl:v'.ownBlock=vt.ownBlock∨v'.ownBlock=some wr.heap.size):Tk w1 w0 b n B D T' O v' vo:=by
 refine⟨h.own.kept hg (fun e=> ?_),hk▸ho,h.ot.kept hg ?_,fun g hg1 hg2=> ?_,gby_row h.bl hg (fun j hj=> ?_),Nat.le_trans h.sz hg.size⟩
 ·have:=(h.tk.lt b e.symm).1;omega
 ·cases e:vo.ownBlock with
  | none=>exact .inl rfl
  | some g=>exact .inr (fun e2=>h.ap g e2.symm e)
 ·rcases hl with e | e
  ·exact h.ap g (e▸hg1) hg2
  ·have:=(h.ot.lt g hg2).2
   rw[e] at hg1
   injection hg1 with hg1
   omega
 ·have:=(h.tk.lt j hj).1;omega
theorem Tk.turned(h:Tk wr w0 b n B D T O vt vo)(hb:b<B){D':DataW Unit}(ho:w1.ownsMap Tryz.prog 119 (unitElem (H:=Unit)) b n D')(ht:wr.mapTurned w1 b):Tk w1 w0 b n B D' T O vt vo:=by
 have hg:=ht.grown
 refine⟨ho,h.tk.kept hg (.inr fun e=> ?_),h.ot.kept hg (.inr fun e=> ?_),h.ap,h.bl.trans hg,Nat.le_trans h.sz hg.size⟩
 ·have:=(h.tk.lt b e).1;omega
 ·have:=(h.ot.lt b e).1;omega
end
def Hs(D:DataW Unit)(S all:List Pr)(k:Nat):Prop:= ∀p,Sm p→Maps.has D (kP p)=decide (p∈S∧p∉all.take k)
theorem nodup_at{all:List Pr}(hnd:all.Nodup){k:Nat}(hk:k<all.length):all.getD k Pr.zero∉all.take k:=by
 have h:=hnd
 rw[←List.take_append_drop k all] at h
 have hd:all.drop k=all.getD k Pr.zero::all.drop (k+1):=by
  rw[List.drop_eq_getElem_cons hk]
  simp[List.getD,List.getElem?_eq_getElem hk]
 rw[hd] at h
 intro hm
 exact(List.nodup_append.1 h).2.2 _ hm _ (by simp) rfl
theorem Hs.at{D:DataW Unit}{S all:List Pr}{k:Nat}(h:Hs D S all k)(hnd:all.Nodup)(hk:k<all.length)(hs:Sm (all.getD k Pr.zero)):Maps.has D (kP (all.getD k Pr.zero))=decide (all.getD k Pr.zero∈S):=by
 rw[h _ hs]
 simp only[nodup_at hnd hk,not_false_eq_true,and_true]
theorem Hs.stay{D:DataW Unit}{S all:List Pr}{k:Nat}(h:Hs D S all k)(hk:k<all.length)(hn:all.getD k Pr.zero∉S):Hs D S all (k+1):=fun p hp=>by
 rw[h p hp,take_snocP hk]
 congr 1
 refine propext ⟨fun⟨h1,h2⟩=>⟨h1,fun hm=> ?_⟩,fun⟨h1,h2⟩=>⟨h1,fun hm=>h2 (List.mem_append.2 (.inl hm))⟩⟩
 rcases List.mem_append.1 hm with hm | hm
 ·exact h2 hm
 ·rw[List.mem_singleton] at hm
  exact hn (hm▸h1)
theorem Hs.gone{D:DataW Unit}{S all:List Pr}{k:Nat}(h:Hs D S all k)(hk:k<all.length)(hs:Sm (all.getD k Pr.zero)):Hs (D.del (kP (all.getD k Pr.zero))) S all (k+1):=fun p hp=>by
 rw[take_snocP hk]
 by_cases e:p=all.getD k Pr.zero
 ·rw[e,has_del_same]
  simp
 ·rw[has_del_other (hp.ne hs e),h p hp]
  simp only[List.mem_append,List.mem_singleton,e,or_false]
theorem Hs.rest{D:DataW Unit}{S all:List Pr}{k:Nat}(h:Hs D S all k)(hD:IsMap D)(h0:Maps.size D=0)(hnd:all.Nodup)(hsm: ∀p,p∈all→Sm p): ∀p,p∈all.drop k→p∉S:=fun p hp hm=>by
 obtain⟨es,rfl⟩:=hD
 rw[size_eq] at h0
 have:es= []:=List.eq_nil_of_length_eq_zero h0
 subst this
 have h1:=h p (hsm p (List.mem_of_mem_drop hp))
 have h2:p∉all.take k:=fun ht=>by
  have h3:=hnd
  rw[←List.take_append_drop k all] at h3
  exact(List.nodup_append.1 h3).2.2 _ ht _ hp rfl
 simp[Maps.has,hm,h2] at h1
theorem drop_cells{W:World}{ps:List Pr}{ix ox k:Nat}(h: ∀j,j<ps.length→(ps.getD j Pr.zero).at W ix (ox+j*2)): ∀j u,(cellsP (ps.drop k))[j]? =some u→W.cell? ((⟨ix,ox+k*2,none⟩:Addr).add j)=some u:=by
 intro j u hu
 have hj:j<(cellsP (ps.drop k)).length:=(List.getElem?_eq_some_iff.1 hu).1
 rw[cellsP_len,List.length_drop] at hj
 obtain⟨h1,h2⟩:=cellsP_at (ps.drop k) (j / 2) (by rw[List.length_drop];omega)
 obtain⟨z0,z1⟩:=h (k+j / 2) (by omega)
 have eg:(ps.drop k).getD (j / 2) Pr.zero=ps.getD (k+j / 2) Pr.zero:=by simp[List.getD,List.getElem?_drop]
 rw[eg] at h1 h2
 rw[Go.WideShapes.add_plain]
 rcases Nat.mod_two_eq_zero_or_one j with e | e
 ·rw[show j / 2*2=j by omega,hu] at h1
  rw[show ox+k*2+j=ox+(k+j / 2)*2 by omega,z0]
  exact h1.symm
 ·rw[show j / 2*2+1=j by omega,hu] at h2
  rw[show ox+k*2+j=ox+(k+j / 2)*2+1 by omega,z1]
  exact h2.symm
set_option maxHeartbeats 3200000 in
theorem takeFrom_any(w:World)(b n:Nat)(S ps:List Pr)(a:Option Addr)(c:Nat)(hpl:ps.length≤8192)(hcap:ps.length≤c)(hcm:c≤9223372036854775807)(hnd:ps.Nodup)(hsm: ∀p,p∈ps→Sm p)(hps:PrsN w a ps b)(hm:MapS w b n S):
  Calls Tryz.prog 84 #[.map (some b), .slice a ps.length c] w fun e w'=> ∃vt ct vo co,e= .returned (.tuple #[.slice vt (ps.filter (fun p=>decide (p∈S))).length ct, .slice vo (ps.filter (fun p=> !decide (p∈S))).length co])∧OwnP w' w.heap.size vt ct (ps.filter (fun p=>decide (p∈S)))∧OwnP w' w.heap.size vo co (ps.filter (fun p=> !decide (p∈S)))∧w.grownBy w' (some b):=by
 obtain⟨ix,ox,hix⟩:=hps.get
 have HIX:=hid hix
 have HSM:=hid hsm
 have HND:=hid hnd
 obtain⟨D0,hown0,hhas0⟩:=hm
 obtain⟨B,hB⟩: ∃B,w.heap.size=B:=⟨_,rfl⟩
 have hbB:b<B:=hB▸hown0.lt
 have HTK:Hid (Tk w w b n B D0 [] [] (.slice none 0 0) (.slice none 0 0)):=⟨hown0,World.ownsRow_nil _ _ _ _,World.ownsRow_nil _ _ _ _,(fun g h=>by cases h),gby_refl _ _,by omega⟩
 have HH0:Hid (Hs D0 S ps 0):=fun p hp=>by rw[hhas0 p hp];simp
 obtain⟨f,HF⟩:=named (fun p:Pr=>decide (p∈S))
 have HFN:Hid ((fun p:Pr=> !decide (p∈S))=fun p=> !f p):=by show _=_;rw[←HF.out]
 rw[HF.out,HFN.out,hB]
 have hcap':(ps.length:Int)≤c:=by omega
 have hcm':(c:Int)≤9223372036854775807:=by omega
 obtain⟨i0,hi,hz0,hz1,hz2⟩:=info_parts info41
 clear hix hps hsm hnd hown0 hhas0
 go_enter Tryz.func84,Tryz.ntmps84
 go_wp2_with fail
 go_loopw [4,5,12] (fun s4 s5 i wr=> ∃ (k:Nat) (D:DataW Unit) (vt vo:Value) (T O:List Pr),k≤ps.length∧i= .int .i64 k∧s4=vt∧s5=vo∧Hid (Tk wr w b n B D T O vt vo)∧Hid (Hs D S ps k)∧Hid (T=(ps.take k).filter f)∧Hid (O=(ps.take k).filter (fun p=> !f p))) (fun _ _ i _=>ps.length - (intOf i).toNat)
 case atStart=>exact⟨0,D0,_,_,[],[],Nat.zero_le _,rfl,rfl,rfl,HTK,HH0,rfl,rfl⟩
 case round=>
  obtain⟨k,D,vt,vo,T,O,hk,rfl,rfl,rfl,HTR,HHR,HT,HO⟩:=hrel
  obtain⟨at1,ct,rfl⟩:=own_slice HTR.out.tk
  obtain⟨ao1,co,rfl⟩:=own_slice HTR.out.ot
  by_cases hlk:k<ps.length
  ·obtain⟨rfl,hbl,hbn,hat⟩:=HIX.out (by omega)
   have hlk':(k:Int)<ps.length:=by omega
   have hkc:(k:Int)≤c:=by omega
   obtain⟨y0,y1⟩:=(hat k hlk).grown HTR.out.bl hbl hbn
   have HSX:=hid (HSM.out _ (getD_memP hlk))
   have HAT:=hid (HHR.out.at HND.out hlk HSX.out)
   have HST:=hid (HHR.out.stay hlk)
   have HGO:=hid (HHR.out.gone hlk HSX.out)
   have HFT:=hid (filter_snocPM (f:=f) hlk)
   have HFO:=hid (filter_snocPM (f:=fun p=> !f p) hlk)
   have HTO:Hid (T.length≤8192∧O.length≤8192):=by
    refine⟨?_,?_⟩
    ·rw[HT.out];exact Nat.le_trans (List.length_filter_le _ _) (by rw[List.length_take];omega)
    ·rw[HO.out];exact Nat.le_trans (List.length_filter_le _ _) (by rw[List.length_take];omega)
   have HFX:Hid (f (ps.getD k Pr.zero)=decide (ps.getD k Pr.zero∈S)):=by show _=_;rw[←HF.out]
   have HPA:Hid (∀j,j<ps.length→(ps.getD j Pr.zero).at (wr.alloc (.cells #[.int .i64 ((ps.getD k Pr.zero).a:Int), .int .i64 ((ps.getD k Pr.zero).b:Int)] 119)) ix (ox+j*2)):=fun j hj=>by
    have hbw:=(HTR.out.alloc hbB (.cells #[.int .i64 ((ps.getD k Pr.zero).a:Int), .int .i64 ((ps.getD k Pr.zero).b:Int)] 119)).bl
    exact(hat j hj).grown hbw hbl hbn
   clear hat
   generalize ps.getD k Pr.zero=x at*
   obtain⟨⟨b0,b1⟩,_⟩:=two_cells (heap_top wr (.cells #[.int .i64 (x.a:Int), .int .i64 (x.b:Int)] 119))
   have HT1:=hid (HTR.out.alloc hbB (.cells #[.int .i64 (x.a:Int), .int .i64 (x.b:Int)] 119))
   have HKX:=hid HSX.out.key
   by_cases hs0:Maps.size D=0
   ·have hs1:((Maps.size D:Nat):Int)=0:=by omega
    have HRS:=hid (HHR.out.rest HTR.out.own.isMap hs0 HND.out HSM.out)
    have HDL:Hid ((cellsP (ps.drop k)).length=(ps.length - k)*2):=by show _=_;rw[cellsP_len,List.length_drop]
    have HNW:=hid (drop_cells (W:=wr.alloc (.cells #[.int .i64 (x.a:Int), .int .i64 (x.b:Int)] 119)) (k:=k) (fun j hj=>HPA.out j hj))
    obtain⟨hTl,hOl⟩:=HTO.out
    have HCA:Hid (cellsP O++cellsP (ps.drop k)=cellsP (ps.filter (fun p=> !f p))∧(ps.filter (fun p=> !f p)).length=O.length+(ps.length - k)∧T=ps.filter f):=by
     have e1:(ps.drop k).filter (fun p=> !f p)=ps.drop k:=List.filter_eq_self.2 (fun p hp=>by rw[←HF.out];simpa using HRS.out p hp)
     have e2:(ps.drop k).filter f= []:=List.filter_eq_nil_iff.2 (fun p hp=>by rw[←HF.out];simpa using HRS.out p hp)
     have e3:ps.filter (fun p=> !f p)=O++ps.drop k:=by
      conv=>lhs;rw[←List.take_append_drop k ps]
      rw[List.filter_append,e1,HO.out]
     have e4:ps.filter f=T:=by
      conv=>lhs;rw[←List.take_append_drop k ps]
      rw[List.filter_append,e2,List.append_nil,HT.out]
     refine⟨by rw[e3,cellsP_append],by rw[e3,List.length_append,List.length_drop],e4.symm⟩
    clear hs0
    go_wp2_with (first | (at_len;refine wpList_len_own _ rfl _ 112 rfl 119 166 Tryz.underlying112 (unitElem (H:=Unit)) b n D rfl HT1.out.own ?_;rw[hs1]) | (at_builtin;refine wpList_append_own_at _ rfl (.tmp 21) (.tmp 24) 96 rfl B 119 i0 _ 2 16 Tryz.underlying96 hi hz0 hz1 hz2 rfl (by decide) _ O.length (cellsP O) rfl HT1.out.ot ⟨ix,ox+k*2,none⟩ (ps.length - k) (c - k) (cellsP (ps.drop k)) rfl HDL.out HNW.out (cellsP_one _) (by unfold maxLen;omega) (by omega) HT1.out.sz ?_;intro v7 w7 hown7 hgrow7 hnil7 hloc7;rw[HCA.out.1,←HCA.out.2.1] at hown7;obtain⟨a7,c7,rfl⟩:=own_slice hown7;have HT7:=hid (HT1.out.other hbB hB rfl hown7 hgrow7 hloc7);clear hown7 hgrow7 hnil7 hloc7))
    go_ret2
    refine⟨at1,ct,a7,c7,?_,?_,HT7.out.ot,HT7.out.bl⟩
    ·rw[←HCA.out.2.2];rfl
    ·rw[←HCA.out.2.2];exact HT7.out.tk
   ·have hs1:(((Maps.size D:Nat):Int)==0)=false:=by simp;omega
    obtain⟨hTl,hOl⟩:=HTO.out
    have HT2:=hid (HT1.out.alloc hbB (.cells #[] 166))
    have c2:((wr.alloc (.cells #[.int .i64 (x.a:Int), .int .i64 (x.b:Int)] 119)).alloc (.cells #[] 166)).heap[wr.heap.size]? =some (.cells #[.int .i64 (x.a:Int), .int .i64 (x.b:Int)] 119):=(Below.heap_alloc _ _ _ (by simp)).trans (heap_top wr _)
    obtain⟨⟨d0,d1⟩,_⟩:=two_cells c2
    have hwb:b<wr.heap.size:=Nat.lt_of_lt_of_le hbB HTR.out.sz
    generalize hhx:Maps.has D (kP x)=hx at*
    cases hx
    ·have HNS:Hid (x∉S):=by show x∉S;exact of_decide_eq_false HAT.out.symm
     have hfx:f x=false:=by rw[HFX.out];simpa using HNS.out
     have HL1:Hid ((ps.take (k+1)).filter f=T):=by show _=_;rw[HFT.out,HT.out,hfx];simp
     have HL2:Hid ((ps.take (k+1)).filter (fun p=> !f p)=O++[⟨x.a,x.b⟩]):=by show _=_;rw[HFO.out,HO.out,hfx];simp
     have hnw:=news1 ((wr.alloc (.cells #[.int .i64 (x.a:Int), .int .i64 (x.b:Int)] 119)).alloc (.cells #[] 166)) x.a x.b
     rw[World.size_alloc,World.size_alloc] at hnw
     have HNW:=hid hnw
     have HT3:=hid (HT2.out.alloc hbB (.cells #[.int .i64 (x.a:Int), .int .i64 (x.b:Int)] 119))
     clear hnw hfx
     go_wp2_with (first | (at_len;refine wpList_len_own _ rfl _ 112 rfl 119 166 Tryz.underlying112 (unitElem (H:=Unit)) b n D rfl HT1.out.own ?_) | (at_lookup;refine wpList_lookup_own_unit _ rfl _ _ 112 rfl 119 166 lawP Tryz.underlying112 (zero85 _) b n D rfl HT1.out.own _ (kP x) rfl HKX.out ?_;rw[hhx]) | (at_builtin;refine wpList_append_own_at _ rfl (.tmp 34) (.tmp 36) 96 rfl B 119 i0 _ 2 16 Tryz.underlying96 hi hz0 hz1 hz2 rfl (by decide) _ O.length (cellsP O) rfl HT3.out.ot ⟨wr.heap.size+1+1,0,none⟩ 1 1 (cellsP [⟨x.a,x.b⟩]) rfl rfl HNW.out (cellsP_one _) (by unfold maxLen;omega) (by omega) HT3.out.sz ?_;intro v7 w7 hown7 hgrow7 hnil7 hloc7;rw[←cellsP_append] at hown7;have HT7:=hid (HT3.out.other hbB hB (by simp) hown7 hgrow7 hloc7);clear hown7 hgrow7 hnil7 hloc7))
     exact⟨⟨k+1,D,_,_,T,O++[⟨x.a,x.b⟩],by omega,by simp,rfl,rfl,HT7,hid (HST.out HNS.out),hid HL1.out.symm,hid HL2.out.symm⟩,by simp[intOf];omega⟩
    ·have HNS:Hid (x∈S):=by show x∈S;exact of_decide_eq_true HAT.out.symm
     have hfx:f x=true:=by rw[HFX.out];simpa using HNS.out
     have HL1:Hid ((ps.take (k+1)).filter f=T++[⟨x.a,x.b⟩]):=by show _=_;rw[HFT.out,HT.out,hfx];simp
     have HL2:Hid ((ps.take (k+1)).filter (fun p=> !f p)=O):=by show _=_;rw[HFO.out,HO.out,hfx];simp
     clear hfx
     go_wp2_with (first | (at_len;refine wpList_len_own _ rfl _ 112 rfl 119 166 Tryz.underlying112 (unitElem (H:=Unit)) b n D rfl HT1.out.own ?_) | (at_lookup;refine wpList_lookup_own_unit _ rfl _ _ 112 rfl 119 166 lawP Tryz.underlying112 (zero85 _) b n D rfl HT1.out.own _ (kP x) rfl HKX.out ?_;rw[hhx]) | (at_delete;refine wpList_delete_own _ rfl _ _ 112 119 rfl 166 lawP Tryz.underlying112 (unitElem (H:=Unit)) b n D rfl HT2.out.own _ (kP x) rfl HKX.out ?_;intro w3 hown3 hturn3;have HT3:=hid (HT2.out.turned hbB hown3 hturn3);have g3:=(hturn3.grown.block wr.heap.size (by simp;omega) (by simp;omega)).trans c2;obtain⟨⟨q0,q1⟩,_⟩:=two_cells g3;have HNW:=hid (news1 w3 x.a x.b);have HT4:=hid (HT3.out.alloc hbB (.cells #[.int .i64 (x.a:Int), .int .i64 (x.b:Int)] 119));clear hown3 hturn3 g3) | (at_builtin;refine wpList_append_own_at _ rfl (.tmp 40) (.tmp 42) 96 rfl B 119 i0 _ 2 16 Tryz.underlying96 hi hz0 hz1 hz2 rfl (by decide) _ T.length (cellsP T) rfl HT4.out.tk ⟨w3.heap.size,0,none⟩ 1 1 (cellsP [⟨x.a,x.b⟩]) rfl rfl HNW.out (cellsP_one _) (by unfold maxLen;omega) (by omega) HT4.out.sz ?_;intro v7 w7 hown7 hgrow7 hnil7 hloc7;rw[←cellsP_append] at hown7;have HT7:=hid (HT4.out.taken hbB hB (by simp) hown7 hgrow7 hloc7);clear hown7 hgrow7 hnil7 hloc7))
     exact⟨⟨k+1,D.del (kP x),_,_,T++[⟨x.a,x.b⟩],O,by omega,by simp,rfl,rfl,HT7,HGO,hid HL1.out.symm,hid HL2.out.symm⟩,by simp[intOf];omega⟩
  ·have e0:ps.take k=ps:=List.take_of_length_le (by omega)
   have hlk': ¬(k:Int)<ps.length:=by omega
   rw[e0] at HT HO
   clear e0
   go_wp2_with fail
   go_ret2
   refine⟨at1,ct,ao1,co,?_,?_,?_,HTR.out.bl⟩
   ·rw[←HT.out,←HO.out];rfl
   ·rw[←HT.out];exact HTR.out.tk
   ·rw[←HO.out];exact HTR.out.ot
end Go.Proofs.YtmenajiceaicpaaGreat
