import Derived.Test.YtmenajiceaicpaaGreatZMC
open Go.Lib (hid)
namespace Go.Proofs.YtmenajiceaicpaaGreat
open Go.RowKit Go.Maps
theorem OwnP.offN{w:World}{B:Nat}{a:Option Addr}{c b:Nat}{l:List Pr}(h:OwnP w B a c l)(hb:b<B):PrsN w a l b:=by
 rcases h.prs with h1 | ⟨g,o,e,hl,hc⟩
 ·exact .inl h1
 ·by_cases h0:l= []
  ·exact .inl h0
  ·refine .inr ⟨g,o,e,hl,?_,hc⟩
   rcases h.2 with ⟨e1,e2⟩ | ⟨g',c',cur,e1,hB,_⟩
   ·exact absurd (List.eq_nil_of_length_eq_zero e2) h0
   ·subst e
    injection e1 with e1 _ _
    injection e1 with e1
    injection e1 with e1 _ _
    omega
def MarksIs(n:Nat)(l:List A)(cs:List Nat)(m:Nat)(xs:List Pr):Prop:= ∃cf:Nat→List Pr,(∀c,c∈cs→CutIs n l c m (cf c))∧xs=(prl l).filter (fun p=>decide (∃c∈cs,p∈cf c))
def maE(N m:Int)(l:List A)(cs:List Int):Int:=if chkE N l≠0 then chkE N l else ceE N m cs
theorem CutIs.sub{n:Nat}{l:List A}{c m:Nat}{xs:List Pr}(h:CutIs n l c m xs): ∀p,p∈xs→p∈prl l:=by
 unfold CutIs at h
 split at h
 ·subst h;intro p hp;cases hp
 ·obtain⟨_,rk,_,rfl⟩:=h
  intro p hp
  exact(List.mem_filter.1 hp).1
theorem gby_below{w w':World}{row:Option Nat}(h:Below w.heap.size w w'):w.grownBy w' row:=⟨h.os,h.tape,h.output,h.size,fun k hk _=>h.block k hk⟩
theorem below_drewM{B:Nat}{w w':World}(h:Below B w w'):Below B w w'.drew:=⟨h.os,h.tape,h.output,h.size,h.block⟩
theorem MapS.kept{w w':World}{b n:Nat}{S:List Pr}{row:Option Nat}(h:MapS w b n S)(hg:w.grownBy w' row)(hne:some b≠row):MapS w' b n S:=by
 obtain⟨D,h1,h2⟩:=h
 exact⟨D,h1.kept hg hne,h2⟩
theorem MapS.set{w:World}{b n:Nat}{S:List Pr}(h:MapS w b n S){p:Addr}(hp:b≠p.block)(u:Value):MapS (w.setCell p u) b n S:=by
 obtain⟨D,h1,h2⟩:=h
 exact⟨D,h1.setCell hp u,h2⟩
theorem MapS.lt{w:World}{b n:Nat}{S:List Pr}(h:MapS w b n S):b<w.heap.size:=by
 obtain⟨D,h1,_⟩:=h
 exact h1.lt
theorem CutIs.len{n:Nat}{l:List A}{c m:Nat}{xs:List Pr}(h:CutIs n l c m xs):xs.length≤(prl l).length:=by
 unfold CutIs at h
 split at h
 ·subst h;simp
 ·obtain⟨_,rk,_,rfl⟩:=h
  exact List.length_filter_le _ _
theorem gchk_ok{n c:Nat}{m:Int}{l:List A}(h:chkE n l=0)(hc:c<n)(h1:1≤m)(h2:m≤1024):gchk n c m l=0:=by
 unfold gchk
 rw[if_neg (by rw[h];omega),if_neg (by omega),if_neg (by omega)]
def updL(cf:Nat→List Pr)(c:Nat)(xs:List Pr):Nat→List Pr:=fun d=>if d=c then xs else cf d
theorem updL_self(cf:Nat→List Pr)(c:Nat)(xs:List Pr):updL cf c xs c=xs:=if_pos rfl
theorem updL_ne(cf:Nat→List Pr){c d:Nat}(xs:List Pr)(h:d≠c):updL cf c xs d=cf d:=if_neg h
def Held(n:Nat)(l:List A)(m:Nat)(q:List Nat)(S:List Pr)(cf:Nat→List Pr):Prop:=(∀c,c∈q→CutIs n l c m (cf c))∧∀p,p∈S↔ ∃c,c∈q∧p∈cf c
theorem Held.again{n:Nat}{l:List A}{m:Nat}{q:List Nat}{S:List Pr}{cf:Nat→List Pr}(h:Held n l m q S cf){c:Nat}(hc:c∈q):Held n l m (q++[c]) S cf:=by
 have e: ∀d,d∈q++[c]↔d∈q:=fun d=>by
  simp only[List.mem_append,List.mem_singleton]
  exact⟨fun h=>h.elim id (fun e=>e▸hc), .inl⟩
 exact⟨fun d hd=>h.1 d ((e d).1 hd),fun p=>(h.2 p).trans ⟨fun⟨d,h1,h2⟩=>⟨d,(e d).2 h1,h2⟩,fun⟨d,h1,h2⟩=>⟨d,(e d).1 h1,h2⟩⟩⟩
theorem Held.more{n:Nat}{l:List A}{m:Nat}{q:List Nat}{S:List Pr}{cf:Nat→List Pr}(h:Held n l m q S cf){c:Nat}(hc:c∉q){xs:List Pr}(hx:CutIs n l c m xs):Held n l m (q++[c]) (S++xs) (updL cf c xs):=by
 refine⟨fun d hd=> ?_,fun p=> ?_⟩
 ·by_cases e:d=c
  ·subst e;rw[updL_self];exact hx
  ·rw[updL_ne _ _ e]
   rcases List.mem_append.1 hd with hd | hd
   ·exact h.1 d hd
   ·exact absurd (List.mem_singleton.1 hd) e
 ·rw[List.mem_append,h.2 p]
  constructor
  ·rintro(⟨d,h1,h2⟩ | h1)
   ·exact⟨d,List.mem_append.2 (.inl h1),by rw[updL_ne _ _ (fun e:d=c=>hc (e▸h1))];exact h2⟩
   ·exact⟨c,by simp,by rw[updL_self];exact h1⟩
  ·rintro⟨d,h1,h2⟩
   by_cases e:d=c
   ·subst e;rw[updL_self] at h2;exact .inr h2
   ·rw[updL_ne _ _ e] at h2
    rcases List.mem_append.1 h1 with h1 | h1
    ·exact .inl ⟨d,h1,h2⟩
    ·exact absurd (List.mem_singleton.1 h1) e
set_option maxRecDepth 100000 in
set_option maxHeartbeats 3200000 in
theorem marks_any(N m:Int)(a:Option Addr)(l:List A)(cap:Nat)(b:Option Addr)(cs:List Int)(bc:Nat)(w:World)(hl:l.length≤9223372036854775807)(hml:cs.length≤9223372036854775807)(hr:Arcs w a l)(hm:Ints w b cs):
  Calls Tryz.prog 66 #[.agg #[.int .i64 N, .slice a l.length cap], .slice b cs.length bc, .int .i64 m] w fun e w'=> ∃v c xs,e= .returned (.tuple #[.slice v xs.length c, .int .i64 (maE N m l cs)])∧OwnP w' w.heap.size v c xs∧Hid (maE N m l cs=0→MarksIs N.toNat l (cs.map Int.toNat) m.toNat xs)∧Hid (maE N m l cs≠0→xs= [])∧Below w.heap.size w w':=by
 have hb0:Below w.heap.size w (w.alloc (.cells #[.int .i64 N, .slice a l.length cap] 24)):=(Below.refl _ _).alloc (Nat.le_refl _) _
 have hg:=heap_top w (.cells #[.int .i64 N, .slice a l.length cap] 24)
 have HR:=hid (hr.on hb0)
 have HM:=hid (hm.on hb0)
 have hwz:w.heap.size≤(w.alloc (.cells #[.int .i64 N, .slice a l.length cap] 24)).heap.size:=hb0.size
 have HB0:=hid hb0
 obtain⟨G,HG⟩:=named (maE N m l cs)
 rw[HG.out]
 clear hb0 hr hm
 generalize hp:w.heap.size=p at*
 go_enter Tryz.func66,Tryz.ntmps66
 go_wp2_with fail
 generalize hW:w.alloc (.cells #[.int .i64 N, .slice a l.length cap] 24)=W at*
 clear hW
 refine(pairs_any N a l cap W hl HR.out).mono ?_
 rintro e w1 ⟨v1,c1,ps,rfl,hown1,hps,hb1⟩
 have hpz:p<W.heap.size:=lt_of_block hg
 have HB1:Hid (Below p w w1):=HB0.out.trans (hb1.mono hwz)
 have hg1:=(hb1.block p hpz).trans hg
 obtain⟨⟨c0,c1'⟩,_⟩:=two_cells hg1
 have HM1:=hid (HM.out.on hb1)
 have HR1:=hid (HR.out.on hb1)
 have HO1:=hid hown1
 have hwz1:W.heap.size≤w1.heap.size:=hb1.size
 obtain⟨E,HE⟩:=named (chkE N l)
 rw[HE.out] at hps ⊢
 clear hb1 hown1 hg
 by_cases hE:E≠0
 ·have e1:(E != 0)=true:=by simpa using hE
  have e2:(E==0)=false:=by simpa using hE
  have HGE:Hid (G=E):=by show _=_;rw[←HG.out];unfold maE;rw[if_pos (by rw[HE.out];exact hE),HE.out]
  go_wp2_with fail
  go_ret2
  exact⟨none,0,[],by rw[HGE.out];rfl,⟨rfl, .inl ⟨rfl,rfl⟩⟩,fun h=>absurd (HGE.out.symm.trans h) hE,fun _=>rfl,HB1.out⟩
 obtain rfl:E=0:=by omega
 rw[if_pos rfl] at hps
 obtain⟨n,hn⟩: ∃n:Nat,N=n:=⟨N.toNat,by have:=(chk_zero HE.out).1;omega⟩
 subst hn hps
 clear hE
 have hpz1:p<w1.heap.size:=by omega
 have HGM:Hid (G=ceE n m cs):=by show _=_;rw[←HG.out];unfold maE;rw[if_neg (by rw[HE.out];omega)]
 go_wp2_with fail
 refine(checkCentres_any n m a l.length cap cs b bc w1 hml HM1.out).mono ?_
 rintro e w2 ⟨rfl,hb2⟩
 have HB2:Hid (Below p w w2):=HB1.out.trans (hb2.mono (by omega))
 have hg2:=(hb2.block p hpz1).trans hg1
 obtain⟨⟨d0,d1'⟩,_⟩:=two_cells hg2
 have HM2:=hid (HM1.out.on hb2)
 have HR2:=hid (HR1.out.on hb2)
 have HO2:Hid (OwnP w2 W.heap.size v1 c1 (prl l)):=own_on HO1.out hb2
 have hwz2:w1.heap.size≤w2.heap.size:=hb2.size
 rw[←HGM.out]
 clear hb2 c0 c1' hg1
 by_cases hG:G≠0
 ·have e1:(G != 0)=true:=by simpa using hG
  have e2:(G==0)=false:=by simpa using hG
  go_wp2_with fail
  go_ret2
  exact⟨none,0,[],rfl,⟨rfl, .inl ⟨rfl,rfl⟩⟩,fun h=>absurd h hG,fun _=>rfl,HB2.out⟩
 obtain rfl:G=0:=by omega
 clear hG
 obtain⟨hcl,hm1,hm2,hcs⟩:=ceE_zero HGM.out.symm
 have HCS:=hid hcs
 have hn2:n≤1024:=by have:=(chk_zero HE.out).2.1;omega
 have HSP:Hid (∀q,q∈prl l→Sm q):=fun q hq=>by
  have:=prl_ltM (chk_zero HE.out).2.2.2 hq
  exact⟨by omega,by omega⟩
 have hpl:(prl l).length≤8192:=Nat.le_trans (prl_len l) (chk_zero HE.out).2.2.1
 have hmm:= @run_makeMap Tryz.prog
 obtain⟨i4,hi4,hz4,hs4,hb4⟩:=info_parts info4
 have hmk: ∀w,(Instr.makeSlice 53 (.int .i64 n) (.int .i64 n)).run Tryz.prog w= .ok (.slice (some ⟨w.heap.size,0,none⟩) n n) (w.alloc (.cells ((List.range n).map (fun _=>Value.bool false)).toArray 4)):=fun w=>by
  have:=run_make (P:=Tryz.prog) w 53 4 i4 (.bool false) Tryz.underlying53 hi4 hz4 .i64 .i64 n n (by omega) (by omega) (by rw[hb4];omega) (by omega)
  rw[this,Int.toNat_natCast,hs4,made_bool]
 clear hcs hi4 hz4 hs4 hb4
 clear i4
 go_wp2_with fail
 have d0m:(w2.alloc (.map #[] 0)).cell? ⟨p,0,none⟩=some (.int .i64 n):=(World.cell?_of_block (a:=⟨p,0,none⟩) (Below.heap_alloc w2 (.map #[] 0) p (lt_of_block hg2))).trans d0
 obtain⟨ix,ox,hix⟩:=HM2.out.get
 have HIX:=hid hix
 clear hix
 have hpw2:p<w2.heap.size:=lt_of_block hg2
 go_region
 ·have HMU:Hid (MapS ((w2.alloc (.map #[] 0)).alloc (.cells ((List.range n).map (fun _=>Value.bool false)).toArray 4)).drew w2.heap.size 0 []):=by
   have h:MapS ((w2.alloc (.map #[] 0)).alloc (.cells ((List.range n).map (fun _=>Value.bool false)).toArray 4)) w2.heap.size 0 []:=(MapS.made w2).kept (row:=none) (World.grownBy_alloc _ _ none) (by simp)
   exact h
  have HTU:Hid (TbV ((w2.alloc (.map #[] 0)).alloc (.cells ((List.range n).map (fun _=>Value.bool false)).toArray 4)).drew (w2.heap.size+1) n 4 (fun v=> .bool (decide (v∈(cs.take 0).map Int.toNat)))):=by
   have:=heap_top (w2.alloc (.map #[] 0)) (.cells ((List.range n).map (fun _=>Value.bool false)).toArray 4)
   rw[World.size_alloc] at this
   exact this
  have HBU:Hid (Below w2.heap.size w2 ((w2.alloc (.map #[] 0)).alloc (.cells ((List.range n).map (fun _=>Value.bool false)).toArray 4)).drew):=below_drewM (((Below.refl _ _).alloc (Nat.le_refl _) _).alloc (by simp) _)
  generalize ((w2.alloc (.map #[] 0)).alloc (.cells ((List.range n).map (fun _=>Value.bool false)).toArray 4)).drew=U at*
  clear hmm hmk d0m d0 d1'
  generalize hdb:w2.heap.size+1=db at*
  generalize hq2:w2.heap.size=mb at*
  have hmd:mb≠db:=by omega
  go_wp2_with fail
  go_loopw [40] (fun i wr=> ∃ (k nn:Nat) (S:List Pr) (cf:Nat→List Pr),k≤cs.length∧i= .int .i64 k∧Hid (nn≤k*8192)∧Hid (MapS wr mb nn S)∧Hid (TbV wr db n 4 (fun v=> .bool (decide (v∈(cs.take k).map Int.toNat))))∧Hid (Below mb w2 wr)∧Hid (Held n l m.toNat ((cs.take k).map Int.toNat) S cf)) (fun i _=>cs.length - (intOf i).toNat)
  case atStart=>exact⟨0,0,[],fun _=> [],Nat.zero_le _,rfl,Nat.zero_le _,HMU,HTU,HBU,⟨fun c hc=>(by cases hc),fun p=>⟨fun h=>(by cases h),fun⟨c,h,_⟩=>(by cases h)⟩⟩⟩
  case round=>
   obtain⟨k,nn,S,cf,hk,rfl,HNN,HMR,HTR,HBR,HHD⟩:=hrel
   by_cases hlk:k<cs.length
   ·obtain⟨rfl,hbl,hat⟩:=HIX.out (by omega)
    have hlk':(k:Int)<cs.length:=by omega
    have y0:=(HBR.out.cell (p:=⟨ix,ox+k,none⟩) (by omega)).trans (hat k hlk)
    have HTK:Hid (cs.take (k+1)=cs.take k++[cs.getD k 0]):=by
     show _=_
     rw[List.take_succ_eq_append_getElem hlk]
     simp[List.getD,List.getElem?_eq_getElem hlk]
    have HME:=hid (HCS.out (cs.getD k 0) (by simp[List.getD,List.getElem?_eq_getElem hlk]))
    clear hat
    generalize cs.getD k 0=x at*
    obtain⟨c,hxc⟩: ∃c:Nat,x=c:=⟨x.toNat,by have:=HME.out.1;omega⟩
    subst hxc
    have hcn:c<n:=by have:=HME.out.2;omega
    have hcn':(c:Int)<n:=by omega
    have t1:=HTR.out.cell hcn
    have t2:=HTR.out.free c
    have HTM:Hid ((cs.take (k+1)).map Int.toNat=(cs.take k).map Int.toNat++[c]):=by show _=_;rw[HTK.out,List.map_append];rfl
    have HDT:Hid (∀v,decide (v∈(cs.take (k+1)).map Int.toNat)=(decide (v∈(cs.take k).map Int.toNat)||decide (v=c))):=fun v=>by rw[HTM.out,Bool.eq_iff_iff];simp
    obtain⟨ql,HQL⟩:=named ((cs.take k).map Int.toNat)
    rw[HQL.out] at HTM HDT HTR HHD
    rw[HQL.out] at t1
    by_cases hcq:c∈ql
    ·have hd1:decide (c∈ql)=true:=decide_eq_true hcq
     rw[hd1] at t1
     have HC2:=hid (HHD.out.again hcq)
     clear hd1
     go_wp2_with fail
     refine⟨⟨k+1,nn,S,cf,by omega,by simp,hid (by have:=HNN.out;omega),HMR,hid ?_,HBR,hid (by rw[HTM.out];exact HC2.out)⟩,by simp[intOf];omega⟩
     refine HTR.out.congr (fun v _=> ?_)
     rw[HDT.out v]
     by_cases e:v=c
     ·subst e;simp[hcq]
     ·simp[e]
    ·have hd1:decide (c∈ql)=false:=decide_eq_false hcq
     rw[hd1] at t1
     clear hd1
     have HT2:Hid (TbV (wr.setCell ⟨db,c,none⟩ (.bool true)) db n 4 (fun v=> .bool (decide (v∈(cs.take (k+1)).map Int.toNat)))):=(HTR.out.set c (.bool true)).congr (fun v _=>by
      by_cases e:v=c
      ·subst e;rw[updV_self,HDT.out v];simp
      ·rw[updV_ne _ _ e,HDT.out v];simp[e])
     have HM2':Hid (MapS (wr.setCell ⟨db,c,none⟩ (.bool true)) mb nn S):=HMR.out.set hmd _
     have HB2':Hid (Below mb w2 (wr.setCell ⟨db,c,none⟩ (.bool true))):=HBR.out.setCell (by show mb≤db;omega) _
     have hg3:(wr.setCell ⟨db,c,none⟩ (.bool true)).heap[p]? =some (.cells #[.int .i64 n, .slice a l.length cap] 24):=(HB2'.out.block p (by omega)).trans hg2
     obtain⟨⟨r0,r1⟩,_⟩:=two_cells hg3
     go_wp2_with fail
     generalize hV:wr.setCell ⟨db,c,none⟩ (.bool true)=V at*
     clear hV
     refine(cutAround_any n c m a l cap v1 c1 V HE.out (HR2.out.on (hq2▸HB2'.out)) (HO2.out.prs.on (hq2▸HB2'.out))).mono ?_
     rintro e u3 ⟨v3,c3,xs,rfl,hown3,hci,_,hb3⟩
     have hgc:=gchk_ok (m:=m) HE.out hcn hm1 hm2
     rw[hgc] at hci ⊢
     have HCI:=hid (hci rfl)
     rw[Int.toNat_natCast] at HCI
     have hmV:mb<V.heap.size:=HM2'.out.lt
     have HM3:Hid (MapS u3 mb nn S):=HM2'.out.kept (row:=none) (gby_below hb3) (by simp)
     have HT3:=hid (HT2.out.same (hb3.block db HT2.out.lt))
     have HB3:Hid (Below mb w2 u3):=HB2'.out.trans (hb3.mono (by have:=HB2'.out.size;omega))
     have HPN:=hid (hown3.offN hmV)
     have hxl:xs.length≤8192:=Nat.le_trans HCI.out.len hpl
     have HSX:Hid (∀q,q∈xs→Sm q):=fun q hq=>HSP.out q (HCI.out.sub q hq)
     have HMO:=hid (HHD.out.more hcq HCI.out)
     have hnn:nn≤1000000000000:=by have:=HNN.out;omega
     clear hown3 hci hb3 hgc t1 t2 r0 r1 hg3
     go_wp2_with fail
     refine(add_any u3 mb nn S xs v3 c3 (by omega) hnn HSX.out HPN.out HM3.out).mono ?_
     rintro e u4 ⟨rfl,hm4,hg4⟩
     have HM4:=hid hm4
     have HT4:=hid (HT3.out.same (hg4.block db HT3.out.lt (by intro e;injection e with e;exact hmd e.symm)))
     have HB4:Hid (Below mb w2 u4):=HB3.out.grown hg4 (by have:=HB3.out.size;omega) (fun j hj=>by cases hj;omega)
     clear hm4 hg4
     go_wp2_with fail
     exact⟨⟨k+1,nn+xs.length,S++xs,_,by omega,by simp,hid (by have:=HNN.out;omega),HM4,HT4,HB4,hid (by rw[HTM.out];exact HMO.out)⟩,by simp[intOf];omega⟩
   ·have e0:cs.take k=cs:=List.take_of_length_le (by omega)
    have hlk': ¬(k:Int)<cs.length:=by omega
    rw[e0] at HHD
    clear e0
    have HCP:=hid (own_cap HO2.out)
    have HPO:Hid (PrsN wr v1 (prl l) mb):=HO2.out.prs.off (hq2▸HBR.out) (by omega)
    go_wp2_with fail
    refine(takeFrom_any wr mb nn S (prl l) v1 c1 hpl HCP.out.1 HCP.out.2 (prl_nodup l) HSP.out HPO.out HMR.out).mono ?_
    rintro e w9 ⟨vt,ct,vo,co,rfl,hta,_,hg9⟩
    have HB9:Hid (Below mb w2 w9):=HBR.out.grown hg9 (by have:=HBR.out.size;omega) (fun j hj=>by cases hj;omega)
    obtain⟨TA,HTA⟩:=named ((prl l).filter (fun p=>decide (p∈S)))
    obtain⟨ol,hol⟩: ∃ol,((prl l).filter (fun p=> !decide (p∈S))).length=ol:=⟨_,rfl⟩
    rw[HTA.out] at hta ⊢
    rw[hol]
    have HOA:Hid (OwnP w9 p vt ct TA):=own_base hta (by have:=HBR.out.size;omega)
    have HMI:Hid (MarksIs n l (cs.map Int.toNat) m.toNat TA):=⟨cf,HHD.out.1,by
     rw[←HTA.out]
     refine List.filter_congr (fun p _=> ?_)
     rw[Bool.eq_iff_iff]
     simp only[decide_eq_true_eq]
     exact HHD.out.2 p⟩
    clear hta hg9 hol
    go_wp2_with fail
    go_ret2
    exact⟨vt,ct,TA,rfl,HOA.out,HMI,trivial,HB2.out.trans (HB9.out.mono (by omega))⟩
 ·have HMU:Hid (MapS ((w2.alloc (.cells ((List.range n).map (fun _=>Value.bool false)).toArray 4)).alloc (.map #[] 0)).drew (w2.heap.size+1) 0 []):=by
   have:=MapS.made (w2.alloc (.cells ((List.range n).map (fun _=>Value.bool false)).toArray 4))
   rw[World.size_alloc] at this
   exact this
  have HTU:Hid (TbV ((w2.alloc (.cells ((List.range n).map (fun _=>Value.bool false)).toArray 4)).alloc (.map #[] 0)).drew w2.heap.size n 4 (fun v=> .bool (decide (v∈(cs.take 0).map Int.toNat)))):=(Below.heap_alloc _ _ _ (by simp)).trans (heap_top w2 _)
  have HBU:Hid (Below w2.heap.size w2 ((w2.alloc (.cells ((List.range n).map (fun _=>Value.bool false)).toArray 4)).alloc (.map #[] 0)).drew):=below_drewM (((Below.refl _ _).alloc (Nat.le_refl _) _).alloc (by simp) _)
  generalize ((w2.alloc (.cells ((List.range n).map (fun _=>Value.bool false)).toArray 4)).alloc (.map #[] 0)).drew=U at*
  clear hmm hmk d0m d0 d1'
  generalize hdb:w2.heap.size+1=mb at*
  generalize hq2:w2.heap.size=db at*
  have hmd:mb≠db:=by omega
  go_wp2_with fail
  go_loopw [40] (fun i wr=> ∃ (k nn:Nat) (S:List Pr) (cf:Nat→List Pr),k≤cs.length∧i= .int .i64 k∧Hid (nn≤k*8192)∧Hid (MapS wr mb nn S)∧Hid (TbV wr db n 4 (fun v=> .bool (decide (v∈(cs.take k).map Int.toNat))))∧Hid (Below db w2 wr)∧Hid (Held n l m.toNat ((cs.take k).map Int.toNat) S cf)) (fun i _=>cs.length - (intOf i).toNat)
  case atStart=>exact⟨0,0,[],fun _=> [],Nat.zero_le _,rfl,Nat.zero_le _,HMU,HTU,HBU,⟨fun c hc=>(by cases hc),fun p=>⟨fun h=>(by cases h),fun⟨c,h,_⟩=>(by cases h)⟩⟩⟩
  case round=>
   obtain⟨k,nn,S,cf,hk,rfl,HNN,HMR,HTR,HBR,HHD⟩:=hrel
   by_cases hlk:k<cs.length
   ·obtain⟨rfl,hbl,hat⟩:=HIX.out (by omega)
    have hlk':(k:Int)<cs.length:=by omega
    have y0:=(HBR.out.cell (p:=⟨ix,ox+k,none⟩) (by omega)).trans (hat k hlk)
    have HTK:Hid (cs.take (k+1)=cs.take k++[cs.getD k 0]):=by
     show _=_
     rw[List.take_succ_eq_append_getElem hlk]
     simp[List.getD,List.getElem?_eq_getElem hlk]
    have HME:=hid (HCS.out (cs.getD k 0) (by simp[List.getD,List.getElem?_eq_getElem hlk]))
    clear hat
    generalize cs.getD k 0=x at*
    obtain⟨c,hxc⟩: ∃c:Nat,x=c:=⟨x.toNat,by have:=HME.out.1;omega⟩
    subst hxc
    have hcn:c<n:=by have:=HME.out.2;omega
    have hcn':(c:Int)<n:=by omega
    have t1:=HTR.out.cell hcn
    have t2:=HTR.out.free c
    have HTM:Hid ((cs.take (k+1)).map Int.toNat=(cs.take k).map Int.toNat++[c]):=by show _=_;rw[HTK.out,List.map_append];rfl
    have HDT:Hid (∀v,decide (v∈(cs.take (k+1)).map Int.toNat)=(decide (v∈(cs.take k).map Int.toNat)||decide (v=c))):=fun v=>by rw[HTM.out,Bool.eq_iff_iff];simp
    obtain⟨ql,HQL⟩:=named ((cs.take k).map Int.toNat)
    rw[HQL.out] at HTM HDT HTR HHD
    rw[HQL.out] at t1
    by_cases hcq:c∈ql
    ·have hd1:decide (c∈ql)=true:=decide_eq_true hcq
     rw[hd1] at t1
     have HC2:=hid (HHD.out.again hcq)
     clear hd1
     go_wp2_with fail
     refine⟨⟨k+1,nn,S,cf,by omega,by simp,hid (by have:=HNN.out;omega),HMR,hid ?_,HBR,hid (by rw[HTM.out];exact HC2.out)⟩,by simp[intOf];omega⟩
     refine HTR.out.congr (fun v _=> ?_)
     rw[HDT.out v]
     by_cases e:v=c
     ·subst e;simp[hcq]
     ·simp[e]
    ·have hd1:decide (c∈ql)=false:=decide_eq_false hcq
     rw[hd1] at t1
     clear hd1
     have HT2:Hid (TbV (wr.setCell ⟨db,c,none⟩ (.bool true)) db n 4 (fun v=> .bool (decide (v∈(cs.take (k+1)).map Int.toNat)))):=(HTR.out.set c (.bool true)).congr (fun v _=>by
      by_cases e:v=c
      ·subst e;rw[updV_self,HDT.out v];simp
      ·rw[updV_ne _ _ e,HDT.out v];simp[e])
     have HM2':Hid (MapS (wr.setCell ⟨db,c,none⟩ (.bool true)) mb nn S):=HMR.out.set hmd _
     have HB2':Hid (Below db w2 (wr.setCell ⟨db,c,none⟩ (.bool true))):=HBR.out.setCell (by show db≤db;omega) _
     have hg3:(wr.setCell ⟨db,c,none⟩ (.bool true)).heap[p]? =some (.cells #[.int .i64 n, .slice a l.length cap] 24):=(HB2'.out.block p (by omega)).trans hg2
     obtain⟨⟨r0,r1⟩,_⟩:=two_cells hg3
     go_wp2_with fail
     generalize hV:wr.setCell ⟨db,c,none⟩ (.bool true)=V at*
     clear hV
     refine(cutAround_any n c m a l cap v1 c1 V HE.out (HR2.out.on (hq2▸HB2'.out)) (HO2.out.prs.on (hq2▸HB2'.out))).mono ?_
     rintro e u3 ⟨v3,c3,xs,rfl,hown3,hci,_,hb3⟩
     have hgc:=gchk_ok (m:=m) HE.out hcn hm1 hm2
     rw[hgc] at hci ⊢
     have HCI:=hid (hci rfl)
     rw[Int.toNat_natCast] at HCI
     have hmV:mb<V.heap.size:=HM2'.out.lt
     have HM3:Hid (MapS u3 mb nn S):=HM2'.out.kept (row:=none) (gby_below hb3) (by simp)
     have HT3:=hid (HT2.out.same (hb3.block db HT2.out.lt))
     have HB3:Hid (Below db w2 u3):=HB2'.out.trans (hb3.mono (by have:=HB2'.out.size;omega))
     have HPN:=hid (hown3.offN hmV)
     have hxl:xs.length≤8192:=Nat.le_trans HCI.out.len hpl
     have HSX:Hid (∀q,q∈xs→Sm q):=fun q hq=>HSP.out q (HCI.out.sub q hq)
     have HMO:=hid (HHD.out.more hcq HCI.out)
     have hnn:nn≤1000000000000:=by have:=HNN.out;omega
     clear hown3 hci hb3 hgc t1 t2 r0 r1 hg3
     go_wp2_with fail
     refine(add_any u3 mb nn S xs v3 c3 (by omega) hnn HSX.out HPN.out HM3.out).mono ?_
     rintro e u4 ⟨rfl,hm4,hg4⟩
     have HM4:=hid hm4
     have HT4:=hid (HT3.out.same (hg4.block db HT3.out.lt (by intro e;injection e with e;exact hmd e.symm)))
     have HB4:Hid (Below db w2 u4):=HB3.out.grown hg4 (by have:=HB3.out.size;omega) (fun j hj=>by cases hj;omega)
     clear hm4 hg4
     go_wp2_with fail
     exact⟨⟨k+1,nn+xs.length,S++xs,_,by omega,by simp,hid (by have:=HNN.out;omega),HM4,HT4,HB4,hid (by rw[HTM.out];exact HMO.out)⟩,by simp[intOf];omega⟩
   ·have e0:cs.take k=cs:=List.take_of_length_le (by omega)
    have hlk': ¬(k:Int)<cs.length:=by omega
    rw[e0] at HHD
    clear e0
    have HCP:=hid (own_cap HO2.out)
    have HPO:Hid (PrsN wr v1 (prl l) mb):=HO2.out.prs.off (hq2▸HBR.out) (by omega)
    go_wp2_with fail
    refine(takeFrom_any wr mb nn S (prl l) v1 c1 hpl HCP.out.1 HCP.out.2 (prl_nodup l) HSP.out HPO.out HMR.out).mono ?_
    rintro e w9 ⟨vt,ct,vo,co,rfl,hta,_,hg9⟩
    have HB9:Hid (Below db w2 w9):=HBR.out.grown hg9 (by have:=HBR.out.size;omega) (fun j hj=>by cases hj;omega)
    obtain⟨TA,HTA⟩:=named ((prl l).filter (fun p=>decide (p∈S)))
    obtain⟨ol,hol⟩: ∃ol,((prl l).filter (fun p=> !decide (p∈S))).length=ol:=⟨_,rfl⟩
    rw[HTA.out] at hta ⊢
    rw[hol]
    have HOA:Hid (OwnP w9 p vt ct TA):=own_base hta (by have:=HBR.out.size;omega)
    have HMI:Hid (MarksIs n l (cs.map Int.toNat) m.toNat TA):=⟨cf,HHD.out.1,by
     rw[←HTA.out]
     refine List.filter_congr (fun p _=> ?_)
     rw[Bool.eq_iff_iff]
     simp only[decide_eq_true_eq]
     exact HHD.out.2 p⟩
    clear hta hg9 hol
    go_wp2_with fail
    go_ret2
    exact⟨vt,ct,TA,rfl,HOA.out,HMI,trivial,HB2.out.trans (HB9.out.mono (by omega))⟩
end Go.Proofs.YtmenajiceaicpaaGreat
