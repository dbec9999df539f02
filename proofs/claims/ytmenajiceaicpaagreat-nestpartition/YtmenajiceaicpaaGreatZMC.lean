import Derived.Test.YtmenajiceaicpaaGreatZMB
import Derived.Test.YtmenajiceaicpaaGreatZAH
open Go.Lib (hid)
set_option maxRecDepth 100000
namespace Go.Proofs.YtmenajiceaicpaaGreat
open Go.RowKit
structure Pi2 where
 a:Int
 b:Int
def Pi2.zero:Pi2:=⟨0,0⟩
def Pi2.at(p:Pi2)(w:World)(b o:Nat):Prop:=w.cell? ⟨b,o,none⟩=some (.int .i64 p.a)∧w.cell? ⟨b,o+1,none⟩=some (.int .i64 p.b)
def PrI(w:World)(a:Option Addr)(l:List Pi2):Prop:=l= []∨∃b o,a=some ⟨b,o,none⟩∧b<w.heap.size∧∀j,j<l.length→(l.getD j Pi2.zero).at w b (o+j*2)
theorem PrI.get{w:World}{a:Option Addr}{l:List Pi2}(h:PrI w a l): ∃b o,0<l.length→a=some ⟨b,o,none⟩∧b<w.heap.size∧∀j,j<l.length→(l.getD j Pi2.zero).at w b (o+j*2):=by
 rcases h with rfl | ⟨b,o,h⟩
 ·exact⟨0,0,fun h=>absurd h (by simp)⟩
 ·exact⟨b,o,fun _=>h⟩
theorem PrI.on{w w':World}{a:Option Addr}{l:List Pi2}(h:PrI w a l)(hb:Below w.heap.size w w'):PrI w' a l:=by
 rcases h with h | ⟨b,o,rfl,hl,hc⟩
 ·exact .inl h
 ·refine .inr ⟨b,o,rfl,Nat.lt_of_lt_of_le hl hb.size,fun j hj=> ?_⟩
  obtain⟨h1,h2⟩:=hc j hj
  exact⟨(hb.cell (p:=⟨b,o+j*2,none⟩) hl).trans h1,(hb.cell (p:=⟨b,o+j*2+1,none⟩) hl).trans h2⟩
def Pi2.nat(p:Pi2):Pr:=⟨p.a.toNat,p.b.toNat⟩
theorem PrI.nat{w:World}{a:Option Addr}{l:List Pi2}(h:PrI w a l)(hp: ∀p,p∈l→0≤p.a∧0≤p.b):Prs w a (l.map Pi2.nat):=by
 rcases h with rfl | ⟨b,o,rfl,hl,hc⟩
 ·exact .inl rfl
 ·refine .inr ⟨b,o,rfl,hl,fun j hj=> ?_⟩
  have hj':j<l.length:=by simpa using hj
  obtain⟨h1,h2⟩:=hc j hj'
  have e:(l.map Pi2.nat).getD j Pr.zero=(l.getD j Pi2.zero).nat:=by simp[List.getD,hj']
  have hm:=hp (l.getD j Pi2.zero) (by simp[List.getD,List.getElem?_eq_getElem hj'])
  rw[e]
  refine⟨?_,?_⟩
  ·show w.cell? _=some (.int .i64 (((l.getD j Pi2.zero).a.toNat:Nat):Int))
   rw[Int.toNat_of_nonneg hm.1];exact h1
  ·show w.cell? _=some (.int .i64 (((l.getD j Pi2.zero).b.toNat:Nat):Int))
   rw[Int.toNat_of_nonneg hm.2];exact h2
def mk1(N:Int):List Pi2→Int
 | []=>0
 | p::r=>if okV N p.a=false∨okV N p.b=false then 5 else if p.b≤p.a then 4 else mk1 N r
def mkE(N:Int)(ms:List Pi2):Int:=if 16384<ms.length then 2 else mk1 N ms
theorem mk1_zero{N:Int}: ∀ {ms:List Pi2},mk1 N ms=0→∀p,p∈ms→(0≤p.a∧p.a<N)∧(0≤p.b∧p.b<N)∧p.a<p.b
 | [],_,p,hp=>by cases hp
 | x::r,h,p,hp=>by
   simp only[mk1] at h
   split at h
   ·cases h
   ·rename_i h1
    split at h
    ·cases h
    ·rename_i h2
     rcases List.mem_cons.1 hp with rfl | hp
     ·simp only[not_or,Bool.not_eq_false] at h1
      exact⟨okV_t h1.1,okV_t h1.2,by omega⟩
     ·exact mk1_zero h p hp
theorem drop_getM{ms:List Pi2}{k:Nat}(h:k<ms.length):ms.drop k=ms.getD k Pi2.zero::ms.drop (k+1):=by
 rw[List.drop_eq_getElem_cons h]
 simp[List.getD,List.getElem?_eq_getElem h]
set_option maxHeartbeats 400000 in
theorem nvert_any(N v:Int)(a:Option Addr)(n cap:Nat)(w:World):
  Calls Tryz.prog 113 #[.agg #[.int .i64 N, .slice a n cap], .int .i64 v] w fun e w'=>e= .returned (.bool (okV N v))∧Below w.heap.size w w':=by
 by_cases h1:0≤v
 ·by_cases h2:v<N
  ·rw[show okV N v=true by simp[okV,h1,h2]]
   go_enter Tryz.func113,Tryz.ntmps113
   go_wp2_with fail
   go_ret
   exact⟨rfl,(Below.refl _ _).alloc (Nat.le_refl _) _⟩
  ·rw[show okV N v=false by simp[okV,h2]]
   go_enter Tryz.func113,Tryz.ntmps113
   go_wp2_with fail
   go_ret
   exact⟨rfl,(Below.refl _ _).alloc (Nat.le_refl _) _⟩
 ·rw[show okV N v=false by simp[okV,h1]]
  go_enter Tryz.func113,Tryz.ntmps113
  go_wp2_with fail
  go_ret
  exact⟨rfl,(Below.refl _ _).alloc (Nat.le_refl _) _⟩
set_option maxHeartbeats 1600000 in
theorem checkMarks_any(N:Int)(a:Option Addr)(n cap:Nat)(ms:List Pi2)(b:Option Addr)(bc:Nat)(w:World)(hml:ms.length≤9223372036854775807)(hr:PrI w b ms):
  Calls Tryz.prog 85 #[.agg #[.int .i64 N, .slice a n cap], .slice b ms.length bc] w fun e w'=>e= .returned (.int .i64 (mkE N ms))∧Below w.heap.size w w':=by
 have hb0:Below w.heap.size w (w.alloc (.cells #[.int .i64 N, .slice a n cap] 24)):=(Below.refl _ _).alloc (Nat.le_refl _) _
 have hg:=heap_top w (.cells #[.int .i64 N, .slice a n cap] 24)
 obtain⟨V,HV⟩:=named (mkE N ms)
 rw[HV.out]
 obtain⟨ix,ox,hix⟩:=hr.get
 have HIX:=hid hix
 have HB0:=hid hb0
 clear hix hr hb0
 generalize hp:w.heap.size=p at*
 by_cases hlong:16384<ms.length
 ·have hl':(16384:Int)<ms.length:=by omega
  have HF:Hid (V=2):=by show _=_;rw[←HV.out];unfold mkE;rw[if_pos hlong]
  go_enter Tryz.func85,Tryz.ntmps85
  go_wp2_with fail
  go_ret
  exact⟨by rw[HF.out];rfl,HB0.out⟩
 ·have hl': ¬(16384:Int)<ms.length:=by omega
  have HVM:Hid (mk1 N ms=V):=by show _=_;rw[←HV.out];unfold mkE;rw[if_neg hlong]
  go_enter Tryz.func85,Tryz.ntmps85
  go_wp2_with fail
  generalize hW:w.alloc (.cells #[.int .i64 N, .slice a n cap] 24)=W at*
  clear hW
  go_loopw [12] (fun i wr=> ∃ (k:Nat),k≤ms.length∧i= .int .i64 k∧Hid (mk1 N (ms.drop k)=V)∧Hid (wr.heap[p]? =some (.cells #[.int .i64 N, .slice a n cap] 24))∧Hid (Below p w wr)) (fun i _=>ms.length - (intOf i).toNat)
  case atStart=>exact⟨0,Nat.zero_le _,rfl,HVM,hid hg,HB0⟩
  case round=>
   obtain⟨k,hk,rfl,HK,HG,HBR⟩:=hrel
   have hpw:p<wr.heap.size:=lt_of_block HG.out
   by_cases hlk:k<ms.length
   ·obtain⟨rfl,hbl,hat⟩:=HIX.out (by omega)
    have hlk':(k:Int)<ms.length:=by omega
    obtain⟨x0,x1⟩:=hat k hlk
    have y0:=(HBR.out.cell (p:=⟨ix,ox+k*2,none⟩) hbl).trans x0
    have y1:=(HBR.out.cell (p:=⟨ix,ox+k*2+1,none⟩) hbl).trans x1
    have hk2:=HK.out
    rw[drop_getM hlk] at hk2
    simp only[mk1] at hk2
    have HK2:=hid hk2
    clear hat x0 x1 hk2
    generalize ms.getD k Pi2.zero=x at*
    obtain⟨xa,xb⟩:=x
    have hz1:(wr.alloc (.cells #[.int .i64 xa, .int .i64 xb] 119)).heap[wr.heap.size]? =some (.cells #[.int .i64 xa, .int .i64 xb] 119):=heap_top wr _
    have hg1:(wr.alloc (.cells #[.int .i64 xa, .int .i64 xb] 119)).heap[p]? =some (.cells #[.int .i64 N, .slice a n cap] 24):=(Below.heap_alloc _ _ _ hpw).trans HG.out
    obtain⟨⟨z0,z1⟩,_⟩:=two_cells hz1
    obtain⟨⟨g0,g1⟩,_⟩:=two_cells hg1
    have HB1:Hid (Below p w (wr.alloc (.cells #[.int .i64 xa, .int .i64 xb] 119))):=HBR.out.alloc (by omega) _
    go_wp2_with fail
    generalize hU:wr.alloc (.cells #[.int .i64 xa, .int .i64 xb] 119)=U at*
    have hwU:wr.heap.size<U.heap.size:=lt_of_block hz1
    refine(nvert_any N xa a n cap U).mono ?_
    rintro e u2 ⟨rfl,hb2⟩
    have hg2:=(hb2.block p (by omega)).trans hg1
    have hz2:=(hb2.block wr.heap.size hwU).trans hz1
    obtain⟨⟨p0,p1⟩,_⟩:=two_cells hz2
    obtain⟨⟨r0,r1⟩,_⟩:=two_cells hg2
    have HB2:Hid (Below p w u2):=HB1.out.trans (hb2.mono (by omega))
    clear z0 z1 hz1 hg1 hb2 g0 g1
    cases hoa:okV N xa
    ·rw[if_pos (.inl hoa)] at HK2
     go_wp2_with fail
     go_ret
     exact⟨by rw[←HK2.out];rfl,HB2.out⟩
    ·go_wp2_with fail
     have hwU2:wr.heap.size<u2.heap.size:=lt_of_block hz2
     refine(nvert_any N xb a n cap u2).mono ?_
     rintro e u3 ⟨rfl,hb3⟩
     have hg3:=(hb3.block p (by omega)).trans hg2
     have hz3:=(hb3.block wr.heap.size hwU2).trans hz2
     obtain⟨⟨q0,q1⟩,_⟩:=two_cells hz3
     have HB3:Hid (Below p w u3):=HB2.out.trans (hb3.mono (by omega))
     have HG3:=hid hg3
     clear p0 p1 hz2 hg2 hb3 r0 r1
     cases hob:okV N xb
     ·rw[if_pos (.inr hob)] at HK2
      go_wp2_with fail
      go_ret
      exact⟨by rw[←HK2.out];rfl,HB3.out⟩
     ·rw[if_neg (by rintro(h | h);(rw[hoa] at h;cases h);(rw[hob] at h;cases h))] at HK2
      by_cases hle:xb≤xa
      ·rw[if_pos hle] at HK2
       go_wp2_with fail
       go_ret
       exact⟨by rw[←HK2.out];rfl,HB3.out⟩
      ·rw[if_neg hle] at HK2
       go_wp2_with fail
       exact⟨⟨k+1,by omega,by simp,HK2,HG3,HB3⟩,by simp[intOf];omega⟩
   ·have e0:ms.drop k= []:=List.drop_eq_nil_of_le (by omega)
    have hlk': ¬(k:Int)<ms.length:=by omega
    rw[e0] at HK
    have HF:Hid (V=0):=HK.out.symm
    clear e0
    go_wp2_with fail
    go_ret
    exact⟨by rw[HF.out];rfl,HBR.out⟩
end Go.Proofs.YtmenajiceaicpaaGreat
namespace Go.Proofs.YtmenajiceaicpaaGreat
open Go.RowKit Go.Maps
theorem info49:(Tryz.prog.info? 58).map (fun i=>(i.zero,i.size,i.bytes))=some (some (.agg #[.int .i64 0, .int .i64 0, .int .u32 0]),3,24):=by kernel_rfl
def cellsQ:List Pr→List Value
 | []=> []
 | p::r=> .int .i64 (p.a:Int):: .int .i64 (p.b:Int):: .int .u32 0::cellsQ r
theorem cellsQ_append: ∀l m:List Pr,cellsQ (l++m)=cellsQ l++cellsQ m
 | [],_=>rfl
 | x::r,m=>by simp only[cellsQ,List.cons_append,cellsQ_append r m]
theorem cellsQ_at: ∀ (l:List Pr) (j:Nat),j<l.length→(cellsQ l)[j*3]? =some (.int .i64 ((l.getD j Pr.zero).a:Int))∧(cellsQ l)[j*3+1]? =some (.int .i64 ((l.getD j Pr.zero).b:Int))∧(cellsQ l)[j*3+2]? =some (.int .u32 0)
 | [],_,h=>absurd h (by simp)
 | x::r,0,_=>⟨rfl,rfl,rfl⟩
 | x::r,j+1,h=>by
   have:=cellsQ_at r j (by simpa using h)
   rw[show(j+1)*3=j*3+3 by omega]
   exact this
theorem cellsQ_one: ∀ (l:List Pr),∀u∈cellsQ l,u.oneCell'=true
 | [],u,h=>by cases h
 | x::r,u,h=>by
   simp only[cellsQ,List.mem_cons] at h
   rcases h with rfl | rfl | rfl | h
   ·rfl
   ·rfl
   ·rfl
   ·exact cellsQ_one r u h
def arQ(l:List Pr):List T3.A:=l.map (fun p=>⟨(p.a:Int),(p.b:Int),0⟩)
theorem arQ_len(l:List Pr):(arQ l).length=l.length:=by simp[arQ]
theorem own_arQ{w:World}{B c:Nat}{a:Option Addr}{l:List Pr}(h:w.ownsRow B 58 3 (.slice a l.length c) l.length (cellsQ l)):T3.Arcs w a (arQ l):=by
 rcases h.2 with ⟨_,h0⟩ | ⟨g,c',cur,h',hb,hg,_⟩
 ·exact .inl (List.eq_nil_of_length_eq_zero (by rw[arQ_len];exact h0))
 ·injection h' with e1 e2 e3
  subst e1
  refine .inr ⟨g,0,rfl,lt_of_block hg,fun j hj=> ?_⟩
  rw[arQ_len] at hj
  obtain⟨h1,h2,h3⟩:=cellsQ_at l j hj
  have e:(arQ l).getD j T3.A.zero=⟨((l.getD j Pr.zero).a:Int),((l.getD j Pr.zero).b:Int),0⟩:=by simp[arQ,List.getD,hj]
  rw[e,Nat.zero_add]
  exact⟨(World.ownsRow.cellAt h (j*3) (by omega)).trans h1,(World.ownsRow.cellAt h (j*3+1) (by omega)).trans h2,(World.ownsRow.cellAt h (j*3+2) (by omega)).trans h3⟩
theorem newsQ(w:World)(x y:Nat): ∀j u,(cellsQ [⟨x,y⟩])[j]? =some u→(w.alloc (.cells #[.int .i64 (x:Int), .int .i64 (y:Int), .int .u32 0] 58)).cell? ((⟨w.heap.size,0,none⟩:Addr).add j)=some u:=by
 intro j u hu
 have h:=heap_top w (.cells #[.int .i64 (x:Int), .int .i64 (y:Int), .int .u32 0] 58)
 rw[Go.WideShapes.add_plain,Nat.zero_add]
 generalize w.alloc (.cells #[.int .i64 (x:Int), .int .i64 (y:Int), .int .u32 0] 58)=W at*
 generalize w.heap.size=b at*
 match j,hu with
 | 0,hu=>simp[cellsQ] at hu;subst hu;simp[World.cell?,h]
 | 1,hu=>simp[cellsQ] at hu;subst hu;simp[World.cell?,h]
 | 2,hu=>simp[cellsQ] at hu;subst hu;simp[World.cell?,h]
 | j+3,hu=>simp[cellsQ] at hu
def others(l:List A)(ms:List Pi2):List Pr:=(prl l).filter (fun p=> !decide (p∈ms.map Pi2.nat))
theorem others_ok{n:Nat}{l:List A}(h:chkE n l=0)(ms:List Pi2):T3.chkE n (arQ (others l ms))=0:=by
 obtain⟨h1,h2,h3,h4⟩:=chk_zero h
 unfold T3.chkE
 rw[if_neg (by omega),if_neg,if_pos]
 ·rw[List.all_eq_true]
  intro x hx
  obtain⟨p,hp,rfl⟩:=List.mem_map.1 hx
  have:=prl_ltM h4 (List.mem_filter.1 hp).1
  simp[T3.okA,T3.okV,this]
 ·rw[arQ_len]
  have:=prl_len l
  have h5:(others l ms).length≤(prl l).length:=List.length_filter_le _ _
  omega
def frE(N:Int)(l:List A)(ms:List Pi2):Int:=if chkE N l≠0 then chkE N l else mkE N ms
def frL(N:Int)(l:List A)(ms:List Pi2):List Int:=if frE N l ms=0 then T3.partsL N (arQ (others l ms)) else []
theorem own_cap{w:World}{B:Nat}{a:Option Addr}{c:Nat}{d:List Pr}(h:OwnP w B a c d):d.length≤c∧c≤9223372036854775807:=by
 rcases h.2 with ⟨e,h0⟩ | ⟨g,c',cur,e,_,_,h4,h5,_⟩
 ·injection e with e1 e2 e3;omega
 ·injection e with e1 e2 e3;subst e3;exact⟨h4,h5⟩
theorem prl_nodup(l:List A):(prl l).Nodup:=by
 refine(prl_sorted l).imp (fun {x y} h e=> ?_)
 subst e
 unfold ltP at h
 omega
set_option maxHeartbeats 3200000 in
theorem frag_any(N:Int)(a:Option Addr)(l:List A)(cap:Nat)(b:Option Addr)(ms:List Pi2)(bc:Nat)(w:World)(hl:l.length≤9223372036854775807)(hml:ms.length≤9223372036854775807)(hr:Arcs w a l)(hm:PrI w b ms):
  Calls Tryz.prog 67 #[.agg #[.int .i64 N, .slice a l.length cap], .slice b ms.length bc] w fun e w'=>T3.Made w w' e (frL N l ms) (frE N l ms):=by
 have hb0:Below w.heap.size w (w.alloc (.cells #[.int .i64 N, .slice a l.length cap] 24)):=(Below.refl _ _).alloc (Nat.le_refl _) _
 have hg:=heap_top w (.cells #[.int .i64 N, .slice a l.length cap] 24)
 have HR:=hid (hr.on hb0)
 have HM:=hid (hm.on hb0)
 have hwz:w.heap.size≤(w.alloc (.cells #[.int .i64 N, .slice a l.length cap] 24)).heap.size:=hb0.size
 have HB0:=hid hb0
 obtain⟨L,HL⟩:=named (frL N l ms)
 obtain⟨G,HG⟩:=named (frE N l ms)
 rw[HL.out,HG.out]
 clear hb0 hr hm
 generalize hp:w.heap.size=p at*
 go_enter Tryz.func67,Tryz.ntmps67
 go_wp2_with fail
 generalize hW:w.alloc (.cells #[.int .i64 N, .slice a l.length cap] 24)=W at*
 clear hW
 refine(pairs_any N a l cap W hl HR.out).mono ?_
 rintro e w1 ⟨v1,c1,ps,rfl,hown1,hps,hb1⟩
 have hpz:p<W.heap.size:=lt_of_block hg
 have HB1:Hid (Below p w w1):=HB0.out.trans (hb1.mono hwz)
 have hg1:=(hb1.block p hpz).trans hg
 obtain⟨⟨c0,c1'⟩,_⟩:=two_cells hg1
 have HM1:=hid (HM.out.on hb1)
 have HO1:=hid hown1
 have hwz1:W.heap.size≤w1.heap.size:=hb1.size
 obtain⟨E,HE⟩:=named (chkE N l)
 rw[HE.out] at hps ⊢
 clear hb1 hown1 hg
 by_cases hE:E≠0
 ·have e1:(E != 0)=true:=by simpa using hE
  have e2:(E==0)=false:=by simpa using hE
  have HGE:Hid (G=E∧L= []):=by
   have h1:frE N l ms=E:=by unfold frE;rw[if_pos (by rw[HE.out];exact hE),HE.out]
   refine⟨HG.out.symm.trans h1,?_⟩
   rw[←HL.out];unfold frL;rw[if_neg (by rw[h1];exact hE)]
  go_wp2_with fail
  go_ret2
  rw[HGE.out.1,HGE.out.2]
  exact⟨none,0,rfl,World.ownsRow_nil _ _ _ _,hp▸HB1.out⟩
 obtain rfl:E=0:=by omega
 rw[if_pos rfl] at hps
 obtain⟨n,hn⟩: ∃n:Nat,N=n:=⟨N.toNat,by have:=(chk_zero HE.out).1;omega⟩
 subst hn hps
 clear hE
 have hpz1:p<w1.heap.size:=by omega
 have HGM:Hid (G=mkE n ms):=by show _=_;rw[←HG.out];unfold frE;rw[if_neg (by rw[HE.out];omega)]
 go_wp2_with fail
 refine(checkMarks_any n a l.length cap ms b bc w1 hml HM1.out).mono ?_
 rintro e w2 ⟨rfl,hb2⟩
 have HB2:Hid (Below p w w2):=HB1.out.trans (hb2.mono (by omega))
 have hg2:=(hb2.block p hpz1).trans hg1
 obtain⟨⟨d0,d1'⟩,_⟩:=two_cells hg2
 have HM2:=hid (HM1.out.on hb2)
 have HO2:Hid (OwnP w2 W.heap.size v1 c1 (prl l)):=own_on HO1.out hb2
 have hwz2:w1.heap.size≤w2.heap.size:=hb2.size
 rw[←HGM.out]
 clear hb2 c0 c1' hg1
 by_cases hG:G≠0
 ·have e1:(G != 0)=true:=by simpa using hG
  have e2:(G==0)=false:=by simpa using hG
  have HGE:Hid (L= []):=by show _=_;rw[←HL.out];unfold frL;rw[if_neg (by rw[HG.out];exact hG)]
  go_wp2_with fail
  go_ret2
  rw[HGE.out]
  exact⟨none,0,rfl,World.ownsRow_nil _ _ _ _,hp▸HB2.out⟩
 obtain rfl:G=0:=by omega
 clear hG
 have hm0:=HGM.out
 unfold mkE at hm0
 by_cases hlong:16384<ms.length
 ·rw[if_pos hlong] at hm0;cases hm0
 rw[if_neg hlong] at hm0
 have HMZ:=hid (mk1_zero hm0.symm)
 have hn2:n≤1024:=by have:=(chk_zero HE.out).2.1;omega
 have HPM:Hid (Prs w2 b (ms.map Pi2.nat)):=HM2.out.nat (fun q hq=>⟨(HMZ.out q hq).1.1,(HMZ.out q hq).2.1.1⟩)
 have HSM:Hid (∀q,q∈ms.map Pi2.nat→Sm q):=fun q hq=>by
  obtain⟨r,hr,rfl⟩:=List.mem_map.1 hq
  have:=HMZ.out r hr
  refine⟨?_,?_⟩
  ·show r.a.toNat<1024;omega
  ·show r.b.toNat<1024;omega
 have HSP:Hid (∀q,q∈prl l→Sm q):=fun q hq=>by
  have:=prl_ltM (chk_zero HE.out).2.2.2 hq
  exact⟨by omega,by omega⟩
 have hpl:(prl l).length≤8192:=Nat.le_trans (prl_len l) (chk_zero HE.out).2.2.1
 have HLP:Hid (L=T3.partsL n (arQ (others l ms))):=by show _=_;rw[←HL.out];unfold frL;rw[if_pos HG.out]
 clear hm0
 have hmm:= @run_makeMap Tryz.prog
 go_wp2_with fail
 have HAD:=hid (add_any (w2.alloc (.map #[] 0)) w2.heap.size 0 [] (ms.map Pi2.nat) b bc (by rw[List.length_map];omega) (by omega) HSM.out (HPM.out.off ((Below.refl _ _).alloc (Nat.le_refl _) _) (Nat.le_refl _)) (MapS.made w2))
 rw[List.length_map,List.nil_append] at HAD
 refine HAD.out.mono ?_
 rintro e w3 ⟨rfl,hm3,hg3'⟩
 have hb3:Below w2.heap.size w2 w3:=((Below.refl _ _).alloc (Nat.le_refl _) _).grown hg3' (by simp) (fun j hj=>by cases hj;exact Nat.le_refl _)
 clear hg3'
 have HM3:=hid hm3
 have HB3:=hid hb3
 have hwz3:w2.heap.size≤w3.heap.size:=hb3.size
 have hpz2:p<w2.heap.size:=by omega
 have hg3:=(hb3.block p hpz2).trans hg2
 obtain⟨⟨f0,f1'⟩,_⟩:=two_cells hg3
 clear hm3 hb3 HAD d0 d1' hmm
 obtain⟨mb,hmb⟩: ∃mb,w2.heap.size=mb:=⟨_,rfl⟩
 rw[hmb] at HM3 HB3 ⊢
 have HCP:=hid (own_cap HO2.out)
 go_wp2_with fail
 refine(takeFrom_any w3 mb _ (ms.map Pi2.nat) (prl l) v1 c1 hpl HCP.out.1 HCP.out.2 (prl_nodup l) HSP.out (HO2.out.prs.off (hmb▸HB3.out) (by omega)) HM3.out).mono ?_
 rintro e w4 ⟨vt,ct,vo,co,rfl,_,hot,hg4'⟩
 have hb4:Below mb w2 w4:=HB3.out.grown hg4' (by omega) (fun j hj=>by cases hj;exact Nat.le_refl _)
 clear hg4'
 obtain⟨OT,HOT⟩:=named (others l ms)
 have hot':OwnP w4 w3.heap.size vo co OT:=by rw[←HOT.out];exact hot
 have HON:Hid ((prl l).filter (fun p=> !decide (p∈ms.map Pi2.nat))=OT):=HOT.out
 rw[HON.out]
 obtain⟨tl,htl⟩: ∃tl,((prl l).filter (fun p=>decide (p∈ms.map Pi2.nat))).length=tl:=⟨_,rfl⟩
 rw[htl]
 have HB4:Hid (Below p w w4):=HB2.out.trans (hb4.mono (by omega))
 have hg4:=(hb4.block p (by omega)).trans hg2
 obtain⟨⟨k0,k1'⟩,_⟩:=two_cells hg4
 have hOl:OT.length≤8192:=by rw[←HOT.out];exact Nat.le_trans (List.length_filter_le _ _) hpl
 have HSO:Hid (∀q,q∈OT→Sm q):=fun q hq=>HSP.out q (by rw[←HOT.out] at hq;exact(List.mem_filter.1 hq).1)
 obtain⟨ix,ox,hix⟩:=hot'.prs.get
 have HIX:=hid hix
 obtain⟨q,hq⟩: ∃q,w4.heap.size=q:=⟨_,rfl⟩
 have hpq:p<q:=by have:=hb4.size;omega
 have hq5:(w4.alloc (.cells #[.int .i64 n, .slice none 0 0] 24)).heap[q]? =some (.cells #[.int .i64 n, .slice none 0 0] 24):=hq▸heap_top w4 _
 have hz5:(w4.alloc (.cells #[.int .i64 n, .slice none 0 0] 24)).heap.size=q+1:=by simp[hq]
 have HB5:Hid (Below q w4 (w4.alloc (.cells #[.int .i64 n, .slice none 0 0] 24))):=(Below.refl _ _).alloc (by omega) _
 obtain⟨i0,hi,hz0,hz1,hz2⟩:=info_parts info49
 clear hix hot hot' hb4 hg2 hg3 f0 f1' HO2 HO1 HM3 HB3 HPM HSM HMZ hg4 htl
 go_wp2_with fail
 generalize hU:w4.alloc (.cells #[.int .i64 n, .slice none 0 0] 24)=U at*
 clear hU
 go_loopw [44] (fun i wr=> ∃ (k:Nat) (av:Option Addr) (cv:Nat),k≤OT.length∧i= .int .i64 k∧Hid (wr.heap[q]? =some (.cells #[.int .i64 n, .slice av k cv] 24))∧Hid (wr.ownsRow (q+1) 58 3 (.slice av k cv) k (cellsQ (OT.take k)))∧Hid (Below q w4 wr)) (fun i _=>OT.length - (intOf i).toNat)
 case atStart=>exact⟨0,none,0,Nat.zero_le _,rfl,hid hq5,World.ownsRow_nil _ _ _ _,HB5⟩
 case round=>
  obtain⟨k,av,cv,hk,rfl,HQ,HOW,HBR⟩:=hrel
  have hqw:q<wr.heap.size:=lt_of_block HQ.out
  by_cases hlk:k<OT.length
  ·obtain⟨rfl,hbl,hat⟩:=HIX.out (by omega)
   have hlk':(k:Int)<OT.length:=by omega
   obtain⟨x0,x1⟩:=hat k hlk
   have y0:=(HBR.out.cell (p:=⟨ix,ox+k*2,none⟩) (hq▸hbl)).trans x0
   have y1:=(HBR.out.cell (p:=⟨ix,ox+k*2+1,none⟩) (hq▸hbl)).trans x1
   have HTS:=hid (take_snocP hlk)
   clear hat x0 x1
   generalize OT.getD k Pr.zero=x at*
   have hz6:=heap_top wr (.cells #[.int .i64 (x.a:Int), .int .i64 (x.b:Int)] 119)
   obtain⟨⟨b0,b1⟩,_⟩:=two_cells hz6
   have hq6:=(Below.heap_alloc wr (.cells #[.int .i64 (x.a:Int), .int .i64 (x.b:Int)] 119) q hqw).trans HQ.out
   obtain⟨⟨q0,q1⟩,_⟩:=two_cells hq6
   have hq7:=(Below.heap_alloc (wr.alloc (.cells #[.int .i64 (x.a:Int), .int .i64 (x.b:Int)] 119)) (.cells #[.int .i64 (x.a:Int), .int .i64 (x.b:Int), .int .u32 0] 58) q (by simp;omega)).trans hq6
   have HQ7:=hid hq7
   have hnw:=newsQ (wr.alloc (.cells #[.int .i64 (x.a:Int), .int .i64 (x.b:Int)] 119)) x.a x.b
   rw[World.size_alloc] at hnw
   have HNW:=hid hnw
   have HOW2:=hid ((HOW.out.alloc (.cells #[.int .i64 (x.a:Int), .int .i64 (x.b:Int)] 119)).alloc (.cells #[.int .i64 (x.a:Int), .int .i64 (x.b:Int), .int .u32 0] 58))
   have HBB:Hid (Below q w4 ((wr.alloc (.cells #[.int .i64 (x.a:Int), .int .i64 (x.b:Int)] 119)).alloc (.cells #[.int .i64 (x.a:Int), .int .i64 (x.b:Int), .int .u32 0] 58))):=(HBR.out.alloc (by omega) _).alloc (by simp;omega) _
   have HSZ:Hid (q+1≤((wr.alloc (.cells #[.int .i64 (x.a:Int), .int .i64 (x.b:Int)] 119)).alloc (.cells #[.int .i64 (x.a:Int), .int .i64 (x.b:Int), .int .u32 0] 58)).heap.size):=by show _≤_;simp;omega
   have HOL:Hid (∀b,(Value.slice av k cv).ownBlock=some b→q+1≤b):=fun b hb=>(HOW.out.lt b hb).1
   have HCA:Hid (cellsQ (OT.take k)++cellsQ [⟨x.a,x.b⟩]=cellsQ (OT.take (k+1))):=by show _=_;rw[HTS.out,cellsQ_append]
   clear hnw hq6 hq7
   go_wp2_with (at_builtin;refine wpList_append_own _ rfl (.tmp 49) (.tmp 55) 22 rfl (q+1) 58 i0 _ 3 24 Tryz.underlying22 hi hz0 hz1 hz2 rfl (by decide) (.slice av k cv) k (cellsQ (OT.take k)) rfl HOW2.out ⟨wr.heap.size+1,0,none⟩ 1 1 (cellsQ [⟨x.a,x.b⟩]) rfl rfl HNW.out (cellsQ_one _) (by unfold maxLen;omega) (by omega) HSZ.out ?_;intro v7 w7 hown7 hgrow7 hnil7;obtain⟨g7,c7,hv7,_,_,_,_⟩:=own_shape hown7 (fun e=>by have:=hnil7.1 e;simp at this);subst hv7;rw[HCA.out] at hown7;have HO7:=hid hown7;have HB7:=hid (HBB.out.grown hgrow7 (by have:=HSZ.out;omega) (by intro b hb;have:=HOL.out b hb;omega));have h7:=(hgrow7.block q (by have:=HSZ.out;omega) (fun e=>by have:=HOL.out q e.symm;omega)).trans HQ7.out;have H7:=hid h7;obtain⟨⟨_,_⟩,_,fz7⟩:=two_cells h7;obtain⟨⟨_,fc7⟩,_⟩:=two_cells h7;clear hown7 hgrow7 hnil7 h7)
   refine⟨⟨k+1,some ⟨g7,0,none⟩,c7,by omega,by simp,hid ?_,hid (own_set HO7.out ⟨q,1,none⟩ _ (by simp)),hid (HB7.out.setCell (Nat.le_refl _) _)⟩,by simp[intOf];omega⟩
   have:=heap_setCell_same w7 q 1 _ _ (.slice (some ⟨g7,0,none⟩) (k+1) c7) H7.out
   simpa using this
  ·obtain rfl:k=OT.length:=by omega
   have hlk': ¬(OT.length:Int)<OT.length:=by omega
   rw[List.take_length] at HOW
   obtain⟨⟨q0,q1⟩,_⟩:=two_cells HQ.out
   have HPC:=hid (T3.parts_any n av (arQ OT) cv wr (by rw[arQ_len];omega) (own_arQ HOW.out))
   rw[arQ_len,show T3.chkE n (arQ OT)=0 by rw[←HOT.out];exact others_ok HE.out ms] at HPC
   have HLQ:Hid (L=T3.partsL n (arQ OT)):=by show _=_;rw[HLP.out,HOT.out]
   have hwq:q≤wr.heap.size:=by omega
   go_wp2_with fail
   refine HPC.out.mono ?_
   rintro e w9 ⟨a9,c9,rfl,hown9,hb9⟩
   rw[←HLQ.out] at hown9 ⊢
   have HO9:=hid hown9
   have HB9:Hid (Below p w w9):=(HB4.out.trans (HBR.out.mono (by omega))).trans (hb9.mono (by omega))
   clear hown9 hb9
   go_wp2_with fail
   go_ret2
   exact⟨a9,c9,rfl,own_base HO9.out (by omega),hp▸HB9.out⟩
end Go.Proofs.YtmenajiceaicpaaGreat
namespace Go.Proofs.YtmenajiceaicpaaGreat
open Go.RowKit
def ceE(N m:Int)(cs:List Int):Int:=if 16384<cs.length then 2 else if m<1∨1024<m then 1 else if cs.all (okV N) then 0 else 5
theorem ceE_zero{N m:Int}{cs:List Int}(h:ceE N m cs=0):cs.length≤16384∧1≤m∧m≤1024∧∀c,c∈cs→0≤c∧c<N:=by
 unfold ceE at h
 split at h
 ·cases h
 ·split at h
  ·cases h
  ·split at h
   ·rename_i h3
    rw[List.all_eq_true] at h3
    exact⟨by omega,by omega,by omega,fun c hc=>okV_t (h3 c hc)⟩
   ·cases h
set_option maxHeartbeats 1600000 in
theorem checkCentres_any(N m:Int)(a:Option Addr)(n cap:Nat)(cs:List Int)(b:Option Addr)(bc:Nat)(w:World)(hml:cs.length≤9223372036854775807)(hr:Ints w b cs):
  Calls Tryz.prog 81 #[.agg #[.int .i64 N, .slice a n cap], .slice b cs.length bc, .int .i64 m] w fun e w'=>e= .returned (.int .i64 (ceE N m cs))∧Below w.heap.size w w':=by
 have hb0:Below w.heap.size w (w.alloc (.cells #[.int .i64 N, .slice a n cap] 24)):=(Below.refl _ _).alloc (Nat.le_refl _) _
 have hg:=heap_top w (.cells #[.int .i64 N, .slice a n cap] 24)
 obtain⟨V,HV⟩:=named (ceE N m cs)
 rw[HV.out]
 obtain⟨ix,ox,hix⟩:=hr.get
 have HIX:=hid hix
 have HB0:=hid hb0
 clear hix hr hb0
 generalize hp:w.heap.size=p at*
 by_cases hlong:16384<cs.length
 ·have hl':(16384:Int)<cs.length:=by omega
  have HF:Hid (V=2):=by show _=_;rw[←HV.out];unfold ceE;rw[if_pos hlong]
  go_enter Tryz.func81,Tryz.ntmps81
  go_wp2_with fail
  go_ret
  exact⟨by rw[HF.out];rfl,HB0.out⟩
 have hl': ¬(16384:Int)<cs.length:=by omega
 by_cases hm1:m<1
 ·have HF:Hid (V=1):=by show _=_;rw[←HV.out];unfold ceE;rw[if_neg hlong,if_pos (.inl hm1)]
  go_enter Tryz.func81,Tryz.ntmps81
  go_wp2_with fail
  go_ret
  exact⟨by rw[HF.out];rfl,HB0.out⟩
 by_cases hm2:1024<m
 ·have HF:Hid (V=1):=by show _=_;rw[←HV.out];unfold ceE;rw[if_neg hlong,if_pos (.inr hm2)]
  go_enter Tryz.func81,Tryz.ntmps81
  go_wp2_with fail
  go_ret
  exact⟨by rw[HF.out];rfl,HB0.out⟩
 have HVA:Hid (V=if cs.all (okV N) then 0 else 5):=by show _=_;rw[←HV.out];unfold ceE;rw[if_neg hlong,if_neg (by omega)]
 go_enter Tryz.func81,Tryz.ntmps81
 go_wp2_with fail
 generalize hW:w.alloc (.cells #[.int .i64 N, .slice a n cap] 24)=W at*
 clear hW
 go_loopw [20] (fun i wr=> ∃ (k:Nat),k≤cs.length∧i= .int .i64 k∧Hid ((cs.take k).all (okV N)=true)∧Hid (wr.heap[p]? =some (.cells #[.int .i64 N, .slice a n cap] 24))∧Hid (Below p w wr)) (fun i _=>cs.length - (intOf i).toNat)
 case atStart=>exact⟨0,Nat.zero_le _,rfl,rfl,hid hg,HB0⟩
 case round=>
  obtain⟨k,hk,rfl,HK,HG,HBR⟩:=hrel
  have hpw:p<wr.heap.size:=lt_of_block HG.out
  by_cases hlk:k<cs.length
  ·obtain⟨rfl,hbl,hat⟩:=HIX.out (by omega)
   have hlk':(k:Int)<cs.length:=by omega
   have y0:=(HBR.out.cell (p:=⟨ix,ox+k,none⟩) hbl).trans (hat k hlk)
   have HTK:Hid (cs.take (k+1)=cs.take k++[cs.getD k 0]):=by
    show _=_
    rw[List.take_succ_eq_append_getElem hlk]
    simp[List.getD,List.getElem?_eq_getElem hlk]
   have HME:Hid (cs.getD k 0∈cs):=by show _∈_;simp[List.getD,List.getElem?_eq_getElem hlk]
   clear hat
   generalize cs.getD k 0=x at*
   obtain⟨⟨g0,g1⟩,_⟩:=two_cells HG.out
   go_wp2_with fail
   refine(nvert_any N x a n cap wr).mono ?_
   rintro e u2 ⟨rfl,hb2⟩
   have HG2:=hid ((hb2.block p hpw).trans HG.out)
   have HB2:Hid (Below p w u2):=HBR.out.trans (hb2.mono (by omega))
   clear g0 g1 hb2
   cases hox:okV N x
   ·have HF:Hid (V=5):=by
     show _=_
     rw[HVA.out,if_neg]
     intro h
     rw[List.all_eq_true] at h
     have:=h x HME.out
     rw[hox] at this
     cases this
    go_wp2_with fail
    go_ret
    exact⟨by rw[HF.out];rfl,HB2.out⟩
   ·go_wp2_with fail
    refine⟨⟨k+1,by omega,by simp,hid ?_,HG2,HB2⟩,by simp[intOf];omega⟩
    rw[HTK.out,List.all_append,HK.out]
    simp[hox]
  ·have e0:cs.take k=cs:=List.take_of_length_le (by omega)
   have hlk': ¬(k:Int)<cs.length:=by omega
   rw[e0] at HK
   have HF:Hid (V=0):=by show _=_;rw[HVA.out,if_pos HK.out]
   clear e0
   go_wp2_with fail
   go_ret
   exact⟨by rw[HF.out];rfl,HBR.out⟩
end Go.Proofs.YtmenajiceaicpaaGreat
