import Derived.Test.YtaafkpojjdjphaaGreatYAH
import Derived.Test.YtaafkpojjdjphaaGreatYUB
open Go.Lib (hid)
set_option maxRecDepth 100000
namespace Go.Proofs.YtaafkpojjdjphaaGreat
open Go.RowKit
def Dts(w:World)(a:Option Addr)(xs:List Int):Prop:=xs= []∨∃b o,a=some ⟨b,o,none⟩∧b<w.heap.size∧∀j,j<xs.length→w.cell? ⟨b,o+j,none⟩=some (.int .u64 (xs.getD j 0))
theorem Dts.on{w w':World}{a:Option Addr}{xs:List Int}(h:Dts w a xs)(hb:Below w.heap.size w w'):Dts w' a xs:=by
 rcases h with h | ⟨b,o,h1,h2,h3⟩
 ·exact Or.inl h
 ·exact Or.inr ⟨b,o,h1,Nat.lt_of_lt_of_le h2 hb.size,fun j hj=>(hb.cell (p:=⟨b,o+j,none⟩) h2).trans (h3 j hj)⟩
theorem Dts.get{w:World}{a:Option Addr}{xs:List Int}(h:Dts w a xs): ∃b o,0<xs.length→a=some ⟨b,o,none⟩∧b<w.heap.size∧∀j,j<xs.length→w.cell? ⟨b,o+j,none⟩=some (.int .u64 (xs.getD j 0)):=by
 rcases h with h | ⟨b,o,h1,h2,h3⟩
 ·exact⟨0,0,fun h5=>by rw[h] at h5;simp at h5⟩
 ·exact⟨b,o,fun _=>⟨h1,h2,h3⟩⟩
theorem cellsU_getD(xs:List Int)(k:Nat)(h:k<xs.length):(cellsU xs)[k]? =some (.int .u64 (xs.getD k 0)):=by
 unfold cellsU
 simp[List.getD,List.getElem?_eq_getElem h]
theorem dts_own{w:World}{B:Nat}{a:Option Addr}{c:Nat}{xs:List Int}(h:w.ownsRow B 48 1 (.slice a xs.length c) xs.length (cellsU xs)):Dts w a xs:=by
 rcases h.2 with ⟨e1,e2⟩ | ⟨g,c',cur,e1,_,h3,_⟩
 ·exact Or.inl (List.eq_nil_of_length_eq_zero e2)
 ·injection e1 with e1 e2 e3
  subst e1
  refine Or.inr ⟨g,0,rfl,lt_of_block h3,fun j hj=> ?_⟩
  rw[Nat.zero_add,World.ownsRow.cellAt h j (by omega),cellsU_getD _ j hj]
theorem dts_block{w:World}{b:Nat}{xs:List Int}{t:TypeId}(h:w.heap[b]? =some (.cells (cellsU xs).toArray t (0,0))):Dts w (some ⟨b,0,none⟩) xs:=by
 refine .inr ⟨b,0,rfl,lt_of_block h,fun j hj=> ?_⟩
 simp[World.cell?,h,cellsU,List.getD,hj]
set_option maxHeartbeats 3200000 in
theorem sameD_any(a a':Option Addr)(cap cap':Nat)(xs:List Int)(w:World)(hlen:xs.length≤9223372036854775807)(hr:Dts w a xs)(hr':Dts w a' xs):
  Calls Tryz.prog 68 #[.slice a xs.length cap, .slice a' xs.length cap'] w fun e w'=>e= .returned (.bool true)∧Below w.heap.size w w':=by
 obtain⟨b,o,hab⟩:=hr.get
 obtain⟨b',o',hab'⟩:=hr'.get
 go_enter Tryz.func68,Tryz.ntmps68
 go_wp2_with fail
 go_loopw [5] (fun i wr=> ∃k n:Nat,k≤xs.length∧i= .int .i64 k∧wr=w.drewN n) (fun i _=>xs.length - (intOf i).toNat)
 case atStart=>exact⟨0,0,Nat.zero_le _,rfl,rfl⟩
 case round=>
  obtain⟨k,n,hk,rfl,rfl⟩:=hrel
  by_cases hlt:k<xs.length
  ·obtain⟨rfl,_,hc⟩:=hab (by omega)
   obtain⟨rfl,_,hc'⟩:=hab' (by omega)
   have c1:=hc k hlt
   have c2:=hc' k hlt
   clear hc hc'
   generalize xs.getD k 0=x at*
   go_wp2_with fail
   go_quiet (fail)
   go_wp2_with fail
   exact⟨⟨k+1,_,by omega,by go_num,rfl⟩,by simp[intOf];omega⟩
  ·go_wp2_with fail
   go_ret
   exact⟨rfl,below_drewN _ _ _⟩
set_option maxHeartbeats 3200000 in
theorem leaf_any(N:Int)(a:Option Addr)(l:List A)(cap:Nat)(ba:Option Addr)(bs:List Int)(bc:Nat)(ca:Option Addr)(C:List Cl)(cc:Nat)(ce ep:Int)(wa:Option Addr)(ws:List Int)(wk:Nat)(w:World)(hl:l.length≤9223372036854775807)(hbl:bs.length≤9223372036854775807)(hr:Arcs w a l)(hi:Ints w ba bs)(hR:Rws w ca C)(hW:Wts w wa ws)(hws: ∀i,i<ws.length→0≤ws.getD i 0∧ws.getD i 0<4294967296):
  Calls Tryz.prog 33 #[.agg #[.int .i64 N, .slice a l.length cap], .agg #[.slice ba bs.length bc, .slice ca C.length cc], .int .i64 ce, .int .i64 ep, .slice wa ws.length wk] w fun e w'=>((byE N l bs (csl C) 1 ce ep ws.length)=0→(∃v c,e= .returned (.tuple #[.agg #[.int .i64 1, .int .i64 ce, .int .i64 ep, .slice v (mxL (wgL l (inV N l bs (csl C) 1 ce) ws) (bdV N l bs (csl C) 1 ce)).length c], .int .i64 0])∧w'.ownsRow w.heap.size 48 1 (.slice v (mxL (wgL l (inV N l bs (csl C) 1 ce) ws) (bdV N l bs (csl C) 1 ce)).length c) (mxL (wgL l (inV N l bs (csl C) 1 ce) ws) (bdV N l bs (csl C) 1 ce)).length (cellsU (mxL (wgL l (inV N l bs (csl C) 1 ce) ws) (bdV N l bs (csl C) 1 ce)))∧∀i,i<(bdV N l bs (csl C) 1 ce).length→N5.IsD ((wgL l (inV N l bs (csl C) 1 ce) ws).map toN) (fun _=>true) ((bdV N l bs (csl C) 1 ce).getD i 0) (dF (wgL l (inV N l bs (csl C) 1 ce) ws) ((bdV N l bs (csl C) 1 ce).getD i 0))))∧((byE N l bs (csl C) 1 ce ep ws.length)≠0→e= .returned (.tuple #[.agg #[.int .i64 0, .int .i64 0, .int .i64 0, .slice none 0 0], .int .i64 (byE N l bs (csl C) 1 ce ep ws.length)]))∧Below w.heap.size w w':=by
 obtain⟨hg0,hg1,hg2,hb0,hsz⟩:=top3 w (.cells #[.int .i64 N, .slice a l.length cap] 24) (.cells #[.slice ba bs.length bc, .slice ca C.length cc] 28) (.cells #[.int .i64 0, .int .i64 0, .int .i64 0, .slice none 0 0] 40)
 obtain⟨⟨a0,a1⟩,_⟩:=two_cells hg0
 obtain⟨⟨a2,a3⟩,_⟩:=two_cells hg1
 have HBY:=hid (byArcs_any N a l cap ba bs bc ca C cc 1 ce ep wa ws wk _ hl hbl (hr.on hb0) (hi.on hb0) (hR.on hb0) (hW.on hb0) hws)
 have HB0:=hid hb0
 have HG2:=hid hg2
 obtain⟨B,HBB⟩:=named (byE N l bs (csl C) 1 ce ep ws.length)
 obtain⟨X,HX⟩:=named (mxL (wgL l (inV N l bs (csl C) 1 ce) ws) (bdV N l bs (csl C) 1 ce))
 obtain⟨wl',HWL⟩:=named (wgL l (inV N l bs (csl C) 1 ce) ws)
 rw[HBB.out] at HBY
 rw[HBB.out]
 rw[HX.out,HWL.out] at HBY
 rw[HX.out,HWL.out]
 clear hr hi hR hW hws hb0 hg0 hg1 hg2
 generalize hp:w.heap.size=p at*
 go_enter Tryz.func33,Tryz.ntmps33
 go_wp2_with fail
 generalize hWW:(((w.alloc (.cells #[.int .i64 N, .slice a l.length cap] 24)).alloc (.cells #[.slice ba bs.length bc, .slice ca C.length cc] 28)).alloc (.cells #[.int .i64 0, .int .i64 0, .int .i64 0, .slice none 0 0] 40))=W at*
 clear hWW
 refine HBY.out.mono ?_
 rintro e w5 ⟨hok,hno,hb5⟩
 have hK5:=(hb5.block (p+1+1) (by omega)).trans HG2.out
 obtain⟨⟨d0,d1,d2,d3⟩,f0,f1,f2,f3⟩:=four_cells hK5
 by_cases h:B=0
 ·subst h
  obtain⟨v,c,rfl,hown,hD⟩:=hok rfl
  have HR5:=hid (four_cells (set4 hK5 (.int .i64 1) (.int .i64 ce) (.int .i64 ep) (.slice v X.length c))).1
  have HO5:=hid (own_base (own_set4 hown (show p+1+1<W.heap.size by omega) (.int .i64 1) (.int .i64 ce) (.int .i64 ep) (.slice v X.length c)) (show p≤W.heap.size by omega))
  have HB5:=hid (below_set4 (HB0.out.trans (hb5.mono (by omega))) (show p≤p+1+1 by omega) (.int .i64 1) (.int .i64 ce) (.int .i64 ep) (.slice v X.length c))
  have HD5:=hid hD
  clear hK5 hown hD hb5 HBY hok hno a0 a1 a2 a3
  go_wp2_with fail
  obtain⟨r0,r1,r2,r3⟩:=HR5.out
  refine bodyPost_ret (v:= .tuple #[.agg #[.int .i64 1, .int .i64 ce, .int .i64 ep, .slice v X.length c], .int .i64 0]) (by simp[results,Tryz.results33,go_sem,r0,r1,r2,r3]) rfl ?_
  first | exact⟨⟨v,c,rfl,HO5.out,HD5.out⟩,HB5.out⟩ | exact⟨fun _=>⟨v,c,rfl,HO5.out,HD5.out⟩,fun h=>absurd rfl h,HB5.out⟩
 ·obtain rfl:=hno h
  have HR5:=hid (four_cells (set4 hK5 (.int .i64 0) (.int .i64 0) (.int .i64 0) (.slice none 0 0))).1
  have HB5:=hid (below_set4 (HB0.out.trans (hb5.mono (by omega))) (show p≤p+1+1 by omega) (.int .i64 0) (.int .i64 0) (.int .i64 0) (.slice none 0 0))
  clear hK5 hb5 HBY hok hno a0 a1 a2 a3
  go_wp2_with fail
  obtain⟨r0,r1,r2,r3⟩:=HR5.out
  refine bodyPost_ret (v:= .tuple #[.agg #[.int .i64 0, .int .i64 0, .int .i64 0, .slice none 0 0], .int .i64 B]) (by simp[results,Tryz.results33,go_sem,r0,r1,r2,r3]) rfl ?_
  exact⟨fun h'=>absurd h' h,fun _=>rfl,HB5.out⟩
theorem wts_one{w:World}{b:Nat}{x:Int}{t:TypeId}(h:w.heap[b]? =some (.cells #[.int .u32 x] t)):Wts w (some ⟨b,0,none⟩) [x]:=by
 refine .inr ⟨b,0,rfl,lt_of_block h,fun j hj=> ?_⟩
 obtain rfl:j=0:=by simpa using hj
 simp[World.cell?,h]
def exF(s:Nat)(v:Nat):Int:=if v=s then 0 else if s=0∧v=1 then 5 else N5.Inf
theorem ex_is(s:Nat)(hs:s=0∨s=1):N5.IsD ([⟨0,1,5⟩]:List N5.A) (fun _=>true) s (exF s):=by
 have le: ∀v d,N5.Wk ([⟨0,1,5⟩]:List N5.A) (fun _=>true) s v d→exF s v≤d:=fun v d h=>by
  induction h with
  | nil _=>simp[exF]
  | snoc hx _ _ ih=>
    obtain rfl:=List.mem_singleton.1 hx
    unfold exF N5.Inf N5.src N5.dst at*
    simp at*
    rcases hs with rfl | rfl
    ·simp at*;omega
    ·simp at*;omega
 refine⟨fun v=> ?_,fun v=> ?_,fun v h=> ?_,le⟩
 ·unfold exF N5.Inf;split <;> (try split) <;> decide
 ·unfold exF N5.Inf;split <;> (try split) <;> decide
 ·by_cases h1:v=s
  ·subst h1
   have e:exF v v=0:=by simp[exF]
   rw[e]
   exact N5.Wk.nil rfl
  ·by_cases h2:s=0∧v=1
   ·obtain⟨rfl,rfl⟩:=h2
    exact N5.Wk.snoc (x:=⟨0,1,5⟩) (d:=0) (by simp) (N5.Wk.nil rfl) rfl
   ·exfalso
    unfold exF at h
    rw[if_neg h1,if_neg h2] at h
    omega
theorem w_in(p:Nat):inV 3 wl [2] (csl (wC p)) 1 0=[0]:=by
 show inV 3 wl [2] [[0,0,1]] 1 0=[0]
 decide
theorem w_by(p:Nat):byE 3 wl [2] (csl (wC p)) 1 0 0 1=0:=by
 unfold byE
 rw[(w_bd p).2,w_in]
 decide
theorem w_wg:wgL wl [0] [5]=[⟨0,1,5⟩]:=by decide
theorem w_mx(p:Nat):mxL (wgL wl (inV 3 wl [2] (csl (wC p)) 1 0) [5]) (bdV 3 wl [2] (csl (wC p)) 1 0)=[0,5,18446744073709551615,0]:=by
 rw[w_in,(w_bd p).1,w_wg]
 have h0:dF [⟨0,1,5⟩] 0=exF 0:=dF_is (ex_is 0 (Or.inl rfl))
 have h1:dF [⟨0,1,5⟩] 1=exF 1:=dF_is (ex_is 1 (Or.inr rfl))
 unfold mxL mxK
 show([0,1]:List Nat).flatMap (fun s=>([0,1]:List Nat).map (dF [⟨0,1,5⟩] s))=_
 simp only[List.flatMap_cons,List.flatMap_nil,List.map_cons,List.map_nil,h0,h1]
 decide
set_option maxHeartbeats 3200000 in
theorem works13_any(w:World):Calls Tryz.prog 16 #[] w fun e w'=>e= .returned (.bool true)∧Below w.heap.size w w':=by
 have h6:=al6 w (.cells #[.int .i64 0, .int .i64 1, .int .u32 0, .int .i64 1, .int .i64 2, .int .u32 0, .int .i64 0, .int .i64 2, .int .u32 0] 109) (.cells #[.int .i64 3, .slice (some ⟨w.heap.size,0,none⟩) 3 3] 24) (.cells #[.int .i64 2] 3) (.cells #[.int .i64 0, .int .i64 0, .int .i64 1] 3) (.cells #[.slice (some ⟨w.heap.size+1+1+1,0,none⟩) 3 3] 25) (.cells #[.slice (some ⟨w.heap.size+1+1,0,none⟩) 1 1, .slice (some ⟨w.heap.size+1+1+1+1,0,none⟩) 1 1] 28) _ rfl
 generalize hp:w.heap.size=p at*
 obtain⟨hA,hG,hBs,hC,hR,hN,hB,hz⟩:=h6
 obtain⟨⟨g0,g1⟩,_⟩:=two_cells hG
 obtain⟨⟨n0,n1⟩,_⟩:=two_cells hN
 have HAR:=hid (wl_arcs hA)
 have HBS:=hid (ints_block (xs:=[2]) hBs)
 have HRW:=hid (wC_rws hR hC)
 have HB0:=hid hB
 have HGG:=hid hG
 have HNN:=hid hN
 clear hA hG hBs hC hR hN hB
 go_enter Tryz.func16,Tryz.ntmps16
 go_wp2_with fail
 generalize hW:((((((w.alloc (.cells #[.int .i64 0, .int .i64 1, .int .u32 0, .int .i64 1, .int .i64 2, .int .u32 0, .int .i64 0, .int .i64 2, .int .u32 0] 109)).alloc (.cells #[.int .i64 3, .slice (some ⟨p,0,none⟩) 3 3] 24)).alloc (.cells #[.int .i64 2] 3)).alloc (.cells #[.int .i64 0, .int .i64 0, .int .i64 1] 3)).alloc (.cells #[.slice (some ⟨p+1+1+1,0,none⟩) 3 3] 25)).alloc (.cells #[.slice (some ⟨p+1+1,0,none⟩) 1 1, .slice (some ⟨p+1+1+1+1,0,none⟩) 1 1] 28))=W at*
 clear hW
 have hbv:Below W.heap.size W (W.alloc (.cells #[.int .u32 5] 82)):=(Below.refl _ _).alloc (Nat.le_refl _) _
 have hT5:=heap_top W (.cells #[.int .u32 5] 82)
 have hzv:(W.alloc (.cells #[.int .u32 5] 82)).heap.size=p+7:=by simp[hz]
 have hbp:Below p W (W.alloc (.cells #[.int .u32 5] 82)):=hbv.mono (by omega)
 rw[hz] at hT5
 have HLF:=hid (leaf_any 3 (some ⟨p,0,none⟩) wl 3 (some ⟨p+1+1,0,none⟩) [2] 1 (some ⟨p+1+1+1+1,0,none⟩) (wC (p+3)) 1 0 0 (some ⟨p+6,0,none⟩) [5] 1 (W.alloc (.cells #[.int .u32 5] 82)) (by decide) (by decide) (HAR.out.on hbv) (HBS.out.on hbv) (HRW.out.on hbv) (wts_one hT5) (fun i hi=>by
  obtain rfl:i=0:=by simpa using hi
  decide))
 rw[w_mx] at HLF
 have HBY:Hid (byE 3 wl [2] (csl (wC (p+3))) 1 0 0 ([5]:List Int).length=0):=w_by (p+3)
 rw[HBY.out] at HLF
 have HBP:=hid (HB0.out.trans hbp)
 have HLG:Hid (Calls Tryz.prog 33 #[.agg #[.int .i64 3, .slice (some ⟨p,0,none⟩) 3 3], .agg #[.slice (some ⟨p+1+1,0,none⟩) 1 1, .slice (some ⟨p+1+1+1+1,0,none⟩) 1 1], .int .i64 0, .int .i64 0, .slice (some ⟨p+6,0,none⟩) 1 1] (W.alloc (.cells #[.int .u32 5] 82)) fun e w'=>(∃v c,e= .returned (.tuple #[.agg #[.int .i64 1, .int .i64 0, .int .i64 0, .slice v 4 c], .int .i64 0])∧w'.ownsRow (p+7) 48 1 (.slice v 4 c) 4 (cellsU [0,5,18446744073709551615,0]))∧Below p w w'):=by
  refine HLF.out.mono (fun e w' h=> ?_)
  obtain⟨hok,_,hb1⟩:=h
  obtain⟨v,c,e1,hown,_⟩:=hok rfl
  rw[hzv] at hown hb1
  exact⟨⟨v,c,e1,hown⟩,HBP.out.trans (hb1.mono (by omega))⟩
 generalize W.alloc (.cells #[.int .u32 5] 82)=V at*
 clear hbv hT5 hbp HLF HBY HBP
 refine HLG.out.mono ?_
 rintro e w1 ⟨⟨v,c,rfl,hown⟩,hb1⟩
 have HO1:=hid (dts_own (xs:=[0,5,18446744073709551615,0]) hown)
 have HB1:=hid hb1
 have hw1:p≤w1.heap.size:=by have:=hb1.size;omega
 have hM:=heap_top w1 (.cells #[.int .i64 1, .int .i64 0, .int .i64 0, .slice v 4 c] 40)
 have hbM:Below w1.heap.size w1 (w1.alloc (.cells #[.int .i64 1, .int .i64 0, .int .i64 0, .slice v 4 c] 40)):=(Below.refl _ _).alloc (Nat.le_refl _) _
 obtain⟨⟨m0,m1,m2,m3⟩,_⟩:=four_cells hM
 have HBM:=hid hbM
 have HOM:=hid (HO1.out.on hbM)
 clear hb1 hown HLG hbM hM HAR HBS HRW HB0 HGG HNN g0 g1 n0 n1
 have hz2:(w1.alloc (.cells #[.int .i64 1, .int .i64 0, .int .i64 0, .slice v 4 c] 40)).heap.size=w1.heap.size+1:=by simp
 have hbD:Below (w1.heap.size+1) (w1.alloc (.cells #[.int .i64 1, .int .i64 0, .int .i64 0, .slice v 4 c] 40)) ((w1.alloc (.cells #[.int .i64 1, .int .i64 0, .int .i64 0, .slice v 4 c] 40)).alloc (.cells #[.int .u64 0, .int .u64 5, .int .u64 18446744073709551615, .int .u64 0] 48)):=by
  rw[←hz2]
  exact(Below.refl _ _).alloc (Nat.le_refl _) _
 have hTD:=heap_top (w1.alloc (.cells #[.int .i64 1, .int .i64 0, .int .i64 0, .slice v 4 c] 40)) (.cells #[.int .u64 0, .int .u64 5, .int .u64 18446744073709551615, .int .u64 0] 48)
 rw[hz2] at hTD
 have HSD:=hid (sameD_any v (some ⟨w1.heap.size+1,0,none⟩) c 4 [0,5,18446744073709551615,0] ((w1.alloc (.cells #[.int .i64 1, .int .i64 0, .int .i64 0, .slice v 4 c] 40)).alloc (.cells #[.int .u64 0, .int .u64 5, .int .u64 18446744073709551615, .int .u64 0] 48)) (by decide) (HOM.out.on (by rw[hz2];exact hbD)) (dts_block (xs:=[0,5,18446744073709551615,0]) hTD))
 have HBE:Hid (Below p w ((w1.alloc (.cells #[.int .i64 1, .int .i64 0, .int .i64 0, .slice v 4 c] 40)).alloc (.cells #[.int .u64 0, .int .u64 5, .int .u64 18446744073709551615, .int .u64 0] 48))):=HB1.out.trans ((HBM.out.trans (hbD.mono (by omega))).mono hw1)
 have hz3:p≤((w1.alloc (.cells #[.int .i64 1, .int .i64 0, .int .i64 0, .slice v 4 c] 40)).alloc (.cells #[.int .u64 0, .int .u64 5, .int .u64 18446744073709551615, .int .u64 0] 48)).heap.size:=by simp;omega
 clear hbD hTD
 go_wp2_with fail
 refine HSD.out.mono ?_
 rintro e w4 ⟨rfl,hb4⟩
 have HB4:Hid (Below p w w4):=HBE.out.trans (hb4.mono hz3)
 clear hb4 HSD
 go_wp2_with fail
 go_ret
 exact⟨rfl,HB4.out⟩
theorem made_u64(n:Nat):madeCells (Value.int .u64 0).cells (n*1)=((List.range n).map (fun _=>Value.int .u64 0)).toArray:=by
 apply Array.ext'
 show(madeCells #[Value.int .u64 0] (n*1)).toList=_
 rw[toList_madeCells_one,Nat.mul_one]
 apply List.ext_getElem
 ·simp
 ·intro i h1 h2
  simp
theorem one_cellU{w:World}{b:Nat}{v:Value}{t:TypeId}(h:w.heap[b]? =some (.cells #[v] t)):w.cell? ⟨b,0,none⟩=some v∧w.frozen? ⟨b,0,none⟩=false:=by
 simp only[World.cell?,World.frozen?,h]
 exact⟨rfl,rfl⟩
theorem top3U(w:World)(o0 o1 o2:Obj):(((w.alloc o0).alloc o1).alloc o2).heap[w.heap.size]? =some o0∧(((w.alloc o0).alloc o1).alloc o2).heap[w.heap.size+1]? =some o1∧(((w.alloc o0).alloc o1).alloc o2).heap[w.heap.size+1+1]? =some o2∧Below w.heap.size w (((w.alloc o0).alloc o1).alloc o2)∧(((w.alloc o0).alloc o1).alloc o2).heap.size=w.heap.size+3:=by
 obtain⟨h1,h2,h3,h4⟩:=top2 w o0 o1
 have hb:Below ((w.alloc o0).alloc o1).heap.size ((w.alloc o0).alloc o1) (((w.alloc o0).alloc o1).alloc o2):=(Below.refl _ _).alloc (Nat.le_refl _) _
 refine⟨(hb.block _ (by omega)).trans h1,(hb.block _ (by omega)).trans h2,?_,h3.trans (hb.mono (by omega)),by rw[World.size_alloc,h4]⟩
 have:=heap_top ((w.alloc o0).alloc o1) o2
 rw[h4] at this
 exact this
def flV(k v:Nat):Value:= .int .u64 (if v<k then N5.Inf else 0)
theorem flV_step(k v:Nat):updV (flV k) k (.int .u64 N5.Inf) v=flV (k+1) v:=by
 by_cases e:v=k
 ·subst e
  rw[updV_self]
  unfold flV
  rw[if_pos (by omega)]
 ·rw[updV_ne _ _ e]
  unfold flV
  by_cases h:v<k
  ·rw[if_pos h,if_pos (by omega)]
  ·rw[if_neg h,if_neg (by omega)]
set_option maxHeartbeats 1600000 in
theorem rfrom_any(g n s:Nat)(rv:Nat→Value)(r:List A)(w:World)(hR:RdR w g n rv r)(hRB: ∀b,RB g n rv b→b<w.heap.size)(hs:s<n)(hn:n≤1024)(hrr:RdOk n r)(hrl:r.length≤1099511627776):
  Calls Tryz.prog 140 #[.slice (some ⟨g,0,none⟩) n n, .int .i64 s] w fun e w'=> ∃bf,e= .returned (.slice (some ⟨bf,0,none⟩) n n)∧w.heap.size≤bf∧TbV w' bf n 48 (fun v=> .int .u64 (dF r s v))∧N5.IsD (r.map toN) (fun _=>true) s (dF r s)∧Below w.heap.size w w':=by
 obtain⟨i,hi,hz,hs',hby⟩:=info_parts info75
 have hmk: ∀w,(Instr.makeSlice 38 (.int .i64 n) (.int .i64 n)).run Tryz.prog w= .ok (.slice (some ⟨w.heap.size,0,none⟩) n n) (w.alloc (.cells ((List.range n).map (fun _=>Value.int .u64 0)).toArray 48)):=fun w=>by
  have:=run_make (P:=Tryz.prog) w 38 48 i (.int .u64 0) Tryz.underlying38 hi hz .i64 .i64 n n (by omega) (by omega) (by rw[hby];omega) (by omega)
  rw[this,Int.toNat_natCast,hs',made_u64]
 clear hi hz hs' hby
 clear i
 have hs2:(s:Int)<n:=by omega
 have hb0:Below w.heap.size w (w.alloc (.cells #[.slice (some ⟨g,0,none⟩) n n] 191)):=(Below.refl _ _).alloc (Nat.le_refl _) _
 have hg0:=heap_top w (.cells #[.slice (some ⟨g,0,none⟩) n n] 191)
 have HR:=hid hR
 have HRB:=hid hRB
 have HRR:=hid hrr
 have HB0:=hid hb0
 have HG0:=hid hg0
 obtain⟨k0,k1,k2,hb3,hz3⟩:=top3U w (.cells #[.slice (some ⟨g,0,none⟩) n n] 191) (.cells ((List.range n).map (fun _=>Value.int .u64 0)).toArray 48) (.cells #[.slice (some ⟨w.heap.size+1,0,none⟩) n n] 38)
 have HK0:=hid k0
 have HT0:Hid (TbV (((w.alloc (.cells #[.slice (some ⟨g,0,none⟩) n n] 191)).alloc (.cells ((List.range n).map (fun _=>Value.int .u64 0)).toArray 48)).alloc (.cells #[.slice (some ⟨w.heap.size+1,0,none⟩) n n] 38)) (w.heap.size+1) n 48 (flV 0)):=TbV.congr (V:=fun _=> .int .u64 0) k1 (fun v _=>by unfold flV;rw[if_neg (by omega)])
 have HK2:=hid k2
 have HB3:=hid hb3
 have b0:(w.alloc (.cells #[.slice (some ⟨g,0,none⟩) n n] 191)).cell? ⟨w.heap.size,0,none⟩=some (.slice (some ⟨g,0,none⟩) n n):=(one_cellU HG0.out).1
 clear hR hRB hrr hb0 hg0 k0 k1 k2 hb3
 generalize hp:w.heap.size=p at*
 go_enter Tryz.func140,Tryz.ntmps140
 go_wp2_with fail
 generalize hW:((w.alloc (.cells #[.slice (some ⟨g,0,none⟩) n n] 191)).alloc (.cells ((List.range n).map (fun _=>Value.int .u64 0)).toArray 48)).alloc (.cells #[.slice (some ⟨p+1,0,none⟩) n n] 38)=W at*
 clear hW HG0 b0 HB0
 go_loopw [12] (fun i wr=> ∃k:Nat,k≤n∧i= .int .i64 k∧Hid (TbV wr (p+1) n 48 (flV k))∧Hid (wr.heap[p]? =some (.cells #[.slice (some ⟨g,0,none⟩) n n] 191))∧Hid (wr.heap[p+1+1]? =some (.cells #[.slice (some ⟨p+1,0,none⟩) n n] 38))∧Hid (Below p w wr)) (fun i _=>n - (intOf i).toNat)
 case atStart=>exact⟨0,Nat.zero_le _,rfl,HT0,HK0,HK2,HB3⟩
 case round=>
  clear HT0 HK0 HK2 HB3
  obtain⟨k,hk,rfl,HT,HK0,HK2,HBR⟩:=hrel
  have b0:=(one_cellU HK0.out).1
  have b2:=(one_cellU HK2.out).1
  have hz2:=lt_of_block HK2.out
  by_cases hkn:k<n
  ·have hkn':(k:Int)<n:=by omega
   have t0:=HT.out.cell hkn
   have t1:=HT.out.free k
   have HT2:Hid (TbV (wr.setCell ⟨p+1,k,none⟩ (.int .u64 18446744073709551615)) (p+1) n 48 (flV (k+1))):=(HT.out.set k (.int .u64 N5.Inf)).congr (fun v _=>flV_step k v)
   have HE0:Hid ((wr.setCell ⟨p+1,k,none⟩ (.int .u64 18446744073709551615)).heap[p]? =some (.cells #[.slice (some ⟨g,0,none⟩) n n] 191)):=(Below.heap_setCell _ _ _ _ (by show p≠p+1;omega)).trans HK0.out
   have HE2:Hid ((wr.setCell ⟨p+1,k,none⟩ (.int .u64 18446744073709551615)).heap[p+1+1]? =some (.cells #[.slice (some ⟨p+1,0,none⟩) n n] 38)):=(Below.heap_setCell _ _ _ _ (by show p+1+1≠p+1;omega)).trans HK2.out
   have HE3:Hid (Below p w (wr.setCell ⟨p+1,k,none⟩ (.int .u64 18446744073709551615))):=HBR.out.setCell (p:=⟨p+1,k,none⟩) (by show p≤p+1;omega) _
   go_wp2_with fail
   exact⟨⟨k+1,hkn,by simp,HT2,HE0,HE2,HE3⟩,by simp[intOf];omega⟩
  ·have hkn': ¬(k:Int)<n:=by omega
   have t0:=HT.out.cell hs
   have t1:=HT.out.free s
   have HT2:Hid (TbV (wr.setCell ⟨p+1,s,none⟩ (.int .u64 0)) (p+1) n 48 (fun u=> .int .u64 (N5.updI (fun _=>N5.Inf) s 0 u))):=(HT.out.set s (.int .u64 0)).congr (fun v hv=>by
    by_cases e:v=s
    ·subst e;rw[updV_self,N5.updI_self]
    ·rw[updV_ne _ _ e,N5.updI_ne _ _ e]
     unfold flV
     rw[if_pos (by omega)])
   have HE0:Hid ((wr.setCell ⟨p+1,s,none⟩ (.int .u64 0)).heap[p]? =some (.cells #[.slice (some ⟨g,0,none⟩) n n] 191)):=(Below.heap_setCell _ _ _ _ (by show p≠p+1;omega)).trans HK0.out
   have HE2:Hid ((wr.setCell ⟨p+1,s,none⟩ (.int .u64 0)).heap[p+1+1]? =some (.cells #[.slice (some ⟨p+1,0,none⟩) n n] 38)):=(Below.heap_setCell _ _ _ _ (by show p+1+1≠p+1;omega)).trans HK2.out
   have HE3:Hid (Below p w (wr.setCell ⟨p+1,s,none⟩ (.int .u64 0))):=HBR.out.setCell (p:=⟨p+1,s,none⟩) (by show p≤p+1;omega) _
   have HSC:Hid (∀W2,TbV W2 (p+1) n 48 (fun u=> .int .u64 (N5.updI (fun _=>N5.Inf) s 0 u))→W2.heap[p]? =some (.cells #[.slice (some ⟨g,0,none⟩) n n] 191)→W2.heap[p+1+1]? =some (.cells #[.slice (some ⟨p+1,0,none⟩) n n] 38)→Below p w W2→Calls Tryz.prog 191 #[.int .i64 s, .slice (some ⟨p+1,0,none⟩) n n, .func (.func 192) #[] #[.pointer (some ⟨p+1+1,0,none⟩), .pointer (some ⟨p,0,none⟩)]] W2 fun e w'=>e= .returned (.tuple #[])∧∃F,TbV w' (p+1) n 48 (fun u=> .int .u64 (F u))∧N5.IsD (r.map toN) (fun _=>true) s F∧Fr (SD0 (p+1) W2.heap.size) W2 w'):=fun W2 h1 h2 h3 h4=>
    search_any (p+1+1) p (p+1) g n s rv r W2 (one_cellU h3).1 (one_cellU h2).1 h1 (HR.out.fr (D:=fun _=>False) ⟨h4.os,h4.tape,h4.output,h4.size,fun k hk _=>h4.block k (hp▸hk)⟩ (fun _ _ h=>h)) (fun b hb=>⟨by have:=HRB.out b hb;have:=lt_of_block h2;omega,by have:=HRB.out b hb;omega⟩) (by omega) (by omega) hs hn HRR.out hrl
   have hmf: ∀ (fn:Fn) (first cap:Array Value) (w:World),(Instr.makeFunc fn first cap).run Tryz.prog w= .ok (.func fn first cap) w:=fun _ _ _ _=>rfl
   clear HT HK0 HK2 HBR
   have b2':=(one_cellU HE2.out).1
   go_wp2_with fail
   generalize wr.setCell ⟨p+1,s,none⟩ (.int .u64 0)=W2 at*
   refine(HSC.out W2 HT2.out HE0.out HE2.out HE3.out).mono ?_
   rintro e w3 ⟨rfl,F,hT3,hD3,hF3⟩
   have hz4:=lt_of_block HE2.out
   have e3:=dF_is hD3
   have HT3:Hid (TbV w3 (p+1) n 48 (fun v=> .int .u64 (dF r s v))):=by rw[e3];exact hT3
   have HD3:Hid (N5.IsD (r.map toN) (fun _=>true) s (dF r s)):=by rw[e3];exact hD3
   have HB4:Hid (Below p w w3):=HE3.out.trans (hF3.below (by omega) (fun k hk=>by rcases hk with h | h <;> omega))
   have b3:=(one_cellU ((hF3.block (p+1+1) hz4 (fun h=>by rcases h with h | h <;> omega)).trans HE2.out)).1
   clear hT3 hD3 hF3 e3 HSC b2 b0 b2' t0 t1
   go_wp2_with fail
   go_ret
   exact⟨p+1,rfl,by omega,HT3.out,HD3.out,HB4.out⟩
def mxA(S:List Nat)(D:List Int)(k:Nat):A:=⟨S.getD (k / S.length) 0,S.getD (k % S.length) 0,D.getD k 0⟩
def adM(S:List Nat)(D:List Int)(r:List A):Nat→List A
 | 0=>r
 | k+1=>rdA (adM S D r k) (mxA S D k)
theorem adM_len(S:List Nat)(D:List Int)(r:List A): ∀k,(adM S D r k).length≤r.length+k
 | 0=>Nat.le_refl _
 | k+1=>by have h1:=rdA_len (adM S D r k) (mxA S D k);have h2:=adM_len S D r k;show(rdA _ _).length≤_;omega
set_option maxHeartbeats 1600000 in
theorem radm_any(B g n:Nat)(rv:Nat→Value)(r:List A)(S:List Nat)(ib:Nat)(ic:Nat)(D:List Int)(db dq:Nat)(dc:Nat)(w:World)(hR:Rds w B g n rv r)(hB:B≤w.heap.size)(hSn: ∀i,i<S.length→S.getD i 0<n)(hS8:S.length≤1024)(hDl:D.length=S.length*S.length)(hD: ∀k,k<D.length→0≤D.getD k 0∧D.getD k 0≤N5.Inf)(hrl:r.length≤1099510579200)(hib: ¬RB g n rv ib)(hdb: ¬RB g n rv db)(hI: ∀i,i<S.length→w.cell? ⟨ib,i,none⟩=some (.int .i64 (S.getD i 0:Nat)))(hE: ∀k,k<D.length→w.cell? ⟨db,dq+k,none⟩=some (.int .u64 (D.getD k 0))):
  Calls Tryz.prog 136 #[.slice (some ⟨g,0,none⟩) n n, .slice (some ⟨ib,0,none⟩) S.length ic, .slice (some ⟨db,dq,none⟩) D.length dc] w fun e w'=>e= .returned (.tuple #[])∧∃rv',Rds w' B g n rv' (adM S D r D.length)∧RdT g n w rv w' rv':=by
 have HI:=hid hI
 have HE:=hid hE
 have HD:=hid hD
 have HSN:=hid hSn
 have HR:=hid hR
 have hD8:D.length≤1048576:=by rw[hDl];exact Nat.mul_le_mul hS8 hS8
 have HDL:Hid (∀k,k<D.length→k / S.length<S.length∧k % S.length<S.length∧0<S.length):=fun k hk=>by
  rw[hDl] at hk
  have h0:0<S.length:=Nat.pos_of_ne_zero (fun e=>by rw[e] at hk;simp at hk)
  exact⟨Nat.div_lt_of_lt_mul hk,Nat.mod_lt _ h0,h0⟩
 clear hI hE hD hSn hR hDl
 obtain⟨m,HM⟩:=named S.length
 rw[HM.out] at HI HSN HDL hS8
 rw[HM.out]
 obtain⟨dl,HDD⟩:=named D.length
 rw[HDD.out] at HE HD HDL hD8
 rw[HDD.out]
 go_enter Tryz.func136,Tryz.ntmps136
 go_wp2_with fail
 go_loopw [10] (fun i wr=> ∃ (k:Nat),k≤dl∧i= .int .i64 k∧Hid (∃rv',Rds wr B g n rv' (adM S D r k)∧RdT g n w rv wr rv')) (fun i _=>dl - (intOf i).toNat)
 case atStart=>exact⟨0,Nat.zero_le _,rfl,rv,HR.out,RdT.refl _ _ _ _⟩
 case round=>
  obtain⟨k,hk,rfl,HRV⟩:=hrel
  by_cases hlk:k<dl
  ·have hlk':(k:Int)<dl:=by omega
   obtain⟨rv1,hR1,hT1⟩:=HRV.out
   have hB1:B≤wr.heap.size:=Nat.le_trans hB hT1.fr.size
   have y0:=Fr.cell hT1.fr (HE.out k hlk) hdb
   obtain⟨j0,j1,j2⟩:=HDL.out k hlk
   have i0:=Fr.cell hT1.fr (HI.out _ j0) hib
   have i1:=Fr.cell hT1.fr (HI.out _ j1) hib
   have f0:=HSN.out _ j0
   have hd0:=HD.out k hlk
   have hal:=adM_len S D r k
   have HNX:Hid (adM S D r (k+1)=rdA (adM S D r k) ⟨(S.getD (k / m) 0:Nat),(S.getD (k % m) 0:Nat),D.getD k 0⟩):=by
    show rdA (adM S D r k) (mxA S D k)=_
    unfold mxA
    rw[HM.out]
   have HAD:=hid (fun W2 (h1:Rds W2 B g n rv1 (adM S D r k)) (h2:B≤W2.heap.size)=>radd_any B g n rv1 (adM S D r k) (S.getD (k / m) 0) (S.getD (k % m) 0:Nat) (D.getD k 0) W2 h1 f0 hd0 (by omega) h2)
   have e1:Int.tdiv (k:Int) (m:Int)=((k / m:Nat):Int):=by rw[Int.tdiv_eq_ediv_of_nonneg (by omega),←Int.natCast_ediv]
   have e2:Int.tmod (k:Int) (m:Int)=((k % m:Nat):Int):=by rw[Int.tmod_eq_emod_of_nonneg (by omega),←Int.natCast_emod]
   have hm0: ¬m=0:=by omega
   obtain⟨qa,HQA⟩:=named (k / m)
   obtain⟨qb,HQB⟩:=named (k % m)
   rw[HQA.out] at i0 HNX HAD e1 f0 j0
   rw[HQB.out] at i1 HNX HAD e2 j1
   obtain⟨x,HX⟩:=named (S.getD qa 0)
   obtain⟨y,HY⟩:=named (S.getD qb 0)
   obtain⟨z,HZ⟩:=named (D.getD k 0)
   rw[HX.out] at i0 HNX HAD f0
   rw[HY.out] at i1 HNX HAD
   rw[HZ.out] at y0 HNX HAD hd0
   have e3:IntKind.i64.wrap (qa:Int)=qa:=by rw[IntKind.wrap_i64];omega
   have e4:IntKind.i64.wrap (qb:Int)=qb:=by rw[IntKind.wrap_i64];omega
   have j0':(qa:Int)<m:=by omega
   have j1':(qb:Int)<m:=by omega
   obtain⟨rr,HRN⟩:=named (adM S D r k)
   rw[HRN.out] at HNX HAD hR1
   have HR1:=hid hR1
   have HT1:=hid hT1
   clear hR1 hT1 HRV hal
   go_wp2_with fail
   go_region_law (first | (rw[if_pos (by rfl)];go_simp;go_at_call 190;refine(HAD.out _ (HR1.out.on (Below.refl _ _).drew) hB1).mono ?_;rintro e w5 ⟨rfl,rv5,hR5,hT5⟩;have HT5:Hid (RdT g n wr rv1 w5 rv5):=(RdT.on (Below.refl _ _).drew).trans hT5;have HR5:=hid hR5;clear hR5 hT5))
   all_goals
    have HF5:Hid (∃rv',Rds w5 B g n rv' (adM S D r (k+1))∧RdT g n w rv w5 rv'):=⟨rv5,by rw[HNX.out];exact HR5.out,HT1.out.trans HT5.out⟩
    go_wp2_with fail
    exact⟨⟨k+1,hlk,by simp,HF5⟩,by simp[intOf];omega⟩
  ·have hlk': ¬(k:Int)<dl:=by omega
   obtain rfl:k=dl:=by omega
   go_wp2_with fail
   go_end0
   exact⟨rfl,HRV.out⟩
def adA(r:List A)(l:List A):List A:=l.foldl rdA r
theorem adA_snoc(r l:List A)(x:A):adA r (l++[x])=rdA (adA r l) x:=by simp[adA]
theorem adA_len: ∀ (l r:List A),(adA r l).length≤r.length+l.length
 | [],r=>Nat.le_refl _
 | x::l,r=>by
   have h1:=adA_len l (rdA r x)
   have h2:=rdA_len r x
   show(adA (rdA r x) l).length≤_
   simp
   omega
set_option maxHeartbeats 1600000 in
theorem rada_any(B g n:Nat)(rv:Nat→Value)(r l:List A)(ab ac:Nat)(w:World)(hR:Rds w B g n rv r)(hB:B≤w.heap.size)(hl8:l.length≤8192)(hl: ∀k,k<l.length→0≤(l.getD k A.zero).f∧(l.getD k A.zero).f.toNat<n∧0≤(l.getD k A.zero).w∧(l.getD k A.zero).w<4294967296)(hrl:r.length≤1099510579200)(hab: ¬RB g n rv ab)(hA:Arcs w (some ⟨ab,0,none⟩) l):
  Calls Tryz.prog 137 #[.slice (some ⟨g,0,none⟩) n n, .slice (some ⟨ab,0,none⟩) l.length ac] w fun e w'=>e= .returned (.tuple #[])∧∃rv',Rds w' B g n rv' (adA r l)∧RdT g n w rv w' rv':=by
 have HAT:Hid (∀k,k<l.length→w.cell? ⟨ab,k*3,none⟩=some (.int .i64 (l.getD k A.zero).f)∧w.cell? ⟨ab,k*3+1,none⟩=some (.int .i64 (l.getD k A.zero).t)∧w.cell? ⟨ab,k*3+2,none⟩=some (.int .u32 (l.getD k A.zero).w)):=fun k hk=>by
  rcases hA with h | ⟨b,o,e,_,h⟩
  ·rw[h] at hk;simp at hk
  ·cases e
   have:=h k hk
   rw[Nat.zero_add] at this
   exact this
 have HL:=hid hl
 have HR:=hid hR
 have HTK:Hid (∀k,k<l.length→adA r (l.take (k+1))=rdA (adA r (l.take k)) (l.getD k A.zero)):=fun k hk=>by rw[take_snocA hk,adA_snoc]
 have HLN:Hid (∀k,(adA r (l.take k)).length≤r.length+8192):=fun k=>by
  have h1:=adA_len (l.take k) r
  rw[List.length_take] at h1
  omega
 have HT0:Hid (adA r (l.take 0)=r):=rfl
 have HTL:Hid (adA r (l.take l.length)=adA r l):=by show _=_;rw[List.take_length]
 clear hA hl hR
 go_enter Tryz.func137,Tryz.ntmps137
 go_wp2_with fail
 go_loopw [8] (fun i wr=> ∃ (k:Nat),k≤l.length∧i= .int .i64 k∧Hid (∃rv',Rds wr B g n rv' (adA r (l.take k))∧RdT g n w rv wr rv')) (fun i _=>l.length - (intOf i).toNat)
 case atStart=>exact⟨0,Nat.zero_le _,rfl,rv,HR.out,RdT.refl _ _ _ _⟩
 case round=>
  obtain⟨k,hk,rfl,HRV⟩:=hrel
  by_cases hlk:k<l.length
  ·have hlk':(k:Int)<l.length:=by omega
   obtain⟨rv1,hR1,hT1⟩:=HRV.out
   have hB1:B≤wr.heap.size:=Nat.le_trans hB hT1.fr.size
   obtain⟨x0,x1,x2⟩:=HAT.out k hlk
   have y0:=Fr.cell hT1.fr x0 hab
   have y1:=Fr.cell hT1.fr x1 hab
   have y2:=Fr.cell hT1.fr x2 hab
   obtain⟨a0,a1,a2,a3⟩:=HL.out k hlk
   have HNX:=hid (HTK.out k hlk)
   have hal:=HLN.out k
   obtain⟨rr,HRN⟩:=named (adA r (l.take k))
   rw[HRN.out] at HNX hR1 hal
   generalize l.getD k A.zero=x at*
   obtain⟨xf,xt,xw⟩:=x
   simp only at a0 a1 a2 a3 y0 y1 y2
   obtain⟨f,rfl⟩: ∃f:Nat,xf=f:=⟨xf.toNat,by omega⟩
   have hf:f<n:=by simpa using a1
   have hb1:Below wr.heap.size wr (wr.alloc (.cells #[.int .i64 f, .int .i64 xt, .int .u32 xw] 109)):=(Below.refl _ _).alloc (Nat.le_refl _) _
   have HAD:=hid (radd_any B g n rv1 rr f xt xw _ (hR1.on hb1) hf ⟨a2,by unfold N5.Inf;omega⟩ (by omega) (Nat.le_trans hB1 hb1.size))
   have HT1:Hid (RdT g n w rv (wr.alloc (.cells #[.int .i64 f, .int .i64 xt, .int .u32 xw] 109)) rv1):=hT1.trans (RdT.on hb1)
   clear x0 x1 x2 hR1 hT1 HRV hb1 a1
   go_wp2_with fail
   refine HAD.out.mono ?_
   rintro e w5 ⟨rfl,rv5,hR5,hT5⟩
   have HF5:Hid (∃rv',Rds w5 B g n rv' (adA r (l.take (k+1)))∧RdT g n w rv w5 rv'):=⟨rv5,by rw[HNX.out];exact hR5,HT1.out.trans hT5⟩
   clear hR5 hT5 y0 y1 y2 HAD
   go_wp2_with fail
   exact⟨⟨k+1,hlk,by simp,HF5⟩,by simp[intOf];omega⟩
  ·have hlk': ¬(k:Int)<l.length:=by omega
   have e:k=l.length:=by omega
   have HF:Hid (∃rv',Rds wr B g n rv' (adA r l)∧RdT g n w rv wr rv'):=by
    have:=HRV.out
    rw[e,HTL.out] at this
    exact this
   clear e
   go_wp2_with fail
   go_end0
   exact⟨rfl,HF.out⟩
set_option maxHeartbeats 1600000 in
theorem plBetween_any(N:Int)(a:Option Addr)(l:List A)(cap:Nat)(ba:Option Addr)(bs:List Int)(bc:Nat)(ca:Option Addr)(C:List Cl)(cc:Nat)(lv ce:Int)(w:World)(hl:l.length≤9223372036854775807)(hbl:bs.length≤9223372036854775807)(hr:Arcs w a l)(hi:Ints w ba bs)(hR:Rws w ca C):
  Calls Tryz.prog 132 #[.agg #[.int .i64 N, .slice a l.length cap, .slice ba bs.length bc, .slice ca C.length cc, .int .i64 lv, .int .i64 ce]] w fun e w'=> ∃v,e= .returned (.tuple #[.slice v (btV N l bs (csl C) lv ce).length (btV N l bs (csl C) lv ce).length, .int .i64 (btE N l bs (csl C) lv ce)])∧RowI w' w.heap.size v (ints (btV N l bs (csl C) lv ce))∧Below w.heap.size w w':=by
 have hg:=heap_top w (.cells #[.int .i64 N, .slice a l.length cap, .slice ba bs.length bc, .slice ca C.length cc, .int .i64 lv, .int .i64 ce] 118)
 have hb0:Below w.heap.size w (w.alloc (.cells #[.int .i64 N, .slice a l.length cap, .slice ba bs.length bc, .slice ca C.length cc, .int .i64 lv, .int .i64 ce] 118)):=(Below.refl _ _).alloc (Nat.le_refl _) _
 obtain⟨c0,c1,c2,c3,c4,c5⟩:=six_cells hg
 have HC:=hid (between_any N a l cap ba bs bc ca C cc lv ce _ hl hbl (hr.on hb0) (hi.on hb0) (hR.on hb0))
 have HB0:=hid hb0
 have hsz:(w.alloc (.cells #[.int .i64 N, .slice a l.length cap, .slice ba bs.length bc, .slice ca C.length cc, .int .i64 lv, .int .i64 ce] 118)).heap.size=w.heap.size+1:=by simp
 obtain⟨E,HE⟩:=named (btE N l bs (csl C) lv ce)
 obtain⟨S,HS⟩:=named (btV N l bs (csl C) lv ce)
 rw[HE.out,HS.out] at HC
 rw[HE.out,HS.out]
 clear hr hi hR hb0 hg
 generalize hp:w.heap.size=p at*
 go_enter Tryz.func132,Tryz.ntmps132
 go_wp2_with fail
 refine HC.out.mono ?_
 rintro e w2 ⟨v,rfl,hr2,hb2⟩
 have HB2:Hid (Below p w w2):=HB0.out.trans (hb2.mono (by omega))
 have HR2:=hid (hr2.base (C:=p) (by omega))
 clear hr2 hb2 HC c0 c1 c2 c3 c4 c5
 go_wp2_with fail
 go_ret2
 exact⟨v,rfl,HR2.out,HB2.out⟩
def mbB(me:Int)(dn k:Nat):Bool:=epB me&&decide (dn=k*k)
theorem fourU_cells{w:World}{g:Nat}{a b c d:Value}{t:TypeId}(h:w.heap[g]? =some (.cells #[a,b,c,d] t)):w.cell? ⟨g,0,none⟩=some a∧w.cell? ⟨g,1,none⟩=some b∧w.cell? ⟨g,2,none⟩=some c∧w.cell? ⟨g,3,none⟩=some d:=by
 simp[World.cell?,h]
set_option maxHeartbeats 1600000 in
theorem mayBe_any(ml mc me:Int)(da:Option Addr)(dn dc:Nat)(ia:Option Addr)(k ic:Nat)(w:World)(hk:k*k≤9223372036854775807):Calls Tryz.prog 77 #[.agg #[.int .i64 ml, .int .i64 mc, .int .i64 me, .slice da dn dc], .slice ia k ic] w fun e w'=>e= .returned (.bool (mbB me dn k))∧Below w.heap.size w w':=by
 have hg:=heap_top w (.cells #[.int .i64 ml, .int .i64 mc, .int .i64 me, .slice da dn dc] 40)
 have hb0:Below w.heap.size w (w.alloc (.cells #[.int .i64 ml, .int .i64 mc, .int .i64 me, .slice da dn dc] 40)):=(Below.refl _ _).alloc (Nat.le_refl _) _
 obtain⟨c0,c1,c2,c3⟩:=fourU_cells hg
 have HE:=hid (isEpoch_any me (w.alloc (.cells #[.int .i64 ml, .int .i64 mc, .int .i64 me, .slice da dn dc] 40)))
 have HB0:=hid hb0
 clear hg hb0
 obtain⟨mm,emm⟩: ∃mm:Nat,mm=k*k:=⟨_,rfl⟩
 have ew:IntKind.i64.wrap ((k:Int)*k)=(mm:Int):=by
  have e:((k:Int)*k)=(mm:Int):=by rw[emm];simp
  rw[e,IntKind.wrap_i64];omega
 unfold mbB
 rw[←emm]
 clear emm hk
 obtain⟨E,HEP⟩:=named (epB me)
 rw[HEP.out] at HE
 rw[HEP.out]
 generalize hp:w.heap.size=p at*
 rcases E with _ | _
 ·go_enter Tryz.func77,Tryz.ntmps77
  go_wp2_with fail
  refine HE.out.mono ?_
  rintro e w2 ⟨rfl,rfl⟩
  go_wp2_with fail
  go_ret
  exact⟨rfl,HB0.out⟩
 ·go_enter Tryz.func77,Tryz.ntmps77
  go_wp2_with fail
  refine HE.out.mono ?_
  rintro e w2 ⟨rfl,rfl⟩
  go_wp2_with fail
  go_ret
  refine⟨?_,HB0.out⟩
  simp only[Bool.true_and]
  have e3:((dn:Int)==(mm:Int))=decide (dn=mm):=by
   rw[Bool.eq_iff_iff,beq_iff_eq,decide_eq_true_iff];omega
  rw[e3]
  rfl
def hsB(lv ce ml mc me:Int)(dn k:Nat):Bool:=decide (ml=lv)&&(decide (mc=ce)&&mbB me dn k)
set_option maxHeartbeats 1600000 in
theorem plHas_any(N:Int)(a:Option Addr)(l:List A)(cap:Nat)(ba:Option Addr)(bs:List Int)(bc:Nat)(ca:Option Addr)(C:List Cl)(cc:Nat)(lv ce:Int)(ml mc me:Int)(da:Option Addr)(dn dc:Nat)(ia:Option Addr)(k ic:Nat)(w:World)(hk:k*k≤9223372036854775807):Calls Tryz.prog 135 #[.agg #[.int .i64 N, .slice a l.length cap, .slice ba bs.length bc, .slice ca C.length cc, .int .i64 lv, .int .i64 ce], .agg #[.int .i64 ml, .int .i64 mc, .int .i64 me, .slice da dn dc], .slice ia k ic] w fun e w'=>e= .returned (.bool (hsB lv ce ml mc me dn k))∧Below w.heap.size w w':=by
 have hg0:=(top2 w (.cells #[.int .i64 N, .slice a l.length cap, .slice ba bs.length bc, .slice ca C.length cc, .int .i64 lv, .int .i64 ce] 118) (.cells #[.int .i64 ml, .int .i64 mc, .int .i64 me, .slice da dn dc] 40)).1
 have hg1:=(top2 w (.cells #[.int .i64 N, .slice a l.length cap, .slice ba bs.length bc, .slice ca C.length cc, .int .i64 lv, .int .i64 ce] 118) (.cells #[.int .i64 ml, .int .i64 mc, .int .i64 me, .slice da dn dc] 40)).2.1
 have hb0:=(top2 w (.cells #[.int .i64 N, .slice a l.length cap, .slice ba bs.length bc, .slice ca C.length cc, .int .i64 lv, .int .i64 ce] 118) (.cells #[.int .i64 ml, .int .i64 mc, .int .i64 me, .slice da dn dc] 40)).2.2.1
 obtain⟨c0,c1,c2,c3,c4,c5⟩:=six_cells hg0
 obtain⟨d0,d1,d2,d3⟩:=fourU_cells hg1
 have HM:=hid (mayBe_any ml mc me da dn dc ia k ic ((w.alloc (.cells #[.int .i64 N, .slice a l.length cap, .slice ba bs.length bc, .slice ca C.length cc, .int .i64 lv, .int .i64 ce] 118)).alloc (.cells #[.int .i64 ml, .int .i64 mc, .int .i64 me, .slice da dn dc] 40)) hk)
 have hsz:((w.alloc (.cells #[.int .i64 N, .slice a l.length cap, .slice ba bs.length bc, .slice ca C.length cc, .int .i64 lv, .int .i64 ce] 118)).alloc (.cells #[.int .i64 ml, .int .i64 mc, .int .i64 me, .slice da dn dc] 40)).heap.size=w.heap.size+2:=by simp
 have HB0:=hid hb0
 clear hg0 hg1 hb0 hk
 unfold hsB
 obtain⟨E,HEP⟩:=named (mbB me dn k)
 rw[HEP.out] at HM
 rw[HEP.out]
 generalize hp:w.heap.size=p at*
 by_cases h1:ml=lv
 ·subst h1
  by_cases h2:mc=ce
  ·subst h2
   rw[decide_eq_true rfl,decide_eq_true rfl]
   go_enter Tryz.func135,Tryz.ntmps135
   go_wp2_with fail
   refine HM.out.mono ?_
   rintro e w2 ⟨rfl,hb2⟩
   have HB2:Hid (Below p w w2):=HB0.out.trans (hb2.mono (by omega))
   go_wp2_with fail
   go_ret
   exact⟨rfl,HB2.out⟩
  ·have e2:((mc:Int)==ce)=false:=by simpa using h2
   rw[decide_eq_false h2]
   go_enter Tryz.func135,Tryz.ntmps135
   go_wp2_with fail
   go_ret
   exact⟨by simp,HB0.out⟩
 ·have e1:((ml:Int)==lv)=false:=by simpa using h1
  rw[decide_eq_false h1]
  go_enter Tryz.func135,Tryz.ntmps135
  go_wp2_with fail
  go_ret
  exact⟨by simp,HB0.out⟩
end Go.Proofs.YtaafkpojjdjphaaGreat
