import Derived.Test.YtmenajiceaicpaaGreatYND
import Derived.OpenShut
import Derived.ProofKit
open Go.Lib (hid)
set_option maxRecDepth 100000
namespace Go.Proofs.YtmenajiceaicpaaGreat
open Go.RowKit
set_option maxHeartbeats 800000 in
theorem rcheck_any(N:Int)(a:Option Addr)(l:List A)(cap:Nat)(w:World)(hl:l.length≤9223372036854775807)(hr:Arcs w a l):
  Calls Tryz.prog 32 #[.agg #[.int .i64 N, .slice a l.length cap]] w fun e w'=>e= .returned (.tuple #[.int .i64 (chkAt N l), .int .i64 (chkE N l)])∧Below w.heap.size w w':=by
 by_cases h1:N<1
 ·rw[(chk_range (l:=l) (Or.inl h1)).1,(chk_range (l:=l) (Or.inl h1)).2]
  go_enter Tryz.func32,Tryz.ntmps32
  go_wp2_with fail
  go_ret2
  exact⟨rfl,(Below.refl _ _).alloc (Nat.le_refl _) _⟩
 by_cases h2:1024<N
 ·rw[(chk_range (l:=l) (Or.inr h2)).1,(chk_range (l:=l) (Or.inr h2)).2]
  go_enter Tryz.func32,Tryz.ntmps32
  go_wp2_with fail
  go_ret2
  exact⟨rfl,(Below.refl _ _).alloc (Nat.le_refl _) _⟩
 have hN: ¬(N<1∨1024<N):=by omega
 by_cases h3:8192<l.length
 ·have h3':(8192:Int)<l.length:=by omega
  rw[(chk_long hN h3).1,(chk_long hN h3).2]
  clear hN
  go_enter Tryz.func32,Tryz.ntmps32
  go_wp2_with fail
  go_ret2
  exact⟨rfl,(Below.refl _ _).alloc (Nat.le_refl _) _⟩
 have h3': ¬(8192:Int)<l.length:=by omega
 have HN:=hid hN
 clear hN
 obtain⟨E,HE⟩:=named (chkE N l)
 obtain⟨T,HAT⟩:=named (chkAt N l)
 rw[HE.out,HAT.out]
 have hb0:Below w.heap.size w (w.alloc (.cells #[.int .i64 N, .slice a l.length cap] 24)):=(Below.refl _ _).alloc (Nat.le_refl _) _
 obtain⟨b,o,hab⟩:=hr.b.get
 go_enter Tryz.func32,Tryz.ntmps32
 go_wp2_with fail
 go_loopw [4] (fun i wr=> ∃k:Nat,k≤l.length∧i= .int .i64 k∧Hid ((l.take k).all (okA N)=true)∧wr.heap[w.heap.size]? =some (.cells #[.int .i64 N, .slice a l.length cap] 24)∧Below w.heap.size w wr) (fun i _=>l.length - (intOf i).toNat)
 case atStart=>exact⟨0,Nat.zero_le _,rfl,by show _=_;simp,heap_top w _,hb0⟩
 case round=>
  obtain⟨k,hk,rfl,hall,hg,hb⟩:=hrel
  obtain⟨⟨g0,g1⟩,gf0,gf1⟩:=two_cells hg
  have hsz:w.heap.size<wr.heap.size:=lt_of_block hg
  by_cases hlt:k<l.length
  ·obtain⟨rfl,hbl,hat⟩:=hab (by omega)
   obtain⟨c0,c1,c2⟩:=(hat k hlt).onB hbl hb
   have HT:=hid (fun(h:okA N (l.getD k A.zero)=true)=>all_take hlt hall.out h)
   have HF:=hid (fun(h:okA N (l.getD k A.zero)=false)=>chk_bad HN.out h3 (find_at hlt hall.out h))
   generalize l.getD k A.zero=x at*
   have b3:Below w.heap.size w (wr.alloc (.cells #[.int .i64 x.f, .int .i64 x.t, .int .u32 x.w] 58)):=hb.alloc (by omega) _
   have hg3:=(Below.heap_alloc wr (.cells #[.int .i64 x.f, .int .i64 x.t, .int .u32 x.w] 58) _ hsz).trans hg
   by_cases q1:0≤x.f
   ·by_cases q2:x.f<N
    ·by_cases q3:0≤x.t
     ·by_cases q4:x.t<N
      ·have hA:okA N x=true:=by simp[okA,okV,q1,q2,q3,q4]
       go_wp2_with fail
       exact⟨⟨k+1,by omega,by go_num,HT.out hA,hg3,b3⟩,by simp[intOf];omega⟩
      ·have hE:=HF.out (by simp[okA,okV,q4])
       rw[HE.out,HAT.out] at hE
       obtain⟨rfl,rfl⟩:=hE
       go_wp2_with fail
       go_ret2
       exact⟨rfl,b3⟩
     ·have hE:=HF.out (by simp[okA,okV,q3])
      rw[HE.out,HAT.out] at hE
      obtain⟨rfl,rfl⟩:=hE
      go_wp2_with fail
      go_ret2
      exact⟨rfl,b3⟩
    ·have hE:=HF.out (by simp[okA,okV,q2])
     rw[HE.out,HAT.out] at hE
     obtain⟨rfl,rfl⟩:=hE
     go_wp2_with fail
     go_ret2
     exact⟨rfl,b3⟩
   ·have hE:=HF.out (by simp[okA,okV,q1])
    rw[HE.out,HAT.out] at hE
    obtain⟨rfl,rfl⟩:=hE
    go_wp2_with fail
    go_ret2
    exact⟨rfl,b3⟩
  ·have hE:=chk_ok HN.out h3 (by have:=hall.out;rw[List.take_of_length_le (by omega)] at this;exact this)
   rw[HE.out,HAT.out] at hE
   obtain⟨rfl,rfl⟩:=hE
   go_wp2_with fail
   go_ret2
   exact⟨rfl,hb⟩
def lgB(N:Int)(l:List A):Bool:=decide (chkE N l=0)&&(decide (40<N)||decide (200<l.length))
theorem large_any(N:Int)(a:Option Addr)(l:List A)(cap:Nat)(w:World)(hl:l.length≤9223372036854775807)(hr:Arcs w a l):
  Calls Tryz.prog 8 #[.agg #[.int .i64 N, .slice a l.length cap]] w fun e w'=>e= .returned (.bool (lgB N l))∧Below w.heap.size w w':=by
 have hb0:Below w.heap.size w (w.alloc (.cells #[.int .i64 N, .slice a l.length cap] 24)):=(Below.refl _ _).alloc (Nat.le_refl _) _
 have hg:=heap_top w (.cells #[.int .i64 N, .slice a l.length cap] 24)
 have HCH:=hid (rcheck_any N a l cap (w.alloc (.cells #[.int .i64 N, .slice a l.length cap] 24)) hl (hr.on hb0))
 have HB0:=hid hb0
 have HG:=hid hg
 obtain⟨⟨c0,c1⟩,_⟩:=two_cells hg
 obtain⟨V,HV⟩:=named (lgB N l)
 rw[HV.out]
 have HVV:Hid (V=(decide (chkE N l=0)&&(decide (40<N)||decide (200<l.length)))):=HV.out.symm
 obtain⟨E,HE⟩:=named (chkE N l)
 obtain⟨AT,HAT⟩:=named (chkAt N l)
 rw[HE.out] at HVV HCH
 rw[HAT.out] at HCH
 have hwz:w.heap.size≤(w.alloc (.cells #[.int .i64 N, .slice a l.length cap] 24)).heap.size:=hb0.size
 have hpW:w.heap.size<(w.alloc (.cells #[.int .i64 N, .slice a l.length cap] 24)).heap.size:=by simp
 clear hg hr hb0
 generalize hp:w.heap.size=p at*
 go_enter Tryz.func8,Tryz.ntmps8
 go_wp2_with fail
 generalize hW:w.alloc (.cells #[.int .i64 N, .slice a l.length cap] 24)=W at*
 clear hW
 refine HCH.out.mono ?_
 rintro e w1 ⟨rfl,hb1⟩
 have HB1:Hid (Below p w w1):=HB0.out.trans (hb1.mono hwz)
 obtain⟨⟨d0,d1⟩,_⟩:=two_cells ((hb1.block p hpW).trans HG.out)
 clear hb1 HCH c0 c1 HG HB0
 by_cases hE:E=0
 ·subst hE
  by_cases h1:40<N
  ·obtain rfl:V=true:=by rw[HVV.out];simp[h1]
   go_wp2_with fail
   go_ret
   exact⟨rfl,HB1.out⟩
  ·by_cases h2:200<l.length
   ·obtain rfl:V=true:=by rw[HVV.out];simp[h2]
    have h2':(200:Int)<l.length:=by omega
    go_wp2_with fail
    go_ret
    exact⟨rfl,HB1.out⟩
   ·obtain rfl:V=false:=by rw[HVV.out];simp[h1];omega
    have h2': ¬(200:Int)<l.length:=by omega
    go_wp2_with fail
    go_ret
    refine⟨?_,HB1.out⟩
    show Ending.returned (Value.bool (decide (40<N)||decide (200<(l.length:Int))))=_
    rw[decide_eq_false (show ¬40<N by omega),decide_eq_false (show ¬(200:Int)<(l.length:Int) by omega)]
    rfl
 ·obtain rfl:V=false:=by rw[HVV.out];simp[hE]
  have hE':(E==0)=false:=by simpa using hE
  clear hE
  go_wp2_with fail
  go_ret
  exact⟨rfl,HB1.out⟩
set_option maxHeartbeats 1600000 in
theorem ncheck_any(N:Int)(a:Option Addr)(l:List A)(cap:Nat)(ba:Option Addr)(bs:List Int)(bc:Nat)(ca:Option Addr)(C:List Cl)(cc:Nat)(w:World)(hl:l.length≤9223372036854775807)(hbl:bs.length≤9223372036854775807)(hr:Arcs w a l)(hi:Ints w ba bs)(hR:Rws w ca C):
  Calls Tryz.prog 12 #[.agg #[.int .i64 N, .slice a l.length cap], .agg #[.slice ba bs.length bc, .slice ca C.length cc]] w fun e w'=>e= .returned (.tuple #[.int .i64 (nsW N l bs (csl C):Nat), .int .i64 (nsE N l bs (csl C))])∧Below w.heap.size w w':=by
 have hb0:Below w.heap.size w ((w.alloc (.cells #[.int .i64 N, .slice a l.length cap] 24)).alloc (.cells #[.slice ba bs.length bc, .slice ca C.length cc] 28)):=(top2 w _ _).2.2.1
 have hg0:=(top2 w (.cells #[.int .i64 N, .slice a l.length cap] 24) (.cells #[.slice ba bs.length bc, .slice ca C.length cc] 28)).1
 have hg1:=(top2 w (.cells #[.int .i64 N, .slice a l.length cap] 24) (.cells #[.slice ba bs.length bc, .slice ca C.length cc] 28)).2.1
 have hsz:=(top2 w (.cells #[.int .i64 N, .slice a l.length cap] 24) (.cells #[.slice ba bs.length bc, .slice ca C.length cc] 28)).2.2.2
 obtain⟨⟨a0,a1⟩,_⟩:=two_cells hg0
 obtain⟨⟨a2,a3⟩,_⟩:=two_cells hg1
 have HB0:=hid hb0
 have HLK:=hid (look_any N a l cap ba bs bc ca C cc _ hl hbl (hr.on hb0) (hi.on hb0) (hR.on hb0))
 clear hr hi hR hb0
 generalize hp:w.heap.size=p at*
 by_cases h1:nsE N l bs (csl C)=0
 ·have HL:=hid (HLK.out.mono (fun e w' h=>(⟨h.1 h1,h.2.2⟩:(∃g,(∃c,e= .returned (.tuple #[.slice (some ⟨g,0,none⟩) bs.length c, .int .i64 0, .int .i64 0]))∧Hid (LvR w' g C bs))∧_)))
  rw[nsW_zero h1,h1]
  clear HLK h1
  go_enter Tryz.func12,Tryz.ntmps12
  go_wp2_with fail
  generalize hW:(w.alloc (.cells #[.int .i64 N, .slice a l.length cap] 24)).alloc (.cells #[.slice ba bs.length bc, .slice ca C.length cc] 28)=W at*
  clear hW
  refine HL.out.mono ?_
  rintro e w1 ⟨⟨g,⟨c,rfl⟩,HLR⟩,hb1⟩
  have HB1:Hid (Below p w w1):=HB0.out.trans (hb1.mono (by omega))
  clear a0 a1 a2 a3 hb1 HL hg0 hg1 HB0
  go_wp2_with fail
  go_ret2
  exact⟨rfl,HB1.out⟩
 ·have HL:=hid (HLK.out.mono (fun e w' h=>(⟨h.2.1 h1,h.2.2⟩:e= .returned (.tuple #[.slice none 0 0, .int .i64 (nsW N l bs (csl C):Nat), .int .i64 (nsE N l bs (csl C))])∧_)))
  clear HLK h1
  generalize nsW N l bs (csl C)=nw at*
  generalize nsE N l bs (csl C)=ne at*
  go_enter Tryz.func12,Tryz.ntmps12
  go_wp2_with fail
  generalize hW:(w.alloc (.cells #[.int .i64 N, .slice a l.length cap] 24)).alloc (.cells #[.slice ba bs.length bc, .slice ca C.length cc] 28)=W at*
  clear hW
  refine HL.out.mono ?_
  rintro e w1 ⟨rfl,hb1⟩
  have HB1:Hid (Below p w w1):=HB0.out.trans (hb1.mono (by omega))
  clear a0 a1 a2 a3 hb1 HL hg0 hg1 HB0
  go_wp2_with fail
  go_ret2
  exact⟨rfl,HB1.out⟩
end Go.Proofs.YtmenajiceaicpaaGreat
namespace Go.Proofs.YtmenajiceaicpaaGreat
open Go.RowKit
open Go.Deep (open_slice choose_lt)
theorem cells24:Tryz.prog.cellsOf 24=2:=by kernel_rfl
theorem cellsI3:Tryz.prog.cellsOf 3=1:=by kernel_rfl
theorem cells22:Tryz.prog.cellsOf 22=1:=by kernel_rfl
theorem cells47:Tryz.prog.cellsOf 56=1:=by kernel_rfl
theorem cells49:Tryz.prog.cellsOf 58=3:=by kernel_rfl
theorem bytes49:Tryz.prog.bytesOf 58=24:=by kernel_rfl
def GivenG(W:World)(v:Value)(N:Int)(a:Option Addr)(cap:Nat)(l:List A):Prop:=
 v= .agg #[.int .i64 N, .slice a l.length cap]∧Arcs W a l∧(a=none→l= []∧cap=0)∧l.length*24≤140737488351232∧∀x∈l,0≤x.w∧x.w<4294967296
section
variable {H:Type} {enc:TypeId × Value→H} {W:World} {spare:Nat→Bool} {held:Bool}
theorem trod_arc{fuel:Nat}{cs:List Value}{x:DataW H × List MemPlace}(h:DataW.trod enc Tryz.prog W 0 spare held fuel 58 cs=some x):
  ∃y:A,cs=[.int .i64 y.f, .int .i64 y.t, .int .u32 y.w]∧0≤y.w∧y.w<4294967296:=by
 obtain⟨xs,n,_,rfl,hl,hlen,hf⟩:=DataW.trod_struct Tryz.underlying58 h
 rw[cells49] at hl
 match cs,hl with
 | [c0,c1,c2],_=>
   match xs,hlen with
   | [y0,y1,y2],_=>
     have f0:=hf 0 _ rfl
     have f1:=hf 1 _ rfl
     have f2:=hf 2 _ rfl
     simp[cellsI3,cells47] at f0 f1 f2
     obtain⟨k,e0,_⟩:=DataW.trod_int Tryz.underlying3 f0
     obtain⟨u,e1,_⟩:=DataW.trod_int Tryz.underlying3 f1
     obtain⟨s,e2,_,hwf⟩:=DataW.trod_int Tryz.underlying56 f2
     simp at e0 e1 e2
     subst e0 e1 e2
     have h1:IntKind.u32.min≤s∧s≤IntKind.u32.max:=by simpa[Lit.wf] using hwf
     have m1:IntKind.u32.min=0:=by decide
     have m2:IntKind.u32.max=4294967295:=by decide
     exact⟨⟨k,u,s⟩,rfl,by show 0≤s;omega,by show s<_;omega⟩
theorem trod_graph{fuel:Nat}{cs:List Value}{x:DataW H × List MemPlace}(h:DataW.trod enc Tryz.prog W 0 spare held fuel 24 cs=some x):
  ∃ (N:Int) (v:Value) (y:DataW H × List MemPlace) (m:Nat),cs=[.int .i64 N,v]∧x.1= .agg [.lit (.int .i64 N),y.1]∧DataW.trod enc Tryz.prog W 0 spare held m 22 [v]=some y:=by
 obtain⟨xs,n,_,rfl,hl,hlen,hf⟩:=DataW.trod_struct Tryz.underlying24 h
 rw[cells24] at hl
 match cs,hl with
 | [c0,c1],_=>
   match xs,hlen with
   | [y0,y1],_=>
     have f0:=hf 0 _ rfl
     have f1:=hf 1 _ rfl
     simp[cellsI3,cells22] at f0 f1
     obtain⟨k,e0,g0,_⟩:=DataW.trod_int Tryz.underlying3 f0
     simp at e0
     subst e0 g0
     exact⟨k,c1,y1,n,rfl,rfl,f1⟩
theorem agg_weights(k:Int)(d:DataW H):(DataW.agg [.lit (.int .i64 k),d]).weights Tryz.prog 24=d.weights Tryz.prog 22++ []:=by
 rw[DataW.weights.eq_def]
 simp only[Tryz.underlying24]
 rfl
theorem arcs_in{fuel:Nat}{v:Value}{y:DataW H × List MemPlace}(hy:DataW.trod enc Tryz.prog W 0 spare held fuel 22 [v]=some y)(hw: ∀q∈y.1.weights Tryz.prog 22,q≤reachBytes):
  ∃a cap l,v= .slice a l.length cap∧Arcs W a l∧(a=none→l= []∧cap=0)∧l.length*24≤140737488351232∧∀x∈l,0≤x.w∧x.w<4294967296:=by
 rcases open_slice Tryz.underlying22 hy with ⟨hv,_⟩ | ⟨a,len,cap,mm,nn,D,Pl,hv,hba,hlc,hcm,hmm,hyx,hel⟩
 ·simp at hv
  subst hv
  exact⟨none,0,[],rfl,Or.inl rfl,fun _=>⟨rfl,rfl⟩,by simp,by simp⟩
 ·simp at hv
  subst hv
  have hlm:len≤mm:=by rw[hmm];split <;> omega
  rw[cells49] at hel
  rw[hyx] at hw
  rw[DataW.weights.eq_def] at hw
  simp only[Tryz.underlying22] at hw
  have hlen:len*24≤140737488351232:=by
   have:=hw _ List.mem_cons_self
   rw[bytes49] at this
   simp only[List.length_map,List.length_range,reachBytes] at this
   omega
  obtain⟨V,hV⟩:=choose_lt (α:=A) (n:=len) (p:=fun i t=>W.cells? 0 (a.add (i*3)) 3=some [.int .i64 t.f, .int .i64 t.t, .int .u32 t.w]∧0≤t.w∧t.w<4294967296) (fun i hi=>by
   obtain⟨cs',hc,ht⟩:=hel i (by omega)
   obtain⟨t,rfl,ht2⟩:=trod_arc ht
   exact⟨t,hc,ht2⟩)
  refine⟨some a,cap,(List.range len).map V,by simp,?_,(fun h=>by cases h),by simpa using hlen,fun x hx=> ?_⟩
  rotate_left
  ·obtain⟨i,hi,rfl⟩:=List.mem_map.1 hx
   exact(hV i (by simpa using hi)).2
  by_cases h0:0<len
  ·obtain⟨b,off,spot⟩:=a
   have hc0:=(World.cells?_some (hV 0 h0).1).2.2 0 (by decide)
   have hspot:spot=none:=by
    have e:W.cell? ((((⟨b,off,spot⟩:Addr).add (0*3))).add 0)=some (.int .i64 (V 0).f):=hc0
    simpa[Addr.add] using World.cell?_spot e
   subst hspot
   have hat: ∀j,j<len→(V j).at W b (off+j*3):=by
    intro j hj
    have hcj:=(World.cells?_some (hV j hj).1).2.2
    have e0:=hcj 0 (by decide)
    have e1:=hcj 1 (by decide)
    have e2:=hcj 2 (by decide)
    rw[Go.WideShapes.add_plain,Go.WideShapes.add_plain] at e0 e1 e2
    exact⟨e0,e1,e2⟩
   refine Or.inr ⟨b,off,rfl,World.block_lt_of_cell? W _ (hat 0 h0).1,fun j hj=> ?_⟩
   have hj':j<len:=by simpa using hj
   have e:((List.range len).map V).getD j A.zero=V j:=by simp[List.getD,hj']
   rw[e]
   exact hat j hj'
  ·have:len=0:=by omega
   subst this
   exact Or.inl rfl
theorem graph_in{ts:List TypeId}{ds:List (DataW H)}{j:Nat}{v:Value}{d:DataW H}{p:List MemPlace}{base:Nat}(hval:Value.okWide Tryz.prog W .any base 24 v)(hd:DataW.Trod enc Tryz.prog W 0 spare held 24 v d p)
  (hsz:(DataW.weightsEach Tryz.prog ts ds).all (· ≤reachBytes)=true) (ht:ts[j]? =some 24) (hj:ds[j]? =some d): ∃N a cap l,GivenG W v N a cap l:=by
 obtain⟨cs,rfl,_⟩:=Go.WideShapes.okWide_struct Tryz.underlying24 hval
 obtain⟨fuel,hf⟩:=hd
 obtain⟨N,v,y,m,hcs,hx,hy⟩:=trod_graph hf
 have hx':d= .agg [.lit (.int .i64 N),y.1]:=hx
 have hw: ∀q∈y.1.weights Tryz.prog 22,q≤reachBytes:=fun q hq=>by
  have:=List.all_eq_true.1 hsz _ (DataW.weights_mem_each ht hj q (by rw[hx',agg_weights,List.append_nil];exact hq))
  simpa using this
 obtain⟨a,cap,l,rfl,h1,h2,h3,h4⟩:=arcs_in hy hw
 refine⟨N,a,cap,l,?_,h1,h2,h3,h4⟩
 have:cs.toList=[.int .i64 N, .slice a l.length cap]:=hcs
 rw[←Array.toArray_toList (xs:=cs),this]
end
theorem bytesInt:Tryz.prog.bytesOf 3=8:=by kernel_rfl
section
variable {H:Type} {enc:TypeId × Value→H} {W:World} {spare:Nat→Bool} {held:Bool}
end
instance :Inhabited Cl:=⟨Cl.zero⟩
theorem cells48:Tryz.prog.cellsOf 48=3:=by kernel_rfl
theorem cells25:Tryz.prog.cellsOf 25=1:=by kernel_rfl
section
variable {H:Type} {enc:TypeId × Value→H} {W:World} {spare:Nat→Bool} {held:Bool}
theorem ints_in{fuel:Nat}{v:Value}{y:DataW H × List MemPlace}(hy:DataW.trod enc Tryz.prog W 0 spare held fuel 25 [v]=some y):
  ∃a cap xs,v= .slice a xs.length cap∧Ints W a xs∧(a=none→xs= []∧cap=0)∧xs.length≤cap∧cap≤9223372036854775807∧((∀q∈y.1.weights Tryz.prog 25,q≤reachBytes)→xs.length*8≤140737488351232):=by
 rcases open_slice Tryz.underlying25 hy with ⟨hv,_⟩ | ⟨a,len,cap,mm,nn,D,Pl,hv,hba,hlc,hcm,hmm,hyx,hel⟩
 ·simp at hv
  subst hv
  exact⟨none,0,[],rfl,Or.inl rfl,fun _=>⟨rfl,rfl⟩,Nat.le_refl _,by omega,fun _=>by simp⟩
 ·simp at hv
  subst hv
  have hlm:len≤mm:=by rw[hmm];split <;> omega
  rw[cellsI3] at hel
  obtain⟨V,hV⟩:=choose_lt (α:=Int) (n:=len) (p:=fun i t=>W.cells? 0 (a.add (i*1)) 1=some [.int .i64 t]) (fun i hi=>by
   obtain⟨cs',hc,ht'⟩:=hel i (by omega)
   obtain⟨t,e,_⟩:=DataW.trod_int Tryz.underlying3 ht'
   subst e
   exact⟨t,hc⟩)
  refine⟨some a,cap,(List.range len).map V,by simp,?_,(fun h=>by cases h),by simpa using hlc,hcm,fun hw=> ?_⟩
  ·by_cases h0:0<len
   ·obtain⟨b,off,spot⟩:=a
    have hc0:=(World.cells?_some (hV 0 h0)).2.2 0 (by decide)
    have hspot:spot=none:=by
     have e:W.cell? ((((⟨b,off,spot⟩:Addr).add (0*1))).add 0)=some (.int .i64 (V 0)):=hc0
     simpa[Addr.add] using World.cell?_spot e
    subst hspot
    have hat: ∀j,j<len→W.cell? ⟨b,off+j,none⟩=some (.int .i64 (V j)):=by
     intro j hj
     have e0:=(World.cells?_some (hV j hj)).2.2 0 (by decide)
     rw[Go.WideShapes.add_plain,Go.WideShapes.add_plain] at e0
     simpa using e0
    refine Or.inr ⟨b,off,rfl,World.block_lt_of_cell? W _ (hat 0 h0),fun j hj=> ?_⟩
    have hj':j<len:=by simpa using hj
    have e:((List.range len).map V).getD j 0=V j:=by simp[List.getD,hj']
    rw[e]
    exact hat j hj'
   ·have:len=0:=by omega
    subst this
    exact Or.inl rfl
  ·rw[hyx] at hw
   rw[DataW.weights.eq_def] at hw
   simp only[Tryz.underlying25] at hw
   have:=hw _ List.mem_cons_self
   rw[bytesInt] at this
   simp only[List.length_map,List.length_range,reachBytes] at this ⊢
   omega
def GivenP(W:World)(v:Value)(ba:Option Addr)(bs:List Int)(bc:Nat)(ca:Option Addr)(cs:List Int)(cc:Nat)(mo:Int):Prop:=
 v= .agg #[.slice ba bs.length bc, .slice ca cs.length cc, .int .i64 mo]∧Ints W ba bs∧Ints W ca cs∧(ba=none→bs= []∧bc=0)∧(ca=none→cs= []∧cc=0)∧bs.length≤bc∧bc≤9223372036854775807∧bs.length*8≤140737488351232∧cs.length*8≤140737488351232
theorem plan_weights(d e f:DataW H):(DataW.agg [d,e,f]).weights Tryz.prog 48=d.weights Tryz.prog 25++(e.weights Tryz.prog 25++(f.weights Tryz.prog 3++ [])):=by
 rw[DataW.weights.eq_def]
 simp only[Tryz.underlying48]
 rfl
theorem plan_in{ts:List TypeId}{ds:List (DataW H)}{j:Nat}{v:Value}{d:DataW H}{p:List MemPlace}{base:Nat}(hval:Value.okWide Tryz.prog W .any base 48 v)(hd:DataW.Trod enc Tryz.prog W 0 spare held 48 v d p)
  (hsz:(DataW.weightsEach Tryz.prog ts ds).all (· ≤reachBytes)=true) (ht:ts[j]? =some 48) (hj:ds[j]? =some d): ∃ba bs bc ca cs cc mo,GivenP W v ba bs bc ca cs cc mo:=by
 obtain⟨vs,rfl,_⟩:=Go.WideShapes.okWide_struct Tryz.underlying48 hval
 obtain⟨fuel,hf⟩:=hd
 obtain⟨xs,n,_,hx,hl,hlen,hff⟩:=DataW.trod_struct Tryz.underlying48 hf
 rw[cells48] at hl
 have hl':vs.toList.length=3:=hl
 match hvs:vs.toList,hl' with
 | [c0,c1,c2],_=>
   match xs,hlen with
   | [y0,y1,y2],_=>
     have f0:=hff 0 _ rfl
     have f1:=hff 1 _ rfl
     have f2:=hff 2 _ rfl
     have hvc:(Value.agg vs).cells.toList=[c0,c1,c2]:=hvs
     rw[hvc] at f0 f1 f2
     simp[cellsI3,cells25] at f0 f1 f2
     obtain⟨mo,e2,_⟩:=DataW.trod_int Tryz.underlying3 f2
     simp at e2
     subst e2
     obtain⟨ba,bc,bs,rfl,b1,b2,b3,b4,b5⟩:=ints_in f0
     obtain⟨ca,cc,cs,rfl,k1,k2,k3,k4,k5⟩:=ints_in f1
     have hx':d= .agg [y0.1,y1.1,y2.1]:=(Prod.mk.inj hx).1
     have hw: ∀q∈d.weights Tryz.prog 48,q≤reachBytes:=fun q hq=>by
      have:=List.all_eq_true.1 hsz _ (DataW.weights_mem_each ht hj q hq)
      simpa using this
     rw[hx',plan_weights] at hw
     refine⟨ba,bs,bc,ca,cs,cc,mo,?_,b1,k1,b2,k2,b3,b4,b5 (fun q hq=>hw q (List.mem_append_left _ hq)),k5 (fun q hq=>hw q (List.mem_append_right _ (List.mem_append_left _ hq)))⟩
     rw[←Array.toArray_toList (xs:=vs),hvs]
end
end Go.Proofs.YtmenajiceaicpaaGreat
