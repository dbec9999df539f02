import Derived.Test.YtaafkpojjdjphaaGreatYAM
set_option maxRecDepth 100000
namespace Go.Proofs.YtaafkpojjdjphaaGreat
open Go.RowKit
def wtL(l:List A)(ids:List Int):List Int:=ids.map (fun i=>(l.getD i.toNat A.zero).w)
theorem wtL_len(l:List A)(ids:List Int):(wtL l ids).length=ids.length:=by simp[wtL]
theorem wtL_at{l:List A}{ids:List Int}{k:Nat}(h:k<ids.length):(wtL l ids).getD k 0=(l.getD (ids.getD k 0).toNat A.zero).w:=by simp[wtL,List.getD,h]
def wqE(N:Int)(l:List A)(ids:List Int):Int:=if chkE N l≠0 then chkE N l else if 16384<ids.length then 2 else if ids.all (fun i=>decide (0≤i∧i<(l.length:Int))) then 0 else 5
def wtV(l:List A)(ids:List Int)(k i:Nat):Value:=if i<k then .int .u32 ((wtL l ids).getD i 0) else .int .u32 0
theorem wtV_step(l:List A)(ids:List Int)(k i:Nat)(x:Int)(hx:(wtL l ids).getD k 0=x):updV (wtV l ids k) k (.int .u32 x) i=wtV l ids (k+1) i:=by
 unfold updV wtV
 by_cases h:i=k
 ·subst h;rw[if_pos rfl,if_pos (by omega),hx]
 ·rw[if_neg h]
  by_cases h2:i<k
  ·rw[if_pos h2,if_pos (by omega)]
  ·rw[if_neg h2,if_neg (by omega)]
theorem info54:(Tryz.prog.info? 82).map (fun i=>(i.zero,i.size,i.bytes))=some (some (.int .u32 0),1,4):=by kernel_rfl
theorem made_w(l:List A)(ids:List Int)(n:Nat):madeCells (Value.int .u32 0).cells (n*1)=((List.range n).map (wtV l ids 0)).toArray:=by
 apply Array.ext'
 show(madeCells #[Value.int .u32 0] (n*1)).toList=_
 rw[toList_madeCells_one,Nat.mul_one]
 apply List.ext_getElem
 ·simp
 ·intro i h1 h2
  simp[wtV]
theorem wt_wts{w:World}{g:Nat}{l:List A}{ids:List Int}(h:TbV w g ids.length 82 (wtV l ids ids.length)):Wts w (some ⟨g,0,none⟩) (wtL l ids):=by
 refine Or.inr ⟨g,0,rfl,h.lt,fun j hj=> ?_⟩
 rw[wtL_len] at hj
 rw[Nat.zero_add,h.cell hj]
 unfold wtV
 rw[if_pos hj]
theorem near00(N:Int)(l:List A):N5.nearE N (l.map toN) [0,0]=chkE N l:=by
 unfold N5.nearE
 rw[chkE_N]
 by_cases h:chkE N l=0
 ·have h1:=(chk_zero h).1
  rw[if_pos h,h,if_pos]
  simp[N5.okV]
  omega
 ·rw[if_neg h]
set_option maxHeartbeats 3200000 in
theorem length0_any(N:Int)(a:Option Addr)(l:List A)(cap:Nat)(w:World)(hl:l.length≤9223372036854775807)(hr:Arcs w a l):
  Calls Tryz.prog 87 #[.agg #[.int .i64 N, .slice a l.length cap], .int .i64 0, .int .i64 0, .slice none 0 0] w fun e w'=>e= .returned (.tuple #[.int .u64 0, .int .i64 (chkE N l)])∧Below w.heap.size w w':=by
 obtain⟨hg0,hg1,hb0,hsz⟩:=top2 w (.cells #[.int .i64 N, .slice a l.length cap] 24) (.cells #[.int .i64 0, .int .i64 0] 3)
 obtain⟨⟨a0,a1⟩,_⟩:=two_cells ((top2 w (.cells #[.int .i64 N, .slice a l.length cap] 24) (.cells #[.int .i64 0, .int .i64 0] 3)).1)
 have hx:N5.Ints ((w.alloc (.cells #[.int .i64 N, .slice a l.length cap] 24)).alloc (.cells #[.int .i64 0, .int .i64 0] 3)) (some ⟨w.heap.size+1,0,none⟩) [0,0]:=by
  refine Or.inr ⟨w.heap.size+1,0,rfl,by rw[hsz];omega,fun j hj=> ?_⟩
  obtain⟨⟨b0,b1⟩,_⟩:=two_cells hg1
  match j,hj with
  | 0,_=>exact b0
  | 1,_=>exact b1
 have HCK:=Lib.hid (N5.ncheck_any N a (l.map toN) cap (some ⟨w.heap.size+1,0,none⟩) [0,0] 2 _ (by rw[List.length_map];exact hl) (by decide) (arcs_N (hr.on hb0)) hx)
 rw[near00,List.length_map] at HCK
 have HB0:=Lib.hid hb0
 obtain⟨E,HE⟩:=named (chkE N l)
 rw[HE.out] at HCK
 rw[HE.out]
 have c0:=(two_cells (heap_top w (.cells #[.int .i64 N, .slice a l.length cap] 24))).1.1
 have c1:=(two_cells (heap_top w (.cells #[.int .i64 N, .slice a l.length cap] 24))).1.2
 clear hr hx hg0 hg1 hb0
 generalize hp:w.heap.size=p at*
 have HCK2:Hid (Calls Tryz.prog 123 #[.agg #[.int .i64 N, .slice a l.length cap], .slice (some ⟨p+1,0,none⟩) 2 2] ((w.alloc (.cells #[.int .i64 N, .slice a l.length cap] 24)).alloc (.cells #[.int .i64 0, .int .i64 0] 3)) fun e w'=>e= .returned (.int .i64 E)∧Below p w w'):=HCK.out.mono (fun e w' h=>⟨h.1,HB0.out.trans (h.2.mono (by omega))⟩)
 clear HCK HB0
 go_enter Tryz.func87,Tryz.ntmps87
 go_wp2_with fail
 refine HCK2.out.mono ?_
 rintro e w2 ⟨rfl,hb2⟩
 have HB2:=Lib.hid hb2
 clear hb2 HCK2 a0 a1 c0 c1
 by_cases h:E=0
 ·subst h
  go_wp2_with fail
  go_loop [31] (fun i=>i= .int .i64 0) (fun _=>0)
  case atStart=>rfl
  case round=>
   subst hrel
   go_wp2_with fail
   go_loop [13,14,48] (fun x y i=>x= .int .i64 0∧y= .int .u64 0∧i= .int .i64 0) (fun _ _ _=>0)
   case atStart=>exact⟨rfl,rfl,rfl⟩
   case round=>
    obtain⟨rfl,rfl,rfl⟩:=hrel
    go_wp2_with fail
    go_ret2
    exact⟨rfl,HB2.out⟩
 ·have e1:(E != 0)=true:=by simpa using h
  go_wp2_with fail
  go_ret2
  exact⟨rfl,HB2.out⟩
set_option maxHeartbeats 3200000 in
theorem weights_any(N:Int)(a:Option Addr)(l:List A)(cap:Nat)(d:Option Addr)(ids:List Int)(dc:Nat)(w:World)(hl:l.length≤9223372036854775807)(hdl:ids.length≤9223372036854775807)(hr:Arcs w a l)(hj:Ints w d ids):
  Calls Tryz.prog 32 #[.agg #[.int .i64 N, .slice a l.length cap], .slice d ids.length dc] w fun e w'=>(wqE N l ids=0→∃g,e= .returned (.tuple #[.slice (some ⟨g,0,none⟩) ids.length ids.length, .int .i64 0])∧w.heap.size≤g∧Wts w' (some ⟨g,0,none⟩) (wtL l ids))∧(wqE N l ids≠0→e= .returned (.tuple #[.slice none 0 0, .int .i64 (wqE N l ids)]))∧Below w.heap.size w w':=by
 have hg:=heap_top w (.cells #[.int .i64 N, .slice a l.length cap] 24)
 have hb0:Below w.heap.size w (w.alloc (.cells #[.int .i64 N, .slice a l.length cap] 24)):=(Below.refl _ _).alloc (Nat.le_refl _) _
 have hsz:(w.alloc (.cells #[.int .i64 N, .slice a l.length cap] 24)).heap.size=w.heap.size+1:=by simp
 obtain⟨⟨a0,a1⟩,_⟩:=two_cells hg
 have HLN:=Lib.hid (length0_any N a l cap _ hl (hr.on hb0))
 have HB0:=Lib.hid hb0
 have HG0:=Lib.hid hg
 have HRA:=Lib.hid hr
 have HJ:=Lib.hid hj
 have HST:Hid (wqE N l ids=if chkE N l≠0 then chkE N l else if 16384<ids.length then 2 else if ids.all (fun i=>decide (0≤i∧i<(l.length:Int))) then 0 else 5):=rfl
 obtain⟨E,HE⟩:=named (chkE N l)
 rw[HE.out] at HLN HST
 obtain⟨S,HSS⟩:=named (wqE N l ids)
 rw[HSS.out] at HST
 rw[HSS.out]
 clear hr hj hb0 hg HSS
 generalize hp:w.heap.size=p at*
 go_enter Tryz.func32,Tryz.ntmps32
 go_wp2_with fail
 generalize hW:w.alloc (.cells #[.int .i64 N, .slice a l.length cap] 24)=W at*
 clear hW
 refine HLN.out.mono ?_
 rintro e w1 ⟨rfl,hb1⟩
 have HB1:Hid (Below p w w1):=HB0.out.trans (hb1.mono (by omega))
 have HG1:Hid (w1.heap[p]? =some (.cells #[.int .i64 N, .slice a l.length cap] 24)):=(hb1.block p (by omega)).trans HG0.out
 have hw1:p+1≤w1.heap.size:=by have:=hb1.size;omega
 clear a0 a1 hb1 HLN HB0 HG0
 have HBW:=HB1
 by_cases hE:E=0
 ·subst hE
  have HST:Hid (S=if 16384<ids.length then 2 else if ids.all (fun i=>decide (0≤i∧i<(l.length:Int))) then 0 else 5):=by
   show _=_
   rw[HST.out,if_neg (by simp)]
  by_cases h16:16384<ids.length
  ·have h16':(16384:Int)<ids.length:=by omega
   obtain rfl:S=2:=by rw[HST.out,if_pos h16]
   go_wp2_with fail
   go_ret2
   first | exact⟨rfl,HBW.out⟩ | exact⟨(fun h=>absurd h (by decide)),(fun _=>rfl),HBW.out⟩
  ·have h16': ¬(16384:Int)<ids.length:=by omega
   have HST:Hid (S=if ids.all (fun i=>decide (0≤i∧i<(l.length:Int))) then 0 else 5):=by
    show _=_
    rw[HST.out,if_neg h16]
   have hl8:l.length≤8192:=(chk_zero HE.out).2.2.1
   obtain⟨iz,oz,hiz⟩:=HJ.out.get
   have HIZ:=Lib.hid hiz
   obtain⟨ix,ox,hix⟩:=HRA.out.get
   have HIX:=Lib.hid hix
   clear hiz hix
   obtain⟨i54,hi54,hz54,hs54,hby54⟩:=info_parts info54
   obtain⟨m,HM⟩:=named ids.length
   rw[HM.out] at h16 h16' HIZ
   rw[HM.out]
   have hmk: ∀w,(Instr.makeSlice 29 (.int .i64 m) (.int .i64 m)).run Tryz.prog w= .ok (.slice (some ⟨w.heap.size,0,none⟩) m m) (w.alloc (.cells ((List.range m).map (wtV l ids 0)).toArray 82)):=fun w=>by
    have:=run_make (P:=Tryz.prog) w 29 82 i54 (.int .u32 0) Tryz.underlying29 hi54 hz54 .i64 .i64 m m (by omega) (by omega) (by rw[hby54];omega) (by omega)
    rw[hs54] at this
    rw[this,Int.toNat_natCast,made_w l ids]
   generalize hq:w1.heap.size=q at*
   have HT0:Hid (TbV (w1.alloc (.cells ((List.range m).map (wtV l ids 0)).toArray 82)) q m 82 (wtV l ids 0)):=by
    have h:=heap_top w1 (.cells ((List.range m).map (wtV l ids 0)).toArray 82)
    rw[hq] at h
    exact h
   have HBQ:Hid (Below q w1 (w1.alloc (.cells ((List.range m).map (wtV l ids 0)).toArray 82))):=(Below.refl _ _).alloc (by omega) _
   have HSTV:=Lib.hid (wtV_step l ids)
   have HFN:Hid (∀wr,TbV wr q m 82 (wtV l ids m)→Wts wr (some ⟨q,0,none⟩) (wtL l ids)):=fun wr h=>wt_wts (by rw[HM.out];exact h)
   go_wp2_with fail
   generalize w1.alloc (.cells ((List.range m).map (wtV l ids 0)).toArray 82)=w2 at*
   clear hmk
   go_loopw [27] (fun i wr=> ∃ (k:Nat),k≤m∧i= .int .i64 k∧Hid ((ids.take k).all (fun i=>decide (0≤i∧i<(l.length:Int)))=true)∧Hid (TbV wr q m 82 (wtV l ids k))∧Hid (Below q w1 wr)) (fun i _=>m - (intOf i).toNat)
   case atStart=>exact⟨0,Nat.zero_le _,rfl,by show _=_;simp,HT0,HBQ⟩
   case round=>
    clear HT0 HBQ
    obtain⟨k,hk,rfl,HK,HTR,HBR⟩:=hrel
    have HBW:Hid (Below p w wr):=HB1.out.trans (HBR.out.mono (by omega))
    obtain⟨⟨k0,k1⟩,_⟩:=two_cells ((HBR.out.block p (by omega)).trans HG1.out)
    by_cases hlk:k<m
    ·have hlk':(k:Int)<m:=by omega
     have hk0:(0:Int)≤k:=by omega
     have hlk2:k<ids.length:=by rw[HM.out];exact hlk
     obtain⟨rfl,hzl,hzat⟩:=HIZ.out (by omega)
     have s0:=(HBW.out.cell (p:=⟨iz,oz+k,none⟩) (hp▸hzl)).trans (hzat k hlk)
     have HT:=Lib.hid (all_take_I (p:=(fun i=>decide (0≤i∧i<(l.length:Int)))) hlk2 HK.out)
     have HF:=Lib.hid (all_not_I (p:=(fun i=>decide (0≤i∧i<(l.length:Int)))) hlk2)
     have HWA:=Lib.hid (wtL_at (l:=l) hlk2)
     generalize ids.getD k 0=x at*
     clear hzat hlk2
     by_cases h1:x<0
     ·obtain rfl:S=5:=by rw[HST.out,if_neg (by rw[HF.out (decide_eq_false (by omega))];simp)]
      go_wp2_with fail
      go_ret2
      first | exact⟨rfl,HBW.out⟩ | exact⟨(fun h=>absurd h (by decide)),(fun _=>rfl),HBW.out⟩
     ·by_cases h2:(l.length:Int)≤x
      ·obtain rfl:S=5:=by rw[HST.out,if_neg (by rw[HF.out (decide_eq_false (by omega))];simp)]
       go_wp2_with fail
       go_ret2
       first | exact⟨rfl,HBW.out⟩ | exact⟨(fun h=>absurd h (by decide)),(fun _=>rfl),HBW.out⟩
      ·have HK2:Hid ((ids.take (k+1)).all (fun i=>decide (0≤i∧i<(l.length:Int)))=true):=HT.out (decide_eq_true (by omega))
       obtain⟨i,rfl⟩: ∃i:Nat,x=i:=⟨x.toNat,by omega⟩
       rw[Int.toNat_natCast] at HWA
       obtain⟨rfl,hbl,hat⟩:=HIX.out (by omega)
       have x2:=(hat i (by omega)).2.2
       have y2:=(HBW.out.cell (p:=⟨ix,ox+i*3+2,none⟩) (hp▸hbl)).trans x2
       obtain⟨xw,HXW⟩:=named (l.getD i A.zero).w
       rw[HXW.out] at y2 HWA
       have q0:=HTR.out.free k
       have r0:=HTR.out.cell (v:=k) (by omega)
       have hi0:(0:Int)≤i:=by omega
       have hi1:(i:Int)<l.length:=by omega
       have HTN:Hid (TbV (wr.setCell ⟨q,k,none⟩ (.int .u32 xw)) q m 82 (wtV l ids (k+1))):=(HTR.out.set k (.int .u32 xw)).congr (fun c _=>HSTV.out k c xw HWA.out)
       have HBN:Hid (Below q w1 (wr.setCell ⟨q,k,none⟩ (.int .u32 xw))):=HBR.out.setCell (p:=⟨q,k,none⟩) (by simp) _
       clear x2 hat h1 h2
       go_wp2_with fail
       exact⟨⟨k+1,by omega,by simp,HK2,HTN,HBN⟩,by simp[intOf];omega⟩
    ·have hlk': ¬(k:Int)<m:=by omega
     obtain rfl:k=m:=by omega
     obtain rfl:S=0:=by
      have HAL:=HK.out
      rw[←HM.out,List.take_length] at HAL
      rw[HST.out,if_pos HAL]
     have HWR:=Lib.hid (HFN.out wr HTR.out)
     go_wp2_with fail
     go_ret2
     exact⟨⟨q,by rw[HM.out];rfl,by omega,HWR.out⟩,HBW.out⟩
 ·have e1:(E != 0)=true:=by simpa using hE
  obtain rfl:S=E:=by rw[HST.out,if_pos hE]
  go_wp2_with fail
  go_ret2
  exact⟨fun h=>absurd h hE,fun _=>rfl,HBW.out⟩
def wiL(l:List A)(ids:List Nat):List A:=wgL l ids (wtL l (ints ids))
def whE(N:Int)(l:List A)(bs:List Int)(cs:List (List Int))(lv ce ep:Int):Int:=if inE N l bs cs lv ce≠0 then inE N l bs cs lv ce else if epB ep=false then 1 else 0
theorem wq_ints{n:Nat}{l:List A}{ids:List Nat}(h:chkE n l=0)(hid: ∀i,i<ids.length→ids.getD i 0<l.length)(h8:ids.length≤8192):wqE n l (ints ids)=0:=by
 unfold wqE
 rw[if_neg (by rw[h];simp),if_neg (by rw[ints_len];omega),if_pos]
 rw[List.all_eq_true]
 intro x hx
 obtain⟨y,hy,rfl⟩:=List.mem_map.1 hx
 obtain⟨i,hi,rfl⟩:=List.getElem_of_mem hy
 have:=hid i hi
 simp[List.getD,hi] at this
 simp
 omega
theorem wt_range{l:List A}{ids:List Nat}(hwt: ∀x∈l,0≤x.w∧x.w<4294967296)(hid: ∀i,i<ids.length→ids.getD i 0<l.length): ∀i,i<(wtL l (ints ids)).length→0≤(wtL l (ints ids)).getD i 0∧(wtL l (ints ids)).getD i 0<4294967296:=by
 intro i hi
 rw[wtL_len,ints_len] at hi
 rw[wtL_at (by rw[ints_len];exact hi),ints_getD hi,Int.toNat_natCast]
 have h1:=hid i hi
 generalize ids.getD i 0=j at*
 refine hwt _ ?_
 rw[show l.getD j A.zero=l[j] by simp[List.getD,List.getElem?_eq_getElem h1]]
 exact List.getElem_mem h1
set_option maxHeartbeats 3200000 in
theorem whole_any(N:Int)(a:Option Addr)(l:List A)(cap:Nat)(ba:Option Addr)(bs:List Int)(bc:Nat)(ca:Option Addr)(C:List Cl)(cc:Nat)(lv ce ep:Int)(w:World)(hl:l.length≤9223372036854775807)(hbl:bs.length≤9223372036854775807)(hr:Arcs w a l)(hi:Ints w ba bs)(hR:Rws w ca C)(hwt: ∀x∈l,0≤x.w∧x.w<4294967296):
  Calls Tryz.prog 82 #[.agg #[.int .i64 N, .slice a l.length cap], .agg #[.slice ba bs.length bc, .slice ca C.length cc], .int .i64 lv, .int .i64 ce, .int .i64 ep] w fun e w'=>((whE N l bs (csl C) lv ce ep)=0→(∃v c,e= .returned (.tuple #[.agg #[.int .i64 lv, .int .i64 ce, .int .i64 ep, .slice v (mxL (wiL l (inV N l bs (csl C) lv ce)) (bdV N l bs (csl C) lv ce)).length c], .int .i64 0])∧w'.ownsRow w.heap.size 48 1 (.slice v (mxL (wiL l (inV N l bs (csl C) lv ce)) (bdV N l bs (csl C) lv ce)).length c) (mxL (wiL l (inV N l bs (csl C) lv ce)) (bdV N l bs (csl C) lv ce)).length (cellsU (mxL (wiL l (inV N l bs (csl C) lv ce)) (bdV N l bs (csl C) lv ce)))∧∀i,i<(bdV N l bs (csl C) lv ce).length→N5.IsD ((wiL l (inV N l bs (csl C) lv ce)).map toN) (fun _=>true) ((bdV N l bs (csl C) lv ce).getD i 0) (dF (wiL l (inV N l bs (csl C) lv ce)) ((bdV N l bs (csl C) lv ce).getD i 0))))∧((whE N l bs (csl C) lv ce ep)≠0→e= .returned (.tuple #[.agg #[.int .i64 0, .int .i64 0, .int .i64 0, .slice none 0 0], .int .i64 (whE N l bs (csl C) lv ce ep)]))∧Below w.heap.size w w':=by
 obtain⟨hg0,hg1,hg2,hb0,hsz⟩:=top3 w (.cells #[.int .i64 N, .slice a l.length cap] 24) (.cells #[.slice ba bs.length bc, .slice ca C.length cc] 28) (.cells #[.int .i64 0, .int .i64 0, .int .i64 0, .slice none 0 0] 40)
 have hg3:=heap_top (((w.alloc (.cells #[.int .i64 N, .slice a l.length cap] 24)).alloc (.cells #[.slice ba bs.length bc, .slice ca C.length cc] 28)).alloc (.cells #[.int .i64 0, .int .i64 0, .int .i64 0, .slice none 0 0] 40)) (.cells #[.int .i64 N, .slice a l.length cap, .slice ba bs.length bc, .slice ca C.length cc, .int .i64 lv, .int .i64 ce] 118)
 have hb1:Below ((((w.alloc (.cells #[.int .i64 N, .slice a l.length cap] 24)).alloc (.cells #[.slice ba bs.length bc, .slice ca C.length cc] 28)).alloc (.cells #[.int .i64 0, .int .i64 0, .int .i64 0, .slice none 0 0] 40))).heap.size (((w.alloc (.cells #[.int .i64 N, .slice a l.length cap] 24)).alloc (.cells #[.slice ba bs.length bc, .slice ca C.length cc] 28)).alloc (.cells #[.int .i64 0, .int .i64 0, .int .i64 0, .slice none 0 0] 40)) ((((w.alloc (.cells #[.int .i64 N, .slice a l.length cap] 24)).alloc (.cells #[.slice ba bs.length bc, .slice ca C.length cc] 28)).alloc (.cells #[.int .i64 0, .int .i64 0, .int .i64 0, .slice none 0 0] 40)).alloc (.cells #[.int .i64 N, .slice a l.length cap, .slice ba bs.length bc, .slice ca C.length cc, .int .i64 lv, .int .i64 ce] 118)):=(Below.refl _ _).alloc (Nat.le_refl _) _
 rw[hsz] at hg3 hb1
 have hb2:Below w.heap.size w ((((w.alloc (.cells #[.int .i64 N, .slice a l.length cap] 24)).alloc (.cells #[.slice ba bs.length bc, .slice ca C.length cc] 28)).alloc (.cells #[.int .i64 0, .int .i64 0, .int .i64 0, .slice none 0 0] 40)).alloc (.cells #[.int .i64 N, .slice a l.length cap, .slice ba bs.length bc, .slice ca C.length cc, .int .i64 lv, .int .i64 ce] 118)):=hb0.trans (hb1.mono (by omega))
 have hsz4:(((((w.alloc (.cells #[.int .i64 N, .slice a l.length cap] 24)).alloc (.cells #[.slice ba bs.length bc, .slice ca C.length cc] 28)).alloc (.cells #[.int .i64 0, .int .i64 0, .int .i64 0, .slice none 0 0] 40)).alloc (.cells #[.int .i64 N, .slice a l.length cap, .slice ba bs.length bc, .slice ca C.length cc, .int .i64 lv, .int .i64 ce] 118))).heap.size=w.heap.size+4:=by rw[World.size_alloc,hsz]
 have HK0:=Lib.hid ((hb1.block _ (by omega)).trans hg0)
 have HK1:=Lib.hid ((hb1.block _ (by omega)).trans hg1)
 have HK2:=Lib.hid ((hb1.block _ (by omega)).trans hg2)
 have HK3:=Lib.hid hg3
 obtain⟨⟨z0,z1⟩,_⟩:=two_cells hg0
 obtain⟨⟨z2,z3⟩,_⟩:=two_cells hg1
 obtain⟨y0,y1,y2,y3,y4,y5⟩:=six_cells hg3
 have HIN:=Lib.hid (plInner_any N a l cap ba bs bc ca C cc lv ce _ hl hbl (hr.on hb2) (hi.on hb2) (hR.on hb2))
 have HB0:=Lib.hid hb2
 have HRA:=Lib.hid hr
 have HRI:=Lib.hid hi
 have HRR:=Lib.hid hR
 have HWT:=Lib.hid hwt
 have HBF:=Lib.hid (@by_facts N l bs (csl C) lv ce)
 have HWE:Hid ((whE N l bs (csl C) lv ce ep)=if inE N l bs (csl C) lv ce≠0 then inE N l bs (csl C) lv ce else if epB ep=false then 1 else 0):=rfl
 have HBY:Hid (∀m,byE N l bs (csl C) lv ce ep m=if inE N l bs (csl C) lv ce≠0 then inE N l bs (csl C) lv ce else jbE ep m (inV N l bs (csl C) lv ce).length):=fun _=>rfl
 have HBA:Hid (∀ (W2:World) (wa:Option Addr) (wk:Nat) (ws:List Int),Below w.heap.size w W2→Wts W2 wa ws→(∀i,i<ws.length→0≤ws.getD i 0∧ws.getD i 0<4294967296)→Calls Tryz.prog 88 #[.agg #[.int .i64 N, .slice a l.length cap, .slice ba bs.length bc, .slice ca C.length cc, .int .i64 lv, .int .i64 ce], .int .i64 ep, .slice wa ws.length wk] W2 fun e w'=>(byE N l bs (csl C) lv ce ep ws.length=0→∃v c,e= .returned (.tuple #[.agg #[.int .i64 lv, .int .i64 ce, .int .i64 ep, .slice v (mxL (wgL l (inV N l bs (csl C) lv ce) ws) (bdV N l bs (csl C) lv ce)).length c], .int .i64 0])∧w'.ownsRow W2.heap.size 48 1 (.slice v (mxL (wgL l (inV N l bs (csl C) lv ce) ws) (bdV N l bs (csl C) lv ce)).length c) (mxL (wgL l (inV N l bs (csl C) lv ce) ws) (bdV N l bs (csl C) lv ce)).length (cellsU (mxL (wgL l (inV N l bs (csl C) lv ce) ws) (bdV N l bs (csl C) lv ce)))∧∀i,i<(bdV N l bs (csl C) lv ce).length→N5.IsD ((wgL l (inV N l bs (csl C) lv ce) ws).map toN) (fun _=>true) ((bdV N l bs (csl C) lv ce).getD i 0) (dF (wgL l (inV N l bs (csl C) lv ce) ws) ((bdV N l bs (csl C) lv ce).getD i 0)))∧(byE N l bs (csl C) lv ce ep ws.length≠0→e= .returned (.tuple #[.agg #[.int .i64 0, .int .i64 0, .int .i64 0, .slice none 0 0], .int .i64 (byE N l bs (csl C) lv ce ep ws.length)]))∧Below W2.heap.size W2 w'):=fun W2 wa wk ws hb hw h4=>byArcs_any N a l cap ba bs bc ca C cc lv ce ep wa ws wk W2 hl hbl (hr.on hb) (hi.on hb) (hR.on hb) hw h4
 obtain⟨E,HE⟩:=named (inE N l bs (csl C) lv ce)
 obtain⟨ids,HID⟩:=named (inV N l bs (csl C) lv ce)
 obtain⟨S,HS⟩:=named (bdV N l bs (csl C) lv ce)
 rw[HE.out,HID.out] at HIN
 rw[HE.out] at HWE
 rw[HE.out,HID.out] at HBY
 rw[HE.out,HID.out,HS.out] at HBF
 rw[HID.out,HS.out] at HBA
 obtain⟨B,HBB⟩:=named (whE N l bs (csl C) lv ce ep)
 rw[HBB.out] at HWE
 rw[HBB.out,HID.out,HS.out]
 clear hr hi hR hwt hb0 hb1 hb2 hg0 hg1 hg2 hg3 HBB hsz
 generalize hp:w.heap.size=p at*
 go_enter Tryz.func82,Tryz.ntmps82
 go_wp2_with fail
 generalize hWW:((((w.alloc (.cells #[.int .i64 N, .slice a l.length cap] 24)).alloc (.cells #[.slice ba bs.length bc, .slice ca C.length cc] 28)).alloc (.cells #[.int .i64 0, .int .i64 0, .int .i64 0, .slice none 0 0] 40)).alloc (.cells #[.int .i64 N, .slice a l.length cap, .slice ba bs.length bc, .slice ca C.length cc, .int .i64 lv, .int .i64 ce] 118))=W at*
 clear hWW
 refine HIN.out.mono ?_
 rintro e w1 ⟨v1,rfl,hr1,hb1⟩
 have hz1:=hb1.size
 have HB1:Hid (Below p w w1):=HB0.out.trans (hb1.mono (by omega))
 have HJ0:=Lib.hid ((hb1.block p (by omega)).trans HK0.out)
 have HJ2:=Lib.hid ((hb1.block (p+1+1) (by omega)).trans HK2.out)
 have HJ3:=Lib.hid ((hb1.block (p+3) (by omega)).trans HK3.out)
 have HI1:=Lib.hid hr1.ints
 have hw1:p+4≤w1.heap.size:=by omega
 clear hr1 hb1 HIN HB0 HK0 HK1 HK2 HK3 hz1 y0 y1 y2 y3 y4 y5 z0 z1 z2 z3
 have HR4:Hid (∀wr:World,wr.heap[p+1+1]? =some (.cells #[.int .i64 0, .int .i64 0, .int .i64 0, .slice none 0 0] 40)→((wr.cell? ⟨p+1+1,0,none⟩=some (.int .i64 0)∧wr.cell? ⟨p+1+1,1,none⟩=some (.int .i64 0)∧wr.cell? ⟨p+1+1,2,none⟩=some (.int .i64 0)∧wr.cell? ⟨p+1+1,3,none⟩=some (.slice none 0 0))∧(wr.frozen? ⟨p+1+1,0,none⟩=false∧wr.frozen? ⟨p+1+1,1,none⟩=false∧wr.frozen? ⟨p+1+1,2,none⟩=false∧wr.frozen? ⟨p+1+1,3,none⟩=false))):=fun wr h=>four_cells h
 have HZ4:Hid (∀wr:World,wr.heap[p+1+1]? =some (.cells #[.int .i64 0, .int .i64 0, .int .i64 0, .slice none 0 0] 40)→Below p w wr→((((((wr.setCell ⟨p+1+1,0,none⟩ (.int .i64 0)).setCell ⟨p+1+1,1,none⟩ (.int .i64 0)).setCell ⟨p+1+1,2,none⟩ (.int .i64 0)).setCell ⟨p+1+1,3,none⟩ (.slice none 0 0)).heap[p+1+1]? =some (.cells #[.int .i64 0, .int .i64 0, .int .i64 0, .slice none 0 0] 40))∧Below p w ((((wr.setCell ⟨p+1+1,0,none⟩ (.int .i64 0)).setCell ⟨p+1+1,1,none⟩ (.int .i64 0)).setCell ⟨p+1+1,2,none⟩ (.int .i64 0)).setCell ⟨p+1+1,3,none⟩ (.slice none 0 0)))):=fun wr h hb=>⟨set4 h _ _ _ _,below_set4 hb (by omega) _ _ _ _⟩
 by_cases h1:E=0
 ·subst h1
  obtain⟨n,rfl,hC0,hid,h8,hSn⟩:=HBF.out rfl
  have HWE:Hid (B=if epB ep=false then 1 else 0):=by show _=_;rw[HWE.out,if_neg (by simp)]
  have HWG:=Lib.hid (weights_any n a l cap v1 (ints ids) ids.length w1 hl (by rw[ints_len];omega) (HRA.out.on (hp▸HB1.out)) HI1.out)
  rw[wq_ints hC0 hid h8] at HWG
  rw[ints_len] at HWG
  have HRG:=Lib.hid (wt_range HWT.out hid)
  have HWL:Hid ((wtL l (ints ids)).length=ids.length):=by show _=_;rw[wtL_len,ints_len]
  obtain⟨⟨k0,k1⟩,_⟩:=two_cells HJ0.out
  go_wp2_with fail
  refine HWG.out.mono ?_
  rintro e w2 ⟨hok,_,hb2⟩
  obtain⟨gw,rfl,hgw,hWt⟩:=hok (by simp)
  have HB2:Hid (Below p w w2):=HB1.out.trans (hb2.mono (by omega))
  have HL2:=Lib.hid ((hb2.block (p+1+1) (by omega)).trans HJ2.out)
  have hL3:=(hb2.block (p+3) (by omega)).trans HJ3.out
  obtain⟨y0,y1,y2,y3,y4,y5⟩:=six_cells hL3
  have hw2:p+4≤w2.heap.size:=by have:=hb2.size;omega
  have HBC:=Lib.hid (HBA.out w2 (some ⟨gw,0,none⟩) ids.length (wtL l (ints ids)) HB2.out hWt HRG.out)
  rw[HWL.out,HBY.out] at HBC
  have HJE:Hid ((if (0:Int)≠0 then 0 else jbE ep ids.length ids.length)=B):=by
   show _=_
   rw[if_neg (by simp),HWE.out]
   unfold jbE
   by_cases h:epB ep=false
   ·rw[if_pos h,if_pos h]
   ·rw[if_neg h,if_neg h,if_neg (by simp)]
  rw[HJE.out] at HBC
  clear HWG hok hb2 hWt k0 k1 hL3
  go_wp2_with fail
  refine HBC.out.mono ?_
  rintro e w5 ⟨hok,hno,hb5⟩
  have hK5:=(hb5.block (p+1+1) (by omega)).trans HL2.out
  obtain⟨⟨d0,d1,d2,d3⟩,f0,f1,f2,f3⟩:=HR4.out w5 hK5
  have hB5:Below p w w5:=HB2.out.trans (hb5.mono (by omega))
  by_cases h:B=0
  ·subst h
   obtain⟨v,c,rfl,hown,hD⟩:=hok rfl
   obtain⟨X,HX⟩:=named (mxL (wgL l ids (wtL l (ints ids))) S)
   rw[HX.out] at hown
   rw[HX.out]
   have HR5:=Lib.hid (four_cells (set4 hK5 (.int .i64 lv) (.int .i64 ce) (.int .i64 ep) (.slice v X.length c))).1
   have HO5:=Lib.hid (own_base (own_set4 hown (show p+1+1<w2.heap.size by omega) (.int .i64 lv) (.int .i64 ce) (.int .i64 ep) (.slice v X.length c)) (show p≤w2.heap.size by omega))
   have HB5:=Lib.hid (below_set4 hB5 (show p≤p+1+1 by omega) (.int .i64 lv) (.int .i64 ce) (.int .i64 ep) (.slice v X.length c))
   have HD5:=Lib.hid hD
   clear hK5 hown hD hb5 HBC hok hno y0 y1 y2 y3 y4 y5 hB5
   go_wp2_with fail
   obtain⟨r0,r1,r2,r3⟩:=HR5.out
   have HXW:Hid (mxL (wiL l ids) S=X):=HX.out
   rw[HXW.out]
   refine bodyPost_ret (v:= .tuple #[.agg #[.int .i64 lv, .int .i64 ce, .int .i64 ep, .slice v X.length c], .int .i64 0]) (by simp[results,Tryz.results82,go_sem,r0,r1,r2,r3]) rfl ?_
   first | exact⟨⟨v,c,rfl,HO5.out,HD5.out⟩,HB5.out⟩ | exact⟨fun _=>⟨v,c,rfl,HO5.out,HD5.out⟩,fun h=>absurd rfl h,HB5.out⟩
  ·obtain rfl:=hno h
   obtain⟨r4,HBZ⟩:=HZ4.out w5 hK5 hB5
   have HR5:=Lib.hid (HR4.out _ r4).1
   have HB5:=Lib.hid HBZ
   clear hK5 hb5 HBC hok hno r4 HBZ y0 y1 y2 y3 y4 y5 hB5
   go_wp2_with fail
   obtain⟨r0,r1,r2,r3⟩:=HR5.out
   refine bodyPost_ret (v:= .tuple #[.agg #[.int .i64 0, .int .i64 0, .int .i64 0, .slice none 0 0], .int .i64 B]) (by simp[results,Tryz.results82,go_sem,r0,r1,r2,r3]) rfl ?_
   exact⟨fun h'=>absurd h' h,fun _=>rfl,HB5.out⟩
 ·have e1:(E != 0)=true:=by simpa using h1
  obtain rfl:B=E:=by rw[HWE.out,if_pos h1]
  obtain⟨⟨d0,d1,d2,d3⟩,f0,f1,f2,f3⟩:=HR4.out w1 HJ2.out
  obtain⟨r4,HBZ⟩:=HZ4.out w1 HJ2.out HB1.out
  have HRZ:=Lib.hid (HR4.out _ r4).1
  have HBZ:=Lib.hid HBZ
  clear r4
  go_wp2_with fail
  obtain⟨r0,r1,r2,r3⟩:=HRZ.out
  refine bodyPost_ret (v:= .tuple #[.agg #[.int .i64 0, .int .i64 0, .int .i64 0, .slice none 0 0], .int .i64 B]) (by simp[results,Tryz.results82,go_sem,r0,r1,r2,r3]) rfl ?_
  exact⟨fun h=>absurd h h1,fun _=>rfl,HBZ.out⟩
def inC(L:List Int)(q:Int)(v:Nat):Bool:=decide (L.getD v 0=q)
theorem wk_in{l m:List N5.A}{ok:Nat→Bool}{s v:Nat}{d:Int}(hm: ∀x∈l,ok (N5.src x)=true→ok (N5.dst x)=true→x∈m)(h:N5.Wk l ok s v d):N5.Wk m (fun _=>true) s v d∧ok v=true:=by
 induction h with
 | nil e=>exact⟨N5.Wk.nil rfl,e⟩
 | snoc hx _ ho ih=>exact⟨N5.Wk.snoc (hm _ hx ih.2 ho) ih.1 rfl,ho⟩
theorem wk_out{l m:List N5.A}{ok:Nat→Bool}{s v:Nat}{d:Int}(hs:ok s=true)(hm: ∀x∈m,x∈l∧ok (N5.dst x)=true)(h:N5.Wk m (fun _=>true) s v d):N5.Wk l ok s v d:=by
 induction h with
 | nil _=>exact N5.Wk.nil hs
 | snoc hx _ _ ih=>exact N5.Wk.snoc (hm _ hx).1 ih (hm _ hx).2
end Go.Proofs.YtaafkpojjdjphaaGreat
namespace Go.Proofs.YtaafkpojjdjphaaGreat
open Go.RowKit
open N5 (Wk IsD src dst Inf)
theorem isD_out{l m:List N5.A}{ok:Nat→Bool}{s:Nat}{F:Nat→Int}(hs:ok s=true)(h1: ∀x∈l,ok (src x)=true→ok (dst x)=true→x∈m)(h2: ∀x∈m,x∈l∧ok (dst x)=true)(h:IsD m (fun _=>true) s F):IsD l ok s F:=
 ⟨h.lo,h.hi,fun v hv=>wk_out hs h2 (h.wk v hv),fun v d hw=>h.le v d (wk_in h1 hw).1⟩
theorem getA_memU{l:List A}{i:Nat}(h:i<l.length):l.getD i A.zero∈l:=by
 rw[List.getD_eq_getElem?_getD,List.getElem?_eq_getElem h]
 exact List.getElem_mem h
theorem wi_mem{l:List A}{p:A→Bool}{x:A}:x∈wiL l (arL l p)↔x∈l∧p x=true:=by
 have hm: ∀i,i∈arL l p↔i<l.length∧p (l.getD i A.zero)=true:=fun i=>by unfold arL;rw[cho_mem];rfl
 have hw: ∀k,k<(arL l p).length→wgA l (arL l p) (wtL l (ints (arL l p))) k=l.getD ((arL l p).getD k 0) A.zero:=fun k hk=>by
  unfold wgA
  rw[wtL_at (by rw[ints_len];exact hk),ints_getD hk,Int.toNat_natCast]
 unfold wiL wgL
 rw[List.mem_map]
 constructor
 ·rintro⟨k,hk,e⟩
  have hk':k<(arL l p).length:=by simpa using hk
  rw[hw k hk'] at e
  obtain⟨h1,h2⟩:=(hm _).1 (mem_getD.2 ⟨k,hk',rfl⟩)
  rw[←e]
  exact⟨getA_memU h1,h2⟩
 ·rintro⟨h1,h2⟩
  obtain⟨i,hi,e⟩:=List.getElem_of_mem h1
  have e2:l.getD i A.zero=x:=by rw[List.getD_eq_getElem?_getD,List.getElem?_eq_getElem hi];exact e
  obtain⟨k,hk,e3⟩:=mem_getD.1 ((hm i).2 ⟨hi,by rw[e2];exact h2⟩)
  exact⟨k,by simpa using hk,by rw[hw k hk,e3,e2]⟩
theorem rdA_mem{r:List A}{x y:A}:y∈rdA r x↔y∈r∨y=x∧x.w<Inf:=by
 unfold rdA
 split
 ·rename_i h
  rw[List.mem_append,List.mem_singleton]
  exact⟨fun h1=>h1.imp id (fun e=>⟨e,h⟩),fun h1=>h1.imp id (fun e=>e.1)⟩
 ·rename_i h
  exact⟨Or.inl,fun h1=>h1.elim id (fun e=>absurd e.2 h)⟩
theorem adA_mem{y:A}: ∀ (l r:List A),y∈adA r l↔y∈r∨y∈l∧y.w<Inf
 | [],r=>by simp[adA]
 | x::l,r=>by
   show y∈adA (rdA r x) l↔_
   rw[adA_mem l (rdA r x),rdA_mem,List.mem_cons]
   constructor
   ·rintro((h | ⟨e,h⟩) | ⟨h1,h2⟩)
    ·exact Or.inl h
    ·subst e;exact Or.inr ⟨Or.inl rfl,h⟩
    ·exact Or.inr ⟨Or.inr h1,h2⟩
   ·rintro(h | ⟨e | h1,h2⟩)
    ·exact Or.inl (Or.inl h)
    ·subst e;exact Or.inl (Or.inr ⟨rfl,h2⟩)
    ·exact Or.inr ⟨h1,h2⟩
theorem adM_mem{S:List Nat}{D:List Int}{r:List A}{y:A}: ∀k,y∈adM S D r k↔y∈r∨∃t,t<k∧y=mxA S D t∧y.w<Inf
 | 0=>by simp[adM]
 | k+1=>by
   show y∈rdA (adM S D r k) (mxA S D k)↔_
   rw[rdA_mem,adM_mem k]
   constructor
   ·rintro((h | ⟨t,h1,h2⟩) | ⟨e,h⟩)
    ·exact Or.inl h
    ·exact Or.inr ⟨t,by omega,h2⟩
    ·exact Or.inr ⟨k,by omega,e,by rw[e];exact h⟩
   ·rintro(h | ⟨t,h1,e,h2⟩)
    ·exact Or.inl (Or.inl h)
    ·by_cases ht:t=k
     ·subst ht;exact Or.inr ⟨e,by rw[←e];exact h2⟩
     ·exact Or.inl (Or.inr ⟨t,by omega,e,h2⟩)
theorem upR_mem{S:Nat→List Nat}{D:Nat→List Int}{y:A}: ∀k,y∈upR S D k↔ ∃i,i<k∧∃t,t<(D i).length∧y=mxA (S i) (D i) t∧y.w<Inf
 | 0=>by simp[upR]
 | k+1=>by
   show y∈adM (S k) (D k) (upR S D k) (D k).length↔_
   rw[adM_mem,upR_mem k]
   constructor
   ·rintro(⟨i,h1,h2⟩ | h)
    ·exact⟨i,by omega,h2⟩
    ·exact⟨k,by omega,h⟩
   ·rintro⟨i,h1,h2⟩
    by_cases e:i=k
    ·subst e;exact Or.inr h2
    ·exact Or.inl ⟨i,by omega,h2⟩
theorem mxK_at(wl:List A)(S:List Nat): ∀k,k≤S.length→(mxK wl S k).length=k*S.length∧∀a b,a<k→b<S.length→(mxK wl S k).getD (a*S.length+b) 0=dF wl (S.getD a 0) (S.getD b 0)
 | 0,_=>by simp[mxK]
 | k+1,hk=>by
   obtain⟨h1,h2⟩:=mxK_at wl S k (by omega)
   rw[mxK_succ (by omega),List.take_length]
   refine⟨by rw[List.length_append,h1,List.length_map,Nat.succ_mul],fun a b ha hb=> ?_⟩
   by_cases e:a=k
   ·subst e
    rw[List.getD_eq_getElem?_getD,List.getElem?_append_right (by omega),h1,Nat.add_sub_cancel_left,List.getElem?_map,List.getElem?_eq_getElem hb,List.getD_eq_getElem?_getD (i:=b),List.getElem?_eq_getElem hb]
    rfl
   ·have hlt:a*S.length+b<k*S.length:=by
     have:(a+1)*S.length≤k*S.length:=Nat.mul_le_mul_right _ (by omega)
     rw[Nat.succ_mul] at this
     omega
    rw[List.getD_eq_getElem?_getD,List.getElem?_append_left (by omega),←List.getD_eq_getElem?_getD]
    exact h2 a b (by omega) hb
theorem mxL_len(wl:List A)(S:List Nat):(mxL wl S).length=S.length*S.length:=(mxK_at wl S S.length (Nat.le_refl _)).1
theorem mxL_at{wl:List A}{S:List Nat}{t:Nat}(h:t<(mxL wl S).length):t / S.length<S.length∧t % S.length<S.length∧(mxL wl S).getD t 0=dF wl (S.getD (t / S.length) 0) (S.getD (t % S.length) 0):=by
 rw[mxL_len] at h
 have h0:0<S.length:=Nat.pos_of_ne_zero (fun e=>by rw[e] at h;simp at h)
 have h1:t / S.length<S.length:=Nat.div_lt_of_lt_mul h
 have h2:t % S.length<S.length:=Nat.mod_lt _ h0
 refine⟨h1,h2,?_⟩
 have h3:=(mxK_at wl S S.length (Nat.le_refl _)).2 _ _ h1 h2
 rw[Nat.mul_comm,Nat.div_add_mod] at h3
 exact h3
theorem crs_iffU{L:List Int}{l:List A}{v:Nat}:crs L l l.length v=true↔ ∃x∈l,prt L x=true∧(x.f.toNat=v∨x.t.toNat=v):=by
 unfold crs
 rw[List.take_length,List.any_eq_true]
 constructor
 ·rintro⟨x,hx,h⟩
  rw[Bool.and_eq_true,Bool.or_eq_true,decide_eq_true_eq,decide_eq_true_eq] at h
  exact⟨x,hx,h⟩
 ·rintro⟨x,hx,h⟩
  refine⟨x,hx,?_⟩
  rw[Bool.and_eq_true,Bool.or_eq_true,decide_eq_true_eq,decide_eq_true_eq]
  exact h
theorem bdL_memU{n:Nat}{L:List Int}{l:List A}{q:Int}{v:Nat}:v∈bdL n L l q↔v<n∧L.getD v 0=q∧crs L l l.length v=true:=by
 unfold bdL
 rw[cho_mem]
 unfold bdP
 rw[Bool.and_eq_true,decide_eq_true_eq]
theorem rise_upr{n:Nat}{l:List A}{X Y:List Int}{q:Int}{K:List Nat}{SS:Nat→List Nat}{DD:Nat→List Int}(hen: ∀x∈l,(0≤x.f∧x.f<n)∧(0≤x.t∧x.t<n))(hwt: ∀x∈l,0≤x.w∧x.w<4294967296)(hX:X.length=n)(ht:tdy X 0=true)(hn:Nst X Y)(hK:K=chL X Y q)
  (hS: ∀i,i<K.length→SS i=bdL n X l (K.getD i 0:Nat)) (hD: ∀i,i<K.length→DD i=mxL (wiL l (arL l (hld X (K.getD i 0:Nat)))) (SS i)) (hI: ∀i,i<K.length→∀b,b∈SS i→IsD ((wiL l (arL l (hld X (K.getD i 0:Nat)))).map toN) (fun _=>true) b (dF (wiL l (arL l (hld X (K.getD i 0:Nat)))) b)):
  Upr (l.map toN) ((adA (upR SS DD K.length) (wiL l (arL l (btP Y X q)))).map toN) n (inC Y q) (fun v=>X.getD v 0) (fun v=>v<n∧Y.getD v 0=q∧crs X l l.length v=true) (fun b v=>dF (wiL l (arL l (hld X (X.getD b 0)))) b v):=by
 have hsrc: ∀x:A,src (toN x)=x.f.toNat:=fun _=>rfl
 have hdst: ∀x:A,dst (toN x)=x.t.toNat:=fun _=>rfl
 have hlab: ∀v,v<n→0≤X.getD v 0:=fun v hv=>((ls_right ht).2.2 v (by omega)).1
 -- a vertex of the cell: its child's place
 have hkid: ∀v,v<n→Y.getD v 0=q→∃i,i<K.length∧((K.getD i 0:Nat):Int)=X.getD v 0:=fun v hv e=>by
  have h1:=(ch_iffU ht hn q (v:=v) (by omega)).1 e
  rw[←hK] at h1
  obtain⟨i,hi,e2⟩:=mem_getD.1 h1
  have:=hlab v hv
  exact⟨i,hi,by omega⟩
 -- a child's vertices are of the cell
 have hin: ∀i,i<K.length→∀v,v<n→X.getD v 0=((K.getD i 0:Nat):Int)→Y.getD v 0=q:=fun i hi v hv e=>by
  refine(ch_iffU ht hn q (v:=v) (by omega)).2 ?_
  rw[e,←hK,Int.toNat_natCast]
  exact mem_getD.2 ⟨i,hi,rfl⟩
 refine⟨fun x hx=> ?_,fun x hx=> ?_,fun b hb=> ?_,fun u v hu hv e=> ?_,fun x hx o1 o2 hc=> ?_,fun b v hb hv ob hc hlt=> ?_,fun x hx=> ?_⟩
 ·obtain⟨y,hy,rfl⟩:=List.mem_map.1 hx
  exact(hwt y hy).1
 ·obtain⟨y,hy,rfl⟩:=List.mem_map.1 hx
  have:=hen y hy
  rw[hsrc,hdst]
  omega
 ·obtain⟨b1,b2,b3⟩:=hb
  obtain⟨i,hi,e⟩:=hkid b b1 b2
  refine⟨b1,?_⟩
  have h1:=hI i hi b (by rw[hS i hi];exact bdL_memU.2 ⟨b1,e.symm,b3⟩)
  rw[e] at h1
  refine isD_out (decide_eq_true rfl) (fun x hx o1 o2=> ?_) (fun x hx=> ?_) h1
  ·obtain⟨y,hy,rfl⟩:=List.mem_map.1 hx
   exact List.mem_map.2 ⟨y,wi_mem.2 ⟨hy,decide_eq_true ⟨of_decide_eq_true o1,of_decide_eq_true o2⟩⟩,rfl⟩
  ·obtain⟨y,hy,rfl⟩:=List.mem_map.1 hx
   obtain⟨g1,g2⟩:=wi_mem.1 hy
   exact⟨List.mem_map.2 ⟨y,g1,rfl⟩,decide_eq_true (of_decide_eq_true g2).2⟩
 ·have h1:=hn u (by omega) v (by omega) e
  unfold inC
  rw[h1]
 ·obtain⟨y,hy,rfl⟩:=List.mem_map.1 hx
  have he:=hen y hy
  rw[hsrc] at o1 hc ⊢
  rw[hdst] at o2 hc ⊢
  have o1':=of_decide_eq_true o1
  have o2':=of_decide_eq_true o2
  have hp:prt X y=true:=decide_eq_true hc
  refine⟨⟨by omega,o1',crs_iffU.2 ⟨y,hy,hp,Or.inl rfl⟩⟩,⟨by omega,o2',crs_iffU.2 ⟨y,hy,hp,Or.inr rfl⟩⟩,List.mem_map.2 ⟨y,?_,rfl⟩⟩
  rw[adA_mem]
  have hw:=hwt y hy
  refine Or.inr ⟨wi_mem.2 ⟨hy,?_⟩,by unfold Inf;omega⟩
  unfold btP hld
  rw[Bool.and_eq_true,decide_eq_true_eq]
  exact⟨⟨o1',o2'⟩,hp⟩
 ·obtain⟨b1,b2,b3⟩:=hb
  obtain⟨v1,v2,v3⟩:=hv
  obtain⟨i,hi,e⟩:=hkid b b1 b2
  have hbS:b∈SS i:=by rw[hS i hi];exact bdL_memU.2 ⟨b1,e.symm,b3⟩
  have hvS:v∈SS i:=by rw[hS i hi];exact bdL_memU.2 ⟨v1,by rw[←hc,e],v3⟩
  obtain⟨ia,ha,ea⟩:=mem_getD.1 hbS
  obtain⟨ib,hb,eb⟩:=mem_getD.1 hvS
  have h0:0<(SS i).length:=by omega
  have hlt2:ia*(SS i).length+ib<(DD i).length:=by
   rw[hD i hi,mxL_len]
   have:(ia+1)*(SS i).length≤(SS i).length*(SS i).length:=Nat.mul_le_mul_right _ ha
   rw[Nat.succ_mul] at this
   omega
  have ed:(ia*(SS i).length+ib) / (SS i).length=ia:=by rw[Nat.mul_comm,Nat.mul_add_div h0,Nat.div_eq_of_lt hb,Nat.add_zero]
  have em:(ia*(SS i).length+ib) % (SS i).length=ib:=by rw[Nat.mul_comm,Nat.mul_add_mod,Nat.mod_eq_of_lt hb]
  have hval:(DD i).getD (ia*(SS i).length+ib) 0=dF (wiL l (arL l (hld X (X.getD b 0)))) b v:=by
   have h1:=hlt2
   rw[hD i hi] at h1 ⊢
   rw[(mxL_at h1).2.2,ed,em,ea,eb,e]
  refine⟨toN (mxA (SS i) (DD i) (ia*(SS i).length+ib)),List.mem_map.2 ⟨_,?_,rfl⟩,?_,?_,hval⟩
  ·rw[adA_mem,upR_mem]
   refine Or.inl ⟨i,hi,_,hlt2,rfl,?_⟩
   show(DD i).getD _ 0<Inf
   rw[hval]
   exact hlt
  ·show((SS i).getD ((ia*(SS i).length+ib) / (SS i).length) 0:Int).toNat=b
   rw[ed,ea,Int.toNat_natCast]
  ·show((SS i).getD ((ia*(SS i).length+ib) % (SS i).length) 0:Int).toNat=v
   rw[em,eb,Int.toNat_natCast]
 ·obtain⟨y,hy,rfl⟩:=List.mem_map.1 hx
  rw[adA_mem,upR_mem] at hy
  rw[hsrc,hdst]
  rcases hy with ⟨i,hi,t,ht2,ey,hw⟩ | ⟨hy,hw⟩
  ·have h1:=ht2
   rw[hD i hi] at h1
   obtain⟨d1,d2,d3⟩:=mxL_at h1
   have m1:=bdL_memU.1 (show(SS i).getD (t / (SS i).length) 0∈bdL n X l (K.getD i 0:Nat) by rw[←hS i hi];exact mem_getD.2 ⟨_,d1,rfl⟩)
   have m2:=bdL_memU.1 (show(SS i).getD (t % (SS i).length) 0∈bdL n X l (K.getD i 0:Nat) by rw[←hS i hi];exact mem_getD.2 ⟨_,d2,rfl⟩)
   have e1:y.f.toNat=(SS i).getD (t / (SS i).length) 0:=by rw[ey];show((SS i).getD _ 0:Int).toNat=_;rw[Int.toNat_natCast]
   have e2:y.t.toNat=(SS i).getD (t % (SS i).length) 0:=by rw[ey];show((SS i).getD _ 0:Int).toNat=_;rw[Int.toNat_natCast]
   have ew:(toN y).w=(DD i).getD t 0:=by rw[ey];rfl
   rw[e1,e2]
   refine⟨decide_eq_true (hin i hi _ m1.1 m1.2.1),decide_eq_true (hin i hi _ m2.1 m2.2.1),Or.inr ⟨⟨m1.1,hin i hi _ m1.1 m1.2.1,m1.2.2⟩,by rw[m1.2.1,m2.2.1],?_,hw⟩⟩
   rw[ew,m1.2.1,hD i hi,d3]
  ·obtain⟨g1,g2⟩:=wi_mem.1 hy
   unfold btP hld at g2
   rw[Bool.and_eq_true,decide_eq_true_eq] at g2
   exact⟨decide_eq_true g2.1.1,decide_eq_true g2.1.2,Or.inl (List.mem_map.2 ⟨y,g1,rfl⟩)⟩
theorem rise_eq{n:Nat}{l:List A}{X Y:List Int}{q:Int}{K:List Nat}{SS:Nat→List Nat}{DD:Nat→List Int}(hen: ∀x∈l,(0≤x.f∧x.f<n)∧(0≤x.t∧x.t<n))(hwt: ∀x∈l,0≤x.w∧x.w<4294967296)(hX:X.length=n)(ht:tdy X 0=true)(hn:Nst X Y)(hK:K=chL X Y q)
  (hS: ∀i,i<K.length→SS i=bdL n X l (K.getD i 0:Nat)) (hD: ∀i,i<K.length→DD i=mxL (wiL l (arL l (hld X (K.getD i 0:Nat)))) (SS i)) (hI: ∀i,i<K.length→∀b,b∈SS i→IsD ((wiL l (arL l (hld X (K.getD i 0:Nat)))).map toN) (fun _=>true) b (dF (wiL l (arL l (hld X (K.getD i 0:Nat)))) b))
  (hF: ∀s,s∈bdL n Y l q→IsD ((adA (upR SS DD K.length) (wiL l (arL l (btP Y X q)))).map toN) (fun _=>true) s (dF (adA (upR SS DD K.length) (wiL l (arL l (btP Y X q)))) s)) (hG: ∀s,s∈bdL n Y l q→IsD ((wiL l (arL l (hld Y q))).map toN) (fun _=>true) s (dF (wiL l (arL l (hld Y q))) s)):
  mxL (adA (upR SS DD K.length) (wiL l (arL l (btP Y X q)))) (bdL n Y l q)=mxL (wiL l (arL l (hld Y q))) (bdL n Y l q):=by
 have hu:=rise_upr hen hwt hX ht hn hK hS hD hI
 have hbd: ∀s,s∈bdL n Y l q→s<n∧Y.getD s 0=q∧crs X l l.length s=true:=fun s hs=>by
  obtain⟨h1,h2,h3⟩:=bdL_memU.1 hs
  obtain⟨x,hx,hp,ho⟩:=crs_iffU.1 h3
  refine⟨h1,h2,crs_iffU.2 ⟨x,hx,?_,ho⟩⟩
  have he:=hen x hx
  refine decide_eq_true (fun e=> ?_)
  have:=hn x.f.toNat (by omega) x.t.toNat (by omega) e
  exact of_decide_eq_true hp this
 unfold mxL mxK
 rw[List.take_length]
 have key: ∀s,s∈bdL n Y l q→∀t,t∈bdL n Y l q→dF (adA (upR SS DD K.length) (wiL l (arL l (btP Y X q)))) s t=dF (wiL l (arL l (hld Y q))) s t:=fun s hs t htt=>by
  have hs2:=hbd s hs
  refine hu.eq hs2 (decide_eq_true hs2.2.1) (hbd t htt) (hF s hs) (isD_out (decide_eq_true hs2.2.1) (fun x hx o1 o2=> ?_) (fun x hx=> ?_) (hG s hs))
  ·obtain⟨y,hy,rfl⟩:=List.mem_map.1 hx
   exact List.mem_map.2 ⟨y,wi_mem.2 ⟨hy,decide_eq_true ⟨of_decide_eq_true o1,of_decide_eq_true o2⟩⟩,rfl⟩
  ·obtain⟨y,hy,rfl⟩:=List.mem_map.1 hx
   obtain⟨g1,g2⟩:=wi_mem.1 hy
   exact⟨List.mem_map.2 ⟨y,g1,rfl⟩,decide_eq_true (of_decide_eq_true g2).2⟩
 have hfm: ∀ (P:List Nat),(∀s∈P,s∈bdL n Y l q)→P.flatMap (fun s=>(bdL n Y l q).map (dF (adA (upR SS DD K.length) (wiL l (arL l (btP Y X q)))) s))=P.flatMap (fun s=>(bdL n Y l q).map (dF (wiL l (arL l (hld Y q))) s)):=fun P=>by
  induction P with
  | nil=>intro _;rfl
  | cons s P ih=>
    intro h
    rw[List.flatMap_cons,List.flatMap_cons,ih (fun s hs=>h s (by simp[hs])),List.map_congr_left (fun t ht3=>key s (h s (by simp)) t ht3)]
 exact hfm _ (fun s hs=>hs)
end Go.Proofs.YtaafkpojjdjphaaGreat
