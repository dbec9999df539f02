import Derived.RangeFuncNested
import Derived.RangeFuncBound
import Derived.Shelf.RegionOpen
import Derived.OwnWalkIn
import Derived.LoopNIn
import Derived.LoopIn
import Derived.Test.YtmenajiceaicpaaGreatZNB
import Derived.Test.YtmenajiceaicpaaGreatZFB
open Go.Lib (hid)
set_option maxRecDepth 100000
namespace Go.Proofs.YtmenajiceaicpaaGreat
open Go.RowKit Go.Shelf
attribute [local go_sem] Oper.semAt_some
theorem nsVert_any(N v:Int)(a:Option Addr)(n cap:Nat)(w:World):
  Calls Tryz.prog 50 #[.agg #[.int .i64 N, .slice a n cap], .int .i64 v] w fun e w'=>e= .returned (.bool (decide (0≤v∧v<N)))∧Below w.heap.size w w':=by
 have hb0:Below w.heap.size w (w.alloc (.cells #[.int .i64 N, .slice a n cap] 24)):=(Below.refl _ _).alloc (Nat.le_refl _) _
 have hg:=heap_top w (.cells #[.int .i64 N, .slice a n cap] 24)
 obtain⟨⟨c0,c1⟩,_⟩:=two_cells hg
 have HB0:=hid hb0
 clear hg hb0
 generalize hp:w.heap.size=p at*
 by_cases h1:0≤v
 ·by_cases h2:v<N
  ·rw[decide_eq_true ⟨h1,h2⟩]
   go_enter Tryz.func50,Tryz.ntmps50
   go_wp2_with fail
   go_ret
   exact⟨rfl,HB0.out⟩
  ·rw[decide_eq_false (by omega)]
   have f2:decide (v<N)=false:=decide_eq_false h2
   go_enter Tryz.func50,Tryz.ntmps50
   go_wp2_with fail
   go_ret
   exact⟨rfl,HB0.out⟩
 ·rw[decide_eq_false (by omega)]
  go_enter Tryz.func50,Tryz.ntmps50
  go_wp2_with fail
  go_ret
  exact⟨rfl,HB0.out⟩
theorem back_any(a:Option Addr)(n c:Nat)(w:World):
  Calls Tryz.prog 51 #[.slice a n c] w fun e w'=>e= .returned (.func (.func 64) #[] #[.pointer (some ⟨w.heap.size,0,none⟩)])∧w'=w.alloc (.cells #[.slice a n c] 59):=by
 go_enter Tryz.func51,Tryz.ntmps51
 go_wp2_with fail
 go_ret
 exact⟨rfl,rfl⟩
def dnF(m r:Nat):List (Fin m):=((List.finRange m).drop r).reverse
theorem dnF_step{m r:Nat}(h:r<m):dnF m r=dnF m (r+1)++[⟨r,h⟩]:=by
 unfold dnF
 rw[List.drop_eq_getElem_cons (by simpa using h),List.reverse_cons]
 simp
theorem dnF_len(m r:Nat):(dnF m r).length=m - r:=by simp[dnF]
theorem dnF_top(m:Nat):dnF m m= []:=List.eq_nil_of_length_eq_zero (by rw[dnF_len];omega)
theorem dnF_mem{m r:Nat}(x:Fin m):x∈dnF m r↔r≤x.val:=by
 unfold dnF
 rw[List.mem_reverse,List.mem_drop_iff_getElem]
 constructor
 ·rintro⟨i,hi,h⟩
  rw[←h]
  simp
 ·intro h
  refine⟨x.val - r,by simp;omega,?_⟩
  apply Fin.ext
  simp
  omega
set_option maxHeartbeats 2000000 in
theorem back1_in(n:Nat)(hn:1≤n)(l Bs n₀ g m c:Nat)(V0 V1 V2:Nat→Value)(hm:m≤5)(hg:g<n₀)(hBn:Bs<n₀)(J Jx:List (Fin m)→World→Prop)
  (hY: ∀pre x W,J pre W→pre.length<m→YieldAt Fence.wide (n - 1) Tryz.prog l #[.int .i64 (x.val:Int), .agg #[V0 x.val,V1 x.val,V2 x.val]] W fun e W'=>
    (e= .returned (.bool true)∧J (pre++[x]) W'∧Below n₀ W W')∨(e= .returned (.bool false)∧Jx (pre++[x]) W'))
  (W:World) (hBs:W.cell? ⟨Bs,0,none⟩=some (.slice (some ⟨g,0,none⟩) m c)) (hc: ∀j,j<m→W.cell? ⟨g,j*3,none⟩=some (V0 j)∧W.cell? ⟨g,j*3+1,none⟩=some (V1 j)∧W.cell? ⟨g,j*3+2,none⟩=some (V2 j)) (h0:J [] W):
  CallsIn Fence.wide n Tryz.prog 64 #[.func (.yield l) #[] #[], .pointer (some ⟨Bs,0,none⟩)] W fun e W'=>(∃v,e= .returned v)∧
   ((∃ys,ys=dnF m 0∧J ys W')∨(∃pre,(∃r,r≤m∧pre=dnF m r)∧Jx pre W')):=by
 refine callsIn_of_wp Tryz.func64 rfl trivial ?_ rfl
 simp only[Tryz.ntmps64,List.size_toArray,List.length_cons,List.length_nil,Nat.reduceAdd,Nat.reduceSub,Array.replicate_succ,Array.replicate_zero,List.push_toArray,List.append_toArray,List.nil_append,List.cons_append]
 gi_wp2
 gi_loopw [3] (fun i wr=> ∃r:Nat,r≤m∧i= .int .i64 ((r:Int) - 1)∧J (dnF m r) wr∧Below n₀ W wr)
  (fun i _=>(intOf i+1).toNat)
 case atStart=>exact⟨m,Nat.le_refl _,rfl,by rw[dnF_top];exact h0,Below.refl _ _⟩
 case round=>
  obtain⟨r,hr,rfl,hJs,hnx⟩:=hrel
  have hbs:=(hnx.cell (p:=⟨Bs,0,none⟩) hBn).trans hBs
  cases r with
  | zero=>
    gi_wp2
    go_end0
    exact⟨⟨_,rfl⟩, .inl ⟨_,rfl,hJs⟩⟩
  | succ r=>
    have e1:((r+1:Nat):Int) - 1=r:=by omega
    rw[e1]
    obtain⟨c0,c1,c2⟩:=hc r (by omega)
    have d0:=(hnx.cell (p:=⟨g,r*3,none⟩) hg).trans c0
    have d1:=(hnx.cell (p:=⟨g,r*3+1,none⟩) hg).trans c1
    have d2:=(hnx.cell (p:=⟨g,r*3+2,none⟩) hg).trans c2
    have hrm:(r:Int)<m:=by omega
    obtain⟨fn,tmps,assign,body,hy,hR⟩:=hY _ ⟨r,by omega⟩ wr hJs (by rw[dnF_len];omega)
    dsimp only at hy
    clear e1
    gi_wp2
    refine hR.mono ?_
    rintro e W3 (⟨rfl,hJ3,hk3⟩ | ⟨rfl,hJx3⟩)
    ·gi_wp2
     go_roundw
     case rel=>exact⟨r,by omega,by simp,by rw[dnF_step (show r<m by omega)];exact hJ3,hnx.trans hk3⟩
     case measure=>simp[intOf]
    ·gi_wp2
     refine bodyPost_ret (results_none rfl _ _ _) rfl ?_
     exact⟨⟨_,rfl⟩, .inr ⟨_,⟨r,by omega,(dnF_step (show r<m by omega)).symm⟩,hJx3⟩⟩
theorem back_stops(n:Nat)(hn:1≤n)(Bs n₀ g m c:Nat)(V0 V1 V2:Nat→Value)(hm:m≤5)(hg:g<n₀)(hBn:Bs<n₀)(w:World)(hn₀:n₀≤w.heap.size)(hBs:w.cell? ⟨Bs,0,none⟩=some (.slice (some ⟨g,0,none⟩) m c))(hc: ∀j,j<m→w.cell? ⟨g,j*3,none⟩=some (V0 j)∧w.cell? ⟨g,j*3+1,none⟩=some (V1 j)∧w.cell? ⟨g,j*3+2,none⟩=some (V2 j)):
  SeqStopsK Fence.wide n Tryz.prog 64 #[.pointer (some ⟨Bs,0,none⟩)] (fun x:Fin m=> #[Value.int .i64 (x.val:Int),Value.agg #[V0 x.val,V1 x.val,V2 x.val]]) (Below n₀) (fun ys=>ys=dnF m 0) (fun pre=> ∃r,r≤m∧pre=dnF m r) m w:=fun l J Jx W hW _ _ hY h0=>by
 have hb:=hW.mono hn₀
 refine back1_in n hn l Bs n₀ g m c V0 V1 V2 hm hg hBn J Jx hY W ((hb.cell (p:=⟨Bs,0,none⟩) hBn).trans hBs) (fun j hj=> ?_) h0
 obtain⟨h1,h2,h3⟩:=hc j hj
 exact⟨(hb.cell (p:=⟨g,j*3,none⟩) hg).trans h1,(hb.cell (p:=⟨g,j*3+1,none⟩) hg).trans h2,(hb.cell (p:=⟨g,j*3+2,none⟩) hg).trans h3⟩
def apt(cs:List (List Int))(u v:Nat):Nat→Nat
 | 0=>0
 | k+1=>if (lvl cs k).getD u 0≠(lvl cs k).getD v 0 then k+1 else apt cs u v k
theorem apt_none{cs:List (List Int)}{u v:Nat}: ∀m,(∀k,k<m→(lvl cs k).getD u 0=(lvl cs k).getD v 0)→apt cs u v m=0
 | 0,_=>rfl
 | m+1,h=>by
   unfold apt
   rw[if_neg (fun e=>e (h m (by omega)))]
   exact apt_none m (fun k hk=>h k (by omega))
theorem apt_at{cs:List (List Int)}{u v r:Nat}(hr:(lvl cs r).getD u 0≠(lvl cs r).getD v 0): ∀m,r<m→(∀k,r<k→k<m→(lvl cs k).getD u 0=(lvl cs k).getD v 0)→apt cs u v m=r+1
 | 0,h,_=>absurd h (by omega)
 | m+1,h,h2=>by
   unfold apt
   by_cases e:r=m
   ·subst e
    rw[if_pos hr]
   ·rw[if_neg (fun e2=>e2 (h2 m (by omega) (by omega)))]
    exact apt_at hr m (by omega) (fun k h3 h4=>h2 k h3 (by omega))
end Go.Proofs.YtmenajiceaicpaaGreat
namespace Go.Proofs.YtmenajiceaicpaaGreat
open Go.RowKit
def risB:Int→List Int→Bool
 | _,[]=>true
 | bb,b::r=>if bb<b∧b≤1024 then risB b r else false
def plE(N:Int)(l:List A)(bs cs:List Int)(mo:Int):Int:=
 if chkE N l≠0 then chkE N l else if ¬(1≤bs.length∧bs.length≤5) then 111 else if risB 0 bs=false then 1 else if 16384<cs.length then 2 else if cs.all (okV N)=false then 5 else if mo<0∨16384<mo then 1 else 0
theorem plE_zero{N:Int}{l:List A}{bs cs:List Int}{mo:Int}(h:plE N l bs cs mo=0):chkE N l=0∧(1≤bs.length∧bs.length≤5)∧risB 0 bs=true∧cs.length≤16384∧cs.all (okV N)=true∧0≤mo∧mo≤16384:=by
 unfold plE at h
 split at h
 ·rename_i h1;exact absurd h h1
 ·rename_i h1
  split at h
  ·cases h
  ·rename_i h2
   split at h
   ·cases h
   ·rename_i h3
    split at h
    ·cases h
    ·rename_i h4
     split at h
     ·cases h
     ·rename_i h5
      split at h
      ·cases h
      ·rename_i h6
       exact⟨by simpa using h1,by omega,by simpa using h3,by omega,by simpa using h5,by omega,by omega⟩
theorem all_drop{cs:List Int}{N:Int}{k:Nat}(h:k<cs.length):(cs.drop k).all (okV N)=(okV N (cs.getD k 0)&&(cs.drop (k+1)).all (okV N)):=by
 rw[drop_getI h,List.all_cons]
set_option maxHeartbeats 1600000 in
theorem plan_any(N:Int)(a:Option Addr)(l:List A)(cap:Nat)(ba:Option Addr)(bs:List Int)(bc:Nat)(ca:Option Addr)(cs:List Int)(cc:Nat)(mo:Int)(w:World)(hl:l.length≤9223372036854775807)(hbl:bs.length≤9223372036854775807)(hcl:cs.length≤9223372036854775807)(hr:Arcs w a l)(hi:Ints w ba bs)(hj:Ints w ca cs):
  Calls Tryz.prog 54 #[.agg #[.int .i64 N, .slice a l.length cap], .slice ba bs.length bc, .slice ca cs.length cc, .int .i64 mo] w fun e w'=>e= .returned (.int .i64 (plE N l bs cs mo))∧Below w.heap.size w w':=by
 have hb0:Below w.heap.size w (w.alloc (.cells #[.int .i64 N, .slice a l.length cap] 24)):=(Below.refl _ _).alloc (Nat.le_refl _) _
 have hg:=heap_top w (.cells #[.int .i64 N, .slice a l.length cap] 24)
 have HB0:=hid hb0
 have HCK:=hid (check_any N a l cap _ hl (hr.on hb0))
 have HSM:=hid (nsSome_any ba bs.length bc)
 obtain⟨P,HP⟩:=named (plE N l bs cs mo)
 rw[HP.out]
 have HPE:Hid (P=plE N l bs cs mo):=HP.out.symm
 obtain⟨E,HE⟩:=named (chkE N l)
 rw[HE.out] at HCK
 unfold plE at HPE
 rw[HE.out] at HPE
 obtain⟨ib,ob,hib⟩:=hi.get
 obtain⟨ic,oc,hic⟩:=hj.get
 have HIB:=hid hib
 have HIC:=hid hic
 clear hr hi hj hb0 hib hic HP
 generalize hp:w.heap.size=p at*
 obtain⟨⟨a0,a1⟩,_⟩:=two_cells hg
 have HG:=hid hg
 go_enter Tryz.func54,Tryz.ntmps54
 go_wp2_with fail
 generalize hW:w.alloc (.cells #[.int .i64 N, .slice a l.length cap] 24)=W at*
 clear hW hg
 have hpW:p<W.heap.size:=lt_of_block HG.out
 refine HCK.out.mono ?_
 rintro e w1 ⟨rfl,hb1⟩
 have HB1:Hid (Below p w w1):=HB0.out.trans (hb1.mono (by omega))
 have HG1:=hid ((hb1.block p hpW).trans HG.out)
 have hz1:=hb1.size
 clear a0 a1 hb1 HCK HB0 HG
 by_cases h1:E=0
 ·subst h1
  go_wp2_with fail
  refine(HSM.out w1 hbl).mono ?_
  rintro e w1' ⟨rfl,rfl⟩
  by_cases h2:1≤bs.length∧bs.length≤5
  ·rw[decide_eq_true h2]
   have HPE1:Hid (P=if risB 0 bs=false then 1 else if 16384<cs.length then 2 else if cs.all (okV N)=false then 5 else if mo<0∨16384<mo then 1 else 0):=by
    show P=_
    rw[HPE.out,if_neg (by simp),if_neg (fun h=>h h2)]
   clear HPE
   obtain⟨V,HV⟩:=named (risB 0 bs)
   rw[HV.out] at HPE1
   go_wp2_with fail
   go_loopw [29,11] (fun i s11 wr=> ∃ (k:Nat) (bb:Int),k≤bs.length∧i= .int .i64 k∧s11= .int .i64 bb∧Hid (risB bb (bs.drop k)=V)∧wr=w1') (fun i _ _=>bs.length - (intOf i).toNat)
   case atStart=>exact⟨0,0,Nat.zero_le _,rfl,rfl,HV,rfl⟩
   case round=>
    obtain⟨k,bb,hk,rfl,rfl,HS,rfl⟩:=hrel
    by_cases hlk:k<bs.length
    ·obtain⟨rfl,hbl2,hat⟩:=HIB.out (by omega)
     have hlk':(k:Int)<bs.length:=by omega
     have y0:=(HB1.out.cell (p:=⟨ib,ob+k,none⟩) (hp▸hbl2)).trans (hat k hlk)
     have hk2:=HS.out
     rw[drop_getI hlk] at hk2
     simp only[risB] at hk2
     have HK2:=hid hk2
     clear hat hk2
     generalize bs.getD k 0=b at*
     go_wp2_with fail
     refine(nsBound_any b bb wr).mono ?_
     rintro e wr' ⟨rfl,rfl⟩
     by_cases h3:bb<b∧b≤1024
     ·have HK3:Hid (risB b (bs.drop (k+1))=V):=by have:=HK2.out;rw[if_pos h3] at this;exact this
      rw[decide_eq_true h3]
      go_wp2_with fail
      exact⟨⟨k+1,b,hlk,by simp,rfl,HK3,(by first | exact rfl | trivial)⟩,by simp[intOf];omega⟩
     ·obtain rfl:V=false:=by have:=HK2.out;rw[if_neg h3] at this;exact this.symm
      have HP1:Hid (P=1):=by show P=1;rw[HPE1.out,if_pos rfl]
      rw[decide_eq_false h3]
      go_wp2_with fail
      refine bodyPost_ret (results_tmp rfl _ _ _) rfl ?_
      exact⟨by rw[HP1.out];rfl,HB1.out⟩
    ·have hlk': ¬(k:Int)<bs.length:=by omega
     have e0:bs.drop k= []:=List.drop_eq_nil_of_le (by omega)
     obtain rfl:V=true:=by have:=HS.out;rw[e0] at this;exact this.symm
     have HPE2:Hid (P=if 16384<cs.length then 2 else if cs.all (okV N)=false then 5 else if mo<0∨16384<mo then 1 else 0):=by
      show P=_
      rw[HPE1.out,if_neg (by simp)]
     clear e0 HPE1
     by_cases h4:16384<cs.length
     ·have h4':(16384:Int)<cs.length:=by omega
      have HP1:Hid (P=2):=by show P=2;rw[HPE2.out,if_pos h4]
      go_wp2_with fail
      refine bodyPost_ret (results_tmp rfl _ _ _) rfl ?_
      exact⟨by rw[HP1.out];rfl,HB1.out⟩
     ·have h4': ¬(16384:Int)<cs.length:=by omega
      have HPE3:Hid (P=if cs.all (okV N)=false then 5 else if mo<0∨16384<mo then 1 else 0):=by
       show P=_
       rw[HPE2.out,if_neg h4]
      clear HPE2
      obtain⟨V2,HV2⟩:=named (cs.all (okV N))
      rw[HV2.out] at HPE3
      go_wp2_with fail
      go_loopw [44] (fun i ws=> ∃ (k:Nat),k≤cs.length∧i= .int .i64 k∧Hid ((cs.drop k).all (okV N)=V2)∧Hid (Below p w ws)∧Hid (ws.heap[p]? =some (.cells #[.int .i64 N, .slice a l.length cap] 24))) (fun i _=>cs.length - (intOf i).toNat)
      case atStart=>exact⟨0,Nat.zero_le _,rfl,HV2,HB1,HG1⟩
      case round=>
       obtain⟨j,hj,rfl,HS2,HBY,HGZ⟩:=hrel
       have hwz:p<wr.heap.size:=lt_of_block HGZ.out
       by_cases hlj:j<cs.length
       ·obtain⟨rfl,hcl2,hct⟩:=HIC.out (by omega)
        have hlj':(j:Int)<cs.length:=by omega
        have y0:=(HBY.out.cell (p:=⟨ic,oc+j,none⟩) (hp▸hcl2)).trans (hct j hlj)
        have hk2:=HS2.out
        rw[all_drop hlj] at hk2
        have HK2:=hid hk2
        obtain⟨⟨a0,a1⟩,_⟩:=two_cells HGZ.out
        clear hct hk2
        generalize cs.getD j 0=x at*
        go_wp2_with fail
        refine(nsVert_any N x a l.length cap wr).mono ?_
        rintro e wy ⟨rfl,hby⟩
        have HB4:Hid (Below p w wy):=HBY.out.trans (hby.mono (by omega))
        have HG4:=hid ((hby.block p hwz).trans HGZ.out)
        clear hby a0 a1
        by_cases h5:0≤x∧x<N
        ·have HK3:Hid ((cs.drop (j+1)).all (okV N)=V2):=by
          have:=HK2.out
          rw[show okV N x=true from decide_eq_true h5,Bool.true_and] at this
          exact this
         rw[decide_eq_true h5]
         go_wp2_with fail
         exact⟨⟨j+1,hlj,by simp,HK3,HB4,HG4⟩,by simp[intOf];omega⟩
        ·obtain rfl:V2=false:=by
          have:=HK2.out
          rw[show okV N x=false from decide_eq_false h5,Bool.false_and] at this
          exact this.symm
         have HP1:Hid (P=5):=by show P=5;rw[HPE3.out,if_pos rfl]
         rw[decide_eq_false h5]
         go_wp2_with fail
         refine bodyPost_ret (results_tmp rfl _ _ _) rfl ?_
         exact⟨by rw[HP1.out];rfl,HB4.out⟩
       ·have hlj': ¬(j:Int)<cs.length:=by omega
        have e0:cs.drop j= []:=List.drop_eq_nil_of_le (by omega)
        obtain rfl:V2=true:=by have:=HS2.out;rw[e0] at this;exact this.symm
        have HPE4:Hid (P=if mo<0∨16384<mo then 1 else 0):=by
         show P=_
         rw[HPE3.out,if_neg (by simp)]
        clear e0 HPE3
        by_cases h6:mo<0
        ·have HP1:Hid (P=1):=by show P=1;rw[HPE4.out,if_pos (.inl h6)]
         go_wp2_with fail
         refine bodyPost_ret (results_tmp rfl _ _ _) rfl ?_
         exact⟨by rw[HP1.out];rfl,HBY.out⟩
        ·by_cases h7:16384<mo
         ·have HP1:Hid (P=1):=by show P=1;rw[HPE4.out,if_pos (.inr h7)]
          go_wp2_with fail
          refine bodyPost_ret (results_tmp rfl _ _ _) rfl ?_
          exact⟨by rw[HP1.out];rfl,HBY.out⟩
         ·have HP1:Hid (P=0):=by show P=0;rw[HPE4.out,if_neg (by omega)]
          go_wp2_with fail
          refine bodyPost_ret (results_tmp rfl _ _ _) rfl ?_
          exact⟨by rw[HP1.out];rfl,HBY.out⟩
  ·rw[decide_eq_false h2]
   have HP1:Hid (P=111):=by show P=111;rw[HPE.out,if_neg (by simp),if_pos h2]
   go_wp2_with fail
   refine bodyPost_ret (results_tmp rfl _ _ _) rfl ?_
   exact⟨by rw[HP1.out];rfl,HB1.out⟩
 ·have e1:(E != 0)=true:=by simpa using h1
  have HP1:Hid (P=E):=by show P=E;rw[HPE.out,if_pos h1]
  go_wp2_with fail
  refine bodyPost_ret (results_tmp rfl _ _ _) rfl ?_
  exact⟨by rw[HP1.out];rfl,HB1.out⟩
end Go.Proofs.YtmenajiceaicpaaGreat
namespace Go.Proofs.YtmenajiceaicpaaGreat
open Go.RowKit Go.Shelf
attribute [local go_sem] Oper.semAt_some
section
variable {F:Fence} {n:Nat} {P:Program} {Q:Exit→Act→World→Prop} {md:Region.Mode}
theorem any_invIn{ops:Array Oper}(I:Array Bool→Act→World→Prop)
  (hstep: ∀listed a w i o,I listed a w→i∈Region.ready md ops listed→ops[i]? =some o→wpOpIn F n P ops Q i (I (listed.setIfInBounds i true)) a w)
  (hend: ∀listed a w,I listed a w→Region.ready md ops listed= []→Q .normal a w):
  ∀ (fuel:Nat) (listed:Array Bool) (a:Act) (w:World),F6.togo listed ops.size≤fuel→I listed a w→wpAnyIn F n P md ops Q fuel listed a w:=by
 intro fuel
 induction fuel with
 | zero=>
   intro listed a w hf hI
   have hr:Region.ready md ops listed= []:=by
    rw[List.eq_nil_iff_forall_not_mem]
    intro j hj
    obtain⟨h3,oj,h4,_⟩:=mem_ready.1 hj
    have hjs:j<ops.size:=(Array.getElem?_eq_some_iff.1 h4).1
    have:=F6.togo_zero (listed:=listed) ops.size (by omega) j hjs
    rw[h3] at this
    cases this
   exact⟨hr,hend _ _ _ hI hr⟩
 | succ fuel ih=>
   intro listed a w hf hI
   refine⟨fun hr=>hend _ _ _ hI hr,fun i hi=> ?_⟩
   obtain⟨h3,o,h4,_⟩:=mem_ready.1 hi
   have his:i<ops.size:=(Array.getElem?_eq_some_iff.1 h4).1
   refine wpOpIn_mono (fun a' w' hI'=>ih _ a' w' ?_ hI') (hstep listed a w i o hI hi h4)
   have:=F6.togo_set h3 ops.size his
   omega
theorem wpIn_region_inv{id:Nat}{ops:Array Oper}{a:Act}{w:World}(hf:P.follows .mixedOrders=true)(I:Array Bool→Act→World→Prop)(h0:I (Array.replicate ops.size false) a w.drew)
  (hstep: ∀listed a w i o,I listed a w→i∈Region.ready .any ops listed→ops[i]? =some o→wpOpIn F n P ops Q i (I (listed.setIfInBounds i true)) a w)
  (hend: ∀listed a w,I listed a w→Region.ready .any ops listed= []→Q .normal a w):(Code.region id ops true).wpIn F n P Q a w:=
 wpIn_region_any hf (any_invIn I hstep hend _ _ _ _ (F6.togo_le _ _) h0)
theorem wpOpIn_val{L:Nat}{ops:Array Oper}{i:Nat}{o:Oper}{v:Value}{K:Act→World→Prop}{a:Act}{w w':World}(ho:ops[i]? =some o)(hg:o.guard=none)(hd: ∀c,o.op≠ .defer c)
  (hr: ∀ρ:Operand→Value,(∀x,a.eval x=ρ x)→(execOp ρ o).run P w= .ok (.value v) w') (h:K (a.put o.dst v) w'):wpOpIn (Fence.wide.inRound L) n P ops Q i K a w:=by
 refine wpOpIn_step ho (fun K' hK=> ?_)
 rw[if_pos (by simp[Region.wanted,hg])]
 refine⟨fun _ _=>trivial,?_⟩
 show o.uponIn _ n P a K' Q ((o.semAt (some L) a.eval).run P w)
 rw[Oper.semAt_some L _ _ hd,hr a.eval (fun _=>rfl)]
 exact hK _ _ h
theorem wpOpIn_call{L:Nat}{ops:Array Oper}{i:Nat}{o:Oper}{f:FuncId}{args:Array Value}{K:Act→World→Prop}{a:Act}{w:World}(ho:ops[i]? =some o)(hg:o.guard=none)(hd: ∀c,o.op≠ .defer c)
  (hr: ∀ρ:Operand→Value,(∀x,a.eval x=ρ x)→(execOp ρ o).run P w= .ok (.enter f args) w) (h:Calls P f args w fun e w'=> ∃v,e= .returned v∧K (a.put o.dst v) w'):wpOpIn (Fence.wide.inRound L) n P ops Q i K a w:=by
 refine wpOpIn_step ho (fun K' hK=> ?_)
 rw[if_pos (by simp[Region.wanted,hg])]
 refine⟨fun _ _=>trivial,?_⟩
 show o.uponIn _ n P a K' Q ((o.semAt (some L) a.eval).run P w)
 rw[Oper.semAt_some L _ _ hd,hr a.eval (fun _=>rfl)]
 rw[Oper.uponIn_enter]
 refine⟨fun h=>(by cases h),?_⟩
 refine(CallsIn.inRound L (callsIn_wide.2 h)).mono ?_
 rintro e w' ⟨v,rfl,hk⟩
 exact hK _ _ hk
end
def ops9:Array Oper:= #[{dst:=some 39,op:=Op.fieldAddr 69 (Operand.tmp 14) 0,type:=0,pos:= "nest.go:85",after:= #[],guard:=none},
 {dst:=some 40,op:=Op.load 67 (Operand.tmp 39),type:=67,pos:= "nest.go:85",after:= #[{on:=0,ground:= .data}],guard:=none},
 {dst:=some 41,op:=Op.load 3 (Operand.tmp 6),type:=3,pos:= "nest.go:85",after:= #[],guard:=none},
 {dst:=some 42,op:=Op.call {callee:=Callee.value (Operand.func 47),args:= #[Operand.tmp 40,Operand.tmp 41],argTypes:= #[67,3]},type:=3,pos:= "nest.go:85",after:= #[{on:=1,ground:= .data},{on:=2,ground:= .data}],guard:=none},
 {dst:=some 43,op:=Op.fieldAddr 69 (Operand.tmp 14) 0,type:=0,pos:= "nest.go:85",after:= #[],guard:=none},
 {dst:=some 44,op:=Op.load 67 (Operand.tmp 43),type:=67,pos:= "nest.go:85",after:= #[{on:=4,ground:= .data}],guard:=none},
 {dst:=some 45,op:=Op.load 3 (Operand.tmp 7),type:=3,pos:= "nest.go:85",after:= #[],guard:=none},
 {dst:=some 46,op:=Op.call {callee:=Callee.value (Operand.func 47),args:= #[Operand.tmp 44,Operand.tmp 45],argTypes:= #[67,3]},type:=3,pos:= "nest.go:85",after:= #[{on:=5,ground:= .data},{on:=6,ground:= .data},{on:=3,ground:= .chain}],guard:=none},
 {dst:=some 47,op:=Op.binOp BinOp.neq 3 (Operand.tmp 42) (Operand.tmp 46) 3,type:=4,pos:= "nest.go:85",after:= #[{on:=3,ground:= .data},{on:=7,ground:= .data}],guard:=none}]
def fr9(T U:Nat→Value):Act:={tmps:= #[T 0,T 1,T 2,T 3,T 4,T 5,T 6,T 7,T 8,T 9,T 10,T 11,T 12,T 13,T 14,T 15,T 16,T 17,T 18,T 19,T 20,T 21,T 22,T 23,T 24,T 25,T 26,T 27,T 28,T 29,T 30,T 31,T 32,T 33,T 34,T 35,T 36,T 37,T 38,U 39,U 40,U 41,U 42,U 43,U 44,U 45,U 46,U 47,undef,undef],defers:= []}
def vl9(Bx:Nat)(xa:Option Addr)(m xc:Nat)(sa:Option Addr)(sm sc un vn:Nat)(F:Nat→Int):Nat→Value
 | 39=> .pointer (some ⟨Bx,0,none⟩)
 | 40=> .agg #[.slice xa m xc, .slice sa sm sc]
 | 41=> .int .i64 un
 | 42=> .int .i64 (F un)
 | 43=> .pointer (some ⟨Bx,0,none⟩)
 | 44=> .agg #[.slice xa m xc, .slice sa sm sc]
 | 45=> .int .i64 vn
 | 46=> .int .i64 (F vn)
 | 47=> .bool (F un != F vn)
 | _=>undef
theorem fr9_put(T U:Nat→Value)(v:Value)(s:Nat)(hs:39≤s∧s<48):(fr9 T U).put (some s) v=fr9 T (updV U s v):=by
 obtain⟨h1,h2⟩:=hs
 have:s=39∨s=40∨s=41∨s=42∨s=43∨s=44∨s=45∨s=46∨s=47:=by omega
 rcases this with rfl | rfl | rfl | rfl | rfl | rfl | rfl | rfl | rfl <;> rfl
structure I9(W:World)(T:Nat→Value)(V:Nat→Value)(L:Array Bool)(a:Act)(X:World):Prop where
 ex: ∃U,a=fr9 T U∧∀k,k<9→F6.on L k→U (39+k)=V (39+k)
 sz:L.size=9
 below:Below W.heap.size W X
theorem I9.step{W:World}{T V U:Nat→Value}{L:Array Bool}{X X':World}(h:I9 W T V L (fr9 T U) X)(hU: ∀k,k<9→F6.on L k→U (39+k)=V (39+k)){i:Nat}(hi:i<9){v:Value}(hv:v=V (39+i))(hb:Below W.heap.size W X'):I9 W T V (L.setIfInBounds i true) ((fr9 T U).put (some (39+i)) v) X':=by
 refine⟨⟨updV U (39+i) v,fr9_put T U v _ (by omega),fun k hk hon=> ?_⟩,by simp[h.sz],hb⟩
 by_cases e:k=i
 ·subst e;rw[updV_self];exact hv
 ·rw[updV_ne _ _ (by omega)]
  rcases F6.on_set hon with h1 | h1
  ·exact absurd h1 e
  ·exact hU k hk h1
set_option maxHeartbeats 4000000 in
theorem apart_region{L n:Nat}{Q:Exit→Act→World→Prop}{T:Nat→Value}{W:World}{Bx b2 b3:Nat}{xa:Option Addr}{m xc:Nat}{sa:Option Addr}{sm sc un vn:Nat}(F:Nat→Int)
  (h6:T 6= .pointer (some ⟨b2,0,none⟩)) (h7:T 7= .pointer (some ⟨b3,0,none⟩)) (h14:T 14= .pointer (some ⟨Bx,0,none⟩))
  (l0:Bx<W.heap.size) (l2:b2<W.heap.size) (l3:b3<W.heap.size) (d0:W.cell? ⟨Bx,0,none⟩=some (.slice xa m xc)) (d1:W.cell? ⟨Bx,1,none⟩=some (.slice sa sm sc)) (d2:W.cell? ⟨b2,0,none⟩=some (.int .i64 un)) (d3:W.cell? ⟨b3,0,none⟩=some (.int .i64 vn))
  (HC: ∀X,Below W.heap.size W X→∀t,t=un∨t=vn→Calls Tryz.prog 47 #[.agg #[.slice xa m xc, .slice sa sm sc], .int .i64 (t:Int)] X fun e w'=>e= .returned (.int .i64 (F t))∧Below W.heap.size W w')
  (hQ: ∀W',Below W.heap.size W W'→Q .normal (fr9 T (vl9 Bx xa m xc sa sm sc un vn F)) W'):
  (Code.region 9 ops9 true).wpIn (Fence.wide.inRound L) n Tryz.prog Q (fr9 T (fun _=>undef)) W:=by
 refine wpIn_region_inv (by kernel_rfl) (I9 W T (vl9 Bx xa m xc sa sm sc un vn F)) ⟨⟨_,rfl,fun k _ hon=> ?_⟩,rfl,(Below.refl _ _).drew⟩ ?_ ?_
 ·exfalso
  unfold F6.on at hon
  simp[Array.getD,ops9] at hon
 ·intro listed a X i o hI hi ho
  obtain⟨hl,o',ho',haf⟩:=mem_ready.1 hi
  rw[ho] at ho'
  injection ho' with ho'
  subst ho'
  obtain⟨U,rfl,hU⟩:=hI.ex
  have c0:=(hI.below.cell (p:=⟨Bx,0,none⟩) l0).trans d0
  have c1:=(hI.below.cell (p:=⟨Bx,1,none⟩) l0).trans d1
  have c2:=(hI.below.cell (p:=⟨b2,0,none⟩) l2).trans d2
  have c3:=(hI.below.cell (p:=⟨b3,0,none⟩) l3).trans d3
  have hi9:i<9:=(Array.getElem?_eq_some_iff.1 ho).1
  have on9: ∀e,e∈o.after→Region.binds .any e=true→F6.on listed e.on:=fun e he hb=>haf e he hb
  match i,hi9,ho with
  | 0,_,ho=>
    have ho3:ops9[0]? =some {dst:=some 39,op:=Op.fieldAddr 69 (Operand.tmp 14) 0,type:=0,pos:= "nest.go:85",after:= #[],guard:=none}:=rfl
    rw[ho3] at ho
    injection ho with ho
    subst ho
    refine wpOpIn_val (v:= .pointer (some ⟨Bx,0,none⟩)) (w':=X) ho3 rfl (fun c h=>(by cases h)) (fun ρ hρ=> ?_) (hI.step hU (i:=0) (by omega) rfl hI.below)
    have e14:ρ (.tmp 14)= .pointer (some ⟨Bx,0,none⟩):=(hρ (.tmp 14)).symm.trans h14
    simp[go_sem,e14]
    done
  | 1,_,ho=>
    have ho3:ops9[1]? =some {dst:=some 40,op:=Op.load 67 (Operand.tmp 39),type:=67,pos:= "nest.go:85",after:= #[{on:=0,ground:= .data}],guard:=none}:=rfl
    rw[ho3] at ho
    injection ho with ho
    subst ho
    have u39:U 39= .pointer (some ⟨Bx,0,none⟩):=hU 0 (by omega) (on9 {on:=0,ground:= .data} (by simp) rfl)
    refine wpOpIn_val (v:= .agg #[.slice xa m xc, .slice sa sm sc]) (w':=X) ho3 rfl (fun c h=>(by cases h)) (fun ρ hρ=> ?_) (hI.step hU (i:=1) (by omega) rfl hI.below)
    have e1:ρ (.tmp 39)= .pointer (some ⟨Bx,0,none⟩):=(hρ (.tmp 39)).symm.trans u39
    simp[go_sem,e1,c0,c1]
    done
  | 2,_,ho=>
    have ho3:ops9[2]? =some {dst:=some 41,op:=Op.load 3 (Operand.tmp 6),type:=3,pos:= "nest.go:85",after:= #[],guard:=none}:=rfl
    rw[ho3] at ho
    injection ho with ho
    subst ho
    refine wpOpIn_val (v:= .int .i64 un) (w':=X) ho3 rfl (fun c h=>(by cases h)) (fun ρ hρ=> ?_) (hI.step hU (i:=2) (by omega) rfl hI.below)
    have e1:ρ (.tmp 6)= .pointer (some ⟨b2,0,none⟩):=(hρ (.tmp 6)).symm.trans h6
    simp[go_sem,e1,c2]
    done
  | 3,_,ho=>
    have ho3:ops9[3]? =some {dst:=some 42,op:=Op.call {callee:=Callee.value (Operand.func 47),args:= #[Operand.tmp 40,Operand.tmp 41],argTypes:= #[67,3]},type:=3,pos:= "nest.go:85",after:= #[{on:=1,ground:= .data},{on:=2,ground:= .data}],guard:=none}:=rfl
    rw[ho3] at ho
    injection ho with ho
    subst ho
    have u40:U 40= .agg #[.slice xa m xc, .slice sa sm sc]:=hU 1 (by omega) (on9 {on:=1,ground:= .data} (by simp) rfl)
    have u41:U 41= .int .i64 un:=hU 2 (by omega) (on9 {on:=2,ground:= .data} (by simp) rfl)
    refine wpOpIn_call (f:=47) (args:= #[.agg #[.slice xa m xc, .slice sa sm sc], .int .i64 (un:Int)]) ho3 rfl (fun c h=>(by cases h)) (fun ρ hρ=> ?_) ((HC X hI.below un (.inl rfl)).mono ?_)
    ·have e1:ρ (.tmp 40)= .agg #[.slice xa m xc, .slice sa sm sc]:=(hρ (.tmp 40)).symm.trans u40
     have e2:ρ (.tmp 41)= .int .i64 un:=(hρ (.tmp 41)).symm.trans u41
     have e0:ρ (.func 47)= .func (.func 47) #[] #[]:=(hρ (.func 47)).symm
     simp[go_sem,e0,e1,e2]
     done
    ·rintro e w' ⟨rfl,hb⟩
     exact⟨_,rfl,hI.step hU (i:=3) (by omega) rfl hb⟩
  | 4,_,ho=>
    have ho3:ops9[4]? =some {dst:=some 43,op:=Op.fieldAddr 69 (Operand.tmp 14) 0,type:=0,pos:= "nest.go:85",after:= #[],guard:=none}:=rfl
    rw[ho3] at ho
    injection ho with ho
    subst ho
    refine wpOpIn_val (v:= .pointer (some ⟨Bx,0,none⟩)) (w':=X) ho3 rfl (fun c h=>(by cases h)) (fun ρ hρ=> ?_) (hI.step hU (i:=4) (by omega) rfl hI.below)
    have e14:ρ (.tmp 14)= .pointer (some ⟨Bx,0,none⟩):=(hρ (.tmp 14)).symm.trans h14
    simp[go_sem,e14]
    done
  | 5,_,ho=>
    have ho3:ops9[5]? =some {dst:=some 44,op:=Op.load 67 (Operand.tmp 43),type:=67,pos:= "nest.go:85",after:= #[{on:=4,ground:= .data}],guard:=none}:=rfl
    rw[ho3] at ho
    injection ho with ho
    subst ho
    have u43:U 43= .pointer (some ⟨Bx,0,none⟩):=hU 4 (by omega) (on9 {on:=4,ground:= .data} (by simp) rfl)
    refine wpOpIn_val (v:= .agg #[.slice xa m xc, .slice sa sm sc]) (w':=X) ho3 rfl (fun c h=>(by cases h)) (fun ρ hρ=> ?_) (hI.step hU (i:=5) (by omega) rfl hI.below)
    have e1:ρ (.tmp 43)= .pointer (some ⟨Bx,0,none⟩):=(hρ (.tmp 43)).symm.trans u43
    simp[go_sem,e1,c0,c1]
    done
  | 6,_,ho=>
    have ho3:ops9[6]? =some {dst:=some 45,op:=Op.load 3 (Operand.tmp 7),type:=3,pos:= "nest.go:85",after:= #[],guard:=none}:=rfl
    rw[ho3] at ho
    injection ho with ho
    subst ho
    refine wpOpIn_val (v:= .int .i64 vn) (w':=X) ho3 rfl (fun c h=>(by cases h)) (fun ρ hρ=> ?_) (hI.step hU (i:=6) (by omega) rfl hI.below)
    have e1:ρ (.tmp 7)= .pointer (some ⟨b3,0,none⟩):=(hρ (.tmp 7)).symm.trans h7
    simp[go_sem,e1,c3]
    done
  | 7,_,ho=>
    have ho3:ops9[7]? =some {dst:=some 46,op:=Op.call {callee:=Callee.value (Operand.func 47),args:= #[Operand.tmp 44,Operand.tmp 45],argTypes:= #[67,3]},type:=3,pos:= "nest.go:85",after:= #[{on:=5,ground:= .data},{on:=6,ground:= .data},{on:=3,ground:= .chain}],guard:=none}:=rfl
    rw[ho3] at ho
    injection ho with ho
    subst ho
    have u44:U 44= .agg #[.slice xa m xc, .slice sa sm sc]:=hU 5 (by omega) (on9 {on:=5,ground:= .data} (by simp) rfl)
    have u45:U 45= .int .i64 vn:=hU 6 (by omega) (on9 {on:=6,ground:= .data} (by simp) rfl)
    refine wpOpIn_call (f:=47) (args:= #[.agg #[.slice xa m xc, .slice sa sm sc], .int .i64 (vn:Int)]) ho3 rfl (fun c h=>(by cases h)) (fun ρ hρ=> ?_) ((HC X hI.below vn (.inr rfl)).mono ?_)
    ·have e1:ρ (.tmp 44)= .agg #[.slice xa m xc, .slice sa sm sc]:=(hρ (.tmp 44)).symm.trans u44
     have e2:ρ (.tmp 45)= .int .i64 vn:=(hρ (.tmp 45)).symm.trans u45
     have e0:ρ (.func 47)= .func (.func 47) #[] #[]:=(hρ (.func 47)).symm
     simp[go_sem,e0,e1,e2]
     done
    ·rintro e w' ⟨rfl,hb⟩
     exact⟨_,rfl,hI.step hU (i:=7) (by omega) rfl hb⟩
  | 8,_,ho=>
    have ho3:ops9[8]? =some {dst:=some 47,op:=Op.binOp BinOp.neq 3 (Operand.tmp 42) (Operand.tmp 46) 3,type:=4,pos:= "nest.go:85",after:= #[{on:=3,ground:= .data},{on:=7,ground:= .data}],guard:=none}:=rfl
    rw[ho3] at ho
    injection ho with ho
    subst ho
    have u42:U 42= .int .i64 (F un):=hU 3 (by omega) (on9 {on:=3,ground:= .data} (by simp) rfl)
    have u46:U 46= .int .i64 (F vn):=hU 7 (by omega) (on9 {on:=7,ground:= .data} (by simp) rfl)
    refine wpOpIn_val (v:= .bool (F un != F vn)) (w':=X) ho3 rfl (fun c h=>(by cases h)) (fun ρ hρ=> ?_) (hI.step hU (i:=8) (by omega) rfl hI.below)
    have e1:ρ (.tmp 42)= .int .i64 (F un):=(hρ (.tmp 42)).symm.trans u42
    have e2:ρ (.tmp 46)= .int .i64 (F vn):=(hρ (.tmp 46)).symm.trans u46
    simp[go_sem,e1,e2]
    done
  | k+9,h,_=>exact absurd h (by omega)
 ·intro listed a X hI hr
  obtain⟨U,rfl,hU⟩:=hI.ex
  have hall:=F6.all_on (ops:=ops9) (L:=listed) (by decide+kernel) (by rw[hI.sz];rfl) hr
  have e:fr9 T U=fr9 T (vl9 Bx xa m xc sa sm sc un vn F):=by
   unfold fr9
   rw[show U 39=vl9 Bx xa m xc sa sm sc un vn F 39 from hU 0 (by omega) (hall 0 (by decide))]
   rw[show U 40=vl9 Bx xa m xc sa sm sc un vn F 40 from hU 1 (by omega) (hall 1 (by decide))]
   rw[show U 41=vl9 Bx xa m xc sa sm sc un vn F 41 from hU 2 (by omega) (hall 2 (by decide))]
   rw[show U 42=vl9 Bx xa m xc sa sm sc un vn F 42 from hU 3 (by omega) (hall 3 (by decide))]
   rw[show U 43=vl9 Bx xa m xc sa sm sc un vn F 43 from hU 4 (by omega) (hall 4 (by decide))]
   rw[show U 44=vl9 Bx xa m xc sa sm sc un vn F 44 from hU 5 (by omega) (hall 5 (by decide))]
   rw[show U 45=vl9 Bx xa m xc sa sm sc un vn F 45 from hU 6 (by omega) (hall 6 (by decide))]
   rw[show U 46=vl9 Bx xa m xc sa sm sc un vn F 46 from hU 7 (by omega) (hall 7 (by decide))]
   rw[show U 47=vl9 Bx xa m xc sa sm sc un vn F 47 from hU 8 (by omega) (hall 8 (by decide))]
  rw[e]
  exact hQ X hI.below
end Go.Proofs.YtmenajiceaicpaaGreat
