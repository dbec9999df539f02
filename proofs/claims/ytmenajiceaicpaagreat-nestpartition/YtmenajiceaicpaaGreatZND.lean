import Derived.Deep.Slices
import Derived.Test.YtmenajiceaicpaaGreatZNC
import Derived.Test.YtmenajiceaicpaaGreatZAD
open Go.Lib (hid)
namespace Go.Proofs.YtmenajiceaicpaaGreat
open Go.RowKit Go.Shelf
attribute [local go_sem] Oper.semAt_some
def apE(N:Int)(l:List A)(bs:List Int)(cs:List (List Int))(u v:Int):Int:=if nsE N l bs cs≠0 then nsE N l bs cs else if ¬(0≤u∧u<N)∨¬(0≤v∧v<N) then 5 else 0
def apV(N:Int)(l:List A)(bs:List Int)(cs:List (List Int))(u v:Int):Nat:=if apE N l bs cs u v=0 then apt cs u.toNat v.toNat bs.length else 0
theorem top6(w:World)(o0 o1 o2 o3 o4 o5:Obj):Below w.heap.size w ((((((w.alloc o0).alloc o1).alloc o2).alloc o3).alloc o4).alloc o5)∧((((((w.alloc o0).alloc o1).alloc o2).alloc o3).alloc o4).alloc o5).heap.size=w.heap.size+6∧(∀k o,[o0,o1,o2,o3,o4,o5][k]? =some o→((((((w.alloc o0).alloc o1).alloc o2).alloc o3).alloc o4).alloc o5).heap[w.heap.size+k]? =some o):=by
 have s1:(w.alloc o0).heap.size=w.heap.size+1:=by simp
 have s2:((w.alloc o0).alloc o1).heap.size=w.heap.size+2:=by simp
 have s3:(((w.alloc o0).alloc o1).alloc o2).heap.size=w.heap.size+3:=by simp
 have s4:((((w.alloc o0).alloc o1).alloc o2).alloc o3).heap.size=w.heap.size+4:=by simp
 have s5:(((((w.alloc o0).alloc o1).alloc o2).alloc o3).alloc o4).heap.size=w.heap.size+5:=by simp
 refine⟨?_,by simp,fun k o hk=> ?_⟩
 ·exact((((((Below.refl _ _).alloc (Nat.le_refl _) _).alloc (by omega) _).alloc (by omega) _).alloc (by omega) _).alloc (by omega) _).alloc (by omega) _
 ·match k,hk with
  | 0,hk=>injection hk with hk;subst hk;exact(Below.heap_alloc _ _ _ (by omega)).trans ((Below.heap_alloc _ _ _ (by omega)).trans ((Below.heap_alloc _ _ _ (by omega)).trans ((Below.heap_alloc _ _ _ (by omega)).trans ((Below.heap_alloc _ _ _ (by omega)).trans (heap_top w _)))))
  | 1,hk=>injection hk with hk;subst hk;exact(Below.heap_alloc _ _ _ (by omega)).trans ((Below.heap_alloc _ _ _ (by omega)).trans ((Below.heap_alloc _ _ _ (by omega)).trans ((Below.heap_alloc _ _ _ (by omega)).trans (s1▸heap_top (w.alloc o0) _))))
  | 2,hk=>injection hk with hk;subst hk;exact(Below.heap_alloc _ _ _ (by omega)).trans ((Below.heap_alloc _ _ _ (by omega)).trans ((Below.heap_alloc _ _ _ (by omega)).trans (s2▸heap_top ((w.alloc o0).alloc o1) _)))
  | 3,hk=>injection hk with hk;subst hk;exact(Below.heap_alloc _ _ _ (by omega)).trans ((Below.heap_alloc _ _ _ (by omega)).trans (s3▸heap_top (((w.alloc o0).alloc o1).alloc o2) _))
  | 4,hk=>injection hk with hk;subst hk;exact(Below.heap_alloc _ _ _ (by omega)).trans (s4▸heap_top ((((w.alloc o0).alloc o1).alloc o2).alloc o3) _)
  | 5,hk=>injection hk with hk;subst hk;exact s5▸heap_top (((((w.alloc o0).alloc o1).alloc o2).alloc o3).alloc o4) _
  | k+6,hk=>cases hk
theorem one_cell{w:World}{b:Nat}{v:Value}{t:TypeId}(h:w.heap[b]? =some (.cells #[v] t)):w.cell? ⟨b,0,none⟩=some v∧w.frozen? ⟨b,0,none⟩=false:=by
 simp[World.cell?,World.frozen?,h]
theorem put2{w:World}{b4 b5:Nat}{x0 y0:Value}{t4 t5:TypeId}(h4:w.heap[b4]? =some (.cells #[x0] t4))(h5:w.heap[b5]? =some (.cells #[y0] t5))(hne:b4≠b5)(x y:Value):((w.setCell ⟨b4,0,none⟩ x).setCell ⟨b5,0,none⟩ y).heap[b4]? =some (.cells #[x] t4)∧((w.setCell ⟨b4,0,none⟩ x).setCell ⟨b5,0,none⟩ y).heap[b5]? =some (.cells #[y] t5):=by
 have h1:=heap_setCell_same w b4 0 _ _ x h4
 have h2:=(Below.heap_setCell w ⟨b4,0,none⟩ x b5 (fun e=>hne e.symm)).trans h5
 exact⟨(Below.heap_setCell _ ⟨b5,0,none⟩ y b4 hne).trans (h1.trans (by simp)),(heap_setCell_same _ b5 0 _ _ y h2).trans (by simp)⟩
theorem below_set2{w w':World}{p b c:Nat}(h:Below p w w')(hb:p≤b)(hc:p≤c)(x y:Value):Below p w ((w'.setCell ⟨b,0,none⟩ x).setCell ⟨c,0,none⟩ y):=(h.setCell (p:=⟨b,0,none⟩) hb x).setCell (p:=⟨c,0,none⟩) hc y
set_option maxRecDepth 100000 in
set_option maxHeartbeats 4000000 in
theorem apart_any(N:Int)(a:Option Addr)(l:List A)(cap:Nat)(ba:Option Addr)(bs:List Int)(bc:Nat)(ca:Option Addr)(C:List Cl)(cc:Nat)(u v:Int)(w:World)(hl:l.length≤9223372036854775807)(hbl:bs.length≤9223372036854775807)(hr:Arcs w a l)(hi:Ints w ba bs)(hR:Rws w ca C):
  Calls Tryz.prog 23 #[.agg #[.int .i64 N, .slice a l.length cap], .agg #[.slice ba bs.length bc, .slice ca C.length cc], .int .i64 u, .int .i64 v] w fun e w'=>e= .returned (.tuple #[.int .i64 (apV N l bs (csl C) u v:Nat), .int .i64 (apE N l bs (csl C) u v)])∧Below w.heap.size w w':=by
 refine(callsIn_wide (n:=6)).1 ?_
 obtain⟨hb0,hsz,hat⟩:=top6 w (.cells #[.int .i64 N, .slice a l.length cap] 24) (.cells #[.slice ba bs.length bc, .slice ca C.length cc] 28) (.cells #[.int .i64 u] 3) (.cells #[.int .i64 v] 3) (.cells #[.int .i64 0] 3) (.cells #[.int .i64 0] 35)
 have hg0:=hat 0 _ rfl
 have hg1:=hat 1 _ rfl
 have hg2:=hat 2 _ rfl
 have hg3:=hat 3 _ rfl
 have hg4:=hat 4 _ rfl
 have hg5:=hat 5 _ rfl
 clear hat
 have HLK:=hid (look_any N a l cap ba bs bc ca C cc _ hl hbl (hr.on hb0) (hi.on hb0) (hR.on hb0))
 have HRR:=hid hR
 have HB0:=hid hb0
 clear hr hi hR hb0
 rw[Nat.add_zero] at hg0
 generalize hp:w.heap.size=p at*
 obtain⟨E,HE⟩:=named (apE N l bs (csl C) u v)
 obtain⟨R,HRV⟩:=named (apV N l bs (csl C) u v)
 rw[HE.out,HRV.out]
 obtain⟨⟨a0,a1⟩,_⟩:=two_cells hg0
 obtain⟨⟨a2,a3⟩,_⟩:=two_cells hg1
 refine callsIn_of_wp_marks Tryz.func23 rfl trivial ?_ rfl
 simp only[Tryz.ntmps23,List.size_toArray,List.length_cons,List.length_nil,Nat.reduceAdd,Nat.reduceSub,Array.replicate_succ,Array.replicate_zero,List.push_toArray,List.append_toArray,List.nil_append,List.cons_append]
 gi_wp2_with fail
 generalize hW:(((((w.alloc (.cells #[.int .i64 N, .slice a l.length cap] 24)).alloc (.cells #[.slice ba bs.length bc, .slice ca C.length cc] 28)).alloc (.cells #[.int .i64 u] 3)).alloc (.cells #[.int .i64 v] 3)).alloc (.cells #[.int .i64 0] 3)).alloc (.cells #[.int .i64 0] 35)=W at*
 clear hW a0 a1 a2 a3
 have h5e:p+1+1+1+1+1=p+5:=rfl
 have h4e:p+1+1+1+1=p+4:=rfl
 have h3e:p+1+1+1=p+3:=rfl
 have h2e:p+1+1=p+2:=rfl
 rw[h5e,h4e,h3e,h2e]
 clear h5e h4e h3e h2e
 obtain⟨b5,hb5⟩: ∃b5,p+5=b5:=⟨_,rfl⟩
 obtain⟨b4,hb4⟩: ∃b4,p+4=b4:=⟨_,rfl⟩
 obtain⟨b3,hb3⟩: ∃b3,p+3=b3:=⟨_,rfl⟩
 obtain⟨b2,hb2⟩: ∃b2,p+2=b2:=⟨_,rfl⟩
 rw[hb5] at hg5
 rw[hb4] at hg4
 rw[hb3] at hg3
 rw[hb2] at hg2
 rw[hb5,hb4,hb3,hb2]
 have q5:p≤b5∧b5<W.heap.size:=by omega
 have q4:p≤b4∧b4<W.heap.size:=by omega
 have q3:p≤b3∧b3<W.heap.size:=by omega
 have q2:p≤b2∧b2<W.heap.size:=by omega
 have n45:b4≠b5:=by omega
 have n54:b5≠b4:=by omega
 clear hb5 hb4 hb3 hb2
 have FIN: ∀ (w':World) (x y:Value) (t4 t5:TypeId) (x0 y0:Value),w'.heap[b4]? =some (.cells #[x0] t4)→w'.heap[b5]? =some (.cells #[y0] t5)→((w'.setCell ⟨b4,0,none⟩ x).setCell ⟨b5,0,none⟩ y).cell? ⟨b4,0,none⟩=some x∧((w'.setCell ⟨b4,0,none⟩ x).setCell ⟨b5,0,none⟩ y).cell? ⟨b5,0,none⟩=some y:=fun w' x y t4 t5 x0 y0 h4 h5=>⟨(one_cell (put2 h4 h5 n45 x y).1).1,(one_cell (put2 h4 h5 n45 x y).2).1⟩
 have HFIN:=hid FIN
 clear FIN
 by_cases h1:nsE N l bs (csl C)=0
 ·have HL:=hid (HLK.out.mono (fun e w' h=>(⟨h.1 h1,h.2.2⟩:(∃g,(∃c,e= .returned (.tuple #[.slice (some ⟨g,0,none⟩) bs.length c, .int .i64 0, .int .i64 0]))∧Hid (LvR w' g C bs))∧_)))
  have hEE:E=if ¬(0≤u∧u<N)∨¬(0≤v∧v<N) then 5 else 0:=by rw[←HE.out];unfold apE;rw[if_neg (by rw[h1];simp)]
  have HEE:=hid hEE
  have hNR:=nsE_zero.1 h1
  have h5:=hNR.2.2.1
  have h51:=hNR.2.1
  have HNR:=hid hNR
  clear HLK h1 hEE hNR
  refine⟨trivial,(callsIn_wide.2 HL.out).mono ?_⟩
  rintro e w1 ⟨⟨g,⟨c,rfl⟩,HLR⟩,hb1⟩
  have HB1:Hid (Below p w w1):=HB0.out.trans (hb1.mono (by omega))
  have hz1:=hb1.size
  have k0:=(hb1.block p (by omega)).trans hg0
  have k2:=(hb1.block b2 q2.2).trans hg2
  have k3:=(hb1.block b3 q3.2).trans hg3
  have k4:=(hb1.block b4 q4.2).trans hg4
  have k5:=(hb1.block b5 q5.2).trans hg5
  clear hb1 HL hg0 hg1 hg2 hg3 hg4 hg5 HB0
  have HK0:=hid k0
  have HK2:=hid k2
  have HK3:=hid k3
  have HK4:=hid k4
  have HK5:=hid k5
  obtain⟨⟨a0,a1⟩,_⟩:=two_cells k0
  obtain⟨c2,_⟩:=one_cell k2
  obtain⟨c3,_⟩:=one_cell k3
  clear k0 k2 k3 k4 k5
  gi_wp2_with fail
  refine⟨trivial,(callsIn_wide.2 (nsVert_any N u a l.length cap w1)).mono ?_⟩
  rintro e w2 ⟨rfl,hb2⟩
  have HL2:=hid (HLR.out.on hb2)
  have HB2:Hid (Below p w w2):=HB1.out.trans (hb2.mono (by omega))
  have hz2:=hb2.size
  have k0:=(hb2.block p (by omega)).trans HK0.out
  have k2:=(hb2.block b2 (by omega)).trans HK2.out
  have k3:=(hb2.block b3 (by omega)).trans HK3.out
  have k4:=(hb2.block b4 (by omega)).trans HK4.out
  have k5:=(hb2.block b5 (by omega)).trans HK5.out
  clear hb2 HLR HB1 HK0 HK2 HK3 HK4 HK5 a0 a1 c2 c3
  have HK0:=hid k0
  have HK2:=hid k2
  have HK3:=hid k3
  have HK4:=hid k4
  have HK5:=hid k5
  obtain⟨⟨a0,a1⟩,_⟩:=two_cells k0
  obtain⟨c2,_⟩:=one_cell k2
  obtain⟨c3,_⟩:=one_cell k3
  obtain⟨c4,f4⟩:=one_cell k4
  obtain⟨c5,f5⟩:=one_cell k5
  clear k0 k2 k3 k4 k5
  by_cases hu:0≤u∧u<N
  ·rw[decide_eq_true hu]
   gi_wp2_with fail
   refine⟨trivial,(callsIn_wide.2 (nsVert_any N v a l.length cap w2)).mono ?_⟩
   rintro e w3 ⟨rfl,hb3⟩
   have HL3:=hid (HL2.out.on hb3)
   have HB3:Hid (Below p w w3):=HB2.out.trans (hb3.mono (by omega))
   have hz3:=hb3.size
   have k2:=(hb3.block b2 (by omega)).trans HK2.out
   have k3:=(hb3.block b3 (by omega)).trans HK3.out
   have k4:=(hb3.block b4 (by omega)).trans HK4.out
   have k5:=(hb3.block b5 (by omega)).trans HK5.out
   clear hb3 HL2 HB2 HK0 HK2 HK3 HK4 HK5 a0 a1 c2 c3 c4 c5 f4 f5
   have HK2:=hid k2
   have HK3:=hid k3
   have HK4:=hid k4
   have HK5:=hid k5
   obtain⟨c4,f4⟩:=one_cell k4
   obtain⟨c5,f5⟩:=one_cell k5
   clear k2 k3 k4 k5
   by_cases hv:0≤v∧v<N
   ·rw[decide_eq_true hv]
    clear c4 f4 c5 f5
    gi_wp2_with fail
    refine⟨trivial,(callsIn_wide.2 (back_any (some ⟨g,0,none⟩) bs.length c w3)).mono ?_⟩
    rintro e w4 ⟨rfl,rfl⟩
    gi_wp2_with fail
    obtain⟨n,rfl⟩: ∃n:Nat,N=n:=⟨N.toNat,by omega⟩
    obtain⟨un,rfl⟩: ∃k:Nat,u=k:=⟨u.toNat,by omega⟩
    obtain⟨vn,rfl⟩: ∃k:Nat,v=k:=⟨v.toNat,by omega⟩
    have e0:E=0:=by rw[HEE.out,if_neg (fun h=>h.elim (fun h=>h hu) (fun h=>h hv))]
    have eR:R=apt (csl C) un vn bs.length:=by rw[←HRV.out];unfold apV;rw[HE.out,if_pos e0];rfl
    have HER:=hid eR
    subst e0
    clear eR HEE HE HRV
    have hun:un<n:=by omega
    have hvn:vn<n:=by omega
    have HLN:Hid (∀x:Fin bs.length,(cl C x.val).xs.length=n):=fun x=>by
     have:=(HNR.out.lv x.isLt).1
     rw[csl_at] at this
     omega
    have hn4:=(chk_zero HNR.out.1).2.1
    have hCl:C.length=bs.length:=by have:=HNR.out.2.2.2.1;rw[csl_len] at this;exact this
    have HIX:Hid (∀x:Fin bs.length,Ints w (cl C x.val).a (cl C x.val).xs):=fun x=>(HRR.out.2 x.val (by rw[hCl];exact x.isLt)).1
    clear hCl
    obtain⟨bf,hbf⟩: ∃f:Nat→Int,∀j,bs.getD j 0=f j:=⟨_,fun _=>rfl⟩
    obtain⟨SD,hSD⟩:=Go.Deep.choose_lt (α:=Option Addr × Nat) (n:=bs.length) (p:=fun j t=>w3.cell? ⟨g,j*3,none⟩=some (.slice (cl C j).a (cl C j).xs.length (cl C j).c)∧w3.cell? ⟨g,j*3+1,none⟩=some (.slice t.1 (szL (cl C j).xs).length t.2)∧w3.cell? ⟨g,j*3+2,none⟩=some (.int .i64 (bf j))) (fun j hj=>by
     obtain⟨s,d,h1,h2,h3,_⟩:=HL3.out.2 j hj
     rw[hbf] at h3
     exact⟨(s,d),h1,h2,h3⟩)
    clear hbf
    have hg3:=HL3.out.1
    have hbV:Below w3.heap.size w3 (w3.alloc (.cells #[.slice (some ⟨g,0,none⟩) bs.length c] 59)):=(Below.refl _ _).alloc (Nat.le_refl _) _
    have hVs:(w3.alloc (.cells #[.slice (some ⟨g,0,none⟩) bs.length c] 59)).heap.size=w3.heap.size+1:=by simp
    have hVB:=(one_cell (heap_top w3 (.cells #[.slice (some ⟨g,0,none⟩) bs.length c] 59))).1
    have HBV:Hid (Below p w (w3.alloc (.cells #[.slice (some ⟨g,0,none⟩) bs.length c] 59))):=HB3.out.trans (hbV.mono (by omega))
    have hVc: ∀j,j<bs.length→(w3.alloc (.cells #[.slice (some ⟨g,0,none⟩) bs.length c] 59)).cell? ⟨g,j*3,none⟩=some (.slice (cl C j).a (cl C j).xs.length (cl C j).c)∧(w3.alloc (.cells #[.slice (some ⟨g,0,none⟩) bs.length c] 59)).cell? ⟨g,j*3+1,none⟩=some (.slice (SD j).1 (szL (cl C j).xs).length (SD j).2)∧(w3.alloc (.cells #[.slice (some ⟨g,0,none⟩) bs.length c] 59)).cell? ⟨g,j*3+2,none⟩=some (.int .i64 (bf j)):=fun j hj=>by
     obtain⟨h1,h2,h3⟩:=hSD j hj
     exact⟨(hbV.cell (p:=⟨g,j*3,none⟩) hg3).trans h1,(hbV.cell (p:=⟨g,j*3+1,none⟩) hg3).trans h2,(hbV.cell (p:=⟨g,j*3+2,none⟩) hg3).trans h3⟩
    have x2:Boxed (w3.alloc (.cells #[.slice (some ⟨g,0,none⟩) bs.length c] 59)) b2 3 (.int .i64 un):=(hbV.block b2 (by omega)).trans HK2.out
    have x3:Boxed (w3.alloc (.cells #[.slice (some ⟨g,0,none⟩) bs.length c] 59)) b3 3 (.int .i64 vn):=(hbV.block b3 (by omega)).trans HK3.out
    have x4:Boxed (w3.alloc (.cells #[.slice (some ⟨g,0,none⟩) bs.length c] 59)) b4 3 (.int .i64 0):=(hbV.block b4 (by omega)).trans HK4.out
    have x5:Boxed (w3.alloc (.cells #[.slice (some ⟨g,0,none⟩) bs.length c] 59)) b5 35 (.int .i64 0):=(hbV.block b5 (by omega)).trans HK5.out
    clear hSD hbV HK2 HK3 HK4 HK5 HL3 HRR
    generalize hV:w3.alloc (.cells #[.slice (some ⟨g,0,none⟩) bs.length c] 59)=V at*
    clear hV
    refine wpIn_rangeFunc_ownH (α:=Fin bs.length) rfl (by omega) (gf:=64) (lb:= #[.pointer (some ⟨w3.heap.size,0,none⟩)]) rfl trivial (enters_of Tryz.func64 (by kernel_rfl) rfl)
     (back_stops 5 (by omega) w3.heap.size V.heap.size g bs.length c (fun j=> .slice (cl C j).a (cl C j).xs.length (cl C j).c) (fun j=> .slice (SD j).1 (szL (cl C j).xs).length (SD j).2) (fun j=> .int .i64 (bf j)) h5 (by omega) (by omega) V (Nat.le_refl _) hVB hVc) belowK_t (belowK_b (Nat.le_refl _)) (Below.refl _ _) (fun _=>rfl)
     (fun pre W=>(((((∀x∈pre,(cl C x.val).xs.getD un 0=(cl C x.val).xs.getD vn 0)∧Boxed W b2 3 (.int .i64 un))∧Boxed W b3 3 (.int .i64 vn))∧Boxed W b4 3 (.int .i64 0))∧Boxed W b5 35 (.int .i64 0))∧Below V.heap.size V W)
     (fun cd pre W=> ∃ (q0:List (Fin bs.length)) (x:Fin bs.length),(((cd= .ret∧pre=q0++[x]∧(∀y∈q0,(cl C y.val).xs.getD un 0=(cl C y.val).xs.getD vn 0)∧(cl C x.val).xs.getD un 0≠(cl C x.val).xs.getD vn 0)∧Boxed W b4 3 (.int .i64 ((x.val:Int)+1)))∧Boxed W b5 35 (.int .i64 0))∧Below p w W)
     (OwnFrom.and (OwnFrom.and (OwnFrom.and (OwnFrom.and (OwnFrom.and (ownFrom_pure _ _) (Own.from (boxed_own _ _ _) _)) (Own.from (boxed_own _ _ _) _)) (Own.from (boxed_own _ _ _) _)) (Own.from (boxed_own _ _ _) _)) (ownFrom_below (Nat.le_refl _) (Nat.le_refl _)))
     (fun cd s X Y row hs hg hr=>by
       obtain⟨q0,x,⟨⟨h1,h2⟩,h3⟩,h4⟩:=hs
       have hx:=(OwnFrom.and (OwnFrom.and (Own.from (boxed_own b4 3 (fun(_:Unit)=>Value.int .i64 ((x.val:Int)+1))) V.heap.size) (Own.from (boxed_own b5 35 (fun(_:Unit)=>Value.int .i64 0)) V.heap.size)) (ownFrom_below (n₀:=p) (w₀:=w) (by omega) (by omega))) () X Y row ⟨⟨h2,h3⟩,h4⟩ hg hr
       exact⟨q0,x,⟨⟨h1,hx.1.1⟩,hx.1.2⟩,hx.2⟩)
     ⟨⟨⟨⟨⟨by simp,x2⟩,x3⟩,x4⟩,x5⟩,Below.refl _ _⟩
     (fun x a' W=> ∃Bx,W.heap[Bx]? =some (.cells #[.slice (cl C x.val).a (cl C x.val).xs.length (cl C x.val).c, .slice (SD x.val).1 (szL (cl C x.val).xs).length (SD x.val).2, .int .i64 (bf x.val)] 69)∧V.heap.size≤Bx∧a'={tmps:= #[.agg #[.int .i64 n, .slice a l.length cap], .agg #[.slice ba bs.length bc, .slice ca C.length cc], .int .i64 un, .int .i64 vn, .pointer (some ⟨p,0,none⟩), .pointer (some ⟨p+1,0,none⟩), .pointer (some ⟨b2,0,none⟩), .pointer (some ⟨b3,0,none⟩), .pointer (some ⟨b4,0,none⟩), .pointer (some ⟨b5,0,none⟩), .slice (some ⟨g,0,none⟩) bs.length c, .int .i64 0, .int .i64 0, .int .i64 (x.val:Int), .pointer (some ⟨Bx,0,none⟩), .tuple #[.slice (some ⟨g,0,none⟩) bs.length c, .int .i64 0, .int .i64 0], .agg #[.int .i64 n, .slice a l.length cap], .agg #[.slice ba bs.length bc, .slice ca C.length cc], .tuple #[.slice (some ⟨g,0,none⟩) bs.length c, .int .i64 0, .int .i64 0], .slice (some ⟨g,0,none⟩) bs.length c, .int .i64 0, .int .i64 0, .int .i64 0, .bool false,undef, .agg #[.int .i64 n, .slice a l.length cap], .int .i64 un, .bool true, .bool false, .bool false, .agg #[.int .i64 n, .slice a l.length cap], .int .i64 vn, .bool true, .bool false, .bool false, .slice (some ⟨g,0,none⟩) bs.length c, .func (.func 64) #[] #[.pointer (some ⟨w3.heap.size,0,none⟩)], .int .i64 (x.val:Int), .agg #[.slice (cl C x.val).a (cl C x.val).xs.length (cl C x.val).c, .slice (SD x.val).1 (szL (cl C x.val).xs).length (SD x.val).2, .int .i64 (bf x.val)],undef,undef,undef,undef,undef,undef,undef,undef,undef,undef,undef],defers:= []})
     (fun x a' _ X Y row hs hg hr=>by
       obtain⟨Bx,e1,e2,e3⟩:=hs
       exact⟨Bx,(hg.block Bx (lt_of_block e1) (fun e=>by obtain⟨_,o,ho,hc⟩:=hr Bx e.symm;rw[e1] at ho;cases ho;cases hc)).trans e1,e2,e3⟩)
     ?assign ?body ?done ?stop
    case assign=>
     rintro L pre x W K ⟨⟨⟨⟨⟨hq,y2⟩,y3⟩,y4⟩,y5⟩,hB⟩ hK
     gi_wp2
     exact hK _ _ ((KeepsOthers.alloc _ _).from _) ((Below.refl _ W).alloc hB.size _) ⟨⟨⟨⟨⟨hq,y2.alloc _⟩,y3.alloc _⟩,y4.alloc _⟩,y5.alloc _⟩,hB.alloc hB.size _⟩ ⟨W.heap.size,heap_top _ _,hB.size,rfl⟩
    case body=>
     rintro L pre x a' W hL1 _ ⟨⟨⟨⟨⟨hq,y2⟩,y3⟩,y4⟩,y5⟩,hB⟩ ⟨Bx,hBx,hVBx,rfl⟩ hlt
     have hmx:Tryz.prog.follows .mixedOrders=true:=by kernel_rfl
     have hBL:=lt_of_block hBx
     have HBP:Hid (Below p w W):=HBV.out.trans (hB.mono (by omega))
     have HQ:=hid hq
     have HBB:=hid hB
     have HBXX:=hid hBx
     have hWs:=hB.size
     have z2:=y2.cell
     have z3:=y3.cell
     have z4:=y4.cell
     have z5:=y5.cell
     have f4:=y4.frozen
     have f5:=y5.frozen
     obtain⟨d0,d1,_⟩:=three_cells hBx
     have D0:=hid d0
     have D1:=hid d1
     have Z2:=hid z2
     have Z3:=hid z3
     have Y2:=hid y2
     have Y3:=hid y3
     have Y4:=hid y4
     have Y5:=hid y5
     have l2:b2<W.heap.size:=by omega
     have l3:b3<W.heap.size:=by omega
     have l4:b4<W.heap.size:=by omega
     have l5:b5<W.heap.size:=by omega
     obtain⟨F,hF⟩: ∃F:Nat→Int,∀t,(cl C x.val).xs.getD t 0=F t:=⟨_,fun _=>rfl⟩
     have HC:Hid (∀X,Below W.heap.size W X→∀t:Nat,t<n→Calls Tryz.prog 47 #[.agg #[.slice (cl C x.val).a (cl C x.val).xs.length (cl C x.val).c, .slice (SD x.val).1 (szL (cl C x.val).xs).length (SD x.val).2], .int .i64 t] X fun e w'=>e= .returned (.int .i64 (F t))∧Below W.heap.size W w'):=fun X hX t ht=>by
      have hxn:=HLN.out x
      refine(nsOf_any _ _ _ _ t X (by omega) (by omega) ((HIX.out x).on (by rw[hp];exact HBP.out.trans (hX.mono (by omega))))).mono ?_
      rintro e w' ⟨rfl,hb⟩
      exact⟨by rw[hF],hX.trans (hb.mono hX.size)⟩
     have hbd:Below W.heap.size W W.drew:=(Below.refl _ _).drew
     have h14:1≤6 - 1 - 1:=by omega
     clear hq y2 y3 y4 y5 hB hBx
     have hFu:=hF un
     have hFv:=hF vn
     by_cases hc:F un=F vn
     ·have HGO:Hid (∀W',Below W.heap.size W W'→KeepsFrom V.heap.size W W'∧Below V.heap.size W W'∧(((((∀y∈pre++[x],(cl C y.val).xs.getD un 0=(cl C y.val).xs.getD vn 0)∧Boxed W' b2 3 (.int .i64 un))∧Boxed W' b3 3 (.int .i64 vn))∧Boxed W' b4 3 (.int .i64 0))∧Boxed W' b5 35 (.int .i64 0))∧Below V.heap.size V W'):=fun W' h=>by
       have hm:=h.mono hWs
       refine⟨⟨h.size,fun k o _ hk _=>(h.block k (lt_of_block hk)).trans hk⟩,hm,⟨⟨⟨⟨fun y hy=> ?_,(h.block b2 l2).trans Y2.out⟩,(h.block b3 l3).trans Y3.out⟩,(h.block b4 l4).trans Y4.out⟩,(h.block b5 l5).trans Y5.out⟩,HBB.out.trans hm⟩
       rcases List.mem_append.1 hy with h1 | h1
       ·exact HQ.out y h1
       ·rw[List.mem_singleton] at h1;rw[h1,hFu,hFv];exact hc
      have hne:(F un != F vn)=false:=by simpa using hc
      clear hF hFu hFv hc
      gi_wp2_with fail
      refine apart_region (T:=(fun k=>[.agg #[.int .i64 n, .slice a l.length cap], .agg #[.slice ba bs.length bc, .slice ca C.length cc], .int .i64 un, .int .i64 vn, .pointer (some ⟨p,0,none⟩), .pointer (some ⟨p+1,0,none⟩), .pointer (some ⟨b2,0,none⟩), .pointer (some ⟨b3,0,none⟩), .pointer (some ⟨b4,0,none⟩), .pointer (some ⟨b5,0,none⟩), .slice (some ⟨g,0,none⟩) bs.length c, .int .i64 0, .int .i64 0, .int .i64 (x.val:Int), .pointer (some ⟨Bx,0,none⟩), .tuple #[.slice (some ⟨g,0,none⟩) bs.length c, .int .i64 0, .int .i64 0], .agg #[.int .i64 n, .slice a l.length cap], .agg #[.slice ba bs.length bc, .slice ca C.length cc], .tuple #[.slice (some ⟨g,0,none⟩) bs.length c, .int .i64 0, .int .i64 0], .slice (some ⟨g,0,none⟩) bs.length c, .int .i64 0, .int .i64 0, .int .i64 0, .bool false,undef, .agg #[.int .i64 n, .slice a l.length cap], .int .i64 un, .bool true, .bool false, .bool false, .agg #[.int .i64 n, .slice a l.length cap], .int .i64 vn, .bool true, .bool false, .bool false, .slice (some ⟨g,0,none⟩) bs.length c, .func (.func 64) #[] #[.pointer (some ⟨w3.heap.size,0,none⟩)], .int .i64 (x.val:Int), .agg #[.slice (cl C x.val).a (cl C x.val).xs.length (cl C x.val).c, .slice (SD x.val).1 (szL (cl C x.val).xs).length (SD x.val).2, .int .i64 (bf x.val)]].getD k undef)) (Bx:=Bx) (b2:=b2) (b3:=b3) F rfl rfl rfl hBL l2 l3 D0.out D1.out Z2.out Z3.out (fun X hX t ht=>HC.out X hX t (by rcases ht with rfl | rfl <;> assumption)) ?_
      intro w6 hb6
      change Exit.then _ _ Exit.normal ({tmps:= #[.agg #[.int .i64 n, .slice a l.length cap], .agg #[.slice ba bs.length bc, .slice ca C.length cc], .int .i64 un, .int .i64 vn, .pointer (some ⟨p,0,none⟩), .pointer (some ⟨p+1,0,none⟩), .pointer (some ⟨b2,0,none⟩), .pointer (some ⟨b3,0,none⟩), .pointer (some ⟨b4,0,none⟩), .pointer (some ⟨b5,0,none⟩), .slice (some ⟨g,0,none⟩) bs.length c, .int .i64 0, .int .i64 0, .int .i64 (x.val:Int), .pointer (some ⟨Bx,0,none⟩), .tuple #[.slice (some ⟨g,0,none⟩) bs.length c, .int .i64 0, .int .i64 0], .agg #[.int .i64 n, .slice a l.length cap], .agg #[.slice ba bs.length bc, .slice ca C.length cc], .tuple #[.slice (some ⟨g,0,none⟩) bs.length c, .int .i64 0, .int .i64 0], .slice (some ⟨g,0,none⟩) bs.length c, .int .i64 0, .int .i64 0, .int .i64 0, .bool false,undef, .agg #[.int .i64 n, .slice a l.length cap], .int .i64 un, .bool true, .bool false, .bool false, .agg #[.int .i64 n, .slice a l.length cap], .int .i64 vn, .bool true, .bool false, .bool false, .slice (some ⟨g,0,none⟩) bs.length c, .func (.func 64) #[] #[.pointer (some ⟨w3.heap.size,0,none⟩)], .int .i64 (x.val:Int), .agg #[.slice (cl C x.val).a (cl C x.val).xs.length (cl C x.val).c, .slice (SD x.val).1 (szL (cl C x.val).xs).length (SD x.val).2, .int .i64 (bf x.val)], .pointer (some ⟨Bx,0,none⟩), .agg #[.slice (cl C x.val).a (cl C x.val).xs.length (cl C x.val).c, .slice (SD x.val).1 (szL (cl C x.val).xs).length (SD x.val).2], .int .i64 un, .int .i64 (F un), .pointer (some ⟨Bx,0,none⟩), .agg #[.slice (cl C x.val).a (cl C x.val).xs.length (cl C x.val).c, .slice (SD x.val).1 (szL (cl C x.val).xs).length (SD x.val).2], .int .i64 vn, .int .i64 (F vn), .bool (F un != F vn),undef,undef],defers:= []}:Act) w6
      all_goals (gi_wp2_with fail)
      all_goals (exact HGO.out _ hb6)
     ·have hne:(F un != F vn)=true:=by simpa using hc
      have HSTOP:Hid (∀W',Below W.heap.size W W'→KeepsFrom V.heap.size W ((W'.setCell ⟨b4,0,none⟩ (.int .i64 ((x.val:Int)+1))).setCell ⟨b5,0,none⟩ (.int .i64 0))∧∃ (q0:List (Fin bs.length)) (y:Fin bs.length),(((Code.ret= .ret∧pre++[x]=q0++[y]∧(∀y∈q0,(cl C y.val).xs.getD un 0=(cl C y.val).xs.getD vn 0)∧(cl C y.val).xs.getD un 0≠(cl C y.val).xs.getD vn 0)∧Boxed ((W'.setCell ⟨b4,0,none⟩ (.int .i64 ((x.val:Int)+1))).setCell ⟨b5,0,none⟩ (.int .i64 0)) b4 3 (.int .i64 ((y.val:Int)+1)))∧Boxed ((W'.setCell ⟨b4,0,none⟩ (.int .i64 ((x.val:Int)+1))).setCell ⟨b5,0,none⟩ (.int .i64 0)) b5 35 (.int .i64 0))∧Below p w ((W'.setCell ⟨b4,0,none⟩ (.int .i64 ((x.val:Int)+1))).setCell ⟨b5,0,none⟩ (.int .i64 0))):=fun W' h=>by
       obtain⟨t1,t2⟩:=put2 ((h.block b4 l4).trans Y4.out) ((h.block b5 l5).trans Y5.out) n45 (.int .i64 ((x.val:Int)+1)) (.int .i64 0)
       have kf:KeepsFrom V.heap.size W W':=⟨h.size,fun k o _ hk _=>(h.block k (lt_of_block hk)).trans hk⟩
       exact⟨kf.trans (((KeepsOthers.setCell _ _ _).trans (KeepsOthers.setCell _ _ _)).from _),pre,x,⟨⟨⟨rfl,rfl,HQ.out,by rw[hFu,hFv];exact hc⟩,t1⟩,t2⟩,below_set2 (HBP.out.trans (h.mono (by omega))) q4.1 q5.1 _ _⟩
      have hx5:x.val<5:=by have:=x.isLt;omega
      clear hF hFu hFv hc
      gi_wp2_with fail
      refine apart_region (T:=(fun k=>[.agg #[.int .i64 n, .slice a l.length cap], .agg #[.slice ba bs.length bc, .slice ca C.length cc], .int .i64 un, .int .i64 vn, .pointer (some ⟨p,0,none⟩), .pointer (some ⟨p+1,0,none⟩), .pointer (some ⟨b2,0,none⟩), .pointer (some ⟨b3,0,none⟩), .pointer (some ⟨b4,0,none⟩), .pointer (some ⟨b5,0,none⟩), .slice (some ⟨g,0,none⟩) bs.length c, .int .i64 0, .int .i64 0, .int .i64 (x.val:Int), .pointer (some ⟨Bx,0,none⟩), .tuple #[.slice (some ⟨g,0,none⟩) bs.length c, .int .i64 0, .int .i64 0], .agg #[.int .i64 n, .slice a l.length cap], .agg #[.slice ba bs.length bc, .slice ca C.length cc], .tuple #[.slice (some ⟨g,0,none⟩) bs.length c, .int .i64 0, .int .i64 0], .slice (some ⟨g,0,none⟩) bs.length c, .int .i64 0, .int .i64 0, .int .i64 0, .bool false,undef, .agg #[.int .i64 n, .slice a l.length cap], .int .i64 un, .bool true, .bool false, .bool false, .agg #[.int .i64 n, .slice a l.length cap], .int .i64 vn, .bool true, .bool false, .bool false, .slice (some ⟨g,0,none⟩) bs.length c, .func (.func 64) #[] #[.pointer (some ⟨w3.heap.size,0,none⟩)], .int .i64 (x.val:Int), .agg #[.slice (cl C x.val).a (cl C x.val).xs.length (cl C x.val).c, .slice (SD x.val).1 (szL (cl C x.val).xs).length (SD x.val).2, .int .i64 (bf x.val)]].getD k undef)) (Bx:=Bx) (b2:=b2) (b3:=b3) F rfl rfl rfl hBL l2 l3 D0.out D1.out Z2.out Z3.out (fun X hX t ht=>HC.out X hX t (by rcases ht with rfl | rfl <;> assumption)) ?_
      intro w6 hb6
      change Exit.then _ _ Exit.normal ({tmps:= #[.agg #[.int .i64 n, .slice a l.length cap], .agg #[.slice ba bs.length bc, .slice ca C.length cc], .int .i64 un, .int .i64 vn, .pointer (some ⟨p,0,none⟩), .pointer (some ⟨p+1,0,none⟩), .pointer (some ⟨b2,0,none⟩), .pointer (some ⟨b3,0,none⟩), .pointer (some ⟨b4,0,none⟩), .pointer (some ⟨b5,0,none⟩), .slice (some ⟨g,0,none⟩) bs.length c, .int .i64 0, .int .i64 0, .int .i64 (x.val:Int), .pointer (some ⟨Bx,0,none⟩), .tuple #[.slice (some ⟨g,0,none⟩) bs.length c, .int .i64 0, .int .i64 0], .agg #[.int .i64 n, .slice a l.length cap], .agg #[.slice ba bs.length bc, .slice ca C.length cc], .tuple #[.slice (some ⟨g,0,none⟩) bs.length c, .int .i64 0, .int .i64 0], .slice (some ⟨g,0,none⟩) bs.length c, .int .i64 0, .int .i64 0, .int .i64 0, .bool false,undef, .agg #[.int .i64 n, .slice a l.length cap], .int .i64 un, .bool true, .bool false, .bool false, .agg #[.int .i64 n, .slice a l.length cap], .int .i64 vn, .bool true, .bool false, .bool false, .slice (some ⟨g,0,none⟩) bs.length c, .func (.func 64) #[] #[.pointer (some ⟨w3.heap.size,0,none⟩)], .int .i64 (x.val:Int), .agg #[.slice (cl C x.val).a (cl C x.val).xs.length (cl C x.val).c, .slice (SD x.val).1 (szL (cl C x.val).xs).length (SD x.val).2, .int .i64 (bf x.val)], .pointer (some ⟨Bx,0,none⟩), .agg #[.slice (cl C x.val).a (cl C x.val).xs.length (cl C x.val).c, .slice (SD x.val).1 (szL (cl C x.val).xs).length (SD x.val).2], .int .i64 un, .int .i64 (F un), .pointer (some ⟨Bx,0,none⟩), .agg #[.slice (cl C x.val).a (cl C x.val).xs.length (cl C x.val).c, .slice (SD x.val).1 (szL (cl C x.val).xs).length (SD x.val).2], .int .i64 vn, .int .i64 (F vn), .bool (F un != F vn),undef,undef],defers:= []}:Act) w6
      have e4:=(hb6.cell (p:=⟨b4,0,none⟩) l4).trans z4
      have e5:=(hb6.cell (p:=⟨b5,0,none⟩) l5).trans z5
      have e6:=(one_cell ((hb6.block b4 l4).trans Y4.out)).2
      have e7:=(one_cell ((hb6.block b5 l5).trans Y5.out)).2
      all_goals (gi_wp2_with fail)
      obtain⟨t1,q0,y,⟨⟨⟨_,t2⟩,t3⟩,t4⟩,t5⟩:=HSTOP.out _ hb6
      exact⟨t1,q0,y,⟨⟨⟨rfl,t2⟩,t3⟩,t4⟩,t5⟩
    case done=>
     rintro D xs W hD rfl ⟨⟨⟨⟨⟨hq,y2⟩,y3⟩,y4⟩,y5⟩,hB⟩ hK
     have z4:=y4.cell
     have z5:=y5.cell
     have f4:=y4.frozen
     have f5:=y5.frozen
     have hWs:=hB.size
     have e0:apt (csl C) un vn bs.length=0:=apt_none _ (fun k hk=>by
      rw[csl_at]
      exact hq ⟨k,hk⟩ ((dnF_mem _).2 (Nat.zero_le _)))
     have HBP:Hid (Below p w W):=HBV.out.trans (hB.mono (by omega))
     have HR0:Hid (R=0):=HER.out.trans e0
     have hK2:((W.setCell ⟨b4,0,none⟩ (.int .i64 0)).setCell ⟨b5,0,none⟩ (.int .i64 0)).heap[D]? =some (.deferred (some [])):=(Below.heap_setCell _ _ _ _ (by show D≠b5;omega)).trans ((Below.heap_setCell _ _ _ _ (by show D≠b4;omega)).trans hK)
     have HP:=hid (put2 y4 y5 n45 (.int .i64 0) (.int .i64 0))
     clear hq e0 y2 y3 y4 y5 hB
     gi_wp2_with fail
     refine⟨by simp, .inl ⟨_,_,rfl,run_takeDeferred hK2,?_⟩⟩
     have k4:(((W.setCell ⟨b4,0,none⟩ (.int .i64 0)).setCell ⟨b5,0,none⟩ (.int .i64 0)).putObj D (.deferred none)).cell? ⟨b4,0,none⟩=some (.int .i64 0):=(one_cell ((World.putObj_heap_other (by omega)).trans HP.out.1)).1
     have k5:(((W.setCell ⟨b4,0,none⟩ (.int .i64 0)).setCell ⟨b5,0,none⟩ (.int .i64 0)).putObj D (.deferred none)).cell? ⟨b5,0,none⟩=some (.int .i64 0):=(one_cell ((World.putObj_heap_other (by omega)).trans HP.out.2)).1
     exact⟨.tuple #[.int .i64 0, .int .i64 0],by simp[results,Tryz.results23,go_sem,k4,k5],by rw[HR0.out];rfl,(below_set2 HBP.out q4.1 q5.1 _ _).trans (belowK_b (w:=w) (by omega) _ D _ _ (by omega) hK2 rfl rfl)⟩
    case stop=>
     rintro D cd pre W hD ⟨r,hr,hpre⟩ ⟨q0,x,⟨⟨⟨rfl,hp0,hq0,hqx⟩,y4⟩,y5⟩,hB⟩ hK
     have hrl:r<bs.length:=by
      rcases Nat.lt_or_ge r bs.length with h | h
      ·exact h
      ·have:r=bs.length:=by omega
       subst this
       rw[dnF_top] at hpre
       rw[hpre] at hp0
       exact absurd hp0 (by simp)
     rw[hpre,dnF_step hrl] at hp0
     obtain⟨e1,e2⟩:=List.append_inj' hp0 rfl
     injection e2 with e2 _
     have HR0:Hid (R=x.val+1):=by
      show R=_
      rw[HER.out]
      refine apt_at (by rw[csl_at];exact hqx) _ x.isLt (fun k h1 h2=> ?_)
      rw[csl_at]
      exact hq0 ⟨k,h2⟩ (by rw[←e1];exact(dnF_mem _).2 (by show r+1≤k;rw[←e2] at h1;exact h1))
     have z4:=y4.cell
     have z5:=y5.cell
     have HBP:=hid hB
     have HP:=hid (And.intro y4 y5)
     have hq4:W.heap.size=W.heap.size:=rfl
     clear hqx hq0 e1 e2 hp0 hpre hq4 y4 y5 hB
     have hDl:=lt_of_block hK
     have nd4:b4≠D:=by omega
     have nd5:b5≠D:=by omega
     gi_wp2_with fail
     refine⟨by simp, .inl ⟨_,_,rfl,run_takeDeferred hK,?_⟩⟩
     have k4:(W.putObj D (.deferred none)).cell? ⟨b4,0,none⟩=some (.int .i64 ((x.val:Int)+1)):=(one_cell ((World.putObj_heap_other nd4).trans HP.out.1)).1
     have k5:(W.putObj D (.deferred none)).cell? ⟨b5,0,none⟩=some (.int .i64 0):=(one_cell ((World.putObj_heap_other nd5).trans HP.out.2)).1
     exact⟨.tuple #[.int .i64 ((x.val:Int)+1), .int .i64 0],by simp[results,Tryz.results23,go_sem,k4,k5],by rw[HR0.out];rfl,HBP.out.trans (belowK_b (w:=w) (by omega) _ D _ _ (by omega) hK rfl rfl)⟩
   ·rw[decide_eq_false hv]
    have e5:E=5:=by rw[HEE.out,if_pos (.inr hv)]
    have eR:R=0:=by rw[←HRV.out];unfold apV;rw[HE.out,e5,if_neg (by decide)]
    subst e5 eR
    gi_wp2_with fail
    obtain⟨r4,r5⟩:=HFIN.out w3 (.int .i64 0) (.int .i64 5) _ _ _ _ HK4.out HK5.out
    exact⟨.tuple #[.int .i64 0, .int .i64 5],by simp[results,Tryz.results23,go_sem,r4,r5],rfl,below_set2 HB3.out q4.1 q5.1 _ _⟩
  ·rw[decide_eq_false hu]
   have e5:E=5:=by rw[HEE.out,if_pos (.inl hu)]
   have eR:R=0:=by rw[←HRV.out];unfold apV;rw[HE.out,e5,if_neg (by decide)]
   subst e5 eR
   gi_wp2_with fail
   refine⟨trivial,?_⟩
   gi_wp2_with fail
   obtain⟨r4,r5⟩:=HFIN.out w2 (.int .i64 0) (.int .i64 5) _ _ _ _ HK4.out HK5.out
   exact⟨.tuple #[.int .i64 0, .int .i64 5],by simp[results,Tryz.results23,go_sem,r4,r5],rfl,below_set2 HB2.out q4.1 q5.1 _ _⟩
 ·have HL:=hid (HLK.out.mono (fun e w' h=>(⟨h.2.1 h1,h.2.2⟩:e= .returned (.tuple #[.slice none 0 0, .int .i64 (nsW N l bs (csl C):Nat), .int .i64 (nsE N l bs (csl C))])∧_)))
  have hEE:E=nsE N l bs (csl C):=by rw[←HE.out];unfold apE;rw[if_pos h1]
  rw[←hEE] at HL h1
  have eR:R=0:=by rw[←HRV.out];unfold apV;rw[HE.out,if_neg h1]
  subst eR
  have e1:(E != 0)=true:=by simpa using h1
  clear HLK hEE
  generalize nsW N l bs (csl C)=nw at*
  refine⟨trivial,(callsIn_wide.2 HL.out).mono ?_⟩
  rintro e w1 ⟨rfl,hb1⟩
  have HB1:Hid (Below p w w1):=HB0.out.trans (hb1.mono (by omega))
  have k4:=(hb1.block b4 q4.2).trans hg4
  have k5:=(hb1.block b5 q5.2).trans hg5
  have HK4:=hid k4
  have HK5:=hid k5
  clear hb1 HL hg0 hg1 hg2 hg3 hg4 hg5 HB0
  obtain⟨c4,f4⟩:=one_cell k4
  obtain⟨c5,f5⟩:=one_cell k5
  clear k4 k5
  gi_wp2_with fail
  obtain⟨r4,r5⟩:=HFIN.out w1 (.int .i64 0) (.int .i64 E) _ _ _ _ HK4.out HK5.out
  exact⟨.tuple #[.int .i64 0, .int .i64 E],by simp[results,Tryz.results23,go_sem,r4,r5],rfl,below_set2 HB1.out q4.1 q5.1 _ _⟩
end Go.Proofs.YtmenajiceaicpaaGreat
namespace Go.Proofs.YtmenajiceaicpaaGreat
open Go.RowKit
def ArcsB(B:Nat)(w:World)(a:Option Addr)(l:List A):Prop:=
 l= []∨∃b o,a=some ⟨b,o,none⟩∧b<B∧∀j,j<l.length→(l.getD j A.zero).at w b (o+j*3)
theorem A.at.onB{x:A}{w w':World}{b o B:Nat}(h:x.at w b o)(hl:b<B)(hb:Below B w w'):x.at w' b o:=
 ⟨(hb.cell hl).trans h.1,(hb.cell (p:=⟨b,o+1,none⟩) hl).trans h.2.1,(hb.cell (p:=⟨b,o+2,none⟩) hl).trans h.2.2⟩
theorem Arcs.b{w:World}{a:Option Addr}{l:List A}(h:Arcs w a l):ArcsB w.heap.size w a l:=h
theorem ArcsB.get{B:Nat}{w:World}{a:Option Addr}{l:List A}(h:ArcsB B w a l): ∃b o,0<l.length→a=some ⟨b,o,none⟩∧b<B∧∀j,j<l.length→(l.getD j A.zero).at w b (o+j*3):=by
 rcases h with rfl | ⟨b,o,h⟩
 ·exact⟨0,0,fun h=>absurd h (by simp)⟩
 ·exact⟨b,o,fun _=>h⟩
end Go.Proofs.YtmenajiceaicpaaGreat
