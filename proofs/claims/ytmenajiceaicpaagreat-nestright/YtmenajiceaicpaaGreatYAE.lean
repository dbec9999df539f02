import Derived.Deep.RegionHeld3
import Derived.Test.YtmenajiceaicpaaGreatYAD
import Derived.Lib.SliceRun
set_option maxRecDepth 100000
namespace Go.Proofs.YtmenajiceaicpaaGreat
open Go.RowKit
open Go.Sort (grow)
structure Pr where
 a:Nat
 b:Nat
deriving DecidableEq
instance :Inhabited Pr:=⟨⟨0,0⟩⟩
def Pr.zero:Pr:=⟨0,0⟩
def encP(p:Pr):List Value:=[.int .i64 (p.a:Int), .int .i64 (p.b:Int)]
def cellsP:List Pr→List Value
 | []=> []
 | p::r=> .int .i64 (p.a:Int):: .int .i64 (p.b:Int)::cellsP r
theorem cellsP_len: ∀l:List Pr,(cellsP l).length=l.length*2
 | []=>rfl
 | p::r=>by simp[cellsP,cellsP_len r];omega
theorem cellsP_append: ∀l m:List Pr,cellsP (l++m)=cellsP l++cellsP m
 | [],m=>rfl
 | p::r,m=>by simp[cellsP,cellsP_append r m]
theorem cellsP_at: ∀ (l:List Pr) (j:Nat),j<l.length→(cellsP l)[j*2]? =some (.int .i64 ((l.getD j Pr.zero).a:Int))∧(cellsP l)[j*2+1]? =some (.int .i64 ((l.getD j Pr.zero).b:Int))
 | [],j,h=>absurd h (by simp)
 | p::r,0,_=>⟨rfl,rfl⟩
 | p::r,j+1,h=>by
   have ih:=cellsP_at r j (by simpa using h)
   rw[show(j+1)*2=j*2+2 by omega]
   exact ih
theorem cellsP_one: ∀ (l:List Pr),∀u∈cellsP l,u.oneCell'=true
 | [],u,h=>by simp[cellsP] at h
 | p::r,u,h=>by
   simp only[cellsP,List.mem_cons] at h
   rcases h with rfl | rfl | h
   ·rfl
   ·rfl
   ·exact cellsP_one r u h
def Pr.at(x:Pr)(w:World)(b o:Nat):Prop:=w.cell? ⟨b,o,none⟩=some (.int .i64 (x.a:Int))∧w.cell? ⟨b,o+1,none⟩=some (.int .i64 (x.b:Int))
def Prs(w:World)(a:Option Addr)(l:List Pr):Prop:=l= []∨∃b o,a=some ⟨b,o,none⟩∧b<w.heap.size∧∀j,j<l.length→(l.getD j Pr.zero).at w b (o+j*2)
theorem Prs.on{w w':World}{a:Option Addr}{l:List Pr}(h:Prs w a l)(hb:Below w.heap.size w w'):Prs w' a l:=by
 rcases h with h | ⟨b,o,rfl,hl,hc⟩
 ·exact .inl h
 ·exact .inr ⟨b,o,rfl,Nat.lt_of_lt_of_le hl hb.size,fun j hj=>⟨(hb.cell (p:=⟨b,o+j*2,none⟩) hl).trans (hc j hj).1,(hb.cell (p:=⟨b,o+j*2+1,none⟩) hl).trans (hc j hj).2⟩⟩
theorem Prs.get{w:World}{a:Option Addr}{l:List Pr}(h:Prs w a l): ∃b o,0<l.length→a=some ⟨b,o,none⟩∧b<w.heap.size∧∀j,j<l.length→(l.getD j Pr.zero).at w b (o+j*2):=by
 rcases h with rfl | ⟨b,o,h⟩
 ·exact⟨0,0,fun h=>absurd h (by simp)⟩
 ·exact⟨b,o,fun _=>h⟩
def OwnP(w:World)(B:Nat)(a:Option Addr)(c:Nat)(l:List Pr):Prop:=w.ownsRow B 119 2 (.slice a l.length c) l.length (cellsP l)
theorem OwnP.prs{w:World}{B:Nat}{a:Option Addr}{c:Nat}{l:List Pr}(h:OwnP w B a c l):Prs w a l:=by
 by_cases h0:l= []
 ·exact .inl h0
 ·rcases h.2 with ⟨_,h'⟩ | ⟨g,c',cur,h',hb,hg,hnc,hm,_⟩
  ·exact absurd (List.eq_nil_of_length_eq_zero h') h0
  ·injection h' with e1 e2 e3
   subst e1
   refine .inr ⟨g,0,rfl,lt_of_block hg,fun j hj=>⟨?_,?_⟩⟩
   ·rw[Nat.zero_add,World.ownsRow.cellAt h (j*2) (by omega),(cellsP_at l j hj).1]
   ·rw[Nat.zero_add,World.ownsRow.cellAt h (j*2+1) (by omega),(cellsP_at l j hj).2]
theorem info41:(Tryz.prog.info? 119).map (fun i=>(i.zero,i.size,i.bytes))=some (some (.agg #[.int .i64 0, .int .i64 0]),2,16):=by kernel_rfl
def cmpI(x y:Int):Int:=if x<y then -1 else if y<x then 1 else 0
theorem isNaN_any(x:Int)(w:World):Calls Tryz.prog 153 #[.int .i64 x] w fun e w'=>e= .returned (.bool false)∧w'=w:=by
 go_enter Tryz.func153,Tryz.ntmps153
 go_wp2_with fail
 go_ret
 exact⟨rfl,rfl⟩
set_option maxHeartbeats 800000 in
theorem compare_any(x y:Int)(w:World):Calls Tryz.prog 128 #[.int .i64 x, .int .i64 y] w fun e w'=>e= .returned (.int .i64 (cmpI x y))∧w'=w:=by
 unfold cmpI
 by_cases h1:x<y
 ·rw[if_pos h1]
  go_enter Tryz.func128,Tryz.ntmps128
  go_wp2_with fail
  refine(isNaN_any x w).mono ?_
  rintro e w1 ⟨rfl,rfl⟩
  go_wp2_with fail
  refine(isNaN_any y w1).mono ?_
  rintro e w2 ⟨rfl,rfl⟩
  go_wp2_with fail
  go_ret
  exact⟨rfl,rfl⟩
 ·rw[if_neg h1]
  by_cases h2:y<x
  ·rw[if_pos h2]
   go_enter Tryz.func128,Tryz.ntmps128
   go_wp2_with fail
   refine(isNaN_any x w).mono ?_
   rintro e w1 ⟨rfl,rfl⟩
   go_wp2_with fail
   refine(isNaN_any y w1).mono ?_
   rintro e w2 ⟨rfl,rfl⟩
   go_wp2_with fail
   go_ret
   exact⟨rfl,rfl⟩
  ·rw[if_neg h2]
   go_enter Tryz.func128,Tryz.ntmps128
   go_wp2_with fail
   refine(isNaN_any x w).mono ?_
   rintro e w1 ⟨rfl,rfl⟩
   go_wp2_with fail
   refine(isNaN_any y w1).mono ?_
   rintro e w2 ⟨rfl,rfl⟩
   go_wp2_with fail
   go_ret
   exact⟨rfl,rfl⟩
def orI(x y:Int):Int:=if x=0 then y else x
set_option maxHeartbeats 800000 in
theorem or_any(b:Nat)(x y:Int)(w:World)(h0:w.cell? ⟨b,0,none⟩=some (.int .i64 x))(h1:w.cell? ⟨b,1,none⟩=some (.int .i64 y)):Calls Tryz.prog 139 #[.slice (some ⟨b,0,none⟩) 2 2] w fun e w'=>e= .returned (.int .i64 (orI x y))∧w'=w:=by
 obtain⟨R,HR⟩:=named (orI x y)
 rw[HR.out]
 go_enter Tryz.func139,Tryz.ntmps139
 go_wp2_with fail
 go_loopw [8] (fun i wr=>wr=w∧∃k:Nat,k≤2∧i= .int .i64 k∧(1≤k→x=0)∧(2≤k→y=0)) (fun i _=>2 - (intOf i).toNat)
 case atStart=>exact⟨rfl,0,by omega,rfl,by omega,by omega⟩
 case round=>
  obtain⟨rfl,k,hk,rfl,hx,hy⟩:=hrel
  have hk3:k=0∨k=1∨k=2:=by omega
  rcases hk3 with rfl | rfl | rfl
  ·by_cases hx0:x=0
   ·have hx1:(x != 0)=false:=by simp[hx0]
    go_wp2_with fail
    exact⟨⟨trivial,1,by omega,by simp,fun _=>hx0,by omega⟩,by simp[intOf]⟩
   ·have hx1:(x != 0)=true:=by simp[hx0]
    have hR:R=x:=by rw[←HR.out];unfold orI;rw[if_neg hx0]
    subst hR
    go_wp2_with fail
    go_ret
    exact⟨rfl,rfl⟩
  ·have hx0:Hid (x=0):=hx (by omega)
   clear hx hy
   by_cases hy0:y=0
   ·have hy1:(y != 0)=false:=by simp[hy0]
    have HY0:=Lib.hid hy0
    go_wp2_with fail
    exact⟨⟨trivial,2,by omega,by simp,fun _=>hx0.out,fun _=>HY0.out⟩,by simp[intOf]⟩
   ·have hy1:(y != 0)=true:=by simp[hy0]
    have hR:R=y:=by rw[←HR.out];unfold orI;rw[if_pos hx0.out]
    subst hR
    go_wp2_with fail
    go_ret
    exact⟨rfl,rfl⟩
  ·have hR:R=0:=by rw[←HR.out];unfold orI;rw[if_pos (hx (by omega)),hy (by omega)]
   subst hR
   clear hx hy
   go_wp2_with fail
   go_ret
   exact⟨rfl,rfl⟩
theorem topc(V:World)(x y:Value)(t:TypeId):(V.alloc (.cells #[x,y] t)).drew.cell? ⟨V.heap.size,0,none⟩=some x∧(V.alloc (.cells #[x,y] t)).drew.cell? ⟨V.heap.size,1,none⟩=some y:=(two_cells (heap_top V (.cells #[x,y] t))).1
def cmpP(p q:Pr):Int:=orI (cmpI p.a q.a) (cmpI p.b q.b)
def Gwn(w w':World):Prop:= ∃n os,w'=grow (w.drewN n) os
set_option maxHeartbeats 1600000 in
theorem inOrder_any(p q:Pr)(w:World):Calls Tryz.prog 111 #[.agg #[.int .i64 (p.a:Int), .int .i64 (p.b:Int)], .agg #[.int .i64 (q.a:Int), .int .i64 (q.b:Int)]] w fun e w'=>e= .returned (.int .i64 (cmpP p q))∧Gwn w w':=by
 obtain⟨R,HR⟩:=named (cmpP p q)
 rw[HR.out]
 unfold cmpP at HR
 obtain⟨c1,HC1⟩:=named (cmpI p.a q.a)
 obtain⟨c2,HC2⟩:=named (cmpI p.b q.b)
 rw[HC1.out,HC2.out] at HR
 have hp:((w.alloc (.cells #[.int .i64 (p.a:Int), .int .i64 (p.b:Int)] 119)).alloc (.cells #[.int .i64 (q.a:Int), .int .i64 (q.b:Int)] 119)).heap[w.heap.size]? =some (.cells #[.int .i64 (p.a:Int), .int .i64 (p.b:Int)] 119):=(Below.heap_alloc _ _ _ (by simp)).trans (heap_top w _)
 have hq:=heap_top (w.alloc (.cells #[.int .i64 (p.a:Int), .int .i64 (p.b:Int)] 119)) (.cells #[.int .i64 (q.a:Int), .int .i64 (q.b:Int)] 119)
 rw[World.size_alloc] at hq
 have HW:Hid (∀o,Gwn w (((w.alloc (.cells #[.int .i64 (p.a:Int), .int .i64 (p.b:Int)] 119)).alloc (.cells #[.int .i64 (q.a:Int), .int .i64 (q.b:Int)] 119)).alloc o).drew):=fun o=>⟨1,#[.cells #[.int .i64 (p.a:Int), .int .i64 (p.b:Int)] 119, .cells #[.int .i64 (q.a:Int), .int .i64 (q.b:Int)] 119,o],by rw[Go.Sort.alloc_eq_grow,Go.Sort.alloc_eq_grow,Go.Sort.alloc_eq_grow,Go.Sort.grow_grow,Go.Sort.grow_grow];rfl⟩
 obtain⟨⟨p0,p1⟩,_⟩:=two_cells hp
 obtain⟨⟨q0,q1⟩,_⟩:=two_cells hq
 go_enter Tryz.func111,Tryz.ntmps111
 go_wp2_with fail
 generalize hV:(w.alloc (.cells #[.int .i64 (p.a:Int), .int .i64 (p.b:Int)] 119)).alloc (.cells #[.int .i64 (q.a:Int), .int .i64 (q.b:Int)] 119)=V at*
 clear hV hp hq
 go_region_held3 (fun w'=>w'.cell? ⟨w.heap.size,0,none⟩=some (.int .i64 (p.a:Int))∧w'.cell? ⟨w.heap.size,1,none⟩=some (.int .i64 (p.b:Int))∧w'.cell? ⟨w.heap.size+1,0,none⟩=some (.int .i64 (q.a:Int))∧w'.cell? ⟨w.heap.size+1,1,none⟩=some (.int .i64 (q.b:Int))) (go_keep) ((first | (go_at_call 128;refine(compare_any _ _ _).mono ?_;rintro e w2 ⟨rfl,rfl⟩;first | rw[HC1.out] | rw[HC2.out]) | (go_at_call 139;refine(or_any _ c1 c2 _ (topc _ _ _ _).1 (topc _ _ _ _).2).mono ?_;rintro e w2 ⟨rfl,rfl⟩;rw[HR.out])))
 go_wp2_with fail
 go_ret
 exact⟨rfl,HW.out _⟩
end Go.Proofs.YtmenajiceaicpaaGreat
namespace Go.Proofs.YtmenajiceaicpaaGreat
open Go.RowKit
def ddk(d:List Pr):Nat→List Pr
 | 0=> []
 | k+1=>if 0<k∧d.getD k Pr.zero=d.getD (k - 1) Pr.zero then ddk d k else ddk d k++[d.getD k Pr.zero]
theorem ddk_keep{d:List Pr}{k:Nat}(h: ¬(0<k∧d.getD k Pr.zero=d.getD (k - 1) Pr.zero)):ddk d (k+1)=ddk d k++[d.getD k Pr.zero]:=by rw[ddk,if_neg h]
theorem ddk_skip{d:List Pr}{k:Nat}(h:0<k∧d.getD k Pr.zero=d.getD (k - 1) Pr.zero):ddk d (k+1)=ddk d k:=by rw[ddk,if_pos h]
theorem ddk_len(d:List Pr): ∀k,(ddk d k).length≤k
 | 0=>by simp[ddk]
 | k+1=>by
   rw[ddk]
   have:=ddk_len d k
   split
   ·omega
   ·simp;omega
def PB(w:World)(g n s:Nat)(D:Nat→Pr):Prop:= ∃cur,w.heap[g]? =some (.cells cur 119 (0,0))∧cur.size=s∧n*2≤s∧∀j,j<n→cur[j*2]? =some (.int .i64 ((D j).a:Int))∧cur[j*2+1]? =some (.int .i64 ((D j).b:Int))
theorem PB.cell{w:World}{g n s:Nat}{D:Nat→Pr}(h:PB w g n s D){j:Nat}(hj:j<n):w.cell? ⟨g,j*2,none⟩=some (.int .i64 ((D j).a:Int))∧w.cell? ⟨g,j*2+1,none⟩=some (.int .i64 ((D j).b:Int)):=by
 obtain⟨cur,h1,_,_,h4⟩:=h
 obtain⟨h5,h6⟩:=h4 j hj
 exact⟨by simp[World.cell?,h1,h5],by simp[World.cell?,h1,h6]⟩
theorem PB.free{w:World}{g n s:Nat}{D:Nat→Pr}(h:PB w g n s D)(o:Nat):w.frozen? ⟨g,o,none⟩=false:=by
 obtain⟨cur,h1,_⟩:=h
 simp[World.frozen?,h1]
def updP(D:Nat→Pr)(x:Nat)(u:Pr):Nat→Pr:=fun y=>if y=x then u else D y
theorem PB.put{w:World}{g n s:Nat}{D:Nat→Pr}(h:PB w g n s D){k:Nat}(hk:k<n)(u:Pr):PB ((w.setCell ⟨g,k*2,none⟩ (.int .i64 (u.a:Int))).setCell ⟨g,k*2+1,none⟩ (.int .i64 (u.b:Int))) g n s (updP D k u):=by
 obtain⟨cur,h1,h2,h3,h4⟩:=h
 refine⟨(cur.setIfInBounds (k*2) (.int .i64 (u.a:Int))).setIfInBounds (k*2+1) (.int .i64 (u.b:Int)),?_,by simpa using h2,h3,fun j hj=> ?_⟩
 ·rw[heap_setCell_same _ g (k*2+1) _ _ _ (heap_setCell_same w g (k*2) _ _ _ h1)]
 ·obtain⟨h5,h6⟩:=h4 j hj
  unfold updP
  by_cases e:j=k
  ·subst e
   have q1:j*2<cur.size:=by omega
   have q2:j*2+1<cur.size:=by omega
   constructor
   ·rw[Array.getElem?_setIfInBounds,if_neg (by omega),Array.getElem?_setIfInBounds];simp[q1]
   ·rw[Array.getElem?_setIfInBounds];simp[q2]
  ·rw[if_neg e]
   constructor
   ·rw[Array.getElem?_setIfInBounds,if_neg (by omega),Array.getElem?_setIfInBounds,if_neg (by omega)];exact h5
   ·rw[Array.getElem?_setIfInBounds,if_neg (by omega),Array.getElem?_setIfInBounds,if_neg (by omega)];exact h6
theorem PB.less{w:World}{g n s m:Nat}{D:Nat→Pr}(h:PB w g n s D)(hm:m≤n):PB w g m s D:=by
 obtain⟨cur,h1,h2,h3,h4⟩:=h
 exact⟨cur,h1,h2,by omega,fun j hj=>h4 j (by omega)⟩
theorem PB.congr{w:World}{g n s:Nat}{D E:Nat→Pr}(h:PB w g n s D)(e: ∀j,j<n→D j=E j):PB w g n s E:=by
 obtain⟨cur,h1,h2,h3,h4⟩:=h
 exact⟨cur,h1,h2,h3,fun j hj=>by rw[←e j hj];exact h4 j hj⟩
theorem setCells_fr(g:Nat): ∀ (vs:List Value) (o:Nat) (w:World),Fr (fun j=>j=g) w (w.setCells g o vs)
 | [],_,w=>Fr.refl _ w
 | v::r,o,w=>((Fr.refl (fun j=>j=g) w).setCell ⟨g,o,none⟩ v rfl).trans (setCells_fr g r (o+1) _)
theorem setCells_PB{g n s:Nat}{D:Nat→Pr}: ∀ (vs:List Value) (o:Nat) (w:World),n*2≤o→PB w g n s D→PB (w.setCells g o vs) g n s D
 | [],_,w,_,h=>h
 | v::r,o,w,ho,h=>by
   refine setCells_PB r (o+1) _ (by omega) ?_
   obtain⟨cur,h1,h2,h3,h4⟩:=h
   refine⟨cur.setIfInBounds o v,heap_setCell_same w g o _ _ _ h1,by simpa using h2,h3,fun j hj=> ?_⟩
   obtain⟨h5,h6⟩:=h4 j hj
   rw[Array.getElem?_setIfInBounds,if_neg (by omega),Array.getElem?_setIfInBounds,if_neg (by omega)]
   exact⟨h5,h6⟩
theorem run_clear2(w:World)(ty:TypeId)(b o n c:Nat)(hn:0<n)(hc: ∀j,j<n*2→(w.cell? ⟨b,o+j,none⟩).isSome=true)(hf: ∀j,j<n*2→w.frozen? ⟨b,o+j,none⟩=false):
  ∃zs,(Builtin.clear_ #[96] ty #[.slice (some ⟨b,o,none⟩) n c]).run Tryz.prog w= .ok (.tuple #[]) (w.setCells b o zs):=by
 refine⟨(Builtin.zeroCells (Value.agg #[.int .i64 0, .int .i64 0]).cells n).toList,?_⟩
 have hlen:(Builtin.zeroCells (Value.agg #[.int .i64 0, .int .i64 0]).cells n).toList.length=n*2:=by
  simp[Builtin.zeroCells,Value.cells]
 have hst:=run_storeCells_cells (P:=Tryz.prog) b o (Builtin.zeroCells (Value.agg #[.int .i64 0, .int .i64 0]).cells n).toList 0 w (by rw[hlen];simpa using hc) (by rw[hlen];simpa using hf) (by
  intro v hv
  simp[Builtin.zeroCells,Value.cells] at hv
  obtain⟨j,_,rfl⟩:=hv
  have:j % 2=0∨j % 2=1:=by omega
  rcases this with e | e <;> simp[e,Value.oneCell'])
 simp only[Nat.add_zero] at hst
 obtain⟨m,rfl⟩: ∃m,n=m+1:=⟨n - 1,by omega⟩
 simp[Builtin.clear_,run_underlying Tryz.underlying96,hst]
theorem own_PB{w:World}{B g c:Nat}{d:List Pr}(h:OwnP w B (some ⟨g,0,none⟩) c d):PB w g d.length (c*2) (fun j=>d.getD j Pr.zero)∧B≤g∧d.length≤c∧c≤9223372036854775807:=by
 rcases h.2 with ⟨e,_⟩ | ⟨g',c',cur,e,hb,hg,hn,hm,hs,ht⟩
 ·cases e
 ·injection e with e1 e2 e3
  injection e1 with e1
  injection e1 with e1
  subst e1;subst e3
  refine⟨⟨cur,hg,hs,by omega,fun j hj=> ?_⟩,hb,hn,hm⟩
  obtain⟨h1,h2⟩:=cellsP_at d j hj
  rw[←ht,List.getElem?_take,if_pos (by omega)] at h1 h2
  exact⟨by rw[←h1];simp,by rw[←h2];simp⟩
theorem PB_own{w:World}{B g c:Nat}{d:List Pr}(h:PB w g d.length (c*2) (fun j=>d.getD j Pr.zero))(hB:B≤g)(hc:d.length≤c)(hm:c≤9223372036854775807):OwnP w B (some ⟨g,0,none⟩) c d:=by
 obtain⟨cur,h1,h2,h3,h4⟩:=h
 refine⟨cellsP_len d, .inr ⟨g,c,cur,rfl,hB,h1,hc,hm,h2,?_⟩⟩
 apply List.ext_getElem?
 intro i
 rw[List.getElem?_take]
 by_cases hi:i<d.length*2
 ·rw[if_pos hi]
  obtain⟨j,hj⟩: ∃j,i=j*2∨i=j*2+1:=⟨i / 2,by omega⟩
  obtain⟨q1,q2⟩:=cellsP_at d j (by omega)
  obtain⟨q3,q4⟩:=h4 j (by omega)
  rcases hj with rfl | rfl
  ·rw[q1];simpa using q3
  ·rw[q2];simpa using q4
 ·rw[if_neg hi,List.getElem?_eq_none (by rw[cellsP_len];omega)]
theorem take_snocP{p:List Pr}{k:Nat}(h:k<p.length):p.take (k+1)=p.take k++[p.getD k Pr.zero]:=by
 rw[List.take_succ_eq_append_getElem h]
 simp[List.getD,List.getElem?_eq_getElem h]
theorem pr_ext{x y:Pr}(h1:x.a=y.a)(h2:x.b=y.b):x=y:=by cases x;cases y;simp_all
structure Ci(d:List Pr)(m kk:Nat)(D:Nat→Pr):Prop where
 len:(ddk d m).length=kk
 low: ∀j,j<kk→D j=(ddk d m).getD j Pr.zero
 high: ∀j,m≤j+1→D j=d.getD j Pr.zero
 lt:kk<m
theorem Ci.skip{d:List Pr}{m kk:Nat}{D:Nat→Pr}(h:Ci d m kk D)(hm:0<m)(e:d.getD m Pr.zero=d.getD (m - 1) Pr.zero):Ci d (m+1) kk D:=by
 have hs:=ddk_skip (d:=d) ⟨hm,e⟩
 exact⟨by rw[hs];exact h.len,fun j hj=>by rw[hs];exact h.low j hj,fun j hj=>h.high j (by omega),by have:=h.lt;omega⟩
theorem Ci.keep{d:List Pr}{m kk:Nat}{D:Nat→Pr}(h:Ci d m kk D)(e:d.getD m Pr.zero≠d.getD (m - 1) Pr.zero):Ci d (m+1) (kk+1) (updP D kk (d.getD m Pr.zero)):=by
 have hs:=ddk_keep (d:=d) (k:=m) (fun h=>e h.2)
 have hl:=h.len
 have hlt:=h.lt
 refine⟨by rw[hs,List.length_append,hl];rfl,fun j hj=> ?_,fun j hj=> ?_,by omega⟩
 ·rw[hs]
  unfold updP
  by_cases ej:j=kk
  ·subst ej
   rw[if_pos rfl]
   simp[List.getD,←hl]
  ·rw[if_neg ej,h.low j (by omega)]
   simp[List.getD,List.getElem?_append_left (show j<(ddk d m).length by omega)]
 ·unfold updP
  rw[if_neg (by omega)]
  exact h.high j (by omega)
theorem Ci.start{d:List Pr}{k:Nat}(hk:k<d.length)(h0:0<k)(ht:ddk d k=d.take k)(e:d.getD k Pr.zero=d.getD (k - 1) Pr.zero):Ci d (k+1) k (fun j=>d.getD j Pr.zero):=by
 have hs:=ddk_skip (d:=d) ⟨h0,e⟩
 refine⟨by rw[hs,ht,List.length_take];omega,fun j hj=> ?_,fun j _=>rfl,by omega⟩
 rw[hs,ht]
 simp[List.getD,hj]
theorem own_drew{w:World}{B:Nat}{a:Option Addr}{c:Nat}{d:List Pr}(h:OwnP w B a c d)(q:Nat):OwnP (w.drewN q) B a c d:=h
set_option maxHeartbeats 1600000 in
theorem compact_any{w:World}{B g c:Nat}{d:List Pr}(h:OwnP w B (some ⟨g,0,none⟩) c d):Calls Tryz.prog 112 #[.slice (some ⟨g,0,none⟩) d.length c] w fun e w'=>e= .returned (.slice (some ⟨g,0,none⟩) (ddk d d.length).length c)∧OwnP w' B (some ⟨g,0,none⟩) c (ddk d d.length)∧Fr (fun j=>j=g) w w':=by
 obtain⟨hP,hB,hdc,hcm⟩:=own_PB h
 have HP:=Lib.hid hP
 have HOWN:=Lib.hid h
 clear h hP
 by_cases h2:d.length<2
 ·have h2':(d.length:Int)<2:=by omega
  have hdd:ddk d d.length=d:=by
   match d,h2 with
   | [],_=>rfl
   | [x],_=>simp[ddk]
  rw[hdd]
  go_enter Tryz.func112,Tryz.ntmps112
  go_wp2_with fail
  go_ret
  exact⟨rfl,HOWN.out,Fr.refl _ _⟩
 ·have h2': ¬(d.length:Int)<2:=by omega
  go_enter Tryz.func112,Tryz.ntmps112
  go_wp2_with fail
  go_loopw [3] (fun i wr=> ∃k q:Nat,1≤k∧k≤d.length∧i= .int .i64 k∧Hid (ddk d k=d.take k)∧wr=w.drewN q) (fun i _=>d.length - (intOf i).toNat)
  case atStart=>exact⟨1,0,by omega,by omega,rfl,by show _=_;rw[take_snocP (by omega)];simp[ddk],rfl⟩
  case round=>
   obtain⟨k,q,hk1,hk,rfl,HT,rfl⟩:=hrel
   obtain⟨m,rfl⟩: ∃m,k=m+1:=⟨k - 1,by omega⟩
   by_cases hlt:m+1<d.length
   ·have hlt':(((m+1:Nat):Int))<d.length:=by omega
    obtain⟨x0,x1⟩:=(HP.out.cell hlt)
    obtain⟨y0,y1⟩:=(HP.out.cell (show m<d.length by omega))
    obtain⟨x,HX⟩:=named (d.getD (m+1) Pr.zero)
    obtain⟨y,HY⟩:=named (d.getD m Pr.zero)
    rw[HX.out] at x0 x1
    rw[HY.out] at y0 y1
    by_cases hxy:x=y
    ·subst hxy
     go_wp2_with fail
     go_quiet (fail)
     go_wp2_with fail
     have HCI:Hid (Ci d (m+1+1) (m+1) (fun j=>d.getD j Pr.zero)):=Ci.start hlt (by omega) HT.out (by rw[HX.out];exact HY.out.symm)
     clear x0 x1 y0 y1
     generalize hL:d.length - (m+1)=L at*
     go_loopw [3,5] (fun s3 s5 wr=> ∃ (kk k2:Nat) (D:Nat→Pr),1≤k2∧k2≤L∧s3= .int .i64 kk∧s5= .int .i64 k2∧Hid (Ci d (m+1+k2) kk D)∧Hid (PB wr g d.length (c*2) D)∧Hid (Fr (fun j=>j=g) w wr)) (fun _ s5 _=>L - (intOf s5).toNat)
     case atStart=>exact⟨m+1,1,_,by omega,by omega,rfl,rfl,HCI,HP.out,(Fr.refl _ _).drewN _⟩
     case round=>
      obtain⟨kk,k2,D,hk21,hk2,rfl,rfl,HC,HPB,HF⟩:=hrel
      obtain⟨t,rfl⟩: ∃t,k2=t+1:=⟨k2 - 1,by omega⟩
      have hkk:=HC.out.lt
      by_cases hlt2:t+1<L
      ·have hlt2':((t+1:Nat):Int)<L:=by omega
       obtain⟨z0,z1⟩:=HPB.out.cell (show m+1+(t+1)<d.length by omega)
       obtain⟨v0,v1⟩:=HPB.out.cell (show m+1+t<d.length by omega)
       obtain⟨o0,o1⟩:=HPB.out.cell (show kk<d.length by omega)
       have f0:=HPB.out.free (kk*2)
       have f1:=HPB.out.free (kk*2+1)
       rw[HC.out.high _ (by omega)] at z0 z1 v0 v1
       rw[show(m+1+(t+1))*2=(m+1)*2+(t+1)*2 by omega] at z0 z1
       rw[show(m+1+t)*2=(m+1)*2+t*2 by omega] at v0 v1
       obtain⟨u,HU⟩:=named (d.getD (m+1+(t+1)) Pr.zero)
       obtain⟨v,HV⟩:=named (d.getD (m+1+t) Pr.zero)
       rw[HU.out] at z0 z1
       rw[HV.out] at v0 v1
       have HE:Hid (m+1+(t+1)=m+1+t+1):=rfl
       by_cases huv:u=v
       ·subst huv
        have HC2:Hid (Ci d (m+1+(t+1+1)) kk D):=HC.out.skip (by omega) (by rw[HU.out];exact HV.out.symm)
        generalize D kk=old at*
        go_wp2_with fail
        go_quiet (fail)
        go_wp2_with fail
        exact⟨⟨kk,t+1+1,D,by omega,by omega,rfl,by simp,HC2,HPB.out,HF.out.drewN _⟩,by simp[intOf];omega⟩
       ·have HC2:Hid (Ci d (m+1+(t+1+1)) (kk+1) (updP D kk u)):=by
         have:=HC.out.keep (by rw[HU.out];exact fun e=>huv (e.trans HV.out))
         rw[HU.out] at this
         exact this
        generalize D kk=old at o0 o1
        by_cases ha:u.a=v.a
        ·have hb:u.b≠v.b:=fun hb=>huv (pr_ext ha hb)
         have hb':((u.b:Int)==(v.b:Int))=false:=by simp;omega
         have ha':((u.a:Int)==(v.a:Int))=true:=by simp[ha]
         clear ha hb
         go_wp2_with fail
         go_quiet (fail)
         go_wp2_with fail
         exact⟨⟨kk+1,t+1+1,_,by omega,by omega,by simp,by simp,HC2,PB.put (w:=wr.drewN nq) HPB.out (show kk<d.length by omega) u,((HF.out.drewN nq).setCell ⟨g,kk*2,none⟩ _ rfl).setCell ⟨g,kk*2+1,none⟩ _ rfl⟩,by simp[intOf];omega⟩
        ·have ha':((u.a:Int)==(v.a:Int))=false:=by simp;omega
         go_wp2_with fail
         go_quiet (fail)
         go_wp2_with fail
         exact⟨⟨kk+1,t+1+1,_,by omega,by omega,by simp,by simp,HC2,PB.put (w:=wr.drewN nq) HPB.out (show kk<d.length by omega) u,((HF.out.drewN nq).setCell ⟨g,kk*2,none⟩ _ rfl).setCell ⟨g,kk*2+1,none⟩ _ rfl⟩,by simp[intOf];omega⟩
      ·have hlt2': ¬((t+1:Nat):Int)<L:=by omega
       have hend:m+1+(t+1)=d.length:=by omega
       rw[hend] at HC
       have hkd:kk<d.length:=by omega
       obtain⟨zs,hcl⟩: ∃zs,∀ty,(Builtin.clear_ #[96] ty #[.slice (some ⟨g,kk*2,none⟩) (d.length - kk) (c - kk)]).run Tryz.prog wr= .ok (.tuple #[]) (wr.setCells g (kk*2) zs):=by
        obtain⟨zs,hz⟩:=run_clear2 wr 0 g (kk*2) (d.length - kk) (c - kk) (by omega) (fun j hj=>by
         obtain⟨i,hi⟩: ∃i,kk*2+j=i*2∨kk*2+j=i*2+1:=⟨(kk*2+j) / 2,by omega⟩
         obtain⟨q0,q1⟩:=HPB.out.cell (show i<d.length by omega)
         rcases hi with e | e
         ·rw[e,q0];rfl
         ·rw[e,q1];rfl) (fun j _=>HPB.out.free _)
        exact⟨zs,fun ty=>hz⟩
       have HPE:=Lib.hid (setCells_PB zs (kk*2) wr (Nat.le_refl _) (HPB.out.less (Nat.le_of_lt hkd)))
       have HFE:=Lib.hid (HF.out.trans (setCells_fr g zs (kk*2) wr))
       have hkc:(kk:Int)≤c:=by omega
       go_wp2_with fail
       go_ret
       have hl:=HC.out.len
       have hlow:=HC.out.low
       rw[hl]
       refine⟨rfl,?_,HFE.out⟩
       refine PB_own ?_ hB (by rw[hl];omega) hcm
       rw[hl]
       exact HPE.out.congr hlow
    ·have HKP:Hid (ddk d (m+1+1)=d.take (m+1+1)):=by
      show _=_
      rw[ddk_keep (fun h=>hxy (by rw[←HX.out,←HY.out];exact h.2)),HT.out,←take_snocP hlt]
     by_cases ha:x.a=y.a
     ·have hb:x.b≠y.b:=fun hb=>hxy (pr_ext ha hb)
      have hb':((x.b:Int)==(y.b:Int))=false:=by simp;omega
      rw[ha] at x0
      go_wp2_with fail
      go_quiet (fail)
      go_wp2_with fail
      exact⟨⟨m+1+1,_,by omega,by omega,by simp,HKP,rfl⟩,by simp[intOf];omega⟩
     ·have ha':((x.a:Int)==(y.a:Int))=false:=by simp;omega
      go_wp2_with fail
      go_quiet (fail)
      go_wp2_with fail
      exact⟨⟨m+1+1,_,by omega,by omega,by simp,HKP,rfl⟩,by simp[intOf];omega⟩
   ·have hlt': ¬(((m+1:Nat):Int))<d.length:=by omega
    have hlen:m+1=d.length:=by omega
    have hdd:ddk d d.length=d:=by rw[←hlen,HT.out,hlen,List.take_length]
    have HDD:=Lib.hid hdd
    clear hdd hlen
    go_wp2_with fail
    go_ret
    rw[HDD.out]
    exact⟨rfl,own_drew HOWN.out _,(Fr.refl _ _).drewN _⟩
def ltP(x y:Pr):Prop:=x.a<y.a∨x.a=y.a∧x.b<y.b
instance (x y:Pr):Decidable (ltP x y):=by unfold ltP;exact inferInstance
theorem cmpP_lt(x y:Pr):cmpP x y<0↔ltP x y:=by
 unfold cmpP orI cmpI ltP
 by_cases h1:x.a<y.a
 ·have:(x.a:Int)<y.a:=by omega
  simp[this,h1]
 ·by_cases h2:y.a<x.a
  ·have q1: ¬(x.a:Int)<y.a:=by omega
   have q2:(y.a:Int)<x.a:=by omega
   simp[q1,q2,h1];omega
  ·have q1: ¬(x.a:Int)<y.a:=by omega
   have q2: ¬(y.a:Int)<x.a:=by omega
   have e:x.a=y.a:=by omega
   by_cases h3:x.b<y.b
   ·have q3:(x.b:Int)<y.b:=by omega
    simp[q3,h3,e]
   ·have q3: ¬(x.b:Int)<y.b:=by omega
    by_cases h4:y.b<x.b
    ·have q4:(y.b:Int)<x.b:=by omega
     simp[q3,q4,h3,e]
    ·have q4: ¬(y.b:Int)<x.b:=by omega
     simp[q3,q4,h3,e]
theorem ltP_trans{x y z:Pr}(h1:ltP x y)(h2:ltP y z):ltP x z:=by unfold ltP at*;omega
theorem ltP_irrefl(x:Pr): ¬ltP x x:=by unfold ltP;omega
theorem ltP_tri(x y:Pr)(h1: ¬ltP x y)(h2: ¬ltP y x):x=y:=by unfold ltP at*;exact pr_ext (by omega) (by omega)
def srtP(d:List Pr):List Pr:=d.mergeSort fun x y=> !decide (cmpP y x<0)
theorem srtP_len(d:List Pr):(srtP d).length=d.length:=by simp[srtP]
theorem srtP_mem{d:List Pr}{x:Pr}:x∈srtP d↔x∈d:=by simp[srtP]
theorem srtP_sorted(d:List Pr):(srtP d).Pairwise (fun x y=> ¬ltP y x):=by
 have h:=List.pairwise_mergeSort (le:=fun x y=> !decide (cmpP y x<0)) (fun a b c h1 h2=>by
  simp only[Bool.not_eq_true',decide_eq_false_iff_not,cmpP_lt] at h1 h2 ⊢
  unfold ltP at*;omega) (fun a b=>by
  simp only[Bool.or_eq_true,Bool.not_eq_true',decide_eq_false_iff_not,cmpP_lt]
  unfold ltP;omega) d
 refine h.imp fun {x y} h=> ?_
 simp only[Bool.not_eq_true',decide_eq_false_iff_not,cmpP_lt] at h
 exact h
theorem getD_memP{q:List Pr}{i:Nat}(h:i<q.length):q.getD i Pr.zero∈q:=by simp[List.getD,List.getElem?_eq_getElem h]
theorem sorted_get{d:List Pr}(h:d.Pairwise (fun x y=> ¬ltP y x)){i j:Nat}(hij:i<j)(hj:j<d.length): ¬ltP (d.getD j Pr.zero) (d.getD i Pr.zero):=by
 have:=List.pairwise_iff_getElem.1 h i j (by omega) hj hij
 simpa[List.getD,hj,show i<d.length by omega] using this
theorem ddk_inv{d:List Pr}(h:d.Pairwise (fun x y=> ¬ltP y x)): ∀k,k≤d.length→(ddk d k).Pairwise ltP∧(∀x,x∈ddk d k↔x∈d.take k)
 | 0,_=>⟨by simp[ddk],fun x=>by simp[ddk]⟩
 | k+1,hk=>by
   obtain⟨h1,h2⟩:=ddk_inv h k (by omega)
   have hts:=take_snocP (p:=d) (k:=k) (by omega)
   by_cases hc:0<k∧d.getD k Pr.zero=d.getD (k - 1) Pr.zero
   ·rw[ddk_skip hc]
    refine⟨h1,fun x=> ?_⟩
    rw[h2,hts,List.mem_append,List.mem_singleton]
    constructor
    ·exact .inl
    ·rintro(hx | rfl)
     ·exact hx
     ·rw[hc.2]
      have:(d.take k).getD (k - 1) Pr.zero=d.getD (k - 1) Pr.zero:=by
       simp[List.getD,show k - 1<k by omega]
      rw[←this]
      exact getD_memP (by rw[List.length_take];omega)
   ·rw[ddk_keep hc]
    refine⟨?_,fun x=> ?_⟩
    ·rw[List.pairwise_append]
     refine⟨h1,by simp,fun x hx y hy=> ?_⟩
     rw[List.mem_singleton] at hy
     subst hy
     have hx:=(h2 x).1 hx
     obtain⟨i,hi,rfl⟩:=List.mem_iff_getElem.1 hx
     rw[List.length_take] at hi
     have e:(d.take k)[i]=d.getD i Pr.zero:=by simp[List.getD,show i<d.length by omega]
     rw[e]
     have hik:i<k:=by omega
     have s1:=sorted_get h hik (by omega)
     have s2:=sorted_get h (show k - 1<k by omega) (by omega)
     have hne:d.getD k Pr.zero≠d.getD (k - 1) Pr.zero:=fun e=>hc ⟨by omega,e⟩
     have s3:ltP (d.getD (k - 1) Pr.zero) (d.getD k Pr.zero):=by
      by_cases q:ltP (d.getD (k - 1) Pr.zero) (d.getD k Pr.zero)
      ·exact q
      ·exact absurd (ltP_tri _ _ s2 q) hne
     by_cases ei:i=k - 1
     ·rw[ei];exact s3
     ·have s4:=sorted_get h (show i<k - 1 by omega) (by omega)
      unfold ltP at*
      omega
    ·rw[List.mem_append,h2,hts,List.mem_append]
def pq(l:List A):List Pr:=l.filterMap (fun x=>if x.f=x.t then none else some ⟨(min x.f x.t).toNat,(max x.f x.t).toNat⟩)
theorem pq_snoc(q:List A)(x:A):pq (q++[x])=if x.f=x.t then pq q else pq q++[⟨(min x.f x.t).toNat,(max x.f x.t).toNat⟩]:=by
 unfold pq
 rw[List.filterMap_append]
 by_cases h:x.f=x.t
 ·rw[if_pos h];simp[h]
 ·rw[if_neg h];simp[h]
theorem pq_len(l:List A):(pq l).length≤l.length:=List.length_filterMap_le _ _
def prl(l:List A):List Pr:=ddk (srtP (pq l)) (srtP (pq l)).length
theorem prl_sorted(l:List A):(prl l).Pairwise ltP:=(ddk_inv (srtP_sorted (pq l)) _ (Nat.le_refl _)).1
theorem prl_len(l:List A):(prl l).length≤l.length:=Nat.le_trans (ddk_len _ _) (by rw[srtP_len];exact pq_len l)
def nr(q:List A)(v u:Nat):Bool:=q.any (fun x=>(x.f==(v:Int)&&x.t==(u:Int))||(x.t==(v:Int)&&x.f==(u:Int)))
theorem prl_mem{l:List A}(hpo: ∀x,x∈l→0≤x.f∧0≤x.t){p:Pr}:p∈prl l↔p.a<p.b∧nr l p.a p.b=true:=by
 have h:=(ddk_inv (srtP_sorted (pq l)) _ (Nat.le_refl _)).2 p
 unfold prl
 rw[h,List.take_length,srtP_mem]
 unfold pq nr
 rw[List.mem_filterMap,List.any_eq_true]
 constructor
 ·rintro⟨x,hx,he⟩
  have hp:=hpo x hx
  by_cases e:x.f=x.t
  ·simp[e] at he
  ·rw[if_neg e] at he
   injection he with he
   subst he
   refine⟨by show(min x.f x.t).toNat<(max x.f x.t).toNat;omega,x,hx,?_⟩
   simp only[Bool.or_eq_true,Bool.and_eq_true,beq_iff_eq]
   omega
 ·rintro⟨hab,x,hx,hn⟩
  have hp:=hpo x hx
  simp only[Bool.or_eq_true,Bool.and_eq_true,beq_iff_eq] at hn
  refine⟨x,hx,?_⟩
  rw[if_neg (by omega)]
  congr 1
  exact pr_ext (by show(min x.f x.t).toNat=p.a;omega) (by show(max x.f x.t).toNat=p.b;omega)
theorem sorted_one{p q:List Pr}(hp:p.Pairwise ltP)(hq:q.Pairwise ltP)(he: ∀x,x∈p↔x∈q):p=q:=by
 have hn: ∀ {r:List Pr},r.Pairwise ltP→r.Nodup:=fun h=>h.imp fun {a b} h e=>by subst e;exact ltP_irrefl _ h
 refine List.Perm.eq_of_pairwise (le:=ltP) (fun a b _ _ h1 h2=>absurd (ltP_trans h1 h2) (ltP_irrefl _)) hp hq ((List.perm_ext_iff_of_nodup (hn hp) (hn hq)).2 he)
theorem nr_adj{l:List A}(hpo: ∀x,x∈l→0≤x.f∧0≤x.t)(v u:Nat):nr l v u=adjF (edl l) (2*l.length) v 0 u:=by
 rw[Bool.eq_iff_iff,adjF_iff]
 unfold nr
 rw[List.any_eq_true]
 constructor
 ·rintro⟨x,hx,h⟩
  obtain⟨j,hj,rfl⟩:=List.mem_iff_getElem.1 hx
  have hp:=hpo _ hx
  have he:=edl_at hj
  rw[show l.getD j A.zero=l[j] by simp[List.getD,List.getElem?_eq_getElem hj]] at he
  simp only[Bool.or_eq_true,Bool.and_eq_true,beq_iff_eq] at h
  rcases h with ⟨h1,h2⟩ | ⟨h1,h2⟩
  ·refine⟨2*j,Nat.zero_le _,by omega,?_,?_⟩
   ·unfold frm;rw[if_pos (by omega),show 2*j / 2=j by omega,he];show l[j].f.toNat=v;omega
   ·unfold tto;rw[if_pos (by omega),show 2*j / 2=j by omega,he];show l[j].t.toNat=u;omega
  ·refine⟨2*j+1,Nat.zero_le _,by omega,?_,?_⟩
   ·unfold frm;rw[if_neg (by omega),show(2*j+1) / 2=j by omega,he];show l[j].t.toNat=v;omega
   ·unfold tto;rw[if_neg (by omega),show(2*j+1) / 2=j by omega,he];show l[j].f.toNat=u;omega
 ·rintro⟨k,_,hk,h1,h2⟩
  have hj:k / 2<l.length:=by omega
  have hx:l.getD (k / 2) A.zero∈l:=by simp[List.getD,List.getElem?_eq_getElem hj]
  have hp:=hpo _ hx
  have he:=edl_at hj
  refine⟨l.getD (k / 2) A.zero,hx,?_⟩
  unfold frm at h1
  unfold tto at h2
  rw[he] at h1 h2
  generalize l.getD (k / 2) A.zero=x at*
  simp only[Bool.or_eq_true,Bool.and_eq_true,beq_iff_eq]
  by_cases e:k % 2=0
  ·rw[if_pos e] at h1 h2
   have h1:x.f.toNat=v:=h1
   have h2:x.t.toNat=u:=h2
   left;omega
  ·rw[if_neg e] at h1 h2
   have h1:x.t.toNat=v:=h1
   have h2:x.f.toNat=u:=h2
   right;omega
end Go.Proofs.YtmenajiceaicpaaGreat
