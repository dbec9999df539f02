import Derived.Test.YtmenajiceaicpaaGreatZAK
import Derived.Test.YtmenajiceaicpaaGreatZAE
import Derived.Maps.OwnSet
import Derived.Deep.DeepMust
import Derived.Deep.RegionHeld3
import Derived.Test.YtmenajiceaicpaaGreatZAL
namespace Go.Proofs.YtmenajiceaicpaaGreat
open Go.RowKit
theorem getD_inL{L:List Nat}{v:Nat}(h:v<L.length):L.getD v 0=L[v]:=by simp[List.getD,h]
theorem mem_getDN{L:List Nat}{x:Nat}(h:x∈L): ∃u,u<L.length∧L.getD u 0=x:=by
 obtain⟨j,hj,rfl⟩:=List.mem_iff_getElem.1 h
 exact⟨j,hj,getD_inL hj⟩
theorem as_rangeL(L:List Nat):L=(List.range L.length).map (fun v=>L.getD v 0):=by
 refine List.ext_getElem (by simp) (fun i h1 h2=> ?_)
 simp[List.getD,h1]
theorem count_atL(L:List Nat)(x:Nat):L.count x=(List.range L.length).countP (fun v=>decide (L.getD v 0=x)):=by
 have h:=congrArg (List.count x) (as_rangeL L)
 rw[h,List.count,List.countP_map]
 congr 1
structure Pat(L T:List Nat):Prop where
 len:T.length=L.length
 eq: ∀u v,u<L.length→v<L.length→(L.getD u 0=L.getD v 0↔T.getD u 0=T.getD v 0)
theorem Pat.count{L T:List Nat}(h:Pat L T){u:Nat}(hu:u<L.length):T.count (T.getD u 0)=L.count (L.getD u 0):=by
 rw[count_atL,count_atL,h.len]
 refine List.countP_congr (fun v hv=> ?_)
 have hv:=List.mem_range.1 hv
 simp only[decide_eq_true_eq]
 exact(h.eq v u hv hu).symm
theorem tdL_getD{L:List Nat}{v:Nat}(h:v<L.length):(tdL L).getD v 0=T3.lab (ldI (ints L)) v:=T3.labs_getD _ _ _ h
theorem tdL_eq{L:List Nat}{u v:Nat}(hu:u<L.length)(hv:v<L.length):(tdL L).getD u 0=(tdL L).getD v 0↔L.getD u 0=L.getD v 0:=by
 rw[tdL_getD hu,tdL_getD hv]
 constructor
 ·intro h
  have h1:=T3.lab_lead (ldI_RT (ints L)) h
  have h2:=ldI_iff.2 h1
  rw[ints_at hu,ints_at hv] at h2
  omega
 ·intro h
  have h1:ldI (ints L) u=ldI (ints L) v:=ldI_eq (by rw[ints_at hu,ints_at hv,h])
  unfold T3.lab
  rw[h1]
theorem pat_tdL(L:List Nat):Pat L (tdL L):=⟨tdL_len L,fun _ _ hu hv=>(tdL_eq hu hv).symm⟩
theorem tdL_right(L:List Nat):tdy (ints (tdL L)) 0=true:=by
 have h:=tdy_labs (ldI_RT (ints L)) L.length L.length 0 (by omega)
 rw[List.drop_zero] at h
 exact h
theorem tdL_self{L:List Nat}(h:tdy (ints L) 0=true):tdL L=L:=by
 have h1:=(tdy_iff (ints L)).1 h
 rw[ints_len] at h1
 have h2:ints L=ints (tdL L):=h1
 have h3:=congrArg (List.map Int.toNat) h2
 simpa[ints,Function.comp_def] using h3.symm
def PInL(P:List Pr)(n:Nat):Prop:= ∀p,p∈P→p.a<n∧p.b<n
def hitV(L:List Nat)(v x:Nat)(p:Pr):Bool:=(decide (p.a=v)&&decide (L.getD p.b 0=x))||(decide (p.b=v)&&decide (L.getD p.a 0=x))
def cv(P:List Pr)(L:List Nat)(v x:Nat):Nat:=P.countP (hitV L v x)
theorem cv_snoc(P:List Pr)(L:List Nat)(v x:Nat)(p:Pr):cv (P++[p]) L v x=cv P L v x+if hitV L v x p=true then 1 else 0:=by
 unfold cv
 rw[List.countP_append]
 simp[List.countP_cons]
def gn(P:List Pr)(L:List Nat)(v f:Nat):Int:=(cv P L v (L.getD f 0):Int) - (cv P L v (L.getD v 0):Int)
def Open(P:List Pr)(L:List Nat)(B v f:Nat):Prop:=v<L.length∧f<L.length∧ldI (ints L) f=f∧0<gn P L v f∧L.count (L.getD f 0)<B
def noWorseL(g:Int)(v f:Nat)(g':Int)(v' f':Nat):Prop:=g'<g∨g'=g∧(v<v'∨v=v'∧f≤f')
def Nxt(P:List Pr)(L:List Nat)(B v f:Nat):Prop:=Open P L B v f∧∀v' f',Open P L B v' f'→noWorseL (gn P L v f) v f (gn P L v' f') v' f'
theorem Nxt.one{P:List Pr}{L:List Nat}{B v f v' f':Nat}(h:Nxt P L B v f)(h':Nxt P L B v' f'):v=v'∧f=f':=by
 have h1:=h.2 v' f' h'.1
 have h2:=h'.2 v f h.1
 unfold noWorseL at h1 h2
 omega
theorem getD_setN'{S:List Nat}{k j x:Nat}(hk:k<S.length):(S.set k x).getD j 0=if j=k then x else S.getD j 0:=getD_setN hk
inductive Imp(P:List Pr)(B:Nat):Nat→List Nat→List Nat→Nat→Prop
 | zero {L:List Nat}:Imp P B 0 L L 0
 | stop {k:Nat} {L:List Nat} (h: ∀v f,¬Open P L B v f):Imp P B k L L 0
 | step {k m v f:Nat} {L E:List Nat} (h:Nxt P L B v f) (r:Imp P B k (L.set v (L.getD f 0)) E m):Imp P B (k+1) L E (m+1)
theorem Imp.len{P:List Pr}{B k m:Nat}{L E:List Nat}(h:Imp P B k L E m):E.length=L.length:=by
 induction h with
 | zero=>rfl
 | stop _=>rfl
 | step _ _ ih=>rw[ih,List.length_set]
theorem Imp.one{P:List Pr}{B k m m':Nat}{L E E':List Nat}(h:Imp P B k L E m):Imp P B k L E' m'→E=E'∧m=m':=by
 induction h generalizing E' m' with
 | zero=>
   intro h2
   cases h2 with
   | zero=>exact⟨rfl,rfl⟩
   | stop _=>exact⟨rfl,rfl⟩
 | stop h=>
   intro h2
   cases h2 with
   | zero=>exact⟨rfl,rfl⟩
   | stop _=>exact⟨rfl,rfl⟩
   | step h3 _=>exact absurd h3.1 (h _ _)
 | step h _ ih=>
   intro h2
   cases h2 with
   | stop h3=>exact absurd h.1 (h3 _ _)
   | step h3 r3=>
     obtain⟨rfl,rfl⟩:=h.one h3
     obtain⟨rfl,rfl⟩:=ih r3
     exact⟨rfl,rfl⟩
end Go.Proofs.YtmenajiceaicpaaGreat
namespace Go.Proofs.YtmenajiceaicpaaGreat
open Go.RowKit Go.Maps
def MapI(w:World)(b nn k:Nat)(F:Nat→Nat):Prop:= ∃D:DataW Unit,w.ownsMap Tryz.prog 3 (plainElem (H:=Unit) Tryz.prog 3) b nn D∧(∀x:Nat,x≤100000000→D.atKey (.int .i64 (x:Int)) (.lit (.int .i64 0))= .lit (.int .i64 ((F x:Nat):Int)))∧∀x:Int,Maps.has D (.int .i64 x)=true→∃y:Nat,y<k∧x=(y:Int)
theorem MapI.made(w:World)(k:Nat):MapI (w.alloc (.map #[] 0)) w.heap.size 0 k (fun _=>0):=⟨_,World.ownsMap_made _ _ _ _,fun x _=>by simp[DataW.atKey],fun x hx=>by simp[Maps.has] at hx⟩
theorem MapI.lt{w:World}{b nn k:Nat}{F:Nat→Nat}(h:MapI w b nn k F):b<w.heap.size:=by
 obtain⟨D,h1,_⟩:=h
 exact h1.lt
theorem MapI.fr{D:Nat→Prop}{w w':World}{b nn k:Nat}{F:Nat→Nat}(h:MapI w b nn k F)(hf:Fr D w w')(hn: ¬D b):MapI w' b nn k F:=by
 obtain⟨D',h1,h2⟩:=h
 refine⟨D',?_,h2⟩
 obtain⟨es,ck,g1,g2,g3,g4⟩:=h1
 exact⟨es,ck,(hf.block b (lt_of_block g1) hn).trans g1,g2,g3,g4⟩
theorem MapI.on{w w':World}{b nn k:Nat}{F:Nat→Nat}(h:MapI w b nn k F)(hb:Below w.heap.size w w'):MapI w' b nn k F:=h.fr (D:=fun _=>False) ⟨hb.os,hb.tape,hb.output,hb.size,fun j hj _=>hb.block j hj⟩ id
theorem MapI.look{w:World}{b nn k:Nat}{F:Nat→Nat}(h:MapI w b nn k F){x:Nat}(hx:x≤100000000):(Instr.lookup 171 (.map (some b)) (.int .i64 (x:Int)) false).run Tryz.prog w= .ok (.int .i64 ((F x:Nat):Int)) w:=by
 obtain⟨D,h1,h2,_⟩:=h
 obtain⟨c,hr,hc,_⟩:=h1.lookup_int (t:=171) law3 Tryz.underlying171 Tryz.underlying3 (zero3 _) (keyOf_int_mk Tryz.underlying3 (wfN (show x≤9223372036854775807 by omega)))
 have h3:=(h2 x hx).symm.trans hc
 clear h2 hc hx
 simp only[DataW.lit.injEq,Lit.int.injEq,true_and] at h3
 rw[hr,←h3]
structure M where
 v:Nat
 l:Nat
 g:Int
def M.val(m:M):Value:= .agg #[.int .i64 (m.v:Int), .int .i64 (m.l:Int), .int .i64 m.g]
def ahB(x y:M)(e1 e2:Int):Bool:=if x.g=y.g then decide (e1<e2) else decide (y.g<x.g)
theorem two_belowL(w:World)(o o':Obj):Below w.heap.size w ((w.alloc o).alloc o'):=((Below.refl _ _).alloc (Nat.le_refl _) _).alloc (by simp) _
set_option maxRecDepth 100000 in
set_option maxHeartbeats 1600000 in
theorem ahead_any(cb eg k ec:Nat)(x y:M)(e1 e2:Int)(w:World)(hc:w.cell? ⟨cb,3,none⟩=some (.slice (some ⟨eg,0,none⟩) k ec))(hcb:cb<w.heap.size)(heg:eg<w.heap.size)(h1:w.cell? ⟨eg,x.l,none⟩=some (.int .i64 e1))(h2:w.cell? ⟨eg,y.l,none⟩=some (.int .i64 e2))(hx:x.l<k)(hy:y.l<k):
  Calls Tryz.prog 181 #[.pointer (some ⟨cb,0,none⟩),x.val,y.val] w fun e w'=>e= .returned (.bool (ahB x y e1 e2))∧Below w.heap.size w w':=by
 have HB0:=Lib.hid (two_belowL w (Obj.cells #[Value.int IntKind.i64 x.v,Value.int IntKind.i64 x.l,Value.int IntKind.i64 x.g] 136) (Obj.cells #[Value.int IntKind.i64 y.v,Value.int IntKind.i64 y.l,Value.int IntKind.i64 y.g] 136))
 have hg2:((w.alloc (Obj.cells #[Value.int IntKind.i64 x.v,Value.int IntKind.i64 x.l,Value.int IntKind.i64 x.g] 136)).alloc (Obj.cells #[Value.int IntKind.i64 y.v,Value.int IntKind.i64 y.l,Value.int IntKind.i64 y.g] 136)).heap[w.heap.size+1]? =some (Obj.cells #[Value.int IntKind.i64 y.v,Value.int IntKind.i64 y.l,Value.int IntKind.i64 y.g] 136):=by
  have h:=heap_top (w.alloc (Obj.cells #[Value.int IntKind.i64 x.v,Value.int IntKind.i64 x.l,Value.int IntKind.i64 x.g] 136)) (Obj.cells #[Value.int IntKind.i64 y.v,Value.int IntKind.i64 y.l,Value.int IntKind.i64 y.g] 136)
  rw[World.size_alloc] at h
  exact h
 have hg1:((w.alloc (Obj.cells #[Value.int IntKind.i64 x.v,Value.int IntKind.i64 x.l,Value.int IntKind.i64 x.g] 136)).alloc (Obj.cells #[Value.int IntKind.i64 y.v,Value.int IntKind.i64 y.l,Value.int IntKind.i64 y.g] 136)).heap[w.heap.size]? =some (Obj.cells #[Value.int IntKind.i64 x.v,Value.int IntKind.i64 x.l,Value.int IntKind.i64 x.g] 136):=(Below.heap_alloc _ _ _ (by simp)).trans (heap_top w _)
 have c3:=(HB0.out.cell (p:=⟨cb,3,none⟩) hcb).trans hc
 have d1:=(HB0.out.cell (p:=⟨eg,x.l,none⟩) heg).trans h1
 have d2:=(HB0.out.cell (p:=⟨eg,y.l,none⟩) heg).trans h2
 obtain⟨x0,x1,x2⟩:=three_cells hg1
 obtain⟨y0,y1,y2⟩:=three_cells hg2
 obtain⟨xv,xl,xg⟩:=x
 obtain⟨yv,yl,yg⟩:=y
 have HXV:Hid ((⟨xv,xl,xg⟩:M).val= .agg #[.int .i64 (xv:Int), .int .i64 (xl:Int), .int .i64 xg]):=rfl
 have HYV:Hid ((⟨yv,yl,yg⟩:M).val= .agg #[.int .i64 (yv:Int), .int .i64 (yl:Int), .int .i64 yg]):=rfl
 rw[HXV.out,HYV.out]
 have hx':(xl:Int)<k:=by have:xl<k:=hx;omega
 have hy':(yl:Int)<k:=by have:yl<k:=hy;omega
 have HAB:Hid (ahB ⟨xv,xl,xg⟩ ⟨yv,yl,yg⟩ e1 e2=if xg=yg then decide (e1<e2) else decide (yg<xg)):=rfl
 rw[HAB.out]
 simp only at x0 x1 x2 y0 y1 y2 d1 d2 c3 HB0
 clear hg1 hg2 hc h1 h2 hx hy HAB HXV HYV
 generalize hp:w.heap.size=p at*
 by_cases hgg:xg=yg
 ·subst hgg
  have t1:(xg != xg)=false:=by simp
  rw[if_pos rfl]
  go_enter Tryz.func181,Tryz.ntmps181
  go_wp2_with fail
  generalize hW:(w.alloc (Obj.cells #[Value.int IntKind.i64 xv,Value.int IntKind.i64 xl,Value.int IntKind.i64 xg] 136)).alloc (Obj.cells #[Value.int IntKind.i64 yv,Value.int IntKind.i64 yl,Value.int IntKind.i64 xg] 136)=W at*
  clear hW
  go_quiet (fail)
  go_wp2_with fail
  go_ret
  exact⟨rfl,HB0.out.trans ⟨rfl,rfl,rfl,Nat.le_refl _,fun _ _=>rfl⟩⟩
 ·have t1:(xg != yg)=true:=by simpa using hgg
  rw[if_neg hgg]
  clear hgg
  go_enter Tryz.func181,Tryz.ntmps181
  go_wp2_with fail
  go_ret
  exact⟨rfl,HB0.out⟩
structure FoS(k:Nat)(F S:Nat→Nat)(Le:Nat→Int)(bd:Int)(own v:Nat)(Q:Nat→Prop)(m:M):Prop where
 v:m.v=v
 l:m.l<k
 g:0≤m.g
 some:0<m.g→(F m.l:Int) - own=m.g∧(S m.l:Int)<bd∧∀y,y<k→Q y→(S y:Int)<bd→(F y:Int) - own<m.g∨(F y:Int) - own=m.g∧Le m.l≤Le y
 none:m.g=0→∀y,y<k→Q y→(S y:Int)<bd→(F y:Int) - own≤0
theorem FoS.start{k:Nat}{F S:Nat→Nat}{Le:Nat→Int}{bd:Int}{own v:Nat}{Q:Nat→Prop}(hk:0<k)(hQ: ∀y,Q y→F y=0):FoS k F S Le bd own v Q ⟨v,0,0⟩:=
 ⟨rfl,hk,Int.le_refl _,fun h=>absurd h (by simp),fun _ y _ hy _=>by rw[hQ y hy];omega⟩
theorem FoS.take{k:Nat}{F S:Nat→Nat}{Le:Nat→Int}{bd:Int}{own v z:Nat}{Q Q':Nat→Prop}{m:M}(h:FoS k F S Le bd own v Q m)(hQ: ∀y,Q' y→Q y∨y=z)(hz:z<k)(hS:(S z:Int)<bd)(ha:ahB ⟨v,z,(F z:Int) - own⟩ m (Le z) (Le m.l)=true):FoS k F S Le bd own v Q' ⟨v,z,(F z:Int) - own⟩:=by
 unfold ahB at ha
 have hg:=h.g
 have key:(F z:Int) - own=m.g∧Le z<Le m.l∨m.g<(F z:Int) - own:=by
  by_cases e:(F z:Int) - own=m.g
  ·rw[if_pos e,decide_eq_true_eq] at ha;exact .inl ⟨e,ha⟩
  ·rw[if_neg e,decide_eq_true_eq] at ha;exact .inr ha
 refine⟨rfl,hz,by show 0≤(F z:Int) - own;omega,fun h0=>⟨rfl,hS,fun y hy hqy hsy=> ?_⟩,fun h0 y hy hqy hsy=> ?_⟩
 ·have h0:0<(F z:Int) - own:=h0
  show(F y:Int) - own<(F z:Int) - own∨(F y:Int) - own=(F z:Int) - own∧Le z≤Le y
  rcases hQ y hqy with hq | rfl
  ·rcases Int.lt_or_le 0 m.g with e | e
   ·have:=(h.some e).2.2 y hy hq hsy
    omega
   ·have:=h.none (by omega) y hy hq hsy
    omega
  ·exact .inr ⟨rfl,Int.le_refl _⟩
 ·have h0:(F z:Int) - own=0:=h0
  rcases hQ y hqy with hq | rfl
  ·exact h.none (by omega) y hy hq hsy
  ·omega
theorem FoS.leave{k:Nat}{F S:Nat→Nat}{Le:Nat→Int}{bd:Int}{own v z:Nat}{Q Q':Nat→Prop}{m:M}(h:FoS k F S Le bd own v Q m)(hQ: ∀y,Q' y→Q y∨y=z)(ha:(S z:Int)<bd→ahB ⟨v,z,(F z:Int) - own⟩ m (Le z) (Le m.l)=false):FoS k F S Le bd own v Q' m:=by
 have key:(S z:Int)<bd→(F z:Int) - own<m.g∨(F z:Int) - own=m.g∧Le m.l≤Le z:=fun hs=>by
  have ha:=ha hs
  unfold ahB at ha
  by_cases e:(F z:Int) - own=m.g
  ·rw[if_pos e,decide_eq_false_iff_not] at ha;exact .inr ⟨e,by omega⟩
  ·rw[if_neg e,decide_eq_false_iff_not] at ha
   have ha: ¬m.g<(F z:Int) - own:=ha
   exact .inl (by omega)
 refine⟨h.v,h.l,h.g,fun h0=>⟨(h.some h0).1,(h.some h0).2.1,fun y hy hqy hsy=> ?_⟩,fun h0 y hy hqy hsy=> ?_⟩
 ·rcases hQ y hqy with hq | rfl
  ·exact(h.some h0).2.2 y hy hq hsy
  ·exact key hsy
 ·rcases hQ y hqy with hq | rfl
  ·exact h.none h0 y hy hq hsy
  ·have:=key hsy;omega
def M.obj(m:M):Obj:= .cells #[.int .i64 (m.v:Int), .int .i64 (m.l:Int), .int .i64 m.g] 136
theorem three_setL{w:World}{b:Nat}{u0 u1 u2:Value}{t:TypeId}(h:w.heap[b]? =some (.cells #[u0,u1,u2] t))(x y z:Value):(((w.setCell ⟨b,0,none⟩ x).setCell ⟨b,1,none⟩ y).setCell ⟨b,2,none⟩ z).heap[b]? =some (.cells #[x,y,z] t):=by
 have h1:=heap_setCell_same w b 0 _ _ x h
 have h2:=heap_setCell_same _ b 1 _ _ y h1
 exact(heap_setCell_same _ b 2 _ _ z h2).trans (by simp)
theorem three_farL(w:World)(b c:Nat)(hne:c≠b)(x y z:Value):(((w.setCell ⟨b,0,none⟩ x).setCell ⟨b,1,none⟩ y).setCell ⟨b,2,none⟩ z).heap[c]? =w.heap[c]? :=by
 rw[Below.heap_setCell _ _ _ _ hne,Below.heap_setCell _ _ _ _ hne,Below.heap_setCell _ _ _ _ hne]
theorem three_belowL{n:Nat}{a w:World}{b:Nat}(h:Below n a w)(hb:n≤b)(x y z:Value):Below n a (((w.setCell ⟨b,0,none⟩ x).setCell ⟨b,1,none⟩ y).setCell ⟨b,2,none⟩ z):=((h.setCell hb _).setCell hb _).setCell hb _
end Go.Proofs.YtmenajiceaicpaaGreat
