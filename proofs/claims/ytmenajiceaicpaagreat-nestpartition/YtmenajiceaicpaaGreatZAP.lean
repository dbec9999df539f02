import Derived.Test.YtmenajiceaicpaaGreatZAO
import Derived.Test.YtmenajiceaicpaaGreatZAK
import Derived.Test.YtmenajiceaicpaaGreatZAE
namespace Go.Proofs.YtmenajiceaicpaaGreat
open Go.RowKit
def hitB(L:List Nat)(a b:Nat)(p:Pr):Bool:=(decide (L.getD p.a 0=a)&&decide (L.getD p.b 0=b))||(decide (L.getD p.a 0=b)&&decide (L.getD p.b 0=a))
def bw(P:List Pr)(L:List Nat)(a b:Nat):Nat:=P.countP (hitB L a b)
theorem bw_snoc(P:List Pr)(L:List Nat)(a b:Nat)(p:Pr):bw (P++[p]) L a b=bw P L a b+if hitB L a b p=true then 1 else 0:=by
 unfold bw
 rw[List.countP_append]
 simp[List.countP_cons]
theorem hit_comm(L:List Nat)(a b:Nat)(p:Pr):hitB L a b p=hitB L b a p:=by unfold hitB;rw[Bool.or_comm]
theorem bw_comm(P:List Pr)(L:List Nat)(a b:Nat):bw P L a b=bw P L b a:=by unfold bw;congr 1;funext p;exact hit_comm L a b p
theorem bw_le(P:List Pr)(L:List Nat)(a b:Nat):bw P L a b≤P.length:=List.countP_le_length
theorem bw_pos{P:List Pr}{L:List Nat}{a b:Nat}:0<bw P L a b↔ ∃p,p∈P∧hitB L a b p=true:=by
 unfold bw
 rw[List.countP_pos_iff]
def Fit(P:List Pr)(L:List Nat)(B a b:Nat):Prop:=a<b∧0<bw P L a b∧L.count a+L.count b≤B
def noWorse(n a b m c d:Nat):Prop:=m<n∨m=n∧(a<c∨a=c∧b≤d)
def Bst(P:List Pr)(L:List Nat)(B a b:Nat):Prop:=Fit P L B a b∧∀c d,Fit P L B c d→noWorse (bw P L a b) a b (bw P L c d) c d
theorem Bst.one{P:List Pr}{L:List Nat}{B a b c d:Nat}(h:Bst P L B a b)(h2:Bst P L B c d):a=c∧b=d:=by
 have h3:=h.2 c d h2.1
 have h4:=h2.2 a b h.1
 unfold noWorse at h3 h4
 omega
def mrg(L:List Nat)(a b:Nat):List Nat:=L.map (fun x=>if x=b then a else x)
theorem mrg_len(L:List Nat)(a b:Nat):(mrg L a b).length=L.length:=by simp[mrg]
theorem getD_in{L:List Nat}{v:Nat}(h:v<L.length):L.getD v 0=L[v]:=by simp[List.getD,h]
theorem mrg_getD{L:List Nat}{a b v:Nat}(h:v<L.length):(mrg L a b).getD v 0=if L.getD v 0=b then a else L.getD v 0:=by
 simp[mrg,List.getD,h]
inductive Jn(P:List Pr)(B:Nat):List Nat→List Nat→Prop
 | stop {L:List Nat} (h: ∀a b,¬Fit P L B a b):Jn P B L L
 | step {L E:List Nat} {a b:Nat} (h:Bst P L B a b) (r:Jn P B (mrg L a b) E):Jn P B L E
theorem Jn.one{P:List Pr}{B:Nat}{L E E':List Nat}(h:Jn P B L E):Jn P B L E'→E=E':=by
 induction h with
 | stop h=>
   intro h2
   cases h2 with
   | stop _=>rfl
   | step h3 _=>exact absurd h3.1 (h _ _)
 | step h _ ih=>
   intro h2
   cases h2 with
   | stop h3=>exact absurd h.1 (h3 _ _)
   | step h3 r3=>
     obtain⟨rfl,rfl⟩:=h.one h3
     exact ih r3
theorem Jn.len{P:List Pr}{B:Nat}{L E:List Nat}(h:Jn P B L E):E.length=L.length:=by
 induction h with
 | stop _=>rfl
 | step _ _ ih=>rw[ih,mrg_len]
def PIn(P:List Pr)(n:Nat):Prop:= ∀p,p∈P→p.a<n∧p.b<n
theorem hit_ends{P:List Pr}{L:List Nat}{a b:Nat}(hP:PIn P L.length)(h:0<bw P L a b): ∃u v,u<L.length∧v<L.length∧L.getD u 0=a∧L.getD v 0=b∧((⟨u,v⟩:Pr)∈P∨(⟨v,u⟩:Pr)∈P):=by
 obtain⟨p,hp,h⟩:=bw_pos.1 h
 have h1:=hP p hp
 unfold hitB at h
 simp only[Bool.or_eq_true,Bool.and_eq_true,decide_eq_true_eq] at h
 rcases h with h | h
 ·exact⟨p.a,p.b,h1.1,h1.2,h.1,h.2, .inl hp⟩
 ·exact⟨p.b,p.a,h1.2,h1.1,h.2,h.1, .inr hp⟩
theorem as_range(L:List Nat):L=(List.range L.length).map (fun v=>L.getD v 0):=by
 refine List.ext_getElem (by simp) (fun i h1 h2=> ?_)
 simp[List.getD,h1]
theorem count_at(L:List Nat)(x:Nat):L.count x=(List.range L.length).countP (fun v=>decide (L.getD v 0=x)):=by
 have h:=congrArg (List.count x) (as_range L)
 rw[h,List.count,List.countP_map]
 congr 1
theorem Fit.ends{P:List Pr}{L:List Nat}{B a b:Nat}(hP:PIn P L.length)(h:Fit P L B a b): ∃u v,u<L.length∧v<L.length∧L.getD u 0=a∧L.getD v 0=b:=by
 obtain⟨u,v,hu,hv,ha,hb,_⟩:=hit_ends hP h.2.1
 exact⟨u,v,hu,hv,ha,hb⟩
structure Opn(P:List Pr)(L:List Nat)(B:Nat)(O:List K):Prop where
 fit: ∀x,x∈O→Fit P L B x.a x.b∧x.n=bw P L x.a x.b
 all: ∀a b,Fit P L B a b→∃x,x∈O∧x.a=a∧x.b=b
 one:O.Pairwise (fun x y=> ¬(x.a=y.a∧x.b=y.b))
theorem lexK_lt(x y:K):lexK x y<0↔y.n<x.n∨y.n=x.n∧(x.a<y.a∨x.a=y.a∧x.b<y.b):=by
 unfold lexK told cmpI
 by_cases h1:y.n<x.n
 ·have:(y.n:Int)<x.n:=by omega
  simp[this,h1]
 ·by_cases h2:x.n<y.n
  ·have q1: ¬(y.n:Int)<x.n:=by omega
   have q2:(x.n:Int)<y.n:=by omega
   simp[q1,q2];omega
  ·have q1: ¬(y.n:Int)<x.n:=by omega
   have q2: ¬(x.n:Int)<y.n:=by omega
   by_cases h3:x.a<y.a
   ·have q3:(x.a:Int)<y.a:=by omega
    simp[q1,q2,q3];omega
   ·by_cases h4:y.a<x.a
    ·have q3: ¬(x.a:Int)<y.a:=by omega
     have q4:(y.a:Int)<x.a:=by omega
     simp[q1,q2,q3,q4];omega
    ·have q3: ¬(x.a:Int)<y.a:=by omega
     have q4: ¬(y.a:Int)<x.a:=by omega
     by_cases h5:x.b<y.b
     ·have q5:(x.b:Int)<y.b:=by omega
      simp[q1,q2,q3,q4,q5];omega
     ·have q5: ¬(x.b:Int)<y.b:=by omega
      by_cases h6:y.b<x.b
      ·have q6:(y.b:Int)<x.b:=by omega
       simp[q1,q2,q3,q4,q5,q6];omega
      ·have q6: ¬(y.b:Int)<x.b:=by omega
       simp[q1,q2,q3,q4,q5,q6];omega
theorem pickK_best(l:List K): ∀i,i<l.length→pickK l i∈l∧∀j,j≤i→noWorse (pickK l i).n (pickK l i).a (pickK l i).b (l.getD j K.zero).n (l.getD j K.zero).a (l.getD j K.zero).b
 | 0,h=>⟨by simp[pickK,List.getD,h],fun j hj=>by
     obtain rfl:j=0:=by omega
     exact .inr ⟨rfl, .inr ⟨rfl,Nat.le_refl _⟩⟩⟩
 | i+1,h=>by
   obtain⟨h1,h2⟩:=pickK_best l i (by omega)
   have h3:=lexK_lt (l.getD (i+1) K.zero) (pickK l i)
   simp only[pickK]
   split
   ·rename_i hc
    have h4:=h3.1 hc
    refine⟨by simp[List.getD,h],fun j hj=> ?_⟩
    by_cases e:j=i+1
    ·subst e;exact .inr ⟨rfl, .inr ⟨rfl,Nat.le_refl _⟩⟩
    ·have h5:=h2 j (by omega)
     unfold noWorse at h5 ⊢
     omega
   ·rename_i hc
    refine⟨h1,fun j hj=> ?_⟩
    by_cases e:j=i+1
    ·subst e
     have h4:=fun h=>hc (h3.2 h)
     unfold noWorse
     omega
    ·exact h2 j (by omega)
theorem getD_memK{l:List K}{j:Nat}(h:j<l.length):l.getD j K.zero∈l:=by simp[List.getD,h]
theorem mem_getDK{l:List K}{x:K}(h:x∈l): ∃j,j<l.length∧l.getD j K.zero=x:=by
 obtain⟨j,hj,rfl⟩:=List.mem_iff_getElem.1 h
 exact⟨j,hj,by simp[List.getD,hj]⟩
theorem Opn.pick{P:List Pr}{L:List Nat}{B:Nat}{O:List K}(h:Opn P L B O)(hn:0<O.length):pickK O (O.length - 1)∈O∧Bst P L B (pickK O (O.length - 1)).a (pickK O (O.length - 1)).b:=by
 obtain⟨h1,h2⟩:=pickK_best O (O.length - 1) (by omega)
 obtain⟨h3,h4⟩:=h.fit _ h1
 refine⟨h1,h3,fun c d hf=> ?_⟩
 obtain⟨x,hx,rfl,rfl⟩:=h.all c d hf
 obtain⟨j,hj,rfl⟩:=mem_getDK hx
 have h5:=h2 j (by omega)
 rw[h4,(h.fit _ hx).2] at h5
 exact h5
theorem Opn.none{P:List Pr}{L:List Nat}{B:Nat}(h:Opn P L B []): ∀a b,¬Fit P L B a b:=fun a b hf=>by
 obtain⟨x,hx,_⟩:=h.all a b hf
 cases hx
theorem has_iff(l:K)(x:Nat):l.has x=true↔x=l.a∨x=l.b:=by unfold K.has;simp
def con(l m:K)(o:Nat):Nat:=if l.has m.a=true∧l.has m.b=true then 0 else if l.has m.a=true then (if m.b=o then m.n else 0) else if l.has m.b=true then (if m.a=o then m.n else 0) else 0
def bs(l:K)(O:List K)(o:Nat):Nat:=(O.map (fun m=>con l m o)).sum
theorem bs_snoc(l:K)(q:List K)(m:K)(o:Nat):bs l (q++[m]) o=bs l q o+con l m o:=by simp[bs]
def oth(l:K)(O:List K):List K:=O.filter (fun m=> !l.has m.a&& !l.has m.b)
theorem oth_snoc(l:K)(q:List K)(m:K):oth l (q++[m])=if l.has m.a=true∨l.has m.b=true then oth l q else oth l q++[m]:=by
 unfold oth
 rw[List.filter_append]
 by_cases h1:l.has m.a=true <;> by_cases h2:l.has m.b=true <;> simp[h1,h2]
theorem oth_le(l:K)(q:List K):(oth l q).length≤q.length:=List.length_filter_le _ _
def mat(c d:Nat)(m:K):Prop:=m.a=c∧m.b=d∨m.a=d∧m.b=c
instance (c d:Nat) (m:K):Decidable (mat c d m):=by unfold mat;exact inferInstance
def lk(O:List K)(c d:Nat):Nat:=(O.map (fun m=>if mat c d m then m.n else 0)).sum
theorem lk_none{O:List K}{c d:Nat}(h: ∀m,m∈O→¬mat c d m):lk O c d=0:=by
 unfold lk
 induction O with
 | nil=>rfl
 | cons x r ih=>
   rw[List.map_cons,List.sum_cons,if_neg (h x List.mem_cons_self),ih (fun m hm=>h m (List.mem_cons_of_mem _ hm))]
theorem lk_mem{O:List K}{c d:Nat}{m:K}(ho:O.Pairwise (fun x y=> ¬(x.a=y.a∧x.b=y.b)))(hl: ∀x,x∈O→x.a<x.b)(hm:m∈O)(h:mat c d m):lk O c d=m.n:=by
 induction O with
 | nil=>cases hm
 | cons x r ih=>
   rw[List.pairwise_cons] at ho
   have hx:=hl x List.mem_cons_self
   have key: ∀y,y∈r→mat c d x→¬mat c d y:=fun y hy h1 h2=>by
    have h3:=ho.1 y hy
    have h4:=hl y (List.mem_cons_of_mem _ hy)
    unfold mat at h1 h2
    omega
   show(if mat c d x then x.n else 0)+lk r c d=m.n
   rcases List.mem_cons.1 hm with rfl | hm
   ·rw[if_pos h,lk_none (fun y hy=>key y hy h)];rfl
   ·rw[if_neg (fun h1=>key m hm h1 h),Nat.zero_add]
    exact ih ho.2 (fun y hy=>hl y (List.mem_cons_of_mem _ hy)) hm
theorem con_two{l m:K}{o:Nat}(hl:l.a<l.b)(hm:m.a<m.b)(h1:o≠l.a)(h2:o≠l.b):con l m o=(if mat l.a o m then m.n else 0)+if mat l.b o m then m.n else 0:=by
 unfold con
 simp only[has_iff]
 by_cases p1:mat l.a o m <;> by_cases p2:mat l.b o m
 all_goals
  first | rw[if_pos p1] | rw[if_neg p1]
  first | rw[if_pos p2] | rw[if_neg p2]
  unfold mat at p1 p2
  (repeat' split) <;> omega
theorem con_own{l m:K}{o:Nat}(h:o=l.a∨o=l.b):con l m o=0:=by
 unfold con K.has
 simp only[Bool.or_eq_true,decide_eq_true_eq]
 (repeat' split) <;> omega
theorem bs_two{l:K}{o:Nat}(hl:l.a<l.b)(h1:o≠l.a)(h2:o≠l.b): ∀ {O:List K},(∀x,x∈O→x.a<x.b)→bs l O o=lk O l.a o+lk O l.b o
 | [],_=>rfl
 | m::r,h=>by
   have ih:=bs_two hl h1 h2 (O:=r) (fun x hx=>h x (List.mem_cons_of_mem _ hx))
   have e:=con_two hl (h m List.mem_cons_self) h1 h2
   show con l m o+bs l r o=((if mat l.a o m then m.n else 0)+lk r l.a o)+((if mat l.b o m then m.n else 0)+lk r l.b o)
   omega
theorem bs_own{l:K}{o:Nat}(h:o=l.a∨o=l.b): ∀O:List K,bs l O o=0
 | []=>rfl
 | m::r=>by
   have ih:=bs_own h r
   show con l m o+bs l r o=0
   rw[con_own h,ih]
theorem bs_some{l:K}{o:Nat}: ∀ {O:List K},0<bs l O o→∃m,m∈O∧(m.a=o∨m.b=o)
 | [],h=>absurd h (by simp[bs])
 | m::r,h=>by
   by_cases h1:0<bs l r o
   ·obtain⟨x,hx,h2⟩:=bs_some h1
    exact⟨x,List.mem_cons_of_mem _ hx,h2⟩
   ·refine⟨m,List.mem_cons_self,?_⟩
    have h2:0<con l m o+bs l r o:=h
    have h3:0<con l m o:=by omega
    unfold con at h3
    (repeat' split at h3) <;> first | omega | (exact .inl (by assumption)) | (exact .inr (by assumption))
theorem con_le(l m:K)(o:Nat):con l m o≤m.n:=by
 unfold con
 (repeat' split) <;> omega
theorem lk_eq{P:List Pr}{L:List Nat}{B:Nat}{O:List K}(h:Opn P L B O){c o:Nat}(hne:c≠o)(hB:L.count c+L.count o≤B):lk O c o=bw P L c o:=by
 by_cases h0:0<bw P L c o
 ·rcases Nat.lt_or_ge c o with hl | hl
  ·obtain⟨x,hx,h1,h2⟩:=h.all c o ⟨hl,h0,hB⟩
   rw[lk_mem h.one (fun x hx=>(h.fit x hx).1.1) hx (.inl ⟨h1,h2⟩),(h.fit x hx).2,h1,h2]
  ·obtain⟨x,hx,h1,h2⟩:=h.all o c ⟨by omega,by rw[bw_comm];exact h0,by omega⟩
   rw[lk_mem h.one (fun x hx=>(h.fit x hx).1.1) hx (.inr ⟨h1,h2⟩),(h.fit x hx).2,h1,h2,bw_comm]
 ·rw[lk_none (fun m hm hmat=> ?_)]
  ·omega
  ·obtain⟨h1,h2⟩:=h.fit m hm
   have h3:=h1.2.1
   rcases hmat with ⟨e1,e2⟩ | ⟨e1,e2⟩
   ·rw[e1,e2] at h3;omega
   ·rw[e1,e2,bw_comm] at h3;omega
theorem count_mrg{L:List Nat}{a b:Nat}(hab:a≠b):(mrg L a b).count a=L.count a+L.count b∧(mrg L a b).count b=0∧∀o,o≠a→o≠b→(mrg L a b).count o=L.count o:=by
 induction L with
 | nil=>exact⟨rfl,rfl,fun _ _ _=>rfl⟩
 | cons x r ih=>
   obtain⟨h1,h2,h3⟩:=ih
   have e:mrg (x::r) a b=(if x=b then a else x)::mrg r a b:=rfl
   rw[e]
   refine⟨?_,?_,fun o ho1 ho2=> ?_⟩
   ·rw[List.count_cons,List.count_cons,List.count_cons,h1]
    by_cases e1:x=b
    ·subst e1;simp[Ne.symm hab];omega
    ·by_cases e2:x=a
     ·subst e2;simp[e1];omega
     ·simp[e1,e2]
   ·rw[List.count_cons,h2]
    by_cases e1:x=b
    ·subst e1;simp[hab]
    ·simp[e1]
   ·rw[List.count_cons,List.count_cons,h3 o ho1 ho2]
    by_cases e1:x=b
    ·subst e1;simp[Ne.symm ho1,Ne.symm ho2]
    ·simp[e1]
theorem bw_mrg{P:List Pr}{L:List Nat}(hP:PIn P L.length){a b:Nat}(hab:a≠b):
  (∀o,o≠a→o≠b→bw P (mrg L a b) a o=bw P L a o+bw P L b o)∧(∀o,bw P (mrg L a b) b o=0)∧∀c d,c≠a→c≠b→d≠a→d≠b→bw P (mrg L a b) c d=bw P L c d:=by
 refine⟨fun o h1 h2=> ?_,fun o=> ?_,fun c d h1 h2 h3 h4=> ?_⟩
 ·induction P with
  | nil=>rfl
  | cons p r ih=>
    have ih:=ih (fun q hq=>hP q (List.mem_cons_of_mem _ hq))
    obtain⟨g1,g2⟩:=hP p List.mem_cons_self
    unfold bw at ih ⊢
    rw[List.countP_cons,List.countP_cons,List.countP_cons,ih]
    have:(if hitB (mrg L a b) a o p=true then 1 else 0)=(if hitB L a o p=true then 1 else 0)+if hitB L b o p=true then 1 else 0:=by
     unfold hitB
     rw[mrg_getD g1,mrg_getD g2]
     generalize L.getD p.a 0=x
     generalize L.getD p.b 0=y
     simp only[Bool.or_eq_true,Bool.and_eq_true,decide_eq_true_eq]
     (repeat' split) <;> omega
    omega
 ·refine Nat.eq_zero_of_not_pos (fun h=> ?_)
  obtain⟨p,hp,h⟩:=bw_pos.1 h
  obtain⟨g1,g2⟩:=hP p hp
  unfold hitB at h
  rw[mrg_getD g1,mrg_getD g2] at h
  simp only[Bool.or_eq_true,Bool.and_eq_true,decide_eq_true_eq] at h
  split at h <;> split at h <;> omega
 ·unfold bw
  refine List.countP_congr (fun p hp=> ?_)
  obtain⟨g1,g2⟩:=hP p hp
  unfold hitB
  rw[mrg_getD g1,mrg_getD g2]
  generalize L.getD p.a 0=x
  generalize L.getD p.b 0=y
  simp only[Bool.or_eq_true,Bool.and_eq_true,decide_eq_true_eq]
  (repeat' split) <;> omega
def nwK(l:K)(B:Nat)(S:List Nat)(O:List K):Nat→List K
 | 0=> []
 | o+1=>nwK l B S O o++if 0<bs l O o∧S.getD (min l.a o) 0+S.getD (max l.a o) 0≤B then [⟨min l.a o,max l.a o,bs l O o⟩] else []
theorem nwK_mem{l:K}{B:Nat}{S:List Nat}{O:List K}{x:K}: ∀k,x∈nwK l B S O k↔ ∃o,o<k∧0<bs l O o∧S.getD (min l.a o) 0+S.getD (max l.a o) 0≤B∧x=⟨min l.a o,max l.a o,bs l O o⟩
 | 0=>⟨fun h=>absurd h (by simp[nwK]),fun⟨o,h,_⟩=>absurd h (by omega)⟩
 | k+1=>by
   simp only[nwK,List.mem_append]
   rw[nwK_mem k]
   constructor
   ·rintro(⟨o,h1,h2⟩ | h)
    ·exact⟨o,by omega,h2⟩
    ·split at h
     ·rename_i hc
      rw[List.mem_singleton] at h
      exact⟨k,by omega,hc.1,hc.2,h⟩
     ·cases h
   ·rintro⟨o,h1,h2,h3,h4⟩
    by_cases e:o=k
    ·subst e
     right
     rw[if_pos ⟨h2,h3⟩,List.mem_singleton]
     exact h4
    ·exact .inl ⟨o,by omega,h2,h3,h4⟩
theorem nwK_len(l:K)(B:Nat)(S:List Nat)(O:List K): ∀k,(nwK l B S O k).length≤k
 | 0=>Nat.le_refl _
 | k+1=>by
   have:=nwK_len l B S O k
   simp only[nwK,List.length_append]
   split <;> simp <;> omega
theorem nwK_one(l:K)(B:Nat)(S:List Nat)(O:List K): ∀k,(nwK l B S O k).Pairwise (fun x y=> ¬(x.a=y.a∧x.b=y.b))
 | 0=>List.Pairwise.nil
 | k+1=>by
   simp only[nwK]
   rw[List.pairwise_append]
   refine⟨nwK_one l B S O k,by split <;> simp,fun x hx y hy=> ?_⟩
   obtain⟨o,h1,_,_,rfl⟩:=(nwK_mem k).1 hx
   split at hy
   ·rw[List.mem_singleton] at hy
    subst hy
    show ¬(min l.a o=min l.a k∧max l.a o=max l.a k)
    omega
   ·cases hy
def SzOk(L S:List Nat):Prop:= ∀a,a∈L→a<S.length∧S.getD a 0=L.count a
theorem SzOk.mrgE{L S:List Nat}(h:SzOk L S){a b:Nat}(hab:a≠b)(ha:a∈L)(hb:b∈L):SzOk (mrg L a b) (S.set a (S.getD a 0+S.getD b 0)):=by
 intro x hx
 obtain⟨c1,c2,c3⟩:=count_mrg (L:=L) hab
 have hx0:0<(mrg L a b).count x:=List.count_pos_iff.2 hx
 rw[List.length_set]
 by_cases e1:x=a
 ·subst e1
  refine⟨(h x ha).1,?_⟩
  rw[c1,←(h x ha).2,←(h b hb).2]
  simp[List.getD,(h x ha).1]
 ·by_cases e2:x=b
  ·subst e2;omega
  ·rw[c3 x e1 e2] at hx0 ⊢
   have hxL:=List.count_pos_iff.1 hx0
   refine⟨(h x hxL).1,?_⟩
   rw[←(h x hxL).2]
   simp[List.getD,Ne.symm e1]
theorem Fit.mem{P:List Pr}{L:List Nat}{B a b:Nat}(hP:PIn P L.length)(h:Fit P L B a b):a∈L∧b∈L:=by
 obtain⟨u,v,hu,hv,rfl,rfl⟩:=h.ends hP
 exact⟨by rw[getD_in hu];exact List.getElem_mem hu,by rw[getD_in hv];exact List.getElem_mem hv⟩
theorem Opn.next{P:List Pr}{L S:List Nat}{B:Nat}{O:List K}{l:K}(hP:PIn P L.length)(h:Opn P L B O)(hS:SzOk L S)(hl:l∈O):
  Opn P (mrg L l.a l.b) B (oth l O++nwK l B (S.set l.a (S.getD l.a 0+S.getD l.b 0)) O S.length):=by
 obtain⟨hf,_⟩:=h.fit l hl
 have hab:=hf.1
 obtain⟨ha,hb⟩:=hf.mem hP
 have hne:l.a≠l.b:=by omega
 have hS':=hS.mrgE hne ha hb
 obtain⟨c1,c2,c3⟩:=count_mrg (L:=L) hne
 obtain⟨b1,b2,b3⟩:=bw_mrg (L:=L) hP hne
 have hPm:PIn P (mrg L l.a l.b).length:=by rw[mrg_len];exact hP
 have hlt: ∀x,x∈O→x.a<x.b:=fun x hx=>(h.fit x hx).1.1
 have ham:l.a∈mrg L l.a l.b:=List.count_pos_iff.1 (by rw[c1];have:=List.count_pos_iff.2 ha;omega)
 generalize hT:S.set l.a (S.getD l.a 0+S.getD l.b 0)=T at*
 have hbs: ∀o,o≠l.a→o≠l.b→L.count l.a+L.count l.b+L.count o≤B→bs l O o=bw P (mrg L l.a l.b) l.a o:=fun o h1 h2 h3=>by
  rw[bs_two hab h1 h2 hlt,b1 o h1 h2,lk_eq h (Ne.symm h1) (by omega),lk_eq h (Ne.symm h2) (by omega)]
 have hmm: ∀o:Nat,T.getD (min l.a o) 0+T.getD (max l.a o) 0=T.getD l.a 0+T.getD o 0:=fun o=>by
  rcases Nat.le_total l.a o with e | e
  ·rw[Nat.min_eq_left e,Nat.max_eq_right e]
  ·rw[Nat.min_eq_right e,Nat.max_eq_left e,Nat.add_comm]
 have hnew: ∀o,0<bs l O o→T.getD l.a 0+T.getD o 0≤B→o≠l.a∧o≠l.b∧0<bw P (mrg L l.a l.b) l.a o∧bs l O o=bw P (mrg L l.a l.b) l.a o∧(mrg L l.a l.b).count l.a+(mrg L l.a l.b).count o≤B:=fun o h1 h2=>by
  have e1:o≠l.a:=fun e=>by rw[bs_own (.inl e)] at h1;omega
  have e2:o≠l.b:=fun e=>by rw[bs_own (.inr e)] at h1;omega
  obtain⟨m,hm,hmo⟩:=bs_some h1
  have hoL:o∈L:=by
   have:=(h.fit m hm).1.mem hP
   rcases hmo with e | e
   ·rw[←e];exact this.1
   ·rw[←e];exact this.2
  have hom:o∈mrg L l.a l.b:=List.count_pos_iff.1 (by rw[c3 o e1 e2];exact List.count_pos_iff.2 hoL)
  rw[(hS' _ ham).2,(hS' _ hom).2] at h2
  have h3:=hbs o e1 e2 (by rw[c1,c3 o e1 e2] at h2;exact h2)
  exact⟨e1,e2,by omega,h3,h2⟩
 refine⟨fun x hx=> ?_,fun c d hcd=> ?_,?_⟩
 ·rcases List.mem_append.1 hx with hx | hx
  ·obtain⟨hxO,hh⟩:=List.mem_filter.1 hx
   simp only[Bool.and_eq_true,Bool.not_eq_true',Bool.eq_false_iff,ne_eq,has_iff] at hh
   obtain⟨f1,f2⟩:=h.fit x hxO
   have f3:=b3 x.a x.b (by omega) (by omega) (by omega) (by omega)
   refine⟨⟨f1.1,by rw[f3];exact f1.2.1,?_⟩,by rw[f3];exact f2⟩
   rw[c3 x.a (by omega) (by omega),c3 x.b (by omega) (by omega)]
   exact f1.2.2
  ·obtain⟨o,_,h2,h3,rfl⟩:=(nwK_mem _).1 hx
   rw[hmm] at h3
   obtain⟨e1,e2,g1,g2,g3⟩:=hnew o h2 h3
   show Fit P (mrg L l.a l.b) B (min l.a o) (max l.a o)∧bs l O o=bw P (mrg L l.a l.b) (min l.a o) (max l.a o)
   rcases Nat.lt_or_ge l.a o with e | e
   ·rw[Nat.min_eq_left (by omega),Nat.max_eq_right (by omega)]
    exact⟨⟨e,g1,g3⟩,g2⟩
   ·rw[Nat.min_eq_right (by omega),Nat.max_eq_left (by omega),bw_comm P _ o]
    exact⟨⟨by omega,by rw[bw_comm];exact g1,by omega⟩,g2⟩
 ·obtain⟨hc,hd⟩:=hcd.mem hPm
  have nb: ∀x,x∈mrg L l.a l.b→x≠l.b:=fun x hx e=>by
   have:=List.count_pos_iff.2 hx
   rw[e,c2] at this
   omega
  have hcb:=nb c hc
  have hdb:=nb d hd
  have viaA: ∀o,o∈mrg L l.a l.b→o≠l.a→0<bw P (mrg L l.a l.b) l.a o→(mrg L l.a l.b).count l.a+(mrg L l.a l.b).count o≤B→(⟨min l.a o,max l.a o,bs l O o⟩:K)∈nwK l B T O S.length:=fun o ho h1 h2 h3=>by
   have hob:=nb o ho
   have h4:=hbs o h1 hob (by rw[c1,c3 o h1 hob] at h3;exact h3)
   refine(nwK_mem _).2 ⟨o,?_,by omega,?_,rfl⟩
   ·have:=(hS' o ho).1
    rw[←hT,List.length_set] at this
    exact this
   ·rw[hmm,(hS' _ ham).2,(hS' _ ho).2]
    exact h3
  by_cases e1:c=l.a
  ·subst e1
   have:=viaA d hd (fun e=>by have:=hcd.1;omega) hcd.2.1 hcd.2.2
   exact⟨_,List.mem_append_right _ this,Nat.min_eq_left (Nat.le_of_lt hcd.1),Nat.max_eq_right (Nat.le_of_lt hcd.1)⟩
  ·by_cases e2:d=l.a
   ·subst e2
    have:=viaA c hc e1 (by rw[bw_comm];exact hcd.2.1) (by have:=hcd.2.2;omega)
    exact⟨_,List.mem_append_right _ this,Nat.min_eq_right (Nat.le_of_lt hcd.1),Nat.max_eq_left (Nat.le_of_lt hcd.1)⟩
   ·have f3:=b3 c d e1 hcb e2 hdb
    obtain⟨x,hx,rfl,rfl⟩:=h.all c d ⟨hcd.1,by rw[←f3];exact hcd.2.1,by have:=hcd.2.2;rw[c3 c e1 hcb,c3 d e2 hdb] at this;exact this⟩
    refine⟨x,List.mem_append_left _ (List.mem_filter.2 ⟨hx,?_⟩),rfl,rfl⟩
    simp only[Bool.and_eq_true,Bool.not_eq_true',Bool.eq_false_iff,ne_eq,has_iff]
    omega
 ·rw[List.pairwise_append]
  refine⟨h.one.sublist List.filter_sublist,nwK_one _ _ _ _ _,fun x hx y hy=> ?_⟩
  obtain⟨_,hh⟩:=List.mem_filter.1 hx
  simp only[Bool.and_eq_true,Bool.not_eq_true',Bool.eq_false_iff,ne_eq,has_iff] at hh
  obtain⟨o,_,_,_,rfl⟩:=(nwK_mem _).1 hy
  show ¬(x.a=min l.a o∧x.b=max l.a o)
  omega
structure Lks(P:List Pr)(L:List Nat)(l:List K):Prop where
 fit: ∀x,x∈l→x.a<x.b∧x.n=bw P L x.a x.b∧0<x.n
 all: ∀a b,a<b→0<bw P L a b→∃x,x∈l∧x.a=a∧x.b=b
 one:l.Pairwise (fun x y=> ¬(x.a=y.a∧x.b=y.b))
theorem Lks.nil(L:List Nat):Lks [] L []:=⟨fun x h=>absurd h List.not_mem_nil,fun a b _ h=>absurd h (by simp[bw]),List.Pairwise.nil⟩
theorem hit_iff(L:List Nat)(c d:Nat)(p:Pr)(h:c<d):hitB L c d p=true↔L.getD p.a 0≠L.getD p.b 0∧c=min (L.getD p.a 0) (L.getD p.b 0)∧d=max (L.getD p.a 0) (L.getD p.b 0):=by
 unfold hitB
 simp only[Bool.or_eq_true,Bool.and_eq_true,decide_eq_true_eq]
 omega
theorem bw_next(P:List Pr)(L:List Nat)(c d:Nat)(p:Pr)(h:c<d):bw (P++[p]) L c d=bw P L c d+if L.getD p.a 0≠L.getD p.b 0∧c=min (L.getD p.a 0) (L.getD p.b 0)∧d=max (L.getD p.a 0) (L.getD p.b 0) then 1 else 0:=by
 rw[bw_snoc]
 congr 1
 have:=hit_iff L c d p h
 by_cases e:hitB L c d p=true
 ·rw[if_pos e,if_pos (this.1 e)]
 ·rw[if_neg e,if_neg (fun h=>e (this.2 h))]
theorem Lks.skip{P:List Pr}{L:List Nat}{l:List K}(h:Lks P L l){p:Pr}(e:L.getD p.a 0=L.getD p.b 0):Lks (P++[p]) L l:=by
 have hb: ∀c d,c<d→bw (P++[p]) L c d=bw P L c d:=fun c d hcd=>by rw[bw_next P L c d p hcd,if_neg (fun h=>h.1 e),Nat.add_zero]
 refine⟨fun x hx=> ?_,fun a b hab h0=>h.all a b hab (by rw[←hb a b hab];exact h0),h.one⟩
 have:=h.fit x hx
 rw[hb _ _ this.1]
 exact this
theorem Lks.new{P:List Pr}{L:List Nat}{l:List K}(h:Lks P L l){p:Pr}{x y:Nat}(hne:L.getD p.a 0≠L.getD p.b 0)(hx:x=min (L.getD p.a 0) (L.getD p.b 0))(hy:y=max (L.getD p.a 0) (L.getD p.b 0))(hn: ∀m,m∈l→¬(m.a=x∧m.b=y)):Lks (P++[p]) L (l++[⟨x,y,1⟩]):=by
 have hxy:x<y:=by omega
 have h0:bw P L x y=0:=Nat.eq_zero_of_not_pos (fun h0=>by
  obtain⟨m,hm,e1,e2⟩:=h.all x y hxy h0
  exact hn m hm ⟨e1,e2⟩)
 refine⟨fun m hm=> ?_,fun a b hab h1=> ?_,?_⟩
 ·rcases List.mem_append.1 hm with hm | hm
  ·have h1:=h.fit m hm
   rw[bw_next P L _ _ p h1.1,if_neg (fun h2=>hn m hm (by omega))]
   exact h1
  ·rw[List.mem_singleton] at hm
   subst hm
   refine⟨hxy,?_,Nat.one_pos⟩
   show 1=bw (P++[p]) L x y
   rw[bw_next P L x y p hxy,if_pos ⟨hne,hx,hy⟩,h0]
 ·by_cases e:a=x∧b=y
  ·exact⟨_,List.mem_append_right _ (List.mem_singleton_self _),e.1.symm,e.2.symm⟩
  ·rw[bw_next P L a b p hab,if_neg (by omega)] at h1
   obtain⟨m,hm,h2⟩:=h.all a b hab h1
   exact⟨m,List.mem_append_left _ hm,h2⟩
 ·rw[List.pairwise_append]
  refine⟨h.one,by simp,fun m hm m' hm'=> ?_⟩
  rw[List.mem_singleton] at hm'
  subst hm'
  exact hn m hm
theorem one_get{l:List K}(h:l.Pairwise (fun x y=> ¬(x.a=y.a∧x.b=y.b))){i j:Nat}(hi:i<l.length)(hj:j<l.length)(e:(l.getD i K.zero).a=(l.getD j K.zero).a∧(l.getD i K.zero).b=(l.getD j K.zero).b):i=j:=by
 have key: ∀i j,i<j→j<l.length→¬((l.getD i K.zero).a=(l.getD j K.zero).a∧(l.getD i K.zero).b=(l.getD j K.zero).b):=fun i j hij hj=>by
  have:=List.pairwise_iff_getElem.1 h i j (by omega) hj hij
  simpa[List.getD,hj,show i<l.length by omega] using this
 rcases Nat.lt_trichotomy i j with h1 | h1 | h1
 ·exact absurd e (key i j h1 hj)
 ·exact h1
 ·exact absurd ⟨e.1.symm,e.2.symm⟩ (key j i h1 hi)
theorem getD_setK(l:List K)(i j:Nat)(x:K)(hi:i<l.length):(l.set i x).getD j K.zero=if j=i then x else l.getD j K.zero:=by
 by_cases h:j=i
 ·subst h;simp[List.getD,hi]
 ·rw[if_neg h];simp[List.getD,Ne.symm h]
theorem Lks.more{P:List Pr}{L:List Nat}{l:List K}(h:Lks P L l){p:Pr}{x y i n:Nat}(hne:L.getD p.a 0≠L.getD p.b 0)(hx:x=min (L.getD p.a 0) (L.getD p.b 0))(hy:y=max (L.getD p.a 0) (L.getD p.b 0))(hi:i<l.length)(he:l.getD i K.zero=⟨x,y,n⟩):Lks (P++[p]) L (l.set i ⟨x,y,n+1⟩):=by
 have hxy:x<y:=by omega
 have hfi:=h.fit _ (getD_memK hi)
 rw[he] at hfi
 have keep: ∀j,j<l.length→((l.set i ⟨x,y,n+1⟩).getD j K.zero).a=(l.getD j K.zero).a∧((l.set i ⟨x,y,n+1⟩).getD j K.zero).b=(l.getD j K.zero).b:=fun j hj=>by
  rw[getD_setK l i j _ hi]
  split
  ·rename_i e;subst e;rw[he];exact⟨rfl,rfl⟩
  ·exact⟨rfl,rfl⟩
 refine⟨fun m hm=> ?_,fun a b hab h1=> ?_,?_⟩
 ·obtain⟨j,hj,rfl⟩:=mem_getDK hm
  rw[List.length_set] at hj
  rw[getD_setK l i j _ hi]
  by_cases e:j=i
  ·subst e
   rw[if_pos rfl]
   refine⟨hxy,?_,Nat.succ_pos _⟩
   show n+1=bw (P++[p]) L x y
   rw[bw_next P L x y p hxy,if_pos ⟨hne,hx,hy⟩]
   have h4:n=bw P L x y:=hfi.2.1
   omega
  ·rw[if_neg e]
   have h2:=h.fit _ (getD_memK hj)
   rw[bw_next P L _ _ p h2.1,if_neg (fun h3=>e (one_get h.one hj hi (by rw[he];show _=x∧_=y;omega)))]
   exact h2
 ·have hex: ∀m,m∈l→m.a=a∧m.b=b→∃m',m'∈l.set i ⟨x,y,n+1⟩∧m'.a=a∧m'.b=b:=fun m hm e=>by
   obtain⟨j,hj,rfl⟩:=mem_getDK hm
   have k:=keep j hj
   exact⟨_,getD_memK (by rw[List.length_set];exact hj),k.1.trans e.1,k.2.trans e.2⟩
  by_cases e:a=x∧b=y
  ·exact hex _ (getD_memK hi) (by rw[he];exact⟨e.1.symm,e.2.symm⟩)
  ·rw[bw_next P L a b p hab,if_neg (by omega)] at h1
   obtain⟨m,hm,h2⟩:=h.all a b hab h1
   exact hex m hm h2
 ·rw[List.pairwise_iff_getElem]
  intro j k hj hk hjk
  have hj':j<l.length:=by rw[List.length_set] at hj;exact hj
  have hk':k<l.length:=by rw[List.length_set] at hk;exact hk
  have e1:(l.set i ⟨x,y,n+1⟩)[j]=(l.set i ⟨x,y,n+1⟩).getD j K.zero:=by simp[List.getD,hj']
  have e2:(l.set i ⟨x,y,n+1⟩)[k]=(l.set i ⟨x,y,n+1⟩).getD k K.zero:=by simp[List.getD,hk']
  rw[e1,e2,(keep j hj').1,(keep j hj').2,(keep k hk').1,(keep k hk').2]
  intro e
  have:=one_get h.one hj' hk' e
  omega
def fits(S:List Nat)(B:Nat)(l:List K):List K:=l.filter (fun x=>decide (S.getD x.a 0+S.getD x.b 0≤B))
theorem fits_snoc(S:List Nat)(B:Nat)(l:List K)(x:K):fits S B (l++[x])=fits S B l++if S.getD x.a 0+S.getD x.b 0≤B then [x] else []:=by
 unfold fits
 rw[List.filter_append]
 congr 1
 by_cases h:S.getD x.a 0+S.getD x.b 0≤B
 ·rw[if_pos h,List.filter_cons,if_pos (decide_eq_true h)];rfl
 ·rw[if_neg h,List.filter_cons,if_neg (by rw[decide_eq_true_eq];exact h)];rfl
theorem fits_len(S:List Nat)(B:Nat)(l:List K):(fits S B l).length≤l.length:=List.length_filter_le _ _
theorem pair_mem{P:List Pr}{L:List Nat}{a b:Nat}(hP:PIn P L.length)(h:0<bw P L a b):a∈L∧b∈L:=by
 obtain⟨u,v,hu,hv,rfl,rfl,_⟩:=hit_ends hP h
 exact⟨by rw[getD_in hu];exact List.getElem_mem hu,by rw[getD_in hv];exact List.getElem_mem hv⟩
theorem Lks.opn{P:List Pr}{L S:List Nat}{l:List K}(h:Lks P L l)(hP:PIn P L.length)(hS:SzOk L S)(B:Nat):Opn P L B (fits S B l):=by
 refine⟨fun x hx=> ?_,fun a b hab=> ?_,h.one.sublist List.filter_sublist⟩
 ·obtain⟨h1,h2⟩:=List.mem_filter.1 hx
  obtain⟨h3,h4,h5⟩:=h.fit x h1
  obtain⟨m1,m2⟩:=pair_mem hP (by rw[←h4];exact h5)
  rw[decide_eq_true_eq,(hS _ m1).2,(hS _ m2).2] at h2
  exact⟨⟨h3,by rw[←h4];exact h5,h2⟩,h4⟩
 ·obtain⟨x,hx,rfl,rfl⟩:=h.all a b hab.1 hab.2.1
  obtain⟨m1,m2⟩:=pair_mem hP hab.2.1
  refine⟨x,List.mem_filter.2 ⟨hx,?_⟩,rfl,rfl⟩
  rw[decide_eq_true_eq,(hS _ m1).2,(hS _ m2).2]
  exact hab.2.2
theorem sz_count{L:List Nat}(h:tdy (ints L) 0=true)(lb:Nat): ∀k,k≤L.length→(szL (ints (L.take k))).getD lb 0=(L.take k).count lb
 | 0,_=>by simp[szL,ints]
 | k+1,hk=>by
   have hk':k<L.length:=by omega
   have ih:=sz_count h lb k (by omega)
   have h1:=right_next h k (by rw[ints_len];exact hk')
   rw[ints_getD hk',Int.toNat_natCast,ints_take] at h1
   have e0:L.take (k+1)=L.take k++[L.getD k 0]:=by rw[List.take_succ_eq_append_getElem hk'];simp[List.getD,List.getElem?_eq_getElem hk']
   have e:ints (L.take (k+1))=ints (L.take k)++[((L.getD k 0:Nat):Int)]:=by rw[e0,ints_snoc]
   rw[e,szL_snoc,Int.toNat_natCast,szS_at h1.2,ih,e0,List.count_append]
   congr 1
   by_cases e2:lb=L.getD k 0
   ·rw[if_pos e2,e2];simp
   ·rw[if_neg e2,List.count_singleton]
    have:(L.getD k 0==lb)=false:=by simp only[beq_eq_false_iff_ne];exact fun e=>e2 e.symm
    rw[this];rfl
theorem sz_cnt{L:List Nat}(h:tdy (ints L) 0=true)(lb:Nat):(szL (ints L)).getD lb 0=L.count lb:=by
 have h1:=sz_count h lb L.length (Nat.le_refl _)
 rw[List.take_length] at h1
 exact h1
theorem right_sz{L:List Nat}(h:tdy (ints L) 0=true):SzOk L (szL (ints L)):=fun a ha=>by
 have h1:=sz_cnt h a
 have h2:=List.count_pos_iff.2 ha
 refine⟨?_,h1⟩
 rcases Nat.lt_or_ge a (szL (ints L)).length with h3 | h3
 ·exact h3
 ·rw[getD_out h3] at h1
  omega
theorem hit_sum{L:List Nat}(p:Pr): ∀ {O:List K},O.Pairwise (fun x y=> ¬(x.a=y.a∧x.b=y.b))→(∀x,x∈O→x.a<x.b)→(O.map (fun x=>if hitB L x.a x.b p=true then 1 else 0)).sum≤1
 | [],_,_=>by simp
 | x::r,ho,hl=>by
   rw[List.pairwise_cons] at ho
   have ih:=hit_sum (L:=L) p ho.2 (fun y hy=>hl y (List.mem_cons_of_mem _ hy))
   rw[List.map_cons,List.sum_cons]
   by_cases h:hitB L x.a x.b p=true
   ·have:(r.map (fun x=>if hitB L x.a x.b p=true then 1 else 0)).sum=0:=by
     have key: ∀q:List K,(∀y,y∈q→¬hitB L y.a y.b p=true)→(q.map (fun x=>if hitB L x.a x.b p=true then 1 else 0)).sum=0:=fun q=>by
      induction q with
      | nil=>intro _;rfl
      | cons y s ih2=>intro h2;rw[List.map_cons,List.sum_cons,if_neg (h2 y List.mem_cons_self),ih2 (fun z hz=>h2 z (List.mem_cons_of_mem _ hz))]
     refine key r (fun y hy hh=> ?_)
     have h1:=(hit_iff L x.a x.b p (hl x List.mem_cons_self)).1 h
     have h2:=(hit_iff L y.a y.b p (hl y (List.mem_cons_of_mem _ hy))).1 hh
     exact ho.1 y hy (by omega)
    rw[if_pos h,this]
    exact Nat.le_refl _
   ·rw[if_neg h];omega
theorem bw_sum{L:List Nat}{O:List K}(ho:O.Pairwise (fun x y=> ¬(x.a=y.a∧x.b=y.b)))(hl: ∀x,x∈O→x.a<x.b): ∀P:List Pr,(O.map (fun x=>bw P L x.a x.b)).sum≤P.length
 | []=>by
   have: ∀q:List K,(q.map (fun x=>bw [] L x.a x.b)).sum=0:=fun q=>by
    induction q with
    | nil=>rfl
    | cons y s ih=>rw[List.map_cons,List.sum_cons,ih];rfl
   rw[this];exact Nat.zero_le _
 | p::P=>by
   have ih:=bw_sum (L:=L) ho hl P
   have h1:=hit_sum (L:=L) p ho hl
   have e: ∀q:List K,(q.map (fun x=>bw (p::P) L x.a x.b)).sum=(q.map (fun x=>bw P L x.a x.b)).sum+(q.map (fun x=>if hitB L x.a x.b p=true then 1 else 0)).sum:=fun q=>by
    induction q with
    | nil=>rfl
    | cons y s ih2=>
      simp only[List.map_cons,List.sum_cons]
      have:bw (p::P) L y.a y.b=bw P L y.a y.b+if hitB L y.a y.b p=true then 1 else 0:=by unfold bw;rw[List.countP_cons]
      omega
   rw[e,List.length_cons]
   omega
theorem Opn.len{P:List Pr}{L:List Nat}{B:Nat}{O:List K}(h:Opn P L B O):O.length≤P.length:=by
 refine Nat.le_trans ?_ (bw_sum (L:=L) h.one (fun x hx=>(h.fit x hx).1.1) P)
 have: ∀q:List K,(∀x,x∈q→0<bw P L x.a x.b)→q.length≤(q.map (fun x=>bw P L x.a x.b)).sum:=fun q=>by
  induction q with
  | nil=>intro _;simp
  | cons y s ih=>
    intro h2
    have h3:=ih (fun x hx=>h2 x (List.mem_cons_of_mem _ hx))
    have h4:=h2 y List.mem_cons_self
    rw[List.map_cons,List.sum_cons,List.length_cons]
    omega
 exact this O (fun x hx=>(h.fit x hx).1.2.1)
theorem sum_mrg{a b:Nat}(h:a<b): ∀ {L:List Nat},(mrg L a b).sum≤L.sum∧(b∈L→(mrg L a b).sum<L.sum)
 | []=>⟨Nat.le_refl _,fun h=>by cases h⟩
 | x::r=>by
   obtain⟨h1,h2⟩:=sum_mrg h (L:=r)
   have e:(mrg (x::r) a b).sum=(if x=b then a else x)+(mrg r a b).sum:=by show(_::mrg r a b).sum=_;rw[List.sum_cons]
   rw[e,List.sum_cons]
   refine⟨by split <;> omega,fun hb=> ?_⟩
   rcases List.mem_cons.1 hb with rfl | hb
   ·rw[if_pos rfl];omega
   ·have:=h2 hb
    split <;> omega
structure JI(P:List Pr)(B:Nat)(L0 L S:List Nat)(O:List K):Prop where
 len:L.length=L0.length
 opn:Opn P L B O
 sz:SzOk L S
 bnd: ∀j,S.getD j 0≤1024
 on: ∀E,Jn P B L E→Jn P B L0 E
theorem count_two{L:List Nat}{a b:Nat}(h:a≠b):L.count a+L.count b≤L.length:=by
 have h1:=(count_mrg (L:=L) h).1
 have h2:=List.count_le_length (a:=a) (l:=mrg L a b)
 rw[mrg_len] at h2
 omega
theorem JI.pick{P:List Pr}{B:Nat}{L0 L S:List Nat}{O:List K}(h:JI P B L0 L S O)(hP:PIn P L0.length)(hn:L0.length≤1024)(h0:0<O.length):
  let l:=pickK O (O.length - 1)
  l.a<S.length∧l.b<S.length∧(∀j,(S.set l.a (S.getD l.a 0+S.getD l.b 0)).getD j 0≤1024)∧S.getD l.a 0+S.getD l.b 0≤1024∧(mrg L l.a l.b).sum<L.sum∧JI P B L0 (mrg L l.a l.b) (S.set l.a (S.getD l.a 0+S.getD l.b 0)) (oth l O++nwK l B (S.set l.a (S.getD l.a 0+S.getD l.b 0)) O S.length):=by
 intro l
 have hPL:PIn P L.length:=by rw[h.len];exact hP
 obtain⟨h1,h2⟩:=h.opn.pick h0
 have h1:l∈O:=h1
 have h2:Bst P L B l.a l.b:=h2
 obtain⟨ma,mb⟩:=h2.1.mem hPL
 have hlt:=h2.1.1
 obtain⟨a1,a2⟩:=h.sz _ ma
 obtain⟨b1,b2⟩:=h.sz _ mb
 have hs:S.getD l.a 0+S.getD l.b 0≤1024:=by
  rw[a2,b2]
  have:=count_two (L:=L) (show l.a≠l.b by omega)
  have:=h.len
  omega
 have hb: ∀j,(S.set l.a (S.getD l.a 0+S.getD l.b 0)).getD j 0≤1024:=fun j=>by
  rw[getD_setN a1]
  split
  ·exact hs
  ·exact h.bnd j
 exact⟨a1,b1,hb,hs,(sum_mrg hlt).2 mb,⟨by rw[mrg_len];exact h.len,h.opn.next hPL h.sz h1,h.sz.mrgE (by omega) ma mb,hb,fun E hE=>h.on E (.step h2 hE)⟩⟩
theorem JI.in{P:List Pr}{B:Nat}{L0 L S:List Nat}{O:List K}(h:JI P B L0 L S O)(hP:PIn P L0.length)(hP2:P.length≤8192): ∀m,m∈O→m.a<S.length∧m.b<S.length∧m.n≤100000:=fun m hm=>by
 obtain⟨h1,h2⟩:=h.opn.fit m hm
 obtain⟨m1,m2⟩:=h1.mem (by rw[h.len];exact hP)
 have:=bw_le P L m.a m.b
 exact⟨(h.sz _ m1).1,(h.sz _ m2).1,by omega⟩
theorem JI.end{P:List Pr}{B:Nat}{L0 L S:List Nat}{O:List K}(h:JI P B L0 L S O)(h0:O.length=0):Jn P B L0 L:=by
 have e:=List.eq_nil_of_length_eq_zero h0
 have h1:=h.opn
 rw[e] at h1
 exact h.on L (.stop h1.none)
theorem JI.start{P:List Pr}{B:Nat}{L:List Nat}{l:List K}(hT:tdy (ints L) 0=true)(hn:L.length≤1024)(hP:PIn P L.length)(h:Lks P L l):JI P B L L (szL (ints L)) (fits (szL (ints L)) B l):=
 ⟨rfl,h.opn hP (right_sz hT) B,right_sz hT,fun j=>by rw[sz_cnt hT];exact Nat.le_trans List.count_le_length hn,fun _ hE=>hE⟩
theorem prl_in{n:Nat}{l:List A}(hC:chkE n l=0):PIn (prl l) n:=fun p hp=>by
 obtain⟨_,_,_,h4⟩:=chk_zero hC
 obtain⟨h1,h2⟩:=(prl_mem (fun x hx=>⟨(h4 x hx).1.1,(h4 x hx).2.1⟩)).1 hp
 unfold nr at h2
 rw[List.any_eq_true] at h2
 obtain⟨x,hx,h3⟩:=h2
 have h5:=h4 x hx
 simp only[Bool.or_eq_true,Bool.and_eq_true,beq_iff_eq] at h3
 omega
theorem szL_pos{L:List Nat}(hT:tdy (ints L) 0=true)(h:0<L.length):0<(szL (ints L)).length:=by
 have:=(right_sz hT _ (by rw[getD_in h];exact List.getElem_mem h:L.getD 0 0∈L)).1
 omega
end Go.Proofs.YtmenajiceaicpaaGreat
