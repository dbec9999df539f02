import Derived.Test.YtmenajiceaicpaaGreatYAR
import Derived.Lib.OwnKind
namespace Go.Proofs.YtmenajiceaicpaaGreat
theorem lead_iff{L:List Nat}{f:Nat}(hf:f<L.length):ldI (ints L) f=f↔ ∀u,u<f→L.getD u 0≠L.getD f 0:=by
 have a1:=ldI_le (ints L) f
 constructor
 ·intro h u hu e
  have:=ldI_min (xs:=ints L) (u:=u) (v:=f) (by omega)
  rw[ints_at (by omega),ints_at hf] at this
  exact this (by rw[e])
 ·intro h
  rcases Nat.lt_or_ge (ldI (ints L) f) f with e | e
  ·have b1:=ldI_at (ints L) f
   rw[ints_at (by omega),ints_at hf] at b1
   exact absurd (by omega) (h _ e)
  ·omega
theorem pickM_spec(l:List M): ∀i,(pickM l i=M.zero∧∀j,j<i→(l.getD j M.zero).g≤0)∨(0<(pickM l i).g∧∃j,j<i∧pickM l i=l.getD j M.zero∧(∀j',j'<i→(l.getD j' M.zero).g≤(pickM l i).g)∧∀j',j'<j→(l.getD j' M.zero).g<(pickM l i).g)
 | 0=> .inl ⟨rfl,fun j hj=>absurd hj (Nat.not_lt_zero _)⟩
 | i+1=>by
   have ih:=pickM_spec l i
   have e:pickM l (i+1)=if (pickM l i).g<(l.getD i M.zero).g then l.getD i M.zero else pickM l i:=rfl
   by_cases c:(pickM l i).g<(l.getD i M.zero).g
   ·rw[e,if_pos c]
    have c0:0≤(pickM l i).g:=by
     rcases ih with ⟨h,_⟩ | ⟨h,_⟩
     ·rw[h];exact Int.le_refl _
     ·omega
    have all: ∀j',j'<i→(l.getD j' M.zero).g<(l.getD i M.zero).g:=fun j' hj'=>by
     rcases ih with ⟨_,h⟩ | ⟨_,_,_,_,h,_⟩
     ·have:=h j' hj';omega
     ·have:=h j' hj';omega
    refine .inr ⟨by omega,i,by omega,rfl,fun j' hj'=> ?_,all⟩
    rcases Nat.lt_or_ge j' i with q | q
    ·exact Int.le_of_lt (all j' q)
    ·obtain rfl:j'=i:=by omega
     exact Int.le_refl _
   ·rw[e,if_neg c]
    rcases ih with ⟨h,h2⟩ | ⟨h,j,hj,hp,h2,h3⟩
    ·refine .inl ⟨h,fun j hj=> ?_⟩
     rcases Nat.lt_or_ge j i with q | q
     ·exact h2 j q
     ·obtain rfl:j=i:=by omega
      rw[h] at c
      have:M.zero.g=0:=rfl
      omega
    ·refine .inr ⟨h,j,by omega,hp,fun j' hj'=> ?_,h3⟩
     rcases Nat.lt_or_ge j' i with q | q
     ·exact h2 j' q
     ·obtain rfl:j'=i:=by omega
      omega
structure FsL(P:List Pr)(L:List Nat)(k B:Nat)(Le:Nat→Int)(l:List M):Prop where
 len:l.length=L.length
 lab: ∀v,v<L.length→L.getD v 0<k
 le: ∀y,y<k→LstAt (fun v=>L.getD v 0) L.length y (Le y)
 fst: ∀v,v<L.length→FoS k (cv P L v) (fun y=>L.count y) Le (B:Int) (cv P L v (L.getD v 0)) v (fun _=>True) (l.getD v M.zero)
theorem FsL.at{P:List Pr}{L:List Nat}{k B:Nat}{Le:Nat→Int}{l:List M}(h:FsL P L k B Le l){v f:Nat}(ho:Open P L B v f):0<(l.getD v M.zero).g∧(gn P L v f<(l.getD v M.zero).g∨gn P L v f=(l.getD v M.zero).g∧Le (l.getD v M.zero).l≤(f:Int)):=by
 obtain⟨hv,hf,hl,hg,hb⟩:=ho
 have F:=h.fst v hv
 have hk:=h.lab f hf
 have hs:((L.count (L.getD f 0):Nat):Int)<(B:Int):=by omega
 have e:Le (L.getD f 0)=(f:Int):=by
  have q:=h.le _ hk
  by_cases c:Le (L.getD f 0)= -1
  ·exact absurd rfl (q.none c f hf)
  ·obtain⟨u,e1,e2,e3,e4⟩:=q.some c
   have w1:=(lead_iff hf).1 hl
   rcases Nat.lt_trichotomy u f with t | t | t
   ·exact absurd e3 (w1 u t)
   ·rw[e1,t]
   ·exact absurd rfl (e4 f t)
 unfold gn at hg ⊢
 have hz:=F.g
 by_cases c:0<(l.getD v M.zero).g
 ·have q:=(F.some c).2.2 (L.getD f 0) hk trivial hs
  rw[e] at q
  exact⟨c,q⟩
 ·have q:=F.none (by omega) (L.getD f 0) hk trivial hs
  omega
theorem FsL.stop{P:List Pr}{L:List Nat}{k B:Nat}{Le:Nat→Int}{l:List M}(h:FsL P L k B Le l)(hz: ¬0<(pickM l l.length).g)(v f:Nat): ¬Open P L B v f:=by
 intro ho
 have q:=h.at ho
 have hv:=ho.1
 have hl:=h.len
 rcases pickM_spec l l.length with ⟨_,h2⟩ | ⟨h2,_⟩
 ·have:=h2 v (by omega);omega
 ·exact hz h2
theorem FsL.next{P:List Pr}{L:List Nat}{k B:Nat}{Le:Nat→Int}{l:List M}(h:FsL P L k B Le l)(hP:PInL P L.length)(hz:0<(pickM l l.length).g): ∃f,Nxt P L B (pickM l l.length).v f∧L.getD f 0=(pickM l l.length).l∧Le (pickM l l.length).l=(f:Int)∧(pickM l l.length).l<k∧(pickM l l.length).g=gn P L (pickM l l.length).v f:=by
 have hl:=h.len
 rcases pickM_spec l l.length with ⟨h2,_⟩ | ⟨_,v,hv,hp,hmax,hfst⟩
 ·rw[h2] at hz;exact absurd hz (by decide)
 ·have hv':v<L.length:=by omega
  have F:=h.fst v hv'
  rw[←hp] at F
  generalize hm:pickM l l.length=m at*
  obtain⟨s1,s2,s3⟩:=F.some hz
  have hmv:=F.v
  have hlk:=F.l
  have own:0<cv P L v m.l:=by omega
  obtain⟨_,u,hu,hul⟩:=cv_pos hP own
  have q:=h.le m.l hlk
  by_cases c:Le m.l= -1
  ·exact absurd hul (q.none c u hu)
  ·obtain⟨f,e1,e2,e3,e4⟩:=q.some c
   have e3:L.getD f 0=m.l:=e3
   have hld:ldI (ints L) f=f:=(lead_iff e2).2 (fun u hu=>by rw[e3];exact e4 u hu)
   have hgn:gn P L v f=m.g:=by unfold gn;rw[e3];exact s1
   have ho:Open P L B v f:=⟨hv',e2,hld,by omega,by rw[e3];omega⟩
   rw[hmv]
   refine⟨f,⟨ho,fun v' f' ho'=> ?_⟩,e3,e1,hlk,hgn.symm⟩
   have a:=h.at ho'
   have b:=hmax v' (by have:=ho'.1;omega)
   unfold noWorseL
   rw[hgn]
   rcases Nat.lt_trichotomy v' v with t | t | t
   ·have:=hfst v' t
    left;omega
   ·subst t
    rw[←hp,e1] at a
    omega
   ·omega
theorem FoS.stay{k:Nat}{F S S':Nat→Nat}{Le Le':Nat→Int}{bd:Int}{own v x y:Nat}{m:M}(h:FoS k F S Le bd own v (fun _=>True) m)(hx:F x=0)(hy:F y=0)(hS: ∀z,z≠x→z≠y→S' z=S z)(hL: ∀z,z<k→z≠x→z≠y→Le' z=Le z):FoS k F S' Le' bd own v (fun _=>True) m:=by
 refine⟨h.v,h.l,h.g,fun h0=> ?_,fun h0 z hz _ hs=> ?_⟩
 ·obtain⟨s1,s2,s3⟩:=h.some h0
  have nx:m.l≠x:=fun e=>by rw[e,hx] at s1;omega
  have ny:m.l≠y:=fun e=>by rw[e,hy] at s1;omega
  refine⟨s1,by rw[hS _ nx ny];exact s2,fun z hz _ hs=> ?_⟩
  by_cases cx:z=x
  ·rw[cx,hx];left;omega
  ·by_cases cy:z=y
   ·rw[cy,hy];left;omega
   ·rw[hS _ cx cy] at hs
    rw[hL _ h.l nx ny,hL _ hz cx cy]
    exact s3 z hz trivial hs
 ·by_cases cx:z=x
  ·rw[cx,hx];omega
  ·by_cases cy:z=y
   ·rw[cy,hy];omega
   ·rw[hS _ cx cy] at hs
    exact h.none h0 z hz trivial hs
def joinB(v w:Nat)(p:Pr):Bool:=(decide (p.a=v)&&decide (p.b=w))||(decide (p.a=w)&&decide (p.b=v))
def nb(P:List Pr)(v w:Nat):Nat:=P.countP (joinB v w)
theorem cv_set{L:List Nat}{v w x y:Nat}(hv:v<L.length)(hx:x≠L.getD v 0): ∀P:List Pr,(∀p,p∈P→p.a≠p.b)→(cv P (L.set v x) w y:Int)=(cv P L w y:Int)+(if y=x then (nb P v w:Int) else 0) - (if y=L.getD v 0 then (nb P v w:Int) else 0)
 | [],_=>by simp[cv,nb]
 | p::P,hp=>by
   have ih:=cv_set (w:=w) (y:=y) hv hx P (fun q hq=>hp q (List.mem_cons_of_mem _ hq))
   have hne:=hp p (List.mem_cons_self ..)
   have c1:cv (p::P) (L.set v x) w y=cv P (L.set v x) w y+if hitV (L.set v x) w y p=true then 1 else 0:=by unfold cv;rw[List.countP_cons]
   have c2:cv (p::P) L w y=cv P L w y+if hitV L w y p=true then 1 else 0:=by unfold cv;rw[List.countP_cons]
   have c3:nb (p::P) v w=nb P v w+if joinB v w p=true then 1 else 0:=by unfold nb;rw[List.countP_cons]
   have key:((if hitV (L.set v x) w y p=true then 1 else 0:Nat):Int)=((if hitV L w y p=true then 1 else 0:Nat):Int)+(if y=x then ((if joinB v w p=true then 1 else 0:Nat):Int) else 0) - (if y=L.getD v 0 then ((if joinB v w p=true then 1 else 0:Nat):Int) else 0):=by
    have ea:(L.set v x).getD p.a 0=if p.a=v then x else L.getD p.a 0:=getD_setN' hv
    have eb:(L.set v x).getD p.b 0=if p.b=v then x else L.getD p.b 0:=getD_setN' hv
    unfold hitV joinB
    rw[ea,eb]
    simp only[Bool.or_eq_true,Bool.and_eq_true,decide_eq_true_eq]
    clear ih c1 c2 c3 ea eb
    by_cases a1:p.a=v
    ·have b1:p.b≠v:=fun e=>hne (a1.trans e.symm)
     rw[if_pos a1,if_neg b1,a1]
     generalize L.getD v 0=z at hx ⊢
     generalize L.getD p.b 0=lb
     generalize p.b=pb at b1 ⊢
     clear hne a1 hp hv
     repeat' split
     all_goals omega
    ·rw[if_neg a1]
     by_cases b1:p.b=v
     ·rw[if_pos b1,b1]
      generalize L.getD v 0=z at hx ⊢
      generalize L.getD p.a 0=la
      generalize p.a=pa at a1 ⊢
      clear hne hp hv b1
      repeat' split
      all_goals omega
     ·rw[if_neg b1]
      generalize L.getD v 0=z at hx ⊢
      generalize L.getD p.a 0=la
      generalize L.getD p.b 0=lb
      generalize p.a=pa at a1 ⊢
      generalize p.b=pb at b1 ⊢
      clear hne hp hv
      repeat' split
      all_goals omega
   rw[c1,c2,c3]
   push_cast
   push_cast at key
   by_cases y1:y=x
   ·by_cases y2:y=L.getD v 0
    ·exact absurd (y1.symm.trans y2) hx
    ·simp only[if_pos y1,if_neg y2] at ih key ⊢
     omega
   ·by_cases y2:y=L.getD v 0
    ·simp only[if_neg y1,if_pos y2] at ih key ⊢
     omega
    ·simp only[if_neg y1,if_neg y2] at ih key ⊢
     omega
theorem LstAt.one{Lb Lb':Nat→Nat}{n z:Nat}{r r':Int}(h:LstAt Lb n z r)(h':LstAt Lb' n z r')(e: ∀u,u<n→(Lb u=z↔Lb' u=z)):r=r':=by
 by_cases c:r= -1
 ·by_cases c':r'= -1
  ·omega
  ·obtain⟨u,_,hu,hz,_⟩:=h'.some c'
   exact absurd ((e u hu).2 hz) (h.none c u hu)
 ·obtain⟨u,hr,hu,hz,hm⟩:=h.some c
  by_cases c':r'= -1
  ·exact absurd ((e u hu).1 hz) (h'.none c' u hu)
  ·obtain⟨u',hr',hu',hz',hm'⟩:=h'.some c'
   rcases Nat.lt_trichotomy u u' with t | t | t
   ·exact absurd ((e u hu).1 hz) (hm' u t)
   ·omega
   ·exact absurd ((e u' hu').2 hz') (hm u' t)
theorem count_set_far{L:List Nat}{v x z:Nat}(hv:v<L.length)(h1:z≠x)(h2:z≠L.getD v 0):(L.set v x).count z=L.count z:=by
 rw[count_atL,count_atL,List.length_set]
 apply List.countP_congr
 intro u hu
 rw[getD_setN' hv]
 by_cases e:u=v
 ·rw[if_pos e,e]
  simp only[decide_eq_true_eq]
  omega
 ·rw[if_neg e]
theorem FsL.step{P:List Pr}{L:List Nat}{k B v x:Nat}{Le Le':Nat→Int}{l l':List M}(h:FsL P L k B Le l)(hne: ∀p,p∈P→p.a≠p.b)(hv:v<L.length)(hx:x≠L.getD v 0)(hxk:x<k)(hpos:0<cv P L v x)(hLe: ∀y,y<k→LstAt (fun u=>(L.set v x).getD u 0) L.length y (Le' y))(hl:l'.length=L.length)
  (hA: ∀w,w<L.length→if 0<cv P (L.set v x) w (L.getD v 0)∨0<cv P (L.set v x) w x then FoS k (cv P (L.set v x) w) (fun y=>(L.set v x).count y) Le' (B:Int) (cv P (L.set v x) w ((L.set v x).getD w 0)) w (fun _=>True) (l'.getD w M.zero) else l'.getD w M.zero=l.getD w M.zero):FsL P (L.set v x) k B Le' l':=by
 have hlen:(L.set v x).length=L.length:=List.length_set ..
 refine⟨by rw[hlen];exact hl,fun u hu=> ?_,fun y hy=>by rw[hlen];exact hLe y hy,fun w hw=> ?_⟩
 ·rw[hlen] at hu
  rw[getD_setN' hv]
  by_cases e:u=v
  ·rw[if_pos e];exact hxk
  ·rw[if_neg e];exact h.lab u hu
 ·rw[hlen] at hw
  have a:=hA w hw
  by_cases c:0<cv P (L.set v x) w (L.getD v 0)∨0<cv P (L.set v x) w x
  ·rw[if_pos c] at a;exact a
  ·rw[if_neg c] at a
   rw[a]
   have c1:cv P (L.set v x) w (L.getD v 0)=0:=by omega
   have c2:cv P (L.set v x) w x=0:=by omega
   have e1:=cv_set (w:=w) (y:=x) hv hx P hne
   rw[if_pos rfl,if_neg hx,c2] at e1
   have n0:nb P v w=0:=by omega
   have same:cv P (L.set v x) w=cv P L w:=funext fun y=>by
    have e2:=cv_set (w:=w) (y:=y) hv hx P hne
    rw[n0] at e2
    simp only[Int.ofNat_zero,ite_self] at e2
    omega
   have wv:w≠v:=fun e=>by rw[same,e] at c2;omega
   rw[same] at c1 c2 ⊢
   have e3:(L.set v x).getD w 0=L.getD w 0:=by rw[getD_setN' hv,if_neg wv]
   rw[e3]
   refine(h.fst w hw).stay c1 c2 (fun z z1 z2=>count_set_far hv z2 z1) (fun z hz z1 z2=> ?_)
   refine(hLe z hz).one (h.le z hz) (fun u hu=> ?_)
   show(L.set v x).getD u 0=z↔L.getD u 0=z
   rw[getD_setN' hv]
   by_cases e:u=v
   ·rw[if_pos e,e]
    constructor
    ·intro q;exact absurd q.symm z2
    ·intro q;exact absurd q.symm z1
   ·rw[if_neg e]
end Go.Proofs.YtmenajiceaicpaaGreat
namespace Go.Proofs.YtmenajiceaicpaaGreat
open Go.RowKit Go.Maps
theorem own_frL{D:Nat→Prop}{w w':World}{base:Nat}{e:TypeId}{size:Nat}{v:Value}{k:Nat}{xs:List Value}(h:w.ownsRow base e size v k xs)(hf:Fr D w w')(hn: ∀g,v.ownBlock=some g→¬D g):w'.ownsRow base e size v k xs:=by
 refine⟨h.1,?_⟩
 rcases h.2 with h' | ⟨g,c,cur,h1,h2,h3,h4⟩
 ·exact Or.inl h'
 ·exact Or.inr ⟨g,c,cur,h1,h2,(hf.block g (lt_of_block h3) (hn g (by rw[h1];rfl))).trans h3,h4⟩
def OwI(w:World)(g c:Nat)(l:List Int):Prop:=w.ownsRow 0 3 1 (.slice (some ⟨g,0,none⟩) l.length c) l.length (cellsI l)
theorem OwI.lt{w:World}{g c:Nat}{l:List Int}(h:OwI w g c l):g<w.heap.size:=(World.ownsRow.lt h g rfl).2
theorem OwI.cell{w:World}{g c:Nat}{l:List Int}(h:OwI w g c l){k:Nat}(hk:k<l.length):w.cell? ⟨g,k,none⟩=some (.int .i64 (l.getD k 0)):=by
 rw[World.ownsRow.cellAt h k (by omega),cellsI_getD l k hk]
theorem OwI.free{w:World}{g c:Nat}{l:List Int}(h:OwI w g c l)(k:Nat):w.frozen? ⟨g,k,none⟩=false:=World.ownsRow.frozenAt h k
theorem OwI.fr{D:Nat→Prop}{w w':World}{g c:Nat}{l:List Int}(h:OwI w g c l)(hf:Fr D w w')(hn: ¬D g):OwI w' g c l:=own_frL h hf (fun g' e=>by injection e with e;rw[←e];exact hn)
theorem OwI.set{w:World}{g c:Nat}{l:List Int}(h:OwI w g c l)(k:Nat)(x:Int):OwI (w.setCell ⟨g,k,none⟩ (.int .i64 x)) g c (l.set k x):=by
 have h1:=(World.ownsRow.stored h k (.int .i64 x)).1
 have e:(cellsI l).set k (.int .i64 x)=cellsI (l.set k x):=by
  unfold cellsI
  rw[List.map_set]
 rw[e] at h1
 unfold OwI
 rw[List.length_set]
 exact h1
theorem OwI.kind{w:World}{g c:Nat}{l:List Int}(h:OwI w g c l): ∃cs fz,w.heap[g]? =some (.cells cs 3 fz):=Lib.ownsRow_kind h g rfl
theorem OwI.ne{w:World}{g c b:Nat}{l:List Int}(h:OwI w g c l){cs:Array Value}{t:TypeId}{fz:Nat × Nat}(hb:w.heap[b]? =some (.cells cs t fz))(ht:t≠3):g≠b:=fun e=>by
 obtain⟨cs',fz',h1⟩:=h.kind
 rw[e,hb] at h1
 injection h1 with h1
 injection h1 with _ h1 _
 exact ht h1
theorem MapI.kind{w:World}{b nn k:Nat}{F:Nat→Nat}(h:MapI w b nn k F): ∃es ck,w.heap[b]? =some (.map es ck):=by
 obtain⟨D,⟨es,ck,h1,_⟩,_⟩:=h
 exact⟨es,ck,h1⟩
theorem MapI.ne{w:World}{b nn k b':Nat}{F:Nat→Nat}(h:MapI w b nn k F){cs:Array Value}{t:TypeId}{fz:Nat × Nat}(hb:w.heap[b']? =some (.cells cs t fz)):b≠b':=fun e=>by
 obtain⟨es,ck,h1⟩:=h.kind
 rw[e,hb] at h1
 injection h1 with h1
 cases h1
structure CX(w:World)(cb n k:Nat)(bd:Int)(lg lc sg sc eg ec bg pg fg:Nat)(mb nn:Nat→Nat)(rv:Nat→Value)(R:Nat→List Nat)(F:Nat→Nat→Nat)(Fi:Nat→M):Prop where
 ob:w.heap[cb]? =some (cellsO bd n k lg lc sg sc eg ec bg n pg n fg n)
 be:TbV w bg n 25 rv
 ro: ∀v,v<n→w.ownsRow 0 3 1 (rv v) (R v).length (cellsI (ints (R v)))
 pa:TbV w pg n 171 (fun v=> .map (some (mb v)))
 mi: ∀v,v<n→MapI w (mb v) (nn v) k (F v)
 ft:FT w fg n Fi
theorem CX.fr{D:Nat→Prop}{w w':World}{cb n k:Nat}{bd:Int}{lg lc sg sc eg ec bg pg fg:Nat}{mb nn:Nat→Nat}{rv:Nat→Value}{R:Nat→List Nat}{F:Nat→Nat→Nat}{Fi:Nat→M}(h:CX w cb n k bd lg lc sg sc eg ec bg pg fg mb nn rv R F Fi)(hf:Fr D w w')(h0: ¬D cb)(h1: ¬D bg)(h2: ¬D pg)(h3: ¬D fg)(h4: ∀v,v<n→¬D (mb v))(h5: ∀v,v<n→∀g,(rv v).ownBlock=some g→¬D g):CX w' cb n k bd lg lc sg sc eg ec bg pg fg mb nn rv R F Fi:=
 ⟨(hf.block cb (lt_of_block h.ob) h0).trans h.ob,h.be.fr hf h1,fun v hv=>own_frL (h.ro v hv) hf (h5 v hv),h.pa.fr hf h2,fun v hv=>(h.mi v hv).fr hf (h4 v hv),TbV.fr h.ft hf h3⟩
theorem CX.on{w w':World}{cb n k:Nat}{bd:Int}{lg lc sg sc eg ec bg pg fg:Nat}{mb nn:Nat→Nat}{rv:Nat→Value}{R:Nat→List Nat}{F:Nat→Nat→Nat}{Fi:Nat→M}(h:CX w cb n k bd lg lc sg sc eg ec bg pg fg mb nn rv R F Fi)(hb:Below w.heap.size w w'):CX w' cb n k bd lg lc sg sc eg ec bg pg fg mb nn rv R F Fi:=
 h.fr (D:=fun _=>False) ⟨hb.os,hb.tape,hb.output,hb.size,fun j hj _=>hb.block j hj⟩ id id id id (fun _ _=>id) (fun _ _ _ _=>id)
theorem OwI.on{w w':World}{g c:Nat}{l:List Int}(h:OwI w g c l)(hb:Below w.heap.size w w'):OwI w' g c l:=own_on h hb
def Far(cb n bg pg fg:Nat)(mb:Nat→Nat)(rv:Nat→Value)(g:Nat):Prop:=g≠cb∧g≠bg∧g≠pg∧g≠fg∧∀v,v<n→mb v≠g∧(rv v).ownBlock≠some g
structure St(cb n k lg sg eg bg pg fg:Nat)(mb:Nat→Nat)(rv:Nat→Value):Prop where
 n2:n≤1024
 k0:0<k
 k2:k≤1024
 fl:Far cb n bg pg fg mb rv lg
 fs:Far cb n bg pg fg mb rv sg
 fe:Far cb n bg pg fg mb rv eg
 ls:lg≠sg
 le:lg≠eg
 se:sg≠eg
 fc:fg≠cb
 fb:fg≠bg
 fp:fg≠pg
 fr: ∀v,v<n→(rv v).ownBlock≠some fg
 mc: ∀v,v<n→mb v≠cb∧mb v≠bg∧mb v≠pg∧mb v≠fg∧∀u,u<n→(rv u).ownBlock≠some (mb v)
 mj: ∀u v,u<n→v<n→mb u=mb v→u=v
theorem own_ne{w:World}{base size n b:Nat}{v:Value}{xs:List Value}(h:w.ownsRow base 3 size v n xs){o:Obj}(hb:w.heap[b]? =some o)(ho: ∀cs fz,o≠ .cells cs 3 fz):v.ownBlock≠some b:=fun e=>by
 obtain⟨cs',fz',h1⟩:=Lib.ownsRow_kind h b e
 rw[hb] at h1
 injection h1 with h1
 exact ho _ _ h1
theorem St.of{w:World}{cb n k:Nat}{bd:Int}{lg lc sg sc eg ec bg pg fg:Nat}{mb nn:Nat→Nat}{rv:Nat→Value}{R:Nat→List Nat}{F:Nat→Nat→Nat}{Fi:Nat→M}{l1 l2 l3:List Int}(h:CX w cb n k bd lg lc sg sc eg ec bg pg fg mb nn rv R F Fi)(h1:OwI w lg lc l1)(h2:OwI w sg sc l2)(h3:OwI w eg ec l3)(hn:n≤1024)(k0:0<k)(k2:k≤1024)(ls:lg≠sg)(le:lg≠eg)(se:sg≠eg)(hr: ∀v,v<n→(rv v).ownBlock≠some lg∧(rv v).ownBlock≠some sg∧(rv v).ownBlock≠some eg)(mj: ∀u v,u<n→v<n→mb u=mb v→u=v):St cb n k lg sg eg bg pg fg mb rv:=by
 have o1:=h.ob
 have o2:w.heap[bg]? =_:=h.be
 have o3:w.heap[pg]? =_:=h.pa
 have o4:w.heap[fg]? =_:=h.ft
 have nb:fg≠bg:=fun e=>by rw[e,o2] at o4;injection o4 with o4;injection o4 with _ o4 _;cases o4
 have np:fg≠pg:=fun e=>by rw[e,o3] at o4;injection o4 with o4;injection o4 with _ o4 _;cases o4
 have nc:fg≠cb:=fun e=>by rw[e,o1] at o4;injection o4 with o4;injection o4 with _ o4 _;cases o4
 have far: ∀g c l,OwI w g c l→(∀v,v<n→(rv v).ownBlock≠some g)→Far cb n bg pg fg mb rv g:=fun g c l hg hq=>by
  obtain⟨cs,fz,hk⟩:=hg.kind
  exact⟨hg.ne o1 (by decide),hg.ne o2 (by decide),hg.ne o3 (by decide),hg.ne o4 (by decide),fun v hv=>⟨(h.mi v hv).ne hk,hq v hv⟩⟩
 refine⟨hn,k0,k2,far _ _ _ h1 (fun v hv=>(hr v hv).1),far _ _ _ h2 (fun v hv=>(hr v hv).2.1),far _ _ _ h3 (fun v hv=>(hr v hv).2.2),ls,le,se,nc,nb,np,fun v hv=>own_ne (h.ro v hv) o4 (fun cs fz e=>by injection e with _ e _;cases e),fun v hv=>⟨(h.mi v hv).ne o1,(h.mi v hv).ne o2,(h.mi v hv).ne o3,(h.mi v hv).ne o4,fun u hu=> ?_⟩,mj⟩
 obtain⟨es,ck,hm⟩:=(h.mi v hv).kind
 exact own_ne (h.ro u hu) hm (fun cs fz e=>by cases e)
theorem St.apt{cb n k lg sg eg bg pg fg:Nat}{mb:Nat→Nat}{rv:Nat→Value}(h:St cb n k lg sg eg bg pg fg mb rv)(hcp:pg≠cb):Apt cb n lg sg eg pg fg mb:=
 ⟨h.fl.1,h.fs.1,h.fe.1,hcp,h.fc,h.fl.2.2.2.1,h.fs.2.2.2.1,h.fe.2.2.2.1,h.fp.symm,fun v hv=>(h.mc v hv).1,fun v hv=>(h.mc v hv).2.2.2.1⟩
theorem CX.cp{w:World}{cb n k:Nat}{bd:Int}{lg lc sg sc eg ec bg pg fg:Nat}{mb nn:Nat→Nat}{rv:Nat→Value}{R:Nat→List Nat}{F:Nat→Nat→Nat}{Fi:Nat→M}(h:CX w cb n k bd lg lc sg sc eg ec bg pg fg mb nn rv R F Fi):pg≠cb:=fun e=>by
 have o1:=h.ob
 have o3:w.heap[pg]? =_:=h.pa
 rw[e,o1] at o3
 injection o3 with o3
 injection o3 with _ o3 _
 cases o3
theorem getD_ints(L:List Nat)(v:Nat):(ints L).getD v 0=((L.getD v 0:Nat):Int):=by
 rcases Nat.lt_or_ge v L.length with h | h
 ·exact ints_getD h
 ·have e1:(ints L)[v]? =none:=List.getElem?_eq_none (by rw[ints_len];exact h)
  have e2:L[v]? =none:=List.getElem?_eq_none h
  unfold List.getD
  rw[e1,e2]
  rfl
theorem CX.cv{w:World}{cb n k:Nat}{bd:Int}{lg lc sg sc eg ec bg pg fg:Nat}{mb nn:Nat→Nat}{rv:Nat→Value}{R:Nat→List Nat}{F:Nat→Nat→Nat}{Fi:Nat→M}{L S:List Nat}{Le:List Int}(h:CX w cb n k bd lg lc sg sc eg ec bg pg fg mb nn rv R F Fi)(h1:OwI w lg lc (ints L))(h2:OwI w sg sc (ints S))(h3:OwI w eg ec Le)(Ln:L.length=n)(Sn:S.length=k)(En:Le.length=k)(k0:0<k)(k2:k≤1024)(lb: ∀v,v<n→L.getD v 0<k)(fb: ∀v y,F v y≤100000000):CV w cb n k bd lg lc sg sc eg ec pg n (fun v=>L.getD v 0) (fun y=>S.getD y 0) (fun y=>Le.getD y 0) mb nn F:=
 ⟨cellsO_hd h.ob h1.lt h2.lt h3.lt h.pa.lt,fun v hv=>(h1.cell (by rw[ints_len];omega)).trans (by rw[getD_ints]),fun v hv=>h.pa.cell hv,h.mi,fun y hy=>(h2.cell (by rw[ints_len];omega)).trans (by rw[getD_ints]),fun y hy=>h3.cell (by omega),k0,k2,lb,fb⟩
theorem ints_set(L:List Nat)(v x:Nat):(ints L).set v (x:Int)=ints (L.set v x):=by unfold ints;rw[List.map_set]
def mvF(F:Nat→Nat→Nat)(l:List Nat)(x fr:Nat)(t y:Nat):Nat:=F t y+(if y=x then l.count t else 0) - (if y=fr then l.count t else 0)
theorem mvF_nil(F:Nat→Nat→Nat)(x fr:Nat):mvF F [] x fr=F:=by funext t y;simp[mvF]
theorem mvF_far{F:Nat→Nat→Nat}{l:List Nat}{u x fr t:Nat}(h:t≠u):mvF F (l++[u]) x fr t=mvF F l x fr t:=by
 funext y
 have:(l++[u]).count t=l.count t:=by rw[List.count_append];simp[List.count_cons,List.count_nil];exact fun e=>h e.symm
 unfold mvF
 rw[this]
theorem mvF_at{F:Nat→Nat→Nat}{l:List Nat}{u x fr:Nat}(hne:x≠fr)(hc:l.count u+1≤F u fr):mvF F (l++[u]) x fr u=updN (updN (mvF F l x fr u) x (mvF F l x fr u x+1)) fr (mvF F l x fr u fr - 1):=by
 funext y
 have e:(l++[u]).count u=l.count u+1:=by rw[List.count_append];simp
 unfold mvF updN
 rw[e]
 by_cases h1:y=fr
 ·subst h1
  have h2: ¬y=x:=fun e=>hne e.symm
  simp[h2]
  omega
 ·by_cases h2:y=x
  ·subst h2
   simp[h1]
   omega
  ·simp[h1,h2]
theorem mvF_le{F:Nat→Nat→Nat}{l:List Nat}{x fr t y:Nat}:mvF F l x fr t y≤F t y+l.length:=by
 have:=List.count_le_length (a:=t) (l:=l)
 unfold mvF
 split <;> split <;> omega
end Go.Proofs.YtmenajiceaicpaaGreat
namespace Go.Proofs.YtmenajiceaicpaaGreat
open Go
def lastQ(P:Program)(o:Oper)(Q:Exit→Act→World→Prop):Exit→Act→World→Prop
 | .normal,a,w=>o.wp P a w (fun a' w'=>Q .normal a' w') Q
 | e,a,w=>Q e a w
def idle(o:Oper):Oper:={o with op:= .move (.const (.bool true))}
section
variable {P:Program} {Q Q':Exit→Act→World→Prop} {md:Region.Mode}
theorem wp_turn{o:Oper}{a:Act}{w:World}{K K':Act→World→Prop}(hK: ∀a w,K a w→K' a w)(hQ: ∀e a w,e≠ .normal→Q e a w→Q' e a w)(h:o.wp P a w K Q):o.wp P a w K' Q':=by
 have hL:LetsOut Q→LetsOut Q':=fun⟨a,w,h⟩=>⟨a,w,hQ _ _ _ (by simp) h⟩
 unfold Oper.wp at*
 generalize (execOp a.eval o).run P w=r at*
 cases r with
 | ok n w'=>
   cases n <;> simp only[Oper.upon] at h ⊢ <;>
    first
     | exact hK _ _ h
     | exact Calls.mono h (fun e w'' he=>by cases e <;> first | exact hK _ _ he | exact hL he | exact hQ _ _ _ (by simp) he)
     | exact Rows.mono h (fun _ _ he=>hK _ _ he)
     | exact h
 | halt x w'=>cases x <;> simp only[Oper.upon] at h ⊢ <;> first | exact hQ _ _ _ (by simp) h | exact h
theorem idle_run(o:Oper)(a:Act)(w:World):(execOp a.eval (idle o)).run P w= .ok (.value (.bool true)) w:=by
 simp[execOp,idle,Act.eval]
theorem idle_asks(o:Oper)(a:Act)(w:World): ¬(idle o).asks P a w:=by
 intro h
 have h1:=h.1
 simp[execOp,idle,Act.eval] at h1
 cases (Array.not_mem_empty _ h1:False)
def lastOK(md:Region.Mode)(ops:Array Oper)(m:Nat):Bool:=
 ops.size==m+1&&(List.range ops.size).all (fun j=>(ops[j]?).all (fun o=>o.after.all (fun e=> !Region.binds md e||decide (e.on<j))))&&((ops[m]?).all (fun o=>o.guard.isNone&&o.dst.isNone&&(List.range m).all (fun j=>o.after.any (fun e=>Region.binds md e&&(e.on==j||(ops[e.on]?).any (fun o'=>o'.after.any (fun e'=>Region.binds md e'&&e'.on==j)))))))
theorem ready_some{ops:Array Oper}{m:Nat}(hok:lastOK md ops m=true){listed:Array Bool}: ∀j,j<ops.size→listed.getD j true=false→(∀i,i<j→listed.getD i false=true)→j∈Region.ready md ops listed:=by
 intro j hj hl hb
 simp only[lastOK,Bool.and_eq_true,List.all_eq_true,List.mem_range] at hok
 refine mem_ready.2 ⟨hl,ops[j],by simp[hj],fun e he hbi=>hb _ ?_⟩
 have:=hok.1.2 j hj
 rw[Array.getElem?_eq_getElem hj] at this
 simp only[Option.all_some,Array.all_eq_true] at this
 obtain⟨i,hi,rfl⟩:=Array.mem_iff_getElem.1 he
 have h:=this i hi
 rw[hbi] at h
 simpa using h
theorem getD_set_same{l:Array Bool}{i:Nat}{b:Bool}(h:i<l.size):(l.setIfInBounds i true).getD i b=true:=by simp[h]
theorem getD_set_other{l:Array Bool}{i j:Nat}{b:Bool}(h:i≠j):(l.setIfInBounds i true).getD j b=l.getD j b:=by
 simp[h]
theorem ready_ne{ops:Array Oper}{m:Nat}(hok:lastOK md ops m=true){listed:Array Bool}(hs:listed.size=ops.size)(j:Nat)(hj:j<ops.size)(hl:listed.getD j true=false):Region.ready md ops listed≠ []:=by
 induction j using Nat.strongRecOn with
 | ind j ih=>
   by_cases h: ∀i,i<j→listed.getD i false=true
   ·intro e
    have:=ready_some hok j hj hl h
    rw[e] at this
    cases this
   ·simp only[Classical.not_forall] at h
    obtain⟨i,hi,hn⟩:=h
    refine ih i hi (by omega) ?_
    have hi':i<listed.size:=by omega
    simp[hi'] at hn ⊢
    exact hn
def shutL(md:Region.Mode)(ops:Array Oper)(listed:Array Bool):Prop:= ∀j oj,ops[j]? =some oj→listed.getD j false=true→∀e,e∈oj.after→Region.binds md e=true→listed.getD e.on false=true
theorem shutL_set{ops:Array Oper}{listed:Array Bool}{i:Nat}(h:shutL md ops listed)(hi:i∈Region.ready md ops listed):shutL md ops (listed.setIfInBounds i true):=by
 obtain⟨h1,o,h2,h3⟩:=mem_ready.1 hi
 have up: ∀j,listed.getD j false=true→(listed.setIfInBounds i true).getD j false=true:=fun j hj=>by
  by_cases e:i=j
  ·subst e
   have hs:i<listed.size:=by
    by_cases c:i<listed.size
    ·exact c
    ·simp[c] at hj
   exact getD_set_same hs
  ·rw[getD_set_other e];exact hj
 intro j oj hj hl e he hb
 by_cases c:i=j
 ·subst c
  rw[h2] at hj
  injection hj with hj
  subst hj
  exact up _ (h3 e he hb)
 ·rw[getD_set_other c] at hl
  exact up _ (h j oj hj hl e he hb)
theorem ready_last{ops:Array Oper}{m:Nat}(hok:lastOK md ops m=true){listed:Array Bool}(hsh:shutL md ops listed)(h:m∈Region.ready md ops listed): ∀j,j<m→listed.getD j false=true:=by
 intro j hj
 obtain⟨_,o,ho,ha⟩:=mem_ready.1 h
 simp only[lastOK,Bool.and_eq_true,List.all_eq_true,List.mem_range] at hok
 have:=hok.2
 rw[ho] at this
 simp only[Option.all_some,Bool.and_eq_true,List.all_eq_true,List.mem_range] at this
 have h2:=this.2 j hj
 rw[Array.any_eq_true] at h2
 obtain⟨i,hi,h3⟩:=h2
 simp only[Bool.and_eq_true,Bool.or_eq_true,beq_iff_eq] at h3
 have h4:=ha _ (Array.getElem_mem hi) h3.1
 rcases h3.2 with h5 | h5
 ·rw[h5] at h4
  exact h4
 ·cases ho':ops[(o.after[i]).on]? with
  | none=>rw[ho'] at h5;simp at h5
  | some o'=>
    rw[ho'] at h5
    simp only[Option.any_some] at h5
    rw[Array.any_eq_true] at h5
    obtain⟨i',hi',h6⟩:=h5
    simp only[Bool.and_eq_true,beq_iff_eq] at h6
    have h7:=hsh _ o' ho' h4 _ (Array.getElem_mem hi') h6.1
    rw[h6.2] at h7
    exact h7
def idled(ops:Array Oper)(m:Nat):Array Oper:=ops.modify m idle
theorem idled_get(ops:Array Oper)(m j:Nat):(idled ops m)[j]? =if j=m then (ops[j]?).map idle else ops[j]? :=by
 unfold idled
 rw[Array.getElem?_modify]
 by_cases h:m=j
 ·subst h;simp
 ·rw[if_neg h,if_neg (fun e=>h e.symm)]
theorem idled_ready(ops:Array Oper)(m:Nat)(listed:Array Bool):Region.ready md (idled ops m) listed=Region.ready md ops listed:=by
 unfold Region.ready
 rw[show(idled ops m).size=ops.size by simp[idled]]
 congr 1
 funext i
 rw[idled_get]
 split
 ·cases ops[i]? <;> rfl
 ·rfl
theorem idled_yielded(ops:Array Oper)(m:Nat)(tmps:Array Value):yielded (idled ops m) tmps=yielded ops tmps:=by
 funext j
 have h:((idled ops m)[j]?).bind (·.dst)=(ops[j]?).bind (·.dst):=by
  rw[idled_get]
  split
  ·cases ops[j]? <;> rfl
  ·rfl
 unfold yielded
 rw[h]
theorem any_end{ops:Array Oper}{fuel:Nat}{listed:Array Bool}{a:Act}{w:World}(hr:Region.ready md ops listed= []):wpAny P md ops Q fuel listed a w↔Q .normal a w:=by
 cases fuel with
 | zero=>simp[wpAny,hr]
 | succ n=>simp[wpAny,hr]
theorem any_last{ops:Array Oper}{m:Nat}{o:Oper}(hok:lastOK md ops m=true)(hm:ops[m]? =some o): ∀ (fuel:Nat) (listed:Array Bool) (a:Act) (w:World),listed.size=ops.size→shutL md ops listed→listed.getD m true=false→
  wpAny P md (idled ops m) (lastQ P o Q) fuel listed a w→wpAny P md ops Q fuel listed a w:=by
 have hms:m<ops.size:=(Array.getElem?_eq_some_iff.1 hm).1
 have hpa:=hok
 simp only[lastOK,Bool.and_eq_true,beq_iff_eq] at hpa
 have hog:o.guard=none∧o.dst=none:=by
  have h2:=hpa.2
  rw[hm] at h2
  simp only[Option.all_some,Bool.and_eq_true,Option.isNone_iff_eq_none] at h2
  exact⟨h2.1.1,h2.1.2⟩
 intro fuel
 induction fuel with
 | zero=>
   intro listed a w hs hsh hl h
   have h1:=h.1
   rw[idled_ready] at h1
   exact absurd h1 (ready_ne hok hs m hms hl)
 | succ fuel ih=>
   intro listed a w hs hsh hl h
   refine⟨fun h1=>absurd h1 (ready_ne hok hs m hms hl),fun i hi=> ?_⟩
   have h2:=h.2 i (by rw[idled_ready];exact hi)
   by_cases him:i=m
   ·subst him
    have hall:=ready_last hok hsh hi
    have hend:Region.ready md ops (listed.setIfInBounds i true)= []:=by
     rw[List.eq_nil_iff_forall_not_mem]
     intro j hj
     obtain⟨h3,oj,h4,_⟩:=mem_ready.1 hj
     have hjs:j<ops.size:=(Array.getElem?_eq_some_iff.1 h4).1
     by_cases hji:i=j
     ·subst hji
      rw[getD_set_same (by omega)] at h3
      cases h3
     ·rw[getD_set_other hji] at h3
      have h5:=hall j (by omega)
      have h6:j<listed.size:=by omega
      simp[h6] at h3 h5
      rw[h3] at h5
      cases h5
    unfold wpOp at h2 ⊢
    rw[idled_get,if_pos rfl,hm] at h2
    rw[hm]
    simp only[Option.map_some] at h2 ⊢
    have hw1:Region.wanted (idle o) (yielded (idled ops i) a.tmps)=true:=by simp[Region.wanted,idle,hog.1]
    have hw2:Region.wanted o (yielded ops a.tmps)=true:=by simp[Region.wanted,hog.1]
    rw[if_pos hw1] at h2
    rw[if_pos hw2]
    rcases h2 with h2 | h2
    ·left
     unfold Oper.wp at h2
     rw[idle_run] at h2
     simp only[Oper.upon] at h2
     rw[show(idle o).dst=none from hog.2,any_end (by rw[idled_ready];exact hend)] at h2
     exact wp_turn (fun a' w' hq=>(any_end hend).2 hq) (fun _ _ _ _ hq=>hq) h2
    ·exact absurd h2.1 (idle_asks o a w)
   ·have hx:ops[i]? =(idled ops m)[i]? :=by rw[idled_get,if_neg him]
    have hK: ∀a' w',wpAny P md (idled ops m) (lastQ P o Q) fuel (listed.setIfInBounds i true) a' w'→wpAny P md ops Q fuel (listed.setIfInBounds i true) a' w':=fun a' w' hh=>
     ih _ a' w' (by simpa using hs) (shutL_set hsh hi) (by rw[getD_set_other him];exact hl) hh
    have hQ: ∀e a w,e≠ .normal→lastQ P o Q e a w→Q e a w:=fun e a w he hq=>by cases e <;> first | exact hq | exact absurd rfl he
    unfold wpOp at h2 ⊢
    rw[idled_yielded,←hx] at h2
    cases ho:ops[i]? with
    | none=>rw[ho] at h2;exact hK _ _ h2
    | some oi=>
      rw[ho] at h2
      simp only at h2 ⊢
      split at h2
      ·rename_i hw
       rw[if_pos hw]
       rcases h2 with h2 | h2
       ·exact Or.inl (wp_turn hK hQ h2)
       ·exact Or.inr ⟨h2.1,by obtain⟨a,w,h3⟩:=h2.2;exact⟨a,w,h3⟩⟩
      ·rename_i hw
       rw[if_neg hw]
       exact hK _ _ h2
theorem wp_region_last{id:Nat}{ops:Array Oper}{a:Act}{w:World}{S:World→Prop}(m:Nat)(o:Oper)(hf:P.follows .mixedOrders=true)(hok:lastOK .any ops m=true)(hm:ops[m]? =some o)(ops':Array Oper)(ho:idled ops m=ops')
  (hS:S w.drew) (h:S w.drew→wpAnyH P .any ops' (lastQ P o Q) S ops'.size (Array.replicate ops'.size false) a w.drew):(Code.region id ops true).wp P Q a w:=by
 have hms:m<ops.size:=(Array.getElem?_eq_some_iff.1 hm).1
 have hsz:ops'.size=ops.size:=by rw[←ho];simp[idled]
 refine wp_region_any hf (any_last hok hm _ _ _ _ (by simp) (fun j oj hj hl=> ?_) (by simp[hms]) ?_)
 ·have hjs:j<ops.size:=(Array.getElem?_eq_some_iff.1 hj).1
  simp[hjs] at hl
 have h1:=wpAny_of_held _ _ _ _ (h hS)
 rw[hsz] at h1
 rw[ho]
 exact h1
end
end Go.Proofs.YtmenajiceaicpaaGreat
