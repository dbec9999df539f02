import Derived.Test.YtmenajiceaicpaaGreatZFB
namespace Go.Proofs.YtmenajiceaicpaaGreat.F6
open Go.RowKit
def lst(E:List Ed)(v:Nat):Nat→Int
 | 0=> -1
 | b+1=>if frm E b=v then (b:Int) else lst E v b
theorem lst_cases(E:List Ed)(v:Nat): ∀b,(lst E v b= -1∧∀k,k<b→frm E k≠v)∨∃k,k<b∧lst E v b=(k:Int)∧frm E k=v∧∀j,k<j→j<b→frm E j≠v
 | 0=> .inl ⟨rfl,fun _ h=>absurd h (Nat.not_lt_zero _)⟩
 | b+1=>by
   by_cases e:frm E b=v
   ·exact .inr ⟨b,by omega,by simp[lst,e],e,fun j h1 h2=>by omega⟩
   ·have h0:lst E v (b+1)=lst E v b:=by simp[lst,e]
    rcases lst_cases E v b with ⟨h,hn⟩ | ⟨k,hk,h,hf,hn⟩
    ·exact .inl ⟨h0.trans h,fun k hk=>by
      by_cases e2:k=b
      ·subst e2;exact e
      ·exact hn k (by omega)⟩
    ·exact .inr ⟨k,by omega,h0.trans h,hf,fun j h1 h2=>by
      by_cases e2:j=b
      ·subst e2;exact e
      ·exact hn j h1 (by omega)⟩
theorem lst_lt(E:List Ed)(v b:Nat):lst E v b<b:=by
 rcases lst_cases E v b with ⟨h,_⟩ | ⟨k,hk,h,_⟩ <;> omega
def updI(F:Nat→Int)(x:Nat)(d:Int):Nat→Int:=fun y=>if y=x then d else F y
theorem updI_self(F:Nat→Int)(x:Nat)(d:Int):updI F x d x=d:=by simp[updI]
theorem updI_ne(F:Nat→Int){x y:Nat}(d:Int)(h:y≠x):updI F x d y=F y:=by simp[updI,h]
def un(rk:Nat→Int):Nat→Nat
 | 0=>0
 | n+1=>un rk n+if rk n= -1 then 1 else 0
theorem un_all: ∀n,un (fun _=> -1) n=n
 | 0=>rfl
 | n+1=>by simp[un,un_all n]
theorem un_same{rk:Nat→Int}{v:Nat}{d:Int}: ∀n,n≤v→un (updI rk v d) n=un rk n
 | 0,_=>rfl
 | n+1,h=>by
   have:=un_same (rk:=rk) (v:=v) (d:=d) n (by omega)
   simp only[un,this,updI_ne rk d (show n≠v by omega)]
theorem un_upd{rk:Nat→Int}{v:Nat}{d:Int}(h:rk v= -1)(hd:d≠ -1): ∀n,v<n→un (updI rk v d) n+1=un rk n
 | 0,hv=>absurd hv (Nat.not_lt_zero _)
 | n+1,hv=>by
   by_cases e:v=n
   ·subst e
    simp only[un,un_same v (Nat.le_refl v),updI_self,h,if_true,if_neg hd]
   ·have:=un_upd h hd n (by omega)
    simp only[un,updI_ne rk d (fun h:n=v=>e h.symm)]
    omega
structure Bf(n m:Nat)(E:List Ed)(fl:Nat→Int)(gr:Int)(s t:Nat)(rk:Nat→Int)(q:List Nat)(Dn:Nat→Prop):Prop where
 s0:rk s=0
 t0:rk t= -1
 cnt:q.length+un rk n=n
 inq: ∀v,v∈q→v<n∧rk v≠ -1
 rki: ∀j,j<q.length→rk (q.getD j 0)≤j
 all: ∀v,v<n→rk v≠ -1→v∈q
 par: ∀v,v<n→rk v≠ -1→v=s∨∃k,k<2*m∧tto E k=v∧gr≤rm E fl k∧0≤rk (frm E k)∧rk v=rk (frm E k)+1
 pos: ∀v,v<n→rk v= -1∨(0≤rk v∧rk v≤n)
 dn: ∀k,Dn k→gr≤rm E fl k→rk (tto E k)≠ -1
structure Rk(n m:Nat)(E:List Ed)(fl:Nat→Int)(gr:Int)(s t:Nat)(rk:Nat→Int):Prop where
 s0:rk s=0
 par: ∀v,v<n→rk v≠ -1→v=s∨∃k,k<2*m∧tto E k=v∧gr≤rm E fl k∧0≤rk (frm E k)∧rk v=rk (frm E k)+1
 pos: ∀v,v<n→rk v= -1∨(0≤rk v∧rk v≤n)
 closed:rk t= -1→∀k,k<2*m→rk (frm E k)≠ -1→gr≤rm E fl k→rk (tto E k)≠ -1
section
variable {n m:Nat} {E:List Ed} {fl:Nat→Int} {gr:Int} {s t:Nat} {rk:Nat→Int} {q:List Nat} {Dn:Nat→Prop}
theorem Bf.start(hs:s<n)(hst:s≠t)(h0: ∀k,¬Dn k):Bf n m E fl gr s t (updI (fun _=> -1) s 0) [s] Dn:=by
 have hr: ∀v,updI (fun _=> -1) s 0 v≠ -1→v=s:=fun v h=>by
  by_cases e:v=s
  ·exact e
  ·rw[updI_ne _ _ e] at h;exact absurd rfl h
 refine⟨updI_self _ _ _,updI_ne _ _ (fun h=>hst h.symm),?_,?_,?_,?_,?_,?_,fun k h=>absurd h (h0 k)⟩
 ·have:=un_upd (rk:=fun _=> -1) (v:=s) (d:=0) rfl (by decide) n hs
  rw[un_all] at this
  simp only[List.length_singleton];omega
 ·intro v hv
  have:v=s:=by simpa using hv
  subst this
  exact⟨hs,by rw[updI_self];decide⟩
 ·intro j hj
  have:j=0:=by simp at hj;omega
  subst this
  simp[updI_self]
 ·intro v _ h;rw[hr v h];simp
 ·intro v _ h;exact .inl (hr v h)
 ·intro v _
  by_cases e:v=s
  ·subst e;rw[updI_self];right;omega
  ·left;rw[updI_ne _ _ e]
theorem Bf.len(h:Bf n m E fl gr s t rk q Dn):q.length≤n:=by have:=h.cnt;omega
theorem Bf.imp(h:Bf n m E fl gr s t rk q Dn){D2:Nat→Prop}(hd: ∀k,D2 k→Dn k∨(gr≤rm E fl k→rk (tto E k)≠ -1)):Bf n m E fl gr s t rk q D2:=
 ⟨h.s0,h.t0,h.cnt,h.inq,h.rki,h.all,h.par,h.pos,fun k hk=>by
  rcases hd k hk with h1 | h1
  ·exact h.dn k h1
  ·exact h1⟩
theorem Bf.node(h:Bf n m E fl gr s t rk q Dn){i:Nat}(hi:i<q.length):q.getD i 0<n∧0≤rk (q.getD i 0)∧rk (q.getD i 0)≤i:=by
 have hm:q.getD i 0∈q:=by simp[List.getD,List.getElem?_eq_getElem hi]
 obtain⟨h1,h2⟩:=h.inq _ hm
 rcases h.pos _ h1 with h3 | h3
 ·exact absurd h3 h2
 ·exact⟨h1,h3.1,h.rki i hi⟩
theorem Bf.parT(h:Bf n m E fl gr s t rk q Dn){k v:Nat}(hk:k<2*m)(hv:tto E k=v)(hg:gr≤rm E fl k)(hf:0≤rk (frm E k))(hr:rk v= -1): ∀x,x<n→updI rk v (rk (frm E k)+1) x≠ -1→
  x=s∨∃j,j<2*m∧tto E j=x∧gr≤rm E fl j∧0≤updI rk v (rk (frm E k)+1) (frm E j)∧updI rk v (rk (frm E k)+1) x=updI rk v (rk (frm E k)+1) (frm E j)+1:=by
 intro x hx hne
 have hfv:frm E k≠v:=fun e=>by rw[e] at hf;omega
 by_cases e:x=v
 ·subst e
  exact .inr ⟨k,hk,hv,hg,by rw[updI_ne _ _ hfv];exact hf,by rw[updI_ne _ _ hfv,updI_self]⟩
 ·rw[updI_ne _ _ e] at hne
  rcases h.par x hx hne with h1 | ⟨j,h1,h2,h3,h4,h5⟩
  ·exact .inl h1
  ·have hj:frm E j≠v:=fun e2=>by rw[e2] at h4;omega
   exact .inr ⟨j,h1,h2,h3,by rw[updI_ne _ _ hj];exact h4,by rw[updI_ne _ _ hj,updI_ne _ _ e];exact h5⟩
theorem Bf.posT(h:Bf n m E fl gr s t rk q Dn){i u v:Nat}(hi:i<q.length)(hu:q.getD i 0=u): ∀x,x<n→updI rk v (rk u+1) x= -1∨(0≤updI rk v (rk u+1) x∧updI rk v (rk u+1) x≤n):=by
 intro x hx
 have hn:=h.node hi
 have hl:=h.len
 rw[hu] at hn
 by_cases e:x=v
 ·subst e;rw[updI_self];right;omega
 ·rw[updI_ne _ _ e];exact h.pos x hx
theorem Bf.take(h:Bf n m E fl gr s t rk q Dn){i k v u:Nat}(hi:i<q.length)(hu:q.getD i 0=u)(hk:k<2*m)(hf:frm E k=u)(hv:tto E k=v)(hvn:v<n)(hg:gr≤rm E fl k)(hr:rk v= -1)(hvt:v≠t):
  Bf n m E fl gr s t (updI rk v (rk u+1)) (q++[v]) Dn:=by
 have hn:=h.node hi
 have hl:=h.len
 rw[hu] at hn
 have hvs:s≠v:=fun e=>by have:=h.s0;rw[e,hr] at this;omega
 have hne: ∀x,rk x≠ -1→updI rk v (rk u+1) x≠ -1:=fun x hx=>by
  by_cases e:x=v
  ·subst e;exact absurd hr hx
  ·rw[updI_ne _ _ e];exact hx
 have hp:=h.parT hk hv hg (by rw[hf];exact hn.2.1) hr
 rw[hf] at hp
 refine⟨(updI_ne _ _ hvs).trans h.s0,(updI_ne _ _ (fun e=>hvt e.symm)).trans h.t0,?_,?_,?_,?_,hp,h.posT hi hu,fun j hj hg2=>hne _ (h.dn j hj hg2)⟩
 ·have:=un_upd (rk:=rk) (v:=v) (d:=rk u+1) hr (by omega) n hvn
  have:=h.cnt
  simp only[List.length_append,List.length_singleton];omega
 ·intro x hx
  rcases List.mem_append.mp hx with h1 | h1
  ·exact⟨(h.inq x h1).1,hne x (h.inq x h1).2⟩
  ·have:x=v:=by simpa using h1
   subst this
   exact⟨hvn,by rw[updI_self];omega⟩
 ·intro j hj
  by_cases e:j<q.length
  ·have e1:(q++[v]).getD j 0=q.getD j 0:=by simp[List.getD,List.getElem?_append_left e]
   rw[e1]
   have hm:q.getD j 0∈q:=by simp[List.getD,List.getElem?_eq_getElem e]
   have hjv:q.getD j 0≠v:=fun e2=>by have:=(h.inq _ hm).2;rw[e2] at this;exact this hr
   rw[updI_ne _ _ hjv]
   exact h.rki j e
  ·have e1:j=q.length:=by simp at hj;omega
   have e2:(q++[v]).getD j 0=v:=by subst e1;simp[List.getD]
   rw[e2,updI_self]
   omega
 ·intro x hx hx2
  by_cases e:x=v
  ·subst e;simp
  ·rw[updI_ne _ _ e] at hx2
   exact List.mem_append_left _ (h.all x hx hx2)
theorem Bf.found(h:Bf n m E fl gr s t rk q Dn){i k u:Nat}(hi:i<q.length)(hu:q.getD i 0=u)(hk:k<2*m)(hf:frm E k=u)(hv:tto E k=t)(hg:gr≤rm E fl k):
  Rk n m E fl gr s t (updI rk t (rk u+1)):=by
 have hn:=h.node hi
 rw[hu] at hn
 have hst:s≠t:=fun e=>by have:=h.s0;rw[e,h.t0] at this;omega
 have hp:=h.parT hk hv hg (by rw[hf];exact hn.2.1) h.t0
 rw[hf] at hp
 refine⟨(updI_ne _ _ hst).trans h.s0,hp,h.posT hi hu,fun e=> ?_⟩
 rw[updI_self] at e
 omega
theorem Bf.ended(h:Bf n m E fl gr s t rk q Dn)(hE: ∀k,k<2*m→frm E k<n)(hd: ∀k,k<2*m→frm E k∈q→Dn k):Rk n m E fl gr s t rk:=
 ⟨h.s0,h.par,h.pos,fun _ k hk hf hg=>h.dn k (hd k hk (h.all _ (hE k hk) hf)) hg⟩
end
end Go.Proofs.YtmenajiceaicpaaGreat.F6
