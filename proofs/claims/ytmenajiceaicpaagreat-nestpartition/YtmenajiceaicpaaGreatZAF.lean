import Derived.Test.YtmenajiceaicpaaGreatZAC
import Derived.Test.YtmenajiceaicpaaGreatZAE
namespace Go.Proofs.YtmenajiceaicpaaGreat
open Go.RowKit
theorem gro_seen{E:List Ed}{M N:Nat}{S:Nat→Bool}{c:Nat}(hc:c<N): ∀k u,u<N→((gro E M N S c k).2 u=true↔S u=true∨u∈(gro E M N S c k).1)
 | 0,u,_=>by simp[gro]
 | k+1,u,hu=>by
   have ih:=gro_seen hc k u hu (E:=E) (M:=M) (S:=S)
   by_cases h:k<(gro E M N S c k).1.length
   ·rw[gro_go h]
    simp only[Bool.or_eq_true,List.mem_append]
    rw[mem_ext,ih]
    generalize (gro E M N S c k).1.getD k 0=v at*
    constructor
    ·rintro((h1 | h1) | h1)
     ·exact .inl h1
     ·exact .inr (.inl h1)
     ·by_cases h2:(gro E M N S c k).2 u=true
      ·rcases ih.1 h2 with h3 | h3
       ·exact .inl h3
       ·exact .inr (.inl h3)
      ·exact .inr (.inr ⟨hu,by simpa using h2,h1⟩)
    ·rintro(h1 | h1 | h1)
     ·exact .inl (.inl h1)
     ·exact .inl (.inr h1)
     ·exact .inr h1.2.2
   ·have:gro E M N S c (k+1)=gro E M N S c k:=by simp only[gro];rw[if_neg h]
    rw[this];exact ih
theorem gro_get{E:List Ed}{M N:Nat}{S:Nat→Bool}{c k j:Nat}(hj:j<(gro E M N S c k).1.length)(i:Nat):(gro E M N S c (k+i)).1.getD j 0=(gro E M N S c k).1.getD j 0:=by
 obtain⟨t,ht⟩:=gro_pre (E:=E) (M:=M) (N:=N) (S:=S) (c:=c) (k:=k) i
 rw[←ht]
 simp[List.getD,List.getElem?_append_left hj]
theorem gro_sub{E:List Ed}{M N:Nat}{S:Nat→Bool}{c k:Nat}{u:Nat}(h:(gro E M N S c k).2 u=true):(gro E M N S c (k+1)).2 u=true:=by
 simp only[gro]
 split
 ·simp[h]
 ·exact h
theorem gro_done{E:List Ed}{M N:Nat}{S:Nat→Bool}{c:Nat}: ∀k j,j<k→j<(gro E M N S c k).1.length→∀u,adjF E M ((gro E M N S c k).1.getD j 0) 0 u=true→(gro E M N S c k).2 u=true
 | 0,j,hj,_,_,_=>absurd hj (Nat.not_lt_zero _)
 | k+1,j,hj,hl,u,ha=>by
   by_cases h:k<(gro E M N S c k).1.length
   ·by_cases e:j=k
    ·subst e
     rw[gro_get h 1] at ha
     rw[gro_go h]
     show(_||_)=true
     rw[ha,Bool.or_true]
    ·have hj2:j<(gro E M N S c k).1.length:=by omega
     rw[gro_get hj2 1] at ha
     exact gro_sub (gro_done k j (by omega) hj2 u ha)
   ·have e:gro E M N S c (k+1)=gro E M N S c k:=by simp only[gro];rw[if_neg h]
    rw[e] at hl ha ⊢
    exact gro_done k j (by omega) hl u ha
theorem whole_closed{E:List Ed}{M N:Nat}{S:Nat→Bool}{c:Nat}(hc:c<N){v u:Nat}(hv:v∈whole E M N S c)(hu:u<N)(ha:adjF E M v 0 u=true):S u=true∨u∈whole E M N S c:=by
 unfold whole at*
 obtain⟨j,hj,rfl⟩:=List.mem_iff_getElem.1 hv
 rw[←gro_seen hc N u hu]
 have h2:=gro_short (E:=E) (M:=M) (S:=S) hc N
 refine gro_done N j (by omega) hj u ?_
 rw[show(gro E M N S c N).1.getD j 0=(gro E M N S c N).1[j] by simp[List.getD,hj]]
 exact ha
theorem gro_first{E:List Ed}{M N:Nat}{S:Nat→Bool}{c:Nat}: ∀k,∃t,(gro E M N S c k).1=c::t:=fun k=>by
 obtain⟨t,ht⟩:=gro_pre (E:=E) (M:=M) (N:=N) (S:=S) (c:=c) (k:=0) k
 rw[Nat.zero_add] at ht
 exact⟨t,by rw[←ht];rfl⟩
theorem whole_first(E:List Ed)(M N:Nat)(S:Nat→Bool)(c:Nat):c∈whole E M N S c:=by
 obtain⟨t,ht⟩:=gro_first (E:=E) (M:=M) (N:=N) (S:=S) (c:=c) N
 unfold whole
 rw[ht];simp
def Shut(E:List Ed)(M N:Nat)(S:Nat→Bool):Prop:= ∀u v,u<N→v<N→adjF E M u 0 v=true→S u=S v
theorem gro_apart{E:List Ed}{M N:Nat}{S:Nat→Bool}{c:Nat}(hc:c<N)(hS:Shut E M N S)(hcS:S c=false): ∀k,(gro E M N S c k).1=(gro E M N (fun _=>false) c k).1∧(∀u,(gro E M N S c k).2 u=(S u||(gro E M N (fun _=>false) c k).2 u))∧∀u,u∈(gro E M N S c k).1→S u=false
 | 0=>⟨rfl,fun u=>by simp[gro],fun u hu=>by simp[gro] at hu;rw[hu];exact hcS⟩
 | k+1=>by
   obtain⟨h1,h2,h3⟩:=gro_apart hc hS hcS k
   by_cases h:k<(gro E M N S c k).1.length
   ·have h':k<(gro E M N (fun _=>false) c k).1.length:=by rw[←h1];exact h
    have hvm:(gro E M N S c k).1.getD k 0∈(gro E M N S c k).1:=by simp[List.getD,List.getElem?_eq_getElem h]
    have hvS:=h3 _ hvm
    have hvN:=gro_at hc h
    rw[gro_go h,gro_go h',←h1]
    generalize (gro E M N S c k).1.getD k 0=v at*
    have he:ext E M N (gro E M N S c k).2 v=ext E M N (gro E M N (fun _=>false) c k).2 v:=by
     unfold ext
     apply List.filter_congr
     intro u hu
     have hu:u<N:=by simpa using hu
     rw[h2 u]
     by_cases ha:adjF E M v 0 u=true
     ·have:=hS v u hvN hu ha
      rw[hvS] at this
      rw[←this];simp
     ·have ha:adjF E M v 0 u=false:=by simpa using ha
      rw[ha];simp
    refine⟨by rw[he],fun u=> ?_,fun u hu=> ?_⟩
    ·show(_||_)=(_||(_||_))
     rw[h2 u,Bool.or_assoc]
    ·rcases List.mem_append.1 hu with hu | hu
     ·exact h3 u hu
     ·obtain⟨hu1,hu2,hu3⟩:=mem_ext.1 hu
      have:=hS v u hvN hu1 hu3
      rw[←this];exact hvS
   ·have h': ¬k<(gro E M N (fun _=>false) c k).1.length:=by rw[←h1];exact h
    have e1:gro E M N S c (k+1)=gro E M N S c k:=by simp only[gro];rw[if_neg h]
    have e2:gro E M N (fun _=>false) c (k+1)=gro E M N (fun _=>false) c k:=by simp only[gro];rw[if_neg h']
    rw[e1,e2];exact⟨h1,h2,h3⟩
def ordw(E:List Ed)(M N:Nat):Nat→List Nat × (Nat→Bool)
 | 0=>([],fun _=>false)
 | k+1=>if (ordw E M N k).2 k=true then ordw E M N k else ((ordw E M N k).1++whole E M N (ordw E M N k).2 k,(gro E M N (ordw E M N k).2 k N).2)
structure Ow(E:List Ed)(M N k:Nat)(p:List Nat × (Nat→Bool)):Prop where
 nd:p.1.Nodup
 lt: ∀u,u∈p.1→u<N
 sn: ∀u,u<N→(p.2 u=true↔u∈p.1)
 al: ∀u,u<k→u∈p.1
 sh:Shut E M N p.2
theorem ordw_inv{E:List Ed}{M N:Nat}(hsy: ∀u v,adjF E M u 0 v=adjF E M v 0 u): ∀k,k≤N→Ow E M N k (ordw E M N k)
 | 0,_=>⟨by simp[ordw],fun u hu=>by simp[ordw] at hu,fun u _=>by simp[ordw],fun u hu=>absurd hu (Nat.not_lt_zero _),fun _ _ _ _ _=>rfl⟩
 | k+1,hk=>by
   have ih:=ordw_inv (N:=N) hsy k (by omega)
   by_cases h:(ordw E M N k).2 k=true
   ·have e:ordw E M N (k+1)=ordw E M N k:=by simp only[ordw];rw[if_pos h]
    rw[e]
    refine⟨ih.nd,ih.lt,ih.sn,fun u hu=> ?_,ih.sh⟩
    by_cases e2:u=k
    ·rw[e2];exact(ih.sn k (by omega)).1 h
    ·exact ih.al u (by omega)
   ·have e:ordw E M N (k+1)=((ordw E M N k).1++whole E M N (ordw E M N k).2 k,(gro E M N (ordw E M N k).2 k N).2):=by simp only[ordw];rw[if_neg h]
    have hkS:(ordw E M N k).2 k=false:=by simpa using h
    rw[e]
    have hkN:k<N:=by omega
    have hi:=gro_inv (E:=E) (M:=M) (S:=(ordw E M N k).2) hkN N
    obtain⟨_,_,hap⟩:=gro_apart (E:=E) (M:=M) hkN ih.sh hkS N
    have hseen:=gro_seen (E:=E) (M:=M) (S:=(ordw E M N k).2) hkN N
    have hsn: ∀u,u<N→((gro E M N (ordw E M N k).2 k N).2 u=true↔u∈(ordw E M N k).1++whole E M N (ordw E M N k).2 k):=fun u hu=>by
     refine(hseen u hu).trans ?_
     rw[ih.sn u hu,List.mem_append]
     exact Iff.rfl
    refine⟨?_,?_,hsn,?_,?_⟩
    ·rw[List.nodup_append]
     refine⟨ih.nd,hi.nd,fun a ha b hb e=> ?_⟩
     subst e
     have h1:=(ih.sn a (ih.lt a ha)).2 ha
     rw[hap a hb] at h1
     cases h1
    ·intro u hu
     rcases List.mem_append.1 hu with hu | hu
     ·exact ih.lt u hu
     ·exact hi.lt u hu
    ·intro u hu
     by_cases e2:u=k
     ·subst e2;exact List.mem_append_right _ (whole_first _ _ _ _ _)
     ·exact List.mem_append_left _ (ih.al u (by omega))
    ·have half: ∀u v,u<N→v<N→adjF E M u 0 v=true→(gro E M N (ordw E M N k).2 k N).2 u=true→(gro E M N (ordw E M N k).2 k N).2 v=true:=fun u v hu hv ha h1=>by
      rw[hsn u hu,List.mem_append] at h1
      rw[hsn v hv,List.mem_append]
      rcases h1 with h1 | h1
      ·left
       rw[←ih.sn v hv,←ih.sh u v hu hv ha,ih.sn u hu];exact h1
      ·rcases whole_closed hkN h1 hv ha with h2 | h2
       ·exact .inl ((ih.sn v hv).1 h2)
       ·exact .inr h2
     intro u v hu hv ha
     rw[Bool.eq_iff_iff]
     exact⟨half u v hu hv ha,half v u hv hu (by rw[←hsy];exact ha)⟩
theorem nr_sym(l:List A)(v u:Nat):nr l v u=nr l u v:=by
 unfold nr
 congr 1
 funext x
 rw[Bool.or_comm,Bool.and_comm,Bool.and_comm (x.t==(u:Int))]
theorem adj_sym{l:List A}(hpo: ∀x,x∈l→0≤x.f∧0≤x.t)(v u:Nat):adjF (edl l) (2*l.length) v 0 u=adjF (edl l) (2*l.length) u 0 v:=by
 rw[←nr_adj hpo,nr_sym,nr_adj hpo]
end Go.Proofs.YtmenajiceaicpaaGreat
