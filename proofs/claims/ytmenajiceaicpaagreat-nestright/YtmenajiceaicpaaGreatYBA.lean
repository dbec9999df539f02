import Derived.Test.YtmenajiceaicpaaGreatYAZ
import Derived.Test.YtmenajiceaicpaaGreatYMD
import Derived.Test.YtmenajiceaicpaaGreatYJD
import Derived.Test.YtmenajiceaicpaaGreatYNB
open Go.Lib (hid)
namespace Go.Proofs.YtmenajiceaicpaaGreat
open Go.RowKit
theorem count_pat{L T:List Nat}(hl:T.length=L.length)(he: ∀u v,u<L.length→v<L.length→(T.getD u 0=T.getD v 0↔L.getD u 0=L.getD v 0)){u:Nat}(hu:u<L.length):T.count (T.getD u 0)=L.count (L.getD u 0):=by
 rw[count_at,count_at,hl]
 refine List.countP_congr (fun v hv=> ?_)
 have hv:=List.mem_range.1 hv
 simp only[decide_eq_true_eq]
 exact he v u hv hu
theorem tdL_count{L:List Nat}{u:Nat}(hu:u<L.length):(tdL L).count ((tdL L).getD u 0)=L.count (L.getD u 0):=count_pat (tdL_len L) (fun _ _ h1 h2=>tdL_eq h1 h2) hu
theorem und_of{B:Nat}{L:List Nat}(h: ∀u,u<L.length→L.count (L.getD u 0)≤B):Und B L:=fun x=>by
 by_cases hx:x∈L
 ·obtain⟨u,hu,rfl⟩:=mem_getDN hx
  exact h u hu
 ·rw[List.count_eq_zero_of_not_mem hx];exact Nat.zero_le _
theorem tdL_und{B:Nat}{L:List Nat}(h:Und B L):Und B (tdL L):=und_of (fun u hu=>by
 rw[tdL_len] at hu
 rw[tdL_count hu]
 exact h _)
theorem mrg_und{P:List Pr}{L:List Nat}{B a b:Nat}(h:Und B L)(hf:Fit P L B a b):Und B (mrg L a b):=fun x=>by
 obtain⟨c1,c2,c3⟩:=count_mrg (L:=L) (show a≠b by have:=hf.1;omega)
 by_cases e1:x=a
 ·rw[e1,c1];exact hf.2.2
 ·by_cases e2:x=b
  ·rw[e2,c2];exact Nat.zero_le _
  ·rw[c3 x e1 e2];exact h x
theorem Jn.und{P:List Pr}{B:Nat}{L E:List Nat}(h:Jn P B L E):Und B L→Und B E:=by
 induction h with
 | stop _=>exact id
 | step h1 _ ih=>exact fun h2=>ih (mrg_und h2 h1.1)
theorem Jn.same{P:List Pr}{B:Nat}{L E:List Nat}(h:Jn P B L E): ∀u v,u<L.length→v<L.length→L.getD u 0=L.getD v 0→E.getD u 0=E.getD v 0:=by
 induction h with
 | stop _=>exact fun _ _ _ _ h=>h
 | step h1 _ ih=>exact fun u v hu hv h2=>ih u v (by rw[mrg_len];exact hu) (by rw[mrg_len];exact hv) (by rw[mrg_getD hu,mrg_getD hv,h2])
theorem sz_bound{B:Nat}{L:List Nat}(hT:tdy (ints L) 0=true)(h:Und B L): ∀j,(szL (ints L)).getD j 0≤B:=fun j=>by rw[sz_cnt hT];exact h j
theorem asg_miss{P M:List Nat}{nx bd v:Nat}(hM: ∀u,u∈M→u<P.length): ∀k,k≤M.length→(∀j,j<k→M.getD j 0≠v)→(asg P M nx bd k).getD v 0=P.getD v 0
 | 0,_,_=>rfl
 | k+1,hk,h=>by
   have hin:M.getD k 0<P.length:=hM _ (by rw[getD_in (show k<M.length by omega)];exact List.getElem_mem _)
   show((asg P M nx bd k).set (M.getD k 0) (nx+k / bd)).getD v 0=_
   rw[getD_setN (by rw[asg_len];exact hin),if_neg (fun e=>h k (by omega) e.symm)]
   exact asg_miss hM k (by omega) (fun j hj=>h j (by omega))
theorem nodup_getD{M:List Nat}(h:M.Nodup){i j:Nat}(hi:i<M.length)(hj:j<M.length)(e:M.getD i 0=M.getD j 0):i=j:=by
 rw[getD_in hi,getD_in hj] at e
 exact(List.getElem_inj h).1 e
theorem asg_hit{P M:List Nat}{nx bd:Nat}(hM: ∀u,u∈M→u<P.length)(hn:M.Nodup){j:Nat}: ∀k,k≤M.length→j<k→(asg P M nx bd k).getD (M.getD j 0) 0=nx+j / bd
 | 0,_,h=>absurd h (by omega)
 | k+1,hk,h=>by
   have hin:M.getD k 0<P.length:=hM _ (by rw[getD_in (show k<M.length by omega)];exact List.getElem_mem _)
   by_cases e:j=k
   ·subst e;exact asg_last hin
   ·show((asg P M nx bd k).set (M.getD k 0) (nx+k / bd)).getD (M.getD j 0) 0=_
    rw[getD_setN (by rw[asg_len];exact hin),if_neg (fun e2=>e (nodup_getD hn (by omega) (by omega) e2))]
    exact asg_hit hM hn k (by omega) (by omega)
theorem orL_all{n:Nat}{l:List A}{L:List Nat}{lb:Nat}(hC:chkE n l=0)(hL:L.length=n){v:Nat}(hv:v<L.length)(he:L.getD v 0=lb):v∈orL l L lb:=by
 have hq:mq L lb v=true:=mq_iff.2 ⟨hv,he⟩
 have hH:vsL L lb≠ []:=T3.hits_some hv hq
 obtain⟨h1,h2⟩:=T3.hits_rank (q:=mq L lb) hv hq
 unfold orL
 refine List.mem_map.2 ⟨_,((owL_inv hC hL hH).2 _).2 h1,?_⟩
 show((T3.hits (mq L lb) L.length).getD _ 0).toNat=v
 rw[h2];rfl
theorem orL_nodup{n:Nat}{l:List A}{L:List Nat}{lb:Nat}(hC:chkE n l=0)(hL:L.length=n)(hH:vsL L lb≠ []):(orL l L lb).Nodup:=by
 obtain⟨h1,h2⟩:=owL_inv hC hL hH
 unfold orL List.Nodup
 rw[List.pairwise_map]
 refine List.Pairwise.imp_of_mem (fun {a b} ha hb hab=> ?_) h1
 obtain⟨u,_,hu2,hu3,hu4⟩:=T3.hits_idx (q:=mq L lb) (n:=L.length) (j:=a) ((h2 a).1 ha)
 obtain⟨v,_,hv2,hv3,hv4⟩:=T3.hits_idx (q:=mq L lb) (n:=L.length) (j:=b) ((h2 b).1 hb)
 show((T3.hits (mq L lb) L.length).getD a 0).toNat≠((T3.hits (mq L lb) L.length).getD b 0).toNat
 rw[hu3,hv3]
 intro e
 have e:u=v:=by simpa using e
 subst e
 omega
structure CIh(L S:List Nat)(bd k:Nat)(P:List Nat)(nx:Nat):Prop where
 len:P.length=L.length
 nxl:S.length≤nx
 at_: ∀v,v<L.length→(P.getD v 0=L.getD v 0∧(k≤L.getD v 0∨S.getD (L.getD v 0) 0≤bd))∨(S.length≤P.getD v 0∧P.getD v 0<nx∧L.getD v 0<k)
 apart: ∀u v,u<L.length→v<L.length→P.getD u 0=P.getD v 0→L.getD u 0=L.getD v 0
 cnt: ∀x,S.length≤x→P.count x≤bd
theorem count_filter(P:List Nat)(x:Nat):P.count x=((List.range P.length).filter (fun v=>decide (P.getD v 0=x))).length:=by
 rw[count_at,List.countP_eq_length_filter]
theorem count_into{P:List Nat}{x:Nat}{q:List Nat}(h: ∀v,v<P.length→P.getD v 0=x→v∈q):P.count x≤q.length:=by
 rw[count_filter]
 refine List.Nodup.length_le_of_subset (List.Nodup.sublist List.filter_sublist List.nodup_range) (fun v hv=> ?_)
 obtain⟨h1,h2⟩:=List.mem_filter.1 hv
 exact h v (List.mem_range.1 h1) (by simpa using h2)
theorem cu_inv{n:Nat}{l:List A}{L:List Nat}{bd:Nat}(hC:chkE n l=0)(hL:L.length=n)(hT:tdy (ints L) 0=true)(hB:1≤bd): ∀k,CIh L (szL (ints L)) bd k (cuS l L (szL (ints L)) bd k).1 (cuS l L (szL (ints L)) bd k).2
 | 0=>by
   have hlt: ∀v,v<L.length→L.getD v 0<(szL (ints L)).length:=fun v hv=>(right_sz hT _ (by rw[getD_in hv];exact List.getElem_mem _)).1
   refine⟨rfl,Nat.le_refl _,fun v _=> .inl ⟨rfl, .inl (Nat.zero_le _)⟩,fun u v _ _ h=>h,fun x hx=> ?_⟩
   show L.count x≤bd
   rw[List.count_eq_zero_of_not_mem (fun h=> ?_)]
   ·exact Nat.zero_le _
   ·have:=(right_sz hT x h).1
    omega
 | k+1=>by
   have ih:=cu_inv hC hL hT hB k
   by_cases hs:(szL (ints L)).getD k 0≤bd
   ·rw[cuS_le hs]
    refine⟨ih.len,ih.nxl,fun v hv=> ?_,ih.apart,ih.cnt⟩
    rcases ih.at_ v hv with ⟨h1,h2⟩ | ⟨h1,h2,h3⟩
    ·left
     refine⟨h1,?_⟩
     rcases h2 with h2 | h2
     ·by_cases e:L.getD v 0=k
      ·right;rw[e];exact hs
      ·left;omega
     ·exact .inr h2
    ·exact .inr ⟨h1,h2,by omega⟩
   ·rw[cuS_gt hs]
    have hlt: ∀v,v<L.length→L.getD v 0<(szL (ints L)).length:=fun v hv=>(right_sz hT _ (by rw[getD_in hv];exact List.getElem_mem _)).1
    have hH:vsL L k≠ []:=fun e=>hs (by rw[sz_vs hT,e];exact Nat.zero_le _)
    have hnd:=orL_nodup hC hL hH
    have hmem: ∀v,v∈orL l L k↔v<L.length∧L.getD v 0=k:=fun v=>⟨orL_mem hC hL hH,fun h=>orL_all hC hL h.1 h.2⟩
    generalize hP:(cuS l L (szL (ints L)) bd k).1=P at*
    generalize hx:(cuS l L (szL (ints L)) bd k).2=nx at*
    generalize orL l L k=M at*
    have hMP: ∀u,u∈M→u<P.length:=fun u hu=>by rw[ih.len];exact((hmem u).1 hu).1
    have hin: ∀v,v<L.length→L.getD v 0=k→∃j d,j<M.length∧M.getD j 0=v∧d=j / bd∧(asg P M nx bd M.length).getD v 0=nx+d:=fun v hv he=>by
     obtain⟨j,hj,e⟩:=mem_getDN ((hmem v).2 ⟨hv,he⟩)
     refine⟨j,_,hj,e,rfl,?_⟩
     rw[←e]
     exact asg_hit hMP hnd M.length (Nat.le_refl _) hj
    have hout: ∀v,v<L.length→L.getD v 0≠k→(asg P M nx bd M.length).getD v 0=P.getD v 0:=fun v hv he=>asg_miss hMP M.length (Nat.le_refl _) (fun j hj e=>he (((hmem v).1 (by rw[←e,getD_in hj];exact List.getElem_mem hj)).2))
    have hlow: ∀v,v<L.length→P.getD v 0<nx:=fun v hv=>by
     rcases ih.at_ v hv with ⟨h1,_⟩ | ⟨_,h2,_⟩
     ·rw[h1];have:=hlt v hv;have:=ih.nxl;omega
     ·exact h2
    have hdv: ∀j,j<M.length→j / bd≤(M.length - 1) / bd:=fun j hj=>Nat.div_le_div_right (by omega)
    generalize (M.length - 1) / bd=D at*
    refine⟨by rw[asg_len];exact ih.len,by have:=ih.nxl;show _≤nx+D+1;omega,fun v hv=> ?_,fun u v hu hv he=> ?_,fun x hx=> ?_⟩
    ·by_cases e:L.getD v 0=k
     ·obtain⟨j,d,hj,_,hd,h2⟩:=hin v hv e
      right
      have h3:d≤D:=hd▸hdv j hj
      have:=ih.nxl
      rw[h2]
      exact⟨by omega,by show _<nx+D+1;omega,by omega⟩
     ·rw[hout v hv e]
      rcases ih.at_ v hv with ⟨h1,h2⟩ | ⟨h1,h2,h3⟩
      ·left
       refine⟨h1,?_⟩
       rcases h2 with h2 | h2
       ·left;omega
       ·exact .inr h2
      ·exact .inr ⟨h1,by show _<nx+D+1;omega,by omega⟩
    ·by_cases e1:L.getD u 0=k
     ·by_cases e2:L.getD v 0=k
      ·omega
      ·obtain⟨j,d,hj,_,hd,h2⟩:=hin u hu e1
       rw[h2,hout v hv e2] at he
       have:=hlow v hv
       omega
     ·by_cases e2:L.getD v 0=k
      ·obtain⟨j,d,hj,_,hd,h2⟩:=hin v hv e2
       rw[h2,hout u hu e1] at he
       have:=hlow u hu
       omega
      ·rw[hout u hu e1,hout v hv e2] at he
       exact ih.apart u v hu hv he
    ·show(asg P M nx bd M.length).count x≤bd
     rcases Nat.lt_or_ge x nx with hxn | hxn
     ·refine Nat.le_trans ?_ (ih.cnt x hx)
      rw[count_filter P]
      refine count_into (fun v hv he=> ?_)
      rw[asg_len,ih.len] at hv
      refine List.mem_filter.2 ⟨List.mem_range.2 (by rw[ih.len];exact hv),?_⟩
      rw[decide_eq_true_eq]
      by_cases e:L.getD v 0=k
      ·obtain⟨j,d,hj,_,hd,h2⟩:=hin v hv e
       omega
      ·rw[←hout v hv e];exact he
     ·have h1:((List.range bd).map (fun i=>M.getD ((x - nx)*bd+i) 0)).length=bd:=by simp
      have h4:=count_into (P:=asg P M nx bd M.length) (x:=x) (q:=(List.range bd).map (fun i=>M.getD ((x - nx)*bd+i) 0)) (fun v hv he=> ?_)
      ·omega
      ·rw[asg_len,ih.len] at hv
       by_cases e:L.getD v 0=k
       ·obtain⟨j,d,hj,h2,hd,h3⟩:=hin v hv e
        have hq:j / bd=x - nx:=by rw[←hd];omega
        have h5:=Nat.div_add_mod j bd
        have h6:=Nat.mod_lt j (show 0<bd by omega)
        refine List.mem_map.2 ⟨j % bd,List.mem_range.2 h6,?_⟩
        rw[←hq,Nat.mul_comm,h5]
        exact h2
       ·have:=hlow v hv
        rw[hout v hv e] at he
        omega
theorem cuL_holds{n:Nat}{l:List A}{L:List Nat}{bd:Nat}(hC:chkE n l=0)(hL:L.length=n)(hT:tdy (ints L) 0=true)(hB:1≤bd):(cuL l L bd).length=L.length∧tdy (ints (cuL l L bd)) 0=true∧Und bd (cuL l L bd)∧∀u v,u<L.length→v<L.length→(cuL l L bd).getD u 0=(cuL l L bd).getD v 0→L.getD u 0=L.getD v 0:=by
 have ih:=cu_inv hC hL hT hB (szL (ints L)).length
 unfold cuL
 generalize (cuS l L (szL (ints L)) bd (szL (ints L)).length).1=P at*
 have hl:(tdL P).length=L.length:=(tdL_len P).trans ih.len
 refine⟨hl,tdL_right P,tdL_und (und_of (fun u hu=> ?_)),fun u v hu hv he=> ?_⟩
 ·have hu':u<L.length:=by rw[←ih.len];exact hu
  rcases ih.at_ u hu' with ⟨h1,h2⟩ | ⟨h1,_,_⟩
  ·have hlt:=(right_sz hT _ (by rw[getD_in hu'];exact List.getElem_mem _:L.getD u 0∈L)).1
   have h3:(szL (ints L)).getD (L.getD u 0) 0≤bd:=by
    rcases h2 with h2 | h2
    ·omega
    ·exact h2
   rw[sz_cnt hT] at h3
   refine Nat.le_trans ?_ h3
   rw[h1,count_filter L]
   refine count_into (fun v hv he=> ?_)
   rw[ih.len] at hv
   refine List.mem_filter.2 ⟨List.mem_range.2 hv,?_⟩
   rw[decide_eq_true_eq]
   exact ih.apart v u hv hu' (by rw[he,h1])
  ·exact ih.cnt _ h1
 ·rw[tdL_eq (by rw[ih.len];exact hu) (by rw[ih.len];exact hv)] at he
  exact ih.apart u v hu hv he
theorem tdy_parts{n:Nat}{l:List T3.A}(h:T3.chkE n l=0):tdy (T3.partsL n l) 0=true∧(T3.partsL n l).length=n∧∀v,v<n→(T3.partsL n l).getD v 0=(T3.lab (T3.lead l) v:Nat):=by
 unfold T3.partsL
 rw[if_pos h,Int.toNat_natCast]
 refine⟨?_,by rw[T3.ints_len,T3.labs_len],fun v hv=>by rw[T3.ints_getD,T3.labs_getD _ n v hv]⟩
 have:=tdy_labs (T3.lead_RT l) n n 0 (by omega)
 exact this
def toI(p:Pr):Pi2:=⟨(p.a:Int),(p.b:Int)⟩
theorem prs_I{w:World}{a:Option Addr}{xs:List Pr}(h:Prs w a xs):PrI w a (xs.map toI):=by
 rcases h with rfl | ⟨b,o,e,hl,hc⟩
 ·exact .inl rfl
 ·refine .inr ⟨b,o,e,hl,fun j hj=> ?_⟩
  have hj':j<xs.length:=by simpa using hj
  have e:(xs.map toI).getD j Pi2.zero=toI (xs.getD j Pr.zero):=by simp[List.getD,hj']
  rw[e]
  exact hc j hj'
theorem mk1_good{N:Int}: ∀ {ms:List Pi2},(∀p,p∈ms→(0≤p.a∧p.a<N)∧(0≤p.b∧p.b<N)∧p.a<p.b)→mk1 N ms=0
 | [],_=>rfl
 | x::r,h=>by
   obtain⟨h1,h2,h3⟩:=h x List.mem_cons_self
   simp only[mk1]
   rw[if_neg (by simp[okV,h1,h2]),if_neg (by omega)]
   exact mk1_good (fun p hp=>h p (List.mem_cons_of_mem _ hp))
theorem frE_good{n:Nat}{l:List A}{xs:List Pr}(h:chkE n l=0)(hs: ∀p,p∈xs→p∈prl l)(hl:xs.length≤16384):frE n l (xs.map toI)=0:=by
 have hoa:=(chk_zero h).2.2.2
 unfold frE mkE
 rw[if_neg (by rw[h];omega),if_neg (by rw[List.length_map];omega)]
 refine mk1_good (fun q hq=> ?_)
 obtain⟨p,hp,rfl⟩:=List.mem_map.1 hq
 have h1:=prl_ltM hoa (hs p hp)
 have h2:=((prl_mem (fun x hx=>⟨(hoa x hx).1.1,(hoa x hx).2.1⟩)).1 (hs p hp)).1
 exact⟨⟨by simp[toI],by simp[toI];omega⟩,⟨by simp[toI],by simp[toI];omega⟩,by simp[toI];omega⟩
theorem siE_ok{n:Nat}{l:List A}{L:List Nat}(hC:chkE n l=0)(hL:L.length=n)(hT:tdy (ints L) 0=true):siE n l (ints L)=0:=by
 unfold siE szE
 rw[hC,if_neg (by simp),if_neg (by rw[ints_len,hL,hT];simp)]
theorem ckE_ok{n:Nat}{l:List A}{L:List Nat}{B:Nat}(hC:chkE n l=0)(hL:L.length=n)(hT:tdy (ints L) 0=true)(hB1:1≤B)(hB2:B≤1024):ckE n l (ints L) B=0:=by
 unfold ckE
 rw[if_neg (by rw[siE_ok hC hL hT];simp),if_neg (by omega)]
theorem join_holds{n:Nat}{l:List A}{L:List Nat}{B:Nat}(hC:chkE n l=0)(hL:L.length=n)(hT:tdy (ints L) 0=true)(hU:Und B L)(hB1:1≤B)(hB2:B≤1024):jnE n l (ints L) B=0∧∀E,JnR n l (ints L) B E→E.length=L.length∧tdy (ints E) 0=true∧Und B E∧(∀u v,u<L.length→v<L.length→L.getD u 0=L.getD v 0→E.getD u 0=E.getD v 0)∧∃F,Jn (prl l) B L F∧E=tdL F:=by
 have hck:=ckE_ok (B:=B) hC hL hT hB1 hB2
 have hj:jnE n l (ints L) B=0:=by
  unfold jnE
  rw[if_neg (by rw[hck];simp),if_neg ?_]
  obtain⟨j,_,e⟩:=mxL_at (szL (ints L)) ((szL (ints L)).length - 1)
  have:=sz_bound hT hU j
  omega
 refine⟨hj,fun E h=> ?_⟩
 obtain⟨F,hF,rfl⟩:=h.1 hj
 have e1:(ints L).map Int.toNat=L:=by simp[ints,Function.comp_def]
 rw[e1,Int.toNat_natCast] at hF
 have hl:=hF.len
 refine⟨by rw[tdL_len];exact hl,tdL_right F,tdL_und (hF.und hU),fun u v hu hv he=> ?_,F,hF,rfl⟩
 rw[tdL_eq (by omega) (by omega)]
 exact hF.same u v hu hv he
theorem Jn.holds{P:List Pr}{B:Nat}{L F:List Nat}(hF:Jn P B L F)(hU:Und B L):(tdL F).length=L.length∧tdy (ints (tdL F)) 0=true∧Und B (tdL F)∧∀u v,u<L.length→v<L.length→L.getD u 0=L.getD v 0→(tdL F).getD u 0=(tdL F).getD v 0:=by
 have hl:=hF.len
 refine⟨by rw[tdL_len];exact hl,tdL_right F,tdL_und (hF.und hU),fun u v hu hv he=> ?_⟩
 rw[tdL_eq (by omega) (by omega)]
 exact hF.same u v hu hv he
def LowIs(n:Nat)(l:List A)(B:Nat)(cs:List Nat)(mo:Nat)(L:List Nat):Prop:=
 ∃ (xs:List Pr) (L0 F E:List Nat) (m:Nat),MarksIs n l cs B xs∧frL n l (xs.map toI)=ints L0∧L0.length=n∧tdy (ints L0) 0=true∧Jn (prl l) B (cuL l L0 B) F∧Imp (prl l) B mo (tdL F) E m∧L=tdL E
theorem prl_apart{n:Nat}{l:List A}(h:chkE n l=0): ∀p,p∈prl l→p.a≠p.b:=fun p hp=>by
 have hoa:=(chk_zero h).2.2.2
 have h2:=((prl_mem (fun x hx=>⟨(hoa x hx).1.1,(hoa x hx).2.1⟩)).1 hp).1
 omega
theorem LowIs.right{n:Nat}{l:List A}{B:Nat}{cs:List Nat}{mo:Nat}{L:List Nat}(h:LowIs n l B cs mo L)(hC:chkE n l=0)(hB1:1≤B):L.length=n∧tdy (ints L) 0=true∧Und B L:=by
 obtain⟨xs,L0,F,E,m,_,_,h3,h4,h5,h6,rfl⟩:=h
 obtain⟨c1,c2,c3,_⟩:=cuL_holds hC h3 h4 hB1
 obtain⟨d1,d2,d3,_⟩:=h5.holds c3
 have hu:=h6.und (prl_apart hC) d3
 refine⟨?_,tdL_right E,tdL_und hu⟩
 rw[tdL_len,h6.len,d1,c1,h3]
inductive UpIs(l:List A):List Nat→List Nat→List (List Nat)→Prop
 | nil {L:List Nat}:UpIs l [] L []
 | cons {b:Nat} {bs:List Nat} {L F:List Nat} {r:List (List Nat)} (h:Jn (prl l) b L F) (hr:UpIs l bs (tdL F) r):UpIs l (b::bs) L (tdL F::r)
theorem UpIs.len{l:List A}{bs:List Nat}{L:List Nat}{r:List (List Nat)}(h:UpIs l bs L r):r.length=bs.length:=by
 induction h with
 | nil=>rfl
 | cons _ _ ih=>simp[ih]
theorem UpIs.snoc{l:List A}{b:Nat}{bs:List Nat}{L:List Nat}{r:List (List Nat)}(h:UpIs l bs L r): ∀ {F:List Nat},Jn (prl l) b ((L::r).getLast (by simp)) F→UpIs l (bs++[b]) L (r++[tdL F]):=by
 induction h with
 | nil=>intro F hF;exact .cons hF .nil
 | cons h _ ih=>
   intro F hF
   refine .cons h (ih ?_)
   rw[List.getLast_cons (by simp)] at hF
   exact hF
theorem und_mono{B B':Nat}{L:List Nat}(h:Und B L)(hb:B≤B'):Und B' L:=fun x=>Nat.le_trans (h x) hb
theorem wdB_und{L:List Nat}{B:Nat}(hT:tdy (ints L) 0=true)(h:Und B L):wdB (szL (ints L)) (B:Int)=true:=decide_eq_true (fun j _=>by have:=sz_bound hT h j;omega)
theorem nst_of{L E:List Nat}(hl:E.length=L.length)(h: ∀u v,u<L.length→v<L.length→L.getD u 0=L.getD v 0→E.getD u 0=E.getD v 0):Nst (ints L) (ints E):=fun u hu v hv e=>by
 rw[ints_len] at hu hv
 rw[ints_getD hu,ints_getD hv] at e
 rw[ints_getD (by omega),ints_getD (by omega),h u v hu hv (by omega)]
theorem nxE_ok{n:Nat}{bb B:Nat}{ys:List Int}{L:List Nat}(hb:bb<B)(hB:B≤1024)(hL:L.length=n)(hT:tdy (ints L) 0=true)(hU:Und B L)(hn:Nst ys (ints L)):nxE n bb ys B (ints L)=0:=by
 unfold nxE
 rw[if_neg (by omega),if_neg (by unfold szE;rw[if_neg (by rw[ints_len,hT];simp;omega)];simp),if_neg (by rw[wdB_und hT hU];simp),if_neg (fun h=>h hn)]
def Ris:Nat→List Nat→Prop
 | _,[]=>True
 | bb,b::bs=>bb<b∧b≤1024∧Ris b bs
theorem UpIs.right{n:Nat}{l:List A}{bs:List Nat}{L:List Nat}{r:List (List Nat)}(h:UpIs l bs L r): ∀ {bb:Nat},Ris bb bs→L.length=n→tdy (ints L) 0=true→Und bb L→lkR n (ints bs) (r.map ints) bb (ints L):=by
 induction h with
 | nil=>intro bb _ _ _ _;exact trivial
 | cons h _ ih=>
   intro bb hR hL hT hU
   obtain⟨h1,h2,h3⟩:=hR
   obtain⟨d1,d2,d3,d4⟩:=h.holds (und_mono hU (Nat.le_of_lt h1))
   refine⟨nxE_ok h1 h2 (by omega) d2 d3 (nst_of d1 d4),ih h3 (by omega) d2 d3⟩
theorem made_right{n:Nat}{l:List A}{b:Nat}{bs cs:List Nat}{mo:Nat}{L:List Nat}{r:List (List Nat)}(hC:chkE n l=0)(hb:1≤b)(hR:Ris 0 (b::bs))(h5:bs.length+1≤5)(h:LowIs n l b cs mo L)(hu:UpIs l bs L r):NR n l (ints (b::bs)) ((L::r).map ints):=by
 obtain⟨h1,h2,h3⟩:=h.right hC hb
 obtain⟨g1,g2,g3⟩:=hR
 refine⟨hC,by simp[ints],by simp[ints];omega,by simp[ints,hu.len],nxE_ok g1 g2 h1 h2 h3 (fun u hu=>absurd hu (by simp)),?_⟩
 exact hu.right g3 h1 h2 h3
end Go.Proofs.YtmenajiceaicpaaGreat
namespace Go.Proofs.YtmenajiceaicpaaGreat
open Go.RowKit Go.Maps
theorem t3_own{w:World}{B:Nat}{a:Option Addr}{c:Nat}{xs:List Int}(h:w.ownsRow B 3 1 (.slice a xs.length c) xs.length (T3.cellsI xs)):w.ownsRow B 3 1 (.slice a xs.length c) xs.length (cellsI xs):=h
theorem frag_right{n:Nat}{l:List A}{xs:List Pr}(hC:chkE n l=0)(hs: ∀p,p∈xs→p∈prl l)(hl:xs.length≤16384): ∃L0:List Nat,frL n l (xs.map toI)=ints L0∧L0.length=n∧tdy (ints L0) 0=true:=by
 have e:frL n l (xs.map toI)=T3.partsL n (arQ (others l (xs.map toI))):=by unfold frL;rw[if_pos (frE_good hC hs hl)]
 obtain⟨h1,h2,_⟩:=tdy_parts (others_ok hC (xs.map toI))
 have h3:=right_ints h1
 rw[←e] at h1 h2 h3
 refine⟨_,h3,?_,h3▸h1⟩
 rw[List.length_map,h2]
theorem MarksIs.sub{n:Nat}{l:List A}{cs:List Nat}{m:Nat}{xs:List Pr}(h:MarksIs n l cs m xs):(∀p,p∈xs→p∈prl l)∧xs.length≤(prl l).length:=by
 obtain⟨cf,_,rfl⟩:=h
 exact⟨fun p hp=>(List.mem_filter.1 hp).1,List.length_filter_le _ _⟩
set_option maxRecDepth 100000 in
set_option maxHeartbeats 1600000 in
theorem lowest_any(n:Nat)(a:Option Addr)(l:List A)(cap:Nat)(B:Nat)(ca:Option Addr)(cs:List Int)(cc:Nat)(mo:Int)(w:World)(hC:chkE n l=0)(hce:ceE n B cs=0)(hmo:0≤mo∧mo≤16384)(hIM:ImpC mo)(hr:Arcs w a l)(hi:Ints w ca cs):
  Calls Tryz.prog 55 #[.agg #[.int .i64 n, .slice a l.length cap], .int .i64 B, .slice ca cs.length cc, .int .i64 mo] w fun e w'=> ∃v c L,e= .returned (.tuple #[.slice v L.length c, .int .i64 0])∧w'.ownsRow w.heap.size 3 1 (.slice v L.length c) L.length (cellsI (ints L))∧Hid (LowIs n l B (cs.map Int.toNat) mo.toNat L)∧Below w.heap.size w w':=by
 obtain⟨h1n,hn,hl,_⟩:=chk_zero hC
 obtain⟨hcl,hB1,hB2,_⟩:=ceE_zero hce
 have hB1':1≤B:=by omega
 have hB2':B≤1024:=by omega
 have hb0:Below w.heap.size w (w.alloc (.cells #[.int .i64 n, .slice a l.length cap] 24)):=(Below.refl _ _).alloc (Nat.le_refl _) _
 have hg:=heap_top w (.cells #[.int .i64 n, .slice a l.length cap] 24)
 have HAR:=hid hr
 have HB0:=hid hb0
 have HC:=hid hC
 have HIM0:=hid hIM
 clear hIM
 have HMA:=hid (marks_any n B a l cap ca cs cc _ (by omega) (by omega) (hr.on hb0) (hi.on hb0))
 have e0:maE n B l cs=0:=by unfold maE;rw[if_neg (by rw[hC];simp),hce]
 rw[e0] at HMA
 have hpl:(prl l).length≤8192:=Nat.le_trans (prl_len l) hl
 clear hr hi hb0 hC hce e0
 generalize hp:w.heap.size=p at*
 obtain⟨⟨g0,g1⟩,_⟩:=two_cells hg
 have HG:=hid hg
 go_enter Tryz.func55,Tryz.ntmps55
 go_wp2_with fail
 generalize hW:w.alloc (.cells #[.int .i64 n, .slice a l.length cap] 24)=W at*
 clear hW hg
 have hpW:p<W.heap.size:=lt_of_block HG.out
 refine HMA.out.mono ?_
 rintro e w1 ⟨v1,c1,xs,rfl,hown1,hM1,_,hb1⟩
 have HM:=hid (hM1.out (by first | exact rfl | trivial))
 have HB1:Hid (Below p w w1):=HB0.out.trans (hb1.mono (by omega))
 have hk1:=(hb1.block p hpW).trans HG.out
 have hz1:=hb1.size
 have hsub:=HM.out.sub
 have HSUB:=hid hsub.1
 have hxl:xs.length≤8192:=by omega
 have HFR:=hid (frag_any n a l cap v1 (xs.map toI) c1 w1 (by omega) (by rw[List.length_map];omega) (HAR.out.on (by rw[hp];exact HB1.out)) (prs_I hown1.prs))
 obtain⟨L0,hL0,hL0n,hL0t⟩:=frag_right HC.out HSUB.out (by omega)
 rw[frE_good HC.out HSUB.out (by omega),hL0,List.length_map] at HFR
 have HL0:=hid hL0
 have HL0t:=hid hL0t
 have HL0n:=hid hL0n
 have hL0l:L0.length≤1024:=by omega
 clear hb1 hown1 hM1 HMA g0 g1 HB0 hsub hL0 hL0t hL0n
 obtain⟨⟨g0,g1⟩,_⟩:=two_cells hk1
 have HG1:=hid hk1
 clear hk1 HG
 go_wp2_with fail
 refine HFR.out.mono ?_
 rintro e w2 ⟨v2,c2,rfl,hown2,hb2⟩
 have HI2:=hid (ints_own (t3_own hown2))
 have HB2:Hid (Below p w w2):=HB1.out.trans (hb2.mono (by omega))
 have hz2:=hb2.size
 have hk2:=(hb2.block p (by omega)).trans HG1.out
 have HCU:=hid (cutUp_any n a l cap v2 (ints L0) c2 B w2 (by omega) (by rw[ints_len];omega) (HAR.out.on (by rw[hp];exact HB2.out)) HI2.out)
 rw[ckE_ok HC.out HL0n.out HL0t.out hB1' hB2',if_pos rfl,show(ints L0).map Int.toNat=L0 by simp[ints,Function.comp_def],Int.toNat_natCast,ints_len] at HCU
 clear hb2 hown2 HFR g0 g1 HB1 HG1 HI2
 obtain⟨⟨g0,g1⟩,_⟩:=two_cells hk2
 have HG2:=hid hk2
 clear hk2
 rw[ints_len]
 go_wp2_with fail
 refine HCU.out.mono ?_
 rintro e w3 ⟨v3,c3,P3,rfl,hown3,hP3,hb3⟩
 obtain⟨k1,k2,k3,_⟩:=cuL_holds HC.out HL0n.out HL0t.out hB1'
 rw[←hP3] at k1 k2 k3
 have HP3:=hid hP3
 have HK2:=hid k2
 have HK3:=hid k3
 have hP3n:P3.length=n:=by have:=HL0n.out;omega
 have HP3n:=hid hP3n
 have hP3l:P3.length≤1024:=by have:=HL0n.out;omega
 have HB3:Hid (Below p w w3):=HB2.out.trans (hb3.mono (by omega))
 have hz3:=hb3.size
 have hk3:=(hb3.block p (by omega)).trans HG2.out
 obtain⟨hj0,hjA⟩:=join_holds HC.out HP3n.out HK2.out HK3.out hB1' hB2'
 have HJA:=hid hjA
 have HJN:=hid (join_all n a l cap v3 (ints P3) c3 B w3 (by omega) (by rw[ints_len];omega) (HAR.out.on (by rw[hp];exact HB3.out)) (own_ints hown3 rfl))
 rw[hj0,ints_len] at HJN
 clear hb3 hown3 HCU g0 g1 HB2 HG2 k1 k2 k3 hP3 hP3n hjA hj0
 obtain⟨⟨g0,g1⟩,_⟩:=two_cells hk3
 have HG3:=hid hk3
 clear hk3
 go_wp2_with fail
 refine HJN.out.mono ?_
 rintro e w4 ⟨v4,c4,E4,rfl,hown4,hJ4,hb4⟩
 obtain⟨m1,m2,m3,_,F,m5,m6⟩:=HJA.out E4 hJ4.out
 have HM2:=hid m2
 have HM3:=hid m3
 have HM5:=hid m5
 have HM6:=hid m6
 have hE4n:E4.length=n:=by have:=HP3n.out;omega
 have HE4n:=hid hE4n
 have hE4l:E4.length≤1024:=by omega
 have HB4:Hid (Below p w w4):=HB3.out.trans (hb4.mono (by omega))
 have hz4:=hb4.size
 have hk4:=(hb4.block p (by omega)).trans HG3.out
 obtain⟨_,hlu⟩:=lu_ok HC.out (by rw[HE4n.out]) HM2.out hB1' hB2' HM3.out
 have HLU:=hid hlu
 have HIM:=hid (HIM0.out n a l cap v4 (ints E4) c4 B w4 (by omega) (by rw[ints_len];omega) (HAR.out.on (by rw[hp];exact HB4.out)) (own_ints hown4 rfl))
 have hie:imE n l (ints E4) B mo=0:=by unfold imE;rw[if_neg (by rw[hlu];simp),if_neg (by omega)]
 rw[hie,ints_len] at HIM
 clear hb4 hown4 HJN g0 g1 HB3 HG3 m1 m2 m3 m5 m6 hE4n hlu hie hJ4
 obtain⟨⟨g0,g1⟩,_⟩:=two_cells hk4
 clear hk4
 go_wp2_with fail
 refine HIM.out.mono ?_
 rintro e w5 ⟨v5,c5,m,out,rfl,hown5,hb5,hI5,_⟩
 have HB5:Hid (Below p w w5):=HB4.out.trans (hb5.mono (by omega))
 have HO5:=hid (own_base hown5 (show p≤w4.heap.size by omega))
 obtain⟨E,q1,q2,_⟩:=(hI5.out (by first | exact rfl | trivial)).right HLU.out
 have HLOW:Hid (LowIs n l B (cs.map Int.toNat) mo.toNat out):=⟨xs,L0,F,E,m,HM.out,HL0.out,HL0n.out,HL0t.out,HP3.out▸HM5.out,HM6.out▸q1,q2⟩
 clear hb5 hown5 hI5 q1 q2 HIM g0 g1
 go_wp2_with fail
 go_ret2
 exact⟨v5,c5,out,rfl,HO5.out,HLOW,HB5.out⟩
end Go.Proofs.YtmenajiceaicpaaGreat
