import Derived.Deep.DeepCutAuto
import Derived.Test.YtmenajiceaicpaaGreatZAA
import Derived.Shelf.Small.Bits
import Derived.Shelf.Sort.Plain
import Derived.Test.YtmenajiceaicpaaGreatProg
import Derived.Lib.OwnBridge
open Go.Lib (hid)
namespace Go.Proofs.YtmenajiceaicpaaGreat
open Go.RowKit
theorem four_new(W:World)(o1 o2 o3 o4:Obj):Below W.heap.size W ((((W.alloc o1).alloc o2).alloc o3).alloc o4)∧((((W.alloc o1).alloc o2).alloc o3).alloc o4).heap[W.heap.size]? =some o1∧((((W.alloc o1).alloc o2).alloc o3).alloc o4).heap[W.heap.size+1]? =some o2∧((((W.alloc o1).alloc o2).alloc o3).alloc o4).heap[W.heap.size+2]? =some o3∧((((W.alloc o1).alloc o2).alloc o3).alloc o4).heap[W.heap.size+3]? =some o4:=by
 refine⟨((((Below.refl _ W).alloc (Nat.le_refl _) o1).alloc (by simp) o2).alloc (by simp;omega) o3).alloc (by simp;omega) o4,?_,?_,?_,?_⟩
 ·exact(Below.heap_alloc _ _ _ (by simp;omega)).trans ((Below.heap_alloc _ _ _ (by simp;omega)).trans ((Below.heap_alloc _ _ _ (by simp)).trans (heap_top W o1)))
 ·have:=heap_top (W.alloc o1) o2
  rw[World.size_alloc] at this
  exact(Below.heap_alloc _ _ _ (by simp)).trans ((Below.heap_alloc _ _ _ (by simp)).trans this)
 ·have:=heap_top ((W.alloc o1).alloc o2) o3
  rw[World.size_alloc,World.size_alloc] at this
  exact(Below.heap_alloc _ _ _ (by simp)).trans this
 ·have:=heap_top (((W.alloc o1).alloc o2).alloc o3) o4
  rw[World.size_alloc,World.size_alloc,World.size_alloc] at this
  exact this
structure Md(W wc:World)(f b1 b2 bs N m:Nat)(a:Option Addr)(cap:Nat):Prop where
 gw:Gw wc f b1 b2 bs N m a cap
 t1:TbV wc b1 N 3 (fun _=> .int .i64 0)
 t2:TbV wc b2 (2*m) 3 (fun _=> .int .i64 0)
 ts:TbV wc bs N 4 (fun _=> .bool false)
 lo:W.heap.size≤f∧W.heap.size≤b1∧W.heap.size≤b2∧W.heap.size≤bs
 ne:f≠b1∧f≠b2∧f≠bs∧b1≠b2∧b1≠bs∧b2≠bs
 be:Below W.heap.size W wc
abbrev tz(n:Nat):Obj:= .cells ((List.range n).map (fun _=>Value.int .i64 0)).toArray 3
abbrev tf(n:Nat):Obj:= .cells ((List.range n).map (fun _=>Value.bool false)).toArray 4
theorem md_of{W w4:World}{q1 q2 qs N m cap:Nat}{a:Option Addr}(hb:Below W.heap.size W w4)(hh:w4.heap[W.heap.size+3]? =some (.cells #[.slice a m cap, .slice (some ⟨q1,0,none⟩) N N, .slice (some ⟨q2,0,none⟩) (2*m) (2*m), .slice (some ⟨qs,0,none⟩) N N] 209))(t1:w4.heap[q1]? =some (tz N))(t2:w4.heap[q2]? =some (tz (2*m)))(ts:w4.heap[qs]? =some (tf N))
  (h:(W.heap.size≤q1∧q1<W.heap.size+3)∧(W.heap.size≤q2∧q2<W.heap.size+3)∧(W.heap.size≤qs∧qs<W.heap.size+3)∧q1≠q2∧q1≠qs∧q2≠qs):Hid (Md W w4.drew (W.heap.size+1+1+1) q1 q2 qs N m a cap):=
 ⟨⟨hh⟩,t1,t2,ts,⟨by omega,by omega,by omega,by omega⟩,⟨by omega,by omega,by omega,by omega,by omega,by omega⟩,hb.drew⟩
structure Bg(w wr:World)(f b1 b2 bs N m:Nat)(a:Option Addr)(cap:Nat)(E:List Ed)(c:Nat):Prop where
 gw:Gw wr f b1 b2 bs N m a cap
 fi:TbV wr b1 N 3 (fun v=> .int .i64 (lst E v c))
 nx:TbV wr b2 (2*m) 3 (fun k=> .int .i64 (if k<c then lst E (frm E k) k else 0))
 sn:TbV wr bs N 4 (fun _=> .bool false)
 be:Below w.heap.size w wr
theorem Bg.on{w wr w2:World}{f b1 b2 bs N m:Nat}{a:Option Addr}{cap:Nat}{E:List Ed}{c:Nat}(h:Bg w wr f b1 b2 bs N m a cap E c)(hb:Below wr.heap.size wr w2):Bg w w2 f b1 b2 bs N m a cap E c:=
 ⟨⟨(hb.block _ (lt_of_block h.gw.hd)).trans h.gw.hd⟩,h.fi.same (hb.block _ h.fi.lt),h.nx.same (hb.block _ h.nx.lt),h.sn.same (hb.block _ h.sn.lt),h.be.trans (hb.mono h.be.size)⟩
theorem Bg.step{w wr w2:World}{f b1 b2 bs N m:Nat}{a:Option Addr}{cap:Nat}{E:List Ed}{c v:Nat}(h:Bg w wr f b1 b2 bs N m a cap E c)(ne:f≠b1∧f≠b2∧f≠bs∧b1≠b2∧b1≠bs∧b2≠bs)(l1:w.heap.size≤b1)(l2:w.heap.size≤b2)(hv:frm E c=v)
  (t1:TbV w2 b1 N 3 (fun x=> .int .i64 (updI (fun v=>lst E v c) v c x))) (t2:TbV w2 b2 (2*m) 3 (fun x=> .int .i64 (updI (fun k=>if k<c then lst E (frm E k) k else 0) c (lst E v c) x))) (hf:Fr (fun j=>j=b1∨j=b2) wr w2):Bg w w2 f b1 b2 bs N m a cap E (c+1):=by
 refine⟨h.gw.fr hf (fun e=>e.elim ne.1 ne.2.1),t1.congr (fun x _=> ?_),t2.congr (fun x _=> ?_),h.sn.fr hf (fun e=>e.elim (fun e=>ne.2.2.2.2.1 e.symm) (fun e=>ne.2.2.2.2.2 e.symm)),?_⟩
 ·rw[lst_step,hv]
 ·by_cases e:x=c
  ·subst e;rw[updI_self,if_pos (Nat.lt_succ_self _),hv]
  ·rw[updI_ne _ _ e]
   by_cases e2:x<c
   ·rw[if_pos e2,if_pos (by omega)]
   ·rw[if_neg e2,if_neg (by omega)]
 ·exact⟨hf.os.trans h.be.os,hf.tape.trans h.be.tape,hf.output.trans h.be.output,Nat.le_trans h.be.size hf.size,fun k hk=>(hf.block k (Nat.lt_of_lt_of_le hk h.be.size) (fun e=>e.elim (fun e=>absurd l1 (Nat.not_le.2 (e▸hk))) (fun e=>absurd l2 (Nat.not_le.2 (e▸hk))))).trans (h.be.block k hk)⟩
theorem Bg.call{w wr:World}{f b1 b2 bs N m:Nat}{a:Option Addr}{cap:Nat}{E:List Ed}{c v:Nat}{K:Int}(h:Bg w wr f b1 b2 bs N m a cap E c)(ne:f≠b1∧f≠b2∧f≠bs∧b1≠b2∧b1≠bs∧b2≠bs)(lo:w.heap.size≤f∧w.heap.size≤b1∧w.heap.size≤b2∧w.heap.size≤bs)(hf:frm E c=v)(hv:v<N)(hk:c<2*m)(hK:K=(c:Int)):
  Calls Tryz.prog 170 #[.pointer (some ⟨f,0,none⟩), .int .i64 v, .int .i64 K] wr fun e w2=>e= .returned (.tuple #[])∧Bg w w2 f b1 b2 bs N m a cap E (c+1)∧Fr (fun j=>j=b1∨j=b2) wr w2:=by
 subst hK
 refine(chain_any h.gw h.fi h.nx ne.2.2.2.1 ne.1 ne.2.1 hv hk).mono ?_
 rintro e w2 ⟨rfl,t1,t2,hfr⟩
 exact⟨rfl,h.step ne lo.2.1 lo.2.2.1 hf t1 t2 hfr,hfr⟩
set_option maxHeartbeats 1600000 in
set_option maxRecDepth 100000 in
theorem begin_any(N:Nat)(a:Option Addr)(l:List A)(cap:Nat)(w:World)(hN:N≤1024)(hm:l.length≤16384)(hpo: ∀x,x∈l→0≤x.f∧x.f<N∧0≤x.t∧x.t<N)(hr:Arcs w a l):
  Calls Tryz.prog 141 #[.agg #[.int .i64 N, .slice a l.length cap]] w fun e w'=> ∃f b1 b2 bs,e= .returned (.pointer (some ⟨f,0,none⟩))∧(f≠b1∧f≠b2∧f≠bs∧b1≠b2∧b1≠bs∧b2≠bs)∧(w.heap.size≤f∧w.heap.size≤b1∧w.heap.size≤b2∧w.heap.size≤bs)∧Bg w w' f b1 b2 bs N l.length a cap (edl l) (2*l.length):=by
 obtain⟨b,o,hab⟩: ∃b o,0<l.length→a=some ⟨b,o,none⟩∧b<w.heap.size∧∀j,j<l.length→(l.getD j A.zero).at w b (o+j*3):=by
  rcases hr with rfl | ⟨b,o,h⟩
  ·exact⟨0,0,fun h=>absurd h (by simp)⟩
  ·exact⟨b,o,fun _=>h⟩
 obtain⟨E,HE⟩:=named (edl l)
 have HEN:Hid (∀k,k<l.length→ed E k=⟨(l.getD k A.zero).f.toNat,(l.getD k A.zero).t.toNat,(l.getD k A.zero).w⟩):=fun k hk=>by rw[←HE.out];exact edl_at hk
 have HPO:=hid hpo
 have HAB:=hid hab
 have HBW:Hid (Below w.heap.size w (w.alloc (.cells #[.int .i64 N, .slice a l.length cap] 24))):=(Below.refl _ _).alloc (Nat.le_refl _) _
 obtain⟨m,HMl⟩:=named l.length
 rw[HMl.out] at hm HEN HAB HBW ⊢
 rw[HE.out]
 clear hr hpo hab
 obtain⟨i3,hi3,hz3,hs3,hb3⟩:=info_parts info3
 obtain⟨i4,hi4,hz4,hs4,hb4⟩:=info_parts info4
 have hg:=heap_top w (.cells #[.int .i64 N, .slice a m cap] 24)
 have hmkN: ∀w,(Instr.makeSlice 25 (.int .i64 N) (.int .i64 N)).run Tryz.prog w= .ok (.slice (some ⟨w.heap.size,0,none⟩) N N) (w.alloc (tz N)):=fun w=>by
  have:=run_make (P:=Tryz.prog) w 25 3 i3 (.int .i64 0) Tryz.underlying25 hi3 hz3 .i64 .i64 N N (by omega) (by omega) (by rw[hb3];omega) (by omega)
  rw[this,Int.toNat_natCast,hs3,made_int]
 have hmk2: ∀w,(Instr.makeSlice 25 (.int .i64 (2*(m:Int))) (.int .i64 (2*(m:Int)))).run Tryz.prog w= .ok (.slice (some ⟨w.heap.size,0,none⟩) (2*m) (2*m)) (w.alloc (tz (2*m))):=fun w=>by
  have:=run_make (P:=Tryz.prog) w 25 3 i3 (.int .i64 0) Tryz.underlying25 hi3 hz3 .i64 .i64 (2*(m:Int)) (2*(m:Int)) (by omega) (by omega) (by rw[hb3];omega) (by omega)
  rw[this,show(2*(m:Int)).toNat=2*m by omega,hs3,made_int]
 have hmkB: ∀w,(Instr.makeSlice 53 (.int .i64 N) (.int .i64 N)).run Tryz.prog w= .ok (.slice (some ⟨w.heap.size,0,none⟩) N N) (w.alloc (tf N)):=fun w=>by
  have:=run_make (P:=Tryz.prog) w 53 4 i4 (.bool false) Tryz.underlying53 hi4 hz4 .i64 .i64 N N (by omega) (by omega) (by rw[hb4];omega) (by omega)
  rw[this,Int.toNat_natCast,hs4,made_bool]
 generalize hp:w.heap.size=p at*
 obtain⟨⟨g0,g1⟩,gf0,gf1⟩:=two_cells hg
 go_enter Tryz.func141,Tryz.ntmps141
 go_wp2_with fail
 have hpW:p<(w.alloc (.cells #[.int .i64 N, .slice a m cap] 24)).heap.size:=lt_of_block hg
 generalize hW:w.alloc (.cells #[.int .i64 N, .slice a m cap] 24)=W at*
 go_cut [3] (fun s3 wc=> ∃f b1 b2 bs,s3= .pointer (some ⟨f,0,none⟩)∧Hid (Md W wc f b1 b2 bs N m a cap))
 case first=>
  have hn1:p≠W.heap.size:=Nat.ne_of_lt hpW
  have hn2:p≠W.heap.size+1:=by omega
  have hn3:p≠W.heap.size+1+1:=by omega
  have hn7:p≠W.heap.size+2:=by omega
  have hn8:=hn7.symm
  have al: ∀ (V:World) (o:Obj) (q:Nat),p<V.heap.size→(V.alloc o).cell? ⟨p,q,none⟩=V.cell? ⟨p,q,none⟩:=fun V o q h=>World.cell?_of_block (a:=⟨p,q,none⟩) (Below.heap_alloc V o p h)
  have k1: ∀o1 o2 o3,(((W.alloc o1).alloc o2).alloc o3).cell? ⟨p,1,none⟩=some (.slice a m cap):=fun o1 o2 o3=>by
   rw[al _ _ _ (by simp;omega),al _ _ _ (by simp;omega),al _ _ _ hpW,g1]
  have k0: ∀o1 o2 o3,(((W.alloc o1).alloc o2).alloc o3).cell? ⟨p,0,none⟩=some (.int .i64 N):=fun o1 o2 o3=>by
   rw[al _ _ _ (by simp;omega),al _ _ _ (by simp;omega),al _ _ _ hpW,g0]
  clear al
  have hn4:=hn1.symm
  have hn5:=hn2.symm
  have hn6:=hn3.symm
  clear hW hp HBW hg hi3 hi4 hz3 hz4 hs3 hs4 hb3 hb4 HAB HPO HEN HE HMl
  clear i3 i4
  go_region
  all_goals
   go_wp2_with fail
   go_meet
   case rel=>
    obtain⟨hb,h1,h2,h3,h4⟩:=four_new W _ _ _ _
    first
    | exact⟨_,_,_,_,rfl,md_of hb h4 h1 h2 h3 (by omega)⟩
    | exact⟨_,_,_,_,rfl,md_of hb h4 h1 h3 h2 (by omega)⟩
    | exact⟨_,_,_,_,rfl,md_of hb h4 h2 h1 h3 (by omega)⟩
    | exact⟨_,_,_,_,rfl,md_of hb h4 h2 h3 h1 (by omega)⟩
    | exact⟨_,_,_,_,rfl,md_of hb h4 h3 h1 h2 (by omega)⟩
    | exact⟨_,_,_,_,rfl,md_of hb h4 h3 h2 h1 (by omega)⟩
 case rest=>
  obtain⟨f,b1,b2,bs,rfl,HM⟩:=hcut
  have HNE:=hid HM.out.ne
  have hgc:=(HM.out.be.block p (lt_of_block hg)).trans hg
  obtain⟨j0,j1⟩:=(two_cells hgc).1
  have HBC:Hid (Below p w wc):=HBW.out.trans (HM.out.be.mono (Nat.le_of_lt hpW))
  clear hmkN hmk2 hmkB g0 g1 gf0 gf1
  clear hi3 hi4 hz3 hz4 hs3 hs4 hb3 hb4
  clear i3 i4
  obtain⟨c0,c1,c2,c3⟩:=four_cells HM.out.gw.hd
  have hN':(0:Int)≤N:=by omega
  go_wp2_with fail
  go_loopw [27] (fun i wr=> ∃k:Nat,k≤N∧i= .int .i64 k∧TbV wr b1 N 3 (fun v=> .int .i64 (if v<k then -1 else 0))∧Hid (Fr (fun j=>j=b1) wc wr)) (fun i _=>N - (intOf i).toNat)
  case atStart=>exact⟨0,Nat.zero_le _,rfl,HM.out.t1.congr (fun v _=>by simp),Fr.refl _ _⟩
  case round=>
   obtain⟨k,hk,rfl,t1,HF⟩:=hrel
   clear c0 c1 c2 c3 j0 j1
   obtain⟨c0,c1,c2,c3⟩:=four_cells (HM.out.gw.fr HF.out HNE.out.1).hd
   obtain⟨j0,j1⟩:=(two_cells ((HF.out.block p (lt_of_block hgc) (fun e=>absurd HM.out.lo.2.1 (Nat.not_le.2 (e▸hpW)))).trans hgc)).1
   by_cases hlt:k<N
   ·have hlt':(k:Int)<N:=by omega
    have d1:=t1.cell hlt
    have d2:=t1.free k
    go_wp2_with fail
    refine⟨⟨k+1,by omega,by simp,(t1.set k (.int .i64 (-1))).congr (fun v _=> ?_),HF.out.setCell ⟨b1,k,none⟩ _ rfl⟩,by simp[intOf];omega⟩
    by_cases e:v=k
    ·subst e;rw[updV_self,if_pos (Nat.lt_succ_self _)]
    ·rw[updV_ne _ _ e]
     by_cases e2:v<k
     ·rw[if_pos e2,if_pos (by omega)]
     ·rw[if_neg e2,if_neg (by omega)]
   ·obtain rfl:k=N:=by omega
    have hb:Bg w wr f b1 b2 bs k m a cap E (2*0):=by
     refine⟨HM.out.gw.fr HF.out HNE.out.1,t1.congr (fun v hv=>by rw[if_pos hv];rfl),(HM.out.t2.fr HF.out (fun e=>HNE.out.2.2.2.1 e.symm)).congr (fun v _=>by rw[if_neg (by omega)]),HM.out.ts.fr HF.out (fun e=>HNE.out.2.2.2.2.1 e.symm),?_⟩
     rw[hp]
     exact⟨HF.out.os.trans HBC.out.os,HF.out.tape.trans HBC.out.tape,HF.out.output.trans HBC.out.output,Nat.le_trans HBC.out.size HF.out.size,fun j hj=>(HF.out.block j (Nat.lt_of_lt_of_le hj (hp▸HBC.out.size)) (fun e=>absurd HM.out.lo.2.1 (Nat.not_le.2 (Nat.lt_trans (e▸hj) hpW)))).trans (HBC.out.block j hj)⟩
    have HB:=hid hb
    have HLO:Hid (p≤f∧p≤b1∧p≤b2∧p≤bs):=by
     obtain⟨q1,q2,q3,q4⟩:=HM.out.lo
     exact⟨by omega,by omega,by omega,by omega⟩
    have hgr:wr.heap[p]? =some (.cells #[.int .i64 k, .slice a m cap] 24):=(HF.out.block p (lt_of_block hgc) (fun e=>absurd HM.out.lo.2.1 (Nat.not_le.2 (e▸hpW)))).trans hgc
    have HGR:=hid hgr
    clear hb hgr t1 HF HM hgc hg HBC HBW hW hpW
    go_wp2_with fail
    go_loopw [40] (fun i wx=> ∃c:Nat,c≤m∧i= .int .i64 c∧Hid (Bg w wx f b1 b2 bs k m a cap E (2*c))) (fun i _=>m - (intOf i).toNat)
    case atStart=>exact⟨0,Nat.zero_le _,rfl,HB⟩
    case round=>
     obtain⟨c,hc,rfl,HC⟩:=hrel
     clear c0 c1 c2 c3 j0 j1
     by_cases hlt:c<m
     ·obtain⟨rfl,hbl,hat⟩:=HAB.out (by omega)
      have hlt':(c:Int)<m:=by omega
      have hmem:=HPO.out (l.getD c A.zero) (by rw[←HMl.out] at hlt;simp[List.getD,List.getElem?_eq_getElem hlt])
      have hbx:=HC.out.be
      rw[hp] at hbx
      obtain⟨q0,q1,q2⟩:=(hat c hlt).on (by rw[hp];exact hbx)
      have HED:=hid (HEN.out c hlt)
      generalize l.getD c A.zero=x at*
      obtain⟨u,hu⟩: ∃u:Nat,x.f=u:=⟨x.f.toNat,by omega⟩
      obtain⟨v,hv⟩: ∃v:Nat,x.t=v:=⟨x.t.toNat,by omega⟩
      rw[hu,hv] at hmem
      rw[hu] at q0 HED
      rw[hv] at q1 HED
      have hul:u<k:=by omega
      have hvl:v<k:=by omega
      have HF1:Hid (frm E (2*c)=u):=by show _=_;unfold frm;rw[if_pos (by omega),show 2*c / 2=c by omega,HED.out];simp
      have HF2:Hid (frm E (2*c+1)=v):=by show _=_;unfold frm;rw[if_neg (by omega),show(2*c+1) / 2=c by omega,HED.out];simp
      clear hbx hu hv
      go_wp2_with fail
      have hlo:=HLO.out
      rw[←hp] at hlo
      have HB1:=hid (HC.out.on ((Below.refl _ _).alloc (Nat.le_refl _) (.cells #[.int .i64 u, .int .i64 v, .int .u32 x.w] 58)))
      have hx:=heap_top wr (.cells #[.int .i64 u, .int .i64 v, .int .u32 x.w] 58)
      have hn1:wr.heap.size≠b1:=Nat.ne_of_gt HC.out.fi.lt
      have hn2:wr.heap.size≠b2:=Nat.ne_of_gt HC.out.nx.lt
      clear q0 q1 q2 hat
      refine(HB1.out.call HNE.out hlo HF1.out hul (by omega) (by simp)).mono ?_
      rintro e w1 ⟨rfl,hB2,hfr⟩
      have HB2:=hid hB2
      have hx1:=(hfr.block wr.heap.size (lt_of_block hx) (fun e=>e.elim hn1 hn2)).trans hx
      obtain⟨z0,z1,z2⟩:=three_cells hx1
      clear hB2 hfr hx hx1
      go_wp2_with fail
      refine(HB2.out.call HNE.out hlo HF2.out hvl (by omega) (by simp)).mono ?_
      rintro e w2 ⟨rfl,hB3,hfr⟩
      have HB3:=hid hB3
      clear hB3 hfr z0 z1 z2
      go_wp2_with fail
      exact⟨⟨c+1,by omega,by simp,HB3⟩,by simp[intOf];omega⟩
     ·obtain rfl:c=m:=by omega
      have hlt': ¬(c:Int)<c:=by omega
      go_wp2_with fail
      go_ret
      exact⟨f,rfl,b1,b2,bs,HNE.out,HLO.out,HC.out⟩
theorem run_append_new{P:Program}(w:World)(base:Nat)(t ty e:TypeId)(i:TypeInfo)(z:Value)(size bytes:Nat)(ht:P.underlying t=some (.slice e))(hi:P.info? e=some i)(hz:i.zero=some z)
  (hsize:i.size=size) (hby:i.bytes=bytes) (hzs:z.cells.size=size) (hsz:0<size)
  (v:Value) (n:Nat) (xs:List Value) (hown:w.ownsRow base e size v n xs)
  (a:Addr) (m c:Nat) (news:List Value) (hl:news.length=m*size) (hnews: ∀j u,news[j]? =some u→w.cell? (a.add j)=some u) (h1: ∀u∈news,u.oneCell'=true)
  (h63:n+m≤maxLen) (hbytes:(n+m)*bytes≤140737488355328) (hbase:base≤w.heap.size) (hm:0<m):
  ∃v' w',(Builtin.append_ #[t,t] ty #[v, .slice (some a) m c]).run P w= .ok v' w'∧w'.ownsRow base e size v' (n+m) (xs++news)∧w.grownBy w' v.ownBlock∧(v'.ownBlock=v.ownBlock∨v'.ownBlock=some w.heap.size):=by
 obtain⟨v',w',hr,h2,h3,h4⟩:=run_append_own (P:=P) w base t ty e i z size bytes ht hi hz hsize hby hzs hsz v n xs hown a m c news hl hnews h1 h63 hbytes hbase
 refine⟨v',w',hr,h2,h3,?_⟩
 subst hsize
 subst hby
 have hsmall:n+m≤9223372036854775807:=by simp only[maxLen] at h63;omega
 rcases hown.2 with ⟨rfl,rfl⟩ | ⟨g,cap,cur,rfl,hbg,hg,hnc,hcm,hcs,htake⟩
 ·have hr2:=run_append_nil (P:=P) w t ty e i z ht hi hz a m c news hl hnews (by omega) (by omega) (by have hb:=hbytes;simp only[Nat.zero_add] at hb;omega)
  rw[hr2] at hr
  injection hr with e1 e2
  right
  rw[←e1]
  rfl
 ·by_cases hroom:n+m≤cap
  ·have hfit:n*i.size+news.length≤cur.size:=by rw[hl,hcs,←Nat.add_mul];exact Nat.mul_le_mul_right _ hroom
   have hr2:=run_append_room (P:=P) w t ty e i ht hi g n cap cur hg a m c news hl hnews h1 hroom hfit
   rw[hr2] at hr
   injection hr with e1 e2
   left
   rw[←e1]
   rfl
  ·have holds: ∀j u,xs[j]? =some u→w.cell? ((⟨g,0,none⟩:Addr).add j)=some u:=hown.cells (g:=g) rfl
   have hr2:=run_append_grow (P:=P) w t ty e i z ht hi hz ⟨g,0,none⟩ n cap xs hown.1 holds a m c news hl hnews (by omega) (by omega) (growslice_fits (by omega) hbytes)
   rw[hr2] at hr
   injection hr with e1 e2
   right
   rw[←e1]
   rfl
theorem wp_append_new{P:Program}{w:World}{o:Oper}{a:Act}{K:Act→World→Prop}{Q:Exit→Act→World→Prop}(s x:Operand)(t:TypeId)
  (ho:o.op= .call {callee:= .builtin .append,args:= #[s,x],argTypes:= #[t,t]})
  (base:Nat) (e:TypeId) (i:TypeInfo) (z:Value) (size bytes:Nat) (ht:P.underlying t=some (.slice e)) (hi:P.info? e=some i) (hz:i.zero=some z)
  (hsize:i.size=size) (hby:i.bytes=bytes) (hzs:z.cells.size=size) (hsz:0<size)
  (v:Value) (n:Nat) (xs:List Value) (hs:a.eval s=v) (hown:w.ownsRow base e size v n xs)
  (ad:Addr) (m c:Nat) (news:List Value) (hx:a.eval x= .slice (some ad) m c) (hl:news.length=m*size) (hnews: ∀j u,news[j]? =some u→w.cell? (ad.add j)=some u) (h1: ∀u∈news,u.oneCell'=true)
  (h63:n+m≤maxLen) (hbytes:(n+m)*bytes≤140737488355328) (hbase:base≤w.heap.size) (hm:0<m)
  (h: ∀v' w',w'.ownsRow base e size v' (n+m) (xs++news)→w.grownBy w' v.ownBlock→(v'.ownBlock=v.ownBlock∨v'.ownBlock=some w.heap.size)→K (a.put o.dst v') w'):o.wp P a w K Q:=by
 obtain⟨v',w',hr,h2,h3,h4⟩:=run_append_new (P:=P) w base t o.type e i z size bytes ht hi hz hsize hby hzs hsz v n xs hown ad m c news hl hnews h1 h63 hbytes hbase hm
 unfold Oper.wp
 simp[execOp,ho,resolve,invoke,builtin,hs,hx,hr,Result.andThen]
 exact h v' w' h2 h3 h4
theorem wpList_append_new{P:Program}{w:World}{ops:Array Oper}{rest:List Oper}{o:Oper}{a:Act}{Q:Exit→Act→World→Prop}(hgd:o.guard=none)(s x:Operand)(t:TypeId)
  (ho:o.op= .call {callee:= .builtin .append,args:= #[s,x],argTypes:= #[t,t]})
  (base:Nat) (e:TypeId) (i:TypeInfo) (z:Value) (size bytes:Nat) (ht:P.underlying t=some (.slice e)) (hi:P.info? e=some i) (hz:i.zero=some z)
  (hsize:i.size=size) (hby:i.bytes=bytes) (hzs:z.cells.size=size) (hsz:0<size)
  (v:Value) (n:Nat) (xs:List Value) (hs:a.eval s=v) (hown:w.ownsRow base e size v n xs)
  (ad:Addr) (m c:Nat) (news:List Value) (hx:a.eval x= .slice (some ad) m c) (hl:news.length=m*size) (hnews: ∀j u,news[j]? =some u→w.cell? (ad.add j)=some u) (h1: ∀u∈news,u.oneCell'=true)
  (h63:n+m≤maxLen) (hbytes:(n+m)*bytes≤140737488355328) (hbase:base≤w.heap.size) (hm:0<m)
  (h: ∀v' w',w'.ownsRow base e size v' (n+m) (xs++news)→w.grownBy w' v.ownBlock→(v'.ownBlock=v.ownBlock∨v'.ownBlock=some w.heap.size)→wpList P ops Q rest (a.put o.dst v') w'):wpList P ops Q (o::rest) a w:=
 wpList_plain hgd fun _ hK=>wp_append_new s x t ho base e i z size bytes ht hi hz hsize hby hzs hsz v n xs hs hown ad m c news hx hl hnews h1 h63 hbytes hbase hm fun v' w' h2 h3 h4=>hK _ _ (h v' w' h2 h3 h4)
end Go.Proofs.YtmenajiceaicpaaGreat
namespace Go.Proofs
open Go.Shelf
def Tryz.lays128_ren:Go.Shelf.Ren:=⟨fun | 128=>167 | n=>n,fun | 51=>56 | 3=>3 | 4=>4 | 46=>192 | 5=>5 | 9=>9 | n=>n,fun | n=>n⟩
theorem Tryz.lays128:Go.Proofs.Lays.n128 Tryz.prog Tryz.lays128_ren:={
 mixed:=by kernel_rfl
 f128:=Tryz.func167.trans (congrArg some (by kernel_rfl))
 t3:=Tryz.underlying3
 a3:=Tryz.isAgg3
 z3:=Tryz.sizeOf3
 v3:=Tryz.zeroValue3
 t4:=Tryz.underlying4
 a4:=Tryz.isAgg4
 z4:=Tryz.sizeOf4
 v4:=Tryz.zeroValue4
 t5:=Tryz.underlying5
 a5:=Tryz.isAgg5
 z5:=Tryz.sizeOf5
 v5:=Tryz.zeroValue5
 t9:=Tryz.underlying9
 a9:=Tryz.isAgg9
 z9:=Tryz.sizeOf9
 v9:=Tryz.zeroValue9
 t46:=Tryz.underlying192
 a46:=Tryz.isAgg192
 z46:=Tryz.sizeOf192
 v46:=Tryz.zeroValue192
 t51:=Tryz.underlying56
 a51:=Tryz.isAgg56
 z51:=Tryz.sizeOf56
 v51:=Tryz.zeroValue56}
theorem Tryz.bits_Len32(x:Int)(w:World)(h0:0≤x)(h1:x≤4294967295):
  Calls Tryz.prog 167 #[.int .u32 x] w fun e w'=>e= .returned (.int .i64 (Lib.bitLen x.toNat))∧w'=w:=Any.bits_Len32 Tryz.lays128 x w h0 h1
def Tryz.lays189_ren:Go.Shelf.Ren:=⟨fun | 189=>188 | 125=>138 | 257=>196 | 128=>167 | 129=>168 | 294=>197 | 295=>198 | 296=>199 | 297=>200 | 298=>201 | 299=>202 | 216=>203 | 300=>204 | 301=>205 | 328=>206 | 329=>183 | 330=>184 | 331=>207 | 332=>208 | 215=>153 | 343=>209 | n=>n,fun | 28=>25 | 3=>3 | 46=>192 | 0=>0 | 51=>56 | 53=>163 | 4=>4 | 183=>220 | 182=>219 | 131=>172 | 5=>5 | 9=>9 | 218=>240 | 222=>244 | 228=>250 | 229=>251 | n=>n,fun | n=>n⟩
theorem Tryz.lays189:Go.Proofs.Lays.n189 Tryz.prog Tryz.lays189_ren:={
 mixed:=by kernel_rfl
 f125:=Tryz.func138.trans (congrArg some (by kernel_rfl))
 f128:=Tryz.func167.trans (congrArg some (by kernel_rfl))
 f129:=Tryz.func168.trans (congrArg some (by kernel_rfl))
 f189:=Tryz.func188.trans (congrArg some (by kernel_rfl))
 f215:=Tryz.func153.trans (congrArg some (by kernel_rfl))
 f216:=Tryz.func203.trans (congrArg some (by kernel_rfl))
 f257:=Tryz.func196.trans (congrArg some (by kernel_rfl))
 f294:=Tryz.func197.trans (congrArg some (by kernel_rfl))
 f295:=Tryz.func198.trans (congrArg some (by kernel_rfl))
 f296:=Tryz.func199.trans (congrArg some (by kernel_rfl))
 f297:=Tryz.func200.trans (congrArg some (by kernel_rfl))
 f298:=Tryz.func201.trans (congrArg some (by kernel_rfl))
 f299:=Tryz.func202.trans (congrArg some (by kernel_rfl))
 f300:=Tryz.func204.trans (congrArg some (by kernel_rfl))
 f301:=Tryz.func205.trans (congrArg some (by kernel_rfl))
 f328:=Tryz.func206.trans (congrArg some (by kernel_rfl))
 f329:=Tryz.func183.trans (congrArg some (by kernel_rfl))
 f330:=Tryz.func184.trans (congrArg some (by kernel_rfl))
 f331:=Tryz.func207.trans (congrArg some (by kernel_rfl))
 f332:=Tryz.func208.trans (congrArg some (by kernel_rfl))
 f343:=Tryz.func209.trans (congrArg some (by kernel_rfl))
 t0:=Tryz.underlying0
 a0:=Tryz.isAgg0
 z0:=Tryz.sizeOf0
 v0:=Tryz.zeroValue0
 t3:=Tryz.underlying3
 a3:=Tryz.isAgg3
 z3:=Tryz.sizeOf3
 v3:=Tryz.zeroValue3
 t4:=Tryz.underlying4
 a4:=Tryz.isAgg4
 z4:=Tryz.sizeOf4
 v4:=Tryz.zeroValue4
 t5:=Tryz.underlying5
 a5:=Tryz.isAgg5
 z5:=Tryz.sizeOf5
 v5:=Tryz.zeroValue5
 t9:=Tryz.underlying9
 a9:=Tryz.isAgg9
 z9:=Tryz.sizeOf9
 v9:=Tryz.zeroValue9
 t28:=Tryz.underlying25
 a28:=Tryz.isAgg25
 z28:=Tryz.sizeOf25
 v28:=Tryz.zeroValue25
 t46:=Tryz.underlying192
 a46:=Tryz.isAgg192
 z46:=Tryz.sizeOf192
 v46:=Tryz.zeroValue192
 t51:=Tryz.underlying56
 a51:=Tryz.isAgg56
 z51:=Tryz.sizeOf56
 v51:=Tryz.zeroValue56
 t53:=Tryz.underlying163
 a53:=Tryz.isAgg163
 z53:=Tryz.sizeOf163
 v53:=Tryz.zeroValue163
 t131:=Tryz.underlying172
 a131:=Tryz.isAgg172
 z131:=Tryz.sizeOf172
 v131:=Tryz.zeroValue172
 t182:=Tryz.underlying219
 a182:=Tryz.isAgg219
 z182:=Tryz.sizeOf219
 v182:=Tryz.zeroValue219
 t183:=Tryz.underlying220
 a183:=Tryz.isAgg220
 z183:=Tryz.sizeOf220
 v183:=Tryz.zeroValue220
 t218:=Tryz.underlying240
 a218:=Tryz.isAgg240
 z218:=Tryz.sizeOf240
 v218:=Tryz.zeroValue240
 t222:=Tryz.underlying244
 a222:=Tryz.isAgg244
 z222:=Tryz.sizeOf244
 v222:=Tryz.zeroValue244
 t228:=Tryz.underlying250
 a228:=Tryz.isAgg250
 z228:=Tryz.sizeOf250
 v228:=Tryz.zeroValue250
 t229:=Tryz.underlying251
 a229:=Tryz.isAgg251
 z229:=Tryz.sizeOf251
 v229:=Tryz.zeroValue251}
open Go.Sort Go.RowKit in
theorem Tryz.slices_Sort_int(blk off cap:Nat)(zs:List Int)(w:World)(hH:Holds (Value.int .i64) w blk off zs.toArray)(hblk:blk<w.heap.size)(hsz:zs.length<4611686018427387904):
  Calls Tryz.prog 188 #[.slice (some ⟨blk,off,none⟩) zs.length cap] w fun e w'=>
   e= .returned (.tuple #[])∧∃n os,w'=grow (putRow (Value.int .i64) (Sort.ahead w n) blk off (zs.mergeSort fun x y=>decide (x≤y)).toArray) os:=Any.slices_Sort_int Tryz.lays189 blk off cap zs w hH hblk hsz
end Go.Proofs
namespace Go.Proofs.YtmenajiceaicpaaGreat
open Go.RowKit
open Go.Sort (Holds putRow putCells mapBlock onCells grow heap_grow_old)
def srt(ys:List Int):List Int:=ys.mergeSort fun x y=>decide (x≤y)
theorem srt_len(ys:List Int):(srt ys).length=ys.length:=by simp[srt]
theorem holds_tail{w:World}{base g n cap k:Nat}{xs ys:List Int}(h:w.ownsRow base 3 1 (.slice (some ⟨g,0,none⟩) n cap) n (cellsI (xs++ys)))(hx:xs.length=k):Holds (Value.int .i64) w g k ys.toArray:=by
 have hl:xs.length+ys.length=n:=by have:=h.1;rw[cellsI_len] at this;simpa using this
 intro j hj
 have hj':j<ys.length:=by simpa using hj
 refine⟨?_,h.frozenAt _⟩
 rw[h.cellAt (k+j) (by omega)]
 unfold cellsI
 rw[List.map_append,List.getElem?_append_right (by simp;omega)]
 simp[hx,hj',getElem!_pos]
theorem own_tail{w:World}{base g n cap k q:Nat}{os:Array Obj}{xs ys zs:List Int}(h:w.ownsRow base 3 1 (.slice (some ⟨g,0,none⟩) n cap) n (cellsI (xs++ys)))(hx:xs.length=k)(hz:zs.length=ys.length):
  (grow (putRow (Value.int .i64) (Sort.ahead w q) g k zs.toArray) os).ownsRow base 3 1 (.slice (some ⟨g,0,none⟩) n cap) n (cellsI (xs++zs)):=by
 have hl:xs.length+ys.length=n:=by have:=h.1;rw[cellsI_len] at this;simpa using this
 rcases h.2 with ⟨e0,_⟩ | ⟨g',cap',cur,e0,hb,hg,hn,hm,hs,ht⟩
 ·cases e0
 ·injection e0 with e1 _ e3
  injection e1 with e1
  injection e1 with e1
  subst e1;subst e3
  have hlt:g<w.heap.size:=lt_of_block hg
  refine⟨by rw[cellsI_len,List.length_append];omega, .inr ⟨g,cap,putCells (Value.int .i64) k zs.toArray cur,rfl,hb,?_,hn,hm,by simpa[putCells] using hs,?_⟩⟩
  ·rw[heap_grow_old _ _ (by simpa[putRow,mapBlock,Sort.ahead] using hlt)]
   simp[putRow,mapBlock,Sort.ahead,Array.getElem?_modify,hg,onCells]
  ·apply List.ext_getElem?
   intro j
   rw[List.getElem?_take,Array.getElem?_toList]
   by_cases hj:j<n
   ·have hjc:j<cur.size:=by omega
    simp only[Nat.mul_one,if_pos hj,putCells,Array.getElem?_mapIdx,Array.getElem?_eq_getElem hjc,Option.map_some]
    have e1:(cur.toList.take (n*1))[j]? =(cellsI (xs++ys))[j]? :=by rw[ht]
    rw[List.getElem?_take,if_pos (by omega),Array.getElem?_toList,Array.getElem?_eq_getElem hjc] at e1
    by_cases hjk:j<k
    ·rw[if_neg (by omega),e1]
     unfold cellsI
     rw[List.map_append,List.map_append,List.getElem?_append_left (by simp;omega),List.getElem?_append_left (by simp;omega)]
    ·rw[if_pos ⟨by omega,by simp;omega⟩]
     unfold cellsI
     rw[List.map_append,List.getElem?_append_right (by simp;omega)]
     have:j - k<zs.length:=by omega
     simp[hx,this,getElem!_pos]
   ·have:(cellsI (xs++zs)).length≤j:=by rw[cellsI_len,List.length_append];omega
    rw[List.getElem?_eq_none this,if_neg (by omega)]
theorem sort_fr{w:World}{g k q:Nat}{os:Array Obj}{zs:List Int}:Fr (fun j=>j=g) w (grow (putRow (Value.int .i64) (Sort.ahead w q) g k zs.toArray) os):=by
 refine⟨rfl,rfl,rfl,by simp[grow,putRow,mapBlock,Sort.ahead],fun j hj hn=> ?_⟩
 rw[heap_grow_old _ _ (by simpa[putRow,mapBlock,Sort.ahead] using hj)]
 simp[putRow,mapBlock,Sort.ahead,Array.getElem?_modify,Ne.symm hn]
theorem sort_any{w:World}{base g n cap k c m:Nat}{xs ys:List Int}(h:w.ownsRow base 3 1 (.slice (some ⟨g,0,none⟩) n cap) n (cellsI (xs++ys)))(hx:xs.length=k)(hm:m=ys.length)(hb:ys.length<4611686018427387904):
  Calls Tryz.prog 188 #[.slice (some ⟨g,k,none⟩) m c] w fun e w'=>e= .returned (.tuple #[])∧w'.ownsRow base 3 1 (.slice (some ⟨g,0,none⟩) n cap) n (cellsI (xs++srt ys))∧Fr (fun j=>j=g) w w':=by
 subst hm
 obtain⟨g',c',he,_,_,hlt,_⟩:=own_shape h (by intro e;cases e)
 injection he with e1 _ _
 injection e1 with e1
 injection e1 with e1
 subst e1
 refine(Tryz.slices_Sort_int g k c ys w (holds_tail h hx) hlt hb).mono ?_
 rintro e w' ⟨rfl,q,os,rfl⟩
 exact⟨rfl,own_tail h hx (srt_len ys),sort_fr⟩
theorem sort_none{w:World}{g c:Nat}(hlt:g<w.heap.size):Calls Tryz.prog 188 #[.slice (some ⟨g,0,none⟩) 0 c] w fun e w'=>e= .returned (.tuple #[])∧Below w.heap.size w w':=by
 refine(Tryz.slices_Sort_int g 0 c [] w (fun j hj=>absurd hj (by simp)) hlt (by simp)).mono ?_
 rintro e w' ⟨rfl,q,os,rfl⟩
 refine⟨rfl,?_⟩
 have h:putRow (Value.int .i64) (Sort.ahead w q) g 0 (List.mergeSort ([]:List Int) fun x y=>decide (x≤y)).toArray=Sort.ahead w q:=by
  unfold putRow
  apply Sort.mapBlock_id
  intro c e fr _
  unfold putCells
  apply Array.ext
  ·simp
  ·intro i h1 h2
   simp
 rw[h]
 exact⟨rfl,rfl,rfl,by simp[grow,Sort.ahead],fun k hk=>heap_grow_old _ _ hk⟩
end Go.Proofs.YtmenajiceaicpaaGreat
namespace Go.Proofs.YtmenajiceaicpaaGreat
open Go.RowKit
def adjF(E:List Ed)(M v b u:Nat):Bool:=(List.range M).any (fun k=>decide (b≤k)&&(frm E k==v)&&(tto E k==u))
theorem adjF_iff{E:List Ed}{M v b u:Nat}:adjF E M v b u=true↔ ∃k,b≤k∧k<M∧frm E k=v∧tto E k=u:=by
 unfold adjF
 rw[List.any_eq_true]
 constructor
 ·rintro⟨k,hk,h⟩
  simp at hk h
  exact⟨k,h.1.1,hk,h.1.2,h.2⟩
 ·rintro⟨k,h1,h2,h3,h4⟩
  exact⟨k,by simpa using h2,by simp[h1,h3,h4]⟩
theorem adjF_top{E:List Ed}{M v u:Nat}:adjF E M v M u=false:=by
 rw[Bool.eq_false_iff]
 intro h
 obtain⟨k,h1,h2,_⟩:=adjF_iff.1 h
 omega
theorem adjF_step{E:List Ed}{M v b k u:Nat}(hk:k<b)(hb:b≤M)(hf:frm E k=v)(hn: ∀j,k<j→j<b→frm E j≠v):adjF E M v k u=(adjF E M v b u||decide (u=tto E k)):=by
 rw[Bool.eq_iff_iff]
 simp only[Bool.or_eq_true,adjF_iff,decide_eq_true_eq]
 constructor
 ·rintro⟨j,h1,h2,h3,h4⟩
  by_cases e:j=k
  ·subst e;exact .inr h4.symm
  ·by_cases e2:j<b
   ·exact absurd h3 (hn j (by omega) e2)
   ·exact .inl ⟨j,by omega,h2,h3,h4⟩
 ·rintro(⟨j,h1,h2,h3,h4⟩ | h)
  ·exact⟨j,by omega,h2,h3,h4⟩
  ·exact⟨k,Nat.le_refl _,by omega,hf,h.symm⟩
theorem adjF_end{E:List Ed}{M v b u:Nat}(hn: ∀k,k<b→frm E k≠v):adjF E M v b u=adjF E M v 0 u:=by
 rw[Bool.eq_iff_iff]
 simp only[adjF_iff]
 constructor
 ·rintro⟨j,h1,h2,h3,h4⟩;exact⟨j,Nat.zero_le _,h2,h3,h4⟩
 ·rintro⟨j,_,h2,h3,h4⟩
  refine⟨j,?_,h2,h3,h4⟩
  by_cases e:b≤j
  ·exact e
  ·exact absurd h3 (hn j (by omega))
def ext(E:List Ed)(M N:Nat)(S:Nat→Bool)(v:Nat):List Nat:=(List.range N).filter (fun u=> !S u&&adjF E M v 0 u)
theorem mem_ext{E:List Ed}{M N:Nat}{S:Nat→Bool}{v u:Nat}:u∈ext E M N S v↔u<N∧S u=false∧adjF E M v 0 u=true:=by
 unfold ext
 simp[List.mem_filter]
theorem ext_nodup(E:List Ed)(M N:Nat)(S:Nat→Bool)(v:Nat):(ext E M N S v).Nodup:=List.Pairwise.filter _ List.nodup_range
theorem srt_ints{q r:List Nat}(hq:q.Nodup)(hr:r.Pairwise (· < ·))(he: ∀u,u∈q↔u∈r):srt (ints q)=ints r:=by
 have hp:(ints q).Perm (ints r):=by
  apply List.Perm.map
  exact(List.perm_ext_iff_of_nodup hq (hr.imp fun {a b} h=>by omega)).2 he
 refine List.Perm.eq_of_pairwise (le:=fun x y=>decide (x≤y)=true) (fun a b _ _ h1 h2=>by simp at h1 h2;omega) ?_ ?_ ((List.mergeSort_perm _ _).trans hp)
 ·exact List.pairwise_mergeSort (fun a b c h1 h2=>by simp at*;omega) (fun a b=>by simp;omega) _
 ·unfold ints
  rw[List.pairwise_map]
  exact hr.imp fun {a b} h=>by simp;omega
theorem ext_sorted(E:List Ed)(M N:Nat)(S:Nat→Bool)(v:Nat):(ext E M N S v).Pairwise (· < ·):=List.Pairwise.filter _ List.pairwise_lt_range
theorem nodup_short{q:List Nat}{N:Nat}(hq:q.Nodup)(h: ∀u,u∈q→u<N):q.length≤N:=by
 have hp:q.Perm ((List.range N).filter (fun u=>decide (u∈q))):=(List.perm_ext_iff_of_nodup hq (List.Pairwise.filter _ List.nodup_range)).2 (fun u=>by
  rw[List.mem_filter]
  simp
  exact fun hu=>h u hu)
 rw[hp.length_eq]
 exact Nat.le_trans (List.length_filter_le _ _) (by simp)
structure Xs(E:List Ed)(M N:Nat)(S:Nat→Bool)(v b:Nat)(q:List Nat):Prop where
 nd:q.Nodup
 mem: ∀u,u∈q↔u<N∧S u=false∧adjF E M v b u=true
theorem Xs.start(E:List Ed)(M N:Nat)(S:Nat→Bool)(v:Nat):Xs E M N S v M []:=⟨List.nodup_nil,fun u=>by simp[adjF_top]⟩
theorem Xs.skip{E:List Ed}{M N:Nat}{S:Nat→Bool}{v b k:Nat}{q:List Nat}(h:Xs E M N S v b q)(hk:k<b)(hb:b≤M)(hf:frm E k=v)(hn: ∀j,k<j→j<b→frm E j≠v)(hs:(S (tto E k)||adjF E M v b (tto E k))=true):Xs E M N S v k q:=by
 refine⟨h.nd,fun u=> ?_⟩
 rw[h.mem,adjF_step hk hb hf hn]
 constructor
 ·rintro⟨h1,h2,h3⟩;exact⟨h1,h2,by rw[h3];rfl⟩
 ·rintro⟨h1,h2,h3⟩
  refine⟨h1,h2,?_⟩
  by_cases e:u=tto E k
  ·subst e;rw[h2,Bool.false_or] at hs;exact hs
  ·simpa[e] using h3
theorem Xs.add{E:List Ed}{M N:Nat}{S:Nat→Bool}{v b k:Nat}{q:List Nat}(h:Xs E M N S v b q)(hk:k<b)(hb:b≤M)(hf:frm E k=v)(hn: ∀j,k<j→j<b→frm E j≠v)(ht:tto E k<N)(hs:(S (tto E k)||adjF E M v b (tto E k))=false):Xs E M N S v k (q++[tto E k]):=by
 rw[Bool.or_eq_false_iff] at hs
 refine⟨?_,fun u=> ?_⟩
 ·rw[List.nodup_append]
  refine⟨h.nd,by simp,fun a ha c hc=> ?_⟩
  simp at hc
  subst hc
  rintro rfl
  have:=((h.mem _).1 ha).2.2
  rw[hs.2] at this
  cases this
 ·rw[List.mem_append,h.mem,adjF_step hk hb hf hn,List.mem_singleton]
  constructor
  ·rintro(⟨h1,h2,h3⟩ | rfl)
   ·exact⟨h1,h2,by rw[h3];rfl⟩
   ·exact⟨ht,hs.1,by simp⟩
  ·rintro⟨h1,h2,h3⟩
   by_cases e:u=tto E k
   ·exact .inr e
   ·exact .inl ⟨h1,h2,by simpa[e] using h3⟩
theorem Xs.done{E:List Ed}{M N:Nat}{S:Nat→Bool}{v b:Nat}{q:List Nat}(h:Xs E M N S v b q)(hn: ∀k,k<b→frm E k≠v):srt (ints q)=ints (ext E M N S v):=
 srt_ints h.nd (ext_sorted E M N S v) (fun u=>by rw[h.mem,mem_ext,adjF_end hn])
theorem Xs.short{E:List Ed}{M N:Nat}{S:Nat→Bool}{v b:Nat}{q:List Nat}(h:Xs E M N S v b q):q.length≤N:=nodup_short h.nd (fun u hu=>((h.mem u).1 hu).1)
end Go.Proofs.YtmenajiceaicpaaGreat
