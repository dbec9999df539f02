import Derived.Test.YtmenajiceaicpaaGreatZAT
namespace Go.Proofs.YtmenajiceaicpaaGreat
open Go.RowKit Go.Maps
structure C1(W wr:World)(cb n lg lc bg pg fg:Nat)(xs:List Int)(j:Nat)(sv ev:Value)(S:List Nat)(Le:List Int)(mb:Nat→Nat):Prop where
 ob:wr.heap[cb]? =some (cells0 n lg lc bg pg fg sv ev)
 la:OwI wr lg lc xs
 be:TbV wr bg n 25 (fun _=> .slice none 0 0)
 pa:TbV wr pg n 171 (fun v=>if v<j then .map (some (mb v)) else .map none)
 ft:TbV wr fg (n*3) 136 (fun _=> .int .i64 0)
 s:wr.ownsRow W.heap.size 3 1 sv S.length (cellsI (ints S))
 e:wr.ownsRow W.heap.size 3 1 ev Le.length (cellsI Le)
 mi: ∀v,v<j→∀k,MapI wr (mb v) 0 k (fun _=>0)
 mj: ∀u v,u<j→v<j→mb u=mb v→u=v
 sl:sv.ownBlock≠some lg
 el:ev.ownBlock≠some lg
 se:sv.ownBlock=none∨sv.ownBlock≠ev.ownBlock
 bel:Below W.heap.size W wr
 lo:W.heap.size≤cb∧W.heap.size≤lg∧W.heap.size≤bg∧W.heap.size≤pg∧W.heap.size≤fg∧∀v,v<j→W.heap.size≤mb v
theorem CI.start{W wc:World}{cb n lg lc bg pg fg:Nat}{xs:List Int}(h:CI W wc cb n lg lc bg pg fg xs):C1 W wc cb n lg lc bg pg fg xs 0 (.slice none 0 0) (.slice none 0 0) [] [] (fun _=>0):=by
 obtain⟨a1,a2⟩:=h.md.a1 bg rfl
 obtain⟨b1,b2⟩:=h.md.b1 pg rfl
 obtain⟨c1,c2⟩:=h.md.c1 fg rfl
 obtain⟨d1,d2⟩:=h.md.d1 lg lc rfl
 exact⟨h.ob,d1,a1,TbV.congr (V:=fun _=> .map none) b1 (fun v _=>by rw[if_neg (Nat.not_lt_zero _)]),c1,World.ownsRow_nil _ _ _ _,World.ownsRow_nil _ _ _ _,fun v hv=>absurd hv (Nat.not_lt_zero _),fun u v hu=>absurd hu (Nat.not_lt_zero _),by simp[Value.ownBlock],by simp[Value.ownBlock], .inl (by simp[Value.ownBlock]),h.md.be,⟨h.lo,d2,a2,b2,c2,fun v hv=>absurd hv (Nat.not_lt_zero _)⟩⟩
structure AP(wr X:World)(j:Nat)(b6 b13:Option Nat):Prop where
 be:Below wr.heap.size wr X
 p6: ∀q,b6=some q→X.heap[q]? =some (.cells #[.int .i64 0] 3)∧wr.heap.size≤q
 p13: ∀q,b13=some q→X.heap[q]? =some (.cells #[.int .i64 (j:Int)] 3)∧wr.heap.size≤q
theorem AP.start(wr:World)(j:Nat):AP wr wr.drew j none none:=⟨(Below.refl _ _).drew,(fun _ h=>by cases h),(fun _ h=>by cases h)⟩
theorem AP.s6{wr X:World}{j:Nat}{b13:Option Nat}(h:AP wr X j none b13):AP wr (X.alloc (.cells #[.int .i64 0] 3)) j (some X.heap.size) b13:=
 ⟨h.be.trans ((al_below _ _).mono h.be.size),fun q e=>by injection e with e;rw[←e];exact⟨heap_top _ _,h.be.size⟩,fun q e=>⟨(Below.heap_alloc _ _ _ (lt_of_block (h.p13 q e).1)).trans (h.p13 q e).1,(h.p13 q e).2⟩⟩
theorem AP.s13{wr X:World}{j:Nat}{b6:Option Nat}(h:AP wr X j b6 none):AP wr (X.alloc (.cells #[.int .i64 (j:Int)] 3)) j b6 (some X.heap.size):=
 ⟨h.be.trans ((al_below _ _).mono h.be.size),fun q e=>⟨(Below.heap_alloc _ _ _ (lt_of_block (h.p6 q e).1)).trans (h.p6 q e).1,(h.p6 q e).2⟩,fun q e=>by injection e with e;rw[←e];exact⟨heap_top _ _,h.be.size⟩⟩
structure AQ(wr X:World)(B:Nat)(j:Nat)(sv:Value)(S:List Nat)(k g c:Nat)(b13:Option Nat):Prop where
 fr:Fr (fun b=>sv.ownBlock=some b) wr X
 own:X.ownsRow B 3 1 (.slice (some ⟨g,0,none⟩) (k+1) c) (k+1) (cellsI (ints (S++[0])))
 at7:sv.ownBlock=some g∨wr.heap.size≤g
 p13: ∀q,b13=some q→X.heap[q]? =some (.cells #[.int .i64 (j:Int)] 3)∧wr.heap.size≤q∧q≠g
theorem AP.s7{wr X X':World}{B j k g c:Nat}{b6 b13:Option Nat}{sv:Value}{S:List Nat}(h:AP wr X j b6 b13)(hB: ∀b,sv.ownBlock=some b→b<wr.heap.size)(ho:X'.ownsRow B 3 1 (.slice (some ⟨g,0,none⟩) (k+1) c) (k+1) (cellsI (ints S)++cellsI [0]))(hg:X.grownBy X' sv.ownBlock)(ha:sv.ownBlock=some g∨g=X.heap.size):AQ wr X' B j sv S k g c b13:=by
 refine⟨(fr_of h.be).trans ⟨hg.os,hg.tape,hg.output,hg.size,fun b hb hn=>hg.block b hb (fun e=>hn e.symm)⟩,?_,ha.elim .inl (fun e=> .inr (by rw[e];exact h.be.size)),fun q e=> ?_⟩
 ·have e:cellsI (ints S)++cellsI [0]=cellsI (ints (S++[0])):=by simp[cellsI,ints]
  rw[←e]
  exact ho
 ·obtain⟨h1,h2⟩:=h.p13 q e
  have hq:=lt_of_block h1
  refine⟨(hg.block q hq (fun e=> ?_)).trans h1,h2,fun e=> ?_⟩
  ·have:=hB q e.symm
   omega
  ·rcases ha with h3 | h3
   ·have:=hB g h3
    omega
   ·omega
theorem AQ.s13{wr X:World}{B j k g c:Nat}{sv:Value}{S:List Nat}(h:AQ wr X B j sv S k g c none):AQ wr (X.alloc (.cells #[.int .i64 (j:Int)] 3)) B j sv S k g c (some X.heap.size):=
 ⟨h.fr.trans (fr_of (al_below _ _)),own_on h.own (al_below _ _),h.at7,fun q e=>by
  injection e with e
  rw[←e]
  exact⟨heap_top _ _,h.fr.size,fun e=>by have:=(World.ownsRow.lt h.own g rfl).2;omega⟩⟩
structure AR(wr X:World)(B:Nat)(j:Nat)(sv ev:Value)(S:List Nat)(Le:List Int)(k g c g' c':Nat):Prop where
 fr:Fr (fun b=>sv.ownBlock=some b∨ev.ownBlock=some b) wr X
 own:X.ownsRow B 3 1 (.slice (some ⟨g,0,none⟩) (k+1) c) (k+1) (cellsI (ints (S++[0])))
 own':X.ownsRow B 3 1 (.slice (some ⟨g',0,none⟩) (k+1) c') (k+1) (cellsI (Le++[(j:Int)]))
 at7:sv.ownBlock=some g∨wr.heap.size≤g
 at14:ev.ownBlock=some g'∨wr.heap.size≤g'
 ne:g≠g'
theorem AQ.s14{wr X X':World}{B j k g c g' c':Nat}{b13:Option Nat}{sv ev:Value}{S:List Nat}{Le:List Int}(h:AQ wr X B j sv S k g c b13)(hB: ∀b,ev.ownBlock=some b→b<wr.heap.size)(hse:sv.ownBlock=none∨sv.ownBlock≠ev.ownBlock)(ho:X'.ownsRow B 3 1 (.slice (some ⟨g',0,none⟩) (k+1) c') (k+1) (cellsI Le++cellsI [(j:Int)]))(hg:X.grownBy X' ev.ownBlock)(ha:ev.ownBlock=some g'∨g'=X.heap.size):AR wr X' B j sv ev S Le k g c g' c':=by
 have hgX:=(World.ownsRow.lt h.own g rfl).2
 have n1:ev.ownBlock≠some g:=fun e=>by
  rcases h.at7 with h1 | h1
  ·rcases hse with h2 | h2
   ·rw[h2] at h1;cases h1
   ·exact h2 (by rw[h1,e])
  ·have:=hB g e;omega
 refine⟨(h.fr.imp (fun _ e=> .inl e)).trans ⟨hg.os,hg.tape,hg.output,hg.size,fun b hb hn=>hg.block b hb (fun e=>hn (.inr e.symm))⟩,World.ownsRow.kept h.own hg (.inr (fun e=>n1 e.symm)),?_,h.at7,ha.elim .inl (fun e=> .inr (by rw[e];exact h.fr.size)),fun e=> ?_⟩
 ·have e:cellsI Le++cellsI [(j:Int)]=cellsI (Le++[(j:Int)]):=by simp[cellsI]
  rw[←e]
  exact ho
 ·rcases ha with h3 | h3
  ·exact n1 (by rw[h3,e])
  ·omega
theorem AP.c3{wr X:World}{j:Nat}{b6 b13:Option Nat}(h:AP wr X j b6 b13){cb o:Nat}(hc:cb<wr.heap.size){v:Value}(c:wr.cell? ⟨cb,o,none⟩=some v):X.cell? ⟨cb,o,none⟩=some v:=(h.be.cell (p:=⟨cb,o,none⟩) hc).trans c
theorem fr_cell_at{D:Nat→Prop}{w w':World}(hf:Fr D w w'){b o:Nat}(hb:b<w.heap.size)(hn: ¬D b){v:Value}(c:w.cell? ⟨b,o,none⟩=some v):w'.cell? ⟨b,o,none⟩=some v:=by
 rw[←c]
 unfold World.cell?
 simp only[hf.block b hb hn]
theorem cells0_set{w:World}{cb n lg lc bg pg fg:Nat}{sv ev:Value}(h:w.heap[cb]? =some (cells0 n lg lc bg pg fg sv ev))(sv' ev':Value):((w.setCell ⟨cb,2,none⟩ sv').setCell ⟨cb,3,none⟩ ev').heap[cb]? =some (cells0 n lg lc bg pg fg sv' ev'):=by
 have h1:=heap_setCell_same w cb 2 _ _ sv' h
 exact(heap_setCell_same _ cb 3 _ _ ev' h1).trans (by simp[cells0])
theorem C1.rows{W wr:World}{cb n lg lc bg pg fg:Nat}{xs:List Int}{j:Nat}{sv ev:Value}{S:List Nat}{Le:List Int}{mb:Nat→Nat}(h:C1 W wr cb n lg lc bg pg fg xs j sv ev S Le mb){v:Value}{m:Nat}{l:List Value}(ho:wr.ownsRow W.heap.size 3 1 v m l):v.ownBlock≠some cb∧v.ownBlock≠some bg∧v.ownBlock≠some pg∧v.ownBlock≠some fg∧∀u,u<j→v.ownBlock≠some (mb u):=by
 refine⟨own_ne ho h.ob (fun cs fz e=>by unfold cells0 at e;injection e with _ e _;cases e),own_ne ho (show wr.heap[bg]? =some _ from h.be) (fun cs fz e=>by injection e with _ e _;cases e),own_ne ho (show wr.heap[pg]? =some _ from h.pa) (fun cs fz e=>by injection e with _ e _;cases e),own_ne ho (show wr.heap[fg]? =some _ from h.ft) (fun cs fz e=>by injection e with _ e _;cases e),fun u hu=> ?_⟩
 obtain⟨es,ck,hm⟩:=(h.mi u hu 0).kind
 exact own_ne ho hm (fun cs fz e=>by cases e)
theorem C1.cbs{W wr:World}{cb n lg lc bg pg fg:Nat}{xs:List Int}{j:Nat}{sv ev:Value}{S:List Nat}{Le:List Int}{mb:Nat→Nat}(h:C1 W wr cb n lg lc bg pg fg xs j sv ev S Le mb):lg≠cb∧bg≠cb∧pg≠cb∧fg≠cb∧∀u,u<j→mb u≠cb:=by
 have o2:wr.heap[bg]? =_:=h.be
 have o3:wr.heap[pg]? =_:=h.pa
 have o4:wr.heap[fg]? =_:=h.ft
 refine⟨h.la.ne (t:=143) h.ob (by decide),fun e=> ?_,fun e=> ?_,fun e=> ?_,fun u hu=>(h.mi u hu 0).ne (t:=143) h.ob⟩
 ·rw[e,h.ob] at o2;injection o2 with o2;unfold cells0 at o2;injection o2 with _ o2 _;cases o2
 ·rw[e,h.ob] at o3;injection o3 with o3;unfold cells0 at o3;injection o3 with _ o3 _;cases o3
 ·rw[e,h.ob] at o4;injection o4 with o4;unfold cells0 at o4;injection o4 with _ o4 _;cases o4
theorem C1.app{W wr Y:World}{cb n lg lc bg pg fg:Nat}{xs:List Int}{j:Nat}{sv ev:Value}{S:List Nat}{Le:List Int}{mb:Nat→Nat}{k g c g' c':Nat}(h:C1 W wr cb n lg lc bg pg fg xs j sv ev S Le mb)(hS:S.length=k)(hL:Le.length=k)(r:AR wr Y W.heap.size j sv ev S Le k g c g' c'):C1 W ((Y.setCell ⟨cb,2,none⟩ (.slice (some ⟨g,0,none⟩) (k+1) c)).setCell ⟨cb,3,none⟩ (.slice (some ⟨g',0,none⟩) (k+1) c')) cb n lg lc bg pg fg xs j (.slice (some ⟨g,0,none⟩) (k+1) c) (.slice (some ⟨g',0,none⟩) (k+1) c') (S++[0]) (Le++[(j:Int)]) mb:=by
 obtain⟨s1,s2,s3,s4,s5⟩:=h.rows h.s
 obtain⟨e1,e2,e3,e4,e5⟩:=h.rows h.e
 obtain⟨d1,d2,d3,d4,d5⟩:=h.cbs
 have f2:Fr (fun b=>b=cb) Y ((Y.setCell ⟨cb,2,none⟩ (.slice (some ⟨g,0,none⟩) (k+1) c)).setCell ⟨cb,3,none⟩ (.slice (some ⟨g',0,none⟩) (k+1) c')):=(fr_cell Y cb 2 (.slice (some ⟨g,0,none⟩) (k+1) c)).trans (fr_cell _ cb 3 (.slice (some ⟨g',0,none⟩) (k+1) c'))
 have f3:Fr (fun b=>(sv.ownBlock=some b∨ev.ownBlock=some b)∨b=cb) wr ((Y.setCell ⟨cb,2,none⟩ (.slice (some ⟨g,0,none⟩) (k+1) c)).setCell ⟨cb,3,none⟩ (.slice (some ⟨g',0,none⟩) (k+1) c')):=(r.fr.imp (fun _ e=> .inl e)).trans (f2.imp (fun _ e=> .inr e))
 have obY:Y.heap[cb]? =some (cells0 n lg lc bg pg fg sv ev):=(r.fr.block cb (lt_of_block h.ob) (fun e=>e.elim s1 e1)).trans h.ob
 have n7:g≠cb:=fun e=>by
  obtain⟨cs,fz,q⟩:=Lib.ownsRow_kind r.own g rfl
  rw[e,obY] at q
  injection q with q
  unfold cells0 at q
  injection q with _ q _
  cases q
 have n8:g'≠cb:=fun e=>by
  obtain⟨cs,fz,q⟩:=Lib.ownsRow_kind r.own' g' rfl
  rw[e,obY] at q
  injection q with q
  unfold cells0 at q
  injection q with _ q _
  cases q
 have hlg:=h.la.lt
 refine⟨cells0_set obY _ _,h.la.fr f3 (fun e=>e.elim (fun e=>e.elim h.sl h.el) d1),h.be.fr f3 (fun e=>e.elim (fun e=>e.elim s2 e2) d2),h.pa.fr f3 (fun e=>e.elim (fun e=>e.elim s3 e3) d3),h.ft.fr f3 (fun e=>e.elim (fun e=>e.elim s4 e4) d4),?_,?_,fun v hv q=>(h.mi v hv q).fr f3 (fun e=>e.elim (fun e=>e.elim (s5 v hv) (e5 v hv)) (d5 v hv)),h.mj,fun e=> ?_,fun e=> ?_, .inr (fun e=> ?_),?_,h.lo⟩
 ·rw[List.length_append,hS]
  exact own_frL r.own f2 (fun q e=>by injection e with e;rw[←e];exact n7)
 ·rw[List.length_append,hL]
  exact own_frL r.own' f2 (fun q e=>by injection e with e;rw[←e];exact n8)
 ·have e:g=lg:=Option.some.inj e
  rcases r.at7 with q | q
  ·exact h.sl (by rw[q,e])
  ·omega
 ·have e:g'=lg:=Option.some.inj e
  rcases r.at14 with q | q
  ·exact h.el (by rw[q,e])
  ·omega
 ·have e:g=g':=Option.some.inj e
  exact r.ne e
 ·refine h.bel.trans (f3.below h.bel.size (fun b e=> ?_))
  rcases e with (e | e) | e
  ·exact(h.s.lt b e).1
  ·exact(h.e.lt b e).1
  ·rw[e];exact h.lo.1
theorem cells0_free{w:World}{cb n lg lc bg pg fg:Nat}{sv ev:Value}(h:w.heap[cb]? =some (cells0 n lg lc bg pg fg sv ev))(o:Nat):w.frozen? ⟨cb,o,none⟩=false:=by simp[World.frozen?,h,cells0]
theorem cells0_free2{w:World}{cb n lg lc bg pg fg:Nat}{sv ev:Value}(h:w.heap[cb]? =some (cells0 n lg lc bg pg fg sv ev))(v:Value):(w.setCell ⟨cb,2,none⟩ v).frozen? ⟨cb,3,none⟩=false:=by
 have h1:=heap_setCell_same w cb 2 _ _ v h
 simp[World.frozen?,h1]
theorem AR.ob{wr X:World}{B j k g c g' c' cb:Nat}{sv ev:Value}{S:List Nat}{Le:List Int}{o:Obj}(h:AR wr X B j sv ev S Le k g c g' c')(hob:wr.heap[cb]? =some o)(hn: ¬(sv.ownBlock=some cb∨ev.ownBlock=some cb)):X.heap[cb]? =some o:=(h.fr.block cb (lt_of_block hob) hn).trans hob
theorem C1.on{W wr wr':World}{cb n lg lc bg pg fg:Nat}{xs:List Int}{j:Nat}{sv ev:Value}{S:List Nat}{Le:List Int}{mb:Nat→Nat}(h:C1 W wr cb n lg lc bg pg fg xs j sv ev S Le mb)(hb:Below wr.heap.size wr wr'):C1 W wr' cb n lg lc bg pg fg xs j sv ev S Le mb:=
 ⟨(hb.block cb (lt_of_block h.ob)).trans h.ob,h.la.on hb,h.be.same (hb.block bg h.be.lt),h.pa.same (hb.block pg h.pa.lt),h.ft.same (hb.block fg h.ft.lt),own_on h.s hb,own_on h.e hb,fun v hv k=>(h.mi v hv k).on hb,h.mj,h.sl,h.el,h.se,h.bel.trans (hb.mono h.bel.size),h.lo⟩
theorem C1.inc{W wr:World}{cb n lg lc bg pg fg:Nat}{xs:List Int}{j:Nat}{ev:Value}{S:List Nat}{Le:List Int}{mb:Nat→Nat}{k g c:Nat}(h:C1 W wr cb n lg lc bg pg fg xs j (.slice (some ⟨g,0,none⟩) k c) ev S Le mb)(hS:S.length=k)(y x:Nat):C1 W (wr.setCell ⟨g,y,none⟩ (.int .i64 (x:Int))) cb n lg lc bg pg fg xs j (.slice (some ⟨g,0,none⟩) k c) ev (S.set y x) Le mb:=by
 subst hS
 obtain⟨s1,s2,s3,s4,s5⟩:=h.rows h.s
 have f2:=fr_cell wr g y (.int .i64 (x:Int))
 have hg:=(h.s.lt g rfl).1
 refine⟨(f2.block cb (lt_of_block h.ob) (fun e=>s1 (by rw[e];rfl))).trans h.ob,h.la.fr f2 (fun e=>h.sl (by rw[e];rfl)),h.be.fr f2 (fun e=>s2 (by rw[e];rfl)),h.pa.fr f2 (fun e=>s3 (by rw[e];rfl)),h.ft.fr f2 (fun e=>s4 (by rw[e];rfl)),?_,own_frL h.e f2 (fun q e1 e2=> ?_),fun v hv q=>(h.mi v hv q).fr f2 (fun e=>s5 v hv (by rw[e];rfl)),h.mj,h.sl,h.el,h.se,?_,h.lo⟩
 ·have q:=own_setI h.s y x
  rw[List.length_set] at q ⊢
  exact q
 ·rcases h.se with q | q
  ·cases q
  ·exact q (by rw[e1,e2];rfl)
 ·exact h.bel.trans (f2.below h.bel.size (fun b e=>by rw[e];exact hg))
theorem C1.made{W wr:World}{cb n lg lc bg pg fg:Nat}{xs:List Int}{j:Nat}{sv ev:Value}{S:List Nat}{Le:List Int}{mb:Nat→Nat}(h:C1 W wr cb n lg lc bg pg fg xs j sv ev S Le mb):C1 W ((wr.alloc (.map #[] 0)).setCell ⟨pg,j,none⟩ (.map (some wr.heap.size))) cb n lg lc bg pg fg xs (j+1) sv ev S Le (setAt mb j wr.heap.size):=by
 have g:=h.on (al_below wr (.map #[] 0))
 obtain⟨s1,s2,s3,s4,s5⟩:=g.rows g.s
 obtain⟨e1,e2,e3,e4,e5⟩:=g.rows g.e
 have f2:=fr_cell (wr.alloc (.map #[] 0)) pg j (.map (some wr.heap.size))
 have hpl:=h.pa.lt
 have o2:wr.heap[bg]? =_:=h.be
 have o3:wr.heap[pg]? =_:=h.pa
 have o4:wr.heap[fg]? =_:=h.ft
 have nb:bg≠pg:=fun e=>by rw[e,o3] at o2;injection o2 with o2;injection o2 with _ o2 _;cases o2
 have nf:fg≠pg:=fun e=>by rw[e,o3] at o4;injection o4 with o4;injection o4 with _ o4 _;cases o4
 refine⟨(f2.block cb (lt_of_block g.ob) (fun e=>h.cbs.2.2.1 e.symm)).trans g.ob,g.la.fr f2 (g.la.ne (show(wr.alloc (.map #[] 0)).heap[pg]? =some _ from g.pa) (by decide)),g.be.fr f2 nb,TbV.congr (g.pa.set j _) (fun v hv=> ?_),g.ft.fr f2 nf,own_frL g.s f2 (fun q a b=>s3 (by rw[a,b])),own_frL g.e f2 (fun q a b=>e3 (by rw[a,b])),fun v hv q=> ?_,fun u v hu hv e=> ?_,h.sl,h.el,h.se,?_,⟨h.lo.1,h.lo.2.1,h.lo.2.2.1,h.lo.2.2.2.1,h.lo.2.2.2.2.1,fun v hv=> ?_⟩⟩
 ·unfold updV setAt
  by_cases c:v=j
  ·rw[if_pos c,c,if_pos (Nat.lt_succ_self _),if_pos rfl]
  ·rw[if_neg c,if_neg c]
   show(if v<j then Value.map (some (mb v)) else Value.map none)=_
   by_cases c2:v<j
   ·rw[if_pos c2,if_pos (by omega)]
   ·rw[if_neg c2,if_neg (by omega)]
 ·unfold setAt
  by_cases c:v=j
  ·rw[if_pos c]
   exact(MapI.made wr q).fr f2 (fun e=>by omega)
  ·rw[if_neg c]
   exact(g.mi v (by omega) q).fr f2 ((h.mi v (by omega) 0).ne o3)
 ·unfold setAt at e
  have lt: ∀t,t<j→mb t<wr.heap.size:=fun t ht=>(h.mi t ht 0).lt
  by_cases c1:u=j <;> by_cases c2:v=j
  ·omega
  ·rw[if_pos c1,if_neg c2] at e
   have:=lt v (by omega)
   omega
  ·rw[if_neg c1,if_pos c2] at e
   have:=lt u (by omega)
   omega
  ·rw[if_neg c1,if_neg c2] at e
   exact h.mj u v (by omega) (by omega) e
 ·exact g.bel.trans (f2.below g.bel.size (fun b e=>by rw[e];exact h.lo.2.2.2.1))
 ·unfold setAt
  by_cases c:v=j
  ·rw[if_pos c];exact h.bel.size
  ·rw[if_neg c];exact h.lo.2.2.2.2.2 v (by omega)
structure LP(L:List Nat)(n j:Nat)(S:List Nat)(Le:List Int):Prop where
 s:szL ((ints L).take j)=S
 t:tdy ((ints L).drop j) S.length=true
 ll:Le.length=S.length
 lj:S.length≤j
 lv: ∀v,v<j→L.getD v 0<S.length
 le: ∀y,y<S.length→LstAt (fun v=>L.getD v 0) n y (Le.getD y 0)
theorem LP.start{L:List Nat}{n:Nat}(h:tdy (ints L) 0=true):LP L n 0 [] []:=⟨rfl,h,rfl,Nat.le_refl _,fun _ hv=>absurd hv (Nat.not_lt_zero _),fun _ hy=>absurd hy (Nat.not_lt_zero _)⟩
theorem LP.next{L:List Nat}{n j:Nat}{S:List Nat}{Le:List Int}(h:LP L n j S Le)(hj:j<L.length):L.getD j 0≤S.length∧tdy ((ints L).drop (j+1)) (if ((L.getD j 0:Nat):Int)=S.length then (S.length:Int)+1 else S.length)=true:=by
 have h1:=h.t
 rw[drop_getI (by rw[ints_len];exact hj),getD_ints] at h1
 simp only[tdy] at h1
 by_cases c:((L.getD j 0:Nat):Int)<0∨(S.length:Int)<((L.getD j 0:Nat):Int)
 ·rw[if_pos c] at h1;cases h1
 ·rw[if_neg c] at h1
  exact⟨by omega,h1⟩
theorem LP.more{L:List Nat}{n j y:Nat}{S:List Nat}{Le:List Int}(h:LP L n j S Le)(hj:j<L.length)(hn:L.length=n)(hy:L.getD j 0=y)(e:y=S.length):LP L n (j+1) (S++[1]) (Le++[(j:Int)]):=by
 obtain⟨h1,h2⟩:=h.next hj
 rw[hy] at h1 h2
 have sl:(S++[1]).length=S.length+1:=by simp
 refine⟨?_,?_,?_,?_,fun v hv=> ?_,fun z hz=> ?_⟩
 ·rw[take_snocI (by rw[ints_len];exact hj),szL_snoc,h.s,getD_ints,hy]
  unfold szS
  rw[if_pos (by omega)]
 ·rw[if_pos (by omega)] at h2
  rw[sl]
  exact h2
 ·have:=h.ll;simp;omega
 ·rw[sl];have:=h.lj;omega
 ·rw[sl]
  by_cases c:v=j
  ·rw[c,hy];omega
  ·have:=h.lv v (by omega);omega
 ·rw[sl] at hz
  have hll:=h.ll
  by_cases c:z=S.length
  ·have e1:(Le++[(j:Int)]).getD z 0=(j:Int):=by rw[c,←hll];simp[List.getD]
   rw[e1]
   refine⟨fun q=>by omega,fun _=>⟨j,rfl,by omega,by show L.getD j 0=z;omega,fun v hv=> ?_⟩⟩
   have:=h.lv v hv
   show L.getD v 0≠z
   omega
  ·have e1:(Le++[(j:Int)]).getD z 0=Le.getD z 0:=by
    unfold List.getD
    rw[List.getElem?_append_left (by omega)]
   rw[e1]
   exact h.le z (by omega)
theorem LP.again{L:List Nat}{n j y:Nat}{S:List Nat}{Le:List Int}(h:LP L n j S Le)(hj:j<L.length)(hy:L.getD j 0=y)(e:y<S.length):LP L n (j+1) (S.set y (S.getD y 0+1)) Le:=by
 obtain⟨h1,h2⟩:=h.next hj
 rw[hy] at h1 h2
 refine⟨?_,?_,?_,?_,fun v hv=> ?_,fun z hz=> ?_⟩
 ·rw[take_snocI (by rw[ints_len];exact hj),szL_snoc,h.s,getD_ints,hy]
  unfold szS
  rw[Int.toNat_natCast,if_neg (by omega)]
 ·rw[if_neg (by omega)] at h2
  rw[List.length_set]
  exact h2
 ·rw[List.length_set];exact h.ll
 ·rw[List.length_set];have:=h.lj;omega
 ·rw[List.length_set]
  by_cases c:v=j
  ·rw[c,hy];omega
  ·exact h.lv v (by omega)
 ·rw[List.length_set] at hz
  exact h.le z hz
def besd(P:List Pr)(v:Nat):List Nat:=P.filterMap (fun p=>if p.a=v then some p.b else if p.b=v then some p.a else none)
theorem besd_snoc(P:List Pr)(p:Pr)(v:Nat):besd (P++[p]) v=besd P v++(if p.a=v then [p.b] else if p.b=v then [p.a] else []):=by
 unfold besd
 rw[List.filterMap_append]
 congr 1
 by_cases c:p.a=v
 ·simp[c]
 ·by_cases c2:p.b=v
  ·simp[c,c2]
  ·simp[c,c2]
theorem besd_len(P:List Pr)(v:Nat):(besd P v).length≤P.length:=List.length_filterMap_le _ _
theorem besd_two{P:List Pr}{p:Pr}(h:p.a≠p.b):setAt (setAt (besd P) p.a (besd P p.a++[p.b])) p.b (setAt (besd P) p.a (besd P p.a++[p.b]) p.b++[p.a])=besd (P++[p]):=by
 funext v
 rw[besd_snoc]
 unfold setAt
 by_cases c:v=p.b
 ·subst c
  rw[if_pos rfl,if_neg (fun e=>h e.symm),if_neg h,if_pos rfl]
 ·rw[if_neg c]
  by_cases c2:v=p.a
  ·subst c2
   rw[if_pos rfl,if_pos rfl]
  ·rw[if_neg c2,if_neg (fun e=>c2 e.symm),if_neg (fun e=>c e.symm),List.append_nil]
theorem hit_iffL{L:List Nat}{v x:Nat}{p:Pr}:hitV L v x p=true↔(p.a=v∧L.getD p.b 0=x)∨(p.b=v∧L.getD p.a 0=x):=by
 unfold hitV
 simp only[Bool.or_eq_true,Bool.and_eq_true,decide_eq_true_eq]
theorem cv_two{P:List Pr}{L:List Nat}{p:Pr}(h:p.a≠p.b):setAt (setAt (cv P L) p.a (updN (cv P L p.a) (L.getD p.b 0) (cv P L p.a (L.getD p.b 0)+1))) p.b (updN (setAt (cv P L) p.a (updN (cv P L p.a) (L.getD p.b 0) (cv P L p.a (L.getD p.b 0)+1)) p.b) (L.getD p.a 0) (setAt (cv P L) p.a (updN (cv P L p.a) (L.getD p.b 0) (cv P L p.a (L.getD p.b 0)+1)) p.b (L.getD p.a 0)+1))=cv (P++[p]) L:=by
 rw[setAt_ne (cv P L) _ (fun e=>h e.symm)]
 funext v x
 rw[cv_snoc]
 by_cases c:v=p.b
 ·subst c
  rw[setAt_same]
  unfold updN
  by_cases c2:x=L.getD p.a 0
  ·rw[if_pos c2,if_pos (hit_iffL.2 (.inr ⟨rfl,c2.symm⟩)),c2]
  ·rw[if_neg c2,if_neg (fun q=>(hit_iffL.1 q).elim (fun q=>h q.1) (fun q=>c2 q.2.symm)),Nat.add_zero]
 ·rw[setAt_ne _ _ c]
  by_cases c2:v=p.a
  ·subst c2
   rw[setAt_same]
   unfold updN
   by_cases c3:x=L.getD p.b 0
   ·rw[if_pos c3,if_pos (hit_iffL.2 (.inl ⟨rfl,c3.symm⟩)),c3]
   ·rw[if_neg c3,if_neg (fun q=>(hit_iffL.1 q).elim (fun q=>c3 q.2.symm) (fun q=>h q.1.symm)),Nat.add_zero]
  ·rw[setAt_ne _ _ c2,if_neg (fun q=>(hit_iffL.1 q).elim (fun q=>c2 q.1.symm) (fun q=>c q.1.symm)),Nat.add_zero]
structure CQ(W wr:World)(cb n k lg lc sg sc eg ec bg pg fg:Nat)(mb nn:Nat→Nat)(rv:Nat→Value)(R:Nat→List Nat)(F:Nat→Nat→Nat)(L S:List Nat)(Le:List Int)(m:Nat):Prop where
 X:CX wr cb n k 0 lg lc sg sc eg ec bg pg fg mb nn rv R F (fun _=>M.zero)
 l:OwI wr lg lc (ints L)
 s:OwI wr sg sc (ints S)
 e:OwI wr eg ec Le
 rr: ∀u v,u<n→v<n→u≠v→(rv u).ownBlock=none∨(rv u).ownBlock≠(rv v).ownBlock
 ra: ∀v,v<n→(rv v).ownBlock≠some lg∧(rv v).ownBlock≠some sg∧(rv v).ownBlock≠some eg
 rl: ∀v,v<n→∀g,(rv v).ownBlock=some g→W.heap.size≤g∧g<wr.heap.size
 mj: ∀u v,u<n→v<n→mb u=mb v→u=v
 ml: ∀v,v<n→W.heap.size≤mb v
 nb: ∀v,v<n→nn v≤m
 rb: ∀v,(R v).length≤m
 fb: ∀v y,F v y≤m
 bl:W.heap.size≤bg
 bel:Below W.heap.size W wr
 lo:W.heap.size≤cb∧W.heap.size≤lg∧W.heap.size≤sg∧W.heap.size≤eg∧W.heap.size≤fg
theorem CQ.on{W wr wr':World}{cb n k lg lc sg sc eg ec bg pg fg:Nat}{mb nn:Nat→Nat}{rv:Nat→Value}{R:Nat→List Nat}{F:Nat→Nat→Nat}{L S:List Nat}{Le:List Int}{m:Nat}(h:CQ W wr cb n k lg lc sg sc eg ec bg pg fg mb nn rv R F L S Le m)(hb:Below wr.heap.size wr wr'):CQ W wr' cb n k lg lc sg sc eg ec bg pg fg mb nn rv R F L S Le m:=
 ⟨h.X.on hb,h.l.on hb,h.s.on hb,h.e.on hb,h.rr,h.ra,fun v hv g e=>⟨(h.rl v hv g e).1,Nat.lt_of_lt_of_le (h.rl v hv g e).2 hb.size⟩,h.mj,h.ml,h.nb,h.rb,h.fb,h.bl,h.bel.trans (hb.mono h.bel.size),h.lo⟩
theorem C1.two{W wr:World}{cb n lg lc bg pg fg:Nat}{k:Nat}{sg sc eg ec:Nat}{L S:List Nat}{Le:List Int}{mb:Nat→Nat}(h:C1 W wr cb n lg lc bg pg fg (ints L) n (.slice (some ⟨sg,0,none⟩) k sc) (.slice (some ⟨eg,0,none⟩) k ec) S Le mb)(hS:S.length=k)(hE:Le.length=k):CQ W wr cb n k lg lc sg sc eg ec bg pg fg mb (fun _=>0) (fun _=> .slice none 0 0) (fun _=> []) (fun _ _=>0) L S Le 0:=by
 refine⟨⟨h.ob,h.be,fun v _=>World.ownsRow_nil _ _ _ _,TbV.congr h.pa (fun v hv=>if_pos hv),fun v hv=>h.mi v hv k,TbV.congr h.ft (fun i hi=> ?_)⟩,h.la,?_,?_,fun _ _ _ _ _=> .inl rfl,fun _ _=>⟨(fun e=>by cases e),(fun e=>by cases e),(fun e=>by cases e)⟩,(fun _ _ g e=>by cases e),h.mj,fun v hv=>h.lo.2.2.2.2.2 v hv,fun _ _=>Nat.zero_le _,fun _=>Nat.le_refl _,fun _ _=>Nat.le_refl _,h.lo.2.2.1,h.bel,⟨h.lo.1,h.lo.2.1,(h.s.lt sg rfl).1,(h.e.lt eg rfl).1,h.lo.2.2.2.2.1⟩⟩
 ·unfold mvV M.zero
  by_cases c:i % 3=0
  ·rw[if_pos c];rfl
  ·rw[if_neg c]
   by_cases c2:i % 3=1
   ·rw[if_pos c2];rfl
   ·rw[if_neg c2]
 ·have q:=own_base h.s (Nat.zero_le _)
  unfold OwI
  rw[ints_len,hS]
  rw[hS] at q
  exact q
 ·have q:=own_base h.e (Nat.zero_le _)
  unfold OwI
  rw[hE]
  rw[hE] at q
  exact q
theorem CQ.count{W wr:World}{cb n k lg lc sg sc eg ec bg pg fg:Nat}{mb nn:Nat→Nat}{rv:Nat→Value}{R:Nat→List Nat}{F:Nat→Nat→Nat}{L S:List Nat}{Le:List Int}{m:Nat}(h:CQ W wr cb n k lg lc sg sc eg ec bg pg fg mb nn rv R F L S Le m)(Ln:L.length=n)(hk:k≤1024)(hm:m≤1000000)(hr: ∀v,(R v).length≤8192){v u:Nat}(hv:v<n)(hu:u<n)(hy:L.getD u 0<k):
  Calls Tryz.prog 180 #[.pointer (some ⟨cb,0,none⟩), .int .i64 v, .int .i64 u] wr fun e w'=>e= .returned (.tuple #[])∧∃nn' rv',CQ W w' cb n k lg lc sg sc eg ec bg pg fg mb nn' rv' (setAt R v (R v++[u])) (setAt F v (updN (F v) (L.getD u 0) (F v (L.getD u 0)+1))) L S Le (m+1)∧Fr (CnD bg (mb v) (rv v).ownBlock) wr w':=by
 refine(count_any cb n k 0 lg lc sg sc eg ec bg pg fg mb nn rv R F (fun _=>M.zero) L v u (L.getD u 0) wr h.X h.l Ln hk hv hu rfl hy (hr v) (by have:=h.fb v (L.getD u 0);omega) (by have:=h.nb v hv;omega) (fun t ht hne=>h.rr t v ht hv hne) (h.ra v hv).1 h.mj).mono ?_
 rintro e w' ⟨rfl,val,hX,hval,hl,hf⟩
 have mv:=h.X.mi v hv
 have ng: ∀g c l,OwI wr g c l→(rv v).ownBlock≠some g→¬CnD bg (mb v) (rv v).ownBlock g:=fun g c l ho hn hd=>by
  rcases hd with q | q | q
  ·exact hn q
  ·exact ho.ne (show wr.heap[bg]? =some _ from h.X.be) (by decide) q
  ·obtain⟨cs,fz,hk⟩:=ho.kind
   exact mv.ne hk q.symm
 have lv: ∀g,val.ownBlock=some g→(W.heap.size≤g∧g<w'.heap.size)∧((rv v).ownBlock=some g∨wr.heap.size≤g):=fun g e=>by
  have hlt:=(World.ownsRow.lt (show w'.ownsRow 0 3 1 val _ _ from (by have q:=hX.ro v hv;rw[setAt_same,setAt_same] at q;exact q)) g e).2
  rcases hval with q | ⟨g',q1,q2⟩
  ·rw[e] at q
   exact⟨⟨(h.rl v hv g q.symm).1,hlt⟩, .inl q.symm⟩
  ·rw[e] at q1
   injection q1 with q1
   subst q1
   exact⟨⟨Nat.le_trans h.bel.size q2,hlt⟩, .inr q2⟩
 have far: ∀g c l,OwI wr g c l→(rv v).ownBlock≠some g→val.ownBlock≠some g:=fun g c l ho hn e=>by
  rcases(lv g e).2 with q | q
  ·exact hn q
  ·have:=ho.lt;omega
 refine⟨rfl,_,_,⟨hX,hl,h.s.fr hf (ng _ _ _ h.s (h.ra v hv).2.1),h.e.fr hf (ng _ _ _ h.e (h.ra v hv).2.2),fun a b ha hb hab=> ?_,fun a ha=> ?_,fun a ha g e=> ?_,h.mj,h.ml,fun a ha=> ?_,fun a=> ?_,fun a y=> ?_,h.bl,?_,h.lo⟩,hf⟩
 ·by_cases c1:a=v
  ·subst c1
   rw[setAt_same,setAt_ne _ _ (fun e=>hab e.symm)]
   cases hq:val.ownBlock with
   | none=>exact .inl rfl
   | some g=>
     right
     intro e
     rcases(lv g hq).2 with q | q
     ·rcases h.rr b a hb ha (fun e=>hab e.symm) with r | r
      ·rw[r] at e;cases e
      ·exact r (by rw[←e,q])
     ·have:=(h.rl b hb g e.symm).2
      omega
  ·rw[setAt_ne _ _ c1]
   by_cases c2:b=v
   ·subst c2
    rw[setAt_same]
    cases hq:(rv a).ownBlock with
    | none=>exact .inl rfl
    | some g=>
      right
      intro e
      rcases(lv g e.symm).2 with q | q
      ·rcases h.rr a b ha hb hab with r | r
       ·rw[r] at hq;cases hq
       ·exact r (by rw[hq,q])
      ·have:=(h.rl a ha g hq).2
       omega
   ·rw[setAt_ne _ _ c2]
    exact h.rr a b ha hb hab
 ·by_cases c1:a=v
  ·subst c1
   rw[setAt_same]
   exact⟨far _ _ _ h.l (h.ra a ha).1,far _ _ _ h.s (h.ra a ha).2.1,far _ _ _ h.e (h.ra a ha).2.2⟩
  ·rw[setAt_ne _ _ c1]
   exact h.ra a ha
 ·by_cases c1:a=v
  ·subst c1
   rw[setAt_same] at e
   exact(lv g e).1
  ·rw[setAt_ne _ _ c1] at e
   exact⟨(h.rl a ha g e).1,Nat.lt_of_lt_of_le (h.rl a ha g e).2 hf.size⟩
 ·by_cases c1:a=v
  ·subst c1
   rw[setAt_same]
   have:=h.nb a ha
   omega
  ·rw[setAt_ne _ _ c1]
   have:=h.nb a ha
   omega
 ·by_cases c1:a=v
  ·subst c1
   rw[setAt_same,List.length_append]
   have:=h.rb a
   simp
   omega
  ·rw[setAt_ne _ _ c1]
   have:=h.rb a
   omega
 ·by_cases c1:a=v
  ·subst c1
   rw[setAt_same]
   unfold updN
   by_cases c2:y=L.getD u 0
   ·rw[if_pos c2]
    have:=h.fb a (L.getD u 0)
    omega
   ·rw[if_neg c2]
    have:=h.fb a y
    omega
  ·rw[setAt_ne _ _ c1]
   have:=h.fb a y
   omega
 ·refine h.bel.trans (hf.below h.bel.size (fun b hb=> ?_))
  rcases hb with q | q | q
  ·exact(h.rl v hv b q).1
  ·rw[q];exact h.bl
  ·rw[q];exact h.ml v hv
end Go.Proofs.YtmenajiceaicpaaGreat
