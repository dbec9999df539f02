import Derived.Deep.DeepCutAuto
import Derived.Test.YtmenajiceaicpaaGreatZFG
open Go.Lib (hid)
namespace Go.Proofs.YtmenajiceaicpaaGreat.F6
open Go.RowKit
theorem made_int(n:Nat):madeCells (Value.int .i64 0).cells (n*1)=((List.range n).map (fun _=>Value.int .i64 0)).toArray:=by
 apply Array.ext'
 show(madeCells #[Value.int .i64 0] (n*1)).toList=_
 rw[toList_madeCells_one,Nat.mul_one]
 apply List.ext_getElem
 ·simp
 ·intro i h1 h2
  simp
def zl:Nat→Value:=lv [] (fun _=>0) (fun _=>0)
theorem zl_eq(q:Nat):zl q= #[Value.int .i64 0, .int .i64 0, .int .u32 0, .int .u32 0, .int .i64 0, .int .i64 0][q % 6]! :=by
 have h:q % 6=0∨q % 6=1∨q % 6=2∨q % 6=3∨q % 6=4∨q % 6=5:=by omega
 unfold zl lv
 rcases h with h | h | h | h | h | h <;> simp[h,ed,Ed.zero]
theorem made_lines(m:Nat):madeCells (Value.agg #[.int .i64 0, .int .i64 0, .int .u32 0, .int .u32 0, .int .i64 0, .int .i64 0]).cells (m*6)=((List.range (m*6)).map zl).toArray:=by
 show madeCells #[Value.int .i64 0, .int .i64 0, .int .u32 0, .int .u32 0, .int .i64 0, .int .i64 0] (m*6)=_
 apply Array.ext
 ·simp[madeCells]
 ·intro i h1 h2
  simp[madeCells,zl_eq]
structure Made(W wc:World)(f bl b1 b2 b3 bq bp N m:Nat):Prop where
 ap:Apart f bl b1 b2 b3 bq bp
 pp:Pp wc f bl b1 b2 b3 bq bp N m 0
 ln:TbV wc bl (m*6) 236 zl
 t1:TbV wc b1 N 3 (fun _=> .int .i64 0)
 t2:TbV wc b2 N 3 (fun _=> .int .i64 0)
 t3:TbV wc b3 N 3 (fun _=> .int .i64 0)
 tq:TbV wc bq N 3 (fun _=> .int .i64 0)
 tp:TbV wc bp N 3 (fun _=> .int .i64 0)
 lo:W.heap.size≤f∧W.heap.size≤bl∧W.heap.size≤b1∧W.heap.size≤b2∧W.heap.size≤b3∧W.heap.size≤bq∧W.heap.size≤bp
 be:Below W.heap.size W wc
theorem I27.ended{W:World}{p:Nat}{a:Option Addr}{N m cap:Nat}{U:Nat→Value}{B:Nat→Nat}{L:Array Bool}{w:World}(h:I27 W p a N m cap U B L w)(hall: ∀j,j<22→on L j):U 3= .pointer (some ⟨B 20,0,none⟩)∧Made W w (B 20) (B 3) (B 6) (B 9) (B 12) (B 15) (B 18) N m:=by
 have hm: ∀j,j<22→mk27 j=true→w.heap[B j]? =some (ob27 N m B j)∧W.heap.size≤B j:=fun j hj hmj=>h.made j hj hmj (hall j hj)
 have ha: ∀i j,i<22→j<22→mk27 i=true→mk27 j=true→i≠j→B i≠B j:=fun i j hi hj mi mj hne=>h.apart i j hi hj mi mj (hall i hi) (hall j hj) hne
 refine⟨h.vals 21 (by decide) (hall 21 (by decide)),⟨⟨?_⟩,⟨(hm 20 (by decide) rfl).1⟩,(hm 3 (by decide) rfl).1,(hm 6 (by decide) rfl).1,(hm 9 (by decide) rfl).1,(hm 12 (by decide) rfl).1,(hm 15 (by decide) rfl).1,(hm 18 (by decide) rfl).1,⟨(hm 20 (by decide) rfl).2,(hm 3 (by decide) rfl).2,(hm 6 (by decide) rfl).2,(hm 9 (by decide) rfl).2,(hm 12 (by decide) rfl).2,(hm 15 (by decide) rfl).2,(hm 18 (by decide) rfl).2⟩,h.below⟩⟩
 simp only[List.nodup_cons,List.mem_cons,not_or,List.not_mem_nil,List.nodup_nil,not_false_eq_true,and_true]
 exact⟨⟨ha 20 3 (by decide) (by decide) rfl rfl (by decide),ha 20 6 (by decide) (by decide) rfl rfl (by decide),ha 20 9 (by decide) (by decide) rfl rfl (by decide),ha 20 12 (by decide) (by decide) rfl rfl (by decide),ha 20 15 (by decide) (by decide) rfl rfl (by decide),ha 20 18 (by decide) (by decide) rfl rfl (by decide)⟩,⟨ha 3 6 (by decide) (by decide) rfl rfl (by decide),ha 3 9 (by decide) (by decide) rfl rfl (by decide),ha 3 12 (by decide) (by decide) rfl rfl (by decide),ha 3 15 (by decide) (by decide) rfl rfl (by decide),ha 3 18 (by decide) (by decide) rfl rfl (by decide)⟩,⟨ha 6 9 (by decide) (by decide) rfl rfl (by decide),ha 6 12 (by decide) (by decide) rfl rfl (by decide),ha 6 15 (by decide) (by decide) rfl rfl (by decide),ha 6 18 (by decide) (by decide) rfl rfl (by decide)⟩,⟨ha 9 12 (by decide) (by decide) rfl rfl (by decide),ha 9 15 (by decide) (by decide) rfl rfl (by decide),ha 9 18 (by decide) (by decide) rfl rfl (by decide)⟩,⟨ha 12 15 (by decide) (by decide) rfl rfl (by decide),ha 12 18 (by decide) (by decide) rfl rfl (by decide)⟩,ha 15 18 (by decide) (by decide) rfl rfl (by decide)⟩
def edl(l:List A):List Ed:=l.map (fun x=>⟨x.f.toNat,x.t.toNat,x.w⟩)
theorem edl_len(l:List A):(edl l).length=l.length:=by simp[edl]
theorem edl_at{l:List A}{k:Nat}(hk:k<l.length):ed (edl l) k=⟨(l.getD k A.zero).f.toNat,(l.getD k A.zero).t.toNat,(l.getD k A.zero).w⟩:=by
 simp[ed,edl,hk]
structure Lw(W wr:World)(f bl b1 b2 b3 bq bp n m:Nat)(E:List Ed)(k c:Nat):Prop where
 pp:Pp wr f bl b1 b2 b3 bq bp n m 0
 ln:TbV wr bl (m*6) 236 (fun q=>if q<6*k then lv E (fun _=>0) (fun k=>lst E (frm E k) k) q else zl q)
 fi:TbV wr b1 n 3 (fun v=> .int .i64 (lst E v c))
 t2:TbV wr b2 n 3 (fun _=> .int .i64 0)
 t3:TbV wr b3 n 3 (fun _=> .int .i64 0)
 tq:TbV wr bq n 3 (fun _=> .int .i64 0)
 tp:TbV wr bp n 3 (fun _=> .int .i64 0)
 be:Below W.heap.size W wr
theorem Lw.on{W wr w2:World}{f bl b1 b2 b3 bq bp n m:Nat}{E:List Ed}{k c:Nat}(h:Lw W wr f bl b1 b2 b3 bq bp n m E k c)(hb:Below wr.heap.size wr w2):Lw W w2 f bl b1 b2 b3 bq bp n m E k c:=
 ⟨⟨(hb.block _ (lt_of_block h.pp.hd)).trans h.pp.hd⟩,h.ln.same (hb.block _ h.ln.lt),h.fi.same (hb.block _ h.fi.lt),h.t2.same (hb.block _ h.t2.lt),h.t3.same (hb.block _ h.t3.lt),h.tq.same (hb.block _ h.tq.lt),h.tp.same (hb.block _ h.tp.lt),h.be.trans (hb.mono h.be.size)⟩
theorem lst_step(E:List Ed)(b v:Nat):lst E v (b+1)=updI (fun v=>lst E v b) (frm E b) (b:Int) v:=by
 by_cases h:frm E b=v
 ·subst h;rw[updI_self];simp[lst]
 ·rw[updI_ne _ _ (fun e=>h e.symm)];simp[lst,h]
theorem Lw.way{W w2:World}{f bl b1 b2 b3 bq bp n m:Nat}{E:List Ed}{k c q j u:Nat}{L:Array Value}{y:Value}(h:Lw W w2 f bl b1 b2 b3 bq bp n m E k c)(hA:Apart f bl b1 b2 b3 bq bp)(hQ:w2.heap[q]? =some (.cells L 236 (0,0)))
  (hq:W.heap.size≤q) (h1W:W.heap.size≤b1) (nq:f≠q∧bl≠q∧b1≠q∧b2≠q∧b3≠q∧bq≠q∧bp≠q) (hf:frm E c=u):
  Lw W ((w2.setCell ⟨q,j,none⟩ y).setCell ⟨b1,u,none⟩ (.int .i64 c)) f bl b1 b2 b3 bq bp n m E k (c+1)∧((w2.setCell ⟨q,j,none⟩ y).setCell ⟨b1,u,none⟩ (.int .i64 c)).heap[q]? =some (.cells (L.setIfInBounds j y) 236 (0,0)):=by
 have hnd:=hA.nd
 simp only[List.nodup_cons,List.mem_cons,not_or,List.not_mem_nil,List.nodup_nil,not_false_eq_true,and_true] at hnd
 obtain⟨⟨a1,a2,a3,a4,a5,a6⟩,⟨a7,a8,a9,a10,a11⟩,⟨a12,a13,a14,a15⟩,⟨a16,a17,a18⟩,⟨a19,a20⟩,a21⟩:=hnd
 obtain⟨m1,m2,m3,m4,m5,m6,m7⟩:=nq
 have f1:Fr (fun k=>k=q) w2 (w2.setCell ⟨q,j,none⟩ y):=(Fr.refl _ w2).setCell ⟨q,j,none⟩ y rfl
 have f2:Fr (fun k=>k=b1) (w2.setCell ⟨q,j,none⟩ y) ((w2.setCell ⟨q,j,none⟩ y).setCell ⟨b1,u,none⟩ (.int .i64 c)):=(Fr.refl _ _).setCell ⟨b1,u,none⟩ _ rfl
 have f3:Fr (fun k=>k=q∨k=b1) w2 ((w2.setCell ⟨q,j,none⟩ y).setCell ⟨b1,u,none⟩ (.int .i64 c)):=(f1.imp (fun _ h=> .inl h)).trans (f2.imp (fun _ h=> .inr h))
 have t1:=(h.fi.fr f1 m3).set u (.int .i64 c)
 have hq1:=heap_setCell_same w2 q j _ _ y hQ
 have hq2:=(f2.block q (lt_of_block hq1) (fun e=>m3 e.symm)).trans hq1
 have t2:TbV ((w2.setCell ⟨q,j,none⟩ y).setCell ⟨b1,u,none⟩ (.int .i64 c)) b1 n 3 (fun v=> .int .i64 (lst E v (c+1))):=t1.congr (fun v _=>by
  rw[lst_step,hf]
  exact upd_rank _ _ _ v)
 clear t1 hq1 f1 f2
 generalize (w2.setCell ⟨q,j,none⟩ y).setCell ⟨b1,u,none⟩ (.int .i64 c)=w4 at*
 have n1: ¬(f=q∨f=b1):=fun e=>e.elim m1 a2
 have n2: ¬(bl=q∨bl=b1):=fun e=>e.elim m2 a7
 have n4: ¬(b2=q∨b2=b1):=fun e=>e.elim m4 (fun e=>a12 e.symm)
 have n5: ¬(b3=q∨b3=b1):=fun e=>e.elim m5 (fun e=>a13 e.symm)
 have n6: ¬(bq=q∨bq=b1):=fun e=>e.elim m6 (fun e=>a14 e.symm)
 have n7: ¬(bp=q∨bp=b1):=fun e=>e.elim m7 (fun e=>a15 e.symm)
 refine⟨⟨⟨(f3.block f (lt_of_block h.pp.hd) n1).trans h.pp.hd⟩,h.ln.fr f3 n2,t2,h.t2.fr f3 n4,h.t3.fr f3 n5,h.tq.fr f3 n6,h.tp.fr f3 n7,?_⟩,hq2⟩
 exact⟨f3.os.trans h.be.os,f3.tape.trans h.be.tape,f3.output.trans h.be.output,Nat.le_trans h.be.size f3.size,fun k hk=>(f3.block k (Nat.lt_of_lt_of_le hk h.be.size) (fun e=>e.elim (fun e=>absurd hq (Nat.not_le.2 (e▸hk))) (fun e=>absurd h1W (Nat.not_le.2 (e▸hk))))).trans (h.be.block k hk)⟩
theorem ltq{a b q:Nat}(h:b+1=q)(ha:a<b):a≠q:=by omega
theorem lay_in{k m j:Nat}(h:k<m)(hj:j<6):k*6+j<m*6:=by omega
theorem lay_off{k j:Nat}(_hj:j<6): ¬(k*6+j<6*k):=by omega
theorem updV6{V:Nat→Value}{k q:Nat}{s0 s1 s2 s3 s4 s5:Value}:updV (updV (updV (updV (updV (updV V (k*6) s0) (k*6+1) s1) (k*6+2) s2) (k*6+3) s3) (k*6+4) s4) (k*6+5) s5 q
  =if q / 6=k then (if q % 6=0 then s0 else if q % 6=1 then s1 else if q % 6=2 then s2 else if q % 6=3 then s3 else if q % 6=4 then s4 else s5) else V q:=by
 unfold updV
 by_cases h:q / 6=k
 ·rw[if_pos h]
  have hr:q % 6=0∨q % 6=1∨q % 6=2∨q % 6=3∨q % 6=4∨q % 6=5:=by omega
  rcases hr with hr | hr | hr | hr | hr | hr
  ·rw[if_neg (by omega),if_neg (by omega),if_neg (by omega),if_neg (by omega),if_neg (by omega),if_pos (by omega),if_pos hr]
  ·rw[if_neg (by omega),if_neg (by omega),if_neg (by omega),if_neg (by omega),if_pos (by omega),if_neg (by omega),if_pos hr]
  ·rw[if_neg (by omega),if_neg (by omega),if_neg (by omega),if_pos (by omega),if_neg (by omega),if_neg (by omega),if_pos hr]
  ·rw[if_neg (by omega),if_neg (by omega),if_pos (by omega),if_neg (by omega),if_neg (by omega),if_neg (by omega),if_pos hr]
  ·rw[if_neg (by omega),if_pos (by omega),if_neg (by omega),if_neg (by omega),if_neg (by omega),if_neg (by omega),if_pos hr]
  ·rw[if_pos (by omega),if_neg (by omega),if_neg (by omega),if_neg (by omega),if_neg (by omega),if_neg (by omega)]
 ·rw[if_neg h,if_neg (by omega),if_neg (by omega),if_neg (by omega),if_neg (by omega),if_neg (by omega),if_neg (by omega)]
theorem line_eq{E:List Ed}{k u v:Nat}{xc ya yb:Int}(he:ed E k=⟨u,v,xc⟩)(hya:lst E u (2*k)=ya)(hyb:lst E v (2*k+1)=yb)(q:Nat):
  (if q / 6=k then (if q % 6=0 then Value.int .i64 u else if q % 6=1 then .int .i64 v else if q % 6=2 then .int .u32 xc else if q % 6=3 then .int .u32 0 else if q % 6=4 then .int .i64 ya else .int .i64 yb) else (if q<6*k then lv E (fun _=>0) (fun k=>lst E (frm E k) k) q else zl q))
    =if q<6*(k+1) then lv E (fun _=>0) (fun k=>lst E (frm E k) k) q else zl q:=by
 by_cases e:q / 6=k
 ·have h1:q<6*(k+1):=by omega
  rw[if_pos e,if_pos h1]
  have hr:q % 6=0∨q % 6=1∨q % 6=2∨q % 6=3∨q % 6=4∨q % 6=5:=by omega
  have hfu:frm E (2*k)=u:=by unfold frm;rw[if_pos (by omega),show 2*k / 2=k by omega,he]
  have hfv:frm E (2*k+1)=v:=by unfold frm;rw[if_neg (by omega),show(2*k+1) / 2=k by omega,he]
  unfold lv
  rw[e,he]
  rcases hr with hr | hr | hr | hr | hr | hr <;> simp[hr,hfu,hfv,hya,hyb]
 ·rw[if_neg e]
  by_cases e2:q<6*k
  ·have h1:q<6*(k+1):=by omega
   rw[if_pos e2,if_pos h1]
  ·have h1: ¬q<6*(k+1):=by omega
   rw[if_neg e2,if_neg h1]
theorem Lw.line{W w4:World}{f bl b1 b2 b3 bq bp n m:Nat}{E:List Ed}{k u v:Nat}{xc ya yb:Int}(h:Lw W w4 f bl b1 b2 b3 bq bp n m E k (2*k+1+1))(hA:Apart f bl b1 b2 b3 bq bp)
  (hlW:W.heap.size≤bl) (_hk:k<m) (he:ed E k=⟨u,v,xc⟩) (hya:lst E u (2*k)=ya) (hyb:lst E v (2*k+1)=yb):
  Lw W ((((((w4.setCell ⟨bl,k*6,none⟩ (.int .i64 u)).setCell ⟨bl,k*6+1,none⟩ (.int .i64 v)).setCell ⟨bl,k*6+2,none⟩ (.int .u32 xc)).setCell ⟨bl,k*6+3,none⟩ (.int .u32 0)).setCell ⟨bl,k*6+4,none⟩ (.int .i64 ya)).setCell ⟨bl,k*6+5,none⟩ (.int .i64 yb)).drew f bl b1 b2 b3 bq bp n m E (k+1) (2*(k+1)):=by
 have hnd:=hA.nd
 simp only[List.nodup_cons,List.mem_cons,not_or,List.not_mem_nil,List.nodup_nil,not_false_eq_true,and_true] at hnd
 obtain⟨⟨a1,a2,a3,a4,a5,a6⟩,⟨a7,a8,a9,a10,a11⟩,_⟩:=hnd
 have f1:Fr (fun k=>k=bl) w4 ((((((w4.setCell ⟨bl,k*6,none⟩ (.int .i64 u)).setCell ⟨bl,k*6+1,none⟩ (.int .i64 v)).setCell ⟨bl,k*6+2,none⟩ (.int .u32 xc)).setCell ⟨bl,k*6+3,none⟩ (.int .u32 0)).setCell ⟨bl,k*6+4,none⟩ (.int .i64 ya)).setCell ⟨bl,k*6+5,none⟩ (.int .i64 yb)):=
  ((((((Fr.refl (fun k=>k=bl) w4).setCell ⟨bl,k*6,none⟩ _ rfl).setCell ⟨bl,k*6+1,none⟩ _ rfl).setCell ⟨bl,k*6+2,none⟩ _ rfl).setCell ⟨bl,k*6+3,none⟩ _ rfl).setCell ⟨bl,k*6+4,none⟩ _ rfl).setCell ⟨bl,k*6+5,none⟩ _ rfl
 have t:=(((((h.ln.set (k*6) (.int .i64 u)).set (k*6+1) (.int .i64 v)).set (k*6+2) (.int .u32 xc)).set (k*6+3) (.int .u32 0)).set (k*6+4) (.int .i64 ya)).set (k*6+5) (.int .i64 yb)
 have t2:=t.congr (U:=fun q=>if q<6*(k+1) then lv E (fun _=>0) (fun k=>lst E (frm E k) k) q else zl q) (fun q _=>by
  rw[updV6]
  exact line_eq he hya hyb q)
 clear t
 generalize (((((w4.setCell ⟨bl,k*6,none⟩ (.int .i64 u)).setCell ⟨bl,k*6+1,none⟩ (.int .i64 v)).setCell ⟨bl,k*6+2,none⟩ (.int .u32 xc)).setCell ⟨bl,k*6+3,none⟩ (.int .u32 0)).setCell ⟨bl,k*6+4,none⟩ (.int .i64 ya)).setCell ⟨bl,k*6+5,none⟩ (.int .i64 yb)=w5 at*
 have hk2:2*k+1+1=2*(k+1):=by omega
 have L5:Lw W w5 f bl b1 b2 b3 bq bp n m E (k+1) (2*(k+1)):=by
  rw[←hk2]
  exact⟨⟨(f1.block f (lt_of_block h.pp.hd) a1).trans h.pp.hd⟩,t2,h.fi.fr f1 (fun e=>a7 (Eq.symm e)),h.t2.fr f1 (fun e=>a8 (Eq.symm e)),h.t3.fr f1 (fun e=>a9 (Eq.symm e)),h.tq.fr f1 (fun e=>a10 (Eq.symm e)),h.tp.fr f1 (fun e=>a11 (Eq.symm e)),⟨f1.os.trans h.be.os,f1.tape.trans h.be.tape,f1.output.trans h.be.output,Nat.le_trans h.be.size f1.size,fun k hk=>(f1.block k (Nat.lt_of_lt_of_le hk h.be.size) (fun e=>absurd hlW (Nat.not_le.2 (e▸hk)))).trans (h.be.block k hk)⟩⟩
 exact⟨⟨L5.pp.hd⟩,L5.ln,L5.fi,L5.t2,L5.t3,L5.tq,L5.tp,L5.be.drew⟩
theorem six_cells{w:World}{g:Nat}{a b c d e f:Value}{t:TypeId}(hh:w.heap[g]? =some (.cells #[a,b,c,d,e,f] t)):w.cell? ⟨g,0,none⟩=some a∧w.cell? ⟨g,1,none⟩=some b∧w.cell? ⟨g,2,none⟩=some c∧w.cell? ⟨g,3,none⟩=some d∧w.cell? ⟨g,4,none⟩=some e∧w.cell? ⟨g,5,none⟩=some f:=by
 simp[World.cell?,hh]
set_option maxHeartbeats 3200000 in
set_option maxRecDepth 100000 in
theorem lay_any(N:Nat)(a:Option Addr)(l:List A)(cap:Nat)(w:World)(g:RN N (edl l))(hpo: ∀x,x∈l→0≤x.f∧0≤x.t)(hr:Arcs w a l):
  Calls Tryz.prog 144 #[.agg #[.int .i64 N, .slice a l.length cap]] w fun e w'=> ∃f bl b1 b2 b3 bq bp,e= .returned (.pointer (some ⟨f,0,none⟩))∧Apart f bl b1 b2 b3 bq bp∧St w' w' f bl b1 b2 b3 bq bp N l.length 0 (edl l) (fun _=>0)∧Below w.heap.size w w'∧(w.heap.size≤f∧w.heap.size≤bl∧w.heap.size≤b1∧w.heap.size≤b2∧w.heap.size≤b3∧w.heap.size≤bq∧w.heap.size≤bp):=by
 have hN:N≤1024:=g.nb
 have hm:l.length≤16384:=by have:=g.lb;rwa [edl_len] at this
 obtain⟨b,o,hab⟩: ∃b o,0<l.length→a=some ⟨b,o,none⟩∧b<w.heap.size∧∀j,j<l.length→(l.getD j A.zero).at w b (o+j*3):=by
  rcases hr with rfl | ⟨b,o,h⟩
  ·exact⟨0,0,fun h=>absurd h (by simp)⟩
  ·exact⟨b,o,fun _=>h⟩
 obtain⟨E,HE⟩:=named (edl l)
 have HEN:Hid (∀k,k<l.length→ed E k=⟨(l.getD k A.zero).f.toNat,(l.getD k A.zero).t.toNat,(l.getD k A.zero).w⟩):=fun k hk=>by rw[←HE.out];exact edl_at hk
 have HPO:=hid hpo
 have HG:=hid g
 have HAB:=hid hab
 have HBW:Hid (Below w.heap.size w (w.alloc (.cells #[.int .i64 N, .slice a l.length cap] 162))):=(Below.refl _ _).alloc (Nat.le_refl _) _
 obtain⟨m,HMl⟩:=named l.length
 rw[HMl.out] at hm HEN HAB HBW ⊢
 rw[HE.out] at HG
 rw[HE.out]
 clear hr g hpo hab
 obtain⟨i3,hi3,hz3,hs3,hb3⟩:=info_parts info3
 obtain⟨i67,hi67,hz67,hs67,hb67⟩:=info_parts info67
 have hg:=heap_top w (.cells #[.int .i64 N, .slice a m cap] 162)
 have hmkN: ∀w,(Instr.makeSlice 25 (.int .i64 N) (.int .i64 N)).run Tryz.prog w= .ok (.slice (some ⟨w.heap.size,0,none⟩) N N) (w.alloc (.cells ((List.range N).map (fun _=>Value.int .i64 0)).toArray 3)):=fun w=>by
  have:=run_make (P:=Tryz.prog) w 25 3 i3 (.int .i64 0) Tryz.underlying25 hi3 hz3 .i64 .i64 N N (by omega) (by omega) (by rw[hb3];omega) (by omega)
  rw[this,Int.toNat_natCast,hs3,made_int]
 have hmk0: ∀w,(Instr.makeSlice 25 (.int .i64 0) (.int .i64 N)).run Tryz.prog w= .ok (.slice (some ⟨w.heap.size,0,none⟩) 0 N) (w.alloc (.cells ((List.range N).map (fun _=>Value.int .i64 0)).toArray 3)):=fun w=>by
  have:=run_make (P:=Tryz.prog) w 25 3 i3 (.int .i64 0) Tryz.underlying25 hi3 hz3 .i64 .i64 0 N (by omega) (by omega) (by rw[hb3];omega) (by omega)
  rw[this,Int.toNat_natCast,hs3,made_int]
  rfl
 have hmk3: ∀w,(Instr.makeSlice 230 (.int .i64 m) (.int .i64 m)).run Tryz.prog w= .ok (.slice (some ⟨w.heap.size,0,none⟩) m m) (w.alloc (.cells ((List.range (m*6)).map zl).toArray 236)):=fun w=>by
  have:=run_make (P:=Tryz.prog) w 230 236 i67 _ Tryz.underlying230 hi67 hz67 .i64 .i64 m m (by omega) (by omega) (by rw[hb67];omega) (by omega)
  rw[this,Int.toNat_natCast,hs67,made_lines]
 generalize hp:w.heap.size=p at*
 go_enter Tryz.func144,Tryz.ntmps144
 go_wp2_with fail
 generalize hW:w.alloc (.cells #[.int .i64 N, .slice a m cap] 162)=W at*
 go_cut [3] (fun s3 wc=> ∃f bl b1 b2 b3 bq bp,s3= .pointer (some ⟨f,0,none⟩)∧Hid (Made W wc f bl b1 b2 b3 bq bp N m))
 case first=>
  refine wp_region_inv (by kernel_rfl) (fun L A w=> ∃U B,A=fr27 (.agg #[.int .i64 N, .slice a m cap]) (.pointer (some ⟨p,0,none⟩)) U∧I27 W p a N m cap U B L w) ?_ ?_ ?_
  ·exact⟨fun _=>undef,fun _=>0,rfl,I27.start p a N m cap⟩
  ·rintro L A w1 i o ⟨U,B,rfl,hI⟩ hr ho
   obtain⟨h1,o',h2,h3⟩:=mem_ready.1 hr
   obtain rfl:o=o':=by rw[ho] at h2;exact Option.some.inj h2
   have hi:i<22:=by
    have:=(Array.getElem?_eq_some_iff.1 ho).1
    simpa using this
   have gb:w1.heap[p]? =some (.cells #[.int .i64 N, .slice a m cap] 162):=(hI.below.block p (lt_of_block hg)).trans hg
   obtain⟨⟨g0,g1⟩,gf0,gf1⟩:=two_cells gb
   have ev1:(fr27 (.agg #[.int .i64 N, .slice a m cap]) (.pointer (some ⟨p,0,none⟩)) U).eval (.tmp 1)= .pointer (some ⟨p,0,none⟩):=rfl
   clear hr h2 gb gf0 gf1
   have hc:i=0∨i=1∨i=2∨i=3∨i=4∨i=5∨i=6∨i=7∨i=8∨i=9∨i=10∨i=11∨i=12∨i=13∨i=14∨i=15∨i=16∨i=17∨i=18∨i=19∨i=20∨i=21:=by omega
   rcases hc with rfl | rfl | rfl | rfl | rfl | rfl | rfl | rfl | rfl | rfl | rfl | rfl | rfl | rfl | rfl | rfl | rfl | rfl | rfl | rfl | rfl | rfl
   ·obtain rfl:=Option.some.inj ho
    refine wpOp_val (v:=v27 p a N m cap B 0) (w':=w1) rfl rfl (by intro ρ hρ;rw[hρ] at ev1;simp[execOp,go_sem,v27,ev1]) ⟨_,_,fr27_put _ _ U _ 9 (by omega),hI.quiet (i:=0) (by decide) rfl (fun h=>by cases h) (fun h=>by cases h)⟩
   ·obtain rfl:=Option.some.inj ho
    have e0:U 9= .pointer (some ⟨p,1,none⟩):=hI.vals 0 (by decide) (h3 ⟨0, .data⟩ (by simp) rfl)
    rw[←fr27_eval (.agg #[.int .i64 N, .slice a m cap]) (.pointer (some ⟨p,0,none⟩)) U 9 (by omega)] at e0
    refine wpOp_val (v:=v27 p a N m cap B 1) (w':=w1) rfl rfl (by intro ρ hρ;rw[hρ] at e0;simp[execOp,go_sem,g1,v27,e0]) ⟨_,_,fr27_put _ _ U _ 10 (by omega),hI.quiet (i:=1) (by decide) rfl (fun h=>by cases h) (fun h=>by cases h)⟩
   ·obtain rfl:=Option.some.inj ho
    have e1:U 10= .slice a m cap:=hI.vals 1 (by decide) (h3 ⟨1, .data⟩ (by simp) rfl)
    rw[←fr27_eval (.agg #[.int .i64 N, .slice a m cap]) (.pointer (some ⟨p,0,none⟩)) U 10 (by omega)] at e1
    refine wpOp_val (v:=v27 p a N m cap B 2) (w':=w1) rfl rfl (by intro ρ hρ;rw[hρ] at e1;simp[execOp,go_sem,v27,e1]) ⟨_,_,fr27_put _ _ U _ 11 (by omega),hI.quiet (i:=2) (by decide) rfl (fun h=>by cases h) (fun h=>by cases h)⟩
   ·obtain rfl:=Option.some.inj ho
    have e2:U 11= .int .i64 m:=hI.vals 2 (by decide) (h3 ⟨2, .data⟩ (by simp) rfl)
    rw[←fr27_eval (.agg #[.int .i64 N, .slice a m cap]) (.pointer (some ⟨p,0,none⟩)) U 11 (by omega)] at e2
    refine wpOp_val rfl rfl (by intro ρ hρ;have hc:=fun v=>(hρ (.const v)).symm;rw[hρ] at e2;simp[execOp,go_sem,Act.eval,hc,e2,hmk3] at hc ⊢;try exact⟨rfl,rfl⟩) ⟨_,_,fr27_put _ _ U _ 12 (by omega),hI.make (i:=3) (by decide) rfl h1 (fun h=>by cases h) _ rfl _ rfl⟩
   ·obtain rfl:=Option.some.inj ho
    refine wpOp_val (v:=v27 p a N m cap B 4) (w':=w1) rfl rfl (by intro ρ hρ;rw[hρ] at ev1;simp[execOp,go_sem,v27,ev1]) ⟨_,_,fr27_put _ _ U _ 13 (by omega),hI.quiet (i:=4) (by decide) rfl (fun h=>by cases h) (fun h=>by cases h)⟩
   ·obtain rfl:=Option.some.inj ho
    have e4:U 13= .pointer (some ⟨p,0,none⟩):=hI.vals 4 (by decide) (h3 ⟨4, .data⟩ (by simp) rfl)
    rw[←fr27_eval (.agg #[.int .i64 N, .slice a m cap]) (.pointer (some ⟨p,0,none⟩)) U 13 (by omega)] at e4
    refine wpOp_val (v:=v27 p a N m cap B 5) (w':=w1) rfl rfl (by intro ρ hρ;rw[hρ] at e4;simp[execOp,go_sem,g0,v27,e4]) ⟨_,_,fr27_put _ _ U _ 14 (by omega),hI.quiet (i:=5) (by decide) rfl (fun h=>by cases h) (fun h=>by cases h)⟩
   ·obtain rfl:=Option.some.inj ho
    have e5:U 14= .int .i64 N:=hI.vals 5 (by decide) (h3 ⟨5, .data⟩ (by simp) rfl)
    rw[←fr27_eval (.agg #[.int .i64 N, .slice a m cap]) (.pointer (some ⟨p,0,none⟩)) U 14 (by omega)] at e5
    refine wpOp_val rfl rfl (by intro ρ hρ;have hc:=fun v=>(hρ (.const v)).symm;rw[hρ] at e5;simp[execOp,go_sem,Act.eval,hc,e5,hmkN] at hc ⊢;try exact⟨rfl,rfl⟩) ⟨_,_,fr27_put _ _ U _ 15 (by omega),hI.make (i:=6) (by decide) rfl h1 (fun h=>by cases h) _ rfl _ rfl⟩
   ·obtain rfl:=Option.some.inj ho
    refine wpOp_val (v:=v27 p a N m cap B 7) (w':=w1) rfl rfl (by intro ρ hρ;rw[hρ] at ev1;simp[execOp,go_sem,v27,ev1]) ⟨_,_,fr27_put _ _ U _ 16 (by omega),hI.quiet (i:=7) (by decide) rfl (fun h=>by cases h) (fun h=>by cases h)⟩
   ·obtain rfl:=Option.some.inj ho
    have e7:U 16= .pointer (some ⟨p,0,none⟩):=hI.vals 7 (by decide) (h3 ⟨7, .data⟩ (by simp) rfl)
    rw[←fr27_eval (.agg #[.int .i64 N, .slice a m cap]) (.pointer (some ⟨p,0,none⟩)) U 16 (by omega)] at e7
    refine wpOp_val (v:=v27 p a N m cap B 8) (w':=w1) rfl rfl (by intro ρ hρ;rw[hρ] at e7;simp[execOp,go_sem,g0,v27,e7]) ⟨_,_,fr27_put _ _ U _ 17 (by omega),hI.quiet (i:=8) (by decide) rfl (fun h=>by cases h) (fun h=>by cases h)⟩
   ·obtain rfl:=Option.some.inj ho
    have e8:U 17= .int .i64 N:=hI.vals 8 (by decide) (h3 ⟨8, .data⟩ (by simp) rfl)
    rw[←fr27_eval (.agg #[.int .i64 N, .slice a m cap]) (.pointer (some ⟨p,0,none⟩)) U 17 (by omega)] at e8
    refine wpOp_val rfl rfl (by intro ρ hρ;have hc:=fun v=>(hρ (.const v)).symm;rw[hρ] at e8;simp[execOp,go_sem,Act.eval,hc,e8,hmkN] at hc ⊢;try exact⟨rfl,rfl⟩) ⟨_,_,fr27_put _ _ U _ 18 (by omega),hI.make (i:=9) (by decide) rfl h1 (fun h=>by cases h) _ rfl _ rfl⟩
   ·obtain rfl:=Option.some.inj ho
    refine wpOp_val (v:=v27 p a N m cap B 10) (w':=w1) rfl rfl (by intro ρ hρ;rw[hρ] at ev1;simp[execOp,go_sem,v27,ev1]) ⟨_,_,fr27_put _ _ U _ 19 (by omega),hI.quiet (i:=10) (by decide) rfl (fun h=>by cases h) (fun h=>by cases h)⟩
   ·obtain rfl:=Option.some.inj ho
    have e10:U 19= .pointer (some ⟨p,0,none⟩):=hI.vals 10 (by decide) (h3 ⟨10, .data⟩ (by simp) rfl)
    rw[←fr27_eval (.agg #[.int .i64 N, .slice a m cap]) (.pointer (some ⟨p,0,none⟩)) U 19 (by omega)] at e10
    refine wpOp_val (v:=v27 p a N m cap B 11) (w':=w1) rfl rfl (by intro ρ hρ;rw[hρ] at e10;simp[execOp,go_sem,g0,v27,e10]) ⟨_,_,fr27_put _ _ U _ 20 (by omega),hI.quiet (i:=11) (by decide) rfl (fun h=>by cases h) (fun h=>by cases h)⟩
   ·obtain rfl:=Option.some.inj ho
    have e11:U 20= .int .i64 N:=hI.vals 11 (by decide) (h3 ⟨11, .data⟩ (by simp) rfl)
    rw[←fr27_eval (.agg #[.int .i64 N, .slice a m cap]) (.pointer (some ⟨p,0,none⟩)) U 20 (by omega)] at e11
    refine wpOp_val rfl rfl (by intro ρ hρ;have hc:=fun v=>(hρ (.const v)).symm;rw[hρ] at e11;simp[execOp,go_sem,Act.eval,hc,e11,hmkN] at hc ⊢;try exact⟨rfl,rfl⟩) ⟨_,_,fr27_put _ _ U _ 21 (by omega),hI.make (i:=12) (by decide) rfl h1 (fun h=>by cases h) _ rfl _ rfl⟩
   ·obtain rfl:=Option.some.inj ho
    refine wpOp_val (v:=v27 p a N m cap B 13) (w':=w1) rfl rfl (by intro ρ hρ;rw[hρ] at ev1;simp[execOp,go_sem,v27,ev1]) ⟨_,_,fr27_put _ _ U _ 22 (by omega),hI.quiet (i:=13) (by decide) rfl (fun h=>by cases h) (fun h=>by cases h)⟩
   ·obtain rfl:=Option.some.inj ho
    have e13:U 22= .pointer (some ⟨p,0,none⟩):=hI.vals 13 (by decide) (h3 ⟨13, .data⟩ (by simp) rfl)
    rw[←fr27_eval (.agg #[.int .i64 N, .slice a m cap]) (.pointer (some ⟨p,0,none⟩)) U 22 (by omega)] at e13
    refine wpOp_val (v:=v27 p a N m cap B 14) (w':=w1) rfl rfl (by intro ρ hρ;rw[hρ] at e13;simp[execOp,go_sem,g0,v27,e13]) ⟨_,_,fr27_put _ _ U _ 23 (by omega),hI.quiet (i:=14) (by decide) rfl (fun h=>by cases h) (fun h=>by cases h)⟩
   ·obtain rfl:=Option.some.inj ho
    have e14:U 23= .int .i64 N:=hI.vals 14 (by decide) (h3 ⟨14, .data⟩ (by simp) rfl)
    rw[←fr27_eval (.agg #[.int .i64 N, .slice a m cap]) (.pointer (some ⟨p,0,none⟩)) U 23 (by omega)] at e14
    refine wpOp_val rfl rfl (by intro ρ hρ;have hc:=fun v=>(hρ (.const v)).symm;rw[hρ] at e14;simp[execOp,go_sem,Act.eval,hc,e14,hmk0] at hc ⊢;try exact⟨rfl,rfl⟩) ⟨_,_,fr27_put _ _ U _ 24 (by omega),hI.make (i:=15) (by decide) rfl h1 (fun h=>by cases h) _ rfl _ rfl⟩
   ·obtain rfl:=Option.some.inj ho
    refine wpOp_val (v:=v27 p a N m cap B 16) (w':=w1) rfl rfl (by intro ρ hρ;rw[hρ] at ev1;simp[execOp,go_sem,v27,ev1]) ⟨_,_,fr27_put _ _ U _ 25 (by omega),hI.quiet (i:=16) (by decide) rfl (fun h=>by cases h) (fun h=>by cases h)⟩
   ·obtain rfl:=Option.some.inj ho
    have e16:U 25= .pointer (some ⟨p,0,none⟩):=hI.vals 16 (by decide) (h3 ⟨16, .data⟩ (by simp) rfl)
    rw[←fr27_eval (.agg #[.int .i64 N, .slice a m cap]) (.pointer (some ⟨p,0,none⟩)) U 25 (by omega)] at e16
    refine wpOp_val (v:=v27 p a N m cap B 17) (w':=w1) rfl rfl (by intro ρ hρ;rw[hρ] at e16;simp[execOp,go_sem,g0,v27,e16]) ⟨_,_,fr27_put _ _ U _ 26 (by omega),hI.quiet (i:=17) (by decide) rfl (fun h=>by cases h) (fun h=>by cases h)⟩
   ·obtain rfl:=Option.some.inj ho
    have e17:U 26= .int .i64 N:=hI.vals 17 (by decide) (h3 ⟨17, .data⟩ (by simp) rfl)
    rw[←fr27_eval (.agg #[.int .i64 N, .slice a m cap]) (.pointer (some ⟨p,0,none⟩)) U 26 (by omega)] at e17
    refine wpOp_val rfl rfl (by intro ρ hρ;have hc:=fun v=>(hρ (.const v)).symm;rw[hρ] at e17;simp[execOp,go_sem,Act.eval,hc,e17,hmk0] at hc ⊢;try exact⟨rfl,rfl⟩) ⟨_,_,fr27_put _ _ U _ 27 (by omega),hI.make (i:=18) (by decide) rfl h1 (fun h=>by cases h) _ rfl _ rfl⟩
   ·obtain rfl:=Option.some.inj ho
    have e3:U 12= .slice (some ⟨B 3,0,none⟩) m m:=hI.vals 3 (by decide) (h3 ⟨3, .data⟩ (by simp) rfl)
    rw[←fr27_eval (.agg #[.int .i64 N, .slice a m cap]) (.pointer (some ⟨p,0,none⟩)) U 12 (by omega)] at e3
    have e6:U 15= .slice (some ⟨B 6,0,none⟩) N N:=hI.vals 6 (by decide) (h3 ⟨6, .data⟩ (by simp) rfl)
    rw[←fr27_eval (.agg #[.int .i64 N, .slice a m cap]) (.pointer (some ⟨p,0,none⟩)) U 15 (by omega)] at e6
    have e9:U 18= .slice (some ⟨B 9,0,none⟩) N N:=hI.vals 9 (by decide) (h3 ⟨9, .data⟩ (by simp) rfl)
    rw[←fr27_eval (.agg #[.int .i64 N, .slice a m cap]) (.pointer (some ⟨p,0,none⟩)) U 18 (by omega)] at e9
    have e12:U 21= .slice (some ⟨B 12,0,none⟩) N N:=hI.vals 12 (by decide) (h3 ⟨12, .data⟩ (by simp) rfl)
    rw[←fr27_eval (.agg #[.int .i64 N, .slice a m cap]) (.pointer (some ⟨p,0,none⟩)) U 21 (by omega)] at e12
    have e15:U 24= .slice (some ⟨B 15,0,none⟩) 0 N:=hI.vals 15 (by decide) (h3 ⟨15, .data⟩ (by simp) rfl)
    rw[←fr27_eval (.agg #[.int .i64 N, .slice a m cap]) (.pointer (some ⟨p,0,none⟩)) U 24 (by omega)] at e15
    have e18:U 27= .slice (some ⟨B 18,0,none⟩) 0 N:=hI.vals 18 (by decide) (h3 ⟨18, .data⟩ (by simp) rfl)
    rw[←fr27_eval (.agg #[.int .i64 N, .slice a m cap]) (.pointer (some ⟨p,0,none⟩)) U 27 (by omega)] at e18
    refine wpOp_val (v:=v27 p a N m cap B 19) (w':=w1) rfl rfl (by intro ρ hρ;rw[hρ] at e3 e6 e9 e12 e15 e18;simp[execOp,go_sem,v27,e3,e6,e9,e12,e15,e18]) ⟨_,_,fr27_put _ _ U _ 28 (by omega),hI.quiet (i:=19) (by decide) rfl (fun _=>⟨h3 ⟨3, .data⟩ (by simp) rfl,h3 ⟨6, .data⟩ (by simp) rfl,h3 ⟨9, .data⟩ (by simp) rfl,h3 ⟨12, .data⟩ (by simp) rfl,h3 ⟨15, .data⟩ (by simp) rfl,h3 ⟨18, .data⟩ (by simp) rfl⟩) (fun h=>by cases h)⟩
   ·obtain rfl:=Option.some.inj ho
    have e19:U 28= .agg #[.slice (some ⟨B 3,0,none⟩) m m, .slice (some ⟨B 6,0,none⟩) N N, .slice (some ⟨B 9,0,none⟩) N N, .slice (some ⟨B 12,0,none⟩) N N, .slice (some ⟨B 15,0,none⟩) 0 N, .slice (some ⟨B 18,0,none⟩) 0 N, .int .u32 0]:=hI.vals 19 (by decide) (h3 ⟨19, .data⟩ (by simp) rfl)
    rw[←fr27_eval (.agg #[.int .i64 N, .slice a m cap]) (.pointer (some ⟨p,0,none⟩)) U 28 (by omega)] at e19
    refine wpOp_val rfl rfl (by intro ρ hρ;rw[hρ] at e19;simp[execOp,go_sem,e19];try exact⟨rfl,rfl⟩) ⟨_,_,fr27_put _ _ U _ 29 (by omega),hI.make (i:=20) (by decide) rfl h1 (fun _=>h3 ⟨19, .data⟩ (by simp) rfl) _ rfl _ rfl⟩
   ·obtain rfl:=Option.some.inj ho
    have e20:U 29= .pointer (some ⟨B 20,0,none⟩):=hI.vals 20 (by decide) (h3 ⟨20, .data⟩ (by simp) rfl)
    rw[←fr27_eval (.agg #[.int .i64 N, .slice a m cap]) (.pointer (some ⟨p,0,none⟩)) U 29 (by omega)] at e20
    refine wpOp_val (v:=v27 p a N m cap B 21) (w':=w1) rfl rfl (by intro ρ hρ;rw[hρ] at e20;simp[execOp,go_sem,v27,e20]) ⟨_,_,fr27_put _ _ U _ 3 (by omega),hI.quiet (i:=21) (by decide) rfl (fun h=>by cases h) (fun _=>h3 ⟨20, .data⟩ (by simp) rfl)⟩
  ·rintro L A w1 ⟨U,B,rfl,hI⟩ hr
   obtain⟨e3,hM⟩:=hI.ended (all_on (by decide+kernel) hI.sz hr)
   have HM:=hid hM
   clear hI hM hr
   unfold fr27
   rw[e3]
   go_wp2_with fail
   go_meet
   case rel=>exact⟨B 20,B 3,B 6,B 9,B 12,B 15,B 18,rfl,HM⟩
 case rest=>
  obtain⟨f,bl,b1,b2,b3,bq,bp,rfl,HM⟩:=hcut
  have hd:=HM.out.pp.hd
  obtain⟨c0,c1,c2,c3,c4,c5,c6⟩:=seven_cells hd
  have HS:=hid (setAll_any HM.out.t1 (fun v=>⟨_,rfl⟩) (by omega) (-1))
  clear hd hmkN hmk0 hmk3
  go_wp2_with fail
  refine HS.out.mono ?_
  rintro e w1 ⟨rfl,t1,f1⟩
  have hpW:p<W.heap.size:=lt_of_block hg
  have hnd:=HM.out.ap.nd
  simp only[List.nodup_cons,List.mem_cons,not_or,List.not_mem_nil,List.nodup_nil,not_false_eq_true,and_true] at hnd
  obtain⟨⟨a1,a2,a3,a4,a5,a6⟩,⟨a7,a8,a9,a10,a11⟩,⟨a12,a13,a14,a15⟩,⟨a16,a17,a18⟩,⟨a19,a20⟩,a21⟩:=hnd
  have HL0:Hid (Lw W w1 f bl b1 b2 b3 bq bp N m E 0 0):=by
   have hM:=HM.out
   refine⟨⟨(f1.block f (lt_of_block hM.pp.hd) a2).trans hM.pp.hd⟩,(hM.ln.fr f1 a7).congr (fun v _=>by simp),t1.congr (fun v _=>rfl),hM.t2.fr f1 (fun e=>a12 e.symm),hM.t3.fr f1 (fun e=>a13 e.symm),hM.tq.fr f1 (fun e=>a14 e.symm),hM.tp.fr f1 (fun e=>a15 e.symm),?_⟩
   exact⟨f1.os.trans hM.be.os,f1.tape.trans hM.be.tape,f1.output.trans hM.be.output,Nat.le_trans hM.be.size f1.size,fun k hk=>(f1.block k (Nat.lt_of_lt_of_le hk hM.be.size) (fun e=>absurd hM.lo.2.2.1 (Nat.not_le.2 (e▸hk)))).trans (hM.be.block k hk)⟩
  have gb:w1.heap[p]? =some (.cells #[.int .i64 N, .slice a m cap] 162):=(HL0.out.be.block p hpW).trans hg
  obtain⟨⟨g0,g1⟩,gf0,gf1⟩:=two_cells gb
  clear t1 f1 c0 c1 c2 c3 c4 c5 c6 HS
  go_wp2_with fail
  go_loopw [38] (fun i wr=> ∃k:Nat,k≤m∧i= .int .i64 k∧Hid (Lw W wr f bl b1 b2 b3 bq bp N m E k (2*k))) (fun i _=>m - (intOf i).toNat)
  case atStart=>exact⟨0,Nat.zero_le _,rfl,HL0⟩
  case round=>
   clear HL0 g0 g1 gf0 gf1 gb
   obtain⟨k,hk,rfl,HL⟩:=hrel
   by_cases hlt:k<m
   ·obtain⟨rfl,hbl,hat⟩:=HAB.out (by omega)
    obtain⟨x0,x1,x2⟩:=(hat k hlt).on (w':=W) (by rw[hp];exact HBW.out)
    have xb:b<W.heap.size:=by omega
    have y0:=(HL.out.be.cell (p:=⟨b,o+k*3,none⟩) xb).trans x0
    have y1:=(HL.out.be.cell (p:=⟨b,o+k*3+1,none⟩) xb).trans x1
    have y2:=(HL.out.be.cell (p:=⟨b,o+k*3+2,none⟩) xb).trans x2
    have hxe:=HEN.out k hlt
    have hxp:=HPO.out (l.getD k A.zero) (by
     have hk2:k<l.length:=by rw[HMl.out];exact hlt
     simp[List.getD,List.getElem?_eq_getElem hk2])
    have hxn:=HG.out.ends k (by rw[←HE.out,edl_len,HMl.out];exact hlt)
    rw[hxe] at hxn
    generalize l.getD k A.zero=x at*
    obtain⟨u,hu⟩: ∃u:Nat,x.f=(u:Int):=⟨x.f.toNat,by omega⟩
    obtain⟨v,hv⟩: ∃v:Nat,x.t=(v:Int):=⟨x.t.toNat,by omega⟩
    rw[hu,hv] at hxe hxn
    simp only[Int.toNat_natCast] at hxe hxn
    rw[hu] at y0
    rw[hv] at y1
    have HXE:=hid hxe
    obtain⟨hun,hvn⟩:=hxn
    clear x0 x1 x2 hxp hat hxe hu hv
    generalize x.w=xc at*
    go_wp2_with fail
    have hB:Below wr.heap.size wr ((wr.alloc (.cells #[.int .i64 u, .int .i64 v, .int .u32 xc] 184)).alloc (.cells #[.int .i64 u, .int .i64 v, .int .u32 xc, .int .u32 0, .int .i64 0, .int .i64 0] 236)):=((Below.refl _ _).alloc (Nat.le_refl _) _).alloc (by simp) _
    have HQ:=hid (heap_top (wr.alloc (.cells #[.int .i64 u, .int .i64 v, .int .u32 xc] 184)) (.cells #[.int .i64 u, .int .i64 v, .int .u32 xc, .int .u32 0, .int .i64 0, .int .i64 0] 236))
    rw[show(wr.alloc (.cells #[.int .i64 u, .int .i64 v, .int .u32 xc] 184)).heap.size=wr.heap.size+1 by simp] at HQ
    have HL2:=hid (HL.out.on hB)
    have q1:=lt_of_block HL.out.pp.hd
    have q2:=HL.out.fi.lt
    have q3:=HL.out.ln.lt
    have q4:=HL.out.t2.lt
    have q5:=HL.out.t3.lt
    have q6:=HL.out.tq.lt
    have q7:=HL.out.tp.lt
    have q8:=HL.out.be.size
    generalize hq:wr.heap.size+1=q at*
    generalize (wr.alloc (.cells #[.int .i64 u, .int .i64 v, .int .u32 xc] 184)).alloc (.cells #[.int .i64 u, .int .i64 v, .int .u32 xc, .int .u32 0, .int .i64 0, .int .i64 0] 236)=W2 at*
    have nq:f≠q∧bl≠q∧b1≠q∧b2≠q∧b3≠q∧bq≠q∧bp≠q:=⟨ltq hq q1,ltq hq q3,ltq hq q2,ltq hq q4,ltq hq q5,ltq hq q6,ltq hq q7⟩
    have HNQ:=hid nq
    have hWq:W.heap.size≤q:=Nat.le_trans q8 (by rw[←hq];exact Nat.le_succ _)
    obtain⟨n2,n3,n1,_⟩:=nq
    have n4:=n1.symm
    have n5:=n2.symm
    have n6:=n3.symm
    clear hB y0 y1 y2 HL hq
    obtain⟨c0,c1,c2,c3,c4,c5,c6⟩:=seven_cells HL2.out.pp.hd
    obtain⟨z0,z1,z2,z3,z4,z5⟩:=six_cells HQ.out
    have d:=HL2.out.fi.cell hun
    have df:=HL2.out.fi.free u
    have zf:W2.frozen? ⟨q,4,none⟩=false:=by have:=HQ.out;simp[World.frozen?,this]
    obtain⟨ya,HYA⟩:=named (lst E u (2*k))
    rw[HYA.out] at d
    have hun':(u:Int)<N:=by omega
    have hvn':(v:Int)<N:=by omega
    have ix0: ∀w:World,(Instr.index 233 (.agg #[.int .i64 (u:Int), .int .i64 (v:Int)]) (.int .i64 0)).run Tryz.prog w= .ok (.int .i64 u) w:=fun _=>by kernel_rfl
    have ix1: ∀w:World,(Instr.index 233 (.agg #[.int .i64 (u:Int), .int .i64 (v:Int)]) (.int .i64 1)).run Tryz.prog w= .ok (.int .i64 v) w:=fun _=>by kernel_rfl
    refine wp_loop_rounds 3 ?_
    rw[rounds_succ]
    go_wp2_with fail
    have hfu:frm E (2*k)=u:=by unfold frm;rw[if_pos (by omega),show 2*k / 2=k by omega,HXE.out]
    have hfv:frm E (2*k+1)=v:=by unfold frm;rw[if_neg (by omega),show(2*k+1) / 2=k by omega,HXE.out]
    have HFU:=hid hfu
    have HFV:=hid hfv
    obtain⟨r1,r2⟩:=HL2.out.way (j:=4) (y:= .int .i64 ya) HM.out.ap HQ.out hWq HM.out.lo.2.2.1 HNQ.out hfu
    rw[show(((2*k:Nat):Nat):Int)=2*(k:Int) by omega] at r1 r2
    have HL3:=hid r1
    have HQ3:Hid (((W2.setCell ⟨q,4,none⟩ (.int .i64 ya)).setCell ⟨b1,u,none⟩ (.int .i64 (2*(k:Int)))).heap[q]? =some (.cells #[.int .i64 u, .int .i64 v, .int .u32 xc, .int .u32 0, .int .i64 ya, .int .i64 0] 236)):=by show _=_;rw[r2];simp
    clear r1 r2 hfu hfv d df zf z0 z1 z2 z3 z4 z5 c0 c1 c2 c3 c4 c5 c6 HL2 HQ
    generalize (W2.setCell ⟨q,4,none⟩ (.int .i64 ya)).setCell ⟨b1,u,none⟩ (.int .i64 (2*(k:Int)))=W3 at*
    obtain⟨c0,c1,c2,c3,c4,c5,c6⟩:=seven_cells HL3.out.pp.hd
    obtain⟨z0,z1,z2,z3,z4,z5⟩:=six_cells HQ3.out
    have d:=HL3.out.fi.cell hvn
    have df:=HL3.out.fi.free v
    have zf:W3.frozen? ⟨q,5,none⟩=false:=by have:=HQ3.out;simp[World.frozen?,this]
    obtain⟨yb,HYB⟩:=named (lst E v (2*k+1))
    rw[HYB.out] at d
    rw[rounds_succ]
    go_wp2_with fail
    obtain⟨r1,r2⟩:=HL3.out.way (j:=5) (y:= .int .i64 yb) HM.out.ap HQ3.out hWq HM.out.lo.2.2.1 HNQ.out HFV.out
    rw[show(((2*k+1:Nat):Nat):Int)=2*(k:Int)+1 by omega] at r1 r2
    have HL4:=hid r1
    have HQ4:Hid (((W3.setCell ⟨q,5,none⟩ (.int .i64 yb)).setCell ⟨b1,v,none⟩ (.int .i64 (2*(k:Int)+1))).heap[q]? =some (.cells #[.int .i64 u, .int .i64 v, .int .u32 xc, .int .u32 0, .int .i64 ya, .int .i64 yb] 236)):=by show _=_;rw[r2];simp
    clear r1 r2 d df zf z0 z1 z2 z3 z4 z5 c0 c1 c2 c3 c4 c5 c6 HL3 HQ3
    generalize (W3.setCell ⟨q,5,none⟩ (.int .i64 yb)).setCell ⟨b1,v,none⟩ (.int .i64 (2*(k:Int)+1))=W4 at*
    obtain⟨c0,c1,c2,c3,c4,c5,c6⟩:=seven_cells HL4.out.pp.hd
    obtain⟨z0,z1,z2,z3,z4,z5⟩:=six_cells HQ4.out
    rw[rounds_succ]
    go_wp2_with fail
    have HKM:Hid (k<m):=hlt
    have kk: ∀j,j<6→W4.cell? ⟨bl,k*6+j,none⟩=some (zl (k*6+j)):=fun j hj=>(HL4.out.ln.cell (v:=k*6+j) (lay_in HKM.out hj)).trans (by rw[if_neg (lay_off hj)])
    have kf: ∀j,W4.frozen? ⟨bl,k*6+j,none⟩=false:=fun j=>HL4.out.ln.free _
    have e0:=kk 0 (by decide)
    have e1:=kk 1 (by decide)
    have e2:=kk 2 (by decide)
    have e3:=kk 3 (by decide)
    have e4:=kk 4 (by decide)
    have e5:=kk 5 (by decide)
    have g0:=kf 0
    have g1:=kf 1
    have g2:=kf 2
    have g3:=kf 3
    have g4:=kf 4
    have g5:=kf 5
    rw[Nat.add_zero] at e0 g0
    clear kk kf
    generalize zl (k*6)=s0 at*
    generalize zl (k*6+1)=s1 at*
    generalize zl (k*6+2)=s2 at*
    generalize zl (k*6+3)=s3 at*
    generalize zl (k*6+4)=s4 at*
    generalize zl (k*6+5)=s5 at*
    have hkm:(k:Int)<m:=by omega
    go_region
    have HL5:=hid (HL4.out.line HM.out.ap HM.out.lo.2.1 HKM.out HXE.out HYA.out HYB.out)
    clear e0 e1 e2 e3 e4 e5 g0 g1 g2 g3 g4 g5 z0 z1 z2 z3 z4 z5 c0 c1 c2 c3 c4 c5 c6 HL4 HQ4
    go_wp2_with fail
    exact⟨⟨k+1,hlt,by go_num,HL5⟩,by simp[intOf];omega⟩
   ·obtain rfl:k=m:=by omega
    go_wp2_with fail
    go_ret
    have hl:=HL.out
    have hlo:=HM.out.lo
    have hpl:p≤W.heap.size:=Nat.le_of_lt hpW
    exact⟨f,bl,b1,b2,b3,bq,bp,rfl,HM.out.ap,⟨⟨hl.pp,hl.ln.congr (fun q hq=>if_pos (by omega)),hl.fi⟩,⟨fun _=>0,hl.t2⟩,⟨fun _=>0,hl.t3⟩,⟨_,hl.tq,fun v=>⟨0,rfl⟩,fun j h=>absurd h (Nat.not_lt_zero _)⟩,⟨_,hl.tp,fun v=>⟨0,rfl⟩,fun j h=>absurd h (Nat.not_lt_zero _)⟩,Fr.refl _ _⟩,HBW.out.trans (hl.be.mono hpl),Nat.le_trans hpl hlo.1,Nat.le_trans hpl hlo.2.1,Nat.le_trans hpl hlo.2.2.1,Nat.le_trans hpl hlo.2.2.2.1,Nat.le_trans hpl hlo.2.2.2.2.1,Nat.le_trans hpl hlo.2.2.2.2.2.1,Nat.le_trans hpl hlo.2.2.2.2.2.2⟩
end Go.Proofs.YtmenajiceaicpaaGreat.F6
