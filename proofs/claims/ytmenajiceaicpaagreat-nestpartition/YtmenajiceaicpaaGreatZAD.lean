import Derived.Test.YtmenajiceaicpaaGreatZAC
import Derived.Maps.OwnIn
open Go.Lib (hid)
namespace Go.Proofs.YtmenajiceaicpaaGreat
open Go.RowKit Go.Shelf
theorem fr_grown{w w':World}{r:Nat}(h:w.grownBy w' (some r)):Fr (fun j=>j=r) w w':=⟨h.os,h.tape,h.output,h.size,fun k hk hn=>h.block k hk (fun e=>hn (Option.some.inj e))⟩
theorem fr_put(W:World)(r:Nat)(o:Obj):Fr (fun j=>j=r) W (W.putObj r o):=fr_grown (grownBy_putObj' W r o)
def rPost(r:Nat)(I I2:List Nat→Option Nat→World→Prop)(Cx:Code→List Nat→Prop)(xs:List Nat)(ρ:Option Nat)(W:World):Exit→Act→World→Prop
 | .normal,_,W'=> ∃ρ',I xs ρ' W'∧Fr (fun j=>j=r∨some j=ρ) W W'∧(ρ'=ρ∨∃b,ρ'=some b∧W.heap.size≤b)
 | .exit id,_,W'=> ∃ρ',I2 xs ρ' W'∧Fr (fun j=>j=r∨some j=ρ) W W'∧(ρ'=ρ∨∃b,ρ'=some b∧W.heap.size≤b)∧Cx (.exit id) xs
 | _,_,_=>False
structure Abd(B f b1 b2 bs p1 p2:Nat)(ar:Option Addr)(l:List A)(I:List Nat→Option Nat→World→Prop):Prop where
 on: ∀pre ρ W W' j0,I pre ρ W→B≤j0→ρ≠some j0→Fr (fun j=>j=bs∨j=j0) W W'→I pre ρ W'
 row: ∀pre ρ W b,I pre ρ W→ρ=some b→(∃cs t fr,W.heap[b]? =some (.cells cs t fr))∧¬Ib f b1 b2 bs p1 p2 ar l b
set_option maxHeartbeats 2000000 in
theorem range_around{g:Operand}{tp:Tmp}{assign body:Code}{Q:Exit→Act→World→Prop}{a:Act}{w:World}{n f b1 b2 bs N p1 p2 c r:Nat}{ar:Option Addr}{cap:Nat}{l:List A}{S:Nat→Bool}
  (hn:2≤n) (hg:a.eval g= .func (.func 171) #[] #[.pointer (some ⟨p1,0,none⟩), .pointer (some ⟨p2,0,none⟩)])
  (gf:Gf (w.heap.size+2) f b1 b2 bs N ar l) (hc:c<N) (hlt:f<w.heap.size∧b1<w.heap.size∧b2<w.heap.size∧bs<w.heap.size∧p1<w.heap.size∧p2<w.heap.size∧(∀j,abl ar l j→j<w.heap.size)∧r<w.heap.size) (hp:p1≠bs∧p2≠bs) (hr: ¬Ib f b1 b2 bs p1 p2 ar l r)
  (gr:Gr w f b1 b2 bs N ar cap l S) (hc1:w.cell? ⟨p1,0,none⟩=some (.pointer (some ⟨f,0,none⟩))) (hc2:w.cell? ⟨p2,0,none⟩=some (.int .i64 c))
  (I I2:List Nat→Option Nat→World→Prop) (Cx:Code→List Nat→Prop)
  (hA:Abd w.heap.size f b1 b2 bs p1 p2 ar l I) (hA2:Abd w.heap.size f b1 b2 bs p1 p2 ar l I2)
  (ρ0:Option Nat) (h0:I [] ρ0 w) (a₁:Nat→Act)
  (hassign: ∀ (L:Nat) (x:Nat) (W:World) (K:Act→World→Prop),K (a₁ x) W→
    assign.wpIn (Fence.wide.inRound L) (n - 1 - 1) Tryz.prog (Exit.then K (fun _ _ _=>False)) {tmps:=((#[tp]:Array Tmp).zip #[Value.int .i64 (x:Int)]).foldl (fun t (p,v)=>t.setIfInBounds p v) a.tmps,defers:= []} W)
  (hbody: ∀ (L:Nat) (pre:List Nat) (ρ:Option Nat) (x:Nat) (W:World),I pre ρ W→pre++[x]<+:whole (edl l) (2*l.length) N S c→body.wpIn (Fence.wide.inRound L) (n - 1 - 1) Tryz.prog (rPost r I I2 Cx (pre++[x]) ρ W) (a₁ x) W)
  (hdone: ∀ (ρ:Option Nat) (W:World),I (whole (edl l) (2*l.length) N S c) ρ W→Gr W f b1 b2 bs N ar cap l (gro (edl l) (2*l.length) N S c N).2→W.heap[w.heap.size]? =some (.deferred (some []))→Q .normal {a with defers:={target:= .collected w.heap.size,args:= #[]}::a.defers} W)
  (hstop: ∀ (cd:Code) (pre:List Nat) (ρ:Option Nat) (W:World),pre<+:whole (edl l) (2*l.length) N S c→Cx cd pre→I2 pre ρ W→W.heap[w.heap.size]? =some (.deferred (some []))→cd.wpIn Fence.wide n Tryz.prog Q {a with defers:={target:= .collected w.heap.size,args:= #[]}::a.defers} W):
  (Code.rangeFunc g #[tp] assign body).wpIn Fence.wide n Tryz.prog Q a w:=by
 refine wpIn_rangeFunc ?_
 intro fn hfn
 obtain⟨rec,hrec⟩: ∃rec:LoopState→Option Code→Loop,rec=fun st pe=>{state:=st,pending:=pe,fn,tmps:=a.tmps,params:= #[tp],assign,body,defers:=w.heap.size}:=⟨_,rfl⟩
 obtain⟨W1,hW1⟩: ∃W1,(w.alloc (.deferred (some []))).alloc (.loop (rec .ready none))=W1:=⟨_,rfl⟩
 have hL1:W1.heap[w.heap.size+1]? =some (.loop (rec .ready none)):=by
  rw[←hW1];have:=World.alloc_heap_new (w.alloc (.deferred (some []))) (.loop (rec .ready none));rwa [World.size_alloc] at this
 have hK1:W1.heap[w.heap.size]? =some (.deferred (some [])):=by
  rw[←hW1];exact(Below.heap_alloc _ _ _ (by simp)).trans (World.alloc_heap_new w _)
 have hS1:W1.heap.size=w.heap.size+2:=by rw[←hW1];simp
 have hF1:Fr (fun _=>False) w W1:=by rw[←hW1];exact((Fr.refl _ w).alloc _).alloc _
 have hne0: ∀pre ρ W b,I pre ρ W→ρ=some b→b<W.heap.size:=fun pre ρ W b hi e=>by
  obtain⟨⟨cs,t,fr,h⟩,_⟩:=hA.row pre ρ W b hi e
  exact lt_of_block h
 have hI1:I [] ρ0 W1:=hA.on _ _ _ _ w.heap.size h0 (Nat.le_refl _) (fun e=>Nat.lt_irrefl _ (hne0 _ _ _ _ h0 e)) (hF1.imp (fun _ h=>h.elim))
 refine⟨w.heap.size+1,[{target:= .collected w.heap.size,args:= #[]}],W1,{target:= .fn (.func 171) #[.pointer (some ⟨p1,0,none⟩), .pointer (some ⟨p2,0,none⟩)],args:= #[.func (.yield (w.heap.size+1)) #[] #[]]},W1,171,
  #[.func (.yield (w.heap.size+1)) #[] #[]]++ #[.pointer (some ⟨p1,0,none⟩), .pointer (some ⟨p2,0,none⟩)],W1,?_,?_,?_,?_,fun _=>by omega,?_⟩
 ·rw[←hW1,hrec];exact run_enterLoop_outer _ _ _ _ _
 ·simp only[resolve,hg]
  simp[go_sem]
 ·intro f' hf';exact trivial
 ·simp[invoke,go_sem]
 ·have nl: ∀ (X:List Nat→Option Nat→World→Prop),Abd w.heap.size f b1 b2 bs p1 p2 ar l X→∀ (pre:List Nat) (ρ:Option Nat) (W:World) (q:Loop),X pre ρ W→W.heap[w.heap.size+1]? =some (.loop q)→ρ≠some (w.heap.size+1):=fun X hX pre ρ W q hi hl e=>by
   obtain⟨⟨cs,t,fr,h⟩,_⟩:=hX.row pre ρ W _ hi e
   rw[hl] at h;cases h
  have nd: ∀ (pre:List Nat) (ρ:Option Nat) (W:World),I pre ρ W→W.heap[w.heap.size]? =some (.deferred (some []))→ρ≠some w.heap.size:=fun pre ρ W hi hl e=>by
   obtain⟨⟨cs,t,fr,h⟩,_⟩:=hA.row pre ρ W _ hi e
   rw[hl] at h;cases h
  have ibl: ∀j,Ib f b1 b2 bs p1 p2 ar l j→j<w.heap.size:=fun j hj=>by
   obtain⟨h1,h2,h3,h4,h5,h6,h7,_⟩:=hlt
   rcases hj with rfl | rfl | rfl | rfl | rfl | rfl | hj
   ·exact h1
   ·exact h2
   ·exact h3
   ·exact h4
   ·exact h5
   ·exact h6
   ·exact h7 j hj
  have hbsl:bs<w.heap.size:=hlt.2.2.2.1
  have hrl:r<w.heap.size:=hlt.2.2.2.2.2.2.2
  have hput: ∀ (X:List Nat→Option Nat→World→Prop),Abd w.heap.size f b1 b2 bs p1 p2 ar l X→∀ (pre:List Nat) (ρ:Option Nat) (W:World) (q:Loop) (o:Obj),X pre ρ W→W.heap[w.heap.size+1]? =some (.loop q)→X pre ρ (W.putObj (w.heap.size+1) o):=fun X hX pre ρ W q o hi hl=>
   hX.on _ _ _ _ (w.heap.size+1) hi (by omega) (nl X hX _ _ _ _ hi hl) ((fr_put W _ o).imp (fun _ h=> .inr h))
  refine(around1_in gf hc ⟨by omega,by omega,hp.1,hp.2⟩ (w.heap.size+1) (n - 1) (by omega) (fun j=>j=r∨j=w.heap.size+1) ?_
   (fun pre ρ W=>I pre ρ W∧W.heap[w.heap.size+1]? =some (.loop (rec .ready none))∧W.heap[w.heap.size]? =some (.deferred (some [])))
   (fun pre W=> ∃cd ρ,I2 pre ρ W∧Cx cd pre∧W.heap[w.heap.size+1]? =some (.loop (rec .done (some cd)))∧W.heap[w.heap.size]? =some (.deferred (some [])))
   ?_ ?_ ?_ W1 ρ0 (gr.fr gf hF1 (fun _ _ h=>h)) (by omega) (cell_fr hc1 hF1 (fun h=>h)) (cell_fr hc2 hF1 (fun h=>h)) ⟨hI1,hL1,hK1⟩).mono ?_
  ·rintro j (rfl | rfl)
   ·exact⟨by omega,hr⟩
   ·exact⟨by omega,fun h=>by have:=ibl _ h;omega⟩
  ·rintro pre ρ W W' g0 ⟨hi,hl,hk⟩ hg0 hne hf
   exact⟨hA.on _ _ _ _ g0 hi (by omega) hne hf,(hf.block _ (lt_of_block hl) (fun e=>by omega)).trans hl,(hf.block _ (lt_of_block hk) (fun e=>by omega)).trans hk⟩
  ·rintro pre ρ W b ⟨hi,hl,hk⟩ e
   exact⟨hne0 _ _ _ _ hi e,(hA.row _ _ _ _ hi e).2⟩
  ·rintro pre ρ x W ⟨hi,hl,hk⟩ hpre
   have hlW:w.heap.size+1<W.heap.size:=lt_of_block hl
   have hy:=run_yield (P:=Tryz.prog) (args:= #[.int .i64 (x:Int)]) hl (by rw[hrec];rfl)
   rw[hrec] at hy
   refine⟨fn,_,assign,body,hy,roundIn_of_wpIn hfn (hassign _ x W _ ⟨_,run_beginRound hl (by rw[hrec]),?_⟩)⟩
   obtain⟨W2,hW2⟩: ∃W2,W.putObj (w.heap.size+1) (.loop {rec .ready none with state:= .busy})=W2:=⟨_,rfl⟩
   have hl2:W2.heap[w.heap.size+1]? =some (.loop {rec .ready none with state:= .busy}):=by rw[←hW2];exact World.putObj_heap_same hlW
   have hk2:W2.heap[w.heap.size]? =some (.deferred (some [])):=by rw[←hW2];exact(World.putObj_heap_other (by omega)).trans hk
   have hf2:Fr (fun j=>j=w.heap.size+1) W W2:=by rw[←hW2];exact fr_put _ _ _
   have hz2:W2.heap.size=W.heap.size:=by rw[←hW2];simp
   have hi2:I pre ρ W2:=by rw[←hW2];exact hput I hA _ _ _ _ _ hi hl
   rw[hW2]
   refine wpIn_mono (hbody _ pre ρ x W2 hi2 hpre) ?_
   have fin: ∀ (X:List Nat→Option Nat→World→Prop),Abd w.heap.size f b1 b2 bs p1 p2 ar l X→∀ (jump:Option Code) (W3:World) (ρ':Option Nat),X (pre++[x]) ρ' W3→Fr (fun j=>j=r∨some j=ρ) W2 W3→
     ∃W4,(Instr.endRound (w.heap.size+1) jump).run Tryz.prog W3= .ok (.bool jump.isNone) W4∧X (pre++[x]) ρ' W4∧W4.heap[w.heap.size+1]? =some (.loop (rec (if jump.isNone then .ready else .done) jump))∧
      W4.heap[w.heap.size]? =some (.deferred (some []))∧Fr (fun j=>(j=r∨j=w.heap.size+1)∨some j=ρ) W W4:=fun X hX jump W3 ρ' hi3 hf3=>by
    have hl3:=(hf3.block _ (lt_of_block hl2) (fun e=>e.elim (fun e=>by omega) (fun e=>nl I hA _ _ _ _ hi2 hl2 e.symm))).trans hl2
    have hk3:=(hf3.block _ (lt_of_block hk2) (fun e=>e.elim (fun e=>by omega) (fun e=>nd _ _ _ hi2 hk2 e.symm))).trans hk2
    have hr3:=run_endRound (P:=Tryz.prog) jump hl3
    refine⟨_,hr3,hput X hX _ _ _ _ _ hi3 hl3,?_,(World.putObj_heap_other (by omega)).trans hk3,?_⟩
    ·rw[World.putObj_heap_same (lt_of_block hl3),hrec]
    ·exact((hf2.imp (fun _ h=> .inl (.inr h))).trans (hf3.imp (fun _ h=>h.elim (fun h=> .inl (.inl h)) .inr))).trans ((fr_put _ _ _).imp (fun _ h=> .inl (.inr h)))
   rintro e a3 W3 hpost
   cases e with
   | normal=>
     obtain⟨ρ',hi3,hf3,hr3⟩:=hpost
     obtain⟨W4,hr4,hi4,hl4,hk4,hf4⟩:=fin I hA none W3 ρ' hi3 hf3
     exact⟨_,W4,hr4, .inl ⟨rfl,ρ',⟨hi4,hl4,hk4⟩,hf4,hr3.imp id (fun⟨b,h1,h2⟩=>⟨b,h1,by omega⟩)⟩⟩
   | exit id=>
     obtain⟨ρ',hi3,hf3,hr3,hcx⟩:=hpost
     obtain⟨W4,hr4,hi4,hl4,hk4,hf4⟩:=fin I2 hA2 (some (.exit id)) W3 ρ' hi3 hf3
     exact⟨_,W4,hr4, .inr ⟨rfl, .exit id,ρ',hi4,hcx,hl4,hk4⟩⟩
   | ret=>exact hpost.elim
   | goto t=>exact hpost.elim
   | panic ch=>exact hpost.elim
   | outgrown=>exact hpost.elim
  ·rintro e W2 ⟨⟨v,rfl⟩,(⟨ρ,⟨hi,hl,hk⟩,hT⟩ | ⟨pre,hpre,cd,ρ,hi,hcx,hl,hk⟩)⟩
   ·refine⟨none,_,by have:=run_endLoop (P:=Tryz.prog) hl (by rw[hrec];simp);rw[hrec] at this;exact this,hdone ρ _ (hput I hA _ _ _ _ _ hi hl) ?_ ((World.putObj_heap_other (by omega)).trans hk)⟩
    exact hT.frI (p1:=p1) (p2:=p2) (fr_put _ _ _) (fun j hj e=>by have:=ibl j hj;omega)
   ·exact⟨some cd,_,by have:=run_endLoop (P:=Tryz.prog) hl (by rw[hrec];simp);rw[hrec] at this;exact this,hstop cd pre ρ _ hpre hcx (hput I2 hA2 _ _ _ _ _ hi hl) ((World.putObj_heap_other (by omega)).trans hk)⟩
end Go.Proofs.YtmenajiceaicpaaGreat
namespace Go.Proofs.YtmenajiceaicpaaGreat
open Go.RowKit Go.Shelf
attribute [local go_sem] Oper.semAt_some
def reg(N:Nat)(l:List A)(c m:Nat):List Nat:=(whole (edl l) (2*l.length) N (fun _=>false) c).take m
structure RI(w:World)(B p r m:Nat)(Z:Nat→Prop)(pre:List Nat)(ρ:Option Nat)(W:World):Prop where
 ex: ∃rv,W.heap[r]? =some (.cells #[rv] 25 (0,0))∧W.ownsRow B 3 1 rv pre.length (cellsI (ints pre))∧rv.ownBlock=ρ
 le:Z pre.length
 mo:W.heap[p+1]? =some (.cells #[.int .i64 (m:Int)] 3 (0,0))
 be:Below p w W
 sz:B≤W.heap.size
theorem Bg.gr{w wr:World}{f b1 b2 bs N:Nat}{a:Option Addr}{cap:Nat}{l:List A}(h:Bg w wr f b1 b2 bs N l.length a cap (edl l) (2*l.length))(hr:Arcs w a l):Gr wr f b1 b2 bs N a cap l (fun _=>false):=
 ⟨h.gw,hr.on h.be,h.fi,h.nx.congr (fun k hk=>by rw[if_pos hk]),h.sn⟩
theorem Arcs.abl{w:World}{a:Option Addr}{l:List A}(h:Arcs w a l){j:Nat}(hj:abl a l j):j<w.heap.size:=by
 obtain⟨hl,x,hx,rfl⟩:=hj
 rcases h with h | ⟨b,o,rfl,hb,_⟩
 ·exact absurd h hl
 ·injection hx with hx;subst hx;exact hb
theorem own_frv{D:Nat→Prop}{w w':World}{base n:Nat}{v:Value}{xs:List Value}(h:w.ownsRow base 3 1 v n xs)(hf:Fr D w w')(hn: ∀b,v.ownBlock=some b→¬D b):w'.ownsRow base 3 1 v n xs:=by
 refine⟨h.1,?_⟩
 rcases h.2 with h' | ⟨g',c',cur,h1,h2,h3,h4⟩
 ·exact Or.inl h'
 ·subst h1
  exact Or.inr ⟨g',c',cur,rfl,h2,(hf.block g' (lt_of_block h3) (hn g' rfl)).trans h3,h4⟩
theorem RI.on{w:World}{B p r m bs j0:Nat}{Z:Nat→Prop}{pre:List Nat}{ρ:Option Nat}{W W':World}(h:RI w B p r m Z pre ρ W)(hp:p+1<B∧r<B∧p+1≠bs∧r≠bs∧bs<B∧p≤bs)(hw:w.heap.size=p)(hj:B≤j0)(hn:ρ≠some j0)(hf:Fr (fun j=>j=bs∨j=j0) W W'):RI w B p r m Z pre ρ W':=by
 obtain⟨rv,h1,h2,h3⟩:=h.ex
 refine⟨⟨rv,(hf.block r (lt_of_block h1) (fun e=>by omega)).trans h1,own_frv h2 hf (fun b hb e=> ?_),h3⟩,h.le,(hf.block _ (lt_of_block h.mo) (fun e=>by omega)).trans h.mo,?_,Nat.le_trans h.sz hf.size⟩
 ·rcases e with e | e
  ·have:=(h2.lt b hb).1;omega
  ·exact hn (by rw[←h3,hb,e])
 ·exact⟨hf.os.trans h.be.os,hf.tape.trans h.be.tape,hf.output.trans h.be.output,Nat.le_trans h.be.size hf.size,fun k hk=>(hf.block k (by have:=h.be.size;omega) (fun e=>by omega)).trans (h.be.block k hk)⟩
theorem RI.add{w:World}{B p r m:Nat}{Z Z':Nat→Prop}{pre:List Nat}{ρ:Option Nat}{W w6:World}{x g6 c6:Nat}{o:Obj}(h:RI w B p r m Z pre ρ W)(hp:p+1<r∧r<B)(hw:w.heap.size=p)
  (hrho: ∀b,ρ=some b→B≤b) (hown:w6.ownsRow B 3 1 (.slice (some ⟨g6,0,none⟩) (pre.length+1) c6) (pre.length+1) (cellsI (ints pre)++[.int .i64 (x:Int)])) (hgr:(W.alloc o).grownBy w6 ρ) (hb:some g6=ρ∨g6=W.heap.size+1) (hz:Z' (pre.length+1)):
  (w6.heap[r]? =W.heap[r]? ∧w6.heap[p+1]? =W.heap[p+1]?)∧RI w B p r m Z' (pre++[x]) (some g6) (w6.setCell ⟨r,0,none⟩ (.slice (some ⟨g6,0,none⟩) (pre.length+1) c6))∧Fr (fun j=>j=r∨some j=ρ) W (w6.setCell ⟨r,0,none⟩ (.slice (some ⟨g6,0,none⟩) (pre.length+1) c6))∧(some g6=ρ∨∃b,some g6=some b∧W.heap.size≤b):=by
 obtain⟨rv,h1,h2,h3⟩:=h.ex
 have f1:Fr (fun j=>some j=ρ) W w6:=((Fr.refl _ W).alloc o).trans ⟨hgr.os,hgr.tape,hgr.output,hgr.size,fun k hk hn=>hgr.block k hk hn⟩
 have f2:Fr (fun j=>j=r) w6 (w6.setCell ⟨r,0,none⟩ (.slice (some ⟨g6,0,none⟩) (pre.length+1) c6)):=(Fr.refl _ w6).setCell ⟨r,0,none⟩ _ rfl
 have e1:w6.heap[r]? =W.heap[r]? :=f1.block r (lt_of_block h1) (fun e=>by have:=hrho r e.symm;omega)
 have e2:w6.heap[p+1]? =W.heap[p+1]? :=f1.block _ (lt_of_block h.mo) (fun e=>by have:=hrho _ e.symm;omega)
 have f3:Fr (fun j=>j=r∨some j=ρ) W (w6.setCell ⟨r,0,none⟩ (.slice (some ⟨g6,0,none⟩) (pre.length+1) c6)):=(f1.imp (fun _ h=> .inr h)).trans (f2.imp (fun _ h=> .inl h))
 have hgB:=(own_lt hown).1
 refine⟨⟨e1,e2⟩,⟨⟨.slice (some ⟨g6,0,none⟩) (pre.length+1) c6,?_,?_,rfl⟩,?_,?_,?_,Nat.le_trans h.sz f3.size⟩,f3,hb.imp id (fun e=>⟨g6,rfl,by omega⟩)⟩
 ·rw[heap_setCell_same w6 r 0 _ _ _ (e1.trans h1)]
  simp
 ·rw[ints_snoc,←cellsI_snoc,List.length_append]
  exact own_fr hown f2 (fun e=>by omega)
 ·rw[List.length_append];exact hz
 ·exact(f2.block _ (lt_of_block (e2.trans h.mo)) (fun e=>by omega)).trans (e2.trans h.mo)
 ·refine⟨f3.os.trans h.be.os,f3.tape.trans h.be.tape,f3.output.trans h.be.output,Nat.le_trans h.be.size f3.size,fun k hk=>(f3.block k (by have:=h.be.size;omega) (fun e=> ?_)).trans (h.be.block k hk)⟩
  rcases e with e | e
  ·omega
  ·have:=hrho k e.symm;omega
theorem RI.fin{w:World}{B p r m D:Nat}{Z:Nat→Prop}{pre:List Nat}{ρ:Option Nat}{W:World}{rv:Value}{x:Option (List Deferred)}(h:RI w B p r m Z pre ρ W)(hrv:W.ownsRow B 3 1 rv pre.length (cellsI (ints pre)))(hK:W.heap[D]? =some (.deferred x))(hp:p≤B∧p≤D)(hw:w.heap.size=p)(o:Obj):
  (W.putObj D o).ownsRow p 3 1 rv pre.length (cellsI (ints pre))∧Below p w (W.putObj D o):=by
 refine⟨own_base (own_frv hrv (fr_put W D o) (fun b hb e=> ?_)) hp.1,?_⟩
 ·rcases hrv.2 with ⟨e1,_⟩ | ⟨g',c',cur,e1,_,hg',_⟩
  ·subst e1;cases hb
  ·subst e1
   injection hb with hb
   subst hb
   have e:g'=D:=e
   rw[e,hK] at hg'
   cases hg'
 ·have hf:=fr_put W D o
  exact⟨hf.os.trans h.be.os,hf.tape.trans h.be.tape,hf.output.trans h.be.output,Nat.le_trans h.be.size hf.size,fun k hk=>(hf.block k (by have:=h.be.size;omega) (fun e=>by omega)).trans (h.be.block k hk)⟩
theorem RI.rho{w:World}{B p r m:Nat}{Z:Nat→Prop}{pre:List Nat}{ρ:Option Nat}{W:World}(h:RI w B p r m Z pre ρ W): ∀b,ρ=some b→B≤b:=by
 rintro b rfl
 obtain⟨rv,h1,h2,h3⟩:=h.ex
 exact(h2.lt b h3).1
set_option maxRecDepth 100000 in
set_option maxHeartbeats 2000000 in
theorem region_any(N c m:Int)(a:Option Addr)(l:List A)(cap:Nat)(w:World)(hl:l.length≤9223372036854775807)(hr:Arcs w a l):
  Calls Tryz.prog 114 #[.agg #[.int .i64 N, .slice a l.length cap], .int .i64 c, .int .i64 m] w fun e w'=> ∃v xs,e= .returned (.tuple #[v, .int .i64 (gchk N c m l)])∧w'.ownsRow w.heap.size 3 1 v xs.length (cellsI (ints xs))∧xs=(if gchk N c m l=0 then reg N.toNat l c.toNat m.toNat else [])∧Below w.heap.size w w':=by
 refine(callsIn_wide (n:=3)).1 ?_
 obtain⟨E,HE⟩:=named (gchk N c m l)
 obtain⟨i3,hi3,hz3,hs3,hby3⟩:=info_parts info3
 have hb0:Below w.heap.size w ((w.alloc (.cells #[.int .i64 N, .slice a l.length cap] 24)).alloc (.cells #[.int .i64 m] 3)):=((Below.refl _ _).alloc (Nat.le_refl _) _).alloc (by simp) _
 have hg0:((w.alloc (.cells #[.int .i64 N, .slice a l.length cap] 24)).alloc (.cells #[.int .i64 m] 3)).heap[w.heap.size]? =some (.cells #[.int .i64 N, .slice a l.length cap] 24):=(Below.heap_alloc _ _ _ (by simp)).trans (heap_top w _)
 have hm0:=heap_top (w.alloc (.cells #[.int .i64 N, .slice a l.length cap] 24)) (.cells #[.int .i64 m] 3)
 rw[World.size_alloc] at hm0
 have HAR:=hid hr
 rw[HE.out]
 generalize hp:w.heap.size=p at*
 refine callsIn_of_wp_marks Tryz.func114 rfl trivial ?_ rfl
 simp only[Tryz.ntmps114,List.size_toArray,List.length_cons,List.length_nil,Nat.reduceAdd,Nat.reduceSub,Array.replicate_succ,Array.replicate_zero,List.push_toArray,List.append_toArray,List.nil_append,List.cons_append]
 gi_wp2_with fail
 generalize hW:(w.alloc (.cells #[.int .i64 N, .slice a l.length cap] 24)).alloc (.cells #[.int .i64 m] 3)=W at*
 refine⟨trivial,(callsIn_wide.2 (gchk_any N c m a l cap W hl (HAR.out.on (by rw[hp];exact hb0)))).mono ?_⟩
 rintro e w1 ⟨rfl,hb1⟩
 rw[HE.out]
 have hg1:=(hb1.block _ (lt_of_block hg0)).trans hg0
 have hm1:=(hb1.block _ (lt_of_block hm0)).trans hm0
 have hpW:p≤W.heap.size:=Nat.le_of_lt (lt_of_block hg0)
 have HB1:Hid (Below p w w1):=hb0.trans (hb1.mono hpW)
 obtain⟨⟨g0,g1⟩,_⟩:=two_cells hg1
 clear hb1 hg0 hm0 hW
 by_cases he:E=0
 ·subst he
  obtain⟨hk,hcN,hm1',hm2'⟩:=gchk_zero HE.out
  obtain⟨hN1,hN2,hlb,hpo⟩:=chk_zero hk
  obtain⟨n,rfl⟩: ∃n:Nat,N=n:=⟨N.toNat,by omega⟩
  obtain⟨v,rfl⟩: ∃v:Nat,c=v:=⟨c.toNat,by omega⟩
  obtain⟨t,rfl⟩: ∃t:Nat,m=t:=⟨m.toNat,by omega⟩
  have hvn:v<n:=by omega
  have hnb:n≤1024:=by omega
  have HPO:Hid (∀x,x∈l→0≤x.f∧x.f<n∧0≤x.t∧x.t<n):=fun x hx=>⟨(hpo x hx).1.1,(hpo x hx).1.2,(hpo x hx).2.1,(hpo x hx).2.2⟩
  have hr2:Arcs (w1.alloc (.cells #[.slice none 0 0] 25)) a l:=HAR.out.on (by rw[hp];exact HB1.out.trans (((Below.refl _ w1).alloc (Nat.le_refl _) _).mono (hp▸HB1.out.size)))
  have HR2:=hid hr2
  have hpn:p≠w1.heap.size:=Nat.ne_of_lt (lt_of_block hg1)
  have hpn':=hpn.symm
  have hgv:=(Below.heap_alloc w1 (.cells #[.slice none 0 0] 25) p (lt_of_block hg1)).trans hg1
  obtain⟨⟨j0,j1⟩,_⟩:=two_cells hgv
  clear hr2 hpo hk hr
  gi_wp2_with fail
  refine⟨trivial,(callsIn_wide.2 (begin_any n a l cap _ hnb (by omega) HPO.out HR2.out)).mono ?_⟩
  rintro e w2 ⟨f,b1,b2,bs,rfl,hne,hlo,hB⟩
  have HNE:=hid hne
  have HLO:=hid hlo
  have HBG:=hid hB
  clear hne hlo hB
  gi_wp2_with fail
  refine⟨trivial,(callsIn_wide.2 (around_any f (v:Int) w2)).mono ?_⟩
  rintro e w3 ⟨rfl,rfl⟩
  gi_wp2_with fail
  have hVz:((w2.alloc (.cells #[.pointer (some ⟨f,0,none⟩)] 197)).alloc (.cells #[.int .i64 (v:Int)] 3)).heap.size=w2.heap.size+2:=by simp
  have hV1:=(Below.heap_alloc (w2.alloc (.cells #[.pointer (some ⟨f,0,none⟩)] 197)) (.cells #[.int .i64 (v:Int)] 3) w2.heap.size (by simp)).trans (heap_top w2 (.cells #[.pointer (some ⟨f,0,none⟩)] 197))
  have hV2:=heap_top (w2.alloc (.cells #[.pointer (some ⟨f,0,none⟩)] 197)) (.cells #[.int .i64 (v:Int)] 3)
  rw[World.size_alloc] at hV2
  have hVF:Fr (fun _=>False) w2 ((w2.alloc (.cells #[.pointer (some ⟨f,0,none⟩)] 197)).alloc (.cells #[.int .i64 (v:Int)] 3)):=((Fr.refl _ w2).alloc _).alloc _
  generalize hV:(w2.alloc (.cells #[.pointer (some ⟨f,0,none⟩)] 197)).alloc (.cells #[.int .i64 (v:Int)] 3)=V at*
  clear hV
  have hz1:(w1.alloc (.cells #[.slice none 0 0] 25)).heap.size=w1.heap.size+1:=by simp
  have hlo:=HLO.out
  rw[hz1] at hlo
  have hbe:=HBG.out.be
  have l1:=lt_of_block HBG.out.gw.hd
  have l2:=HBG.out.fi.lt
  have l3:=HBG.out.nx.lt
  have l4:=HBG.out.sn.lt
  have hrb:=(hVF.block w1.heap.size (by omega) (fun h=>h)).trans ((hbe.block w1.heap.size (by rw[hz1];omega)).trans (heap_top w1 (.cells #[.slice none 0 0] 25)))
  have hsz:=hbe.size
  rw[hz1] at hsz
  have hp1:p+1<w1.heap.size:=lt_of_block hm1
  have hmb:=(hVF.block (p+1) (by omega) (fun h=>h)).trans ((hbe.block (p+1) (by rw[hz1];omega)).trans ((Below.heap_alloc w1 (.cells #[.slice none 0 0] 25) (p+1) hp1).trans hm1))
  have hbV:Below p w V:=by
   have x1:Below p w (w1.alloc (.cells #[.slice none 0 0] 25)):=HB1.out.trans (((Below.refl _ w1).alloc (Nat.le_refl _) _).mono (hp▸HB1.out.size))
   have x2:Below p w w2:=x1.trans (hbe.mono (hp▸x1.size))
   exact x2.trans ⟨hVF.os,hVF.tape,hVF.output,hVF.size,fun k hk=>hVF.block k (by omega) (fun h=>h)⟩
  have har2:=HR2.out
  have habl: ∀j,abl a l j→j<w1.heap.size:=fun j hj=>by have:=HAR.out.abl hj;rw[hp] at this;omega
  have hGr:Gr V f b1 b2 bs n a cap l (fun _=>false):=by
   have h2:=HBG.out.gr har2
   exact⟨h2.gw.fr hVF (fun h=>h),h2.ar.fr hVF (fun _ _ h=>h),h2.fi.fr hVF (fun h=>h),h2.nx.fr hVF (fun h=>h),h2.sn.fr hVF (fun h=>h)⟩
  have hGf:Gf (V.heap.size+2) f b1 b2 bs n a l:=⟨HNE.out,⟨by omega,by omega,by omega,by omega⟩,fun j hj=>⟨by have:=habl j hj;omega,by have:=habl j hj;omega⟩,hnb,by omega,HPO.out⟩
  have hAb: ∀Z:Nat→Prop,Abd V.heap.size f b1 b2 bs w2.heap.size (w2.heap.size+1) a l (RI w V.heap.size p w1.heap.size t Z):=fun Z=>by
   constructor
   ·intro pre ρ W W' j0 h hj hne hf
    exact h.on ⟨by omega,by omega,by omega,by omega,by omega,by omega⟩ hp hj hne hf
   ·rintro pre ρ W b h rfl
    obtain⟨rv,h1,h2,h3⟩:=h.ex
    obtain⟨hb1,hb2⟩:=h2.lt b h3
    refine⟨?_,?_⟩
    ·rcases h2.2 with ⟨e,_⟩ | ⟨g',c',cur,e,_,hg',_⟩
     ·subst e;cases h3
     ·subst e;injection h3 with h3;subst h3;exact⟨_,_,_,hg'⟩
    ·rintro(h | h | h | h | h | h | h)
     ·omega
     ·omega
     ·omega
     ·omega
     ·omega
     ·omega
     ·have:=habl _ h;omega
  refine range_around (r:=w1.heap.size) (p1:=w2.heap.size) (p2:=w2.heap.size+1) (c:=v) (by omega) rfl hGf hvn ⟨by omega,by omega,by omega,by omega,by omega,by omega,fun j hj=>by have:=habl j hj;omega,by omega⟩ ⟨by omega,by omega⟩ ?ib hGr ?c1 ?c2
   (RI w V.heap.size p w1.heap.size t (fun k=>k<t)) (RI w V.heap.size p w1.heap.size t (fun k=>k=t)) (fun cd _=>cd= .exit 0) (hAb _) (hAb _) none ⟨⟨_,hrb,World.ownsRow_nil _ _ _ _,rfl⟩,by show 0<t;omega,hmb,hbV,Nat.le_refl _⟩
   (fun x=>{tmps:= #[.agg #[.int .i64 (n:Int), .slice a l.length cap], .int .i64 (v:Int), .int .i64 (t:Int), .pointer (some ⟨p,0,none⟩),undef, .pointer (some ⟨p+1,0,none⟩), .slice none 0 0, .int .i64 0, .int .i64 0, .pointer (some ⟨w1.heap.size,0,none⟩), .int .i64 (x:Int), .agg #[.int .i64 (n:Int), .slice a l.length cap], .int .i64 (v:Int), .int .i64 (t:Int), .int .i64 0, .int .i64 0, .bool false,undef, .agg #[.int .i64 (n:Int), .slice a l.length cap], .pointer (some ⟨f,0,none⟩), .int .i64 (v:Int), .func (.func 171) #[] #[.pointer (some ⟨w2.heap.size,0,none⟩), .pointer (some ⟨w2.heap.size+1,0,none⟩)], .int .i64 (x:Int),undef,undef,undef,undef,undef,undef,undef,undef,undef],defers:= []}) ?assign ?body ?done ?stop
  case ib=>
   rintro(h | h | h | h | h | h | h)
   ·omega
   ·omega
   ·omega
   ·omega
   ·omega
   ·omega
   ·have:=habl _ h;omega
  case c1=>simp[World.cell?,hV1]
  case c2=>simp[World.cell?,hV2]
  case assign=>
   intro L x W K hK
   gi_wp2
   exact hK
  case body=>
   intro L pre ρ x W h hpre
   obtain⟨rv,h1,h2,h3⟩:=h.ex
   obtain⟨av,cv,rfl⟩:=own_slice h2
   have hlt:pre.length<t:=h.le
   have hx1:W.cell? ⟨w1.heap.size,0,none⟩=some (.slice av pre.length cv):=by simp[World.cell?,h1]
   have hm:W.cell? ⟨p+1,0,none⟩=some (.int .i64 (t:Int)):=by simp[World.cell?,h.mo]
   have hVW:V.heap.size≤W.heap.size:=h.sz
   have HNW:=hid (one_new W (x:Int))
   have HOW:=hid (h2.alloc (.cells #[.int .i64 (x:Int)] 3))
   have HBZ:Hid (V.heap.size≤(W.alloc (.cells #[.int .i64 (x:Int)] 3)).heap.size):=by show _≤_;simp;omega
   have HRI:=hid h
   have HRHO:=hid h.rho
   have hpr:p+1≠w1.heap.size:=by omega
   have hpr':=hpr.symm
   have HOB:Hid ((Value.slice av pre.length cv).ownBlock=ρ):=h3
   clear h h2 h3
   by_cases heq:pre.length+1=t
   ·have heq':(((pre.length:Int)+1)==(t:Int))=true:=by simp;omega
    gi_wp2_with (gi_at_builtin;refine wpListIn_append_own_at _ rfl (.tmp 23) (.tmp 25) 25 rfl V.heap.size 3 i3 (.int .i64 0) 1 8 Tryz.underlying25 hi3 hz3 hs3 hby3 rfl (by decide) (.slice av pre.length cv) pre.length (cellsI (ints pre)) rfl HOW.out ⟨W.heap.size,0,none⟩ 1 1 [.int .i64 (x:Int)] rfl rfl HNW.out (one_i64 _) (by unfold maxLen;omega) (by omega) HBZ.out ?_;intro v6 w6 hown6 hgrow6 hnil6 hb6;obtain⟨g6,c6,hv6,_,_,_,_⟩:=own_shape hown6 (fun e=>by have:=hnil6.1 e;simp at this);subst hv6;rw[HOB.out] at hgrow6 hb6;obtain⟨⟨e61,e62⟩,hri,hfr,hro⟩:=HRI.out.add (Z':=fun k=>k=t) (o:= .cells #[.int .i64 (x:Int)] 3) ⟨by omega,by omega⟩ hp HRHO.out hown6 hgrow6 (hb6.imp id (fun e=>by have:=Option.some.inj (show some g6=some _ from e);simpa using this)) heq;have HRF:=hid hri;have HFF:=hid hfr;have HOO:=hid hro;rw[h1] at e61;rw[HRI.out.mo] at e62;have y1:w6.cell? ⟨w1.heap.size,0,none⟩=some (.slice av pre.length cv):=by simp[World.cell?,e61]
                 have y2:w6.frozen? ⟨w1.heap.size,0,none⟩=false:=by simp[World.frozen?,e61]
                 have y3:w6.cell? ⟨p+1,0,none⟩=some (.int .i64 (t:Int)):=by simp[World.cell?,e62]
                 clear hown6 hgrow6 hnil6 hb6 hri hfr hro e61 e62)
    have z1:=HRF.out
    have z2:=HFF.out
    rw[heq] at z1 z2
    exact⟨_,z1,z2,HOO.out,rfl⟩
   ·have heq':(((pre.length:Int)+1)==(t:Int))=false:=by simp;omega
    have hlt2:pre.length+1<t:=by omega
    gi_wp2_with (gi_at_builtin;refine wpListIn_append_own_at _ rfl (.tmp 23) (.tmp 25) 25 rfl V.heap.size 3 i3 (.int .i64 0) 1 8 Tryz.underlying25 hi3 hz3 hs3 hby3 rfl (by decide) (.slice av pre.length cv) pre.length (cellsI (ints pre)) rfl HOW.out ⟨W.heap.size,0,none⟩ 1 1 [.int .i64 (x:Int)] rfl rfl HNW.out (one_i64 _) (by unfold maxLen;omega) (by omega) HBZ.out ?_;intro v6 w6 hown6 hgrow6 hnil6 hb6;obtain⟨g6,c6,hv6,_,_,_,_⟩:=own_shape hown6 (fun e=>by have:=hnil6.1 e;simp at this);subst hv6;rw[HOB.out] at hgrow6 hb6;obtain⟨⟨e61,e62⟩,hri,hfr,hro⟩:=HRI.out.add (Z':=fun k=>k<t) (o:= .cells #[.int .i64 (x:Int)] 3) ⟨by omega,by omega⟩ hp HRHO.out hown6 hgrow6 (hb6.imp id (fun e=>by have:=Option.some.inj (show some g6=some _ from e);simpa using this)) hlt2;have HRF:=hid hri;have HFF:=hid hfr;have HOO:=hid hro;rw[h1] at e61;rw[HRI.out.mo] at e62;have y1:w6.cell? ⟨w1.heap.size,0,none⟩=some (.slice av pre.length cv):=by simp[World.cell?,e61]
                 have y2:w6.frozen? ⟨w1.heap.size,0,none⟩=false:=by simp[World.frozen?,e61]
                 have y3:w6.cell? ⟨p+1,0,none⟩=some (.int .i64 (t:Int)):=by simp[World.cell?,e62]
                 clear hown6 hgrow6 hnil6 hb6 hri hfr hro e61 e62)
    exact⟨_,HRF.out,HFF.out,HOO.out⟩
  case done=>
   intro ρ W h _ hK
   obtain⟨rv,h1,h2,h3⟩:=h.ex
   have hx1:W.cell? ⟨w1.heap.size,0,none⟩=some rv:=by simp[World.cell?,h1]
   have HRI:=hid h
   have hlt:(whole (edl l) (2*l.length) n (fun _=>false) v).length<t:=h.le
   obtain⟨av,cv,rfl⟩:=own_slice h2
   have hK':W.heap[w2.heap.size+2]? =some (.deferred (some [])):=by rw[←hVz];exact hK
   have HFIN:=hid (h.fin h2 hK' ⟨by omega,by omega⟩ hp (.deferred none))
   have HREG:Hid (whole (edl l) (2*l.length) n (fun _=>false) v=reg n l v t):=(List.take_of_length_le (Nat.le_of_lt hlt)).symm
   gi_wp2_with fail
   refine⟨by simp, .inl ⟨_,_,rfl,run_takeDeferred hK',?_⟩⟩
   exact⟨.tuple #[.slice av (whole (edl l) (2*l.length) n (fun _=>false) v).length cv, .int .i64 0],by simp[results,Tryz.results114,go_sem],_,rfl,_,HFIN.out.1,HREG.out,HFIN.out.2⟩
  case stop=>
   rintro cd pre ρ W hpre rfl h hK
   obtain⟨rv,h1,h2,h3⟩:=h.ex
   have hx1:W.cell? ⟨w1.heap.size,0,none⟩=some rv:=by simp[World.cell?,h1]
   have hlt:pre.length=t:=h.le
   obtain⟨av,cv,rfl⟩:=own_slice h2
   have hK':W.heap[w2.heap.size+2]? =some (.deferred (some [])):=by rw[←hVz];exact hK
   have HFIN:=hid (h.fin h2 hK' ⟨by omega,by omega⟩ hp (.deferred none))
   have HREG:Hid (pre=reg n l v t):=by
    show _=_
    unfold reg
    rw[←hlt]
    exact List.prefix_iff_eq_take.1 hpre
   have HLT:=hid hlt
   clear hlt
   gi_wp2_with fail
   refine⟨by simp, .inl ⟨_,_,rfl,run_takeDeferred hK',?_⟩⟩
   exact⟨.tuple #[.slice av pre.length cv, .int .i64 0],by simp[results,Tryz.results114,go_sem],_,rfl,_,HFIN.out.1,HREG.out,HFIN.out.2⟩
 ·have he2:(E != 0)=true:=by simp[he]
  gi_wp2_with fail
  refine⟨.tuple #[.slice none 0 0, .int .i64 E],by simp[results,Tryz.results114,go_sem], .slice none 0 0,rfl,[],World.ownsRow_nil _ _ _ _,by simp,HB1.out⟩
end Go.Proofs.YtmenajiceaicpaaGreat
namespace Go.Proofs.YtmenajiceaicpaaGreat
open Go.RowKit
def Ints(w:World)(a:Option Addr)(xs:List Int):Prop:=
 xs= []∨∃b o,a=some ⟨b,o,none⟩∧b<w.heap.size∧∀j,j<xs.length→w.cell? ⟨b,o+j,none⟩=some (.int .i64 (xs.getD j 0))
theorem Ints.on{w w':World}{a:Option Addr}{xs:List Int}(h:Ints w a xs)(hb:Below w.heap.size w w'):Ints w' a xs:=by
 rcases h with h | ⟨b,o,rfl,hl,hc⟩
 ·exact Or.inl h
 ·exact Or.inr ⟨b,o,rfl,Nat.lt_of_lt_of_le hl hb.size,fun j hj=>(hb.cell (p:=⟨b,o+j,none⟩) hl).trans (hc j hj)⟩
theorem ints_own{w:World}{B:Nat}{a:Option Addr}{c:Nat}{xs:List Int}(h:w.ownsRow B 3 1 (.slice a xs.length c) xs.length (cellsI xs)):Ints w a xs:=by
 by_cases h0:xs= []
 ·exact Or.inl h0
 ·rcases h.2 with ⟨_,h'⟩ | ⟨g,c',cur,h',hb,hg,hnc,hm,_⟩
  ·exact absurd (List.eq_nil_of_length_eq_zero h') h0
  ·injection h' with e1 e2 e3
   subst e1
   refine Or.inr ⟨g,0,rfl,lt_of_block hg,fun j hj=> ?_⟩
   rw[Nat.zero_add,World.ownsRow.cellAt h j (by omega),cellsI_getD xs j hj]
theorem Ints.get{w:World}{a:Option Addr}{xs:List Int}(h:Ints w a xs): ∃b o,0<xs.length→a=some ⟨b,o,none⟩∧b<w.heap.size∧∀j,j<xs.length→w.cell? ⟨b,o+j,none⟩=some (.int .i64 (xs.getD j 0)):=by
 rcases h with rfl | ⟨b,o,h⟩
 ·exact⟨0,0,fun h=>absurd h (by simp)⟩
 ·exact⟨b,o,fun _=>h⟩
set_option maxHeartbeats 400000 in
theorem sameInts_any(a a':Option Addr)(cap cap':Nat)(xs:List Int)(w:World)(hlen:xs.length≤9223372036854775807)(hr:Ints w a xs)(hr':Ints w a' xs):
  Calls Tryz.prog 20 #[.slice a xs.length cap, .slice a' xs.length cap'] w fun e w'=>e= .returned (.bool true)∧Below w.heap.size w w':=by
 obtain⟨b,o,hab⟩:=hr.get
 obtain⟨b',o',hab'⟩:=hr'.get
 go_enter Tryz.func20,Tryz.ntmps20
 go_wp2_with fail
 go_loopw [5] (fun i wr=> ∃k n:Nat,k≤xs.length∧i= .int .i64 k∧wr=w.drewN n) (fun i _=>xs.length - (intOf i).toNat)
 case atStart=>exact⟨0,0,Nat.zero_le _,rfl,rfl⟩
 case round=>
  obtain⟨k,n,hk,rfl,rfl⟩:=hrel
  by_cases hlt:k<xs.length
  ·obtain⟨rfl,_,hc⟩:=hab (by omega)
   obtain⟨rfl,_,hc'⟩:=hab' (by omega)
   have c1:=hc k hlt
   have c2:=hc' k hlt
   clear hc hc'
   generalize xs.getD k 0=x at*
   go_wp2_with fail
   go_quiet (fail)
   go_wp2_with fail
   exact⟨⟨k+1,_,by omega,by go_num,rfl⟩,by simp[intOf];omega⟩
  ·go_wp2_with fail
   go_ret
   exact⟨rfl,below_drewN _ _ _⟩
theorem own_ints{w:World}{base n cap:Nat}{a:Option Addr}{xs:List Nat}(h:w.ownsRow base 3 1 (.slice a n cap) n (cellsI (ints xs)))(hn:xs.length=n):Ints w a (ints xs):=by
 rcases h.2 with ⟨e1,e2⟩ | ⟨g,c,cur,e1,_,h3,_⟩
 ·left
  rw[e2] at hn
  rw[List.eq_nil_of_length_eq_zero hn];rfl
 ·injection e1 with e1 e2 e3
  subst e1
  right
  refine⟨g,0,rfl,lt_of_block h3,fun j hj=> ?_⟩
  obtain⟨g',e,_,_,hc⟩:=own_cell h (by rw[ints_len];exact hn) (j:=j) (by rw[ints_len] at hj;omega)
  injection e with e
  injection e with e
  subst e
  rw[Nat.zero_add]
  exact hc
end Go.Proofs.YtmenajiceaicpaaGreat
