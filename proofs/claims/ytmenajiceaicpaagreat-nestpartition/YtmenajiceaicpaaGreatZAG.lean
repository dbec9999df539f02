import Derived.Deep.RegionHeld3
import Derived.Test.YtmenajiceaicpaaGreatZAD
import Derived.Test.YtmenajiceaicpaaGreatZAF
open Go.Lib (hid)
namespace Go.Proofs.YtmenajiceaicpaaGreat
open Go.RowKit Go.Shelf
attribute [local go_sem] Oper.semAt_some
def mark(D:Nat):Deferred:={target:= .collected D,args:= #[]}
theorem leaves_marks{F:Fence}{n:Nat}{P:Program}{fn:Func}{tmps:Array Value}{R:Ending→World→Prop}: ∀ (Ds:List Nat) (W:World),Ds.Nodup→(∀D,D∈Ds→W.heap[D]? =some (.deferred (some [])))→(∀W',Fr (fun j=>j∈Ds) W W'→LeavesInM F n P fn tmps R [] .returning W')→LeavesInM F n P fn tmps R (Ds.map mark) .returning W
 | [],W,_,_,h=>h W (Fr.refl _ _)
 | D::Ds,W,hn,hd,h=>by
   refine⟨by simp, .inl ⟨D,_,rfl,run_takeDeferred (hd D List.mem_cons_self),?_⟩⟩
   have f1:=fr_put W D (.deferred none)
   refine leaves_marks Ds _ (List.nodup_cons.1 hn).2 (fun D' h'=>(f1.block D' (lt_of_block (hd D' (List.mem_cons_of_mem _ h'))) (fun e=>(List.nodup_cons.1 hn).1 (e▸h'))).trans (hd D' (List.mem_cons_of_mem _ h'))) (fun W' f2=>h W' ?_)
   exact(f1.imp (fun _ e=>by rw[e];exact List.mem_cons_self)).trans (f2.imp (fun _ e=>List.mem_cons_of_mem _ e))
structure OI(w:World)(B p r n:Nat)(s:Value)(X:Nat→Prop)(Ds base pre:List Nat)(ρ:Option Nat)(W:World):Prop where
 ex: ∃rv,W.heap[r]? =some (.cells #[rv] 25 (0,0))∧W.ownsRow p 3 1 rv (base++pre).length (cellsI (ints (base++pre)))∧rv.ownBlock=ρ
 nx: ∀b,ρ=some b→¬X b
 bx:W.heap[p]? =some (.cells #[.int .i64 (n:Int),s] 24 (0,0))
 ma: ∀D,D∈Ds→W.heap[D]? =some (.deferred (some []))
 be:Below p w W
 sz:B≤W.heap.size
theorem OI.row{w:World}{B p r n:Nat}{s:Value}{X:Nat→Prop}{Ds base pre:List Nat}{ρ:Option Nat}{W:World}(h:OI w B p r n s X Ds base pre ρ W){b:Nat}(e:ρ=some b):(∃cs t fr,W.heap[b]? =some (.cells cs t fr))∧p≤b∧b<W.heap.size:=by
 obtain⟨rv,h1,h2,h3⟩:=h.ex
 rw[e] at h3
 have hlt:=h2.lt b h3
 refine⟨?_,hlt⟩
 rcases h2.2 with ⟨e1,_⟩ | ⟨g',c',cur,e1,_,hg',_⟩
 ·subst e1;cases h3
 ·subst e1;injection h3 with h3;subst h3;exact⟨_,_,_,hg'⟩
theorem OI.mrow{w:World}{B p r n:Nat}{s:Value}{X:Nat→Prop}{Ds base pre:List Nat}{ρ:Option Nat}{W:World}(h:OI w B p r n s X Ds base pre ρ W){D:Nat}(hD:D∈Ds):ρ≠some D:=fun e=>by
 obtain⟨⟨cs,t,fr,hc⟩,_⟩:=h.row e
 rw[h.ma D hD] at hc
 cases hc
theorem OI.on{w:World}{B p r n bs j0:Nat}{s:Value}{X:Nat→Prop}{Ds base pre:List Nat}{ρ:Option Nat}{W W':World}(h:OI w B p r n s X Ds base pre ρ W)(hX:X bs)(hp:p<bs∧p<r∧r≠bs∧r<B∧p<B)(hD: ∀D,D∈Ds→D≠bs∧D<B)(hw:w.heap.size=p)(hj:B≤j0)(hn:ρ≠some j0)(hf:Fr (fun j=>j=bs∨j=j0) W W'):OI w B p r n s X Ds base pre ρ W':=by
 obtain⟨rv,h1,h2,h3⟩:=h.ex
 refine⟨⟨rv,(hf.block r (lt_of_block h1) (fun e=>by omega)).trans h1,own_frv h2 hf (fun b hb e=> ?_),h3⟩,h.nx,(hf.block _ (lt_of_block h.bx) (fun e=>by omega)).trans h.bx,fun D hd=>(hf.block D (lt_of_block (h.ma D hd)) (fun e=>by have:=hD D hd;omega)).trans (h.ma D hd),?_,Nat.le_trans h.sz hf.size⟩
 ·rcases e with e | e
  ·subst e;exact h.nx b (by rw[←h3,hb]) hX
  ·exact hn (by rw[←h3,hb,e])
 ·exact⟨hf.os.trans h.be.os,hf.tape.trans h.be.tape,hf.output.trans h.be.output,Nat.le_trans h.be.size hf.size,fun k hk=>(hf.block k (by have:=h.be.size;omega) (fun e=>by omega)).trans (h.be.block k hk)⟩
theorem OI.add{w:World}{B p r n:Nat}{s:Value}{X:Nat→Prop}{Ds base pre:List Nat}{ρ:Option Nat}{W w6:World}{x g6 c6:Nat}{o:Obj}(h:OI w B p r n s X Ds base pre ρ W)(hXr:X r)(hXp:X p)(hX: ∀j,X j→j<B)(hp:p<r∧r<B)(hD: ∀D,D∈Ds→D≠r)(hw:w.heap.size=p)
  (hown:w6.ownsRow p 3 1 (.slice (some ⟨g6,0,none⟩) ((base++pre).length+1) c6) ((base++pre).length+1) (cellsI (ints (base++pre))++[.int .i64 (x:Int)])) (hgr:(W.alloc o).grownBy w6 ρ) (hb:some g6=ρ∨g6=W.heap.size+1):
  w6.heap[r]? =W.heap[r]? ∧OI w B p r n s X Ds base (pre++[x]) (some g6) (w6.setCell ⟨r,0,none⟩ (.slice (some ⟨g6,0,none⟩) ((base++pre).length+1) c6))∧Fr (fun j=>j=r∨some j=ρ) W (w6.setCell ⟨r,0,none⟩ (.slice (some ⟨g6,0,none⟩) ((base++pre).length+1) c6))∧(some g6=ρ∨∃b,some g6=some b∧W.heap.size≤b):=by
 obtain⟨rv,h1,h2,h3⟩:=h.ex
 have f1:Fr (fun j=>some j=ρ) W w6:=((Fr.refl _ W).alloc o).trans ⟨hgr.os,hgr.tape,hgr.output,hgr.size,fun k hk hn=>hgr.block k hk hn⟩
 have f2:Fr (fun j=>j=r) w6 (w6.setCell ⟨r,0,none⟩ (.slice (some ⟨g6,0,none⟩) ((base++pre).length+1) c6)):=(Fr.refl _ w6).setCell ⟨r,0,none⟩ _ rfl
 have e1:w6.heap[r]? =W.heap[r]? :=f1.block r (lt_of_block h1) (fun e=>h.nx r e.symm hXr)
 have f3:Fr (fun j=>j=r∨some j=ρ) W (w6.setCell ⟨r,0,none⟩ (.slice (some ⟨g6,0,none⟩) ((base++pre).length+1) c6)):=(f1.imp (fun _ h=> .inr h)).trans (f2.imp (fun _ h=> .inl h))
 have hgl:=own_lt hown
 have hg6r:g6≠r:=fun e=>by
  rcases hb with hb | hb
  ·exact h.nx r (by rw[←e];exact hb.symm) hXr
  ·have:=h.sz;omega
 refine⟨e1,⟨⟨.slice (some ⟨g6,0,none⟩) ((base++pre).length+1) c6,?_,?_,rfl⟩,?_,?_,?_,?_,Nat.le_trans h.sz f3.size⟩,f3,hb.imp id (fun e=>⟨g6,rfl,by omega⟩)⟩
 ·rw[heap_setCell_same w6 r 0 _ _ _ (e1.trans h1)]
  simp
 ·rw[←List.append_assoc,ints_snoc,←cellsI_snoc,show(base++pre++[x]).length=(base++pre).length+1 by simp;omega]
  exact own_fr hown f2 hg6r
 ·intro b e hXb
  injection e with e
  subst e
  rcases hb with hb | hb
  ·exact h.nx g6 hb.symm hXb
  ·have:=hX g6 hXb;have:=h.sz;omega
 ·exact(f3.block p (lt_of_block h.bx) (fun e=>e.elim (fun e=>by omega) (fun e=>h.nx p e.symm hXp))).trans h.bx
 ·exact fun D hd=>(f3.block D (lt_of_block (h.ma D hd)) (fun e=>e.elim (hD D hd) (fun e=>h.mrow hd e.symm))).trans (h.ma D hd)
 ·refine⟨f3.os.trans h.be.os,f3.tape.trans h.be.tape,f3.output.trans h.be.output,Nat.le_trans h.be.size f3.size,fun k hk=>(f3.block k (by have:=h.be.size;omega) (fun e=> ?_)).trans (h.be.block k hk)⟩
  rcases e with e | e
  ·omega
  ·have:=(h.row e.symm).2.1;omega
theorem below_bs{W v w:World}(h:Below v.heap.size v w)(hb:Below W.heap.size W v):Below W.heap.size W w:=hb.trans (h.mono hb.size)
theorem one_cells{w:World}{g:Nat}{a:Value}{t:TypeId}(h:w.heap[g]? =some (.cells #[a] t)):w.cell? ⟨g,0,none⟩=some a∧w.frozen? ⟨g,0,none⟩=false:=by
 simp[World.cell?,World.frozen?,h]
theorem ob1{W w1:World}{o:Obj}(h:Below (W.alloc o).drew.heap.size (W.alloc o).drew w1):w1.heap[W.heap.size]? =some o:=
 (h.block W.heap.size (by show _<(W.alloc o).heap.size;simp)).trans (heap_top W o)
theorem ob2{W w1:World}{o p:Obj}(h:Below ((W.alloc o).alloc p).drew.heap.size ((W.alloc o).alloc p).drew w1):w1.heap[W.heap.size]? =some o:=
 (h.block W.heap.size (by show _<((W.alloc o).alloc p).heap.size;simp;omega)).trans ((Below.heap_alloc (W.alloc o) p _ (by simp)).trans (heap_top W o))
theorem ob3{W w1:World}{o p:Obj}(h:Below ((W.alloc p).alloc o).drew.heap.size ((W.alloc p).alloc o).drew w1):w1.heap[W.heap.size+1]? =some o:=by
 have:=heap_top (W.alloc p) o
 rw[World.size_alloc] at this
 exact(h.block (W.heap.size+1) (by show _<((W.alloc p).alloc o).heap.size;simp)).trans this
structure OSt(w1 wc:World)(r rb f b1 b2 bs n:Nat)(a:Option Addr)(cap:Nat)(l:List A):Prop where
 hr:wc.heap[r]? =some (.cells #[.slice (some ⟨rb,0,none⟩) 0 n] 25 (0,0))
 hb:wc.heap[rb]? =some (.cells ((List.range n).map (fun _=>Value.int .i64 0)).toArray 3 (0,0))
 gr:Gr wc f b1 b2 bs n a cap l (fun _=>false)
 ne:f≠b1∧f≠b2∧f≠bs∧b1≠b2∧b1≠bs∧b2≠bs
 lo:w1.heap.size≤f∧w1.heap.size≤b1∧w1.heap.size≤b2∧w1.heap.size≤bs∧w1.heap.size≤r∧w1.heap.size≤rb
 nr:r≠rb∧r≠f∧r≠b1∧r≠b2∧r≠bs∧rb≠f∧rb≠b1∧rb≠b2∧rb≠bs
 be:Below w1.heap.size w1 wc
theorem dsz0(w:World):w.drew.heap.size=w.heap.size:=rfl
theorem dsz1(w:World)(o:Obj):(w.alloc o).drew.heap.size=w.heap.size+1:=by show(w.alloc o).heap.size=_;simp
theorem dsz2(w:World)(o o':Obj):((w.alloc o).alloc o').drew.heap.size=w.heap.size+2:=by show((w.alloc o).alloc o').heap.size=_;simp
theorem os_of{w1 v w2 wc:World}{r rb f b1 b2 bs n:Nat}{a:Option Addr}{cap:Nat}{l:List A}(hb1:Below w1.heap.size w1 v)(hB:Bg v w2 f b1 b2 bs n l.length a cap (edl l) (2*l.length))(har:Arcs v a l)(habl: ∀j,abl a l j→j<w1.heap.size)(hlo:v.heap.size≤f∧v.heap.size≤b1∧v.heap.size≤b2∧v.heap.size≤bs)(hne:f≠b1∧f≠b2∧f≠bs∧b1≠b2∧b1≠bs∧b2≠bs)
  (hf:Fr (fun j=>j=r) w2 wc) (hr:wc.heap[r]? =some (.cells #[.slice (some ⟨rb,0,none⟩) 0 n] 25 (0,0))) (hb:wc.heap[rb]? =some (.cells ((List.range n).map (fun _=>Value.int .i64 0)).toArray 3 (0,0))) (h1:w1.heap.size≤r∧w1.heap.size≤rb∧r≠rb) (h2:r<v.heap.size∨w2.heap.size≤r) (h3:rb<v.heap.size∨w2.heap.size≤rb):OSt w1 wc r rb f b1 b2 bs n a cap l:=by
 have l1:=lt_of_block hB.gw.hd
 have l2:=hB.fi.lt
 have l3:=hB.nx.lt
 have l4:=hB.sn.lt
 have hs:=hb1.size
 have hs2:=hB.be.size
 have hg:=hB.gr har
 refine⟨hr,hb,⟨hg.gw.fr hf (by omega),hg.ar.fr hf (fun j hj e=>by have:=habl j hj;omega),hg.fi.fr hf (by omega),hg.nx.fr hf (by omega),hg.sn.fr hf (by omega)⟩,hne,by omega,by omega,?_⟩
 have h5:=below_bs hB.be hb1
 exact h5.trans ⟨hf.os,hf.tape,hf.output,hf.size,fun k hk=>hf.block k (by have:=h5.size;omega) (by omega)⟩
def Ox(r p f b1 b2 bs:Nat)(a:Option Addr)(l:List A)(j:Nat):Prop:=j=r∨j=p∨j=f∨j=b1∨j=b2∨j=bs∨abl a l j
structure OL(w wc W:World)(p r f b1 b2 bs n:Nat)(a:Option Addr)(cap:Nat)(l:List A)(k:Nat)(Ds:List Nat):Prop where
 oi: ∃ρ,OI w wc.heap.size p r n (.slice a l.length cap) (Ox r p f b1 b2 bs a l) Ds [] (ordw (edl l) (2*l.length) n k).1 ρ W
 gr:Gr W f b1 b2 bs n a cap l (ordw (edl l) (2*l.length) n k).2
 nd:Ds.Nodup
 dl: ∀D,D∈Ds→wc.heap.size≤D
theorem ordw_skip{E:List Ed}{M N k:Nat}(h:(ordw E M N k).2 k=true):ordw E M N (k+1)=ordw E M N k:=by simp only[ordw];rw[if_pos h]
theorem ordw_grow{E:List Ed}{M N k:Nat}(h:(ordw E M N k).2 k=false):ordw E M N (k+1)=((ordw E M N k).1++whole E M N (ordw E M N k).2 k,(gro E M N (ordw E M N k).2 k N).2):=by simp only[ordw];rw[if_neg (by rw[h];simp)]
theorem OI.begin{w W V:World}{B p r n f b1 b2 bs p1:Nat}{s:Value}{a:Option Addr}{l:List A}{Ds base:List Nat}{ρ:Option Nat}(h:OI w B p r n s (Ox r p f b1 b2 bs a l) Ds [] base ρ W)(hV:Fr (fun _=>False) W V)(hp1:p1=W.heap.size):OI w V.heap.size p r n s (fun j=>Ib f b1 b2 bs p1 (p1+1) a l j∨j=r∨j=p) Ds base [] ρ V:=by
 obtain⟨rv,h1,h2,h3⟩:=h.ex
 refine⟨⟨rv,(hV.block r (lt_of_block h1) (fun e=>e)).trans h1,?_,h3⟩,fun b e hx=> ?_,(hV.block p (lt_of_block h.bx) (fun e=>e)).trans h.bx,fun D hD=>(hV.block D (lt_of_block (h.ma D hD)) (fun e=>e)).trans (h.ma D hD),?_,Nat.le_refl _⟩
 ·rw[List.append_nil]
  exact own_frv h2 hV (fun _ _ e=>e)
 ·have hb:=(h.row e).2.2
  refine h.nx b e ?_
  rcases hx with (hx | hx | hx | hx | hx | hx | hx) | hx | hx
  ·exact .inr (.inr (.inl hx))
  ·exact .inr (.inr (.inr (.inl hx)))
  ·exact .inr (.inr (.inr (.inr (.inl hx))))
  ·exact .inr (.inr (.inr (.inr (.inr (.inl hx)))))
  ·omega
  ·omega
  ·exact .inr (.inr (.inr (.inr (.inr (.inr hx)))))
  ·exact .inl hx
  ·exact .inr (.inl hx)
 ·exact⟨hV.os.trans h.be.os,hV.tape.trans h.be.tape,hV.output.trans h.be.output,Nat.le_trans h.be.size hV.size,fun k hk=>(hV.block k (Nat.lt_of_lt_of_le hk (by have:=lt_of_block h.bx;omega)) (fun e=>e)).trans (h.be.block k hk)⟩
theorem OI.done{w W:World}{B B' p r n f b1 b2 bs p1 D:Nat}{s:Value}{a:Option Addr}{l:List A}{Ds base pre:List Nat}{ρ:Option Nat}(h:OI w B p r n s (fun j=>Ib f b1 b2 bs p1 (p1+1) a l j∨j=r∨j=p) Ds base pre ρ W)(hD:W.heap[D]? =some (.deferred (some [])))(hB:B'≤B):OI w B' p r n s (Ox r p f b1 b2 bs a l) (D::Ds) [] (base++pre) ρ W:=by
 refine⟨h.ex,fun b e hx=>h.nx b e ?_,h.bx,fun D' hD'=> ?_,h.be,Nat.le_trans hB h.sz⟩
 ·rcases hx with hx | hx | hx | hx | hx | hx | hx
  ·exact .inr (.inl hx)
  ·exact .inr (.inr hx)
  ·exact .inl (.inl hx)
  ·exact .inl (.inr (.inl hx))
  ·exact .inl (.inr (.inr (.inl hx)))
  ·exact .inl (.inr (.inr (.inr (.inl hx))))
  ·exact .inl (.inr (.inr (.inr (.inr (.inr (.inr hx))))))
 ·rcases List.mem_cons.1 hD' with rfl | h'
  ·exact hD
  ·exact h.ma D' h'
set_option maxRecDepth 100000 in
set_option maxHeartbeats 4000000 in
theorem order_any(N:Int)(a:Option Addr)(l:List A)(cap:Nat)(w:World)(hl:l.length≤9223372036854775807)(hr:Arcs w a l):
  Calls Tryz.prog 122 #[.agg #[.int .i64 N, .slice a l.length cap]] w fun e w'=> ∃v xs,e= .returned (.tuple #[v, .int .i64 (chkE N l)])∧w'.ownsRow w.heap.size 3 1 v xs.length (cellsI (ints xs))∧xs=(if chkE N l=0 then (ordw (edl l) (2*l.length) N.toNat N.toNat).1 else [])∧Below w.heap.size w w':=by
 refine(callsIn_wide (n:=3)).1 ?_
 obtain⟨E,HE⟩:=named (chkE N l)
 obtain⟨AT,HAT⟩:=named (chkAt N l)
 obtain⟨i3,hi3,hz3,hs3,hby3⟩:=info_parts info3
 have hb0:Below w.heap.size w (w.alloc (.cells #[.int .i64 N, .slice a l.length cap] 24)):=(Below.refl _ _).alloc (Nat.le_refl _) _
 have hg0:=heap_top w (.cells #[.int .i64 N, .slice a l.length cap] 24)
 have HAR:=hid hr
 rw[HE.out]
 clear hr
 generalize hp:w.heap.size=p at*
 refine callsIn_of_wp_marks Tryz.func122 rfl trivial (wpIn_wide.2 ?_) rfl
 simp only[Tryz.ntmps122,List.size_toArray,List.length_cons,List.length_nil,Nat.reduceAdd,Nat.reduceSub,Array.replicate_succ,Array.replicate_zero,List.push_toArray,List.append_toArray,List.nil_append,List.cons_append]
 go_wp2_with fail
 generalize hW:w.alloc (.cells #[.int .i64 N, .slice a l.length cap] 24)=W at*
 refine(check_any N a l cap W hl (HAR.out.on (by rw[hp];exact hb0))).mono ?_
 rintro e w1 ⟨rfl,hb1⟩
 rw[HE.out,HAT.out]
 have hg1:=(hb1.block _ (lt_of_block hg0)).trans hg0
 have hpW:p≤W.heap.size:=Nat.le_of_lt (lt_of_block hg0)
 have HB1:Hid (Below p w w1):=hb0.trans (hb1.mono hpW)
 obtain⟨⟨g0,g1⟩,_⟩:=two_cells hg1
 clear hb1 hg0 hW hb0
 by_cases he:E=0
 ·have he2:(E != 0)=false:=by simp[he]
  obtain⟨hN1,hN2,hlb,hpo⟩:=chk_zero (HE.out.trans he)
  obtain⟨n,rfl⟩: ∃n:Nat,N=n:=⟨N.toNat,by omega⟩
  have hnb:n≤1024:=by omega
  have HPO:Hid (∀x,x∈l→0≤x.f∧x.f<n∧0≤x.t∧x.t<n):=fun x hx=>⟨(hpo x hx).1.1,(hpo x hx).1.2,(hpo x hx).2.1,(hpo x hx).2.2⟩
  have HAR1:Hid (∀X,Below w1.heap.size w1 X→Arcs X a l):=fun X hX=>HAR.out.on (by rw[hp];exact HB1.out.trans (hX.mono (hp▸HB1.out.size)))
  have hmk: ∀w,(Instr.makeSlice 25 (.int .i64 0) (.int .i64 n)).run Tryz.prog w= .ok (.slice (some ⟨w.heap.size,0,none⟩) 0 n) (w.alloc (.cells ((List.range n).map (fun _=>Value.int .i64 0)).toArray 3)):=fun w=>by
   have:=run_make (P:=Tryz.prog) w 25 3 i3 (.int .i64 0) Tryz.underlying25 hi3 hz3 .i64 .i64 0 n (by omega) (by omega) (by rw[hby3];omega) (by omega)
   rw[hs3] at this
   rw[this,Int.toNat_natCast,made_int]
   rfl
  have hpw1:p<w1.heap.size:=lt_of_block hg1
  have HABL:Hid (∀j,abl a l j→j<w1.heap.size):=fun j hj=>by have:=HAR.out.abl hj;rw[hp] at this;omega
  clear hpo
  go_wp2_with fail
  go_cut [6,7] from 18 to 22 (fun s6 s7 wc=> ∃r rb f b1 b2 bs,s6= .pointer (some ⟨r,0,none⟩)∧s7= .pointer (some ⟨f,0,none⟩)∧Hid (OSt w1 wc r rb f b1 b2 bs n a cap l))
  case first=>
   have G0:=hid g0
   have G1:=hid g1
   have HSZ:=hid hpw1
   have hn1:p≠w1.heap.size:=Nat.ne_of_lt hpw1
   have hn2:p≠w1.heap.size+1:=Nat.ne_of_lt (Nat.lt_succ_of_lt hpw1)
   have hn3:=hn1.symm
   have hn4:=hn2.symm
   go_region_held3 (fun w'=>w'.cell? ⟨p,0,none⟩=some (.int .i64 n)∧w'.cell? ⟨p,1,none⟩=some (.slice a l.length cap)) (go_keep) (((go_at_call 141;refine(begin_any n a l cap _ hnb (by omega) HPO.out (HAR1.out _ (by first | exact(Below.refl _ _).drew | exact((Below.refl _ _).alloc (Nat.le_refl _) _).drew | exact(((Below.refl _ _).alloc (Nat.le_refl _) _).alloc (by rw[World.size_alloc];exact Nat.le_succ _) _).drew))).mono ?_;rintro e w2 ⟨f,b1,b2,bs,rfl,hne,hlo,hB⟩;have HLO:=hid hlo;have HBG:=hid hB;have HNE:=hid hne;have BE:Below w1.heap.size w1 w2:=below_bs hB.be (by first | exact(Below.refl _ _).drew | exact((Below.refl _ _).alloc (Nat.le_refl _) _).drew | exact(((Below.refl _ _).alloc (Nat.le_refl _) _).alloc (by rw[World.size_alloc];exact Nat.le_succ _) _).drew);have s1:p≠w2.heap.size:=Nat.ne_of_lt (Nat.lt_of_lt_of_le HSZ.out BE.size);have s2:p≠w2.heap.size+1:=Nat.ne_of_lt (Nat.lt_succ_of_lt (Nat.lt_of_lt_of_le HSZ.out BE.size));have s3:=s1.symm;have s4:=s2.symm;have y0:=(BE.cell (p:=⟨p,0,none⟩) HSZ.out).trans G0.out;have y1:=(BE.cell (p:=⟨p,1,none⟩) HSZ.out).trans G1.out);clear hlo hB hne;first | (have zz:w2.heap[w1.heap.size]? =some (.cells #[.slice none 0 0] 25):=ob2 HBG.out.be;have mm:w2.heap[w1.heap.size+1]? =some (.cells ((List.range n).map (fun _=>Value.int .i64 0)).toArray 3):=ob3 HBG.out.be;obtain⟨z0,zf0⟩:=one_cells zz;have zlt:=lt_of_block zz;have zne:=Nat.ne_of_lt zlt) | (have zz:w2.heap[w1.heap.size+1]? =some (.cells #[.slice none 0 0] 25):=ob3 HBG.out.be;have mm:w2.heap[w1.heap.size]? =some (.cells ((List.range n).map (fun _=>Value.int .i64 0)).toArray 3):=ob2 HBG.out.be;obtain⟨z0,zf0⟩:=one_cells zz;have zlt:=lt_of_block zz;have zne:=Nat.ne_of_lt zlt) | (have zz:w2.heap[w1.heap.size]? =some (.cells #[.slice none 0 0] 25):=ob1 HBG.out.be;obtain⟨z0,zf0⟩:=one_cells zz;have zlt:=lt_of_block zz;have zne:=Nat.ne_of_lt zlt) | (have mm:w2.heap[w1.heap.size]? =some (.cells ((List.range n).map (fun _=>Value.int .i64 0)).toArray 3):=ob1 HBG.out.be) | skip))
   ·go_wp2_with fail
    go_meet
    case rel=>
     have hz:=dsz1 w1 (.cells ((List.range n).map (fun _=>Value.int .i64 0)).toArray 3)
     have hbv:Below w1.heap.size w1 (w1.alloc (.cells ((List.range n).map (fun _=>Value.int .i64 0)).toArray 3)).drew:=((Below.refl _ _).alloc (Nat.le_refl _) _).drew
     have hsz:=HBG.out.be.size
     exact⟨w2.heap.size,w1.heap.size,f,b1,b2,bs,rfl,rfl,os_of hbv HBG.out (HAR1.out _ hbv) HABL.out HLO.out HNE.out ((Fr.refl _ w2).alloc _) (heap_top w2 _) ((Below.heap_alloc w2 _ _ (lt_of_block mm)).trans mm) ⟨BE.size,Nat.le_refl _,by omega⟩ (.inr (Nat.le_refl _)) (.inl (by omega))⟩
   ·go_wp2_with fail
    go_meet
    case rel=>
     have hz:=dsz2 w1 (.cells ((List.range n).map (fun _=>Value.int .i64 0)).toArray 3) (.cells #[.slice none 0 0] 25)
     have hbv:Below w1.heap.size w1 ((w1.alloc (.cells ((List.range n).map (fun _=>Value.int .i64 0)).toArray 3)).alloc (.cells #[.slice none 0 0] 25)).drew:=(((Below.refl _ _).alloc (Nat.le_refl _) _).alloc (by simp) _).drew
     have hsz:=HBG.out.be.size
     refine⟨w1.heap.size+1,w1.heap.size,f,b1,b2,bs,rfl,rfl,os_of hbv HBG.out (HAR1.out _ hbv) HABL.out HLO.out HNE.out ((Fr.refl _ w2).setCell ⟨w1.heap.size+1,0,none⟩ _ rfl) ?_ ((Below.heap_setCell w2 _ _ _ (by show w1.heap.size≠w1.heap.size+1;omega)).trans mm) ⟨by omega,Nat.le_refl _,by omega⟩ (.inl (by omega)) (.inl (by omega))⟩
     rw[heap_setCell_same w2 _ 0 _ _ _ zz];simp
   ·go_wp2_with fail
    go_meet
    case rel=>
     have hbv:Below w1.heap.size w1 w1.drew:=(Below.refl _ _).drew
     have hsz:=HBG.out.be.size
     have hz:=dsz0 w1
     have h5:=heap_top (w2.alloc (.cells ((List.range n).map (fun _=>Value.int .i64 0)).toArray 3)) (.cells #[.slice (some ⟨w2.heap.size,0,none⟩) 0 n] 25)
     rw[World.size_alloc] at h5
     exact⟨w2.heap.size+1,w2.heap.size,f,b1,b2,bs,rfl,rfl,os_of hbv HBG.out (HAR1.out _ hbv) HABL.out HLO.out HNE.out (((Fr.refl _ w2).alloc _).alloc _) h5 ((Below.heap_alloc _ _ _ (by simp)).trans (heap_top w2 _)) ⟨by omega,by omega,by omega⟩ (.inr (by omega)) (.inr (by omega))⟩
   ·go_wp2_with fail
    go_meet
    case rel=>
     have hbv:Below w1.heap.size w1 w1.drew:=(Below.refl _ _).drew
     have hsz:=HBG.out.be.size
     have hz:=dsz0 w1
     have h5:=heap_top (w2.alloc (.cells #[.slice (some ⟨w2.heap.size+1,0,none⟩) 0 n] 25)) (.cells ((List.range n).map (fun _=>Value.int .i64 0)).toArray 3)
     rw[World.size_alloc] at h5
     exact⟨w2.heap.size,w2.heap.size+1,f,b1,b2,bs,rfl,rfl,os_of hbv HBG.out (HAR1.out _ hbv) HABL.out HLO.out HNE.out (((Fr.refl _ w2).alloc _).alloc _) ((Below.heap_alloc _ _ _ (by simp)).trans (heap_top w2 _)) h5 ⟨by omega,by omega,by omega⟩ (.inr (by omega)) (.inr (by omega))⟩
   ·go_wp2_with fail
    go_meet
    case rel=>
     have hz:=dsz2 w1 (.cells #[.slice none 0 0] 25) (.cells ((List.range n).map (fun _=>Value.int .i64 0)).toArray 3)
     have hbv:Below w1.heap.size w1 ((w1.alloc (.cells #[.slice none 0 0] 25)).alloc (.cells ((List.range n).map (fun _=>Value.int .i64 0)).toArray 3)).drew:=(((Below.refl _ _).alloc (Nat.le_refl _) _).alloc (by simp) _).drew
     have hsz:=HBG.out.be.size
     refine⟨w1.heap.size,w1.heap.size+1,f,b1,b2,bs,rfl,rfl,os_of hbv HBG.out (HAR1.out _ hbv) HABL.out HLO.out HNE.out ((Fr.refl _ w2).setCell ⟨w1.heap.size,0,none⟩ _ rfl) ?_ ((Below.heap_setCell w2 _ _ _ (by show w1.heap.size+1≠w1.heap.size;omega)).trans mm) ⟨by omega,by omega,by omega⟩ (.inl (by omega)) (.inl (by omega))⟩
     rw[heap_setCell_same w2 _ 0 _ _ _ zz];simp
   ·go_wp2_with fail
    go_meet
    case rel=>
     have hz:=dsz1 w1 (.cells #[.slice none 0 0] 25)
     have hbv:Below w1.heap.size w1 (w1.alloc (.cells #[.slice none 0 0] 25)).drew:=((Below.refl _ _).alloc (Nat.le_refl _) _).drew
     have hsz:=HBG.out.be.size
     have h5:=heap_top (w2.setCell ⟨w1.heap.size,0,none⟩ (.slice (some ⟨w2.heap.size,0,none⟩) 0 n)) (.cells ((List.range n).map (fun _=>Value.int .i64 0)).toArray 3)
     rw[show(w2.setCell ⟨w1.heap.size,0,none⟩ (.slice (some ⟨w2.heap.size,0,none⟩) 0 n)).heap.size=w2.heap.size by simp[World.setCell]] at h5
     refine⟨w1.heap.size,w2.heap.size,f,b1,b2,bs,rfl,rfl,os_of hbv HBG.out (HAR1.out _ hbv) HABL.out HLO.out HNE.out (((Fr.refl (fun j=>j=w1.heap.size) w2).setCell ⟨w1.heap.size,0,none⟩ _ rfl).alloc _) ?_ h5 ⟨by omega,by omega,by omega⟩ (.inl (by omega)) (.inr (by omega))⟩
     rw[Below.heap_alloc _ _ _ (by simp[World.setCell];omega),heap_setCell_same w2 _ 0 _ _ _ zz];simp
  case rest=>
   obtain⟨r,rb,f,b1,b2,bs,hs6,hs7,HO⟩:=hcut
   subst hs6 hs7
   have hgc:=(HO.out.be.block _ hpw1).trans hg1
   obtain⟨⟨k0,k1⟩,_⟩:=two_cells hgc
   clear g0 g1
   have hlo:=HO.out.lo
   have hnr:=HO.out.nr
   have hrl:=lt_of_block HO.out.hr
   have hfl:=lt_of_block HO.out.gr.gw.hd
   have h1l:=HO.out.gr.fi.lt
   have h2l:=HO.out.gr.nx.lt
   have hsl:=HO.out.gr.sn.lt
   have HOL0:Hid (OL w wc wc p r f b1 b2 bs n a cap l 0 []):=by
    have hbb:wc.ownsRow p 3 1 (.slice (some ⟨rb,0,none⟩) 0 n) 0 []:=⟨rfl, .inr ⟨rb,n,_,rfl,by omega,HO.out.hb,by omega,by unfold maxLen;omega,by simp,rfl⟩⟩
    refine⟨⟨some rb,⟨_,HO.out.hr,hbb,rfl⟩,fun b e=> ?_,hgc,fun D hD=>by simp at hD,HB1.out.trans (HO.out.be.mono (by omega)),Nat.le_refl _⟩,HO.out.gr,List.nodup_nil,fun D hD=>by simp at hD⟩
    injection e with e
    subst e
    rintro(h | h | h | h | h | h | h)
    ·omega
    ·omega
    ·omega
    ·omega
    ·omega
    ·omega
    ·have:=HABL.out _ h;omega
   go_wp2_with fail
   refine wp_loop_ghost_k (fun g a0 W=> ∃ (k:Nat) (Ds:List Nat) (u8 u26 u27 u28 u29 u30 u31 u32 u33 u34 u35 u36 u37 u43:Value),Hid (OL w wc W p r f b1 b2 bs n a cap l k Ds)∧g=n - k∧k≤n∧a0={tmps:= #[.agg #[.int .i64 (n:Int), .slice a l.length cap], .pointer (some ⟨p,0,none⟩), .slice none 0 0, .int .i64 0, .int .i64 AT, .int .i64 0, .pointer (some ⟨r,0,none⟩), .pointer (some ⟨f,0,none⟩),u8,undef, .tuple #[.int .i64 AT, .int .i64 0], .agg #[.int .i64 (n:Int), .slice a l.length cap], .tuple #[.int .i64 AT, .int .i64 0], .int .i64 AT, .int .i64 0, .int .i64 0, .bool false,undef,u18,u19,u20,u21,u22, .pointer (some ⟨p,0,none⟩), .int .i64 (n:Int), .int .i64 (k:Int),u26,u27,u28,u29,u30,u31,u32,u33,u34,u35,u36,u37,undef,undef,undef,undef,undef,u43,undef],defers:=Ds.map mark}) n ⟨0,[],undef,undef,undef,undef,undef,undef,undef,undef,undef,undef,undef,undef,undef,undef,HOL0,rfl,Nat.zero_le _,rfl⟩ ?_
   intro g a0 W0 hI J K hJ hK
   obtain⟨k,Ds,u8,u26,u27,u28,u29,u30,u31,u32,u33,u34,u35,u36,u37,u43,HOL,rfl,hk,rfl⟩:=hI
   have HHJ:=hid hJ
   have HHK:=hid hK
   clear hJ hK k0 k1
   obtain⟨k0,k1,k2,k3⟩:=four_cells HOL.out.gr.gw.hd
   by_cases hlt:k<n
   ·have hlt':(k:Int)<n:=by omega
    have ds:=HOL.out.gr.sn.cell hlt
    by_cases hs:(ordw (edl l) (2*l.length) n k).2 k=true
    ·rw[hs] at ds
     go_wp2_with fail
     refine HHK.out _ _ ⟨n - (k+1),by omega,HHJ.out _ _ _ ⟨k+1,Ds,_,_,_,_,_,_,_,_,_,_,_,_,_,_,?_,rfl,by omega,by push_cast;rfl⟩⟩
     have e:=ordw_skip hs
     obtain⟨ρ,hoi⟩:=HOL.out.oi
     exact⟨⟨ρ,by rw[e];exact hoi⟩,by rw[e];exact HOL.out.gr,HOL.out.nd,HOL.out.dl⟩
    ·have hs':(ordw (edl l) (2*l.length) n k).2 k=false:=by simpa using hs
     rw[hs'] at ds
     go_wp2_with fail
     refine(around_any f (k:Int) W0).mono ?_
     rintro e w2 ⟨rfl,rfl⟩
     go_wp2_with fail
     obtain⟨ρ0,hoi⟩:=HOL.out.oi
     have hW0:wc.heap.size≤W0.heap.size:=hoi.sz
     have hVz:((W0.alloc (.cells #[.pointer (some ⟨f,0,none⟩)] 197)).alloc (.cells #[.int .i64 (k:Int)] 3)).heap.size=W0.heap.size+2:=by simp
     have hV1:=(Below.heap_alloc (W0.alloc (.cells #[.pointer (some ⟨f,0,none⟩)] 197)) (.cells #[.int .i64 (k:Int)] 3) W0.heap.size (by simp)).trans (heap_top W0 (.cells #[.pointer (some ⟨f,0,none⟩)] 197))
     have hV2:=heap_top (W0.alloc (.cells #[.pointer (some ⟨f,0,none⟩)] 197)) (.cells #[.int .i64 (k:Int)] 3)
     rw[World.size_alloc] at hV2
     have hVF:Fr (fun _=>False) W0 ((W0.alloc (.cells #[.pointer (some ⟨f,0,none⟩)] 197)).alloc (.cells #[.int .i64 (k:Int)] 3)):=((Fr.refl _ W0).alloc _).alloc _
     generalize hV:(W0.alloc (.cells #[.pointer (some ⟨f,0,none⟩)] 197)).alloc (.cells #[.int .i64 (k:Int)] 3)=V at*
     clear hV
     have habl: ∀j,abl a l j→j<w1.heap.size:=HABL.out
     have hw1c:w1.heap.size≤wc.heap.size:=HO.out.be.size
     have hGr:Gr V f b1 b2 bs n a cap l (ordw (edl l) (2*l.length) n k).2:=by
      have h2:=HOL.out.gr
      exact⟨h2.gw.fr hVF (fun h=>h),h2.ar.fr hVF (fun _ _ h=>h),h2.fi.fr hVF (fun h=>h),h2.nx.fr hVF (fun h=>h),h2.sn.fr hVF (fun h=>h)⟩
     have hGf:Gf (V.heap.size+2) f b1 b2 bs n a l:=⟨HO.out.ne,⟨by omega,by omega,by omega,by omega⟩,fun j hj=>⟨by have:=habl j hj;omega,by have:=habl j hj;omega⟩,hnb,by omega,HPO.out⟩
     have hI0:=hoi.begin hVF rfl
     have hDs: ∀D,D∈Ds→D≠bs∧D<V.heap.size∧D≠r∧D<W0.heap.size:=fun D hD=>by
      have h1:=lt_of_block (hoi.ma D hD)
      have h2:=HOL.out.dl D hD
      refine⟨by omega,by omega,by omega,h1⟩
     have hXl: ∀j,(Ib f b1 b2 bs W0.heap.size (W0.heap.size+1) a l j∨j=r∨j=p)→j<V.heap.size:=fun j hj=>by
      rcases hj with (h | h | h | h | h | h | h) | h | h
      ·omega
      ·omega
      ·omega
      ·omega
      ·omega
      ·omega
      ·have:=habl _ h;omega
      ·omega
      ·omega
     have hord:=ordw_inv (E:=edl l) (M:=2*l.length) (N:=n) (fun u v=>adj_sym (fun x hx=>⟨(HPO.out x hx).1,(HPO.out x hx).2.2.1⟩) u v) (k+1) (by omega)
     rw[ordw_grow hs'] at hord
     have hlenAll:((ordw (edl l) (2*l.length) n k).1++whole (edl l) (2*l.length) n (ordw (edl l) (2*l.length) n k).2 k).length≤n:=nodup_short hord.nd hord.lt
     have HLA:=hid hlenAll
     have HDS:=hid hDs
     have HXL:=hid hXl
     have HAB:Abd V.heap.size f b1 b2 bs W0.heap.size (W0.heap.size+1) a l (OI w V.heap.size p r n (.slice a l.length cap) (fun j=>Ib f b1 b2 bs W0.heap.size (W0.heap.size+1) a l j∨j=r∨j=p) Ds (ordw (edl l) (2*l.length) n k).1):=by
      constructor
      ·intro pre ρ W W' j0 h hj hne hf
       exact h.on (bs:=bs) (.inl (.inr (.inr (.inr (.inl rfl))))) ⟨by omega,by omega,by omega,by omega,by omega⟩ (fun D hD=>⟨(HDS.out D hD).1,(HDS.out D hD).2.1⟩) hp hj hne hf
      ·intro pre ρ W b h e
       exact⟨(h.row e).1,fun hb=>h.nx b e (.inl hb)⟩
     have HGD:=hid (ordw_grow hs')
     have HNDS:=hid HOL.out.nd
     have HDLS:=hid HOL.out.dl
     clear hord hlenAll hDs hXl hoi HOL HOL0 k0 k1 k2 k3 ds
     refine wpIn_wide.1 (range_around (n:=3) (r:=r) (p1:=W0.heap.size) (p2:=W0.heap.size+1) (c:=k) (by omega) rfl hGf hlt ⟨by omega,by omega,by omega,by omega,by omega,by omega,fun j hj=>by have:=habl j hj;omega,by omega⟩ ⟨by omega,by omega⟩ ?ib hGr ?c1 ?c2
      (OI w V.heap.size p r n (.slice a l.length cap) (fun j=>Ib f b1 b2 bs W0.heap.size (W0.heap.size+1) a l j∨j=r∨j=p) Ds (ordw (edl l) (2*l.length) n k).1) (fun _ _ _=>False) (fun _ _=>False) HAB ⟨fun _ _ _ _ _ h=>h.elim,fun _ _ _ _ h=>h.elim⟩ ρ0 hI0
      (fun x=>{tmps:= #[.agg #[.int .i64 (n:Int), .slice a l.length cap], .pointer (some ⟨p,0,none⟩), .slice none 0 0, .int .i64 0, .int .i64 AT, .int .i64 0, .pointer (some ⟨r,0,none⟩), .pointer (some ⟨f,0,none⟩), .int .i64 (k:Int), .int .i64 (x:Int), .tuple #[.int .i64 AT, .int .i64 0], .agg #[.int .i64 (n:Int), .slice a l.length cap], .tuple #[.int .i64 AT, .int .i64 0], .int .i64 AT, .int .i64 0, .int .i64 0, .bool false,undef,u18,u19,u20,u21,u22, .pointer (some ⟨p,0,none⟩), .int .i64 (n:Int), .int .i64 (k:Int), .bool true, .int .i64 (k:Int), .pointer (some ⟨f,0,none⟩), .pointer (some ⟨f,0,none⟩), .pointer (some ⟨f,3,none⟩), .slice (some ⟨bs,0,none⟩) n n, .int .i64 (k:Int), .pointer (some ⟨bs,k,none⟩), .bool false, .pointer (some ⟨f,0,none⟩), .int .i64 (k:Int), .func (.func 171) #[] #[.pointer (some ⟨W0.heap.size,0,none⟩), .pointer (some ⟨W0.heap.size+1,0,none⟩)], .int .i64 (x:Int),undef,undef,undef,undef,u43,undef],defers:= []}) ?assign ?body ?done ?stop)
     case ib=>
      rintro(h | h | h | h | h | h | h)
      ·omega
      ·omega
      ·omega
      ·omega
      ·omega
      ·omega
      ·have:=habl _ h;omega
     case c1=>simp[World.cell?,hV1]
     case c2=>simp[World.cell?,hV2]
     case assign=>
      intro L x W K hK
      gi_wp2
      exact hK
     case body=>
      intro L pre ρ x W h hpre
      obtain⟨rv,h1,h2,h3⟩:=h.ex
      obtain⟨av,cv,rfl⟩:=own_slice h2
      have hml:((ordw (edl l) (2*l.length) n k).1++pre).length+1≤n:=by
       have h5:=hpre.length_le
       have h6:=HLA.out
       simp only[List.length_append,List.length_cons,List.length_nil] at h5 h6 ⊢
       omega
      have hx1:W.cell? ⟨r,0,none⟩=some (.slice av ((ordw (edl l) (2*l.length) n k).1++pre).length cv):=by simp[World.cell?,h1]
      have HNW:=hid (one_new W (x:Int))
      have HOW:=hid (h2.alloc (.cells #[.int .i64 (x:Int)] 3))
      have hpW:p<W.heap.size:=lt_of_block h.bx
      have HBZ:Hid (p≤(W.alloc (.cells #[.int .i64 (x:Int)] 3)).heap.size):=by show _≤_;simp;omega
      have HOI:=hid h
      have HADD:=hid (fun g6 c6 w6=>OI.add (x:=x) (g6:=g6) (c6:=c6) (w6:=w6) (o:= .cells #[.int .i64 (x:Int)] 3) h (.inr (.inl rfl)) (.inr (.inr rfl)) HXL.out ⟨by omega,by omega⟩ (fun D hD=>(HDS.out D hD).2.2.1) hp)
      have HOB:Hid ((Value.slice av ((ordw (edl l) (2*l.length) n k).1++pre).length cv).ownBlock=ρ):=h3
      clear h h2 h3
      generalize hm:((ordw (edl l) (2*l.length) n k).1++pre).length=m at*
      gi_wp2_with (gi_at_builtin;refine wpListIn_append_own_at _ rfl (.tmp 39) (.tmp 41) 25 rfl p 3 i3 (.int .i64 0) 1 8 Tryz.underlying25 hi3 hz3 hs3 hby3 rfl (by decide) (.slice av m cv) m (cellsI (ints ((ordw (edl l) (2*l.length) n k).1++pre))) rfl HOW.out ⟨W.heap.size,0,none⟩ 1 1 [.int .i64 (x:Int)] rfl rfl HNW.out (one_i64 _) (by unfold maxLen;omega) (by omega) HBZ.out ?_;intro v6 w6 hown6 hgrow6 hnil6 hb6;obtain⟨g6,c6,hv6,_,_,_,_⟩:=own_shape hown6 (fun e=>by have:=hnil6.1 e;simp at this);subst hv6;rw[HOB.out] at hgrow6 hb6;obtain⟨e61,hri,hfr,hro⟩:=HADD.out g6 c6 w6 hown6 hgrow6 (hb6.imp id (fun e=>by have:=Option.some.inj (show some g6=some _ from e);simpa using this));have HRF:=hid hri;have HFF:=hid hfr;have HOO:=hid hro;rw[h1] at e61;have y1:w6.cell? ⟨r,0,none⟩=some (.slice av m cv):=by simp[World.cell?,e61]
                   have y2:w6.frozen? ⟨r,0,none⟩=false:=by simp[World.frozen?,e61]
                   clear hown6 hgrow6 hnil6 hb6 hri hfr hro e61)
      exact⟨_,HRF.out,HFF.out,HOO.out⟩
     case done=>
      intro ρ W h hg hK
      go_wp2_with fail
      refine HHK.out _ _ ⟨n - (k+1),by omega,HHJ.out _ _ _ ⟨k+1,V.heap.size::Ds,_,_,_,_,_,_,_,_,_,_,_,_,_,_,?_,rfl,by omega,by push_cast;rfl⟩⟩
      refine⟨⟨ρ,by rw[HGD.out];exact h.done hK (by omega)⟩,by rw[HGD.out];exact hg,?_,?_⟩
      ·rw[List.nodup_cons]
       exact⟨fun hD=>by have:=(HDS.out _ hD).2.1;omega,HNDS.out⟩
      ·intro D hD
       rcases List.mem_cons.1 hD with rfl | hD
       ·omega
       ·exact HDLS.out D hD
     case stop=>
      rintro cd pre ρ W _ hF
      exact hF.elim
   ·obtain rfl:k=n:=by omega
    have hlt': ¬(k:Int)<k:=by omega
    obtain⟨ρ,hoi⟩:=HOL.out.oi
    obtain⟨rv,h1,h2,h3⟩:=hoi.ex
    obtain⟨av,cv,rfl⟩:=own_slice h2
    have hx1:W0.cell? ⟨r,0,none⟩=some (.slice av ([]++(ordw (edl l) (2*l.length) k k).1).length cv):=by simp[World.cell?,h1]
    rw[List.nil_append] at hx1 h2
    have HH2:=hid h2
    have HH3:=hid h3
    have HHO:=hid hoi
    clear h2 h3 hoi h1
    go_wp2_with fail
    refine leaves_marks Ds W0 HOL.out.nd HHO.out.ma (fun W' hf=> ?_)
    refine⟨.tuple #[.slice av (ordw (edl l) (2*l.length) k k).1.length cv, .int .i64 0],by simp[results,Tryz.results122,go_sem],_,rfl,(ordw (edl l) (2*l.length) k k).1,?_,?_,?_⟩
    ·exact own_frv HH2.out hf (fun b hb e=>HHO.out.mrow e (by rw[←HH3.out];exact hb))
    ·first | rfl | simp
    ·have hb:=HHO.out.be
     refine⟨hf.os.trans hb.os,hf.tape.trans hb.tape,hf.output.trans hb.output,Nat.le_trans hb.size hf.size,fun j hj=>(hf.block j (by have:=hb.size;omega) (fun e=>by have:=HOL.out.dl j e;omega)).trans (hb.block j hj)⟩
 ·have he2:(E != 0)=true:=by simp[he]
  go_wp2_with fail
  exact⟨.tuple #[.slice none 0 0, .int .i64 E],by simp[results,Tryz.results122,go_sem], .slice none 0 0,rfl,[],World.ownsRow_nil _ _ _ _,rfl,HB1.out⟩
end Go.Proofs.YtmenajiceaicpaaGreat
