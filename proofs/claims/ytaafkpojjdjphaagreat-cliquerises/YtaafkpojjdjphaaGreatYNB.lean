import Derived.Deep.RegionHeld3
import Derived.Test.YtaafkpojjdjphaaGreatYNA
set_option maxRecDepth 100000
namespace Go.Proofs.YtaafkpojjdjphaaGreat.N5.Hp
open Go.RowKit
theorem named{α:Sort _}(x:α): ∃y,Hid (x=y):=⟨x,rfl⟩
theorem heap_top(w:World)(o:Obj):(w.alloc o).heap[w.heap.size]? =some o:=by show(w.heap.push o)[w.heap.size]? =_;simp
theorem bthen{B:Nat}{w w1 w2:World}(h:Below B w w1)(k:Below w1.heap.size w1 w2)(hB:B≤w1.heap.size):Below B w w2:=h.trans (k.mono hB)
def cellsI(l:List Int):List Value:=l.map (Value.int .i64)
theorem cellsI_len(l:List Int):(cellsI l).length=l.length:=by unfold cellsI;simp
theorem cellsI_getD(xs:List Int)(k:Nat)(h:k<xs.length):(cellsI xs)[k]? =some (.int .i64 (xs.getD k 0)):=by
 unfold cellsI
 simp[List.getD,List.getElem?_eq_getElem h]
theorem cellsI_set(xs:List Int)(k:Nat)(x:Int):(cellsI xs).set k (.int .i64 x)=cellsI (xs.set k x):=by
 unfold cellsI
 rw[List.map_set]
def cellsM:List M→List Value
 | []=> []
 | m::r=> .int .i64 m.id:: .int .u64 m.key::cellsM r
theorem cellsM_len(l:List M):(cellsM l).length=l.length*2:=by
 induction l with
 | nil=>rfl
 | cons m r ih=>simp[cellsM,ih];omega
theorem cellsM_app(l r:List M):cellsM (l++r)=cellsM l++cellsM r:=by
 induction l with
 | nil=>rfl
 | cons m l ih=>simp[cellsM,ih]
theorem cellsM_get(l:List M): ∀k,k<l.length→(cellsM l)[k*2]? =some (.int .i64 (gm l k).id)∧(cellsM l)[k*2+1]? =some (.int .u64 (gm l k).key):=by
 induction l with
 | nil=>intro k hk;simp at hk
 | cons m r ih=>
   intro k hk
   match k with
   | 0=>simp[cellsM,gm]
   | k+1=>
     have:=ih k (by simpa using hk)
     rw[show(k+1)*2=k*2+1+1 by omega,show gm (m::r) (k+1)=gm r k by simp[gm]]
     simpa[cellsM] using this
theorem cellsM_set(l:List M): ∀k (x:M),k<l.length→((cellsM l).set (k*2) (.int .i64 x.id)).set (k*2+1) (.int .u64 x.key)=cellsM (l.set k x):=by
 induction l with
 | nil=>intro k x hk;simp at hk
 | cons m r ih=>
   intro k x hk
   match k with
   | 0=>simp[cellsM]
   | k+1=>
     have:=ih k x (by simpa using hk)
     rw[show(k+1)*2=k*2+1+1 by omega]
     simpa[cellsM] using this
theorem cellsM_take(l:List M)(k:Nat):(cellsM l).take (k*2)=cellsM (l.take k):=by
 induction l generalizing k with
 | nil=>simp[cellsM]
 | cons m r ih=>
   match k with
   | 0=>simp[cellsM]
   | k+1=>rw[show(k+1)*2=k*2+1+1 by omega];simp[cellsM,ih]
structure Rep(w:World)(h p:Nat)(v:Value)(n:Nat)(ms:List M)(pl:List Int):Prop where
 hd:w.heap[h]? =some (.cells #[v, .slice (some ⟨p,0,none⟩) n n, .func (.func 213) #[] #[]] 280 (0,0))
 own:w.ownsRow 0 285 2 v ms.length (cellsM ms)
 pb:w.heap[p]? =some (.cells (cellsI pl).toArray 3 (0,0))
 hp:h≠p
 hv:v.ownBlock≠some h
 pv:v.ownBlock≠some p
 pn:pl.length=n
 nb:n≤16384
theorem cells3{w:World}{g:Nat}{a b c:Value}{t:TypeId}(h:w.heap[g]? =some (.cells #[a,b,c] t)):(w.cell? ⟨g,0,none⟩=some a∧w.cell? ⟨g,1,none⟩=some b∧w.cell? ⟨g,2,none⟩=some c)∧(w.frozen? ⟨g,0,none⟩=false∧w.frozen? ⟨g,1,none⟩=false∧w.frozen? ⟨g,2,none⟩=false):=by
 simp[World.cell?,World.frozen?,h]
theorem cells2{w:World}{g:Nat}{a b:Value}{t:TypeId}(h:w.heap[g]? =some (.cells #[a,b] t)):(w.cell? ⟨g,0,none⟩=some a∧w.cell? ⟨g,1,none⟩=some b)∧(w.frozen? ⟨g,0,none⟩=false∧w.frozen? ⟨g,1,none⟩=false):=by
 simp[World.cell?,World.frozen?,h]
theorem own_shape{w:World}{base:Nat}{e:TypeId}{size:Nat}{v:Value}{n:Nat}{xs:List Value}(h:w.ownsRow base e size v n xs)(hn:0<n): ∃g c,v= .slice (some ⟨g,0,none⟩) n c∧n≤c∧g<w.heap.size∧c≤9223372036854775807:=by
 rcases h.2 with ⟨_,h'⟩ | ⟨g,c,cur,h',hb,hg,hnc,hm,_⟩
 ·omega
 ·exact⟨g,c,h',hnc,lt_of_block hg,hm⟩
theorem own_slice{w:World}{base:Nat}{e:TypeId}{size:Nat}{v:Value}{n:Nat}{xs:List Value}(h:w.ownsRow base e size v n xs): ∃a c,v= .slice a n c:=by
 rcases h.2 with ⟨rfl,rfl⟩ | ⟨g,c,cur,rfl,_⟩
 ·exact⟨none,0,rfl⟩
 ·exact⟨_,c,rfl⟩
theorem Rep.place{w:World}{h p:Nat}{v:Value}{n:Nat}{ms:List M}{pl:List Int}(r:Rep w h p v n ms pl)(x:Nat)(hx:x<n):w.cell? ⟨p,x,none⟩=some (.int .i64 (pl.getD x 0))∧w.frozen? ⟨p,x,none⟩=false:=by
 have h1:=cellsI_getD pl x (by rw[r.pn];exact hx)
 have hs:x<(cellsI pl).toArray.size:=by simp[cellsI_len,r.pn];exact hx
 refine⟨?_,?_⟩
 ·simp[World.cell?,r.pb];exact h1
 ·simp[World.frozen?,r.pb]
theorem Rep.member{w:World}{h p:Nat}{g c:Nat}{n:Nat}{ms:List M}{pl:List Int}(r:Rep w h p (.slice (some ⟨g,0,none⟩) ms.length c) n ms pl)(k:Nat)(hk:k<ms.length):
  (w.cell? ⟨g,k*2,none⟩=some (.int .i64 (gm ms k).id)∧w.cell? ⟨g,k*2+1,none⟩=some (.int .u64 (gm ms k).key))∧(w.frozen? ⟨g,k*2,none⟩=false∧w.frozen? ⟨g,k*2+1,none⟩=false):=by
 obtain⟨a,b⟩:=cellsM_get ms k hk
 have h1:=r.own.cells (g:=g) rfl _ _ a
 have h2:=r.own.cells (g:=g) rfl _ _ b
 rcases r.own.2 with ⟨h',_⟩ | ⟨g',c',cur,h',_,hg,_⟩
 ·cases h'
 ·cases h'
  refine⟨⟨?_,?_⟩,?_,?_⟩
  ·have e:(⟨g,0,none⟩:Addr).add (k*2)=⟨g,k*2,none⟩:=by unfold Addr.add;split <;> simp_all
   rw[e] at h1;exact h1
  ·simpa[Addr.add] using h2
  ·simp[World.frozen?,hg]
  ·simp[World.frozen?,hg]
set_option maxHeartbeats 400000 in
theorem nearer_any(a b:M)(w:World):
  Calls Tryz.prog 213 #[.agg #[.int .i64 a.id, .int .u64 a.key], .agg #[.int .i64 b.id, .int .u64 b.key]] w fun e w'=>e= .returned (.bool (ahead a b))∧Below w.heap.size w w':=by
 by_cases h1:a.key=b.key
 ·by_cases h2:a.id<b.id
  ·have h2':(a.id:Int)<b.id:=by omega
   have hq:(a.key==b.key)=true:=by simpa using h1
   rw[show ahead a b=true by simp[ahead,h1,h2]]
   clear h1 h2
   go_enter Tryz.func213,Tryz.ntmps213
   go_wp2_with fail
   go_ret
   exact⟨rfl,((Below.refl _ _).alloc (Nat.le_refl _) _).alloc (by simp) _⟩
  ·have h2': ¬(a.id:Int)<b.id:=by omega
   have hq:(a.key==b.key)=true:=by simpa using h1
   rw[show ahead a b=false by simp[ahead,h1,h2]]
   clear h1 h2
   go_enter Tryz.func213,Tryz.ntmps213
   go_wp2_with fail
   go_ret
   exact⟨rfl,((Below.refl _ _).alloc (Nat.le_refl _) _).alloc (by simp) _⟩
 ·have hq:(a.key==b.key)=false:=beq_eq_false_iff_ne.2 h1
  by_cases h2:a.key<b.key
  ·rw[show ahead a b=true by simp[ahead,h2]]
   clear h1
   go_enter Tryz.func213,Tryz.ntmps213
   go_wp2_with fail
   go_ret
   exact⟨rfl,((Below.refl _ _).alloc (Nat.le_refl _) _).alloc (by simp) _⟩
  ·rw[show ahead a b=false by simp[ahead,h1,h2]]
   clear h1
   go_enter Tryz.func213,Tryz.ntmps213
   go_wp2_with fail
   go_ret
   exact⟨rfl,((Below.refl _ _).alloc (Nat.le_refl _) _).alloc (by simp) _⟩
def okI(n:Nat)(x:Int):Bool:=decide (0≤x∧x<n)
set_option maxHeartbeats 400000 in
theorem may_any{w:World}{h p:Nat}{v:Value}{n:Nat}{ms:List M}{pl:List Int}(r:Rep w h p v n ms pl)(x:Int):
  Calls Tryz.prog 225 #[.pointer (some ⟨h,0,none⟩), .int .i64 x] w fun e w'=>e= .returned (.bool (okI n x))∧w'=w:=by
 obtain⟨⟨c0,c1,c2⟩,f0,f1,f2⟩:=cells3 r.hd
 by_cases h1:0≤x
 ·by_cases h2:x<n
  ·rw[show okI n x=true by simp[okI,h1,h2]]
   go_enter Tryz.func225,Tryz.ntmps225
   go_wp2_with fail
   go_ret
   exact⟨rfl,rfl⟩
  ·rw[show okI n x=false by simp[okI,h2]]
   go_enter Tryz.func225,Tryz.ntmps225
   go_wp2_with fail
   go_ret
   exact⟨rfl,rfl⟩
 ·rw[show okI n x=false by simp[okI,h1]]
  go_enter Tryz.func225,Tryz.ntmps225
  go_wp2_with fail
  go_ret
  exact⟨rfl,rfl⟩
set_option maxHeartbeats 400000 in
theorem find_any{w:World}{h p:Nat}{v:Value}{n:Nat}{ms:List M}{pl:List Int}(r:Rep w h p v n ms pl)(x:Nat)(hx:x<n)(q:Nat)(hq:pl.getD x 0=q)(hq2:q≤16384):
  Calls Tryz.prog 241 #[.pointer (some ⟨h,0,none⟩), .int .i64 x] w fun e w'=>e= .returned (.tuple #[.int .i64 ((q:Int) - 1), .bool (decide (0<q))])∧w'=w:=by
 obtain⟨⟨c0,c1,c2⟩,f0,f1,f2⟩:=cells3 r.hd
 obtain⟨d0,_⟩:=r.place x hx
 rw[hq] at d0
 clear hq
 by_cases h1:0<q
 ·rw[show decide (0<q)=true by simpa using h1]
  have h1':decide (1≤(q:Int))=true:=by simp;omega
  go_enter Tryz.func241,Tryz.ntmps241
  go_wp2_with fail
  go_ret2
  exact⟨rfl,rfl⟩
 ·rw[show decide (0<q)=false by simpa using h1]
  have h1':decide (1≤(q:Int))=false:=by simp;omega
  go_enter Tryz.func241,Tryz.ntmps241
  go_wp2_with fail
  go_ret2
  exact⟨rfl,rfl⟩
structure Fr(D:Nat→Prop)(w w':World):Prop where
 os:w'.os=w.os
 tape:w'.tape=w.tape
 output:w'.output=w.output
 size:w.heap.size≤w'.heap.size
 block: ∀k,k<w.heap.size→¬D k→w'.heap[k]? =w.heap[k]?
theorem Fr.refl(D:Nat→Prop)(w:World):Fr D w w:=⟨rfl,rfl,rfl,Nat.le_refl _,fun _ _ _=>rfl⟩
theorem Fr.trans{D D':Nat→Prop}{a b c:World}(h:Fr D a b)(k:Fr D' b c)(hd: ∀x,D' x→D x∨a.heap.size≤x):Fr D a c:=
 ⟨k.os.trans h.os,k.tape.trans h.tape,k.output.trans h.output,Nat.le_trans h.size k.size,fun i hi hn=>(k.block i (Nat.lt_of_lt_of_le hi h.size) (fun e=>by rcases hd i e with e' | e';exact hn e';omega)).trans (h.block i hi hn)⟩
theorem Fr.then{D:Nat→Prop}{a b c:World}(h:Fr D a b)(k:Fr D b c):Fr D a c:=h.trans k (fun _ e=>Or.inl e)
theorem Fr.of{D:Nat→Prop}{a b:World}(h:Below a.heap.size a b):Fr D a b:=⟨h.os,h.tape,h.output,h.size,fun k hk _=>h.block k hk⟩
theorem Fr.alloc{D:Nat→Prop}{a b:World}(h:Fr D a b)(o:Obj):Fr D a (b.alloc o):=h.then (Fr.of ((Below.refl _ _).alloc (Nat.le_refl _) o))
theorem Fr.drew{D:Nat→Prop}{a b:World}(h:Fr D a b):Fr D a b.drew:=⟨h.os,h.tape,h.output,h.size,h.block⟩
theorem Fr.setCell{D:Nat→Prop}{a b:World}(h:Fr D a b)(p:Addr)(u:Value)(hp:D p.block∨a.heap.size≤p.block):Fr D a (b.setCell p u):=
 ⟨h.os,h.tape,h.output,by simpa using h.size,fun k hk hn=>(Below.heap_setCell b p u k (fun e=>by subst e;rcases hp with hp | hp;exact hn hp;omega)).trans (h.block k hk hn)⟩
theorem Fr.below{D:Nat→Prop}{a b:World}{B:Nat}(h:Fr D a b)(hB:B≤a.heap.size)(hd: ∀x,D x→B≤x):Below B a b:=
 ⟨h.os,h.tape,h.output,h.size,fun k hk=>h.block k (by omega) (fun e=>by have:=hd k e;omega)⟩
theorem Fr.mono{D D':Nat→Prop}{a b:World}(h:Fr D a b)(hd: ∀x,D x→D' x):Fr D' a b:=⟨h.os,h.tape,h.output,h.size,fun k hk hn=>h.block k hk (fun e=>hn (hd k e))⟩
def Dof(h p:Nat)(v:Value)(k:Nat):Prop:=k=h∨k=p∨v.ownBlock=some k
section
variable {w w':World} {h p:Nat} {v:Value} {n:Nat} {ms:List M} {pl:List Int}
theorem own_same{w w':World}{base:Nat}{e:TypeId}{size:Nat}{v:Value}{n:Nat}{xs:List Value}(h:w.ownsRow base e size v n xs)(hs: ∀k,v.ownBlock=some k→w'.heap[k]? =w.heap[k]?):w'.ownsRow base e size v n xs:=by
 refine⟨h.1,?_⟩
 rcases h.2 with h' | ⟨g,c,cur,rfl,h2,h3,h4⟩
 ·exact Or.inl h'
 ·exact Or.inr ⟨g,c,cur,rfl,h2,(hs g rfl).trans h3,h4⟩
theorem Rep.same(r:Rep w h p v n ms pl)(hs: ∀k,Dof h p v k→w'.heap[k]? =w.heap[k]?):Rep w' h p v n ms pl:=
 ⟨(hs h (Or.inl rfl)).trans r.hd,own_same r.own (fun k hk=>hs k (Or.inr (Or.inr hk))),(hs p (Or.inr (Or.inl rfl))).trans r.pb,r.hp,r.hv,r.pv,r.pn,r.nb⟩
theorem Rep.lt(r:Rep w h p v n ms pl): ∀k,Dof h p v k→k<w.heap.size:=by
 rintro k (rfl | rfl | hk)
 ·exact lt_of_block r.hd
 ·exact lt_of_block r.pb
 ·exact(r.own.lt k hk).2
theorem Rep.on(r:Rep w h p v n ms pl)(hb:Below w.heap.size w w'):Rep w' h p v n ms pl:=r.same (fun k hk=>hb.block k (r.lt k hk))
theorem Rep.alloc(r:Rep w h p v n ms pl)(o:Obj):Rep (w.alloc o) h p v n ms pl:=r.on ((Below.refl _ _).alloc (Nat.le_refl _) o)
theorem Rep.drew(r:Rep w h p v n ms pl):Rep w.drew h p v n ms pl:=r.same (fun _ _=>rfl)
theorem Rep.setP(r:Rep w h p v n ms pl)(x:Nat)(y:Int):Rep (w.setCell ⟨p,x,none⟩ (.int .i64 y)) h p v n ms (pl.set x y):=by
 have hh:(w.setCell ⟨p,x,none⟩ (.int .i64 y)).heap[h]? =w.heap[h]? :=heap_setCell_other w _ h _ r.hp
 refine⟨hh.trans r.hd,own_same r.own (fun k hk=>heap_setCell_other w _ k _ (fun e=>r.pv (by rw[hk];exact congrArg some e))),?_,r.hp,r.hv,r.pv,by simp[r.pn],r.nb⟩
 rw[heap_setCell_same w p x _ _ _ r.pb]
 simp[cellsI_set]
theorem Rep.setM{g c:Nat}(r:Rep w h p (.slice (some ⟨g,0,none⟩) ms.length c) n ms pl)(k:Nat)(m:M)(hk:k<ms.length):
  Rep ((w.setCell ⟨g,k*2,none⟩ (.int .i64 m.id)).setCell ⟨g,k*2+1,none⟩ (.int .u64 m.key)) h p (.slice (some ⟨g,0,none⟩) ms.length c) n (ms.set k m) pl:=by
 have n1:h≠g:=fun e=>r.hv (by rw[e];rfl)
 have n2:p≠g:=fun e=>r.pv (by rw[e];rfl)
 refine⟨?_,?_,?_,r.hp,r.hv,r.pv,r.pn,r.nb⟩
 ·rw[heap_setCell_other _ _ h _ n1,heap_setCell_other _ _ h _ n1];exact r.hd
 ·have hlen:=cellsM_len (ms.set k m)
  refine⟨by simpa using hlen,?_⟩
  rcases r.own.2 with ⟨h',_⟩ | ⟨g',c',cur,h',h2,h3,h4,h5,h6,h7⟩
  ·cases h'
  ·cases h'
   refine Or.inr ⟨g,c,(cur.setIfInBounds (k*2) (.int .i64 m.id)).setIfInBounds (k*2+1) (.int .u64 m.key),by simp,h2,?_,by simpa using h4,h5,by simpa using h6,?_⟩
   ·exact heap_setCell_same _ g _ _ _ _ (heap_setCell_same _ g _ _ _ _ h3)
   ·rw[←cellsM_set ms k m hk,←h7]
    simp only[Array.toList_setIfInBounds,List.take_set,List.length_set]
 ·rw[heap_setCell_other _ _ p _ n2,heap_setCell_other _ _ p _ n2];exact r.pb
end
set_option maxHeartbeats 1600000 in
theorem put_any{w:World}{h p:Nat}{v:Value}{n:Nat}{ms:List M}{pl:List Int}(r:Rep w h p v n ms pl)(k:Nat)(hk:k<ms.length)(m:M)(hm:m.id<n)(hl:ms.length≤16384):
  Calls Tryz.prog 227 #[.pointer (some ⟨h,0,none⟩), .int .i64 k, .agg #[.int .i64 m.id, .int .u64 m.key]] w fun e w'=>e= .returned (.tuple #[])∧Rep w' h p v n (ms.set k m) (pl.set m.id (k+1))∧Fr (Dof h p v) w w':=by
 obtain⟨g,c,rfl,hc1,hg1,hc2⟩:=own_shape r.own (by omega)
 obtain⟨⟨c0,c1,c2⟩,f0,f1,f2⟩:=cells3 r.hd
 obtain⟨⟨d0,d1⟩,e0,e1⟩:=r.member k hk
 obtain⟨p0,q0⟩:=r.place m.id hm
 have s0:=lt_of_block r.hd
 have s1:=lt_of_block r.pb
 have n1:g≠h:=fun e=>r.hv (by rw[e];rfl)
 have n2:g≠p:=fun e=>r.pv (by rw[e];rfl)
 have n3:=r.hp
 have R1:=Lib.hid (r.setM k m hk)
 have F1:=Lib.hid (((Fr.refl (Dof h p (.slice (some ⟨g,0,none⟩) ms.length c)) w).setCell ⟨g,k*2,none⟩ (.int .i64 m.id) (Or.inl (Or.inr (Or.inr rfl)))).setCell ⟨g,k*2+1,none⟩ (.int .u64 m.key) (Or.inl (Or.inr (Or.inr rfl))))
 go_enter Tryz.func227,Tryz.ntmps227
 go_wp2_with fail
 go_region
 go_wp2_with fail
 go_region
 go_wp2_with fail
 go_end0
 exact⟨rfl,(((R1.out.setP m.id ((k:Int)+1)).alloc _).drew).drew,(((F1.out.setCell ⟨p,m.id,none⟩ _ (Or.inl (Or.inr (Or.inl rfl)))).alloc _).drew).drew⟩
end Go.Proofs.YtaafkpojjdjphaaGreat.N5.Hp
