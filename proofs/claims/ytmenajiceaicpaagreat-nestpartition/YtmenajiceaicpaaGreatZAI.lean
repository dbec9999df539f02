import Derived.Laws.AppendOwnNone
import Derived.Deep.RegionWith
import Derived.Lib.SliceRun
import Derived.Test.YtmenajiceaicpaaGreatZAH
import Derived.BigRegion
import Derived.Laws.StructEq
open Go.Lib (hid)
set_option maxRecDepth 100000
namespace Go.Proofs.YtmenajiceaicpaaGreat.T3
open Go.RowKit
theorem info53:(Tryz.prog.info? 58).map (fun i=>(i.zero,i.size,i.bytes))=some (some (.agg #[.int .i64 0, .int .i64 0, .int .u32 0]),3,24):=by kernel_rfl
def cellsA:List A→List Value
 | []=> []
 | x::r=> .int .i64 x.f:: .int .i64 x.t:: .int .u32 x.w::cellsA r
theorem cellsA_len: ∀l:List A,(cellsA l).length=l.length*3
 | []=>rfl
 | x::r=>by simp only[cellsA,List.length_cons,cellsA_len r];omega
theorem cellsA_at: ∀ (l:List A) (j:Nat),j<l.length→(cellsA l)[j*3]? =some (.int .i64 (l.getD j A.zero).f)∧(cellsA l)[j*3+1]? =some (.int .i64 (l.getD j A.zero).t)∧(cellsA l)[j*3+2]? =some (.int .u32 (l.getD j A.zero).w)
 | [],_,h=>absurd h (by simp)
 | x::r,0,_=>⟨rfl,rfl,rfl⟩
 | x::r,j+1,h=>by
   have:=cellsA_at r j (by simpa using h)
   rw[show(j+1)*3=j*3+3 by omega]
   exact this
theorem cellsA_set: ∀ (l:List A) (j:Nat) (v:Int),j<l.length→
  (cellsA l).set (j*3) (.int .i64 v)=cellsA (l.set j ⟨v,(l.getD j A.zero).t,(l.getD j A.zero).w⟩)∧
  (cellsA l).set (j*3+1) (.int .i64 v)=cellsA (l.set j ⟨(l.getD j A.zero).f,v,(l.getD j A.zero).w⟩)∧
  (cellsA l).set (j*3+2) (.int .u32 v)=cellsA (l.set j ⟨(l.getD j A.zero).f,(l.getD j A.zero).t,v⟩)
 | [],_,_,h=>absurd h (by simp)
 | x::r,0,v,_=>⟨rfl,rfl,rfl⟩
 | x::r,j+1,v,h=>by
   have:=cellsA_set r j v (by simpa using h)
   rw[show(j+1)*3=j*3+3 by omega]
   exact⟨congrArg (fun t=>Value.int .i64 x.f::Value.int .i64 x.t::Value.int .u32 x.w::t) this.1,congrArg (fun t=>Value.int .i64 x.f::Value.int .i64 x.t::Value.int .u32 x.w::t) this.2.1,congrArg (fun t=>Value.int .i64 x.f::Value.int .i64 x.t::Value.int .u32 x.w::t) this.2.2⟩
def OwnA(w:World)(B:Nat)(a:Option Addr)(c:Nat)(l:List A):Prop:=w.ownsRow B 58 3 (.slice a l.length c) l.length (cellsA l)
theorem OwnA.some{w:World}{B:Nat}{a:Option Addr}{c:Nat}{l:List A}(h:OwnA w B a c l)(h0:0<l.length): ∃g,a=some ⟨g,0,none⟩∧B≤g∧g<w.heap.size:=by
 rcases h.2 with ⟨_,h'⟩ | ⟨g,c',cur,h',hb,hg,_⟩
 ·omega
 ·injection h' with e1 e2 e3
  exact⟨g,e1,hb,lt_of_block hg⟩
theorem OwnA.at{w:World}{B g c:Nat}{l:List A}(h:OwnA w B (.some ⟨g,0,none⟩) c l)(j:Nat)(hj:j<l.length):(l.getD j A.zero).at w g (j*3):=by
 obtain⟨h1,h2,h3⟩:=cellsA_at l j hj
 exact⟨(World.ownsRow.cellAt h (j*3) (by omega)).trans h1,(World.ownsRow.cellAt h (j*3+1) (by omega)).trans h2,(World.ownsRow.cellAt h (j*3+2) (by omega)).trans h3⟩
theorem OwnA.arcs{w:World}{B:Nat}{a:Option Addr}{c:Nat}{l:List A}(h:OwnA w B a c l):Arcs w a l:=by
 by_cases h0:0<l.length
 ·obtain⟨g,rfl,_,hg⟩:=h.some h0
  exact Or.inr ⟨g,0,rfl,hg,fun j hj=>by rw[Nat.zero_add];exact h.at j hj⟩
 ·exact Or.inl (List.eq_nil_of_length_eq_zero (by omega))
theorem OwnA.alloc{w:World}{B:Nat}{a:Option Addr}{c:Nat}{l:List A}(h:OwnA w B a c l)(o:Obj):OwnA (w.alloc o) B a c l:=World.ownsRow.alloc h o
theorem OwnA.base{w:World}{B B':Nat}{a:Option Addr}{c:Nat}{l:List A}(h:OwnA w B a c l)(hb:B'≤B):OwnA w B' a c l:=own_base h hb
theorem getDA_set(L:List A)(k j:Nat)(x:A)(hk:k<L.length):(L.set k x).getD j A.zero=if j=k then x else L.getD j A.zero:=by
 by_cases h:j=k
 ·subst h;simp[List.getD,hk]
 ·rw[if_neg h];simp[List.getD,Ne.symm h]
theorem OwnA.free{w:World}{B g c:Nat}{l:List A}(h:OwnA w B (.some ⟨g,0,none⟩) c l)(k:Nat):w.frozen? ⟨g,k,none⟩=false:=World.ownsRow.frozenAt h k
theorem OwnA.set0{w:World}{B g c:Nat}{l:List A}(h:OwnA w B (.some ⟨g,0,none⟩) c l)(j:Nat)(v:Int)(hj:j<l.length):OwnA (w.setCell ⟨g,j*3,none⟩ (.int .i64 v)) B (.some ⟨g,0,none⟩) c (l.set j ⟨v,(l.getD j A.zero).t,(l.getD j A.zero).w⟩):=by
 have:=(World.ownsRow.stored h (j*3) (.int .i64 v)).1
 rw[(cellsA_set l j v hj).1] at this
 unfold OwnA
 rw[List.length_set];exact this
theorem OwnA.set1{w:World}{B g c:Nat}{l:List A}(h:OwnA w B (.some ⟨g,0,none⟩) c l)(j:Nat)(v:Int)(hj:j<l.length):OwnA (w.setCell ⟨g,j*3+1,none⟩ (.int .i64 v)) B (.some ⟨g,0,none⟩) c (l.set j ⟨(l.getD j A.zero).f,v,(l.getD j A.zero).w⟩):=by
 have:=(World.ownsRow.stored h (j*3+1) (.int .i64 v)).1
 rw[(cellsA_set l j v hj).2.1] at this
 unfold OwnA
 rw[List.length_set];exact this
theorem OwnA.set2{w:World}{B g c:Nat}{l:List A}(h:OwnA w B (.some ⟨g,0,none⟩) c l)(j:Nat)(v:Int)(hj:j<l.length):OwnA (w.setCell ⟨g,j*3+2,none⟩ (.int .u32 v)) B (.some ⟨g,0,none⟩) c (l.set j ⟨(l.getD j A.zero).f,(l.getD j A.zero).t,v⟩):=by
 have:=(World.ownsRow.stored h (j*3+2) (.int .u32 v)).1
 rw[(cellsA_set l j v hj).2.2] at this
 unfold OwnA
 rw[List.length_set];exact this
def FilB(w:World)(m B:Nat)(xs:List Int):Prop:= ∃v,w.heap[m]? =some (.cells #[v] 204 (0,0))∧w.ownsRow B 3 1 v xs.length (cellsI xs)
structure KpB(m B:Nat)(w w':World):Prop where
 os:w'.os=w.os
 tape:w'.tape=w.tape
 output:w'.output=w.output
 size:w.heap.size≤w'.heap.size
 block: ∀k,k<B→k≠m→w'.heap[k]? =w.heap[k]?
 other: ∀k o,w.heap[k]? =some o→k≠m→(∀cur,o≠ .cells cur 3 (0,0))→w'.heap[k]? =some o
theorem KpB.refl(m B:Nat)(w:World):KpB m B w w:=⟨rfl,rfl,rfl,Nat.le_refl _,fun _ _ _=>rfl,fun _ _ h _ _=>h⟩
theorem KpB.trans{m B:Nat}{a b c:World}(h:KpB m B a b)(k:KpB m B b c):KpB m B a c:=
 ⟨k.os.trans h.os,k.tape.trans h.tape,k.output.trans h.output,Nat.le_trans h.size k.size,fun i hi hm=>(k.block i hi hm).trans (h.block i hi hm),fun i o ho hm ht=>k.other i o (h.other i o ho hm ht) hm ht⟩
theorem KpB.of{m B:Nat}{a b:World}(h:Below a.heap.size a b)(hB:B≤a.heap.size):KpB m B a b:=⟨h.os,h.tape,h.output,h.size,fun k hk _=>h.block k (by omega),fun k _ ho _ _=>(h.block k (lt_of_block ho)).trans ho⟩
theorem KpB.alloc{m B:Nat}{a b:World}(h:KpB m B a b)(hB:B≤b.heap.size)(o:Obj):KpB m B a (b.alloc o):=h.trans (KpB.of ((Below.refl _ _).alloc (Nat.le_refl _) o) hB)
theorem KpB.below{m B C:Nat}{w0 w w':World}(h:KpB m B w w')(hb:Below C w0 w)(hm:C≤m)(hB:C≤B):Below C w0 w':=
 hb.trans ⟨h.os,h.tape,h.output,h.size,fun k hk=>h.block k (by omega) (by omega)⟩
theorem FilB.lt{w:World}{m B:Nat}{xs:List Int}(h:FilB w m B xs):m<w.heap.size:=by obtain⟨v,h,_⟩:=h;exact lt_of_block h
theorem FilB.alloc{w:World}{m B:Nat}{xs:List Int}(h:FilB w m B xs)(o:Obj):FilB (w.alloc o) m B xs:=by
 obtain⟨v,h1,h2⟩:=h
 exact⟨v,(Below.heap_alloc w o m (lt_of_block h1)).trans h1,h2.alloc o⟩
set_option maxHeartbeats 400000 in
theorem addB_any(m B:Nat)(x:Int)(xs:List Int)(w:World)(hx:xs.length≤8192)(hmB:m<B)(hB:B≤w.heap.size)(hf:FilB w m B xs):
  Calls Tryz.prog 149 #[.pointer (some ⟨m,0,none⟩), .int .i64 x] w fun e w'=>e= .returned (.tuple #[])∧FilB w' m B (xs++[x])∧KpB m B w w':=by
 obtain⟨i0,hi,hz0,hz1,hz2⟩:=info_parts info3
 obtain⟨v,hm,hown⟩:=hf
 have hlt:=lt_of_block hm
 have c0:=cell_of_one hm
 have hne:v.ownBlock≠some m:=by
  intro h
  have:=(hown.lt m h).1
  omega
 have HX:Hid ((cellsI xs++[Value.int .i64 x])=cellsI (xs++[x])):=cellsI_snoc xs x
 have HN:Hid (xs.length+1=(xs++[x]).length):=by show _=_;simp
 go_enter Tryz.func149,Tryz.ntmps149
 go_wp2_with (at_builtin;refine wpList_append_own _ rfl (.tmp 7) (.tmp 9) 204 rfl B 3 i0 (.int .i64 0) 1 8 Tryz.underlying204 hi hz0 hz1 hz2 rfl (by decide) v xs.length (cellsI xs) rfl (hown.alloc _) ⟨w.heap.size,0,none⟩ 1 1 [.int .i64 x] rfl rfl ?c1 (one_i64 x) (by unfold maxLen;omega) (by omega) (by simp;omega) ?_)
 case c1=>
  intro j u hu
  match j,hu with
  | 0,hu=>simp at hu;subst hu;simp[Addr.add]
 intro v1 w1 hown1 hgrow1 hnil1
 obtain⟨g1,cc,rfl,hg1,hc1,hs1,hm1⟩:=own_shape hown1 hnil1
 rw[HX.out] at hown1
 have hm1':w1.heap[m]? =some (.cells #[v] 204 (0,0)):=(hgrow1.block m (by simp;omega) (fun h=>hne h.symm)).trans ((Below.heap_alloc w _ m hlt).trans hm)
 have d0:=cell_of_one hm1'
 have d1:=free_of_one hm1'
 go_wp2_with fail
 go_end0
 have hset: ∀k,k≠m→(w1.setCell ⟨m,0,none⟩ (.slice (some ⟨g1,0,none⟩) (xs.length+1) cc)).heap[k]? =w1.heap[k]? :=fun k hk=>Below.heap_setCell w1 _ _ k hk
 have hb1:Below 0 w w1:=((Below.refl 0 w).alloc (by omega) _).grown hgrow1 (by simp) (by intro k hk;omega)
 have hb2:=hb1.setCell (p:=⟨m,0,none⟩) (Nat.zero_le _) (.slice (some ⟨g1,0,none⟩) (xs.length+1) cc)
 refine⟨rfl,⟨_,one_setCell hm1',?_⟩,hb2.os,hb2.tape,hb2.output,hb2.size,fun k hk hkm=> ?_,fun k o ho hk ht=> ?_⟩
 ·rw[←HN.out]
  exact ownsRow_setCell_below hown1 (a:=⟨m,0,none⟩) hmB _
 ·rw[hset k hkm,hgrow1.block k (by simp;omega) ?_,Below.heap_alloc w _ k (by omega)]
  intro h
  have:=(hown.lt k h.symm).1
  omega
 ·rw[hset k hk,hgrow1.block k (by have:=lt_of_block ho;simp;omega) ?_,Below.heap_alloc w _ k (lt_of_block ho)]
  ·exact ho
  ·intro h
   rcases hown.2 with ⟨rfl,_⟩ | ⟨g,c,cur,rfl,_,hg,_⟩
   ·simp[Value.ownBlock] at h
   ·simp[Value.ownBlock] at h
    subst h
    rw[hg] at ho
    exact ht cur (Option.some.inj ho).symm
def Safe(m B:Nat)(w:World)(b:Nat):Prop:=(b<B∧b≠m)∨(b≠m∧∃o,w.heap[b]? =some o∧∀cur,o≠ .cells cur 3 (0,0))
theorem Safe.same{m B b:Nat}{w w':World}(h:Safe m B w b)(k:KpB m B w w'):w'.heap[b]? =w.heap[b]? :=by
 rcases h with ⟨h1,h2⟩ | ⟨h1,o,ho,ht⟩
 ·exact k.block b h1 h2
 ·rw[ho];exact k.other b o ho h1 ht
def Bools(P:Nat→Prop)(w:World)(a:Option Addr)(q:List Bool):Prop:=
 q= []∨∃b o,a=some ⟨b,o,none⟩∧P b∧∀j,j<q.length→w.cell? ⟨b,o+j,none⟩=some (.bool (q.getD j false))
theorem Bools.get{P:Nat→Prop}{w:World}{a:Option Addr}{q:List Bool}(h:Bools P w a q): ∃b o,0<q.length→a=some ⟨b,o,none⟩∧P b∧∀j,j<q.length→w.cell? ⟨b,o+j,none⟩=some (.bool (q.getD j false)):=by
 rcases h with rfl | ⟨b,o,h⟩
 ·exact⟨0,0,fun h=>absurd h (by simp)⟩
 ·exact⟨b,o,fun _=>h⟩
theorem Bools.imp{P Q:Nat→Prop}{w w':World}{a:Option Addr}{q:List Bool}(h:Bools P w a q)(hp: ∀b,P b→Q b)(hs: ∀b,P b→w'.heap[b]? =w.heap[b]?):Bools Q w' a q:=by
 rcases h with h | ⟨b,o,rfl,hb,hc⟩
 ·exact Or.inl h
 ·exact Or.inr ⟨b,o,rfl,hp b hb,fun j hj=>(World.cell?_of_block (w:=w) (a:=⟨b,o+j,none⟩) (hs b hb)).trans (hc j hj)⟩
def mk(q:List Bool)(k:Nat):Bool:=q.getD k false
set_option maxHeartbeats 800000 in
theorem marked_any(m B:Nat)(a:Option Addr)(q:List Bool)(cap:Nat)(w:World)(hl:q.length≤8192)(hmB:m<B)(hB:B≤w.heap.size)(hr:Bools (Safe m B w) w a q)(hf:FilB w m B []):
  Calls Tryz.prog 148 #[.slice a q.length cap, .func (.func 149) #[.pointer (some ⟨m,0,none⟩)] #[]] w fun e w'=>e= .returned (.tuple #[])∧FilB w' m B (hits (mk q) q.length)∧KpB m B w w':=by
 obtain⟨b,o,hab⟩:=hr.get
 go_enter Tryz.func148,Tryz.ntmps148
 go_wp2_with fail
 go_loopw [8] (fun i wr=> ∃k:Nat,k≤q.length∧i= .int .i64 k∧FilB wr m B (hits (mk q) k)∧KpB m B w wr) (fun i _=>q.length - (intOf i).toNat)
 case atStart=>exact⟨0,Nat.zero_le _,rfl,hf,KpB.refl _ _ _⟩
 case round=>
  obtain⟨k,hk,rfl,hfil,hkp⟩:=hrel
  have hBr:B≤wr.heap.size:=by have:=hkp.size;omega
  by_cases hlt:k<q.length
  ·obtain⟨rfl,hbs,hat⟩:=hab (by omega)
   have c0:=(World.cell?_of_block (w:=w) (a:=⟨b,o+k,none⟩) (hbs.same hkp)).trans (hat k hlt)
   have HL:=hits_len (mk q) k
   by_cases hv:q.getD k false=true
   ·rw[hv] at c0
    have HT:Hid (hits (mk q) k++[(k:Int)]=hits (mk q) (k+1)):=(hits_t hv).symm
    clear hv
    generalize hits (mk q) k=xs at*
    go_wp2_with (go_at_call 149;refine(addB_any m B k xs _ (by omega) hmB hBr hfil).mono ?_;rintro e w2 ⟨rfl,hf2,hk2⟩)
    rw[HT.out] at hf2
    exact⟨⟨k+1,by omega,by go_num,hf2,hkp.trans hk2⟩,by simp[intOf];omega⟩
   ·have hv':q.getD k false=false:=by simpa using hv
    rw[hv'] at c0
    have HT:Hid (hits (mk q) (k+1)=hits (mk q) k):=hits_f hv'
    clear hv hv'
    go_wp2_with fail
    exact⟨⟨k+1,by omega,by go_num,by rw[HT.out];exact hfil,hkp⟩,by simp[intOf];omega⟩
  ·have hkl:k=q.length:=by omega
   rw[hkl] at hfil
   clear hkl
   go_wp2_with fail
   go_end0
   exact⟨rfl,hfil,hkp⟩
def both(q:Nat→Bool)(x:A):Bool:=q x.f.toNat&&q x.t.toNat
set_option maxHeartbeats 1600000 in
theorem inside_any(m B:Nat)(N:Int)(a:Option Addr)(l:List A)(cap:Nat)(a':Option Addr)(q:List Bool)(cap':Nat)(w:World)(hl:l.length≤8192)(hq:q.length≤8192)(hall: ∀x∈l,(0≤x.f∧x.f<q.length)∧(0≤x.t∧x.t<q.length))(hmB:m<B)(hB:B≤w.heap.size)
  (hr:ArcsB m w a l) (hr':Bools (· <m) w a' q) (hf:FilB w m B []):
  Calls Tryz.prog 150 #[.agg #[.int .i64 N, .slice a l.length cap], .slice a' q.length cap', .func (.func 149) #[.pointer (some ⟨m,0,none⟩)] #[]] w fun e w'=>e= .returned (.tuple #[])∧FilB w' m B (hits (fun k=>both (mk q) (l.getD k A.zero)) l.length)∧KpB m B w w':=by
 have hb0:Below w.heap.size w (w.alloc (.cells #[.int .i64 N, .slice a l.length cap] 24)):=(Below.refl _ _).alloc (Nat.le_refl _) _
 have hmw:=hf.lt
 have HF0:=hf.alloc (.cells #[.int .i64 N, .slice a l.length cap] 24)
 obtain⟨b,o,hab⟩:=hr.get
 obtain⟨b',o',hab'⟩:=hr'.get
 have HALL:=hid hall
 obtain⟨p,HP⟩:=named (fun k=>both (mk q) (l.getD k A.zero))
 rw[HP.out]
 clear hf hall
 go_enter Tryz.func150,Tryz.ntmps150
 go_wp2_with fail
 go_loopw [11] (fun i wr=> ∃k:Nat,k≤l.length∧i= .int .i64 k∧FilB wr m B (hits p k)∧wr.heap[w.heap.size]? =some (.cells #[.int .i64 N, .slice a l.length cap] 24)∧KpB m B w wr) (fun i _=>l.length - (intOf i).toNat)
 case atStart=>exact⟨0,Nat.zero_le _,rfl,HF0,heap_top w _,KpB.of hb0 hB⟩
 case round=>
  obtain⟨k,hk,rfl,hfil,hg,hkp⟩:=hrel
  obtain⟨⟨g0,g1⟩,gf0,gf1⟩:=two_cells hg
  have hsz:w.heap.size<wr.heap.size:=lt_of_block hg
  by_cases hlt:k<l.length
  ·obtain⟨rfl,hbl,hat⟩:=hab (by omega)
   have hbm:Below m w wr:=hkp.below (Below.refl _ _) (Nat.le_refl _) (by omega)
   obtain⟨c0,c1,c2⟩:=(hat k hlt).onB hbl hbm
   have HK:Hid (p k=both (mk q) (l.getD k A.zero)):=by show _=_;rw[←HP.out]
   have HL:=hits_len p k
   have hx:=HALL.out (l.getD k A.zero) (by rw[show l.getD k A.zero=l[k] by simp[List.getD,List.getElem?_eq_getElem hlt]];exact List.getElem_mem hlt)
   generalize l.getD k A.zero=x at*
   obtain⟨xf,xt,xw⟩:=x
   obtain⟨f,hf⟩: ∃f:Nat,xf=f:=⟨xf.toNat,by have:=hx.1.1;simp at this;omega⟩
   obtain⟨t,ht⟩: ∃t:Nat,xt=t:=⟨xt.toNat,by have:=hx.2.1;simp at this;omega⟩
   subst hf ht
   have hfn:f<q.length:=by have:=hx.1.2;simp at this;omega
   have htn:t<q.length:=by have:=hx.2.2;simp at this;omega
   clear hx
   obtain⟨rfl,hbl',hat'⟩:=hab' (by omega)
   have d0:=(hbm.cell (p:=⟨b',o'+f,none⟩) hbl').trans (hat' f hfn)
   have d1:=(hbm.cell (p:=⟨b',o'+t,none⟩) hbl').trans (hat' t htn)
   have HK2:Hid (p k=(q.getD f false&&q.getD t false)):=by show _=_;rw[HK.out];simp[both,mk]
   have hfa:=hfil.alloc (.cells #[.int .i64 f, .int .i64 t, .int .u32 xw] 58)
   have hsb:b'<wr.heap.size:=by omega
   by_cases hv:q.getD f false=true
   ·by_cases hu:q.getD t false=true
    ·have HT:Hid (hits p k++[(k:Int)]=hits p (k+1)):=(hits_t (by rw[HK2.out,hv,hu];rfl)).symm
     rw[hv] at d0
     rw[hu] at d1
     clear hv hu HK HK2
     generalize hits p k=xs at*
     go_wp2_with (go_at_call 149;refine(addB_any m B k xs _ (by omega) hmB (by simp;omega) hfa).mono ?_;rintro e w2 ⟨rfl,hf2,hk2⟩)
     rw[HT.out] at hf2
     have hk3:=(hkp.alloc (by omega) _).trans hk2
     exact⟨⟨k+1,by omega,by go_num,hf2,hk2.other _ _ ((Below.heap_alloc wr _ w.heap.size hsz).trans hg) (by omega) (not3 (by decide)),hk3⟩,by simp[intOf];omega⟩
    ·have hu':q.getD t false=false:=by simpa using hu
     have HT:Hid (hits p (k+1)=hits p k):=hits_f (by rw[HK2.out,hu'];simp)
     rw[hv] at d0
     rw[hu'] at d1
     clear hv hu hu' HK HK2
     go_wp2_with fail
     exact⟨⟨k+1,by omega,by go_num,by rw[HT.out];exact hfa,(Below.heap_alloc wr _ w.heap.size hsz).trans hg,hkp.alloc (by omega) _⟩,by simp[intOf];omega⟩
   ·have hv':q.getD f false=false:=by simpa using hv
    have HT:Hid (hits p (k+1)=hits p k):=hits_f (by rw[HK2.out,hv'];simp)
    rw[hv'] at d0
    clear hv hv' HK HK2
    go_wp2_with fail
    exact⟨⟨k+1,by omega,by go_num,by rw[HT.out];exact hfa,(Below.heap_alloc wr _ w.heap.size hsz).trans hg,hkp.alloc (by omega) _⟩,by simp[intOf];omega⟩
  ·have hkl:k=l.length:=by omega
   rw[hkl] at hfil
   clear hkl
   go_wp2_with fail
   go_end0
   exact⟨rfl,hfil,hkp⟩
theorem getD_snoc_lt{xs:List Int}{x:Int}{j:Nat}(h:j<xs.length):(xs++[x]).getD j 0=xs.getD j 0:=by simp[List.getD,List.getElem?_append_left h]
theorem getD_snoc_eq(xs:List Int)(x:Int):(xs++[x]).getD xs.length 0=x:=by simp[List.getD]
theorem hits_idx{q:Nat→Bool}{n j:Nat}(h:j<(hits q n).length): ∃i:Nat,i<n∧q i=true∧(hits q n).getD j 0=(i:Int)∧(hits q i).length=j:=by
 induction n with
 | zero=>simp[hits] at h
 | succ n ih=>
   by_cases hq:q n=true
   ·rw[hits_t hq] at h ⊢
    by_cases hj:j<(hits q n).length
    ·obtain⟨i,h1,h2,h3,h4⟩:=ih hj
     exact⟨i,by omega,h2,by rw[getD_snoc_lt hj,h3],h4⟩
    ·rw[List.length_append,List.length_singleton] at h
     have e:j=(hits q n).length:=by omega
     exact⟨n,by omega,hq,by rw[e,getD_snoc_eq],e.symm⟩
   ·have hq':q n=false:=by simpa using hq
    rw[hits_f hq'] at h ⊢
    obtain⟨i,h1,h2,h3,h4⟩:=ih h
    exact⟨i,by omega,h2,h3,h4⟩
theorem hits_rank{q:Nat→Bool}{n v:Nat}(hv:v<n)(hq:q v=true):(hits q v).length<(hits q n).length∧(hits q n).getD (hits q v).length 0=(v:Int):=by
 induction n with
 | zero=>omega
 | succ n ih=>
   by_cases e:v=n
   ·subst e
    rw[hits_t hq]
    exact⟨by simp,getD_snoc_eq _ _⟩
   ·obtain⟨h1,h2⟩:=ih (by omega)
    by_cases hn:q n=true
    ·rw[hits_t hn]
     exact⟨by simp;omega,by rw[getD_snoc_lt h1,h2]⟩
    ·have hn':q n=false:=by simpa using hn
     rw[hits_f hn']
     exact⟨h1,h2⟩
theorem hits_inj{q:Nat→Bool}{n u v:Nat}(hu:u<n)(hv:v<n)(hqu:q u=true)(hqv:q v=true)(e:(hits q u).length=(hits q v).length):u=v:=by
 have h1:=(hits_rank hu hqu).2
 have h2:=(hits_rank hv hqv).2
 rw[e,h2] at h1
 omega
theorem filter_hits(p:A→Bool)(l:List A): ∀k,k≤l.length→((l.take k).filter p).length=(hits (fun i=>p (l.getD i A.zero)) k).length∧∀n,n<(hits (fun i=>p (l.getD i A.zero)) k).length→((l.take k).filter p).getD n A.zero=l.getD ((hits (fun i=>p (l.getD i A.zero)) k).getD n 0).toNat A.zero:=by
 intro k
 induction k with
 | zero=>intro _;exact⟨by simp[hits],fun n hn=>by simp[hits] at hn⟩
 | succ k ih=>
   intro hk
   obtain⟨h1,h2⟩:=ih (by omega)
   have e:l.getD k A.zero=l[k]:=by simp[List.getD,List.getElem?_eq_getElem (show k<l.length by omega)]
   rw[List.take_succ_eq_append_getElem (show k<l.length by omega),List.filter_append]
   by_cases hp:p (l.getD k A.zero)=true
   ·rw[hits_t (q:=fun i=>p (l.getD i A.zero)) hp]
    rw[e] at hp
    rw[show List.filter p [l[k]]=[l[k]] by simp[hp]]
    refine⟨by simp[h1],fun n hn=> ?_⟩
    by_cases hn2:n<(hits (fun i=>p (l.getD i A.zero)) k).length
    ·rw[getD_snoc_lt hn2,←h2 n hn2]
     simp[List.getD,List.getElem?_append_left (show n<(List.filter p (List.take k l)).length by rw[h1];exact hn2)]
    ·rw[List.length_append,List.length_singleton] at hn
     have en:n=(hits (fun i=>p (l.getD i A.zero)) k).length:=by omega
     rw[en,getD_snoc_eq,Int.toNat_natCast,e,←h1]
     simp[List.getD]
   ·have hp':p (l.getD k A.zero)=false:=by simpa using hp
    rw[hits_f (q:=fun i=>p (l.getD i A.zero)) hp']
    rw[e] at hp'
    rw[show List.filter p [l[k]]= [] by simp[hp'],List.append_nil]
    exact⟨h1,h2⟩
def ren(q:Nat→Bool)(x:A):A:=⟨((hits q x.f.toNat).length:Nat),((hits q x.t.toNat).length:Nat),x.w⟩
def indA(q:Nat→Bool)(l:List A):List A:=(l.filter (both q)).map (ren q)
def indI(q:Nat→Bool)(l:List A):List Int:=hits (fun k=>both q (l.getD k A.zero)) l.length
theorem indA_len(q:Nat→Bool)(l:List A):(indA q l).length=(indI q l).length:=by
 have:=(filter_hits (both q) l l.length (Nat.le_refl _)).1
 rw[List.take_length] at this
 unfold indA indI
 rw[List.length_map,this]
theorem indA_getD(q:Nat→Bool)(l:List A)(n:Nat)(h:n<(indI q l).length):(indA q l).getD n A.zero=ren q (l.getD ((indI q l).getD n 0).toNat A.zero):=by
 have h0:=filter_hits (both q) l l.length (Nat.le_refl _)
 rw[List.take_length] at h0
 have h1:=h0.2 n h
 have hl:n<(l.filter (both q)).length:=by rw[h0.1];exact h
 unfold indA indI
 rw[←h1]
 simp[List.getD,List.getElem?_eq_getElem hl]
theorem indA_ext{q:Nat→Bool}{l Y:List A}(hy:Y.length=(indI q l).length)(h: ∀n,n<(indI q l).length→Y.getD n A.zero=ren q (l.getD ((indI q l).getD n 0).toNat A.zero)):Y=indA q l:=by
 apply List.ext_getElem (by rw[indA_len];exact hy)
 intro j h1 h2
 have e1:Y.getD j A.zero=Y[j]:=by simp[List.getD,List.getElem?_eq_getElem h1]
 have e2:(indA q l).getD j A.zero=(indA q l)[j]:=by simp[List.getD,List.getElem?_eq_getElem h2]
 rw[←e1,←e2,indA_getD q l j (by omega),h j (by omega)]
theorem made3(n:Nat):(madeCells #[.int .i64 0, .int .i64 0, .int .u32 0] (n*3)).toList=cellsA (List.replicate n A.zero):=by
 apply List.ext_getElem?
 intro i
 by_cases h:i<n*3
 ·have hj:i / 3<(List.replicate n A.zero).length:=by rw[List.length_replicate];omega
  obtain⟨h0,h1,h2⟩:=cellsA_at _ _ hj
  have e:(List.replicate n A.zero).getD (i / 3) A.zero=A.zero:=by
   rw[List.length_replicate] at hj
   simp[List.getD,hj]
  rw[e] at h0 h1 h2
  have hm:(madeCells #[.int .i64 0, .int .i64 0, .int .u32 0] (n*3)).toList[i]? =some (#[Value.int .i64 0, .int .i64 0, .int .u32 0][i % 3]!):=by
   simp[madeCells,h]
  rw[hm]
  have hi:i=i / 3*3+i % 3:=by omega
  rcases(show i % 3=0∨i % 3=1∨i % 3=2 by omega) with e | e | e
  ·rw[e] at hi ⊢
   rw[Nat.add_zero] at hi
   rw[hi,h0];rfl
  ·rw[e] at hi ⊢
   rw[hi,h1];rfl
  ·rw[e] at hi ⊢
   rw[hi,h2];rfl
 ·rw[List.getElem?_eq_none (by rw[Array.length_toList,size_madeCells];omega),List.getElem?_eq_none (by rw[cellsA_len,List.length_replicate];omega)]
theorem OwnA.put{w:World}{B g c:Nat}{l:List A}(h:OwnA w B (.some ⟨g,0,none⟩) c l)(j:Nat)(x:A)(hj:j<l.length):OwnA (((w.setCell ⟨g,j*3,none⟩ (.int .i64 x.f)).setCell ⟨g,j*3+1,none⟩ (.int .i64 x.t)).setCell ⟨g,j*3+2,none⟩ (.int .u32 x.w)) B (.some ⟨g,0,none⟩) c (l.set j x):=by
 have h1:=(h.set0 j x.f hj).set1 j x.t (by rw[List.length_set];exact hj)
 rw[getDA_set _ _ _ _ hj,if_pos rfl,List.set_set] at h1
 have h2:=h1.set2 j x.w (by rw[List.length_set];exact hj)
 rw[getDA_set _ _ _ _ hj,if_pos rfl,List.set_set] at h2
 exact h2
set_option maxHeartbeats 3200000 in
theorem part_any(n:Nat)(q:Nat→Bool)(a:Option Addr)(l:List A)(cap:Nat)(av:Option Addr)(cv:Nat)(ai:Option Addr)(ci:Nat)(w:World)(hn:n≤1024)(hl:l.length≤8192)
  (hall: ∀x∈l,(0≤x.f∧x.f<n)∧(0≤x.t∧x.t<n)) (hr:Arcs w a l) (hv:Ints w av (hits q n)) (hi:Ints w ai (indI q l)):
  Calls Tryz.prog 151 #[.agg #[.int .i64 n, .slice a l.length cap], .slice av (hits q n).length cv, .slice ai (indI q l).length ci] w fun e w'=>
   ∃a' c',e= .returned (.agg #[.int .i64 ((hits q n).length:Nat), .slice a' (indA q l).length c'])∧OwnA w' w.heap.size a' c' (indA q l)∧a'≠none∧Below w.heap.size w w':=by
 obtain⟨i0,hi0,hz0,hz1,hz2⟩:=info_parts info3
 obtain⟨i5,hi5,hy0,hy1,hy2⟩:=info_parts info53
 have hb0:Below w.heap.size w ((w.alloc (.cells #[.int .i64 n, .slice a l.length cap] 24)).alloc (.cells #[.int .i64 0, .slice none 0 0] 24)):=((Below.refl _ _).alloc (Nat.le_refl _) _).alloc (by simp) _
 have hg:((w.alloc (.cells #[.int .i64 n, .slice a l.length cap] 24)).alloc (.cells #[.int .i64 0, .slice none 0 0] 24)).heap[w.heap.size]? =some (.cells #[.int .i64 n, .slice a l.length cap] 24):=(Below.heap_alloc _ _ _ (by simp)).trans (heap_top w _)
 have h1:=heap_top (w.alloc (.cells #[.int .i64 n, .slice a l.length cap] 24)) (.cells #[.int .i64 0, .slice none 0 0] 24)
 rw[show(w.alloc (.cells #[.int .i64 n, .slice a l.length cap] 24)).heap.size=w.heap.size+1 by simp] at h1
 generalize hW:(w.alloc (.cells #[.int .i64 n, .slice a l.length cap] 24)).alloc (.cells #[.int .i64 0, .slice none 0 0] 24)=W at*
 obtain⟨⟨g0,g1⟩,gf0,gf1⟩:=two_cells hg
 have hvl:(hits q n).length≤n:=hits_len _ _
 have hil:(indI q l).length≤l.length:=hits_len _ _
 have HIDX:=hid (fun j (h:j<(hits q n).length)=>hits_idx (q:=q) (n:=n) h)
 have HINJ:=hid (fun u v (hu:u<n) (hv:v<n) (e1:q u=true) (e2:q v=true)=>hits_inj (q:=q) (n:=n) hu hv e1 e2)
 have HRK:=hid (fun v (h1:v<n) (h2:q v=true)=>(hits_rank (q:=q) h1 h2).1)
 have HMI:Hid (∀j,j<(indI q l).length→∃i:Nat,i<l.length∧(indI q l).getD j 0=(i:Int)∧q (l.getD i A.zero).f.toNat=true∧q (l.getD i A.zero).t.toNat=true):=by
  show ∀j,_
  intro j hj
  obtain⟨i,h1,h2,h3,_⟩:=hits_idx (q:=fun k=>both q (l.getD k A.zero)) hj
  have h4:q (l.getD i A.zero).f.toNat=true∧q (l.getD i A.zero).t.toNat=true:=by simpa[both] using h2
  exact⟨i,h1,h3,h4.1,h4.2⟩
 have HEXT:Hid (∀Y:List A,Y.length=(indI q l).length→(∀n,n<(indI q l).length→Y.getD n A.zero=ren q (l.getD ((indI q l).getD n 0).toNat A.zero))→Y=indA q l):=fun Y h1 h2=>indA_ext h1 h2
 have HIL:=hid (indA_len q l)
 have HALL:=hid hall
 clear hall
 obtain⟨Z,HZ⟩:=named (indA q l)
 rw[HZ.out] at HEXT HIL ⊢
 generalize hits q n=vs at*
 generalize indI q l=is at*
 obtain⟨bv,ov,habv⟩:=hv.get
 obtain⟨bi,oi,habi⟩:=hi.get
 obtain⟨b,o,hab⟩:=hr.b.get
 have s0:=lt_of_block hg
 have s0':=lt_of_block h1
 go_enter Tryz.func151,Tryz.ntmps151
 go_wp2_with (at_make;refine wpList_make_full _ rfl (.tmp 15) (.tmp 15) 25 rfl W.heap.size 3 i0 (.int .i64 0) 1 Tryz.underlying25 hi0 hz0 hz1 .i64 .i64 n n n rfl rfl rfl rfl (by rw[hz2];omega) (by unfold maxLen;omega) (Nat.le_refl _) ?_;intro w1 hown1 hgrow1)
 clear hW
 have hown0:OwnL w1 W.heap.size n (List.replicate n 0):=by
  have e:(madeCells (Value.int .i64 0).cells (n*1)).toList=cellsI (ints (List.replicate n 0)):=by
   show(madeCells #[Value.int .i64 0] (n*1)).toList=_
   rw[toList_madeCells_one,Nat.mul_one]
   unfold cellsI ints
   simp
  rw[e] at hown1
  exact hown1
 have hb1:Below W.heap.size W w1:=(Below.refl _ _).grown hgrow1 (Nat.le_refl _) (by intro k hk;cases hk)
 clear hown1 hgrow1
 go_loopw [19] (fun i wr=> ∃ (k:Nat) (X:List Nat),k≤vs.length∧i= .int .i64 (k:Int)∧Hid (X.length=n)∧Hid (∀v,v<n→q v=true→(hits q v).length<k→X.getD v 0=(hits q v).length)∧OwnL wr W.heap.size n X∧Below W.heap.size W wr) (fun i _=>vs.length - (intOf i).toNat)
 case atStart=>exact⟨0,List.replicate n 0,Nat.zero_le _,rfl,by show _=_;simp,by intro v _ _ h;omega,hown0,hb1⟩
 case round=>
  obtain⟨k,X,hk,rfl,HX,HJ,hown,hbel⟩:=hrel
  by_cases hlt:k<vs.length
  ·obtain⟨i,hin,hqi,e1,e2⟩:=HIDX.out k hlt
   obtain⟨rfl,hbv,hcv⟩:=habv (by omega)
   have cv:=(hbel.cell (p:=⟨bv,ov+k,none⟩) (by have:=hb0.size;exact Nat.lt_of_lt_of_le hbv this)).trans ((hb0.cell (p:=⟨bv,ov+k,none⟩) hbv).trans (hcv k hlt))
   rw[e1] at cv
   have cx:=hown.cell HX.out i hin
   have fx:=hown.free i
   have hst:=hown.set i k
   have HN:Hid (∀v,v<n→q v=true→(hits q v).length<k+1→(X.set i k).getD v 0=(hits q v).length):=by
    show ∀v,_
    intro v hv hqv hk'
    rw[getD_set _ _ _ _ (by rw[HX.out];exact hin)]
    split
    ·rename_i e;rw[e,e2]
    ·rename_i e
     refine HJ.out v hv hqv ?_
     rcases Nat.lt_or_ge (hits q v).length k with h | h
     ·exact h
     ·exact absurd (HINJ.out v i hv hin hqv hqi (by omega)) e
   clear e1 e2 hcv
   generalize X.getD i 0=x0 at*
   go_wp2_with fail
   exact⟨⟨k+1,_,by omega,by go_num,by show _=_;rw[List.length_set];exact HX.out,HN,hst,hbel.setCell (Nat.le_refl _) _⟩,by simp[intOf];omega⟩
  ·have HNUM:Hid (∀v,v<n→q v=true→X.getD v 0=(hits q v).length):=by
    show ∀v,_
    intro v hv hqv
    exact HJ.out v hv hqv (by have:=HRK.out v hv hqv;omega)
   obtain⟨wx,hwx⟩: ∃x,x=wr:=⟨wr,rfl⟩
   subst hwx
   have s1:=hbel.size
   have hgr:=(hbel.block _ s0).trans hg
   have hhr:=(hbel.block _ s0').trans h1
   have bw:=bthen hb0 hbel (by omega)
   clear g0 g1 gf0 gf1 HJ hown0 hb1 HINJ HIDX HRK
   go_wp2_with (at_make;refine wpList_make_full _ rfl (.tmp 30) (.tmp 30) 22 rfl wx.heap.size 58 i5 _ 3 Tryz.underlying22 hi5 hy0 hy1 .i64 .i64 is.length is.length is.length rfl rfl rfl rfl (by rw[hy2];omega) (by unfold maxLen;omega) (Nat.le_refl _) ?_;intro w2 hown2 hgrow2)
   have hown3:w2.ownsRow wx.heap.size 58 3 (.slice (some ⟨wx.heap.size,0,none⟩) is.length is.length) is.length (cellsA (List.replicate is.length A.zero)):=by
    rw[←made3];exact hown2
   have hb2:Below wx.heap.size wx w2:=(Below.refl _ _).grown hgrow2 (Nat.le_refl _) (by intro k hk;cases hk)
   have hx2:OwnL w2 W.heap.size n X:=World.ownsRow.kept hown hgrow2 (Or.inr (by simp[Value.ownBlock]))
   have hgx:W.heap.size<wx.heap.size:=hown.lt
   have hg2:=(hb2.block _ (lt_of_block hgr)).trans hgr
   have hh2:=(hb2.block _ (lt_of_block hhr)).trans hhr
   have b2:=bthen bw hb2 (by omega)
   have s2:wx.heap.size<w2.heap.size:=(World.ownsRow.lt hown3 wx.heap.size rfl).2
   clear hown2 hgrow2 hb2 hown hgr hhr bw hbel hg h1 hb0
   go_wp2_with fail
   go_loopw [34] (fun i wr=> ∃ (k:Nat) (Y:List A),k≤is.length∧i= .int .i64 (k:Int)∧Hid (Y.length=is.length)∧Hid (∀j,j<k→Y.getD j A.zero=ren q (l.getD (is.getD j 0).toNat A.zero))∧wr.ownsRow wx.heap.size 58 3 (.slice (some ⟨wx.heap.size,0,none⟩) is.length is.length) is.length (cellsA Y)∧OwnL wr W.heap.size n X∧wr.heap[w.heap.size]? =some (.cells #[.int .i64 n, .slice a l.length cap] 24)∧wr.heap[w.heap.size+1]? =some (.cells #[.int .i64 0, .slice none 0 0] 24)∧Below w.heap.size w wr∧wx.heap.size<wr.heap.size) (fun i _=>is.length - (intOf i).toNat)
   case atStart=>exact⟨0,_,Nat.zero_le _,rfl,by show _=_;simp,by intro j hj;omega,hown3,hx2,hg2,hh2,b2,s2⟩
   case round=>
    obtain⟨k,Y,hk,rfl,HY,HJ,hown,hx4,hg4,hq4,b4,s4⟩:=hrel
    clear hown3 hx2 hg2 hh2 b2 s2
    obtain⟨⟨g0,g1⟩,gf0,gf1⟩:=two_cells hg4
    obtain⟨⟨q0,q1⟩,qf0,qf1⟩:=two_cells hq4
    by_cases hlt:k<is.length
    ·obtain⟨i,hil2,e1,hqf,hqt⟩:=HMI.out k hlt
     obtain⟨rfl,hbi,hci⟩:=habi (by omega)
     have ci:=(b4.cell (p:=⟨bi,oi+k,none⟩) hbi).trans (hci k hlt)
     rw[e1] at ci
     obtain⟨rfl,hbl,hat⟩:=hab (by omega)
     obtain⟨c0,c1,c2⟩:=(hat i hil2).onB hbl b4
     have hxm:=HALL.out (l.getD i A.zero) (by rw[show l.getD i A.zero=l[i] by simp[List.getD,List.getElem?_eq_getElem hil2]];exact List.getElem_mem hil2)
     have HREN:Hid (ren q (l.getD (is.getD k 0).toNat A.zero)=ren q (l.getD i A.zero)):=by show _=_;rw[e1,Int.toNat_natCast]
     clear e1 hci hat
     generalize l.getD i A.zero=x at*
     obtain⟨xf,xt,xw⟩:=x
     obtain⟨f,hf⟩: ∃f:Nat,xf=f:=⟨xf.toNat,by have:=hxm.1.1;simp at this;omega⟩
     obtain⟨t,ht⟩: ∃t:Nat,xt=t:=⟨xt.toNat,by have:=hxm.2.1;simp at this;omega⟩
     subst hf ht
     have hfn:f<n:=by have:=hxm.1.2;simp at this;omega
     have htn:t<n:=by have:=hxm.2.2;simp at this;omega
     simp only[Int.toNat_natCast] at hqf hqt
     clear hxm
     have nf:=hx4.cell HX.out f hfn
     have nt:=hx4.cell HX.out t htn
     rw[HNUM.out f hfn hqf] at nf
     rw[HNUM.out t htn hqt] at nt
     have HREN2:Hid (ren q (l.getD (is.getD k 0).toNat A.zero)=⟨((hits q f).length:Nat),((hits q t).length:Nat),xw⟩):=by show _=_;rw[HREN.out];unfold ren;simp
     clear hqf hqt HREN
     generalize (hits q f).length=nf' at*
     generalize (hits q t).length=nt' at*
     have hYl:k<Y.length:=by rw[HY.out];exact hlt
     have hown':OwnA wr wx.heap.size (some ⟨wx.heap.size,0,none⟩) is.length Y:=by unfold OwnA;rw[HY.out];exact hown
     have HO5:=hid (hown'.alloc (.cells #[.int .i64 f, .int .i64 t, .int .u32 xw] 58))
     have HX5:Hid (OwnL (wr.alloc (.cells #[.int .i64 f, .int .i64 t, .int .u32 xw] 58)) W.heap.size n X):=World.ownsRow.alloc hx4 _
     go_wp2_with fail
     obtain⟨d0,d1,d2⟩:=HO5.out.at k hYl
     have f0:=HO5.out.free (k*3)
     have f1:=HO5.out.free (k*3+1)
     have f2:=HO5.out.free (k*3+2)
     have m0:=(((Below.refl wr.heap.size wr).alloc (Nat.le_refl _) (.cells #[.int .i64 f, .int .i64 t, .int .u32 xw] 58)).cell (p:=⟨W.heap.size,f,none⟩) (by show W.heap.size<wr.heap.size;omega)).trans nf
     have m1:=(((Below.refl wr.heap.size wr).alloc (Nat.le_refl _) (.cells #[.int .i64 f, .int .i64 t, .int .u32 xw] 58)).cell (p:=⟨W.heap.size,t,none⟩) (by show W.heap.size<wr.heap.size;omega)).trans nt
     obtain⟨z0,z1,z2⟩:=three_cells (heap_top wr (.cells #[.int .i64 f, .int .i64 t, .int .u32 xw] 58))
     have H6:=hid ((Below.heap_alloc wr (.cells #[.int .i64 f, .int .i64 t, .int .u32 xw] 58) _ (lt_of_block hg4)).trans hg4)
     have H7:=hid ((Below.heap_alloc wr (.cells #[.int .i64 f, .int .i64 t, .int .u32 xw] 58) _ (lt_of_block hq4)).trans hq4)
     have b5:=b4.alloc b4.size (.cells #[.int .i64 f, .int .i64 t, .int .u32 xw] 58)
     have s5:wx.heap.size<(wr.alloc (.cells #[.int .i64 f, .int .i64 t, .int .u32 xw] 58)).heap.size:=by simp;omega
     generalize hW5:wr.alloc (.cells #[.int .i64 f, .int .i64 t, .int .u32 xw] 58)=W5 at*
     generalize Y.getD k A.zero=y at*
     clear hW5 c0 c1 c2 g0 g1 gf0 gf1 q0 q1 qf0 qf1 hown' hown hg4 hq4 b4 hx4 nf nt ci
     go_region
     go_wp2_with fail
     have h9:=HO5.out.put k ⟨nf',nt',xw⟩ hYl
     have e9:(Y.set k ⟨nf',nt',xw⟩).length=is.length:=by rw[List.length_set];exact HY.out
     refine⟨⟨k+1,Y.set k ⟨nf',nt',xw⟩,by omega,by go_num,e9,?_,?_,?_,?_,?_,?_,?_⟩,by simp[intOf];omega⟩
     ·show ∀j,_
      intro j hj
      rw[getDA_set _ _ _ _ hYl]
      by_cases e:j=k
      ·subst e
       rw[if_pos rfl,HREN2.out]
      ·rw[if_neg e,HJ.out j (by omega)]
     ·unfold OwnA at h9
      rw[e9] at h9
      exact h9
     ·exact ownsRow_setCell_other (ownsRow_setCell_other (ownsRow_setCell_other HX5.out (by simp[Value.ownBlock];omega) _) (by simp[Value.ownBlock];omega) _) (by simp[Value.ownBlock];omega) _
     ·exact(Below.heap_setCell _ _ _ _ (by show w.heap.size≠wx.heap.size;omega)).trans ((Below.heap_setCell _ _ _ _ (by show w.heap.size≠wx.heap.size;omega)).trans ((Below.heap_setCell _ _ _ _ (by show w.heap.size≠wx.heap.size;omega)).trans H6.out))
     ·exact(Below.heap_setCell _ _ _ _ (by show w.heap.size+1≠wx.heap.size;omega)).trans ((Below.heap_setCell _ _ _ _ (by show w.heap.size+1≠wx.heap.size;omega)).trans ((Below.heap_setCell _ _ _ _ (by show w.heap.size+1≠wx.heap.size;omega)).trans H7.out))
     ·exact(((b5.setCell (by show _≤wx.heap.size;omega) _).setCell (by show _≤wx.heap.size;omega) _).setCell (by show _≤wx.heap.size;omega) _).drew
     ·have:=(((Below.refl 0 W5).setCell (p:=⟨wx.heap.size,k*3,none⟩) (Nat.zero_le _) (.int .i64 nf')).setCell (p:=⟨wx.heap.size,k*3+1,none⟩) (Nat.zero_le _) (.int .i64 nt')).setCell (p:=⟨wx.heap.size,k*3+2,none⟩) (Nat.zero_le _) (.int .u32 xw)
      exact Nat.lt_of_lt_of_le s5 this.size
    ·have hY:Y=Z:=HEXT.out Y HY.out (fun j hj=>HJ.out j (by omega))
     rw[hY] at hown
     have HOWN:=hid hown
     clear hY hown
     go_wp2_with fail
     refine bodyPost_ret (v:= .agg #[.int .i64 (vs.length:Int), .slice (some ⟨wx.heap.size,0,none⟩) is.length is.length]) (by simp[results,Tryz.results151,go_sem,q0,q1]) rfl ⟨some ⟨wx.heap.size,0,none⟩,is.length,by rw[HIL.out],?_,(by simp),(b4.setCell (by show _≤w.heap.size+1;omega) _).setCell (by show _≤w.heap.size+1;omega) _⟩
     unfold OwnA
     rw[HIL.out]
     exact own_base (ownsRow_setCell_below (ownsRow_setCell_below HOWN.out (by show w.heap.size+1<_;omega) _) (by show w.heap.size+1<_;omega) _) (by omega)
end Go.Proofs.YtmenajiceaicpaaGreat.T3
