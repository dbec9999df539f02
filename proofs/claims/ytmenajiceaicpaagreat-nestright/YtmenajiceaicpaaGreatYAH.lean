import Derived.Test.YtmenajiceaicpaaGreatChecked
import Derived.WalkKit
import Derived.BigCall
import Derived.Lib.Hide
import Derived.BigQuiet
open Go.Lib (hid)
set_option maxRecDepth 100000
namespace Go.Proofs.YtmenajiceaicpaaGreat.T3
open Go.RowKit
structure A where
 f:Int
 t:Int
 w:Int
deriving DecidableEq
instance :Inhabited A:=⟨⟨0,0,0⟩⟩
def A.zero:A:=⟨0,0,0⟩
def A.at(x:A)(w:World)(b o:Nat):Prop:=
 w.cell? ⟨b,o,none⟩=some (.int .i64 x.f)∧w.cell? ⟨b,o+1,none⟩=some (.int .i64 x.t)∧w.cell? ⟨b,o+2,none⟩=some (.int .u32 x.w)
def Arcs(w:World)(a:Option Addr)(l:List A):Prop:=
 l= []∨∃b o,a=some ⟨b,o,none⟩∧b<w.heap.size∧∀j,j<l.length→(l.getD j A.zero).at w b (o+j*3)
theorem A.at.on{x:A}{w w':World}{b o:Nat}(h:x.at w b o)(hb:Below w.heap.size w w'):x.at w' b o:=by
 have hl:=World.block_lt_of_cell? w _ h.1
 exact⟨(hb.cell hl).trans h.1,(hb.cell (p:=⟨b,o+1,none⟩) hl).trans h.2.1,(hb.cell (p:=⟨b,o+2,none⟩) hl).trans h.2.2⟩
theorem Arcs.on{w w':World}{a:Option Addr}{l:List A}(h:Arcs w a l)(hb:Below w.heap.size w w'):Arcs w' a l:=by
 rcases h with h | ⟨b,o,rfl,hl,hc⟩
 ·exact Or.inl h
 ·exact Or.inr ⟨b,o,rfl,Nat.lt_of_lt_of_le hl hb.size,fun j hj=>(hc j hj).on hb⟩
def okV(N v:Int):Bool:=decide (0≤v∧v<N)
theorem okV_t{N v:Int}(h:okV N v=true):0≤v∧v<N:=by simpa[okV] using h
def okA(N:Int)(x:A):Bool:=okV N x.f&&okV N x.t
theorem okA_t{N:Int}{x:A}(h:okA N x=true):okV N x.f=true∧okV N x.t=true:=by simpa[okA] using h
def chkE(N:Int)(l:List A):Int:=if N<1∨1024<N then 1 else if 8192<l.length then 2 else if l.all (okA N) then 0 else 30
def chkAt(N:Int)(l:List A):Int:=if N<1∨1024<N then 0 else if 8192<l.length then 0 else if l.all (okA N) then 0 else (l.findIdx (fun x=> !okA N x):Nat)
set_option maxHeartbeats 400000 in
theorem vert_any(N v:Int)(a:Option Addr)(n cap:Nat)(w:World):
  Calls Tryz.prog 76 #[.agg #[.int .i64 N, .slice a n cap], .int .i64 v] w fun e w'=>e= .returned (.bool (okV N v))∧Below w.heap.size w w':=by
 by_cases h1:0≤v
 ·by_cases h2:v<N
  ·rw[show okV N v=true by simp[okV,h1,h2]]
   go_enter Tryz.func76,Tryz.ntmps76
   go_wp2_with fail
   go_ret
   exact⟨rfl,(Below.refl _ _).alloc (Nat.le_refl _) _⟩
  ·rw[show okV N v=false by simp[okV,h2]]
   go_enter Tryz.func76,Tryz.ntmps76
   go_wp2_with fail
   go_ret
   exact⟨rfl,(Below.refl _ _).alloc (Nat.le_refl _) _⟩
 ·rw[show okV N v=false by simp[okV,h1]]
  go_enter Tryz.func76,Tryz.ntmps76
  go_wp2_with fail
  go_ret
  exact⟨rfl,(Below.refl _ _).alloc (Nat.le_refl _) _⟩
theorem all_take{l:List A}{p:A→Bool}{k:Nat}(hk:k<l.length)(h:(l.take k).all p=true)(hp:p (l.getD k A.zero)=true):(l.take (k+1)).all p=true:=by
 rw[List.take_succ_eq_append_getElem hk,List.all_append,h]
 have e:l.getD k A.zero=l[k]:=by simp[List.getD,List.getElem?_eq_getElem hk]
 rw[e] at hp
 simp[hp]
theorem find_at{l:List A}{p:A→Bool}{k:Nat}(hk:k<l.length)(h:(l.take k).all p=true)(hp:p (l.getD k A.zero)=false):l.all p=false∧l.findIdx (fun x=> !p x)=k:=by
 have e:l.getD k A.zero=l[k]:=by simp[List.getD,List.getElem?_eq_getElem hk]
 rw[e] at hp
 constructor
 ·rw[List.all_eq_false]
  exact⟨l[k],List.getElem_mem hk,by simp[hp]⟩
 ·rw[List.findIdx_eq hk]
  refine⟨by simp[hp],fun j hj=> ?_⟩
  have h2:=List.all_eq_true.1 h (l[j]) (by rw[List.mem_take_iff_getElem];exact⟨j,by omega,rfl⟩)
  simp[h2]
theorem heap_top(w:World)(o:Obj):(w.alloc o).heap[w.heap.size]? =some o:=by show(w.heap.push o)[w.heap.size]? =_;simp
theorem keep1{w w2:World}{o o':Obj}{g:Nat}(hg:w.heap[g]? =some o')(hb:Below (w.alloc o).heap.size (w.alloc o) w2):w2.heap[g]? =some o'∧w2.heap[w.heap.size]? =some o:=by
 have hl:=lt_of_block hg
 exact⟨(hb.block g (by simp;omega)).trans ((Below.heap_alloc w o g hl).trans hg),(hb.block w.heap.size (by simp)).trans (heap_top w o)⟩
theorem bthen{B:Nat}{w w1 w2:World}(h:Below B w w1)(k:Below w1.heap.size w1 w2)(hB:B≤w1.heap.size):Below B w w2:=h.trans (k.mono hB)
theorem two_cells{w:World}{g:Nat}{a b:Value}{t:TypeId}(h:w.heap[g]? =some (.cells #[a,b] t)):(w.cell? ⟨g,0,none⟩=some a∧w.cell? ⟨g,1,none⟩=some b)∧(w.frozen? ⟨g,0,none⟩=false∧w.frozen? ⟨g,1,none⟩=false):=by
 simp[World.cell?,World.frozen?,h]
theorem three_cells{w:World}{g:Nat}{a b c:Value}{t:TypeId}(h:w.heap[g]? =some (.cells #[a,b,c] t)):w.cell? ⟨g,0,none⟩=some a∧w.cell? ⟨g,1,none⟩=some b∧w.cell? ⟨g,2,none⟩=some c:=by
 simp[World.cell?,h]
theorem named{α:Sort _}(x:α): ∃y,Hid (x=y):=⟨x,rfl⟩
theorem chk_range{N:Int}{l:List A}(h:N<1∨1024<N):chkE N l=1∧chkAt N l=0:=by
 unfold chkE chkAt;rw[if_pos h,if_pos h];exact⟨rfl,rfl⟩
theorem chk_long{N:Int}{l:List A}(h: ¬(N<1∨1024<N))(h3:8192<l.length):chkE N l=2∧chkAt N l=0:=by
 unfold chkE chkAt;rw[if_neg h,if_neg h,if_pos h3,if_pos h3];exact⟨rfl,rfl⟩
theorem chk_ok{N:Int}{l:List A}(h: ¬(N<1∨1024<N))(h3: ¬8192<l.length)(h4:l.all (okA N)=true):chkE N l=0∧chkAt N l=0:=by
 unfold chkE chkAt;rw[if_neg h,if_neg h,if_neg h3,if_neg h3,if_pos h4,if_pos h4];exact⟨rfl,rfl⟩
theorem chk_bad{N:Int}{l:List A}{k:Nat}(h: ¬(N<1∨1024<N))(h3: ¬8192<l.length)(h4:l.all (okA N)=false∧l.findIdx (fun x=> !okA N x)=k):chkE N l=30∧chkAt N l=k:=by
 unfold chkE chkAt;rw[if_neg h,if_neg h,if_neg h3,if_neg h3,h4.1,h4.2];exact⟨rfl,rfl⟩
theorem chk_zero{N:Int}{l:List A}(h:chkE N l=0):1≤N∧N≤1024∧l.length≤8192∧∀x∈l,(0≤x.f∧x.f<N)∧(0≤x.t∧x.t<N):=by
 unfold chkE at h
 split at h
 ·cases h
 split at h
 ·cases h
 split at h
 ·rename_i h1 h2 h3
  refine⟨by omega,by omega,by omega,fun x hx=> ?_⟩
  obtain⟨h5,h6⟩:=okA_t (List.all_eq_true.1 h3 x hx)
  exact⟨okV_t h5,okV_t h6⟩
 ·cases h
set_option maxHeartbeats 800000 in
theorem check_any(N:Int)(a:Option Addr)(l:List A)(cap:Nat)(w:World)(hl:l.length≤9223372036854775807)(hr:Arcs w a l):
  Calls Tryz.prog 59 #[.agg #[.int .i64 N, .slice a l.length cap]] w fun e w'=>e= .returned (.tuple #[.int .i64 (chkAt N l), .int .i64 (chkE N l)])∧Below w.heap.size w w':=by
 by_cases h1:N<1
 ·rw[(chk_range (l:=l) (Or.inl h1)).1,(chk_range (l:=l) (Or.inl h1)).2]
  go_enter Tryz.func59,Tryz.ntmps59
  go_wp2_with fail
  go_ret2
  exact⟨rfl,(Below.refl _ _).alloc (Nat.le_refl _) _⟩
 by_cases h2:1024<N
 ·rw[(chk_range (l:=l) (Or.inr h2)).1,(chk_range (l:=l) (Or.inr h2)).2]
  go_enter Tryz.func59,Tryz.ntmps59
  go_wp2_with fail
  go_ret2
  exact⟨rfl,(Below.refl _ _).alloc (Nat.le_refl _) _⟩
 have hN: ¬(N<1∨1024<N):=by omega
 by_cases h3:8192<l.length
 ·have h3':(8192:Int)<l.length:=by omega
  rw[(chk_long hN h3).1,(chk_long hN h3).2]
  clear hN
  go_enter Tryz.func59,Tryz.ntmps59
  go_wp2_with fail
  go_ret2
  exact⟨rfl,(Below.refl _ _).alloc (Nat.le_refl _) _⟩
 have h3': ¬(8192:Int)<l.length:=by omega
 have HN:=hid hN
 clear hN
 obtain⟨E,HE⟩:=named (chkE N l)
 obtain⟨T,HAT⟩:=named (chkAt N l)
 rw[HE.out,HAT.out]
 have hb0:Below w.heap.size w (w.alloc (.cells #[.int .i64 N, .slice a l.length cap] 24)):=(Below.refl _ _).alloc (Nat.le_refl _) _
 obtain⟨b,o,hab⟩: ∃b o,0<l.length→a=some ⟨b,o,none⟩∧b<w.heap.size∧∀j,j<l.length→(l.getD j A.zero).at w b (o+j*3):=by
  rcases hr with rfl | ⟨b,o,h⟩
  ·exact⟨0,0,fun h=>absurd h (by simp)⟩
  ·exact⟨b,o,fun _=>h⟩
 go_enter Tryz.func59,Tryz.ntmps59
 go_wp2_with fail
 go_loopw [21] (fun i wr=> ∃k:Nat,k≤l.length∧i= .int .i64 k∧Hid ((l.take k).all (okA N)=true)∧wr.heap[w.heap.size]? =some (.cells #[.int .i64 N, .slice a l.length cap] 24)∧Below w.heap.size w wr) (fun i _=>l.length - (intOf i).toNat)
 case atStart=>exact⟨0,Nat.zero_le _,rfl,by show _=_;simp,heap_top w _,hb0⟩
 case round=>
  obtain⟨k,hk,rfl,hall,hg,hb⟩:=hrel
  obtain⟨⟨g0,g1⟩,gf0,gf1⟩:=two_cells hg
  have hsz:w.heap.size<wr.heap.size:=lt_of_block hg
  by_cases hlt:k<l.length
  ·obtain⟨rfl,hbl,hat⟩:=hab (by omega)
   obtain⟨c0,c1,c2⟩:=(hat k hlt).on hb
   have HT:=hid (fun(h:okA N (l.getD k A.zero)=true)=>all_take hlt hall.out h)
   have HF:=hid (fun(h:okA N (l.getD k A.zero)=false)=>find_at hlt hall.out h)
   generalize l.getD k A.zero=x at*
   go_wp2_with fail
   refine(vert_any N x.f _ _ _ _).mono ?_
   rintro e w2 ⟨rfl,hb2⟩
   obtain⟨hg2,hx2⟩:=keep1 hg hb2
   have s2:wr.heap.size<w2.heap.size:=lt_of_block hx2
   have b2:Below w.heap.size w w2:=bthen (hb.alloc (by omega) _) hb2 (by simp;omega)
   clear hb2 hg g0 g1 gf0 gf1 c0 c1 c2 hb
   obtain⟨⟨g0,g1⟩,gf0,gf1⟩:=two_cells hg2
   obtain⟨c0,c1,c2⟩:=three_cells hx2
   by_cases h5:okV N x.f=true
   ·rw[h5]
    go_wp2_with fail
    refine(vert_any N x.t _ _ _ _).mono ?_
    rintro e w3 ⟨rfl,hb3⟩
    have hg3:=(hb3.block _ (lt_of_block hg2)).trans hg2
    have b3:Below w.heap.size w w3:=bthen b2 hb3 (by omega)
    clear hb3 hg2 g0 g1 gf0 gf1 c0 c1 c2 b2 hx2
    by_cases h6:okV N x.t=true
    ·rw[h6]
     have hA:okA N x=true:=by simp[okA,h5,h6]
     go_wp2_with fail
     exact⟨⟨k+1,by omega,by go_num,HT.out hA,hg3,b3⟩,by simp[intOf];omega⟩
    ·have h6':okV N x.t=false:=by simpa using h6
     rw[h6']
     have hE:=chk_bad HN.out h3 (HF.out (by simp[okA,h6']))
     rw[HE.out,HAT.out] at hE
     obtain⟨rfl,rfl⟩:=hE
     go_wp2_with fail
     go_ret2
     exact⟨rfl,b3⟩
   ·have h5':okV N x.f=false:=by simpa using h5
    rw[h5']
    have hE:=chk_bad HN.out h3 (HF.out (by simp[okA,h5']))
    rw[HE.out,HAT.out] at hE
    obtain⟨rfl,rfl⟩:=hE
    go_wp2_with fail
    go_ret2
    exact⟨rfl,b2⟩
  ·have hE:=chk_ok HN.out h3 (by have:=hall.out;rw[List.take_of_length_le (by omega)] at this;exact this)
   rw[HE.out,HAT.out] at hE
   obtain⟨rfl,rfl⟩:=hE
   go_wp2_with fail
   go_ret2
   exact⟨rfl,hb⟩
theorem info3:(Tryz.prog.info? 3).map (fun i=>(i.zero,i.size,i.bytes))=some (some (.int .i64 0),1,8):=by kernel_rfl
def cellsI(l:List Int):List Value:=l.map (Value.int .i64)
theorem cellsI_snoc(l:List Int)(x:Int):cellsI l++[.int .i64 x]=cellsI (l++[x]):=by unfold cellsI;simp
theorem cellsI_getD(xs:List Int)(k:Nat)(h:k<xs.length):(cellsI xs)[k]? =some (.int .i64 (xs.getD k 0)):=by
 unfold cellsI
 simp[List.getD,List.getElem?_eq_getElem h]
theorem cellsI_set(xs:List Int)(k:Nat)(x:Int):(cellsI xs).set k (.int .i64 x)=cellsI (xs.set k x):=by
 unfold cellsI
 rw[List.map_set]
theorem one_i64(x:Int): ∀u∈ [Value.int .i64 x],u.oneCell'=true:=by intro u hu;simp at hu;subst hu;rfl
theorem own_shape{w:World}{base:Nat}{e:TypeId}{size:Nat}{v:Value}{n:Nat}{xs:List Value}(h:w.ownsRow base e size v n xs)(hn:v≠ .slice none 0 0): ∃g c,v= .slice (some ⟨g,0,none⟩) n c∧base≤g∧n≤c∧g<w.heap.size∧c≤9223372036854775807:=by
 rcases h.2 with ⟨h',_⟩ | ⟨g,c,cur,h',hb,hg,hnc,hm,_⟩
 ·exact absurd h' hn
 ·exact⟨g,c,h',hb,hnc,lt_of_block hg,hm⟩
def hits(q:Nat→Bool):Nat→List Int
 | 0=> []
 | k+1=>if q k then hits q k++[(k:Int)] else hits q k
theorem hits_t{q:Nat→Bool}{k:Nat}(h:q k=true):hits q (k+1)=hits q k++[(k:Int)]:=by rw[hits,if_pos h]
theorem hits_f{q:Nat→Bool}{k:Nat}(h:q k=false):hits q (k+1)=hits q k:=by rw[hits,if_neg (by simp[h])]
theorem hits_len(q:Nat→Bool)(k:Nat):(hits q k).length≤k:=by
 induction k with
 | zero=>simp[hits]
 | succ k ih=>
   unfold hits
   split
   ·simp;omega
   ·omega
def ArcsB(B:Nat)(w:World)(a:Option Addr)(l:List A):Prop:=
 l= []∨∃b o,a=some ⟨b,o,none⟩∧b<B∧∀j,j<l.length→(l.getD j A.zero).at w b (o+j*3)
theorem A.at.onB{x:A}{w w':World}{b o B:Nat}(h:x.at w b o)(hl:b<B)(hb:Below B w w'):x.at w' b o:=
 ⟨(hb.cell hl).trans h.1,(hb.cell (p:=⟨b,o+1,none⟩) hl).trans h.2.1,(hb.cell (p:=⟨b,o+2,none⟩) hl).trans h.2.2⟩
theorem ArcsB.on{B:Nat}{w w':World}{a:Option Addr}{l:List A}(h:ArcsB B w a l)(hb:Below B w w'):ArcsB B w' a l:=by
 rcases h with h | ⟨b,o,rfl,hl,hc⟩
 ·exact Or.inl h
 ·exact Or.inr ⟨b,o,rfl,hl,fun j hj=>(hc j hj).onB hl hb⟩
theorem ArcsB.up{B B':Nat}{w:World}{a:Option Addr}{l:List A}(h:ArcsB B w a l)(hb:B≤B'):ArcsB B' w a l:=by
 rcases h with h | ⟨b,o,rfl,hl,hc⟩
 ·exact Or.inl h
 ·exact Or.inr ⟨b,o,rfl,Nat.lt_of_lt_of_le hl hb,hc⟩
theorem Arcs.b{w:World}{a:Option Addr}{l:List A}(h:Arcs w a l):ArcsB w.heap.size w a l:=h
theorem ArcsB.get{B:Nat}{w:World}{a:Option Addr}{l:List A}(h:ArcsB B w a l): ∃b o,0<l.length→a=some ⟨b,o,none⟩∧b<B∧∀j,j<l.length→(l.getD j A.zero).at w b (o+j*3):=by
 rcases h with rfl | ⟨b,o,h⟩
 ·exact⟨0,0,fun h=>absurd h (by simp)⟩
 ·exact⟨b,o,fun _=>h⟩
theorem not3{t:TypeId}{c:Array Value}(h:t≠3): ∀cur,Obj.cells c t (0,0)≠ .cells cur 3 (0,0):=by
 intro cur e
 injection e with e1 e2 e3
 exact h e2
def Made(w w':World)(e:Ending)(xs:List Int)(E:Int):Prop:=
 ∃a c,e= .returned (.tuple #[.slice a xs.length c, .int .i64 E])∧w'.ownsRow w.heap.size 3 1 (.slice a xs.length c) xs.length (cellsI xs)∧Below w.heap.size w w'
theorem made_nil{w w':World}{E:Int}(hb:Below w.heap.size w w'):Made w w' (.returned (.tuple #[.slice none 0 0, .int .i64 E])) [] E:=
 ⟨none,0,rfl,World.ownsRow_nil _ _ _ _,hb⟩
theorem own_slice{w:World}{base:Nat}{e:TypeId}{size:Nat}{v:Value}{n:Nat}{xs:List Value}(h:w.ownsRow base e size v n xs): ∃a c,v= .slice a n c:=by
 rcases h.2 with ⟨rfl,rfl⟩ | ⟨g,c,cur,rfl,_⟩
 ·exact⟨none,0,rfl⟩
 ·exact⟨_,c,rfl⟩
theorem own_base{w:World}{base base':Nat}{e:TypeId}{size:Nat}{v:Value}{n:Nat}{xs:List Value}(h:w.ownsRow base e size v n xs)(hb:base'≤base):w.ownsRow base' e size v n xs:=by
 refine⟨h.1,?_⟩
 rcases h.2 with h' | ⟨g,c,cur,h1,h2,h3⟩
 ·exact Or.inl h'
 ·exact Or.inr ⟨g,c,cur,h1,Nat.le_trans hb h2,h3⟩
def ints(L:List Nat):List Int:=L.map (fun x:Nat=>(x:Int))
theorem ints_len(L:List Nat):(ints L).length=L.length:=by unfold ints;simp
theorem ints_getD(L:List Nat)(k:Nat):(ints L).getD k 0=((L.getD k 0:Nat):Int):=by
 unfold ints
 by_cases h:k<L.length
 ·simp[List.getD,List.getElem?_eq_getElem h]
 ·simp[List.getD,List.getElem?_eq_none (Nat.le_of_not_lt h)]
theorem ints_set(L:List Nat)(k x:Nat):(ints L).set k (x:Int)=ints (L.set k x):=by unfold ints;rw[List.map_set]
theorem getD_set(L:List Nat)(k j x:Nat)(hk:k<L.length):(L.set k x).getD j 0=if j=k then x else L.getD j 0:=by
 by_cases h:j=k
 ·subst h;simp[List.getD,hk]
 ·rw[if_neg h];simp[List.getD,Ne.symm h]
structure Lead(n:Nat)(L:List Nat)(R:Nat→Nat):Prop where
 len:L.length=n
 le: ∀v,v<n→L.getD v 0≤v
 on: ∀v,v<n→R (L.getD v 0)=R v
 top: ∀v,v<n→L.getD v 0=v→R v=v
 rle: ∀v,R v≤v
 rr: ∀v,R (R v)=R v
theorem Lead.short{n:Nat}{L:List Nat}{R:Nat→Nat}(h:Lead n L R){u:Nat}(hu:u<n)(hne:L.getD u 0≠u):Lead n (L.set u (L.getD (L.getD u 0) 0)) R∧L.getD (L.getD u 0) 0<u∧R (L.getD (L.getD u 0) 0)=R u:=by
 have h1:=h.le u hu
 have hy:L.getD u 0<n:=by omega
 have h2:=h.le _ hy
 have e1:=h.on u hu
 have e2:=h.on _ hy
 have hl:u<L.length:=by rw[h.len];exact hu
 refine⟨⟨by rw[List.length_set];exact h.len,fun v hv=> ?_,fun v hv=> ?_,fun v hv he=> ?_,h.rle,h.rr⟩,by omega,by omega⟩
 ·rw[getD_set _ _ _ _ hl]
  split
  ·omega
  ·exact h.le v hv
 ·rw[getD_set _ _ _ _ hl]
  split
  ·rename_i e;rw[e];omega
  ·exact h.on v hv
 ·rw[getD_set _ _ _ _ hl] at he
  split at he
  ·rename_i e;omega
  ·exact h.top v hv he
def mgW(R:Nat→Nat)(M m:Nat):Nat→Nat:=fun x=>if R x=M then m else R x
def mg(R:Nat→Nat)(a b:Nat):Nat→Nat:=mgW R (max (R a) (R b)) (min (R a) (R b))
theorem Lead.joinW{n:Nat}{L:List Nat}{R:Nat→Nat}(h:Lead n L R){M m:Nat}(hM:R M=M)(hm:R m=m)(hle:m≤M)(hlt:M<n):Lead n (L.set M m) (mgW R M m):=by
 have hl:M<L.length:=by rw[h.len];exact hlt
 have em:mgW R M m m=m:=by unfold mgW;rw[hm];split <;> rfl
 have eM:mgW R M m M=m:=by unfold mgW;rw[hM,if_pos rfl]
 refine⟨by rw[List.length_set];exact h.len,fun v hv=> ?_,fun v hv=> ?_,fun v hv he=> ?_,fun v=> ?_,fun v=> ?_⟩
 ·rw[getD_set _ _ _ _ hl]
  split
  ·omega
  ·exact h.le v hv
 ·rw[getD_set _ _ _ _ hl]
  split
  ·rename_i e;rw[e,em,eM]
  ·unfold mgW;rw[h.on v hv]
 ·rw[getD_set _ _ _ _ hl] at he
  split at he
  ·rename_i e;rw[e,eM];omega
  ·have:=h.top v hv he
   rename_i hne
   unfold mgW;rw[this,if_neg hne]
 ·have:=h.rle v
  unfold mgW
  split <;> omega
 ·by_cases e:R v=M
  ·rw[show mgW R M m v=m from if_pos e,em]
  ·rw[show mgW R M m v=R v from if_neg e]
   unfold mgW
   rw[h.rr v,if_neg e]
theorem Lead.join{n:Nat}{L:List Nat}{R:Nat→Nat}(h:Lead n L R){a b:Nat}(ha:a<n)(hb:b<n):Lead n (L.set (max (R a) (R b)) (min (R a) (R b))) (mg R a b):=by
 have ra:=h.rle a
 have rb:=h.rle b
 refine h.joinW ?_ ?_ (by omega) (by omega)
 ·rcases Nat.le_total (R a) (R b) with e | e
  ·rw[Nat.max_eq_right e];exact h.rr b
  ·rw[Nat.max_eq_left e];exact h.rr a
 ·rcases Nat.le_total (R a) (R b) with e | e
  ·rw[Nat.min_eq_left e];exact h.rr a
  ·rw[Nat.min_eq_right e];exact h.rr b
def cnt(R:Nat→Nat):Nat→Nat
 | 0=>0
 | m+1=>if R m=m then cnt R m+1 else cnt R m
def lab(R:Nat→Nat)(v:Nat):Nat:=cnt R (R v)
def labs(R:Nat→Nat)(n:Nat):List Nat:=(List.range n).map (lab R)
theorem labs_len(R:Nat→Nat)(n:Nat):(labs R n).length=n:=by unfold labs;simp
theorem labs_getD(R:Nat→Nat)(n v:Nat)(h:v<n):(labs R n).getD v 0=lab R v:=by unfold labs;simp[List.getD,h]
theorem labs_ext{R:Nat→Nat}{n:Nat}{X:List Nat}(hx:X.length=n)(h: ∀j,j<n→X.getD j 0=lab R j):X=labs R n:=by
 apply List.ext_getElem (by rw[labs_len];exact hx)
 intro j h1 h2
 have e1:X.getD j 0=X[j]:=by simp[List.getD,List.getElem?_eq_getElem h1]
 have e2:(labs R n).getD j 0=(labs R n)[j]:=by simp[List.getD,List.getElem?_eq_getElem h2]
 rw[←e1,←e2,labs_getD R n j (by omega),h j (by omega)]
theorem Lead.step{n:Nat}{L:List Nat}{R:Nat→Nat}(h:Lead n L R){k:Nat}(hk:k<n):(L.getD k 0=k→lab R k=cnt R k∧cnt R (k+1)=cnt R k+1)∧(L.getD k 0≠k→L.getD k 0<k∧lab R k=lab R (L.getD k 0)∧cnt R (k+1)=cnt R k):=by
 have h1:=h.le k hk
 constructor
 ·intro e
  have:=h.top k hk e
  exact⟨by unfold lab;rw[this],by rw[cnt,if_pos this]⟩
 ·intro e
  have e1:=h.on k hk
  have e2:=h.rle (L.getD k 0)
  exact⟨by omega,by unfold lab;rw[e1],by rw[cnt,if_neg (by omega)]⟩
theorem cnt_le(R:Nat→Nat)(m:Nat):cnt R m≤m:=by
 induction m with
 | zero=>exact Nat.le_refl _
 | succ m ih=>unfold cnt;split <;> omega
def lead(l:List A):Nat→Nat:=l.foldl (fun R x=>mg R x.f.toNat x.t.toNat) id
theorem lead_take(l:List A)(k:Nat)(hk:k<l.length):lead (l.take (k+1))=mg (lead (l.take k)) (l.getD k A.zero).f.toNat (l.getD k A.zero).t.toNat:=by
 unfold lead
 rw[List.take_add_one,List.foldl_append]
 simp[List.getD,List.getElem?_eq_getElem hk]
theorem Lead.start(n:Nat){L:List Nat}(hl:L.length=n)(h: ∀j,j<n→L.getD j 0=j):Lead n L id:=
 ⟨hl,fun v hv=>by rw[h v hv];exact Nat.le_refl _,fun v hv=>by rw[h v hv],fun _ _ _=>rfl,fun _=>Nat.le_refl _,fun _=>rfl⟩
structure Rd(g:Nat)(w w':World):Prop where
 os:w'.os=w.os
 tape:w'.tape=w.tape
 output:w'.output=w.output
 size:w.heap.size≤w'.heap.size
 block: ∀k,k<w.heap.size→k≠g→w'.heap[k]? =w.heap[k]?
theorem Rd.refl(g:Nat)(w:World):Rd g w w:=⟨rfl,rfl,rfl,Nat.le_refl _,fun _ _ _=>rfl⟩
theorem Rd.trans{g:Nat}{a b c:World}(h:Rd g a b)(k:Rd g b c):Rd g a c:=
 ⟨k.os.trans h.os,k.tape.trans h.tape,k.output.trans h.output,Nat.le_trans h.size k.size,fun i hi hn=>(k.block i (Nat.lt_of_lt_of_le hi h.size) hn).trans (h.block i hi hn)⟩
theorem Rd.set{g:Nat}(w:World)(o:Nat)(u:Value):Rd g w (w.setCell ⟨g,o,none⟩ u):=by
 have h:=(Below.refl 0 w).setCell (p:=⟨g,o,none⟩) (Nat.zero_le _) u
 exact⟨h.os,h.tape,h.output,h.size,fun k _ hn=>Below.heap_setCell w _ u k hn⟩
theorem Rd.below{g B:Nat}{w0 w w':World}(h:Rd g w w')(hb:Below B w0 w)(hg:B≤g)(hB:B≤w.heap.size):Below B w0 w':=
 hb.trans ⟨h.os,h.tape,h.output,h.size,fun k hk=>h.block k (by omega) (by omega)⟩
def OwnL(w:World)(g n:Nat)(L:List Nat):Prop:=w.ownsRow g 3 1 (.slice (some ⟨g,0,none⟩) n n) n (cellsI (ints L))
theorem OwnL.cell{w:World}{g n:Nat}{L:List Nat}(h:OwnL w g n L)(hl:L.length=n)(k:Nat)(hk:k<n):w.cell? ⟨g,k,none⟩=some (.int .i64 ((L.getD k 0:Nat):Int)):=by
 rw[World.ownsRow.cellAt h k (by omega),cellsI_getD _ k (by rw[ints_len];omega),ints_getD]
theorem OwnL.set{w:World}{g n:Nat}{L:List Nat}(h:OwnL w g n L)(k x:Nat):OwnL (w.setCell ⟨g,k,none⟩ (.int .i64 (x:Int))) g n (L.set k x):=by
 have:=(World.ownsRow.stored h k (.int .i64 (x:Int))).1
 rw[cellsI_set,ints_set] at this
 exact this
theorem OwnL.free{w:World}{g n:Nat}{L:List Nat}(h:OwnL w g n L)(k:Nat):w.frozen? ⟨g,k,none⟩=false:=World.ownsRow.frozenAt h k
set_option maxHeartbeats 800000 in
theorem leader_any(g n v:Nat)(L:List Nat)(R:Nat→Nat)(w:World)(hv:v<n)(hL:Lead n L R)(ho:OwnL w g n L):
  Calls Tryz.prog 147 #[.slice (some ⟨g,0,none⟩) n n, .int .i64 (v:Int)] w fun e w'=>e= .returned (.int .i64 ((R v:Nat):Int))∧(∃L',Lead n L' R∧OwnL w' g n L')∧Rd g w w':=by
 obtain⟨r,HR⟩:=named (R v)
 rw[HR.out]
 go_enter Tryz.func147,Tryz.ntmps147
 go_wp2_with fail
 go_loopw [1] (fun i wr=> ∃ (u:Nat) (M:List Nat),u<n∧i= .int .i64 (u:Int)∧Hid (R u=r)∧Hid (Lead n M R)∧OwnL wr g n M∧Rd g w wr) (fun i _=>(intOf i).toNat)
 case atStart=>exact⟨v,L,hv,rfl,HR,hL,ho,Rd.refl _ _⟩
 case round=>
  obtain⟨u,M,hu,rfl,HU,HM,hown,hrd⟩:=hrel
  have cu:=hown.cell HM.out.len u hu
  have fu:=hown.free u
  by_cases hy:M.getD u 0=u
  ·rw[hy] at cu
   have hr:=HM.out.top u hu hy
   rw[HU.out] at hr
   subst hr
   clear hy
   go_wp2_with fail
   go_ret
   exact⟨rfl,⟨M,HM.out,hown⟩,hrd⟩
  ·obtain⟨HL2,hz,HRz⟩:=HM.out.short hu hy
   have hyn:M.getD u 0<n:=by have:=HM.out.le u hu;omega
   have cy:=hown.cell HM.out.len _ hyn
   have hown2:=hown.set u (M.getD (M.getD u 0) 0)
   generalize M.getD (M.getD u 0) 0=z at*
   generalize M.getD u 0=y at*
   have hy':((y:Int)==(u:Int))=false:=beq_eq_false_iff_ne.2 (by omega)
   have HL2':=hid HL2
   have HRz':Hid (R z=r):=HRz.trans HU.out
   clear HL2 HRz
   go_wp2_with fail
   exact⟨⟨z,_,by omega,rfl,HRz',HL2',hown2,hrd.trans (Rd.set _ _ _)⟩,by simp[intOf];omega⟩
theorem OwnL.lt{w:World}{g n:Nat}{L:List Nat}(h:OwnL w g n L):g<w.heap.size:=(World.ownsRow.lt h g rfl).2
set_option maxHeartbeats 800000 in
theorem join_any(g n a b:Nat)(L:List Nat)(R:Nat→Nat)(w:World)(ha:a<n)(hb:b<n)(hL:Lead n L R)(ho:OwnL w g n L):
  Calls Tryz.prog 119 #[.slice (some ⟨g,0,none⟩) n n, .int .i64 (a:Int), .int .i64 (b:Int)] w fun e w'=>e= .returned (.tuple #[])∧(∃L',Lead n L' (mg R a b)∧OwnL w' g n L')∧Rd g w w':=by
 go_enter Tryz.func119,Tryz.ntmps119
 go_wp2_with fail
 refine(leader_any g n a L R w ha hL ho).mono ?_
 rintro e w1 ⟨rfl,⟨L1,hL1,ho1⟩,hr1⟩
 go_wp2_with fail
 refine(leader_any g n b L1 R w1 hb hL1 ho1).mono ?_
 rintro e w2 ⟨rfl,⟨L2,hL2,ho2⟩,hr2⟩
 have HL3:=hid (hL2.join ha hb)
 have hlt:max (R a) (R b)<n:=by have:=hL2.rle a;have:=hL2.rle b;omega
 have ho3:=ho2.set (max (R a) (R b)) (min (R a) (R b))
 have cm:=ho2.cell hL2.len _ hlt
 have fm:=ho2.free (max (R a) (R b))
 clear hL hL1 hL2 ho ho1
 rcases Nat.lt_trichotomy (R a) (R b) with h | h | h
 ·rw[Nat.max_eq_right (by omega),Nat.min_eq_left (by omega)] at*
  generalize R a=x at*
  generalize R b=y at*
  have h': ¬y<x:=by omega
  go_wp2_with fail
  go_end0
  exact⟨rfl,⟨_,HL3.out,ho3⟩,(hr1.trans hr2).trans (Rd.set _ _ _)⟩
 ·rw[show max (R a) (R b)=R b by omega,show min (R a) (R b)=R b by omega] at*
  rw[h]
  generalize R b=y at*
  clear h
  go_wp2_with fail
  go_end0
  exact⟨rfl,⟨_,HL3.out,ho3⟩,(hr1.trans hr2).trans (Rd.set _ _ _)⟩
 ·rw[Nat.max_eq_left (by omega),Nat.min_eq_right (by omega)] at*
  generalize R a=x at*
  generalize R b=y at*
  have h': ¬x<y:=by omega
  go_wp2_with fail
  go_end0
  exact⟨rfl,⟨_,HL3.out,ho3⟩,(hr1.trans hr2).trans (Rd.set _ _ _)⟩
set_option maxHeartbeats 800000 in
theorem tidy_any(g n:Nat)(L:List Nat)(R:Nat→Nat)(w:World)(hn:n≤1024)(hL:Lead n L R)(ho:OwnL w g n L):
  Calls Tryz.prog 120 #[.slice (some ⟨g,0,none⟩) n n] w fun e w'=>e= .returned (.slice (some ⟨w.heap.size,0,none⟩) n n)∧OwnL w' w.heap.size n (labs R n)∧Below w.heap.size w w':=by
 obtain⟨i0,hi,hz0,hz1,hz2⟩:=info_parts info3
 have hg:=ho.lt
 have HL:=hid hL
 clear hL
 go_enter Tryz.func120,Tryz.ntmps120
 go_wp2_with (at_make;refine wpList_make_full _ rfl (.tmp 8) (.tmp 8) 25 rfl w.heap.size 3 i0 (.int .i64 0) 1 Tryz.underlying25 hi hz0 hz1 .i64 .i64 n n n rfl rfl rfl rfl (by rw[hz2];omega) (by unfold maxLen;omega) (Nat.le_refl _) ?_;intro w1 hown1 hgrow1)
 have hown0:OwnL w1 w.heap.size n (List.replicate n 0):=by
  have e:(madeCells (Value.int .i64 0).cells (n*1)).toList=cellsI (ints (List.replicate n 0)):=by
   show(madeCells #[Value.int .i64 0] (n*1)).toList=_
   rw[toList_madeCells_one,Nat.mul_one]
   unfold cellsI ints
   simp
  rw[e] at hown1
  exact hown1
 have hb1:Below w.heap.size w w1:=(Below.refl _ _).grown hgrow1 (Nat.le_refl _) (by intro k hk;cases hk)
 clear hown1 hgrow1
 go_loopw [4,12] (fun t i wr=> ∃ (k:Nat) (X:List Nat),k≤n∧i= .int .i64 (k:Int)∧t= .int .i64 ((cnt R k:Nat):Int)∧Hid (X.length=n)∧Hid (∀j,j<k→X.getD j 0=lab R j)∧OwnL wr w.heap.size n X∧Below w.heap.size w wr) (fun _ i _=>n - (intOf i).toNat)
 case atStart=>exact⟨0,List.replicate n 0,Nat.zero_le _,rfl,rfl,by show _=_;simp,by intro j hj;omega,hown0,hb1⟩
 case round=>
  obtain⟨k,X,hk,rfl,rfl,HX,HJ,hown,hbel⟩:=hrel
  by_cases hlt:k<n
  ·have hck:=cnt_le R k
   have cg:wr.cell? ⟨g,k,none⟩=some (.int .i64 ((L.getD k 0:Nat):Int)):=(hbel.cell hg).trans (ho.cell HL.out.len k hlt)
   have cx:=hown.cell HX.out k hlt
   have fx:=hown.free k
   have hXl:k<X.length:=by rw[HX.out];exact hlt
   obtain⟨s1,s2⟩:=HL.out.step hlt
   by_cases hy:L.getD k 0=k
   ·obtain⟨e1,e2⟩:=s1 hy
    rw[hy] at cg
    have hst:=hown.set k (cnt R k)
    have HE2:Hid (cnt R (k+1)=cnt R k+1):=e2
    have HN:Hid (∀j,j<k+1→(X.set k (cnt R k)).getD j 0=lab R j):=by
     show ∀j,_
     intro j hj
     rw[getD_set _ _ _ _ hXl]
     split
     ·rename_i e;rw[e,e1]
     ·exact HJ.out j (by omega)
    clear hy s1 s2 e1 e2
    generalize cnt R k=c at*
    generalize X.getD k 0=x0 at*
    go_wp2_with fail
    exact⟨⟨k+1,_,by omega,by go_num,by rw[HE2.out];go_num,by show _=_;rw[List.length_set];exact HX.out,HN,hst,hbel.setCell (Nat.le_refl _) _⟩,by simp[intOf];omega⟩
   ·obtain⟨hyk,e1,e2⟩:=s2 hy
    have cy:=hown.cell HX.out _ (show L.getD k 0<n by omega)
    rw[HJ.out _ hyk] at cy
    have hst:=hown.set k (lab R (L.getD k 0))
    have HE2:Hid (cnt R (k+1)=cnt R k):=e2
    have HN:Hid (∀j,j<k+1→(X.set k (lab R (L.getD k 0))).getD j 0=lab R j):=by
     show ∀j,_
     intro j hj
     rw[getD_set _ _ _ _ hXl]
     split
     ·rename_i e;rw[e,e1]
     ·exact HJ.out j (by omega)
    have hy':(((L.getD k 0:Nat):Int)==(k:Int))=false:=beq_eq_false_iff_ne.2 (by omega)
    clear hy s1 s2 e1 e2
    generalize lab R (L.getD k 0)=z at*
    generalize L.getD k 0=y at*
    generalize X.getD k 0=x0 at*
    generalize cnt R k=c at*
    go_wp2_with fail
    exact⟨⟨k+1,_,by omega,by go_num,by rw[HE2.out],by show _=_;rw[List.length_set];exact HX.out,HN,hst,hbel.setCell (Nat.le_refl _) _⟩,by simp[intOf];omega⟩
  ·have hX:X=labs R n:=labs_ext HX.out (fun j hj=>HJ.out j (by omega))
   rw[hX] at hown
   clear hX
   go_wp2_with fail
   go_ret
   exact⟨rfl,hown,hbel⟩
def partsL(N:Int)(l:List A):List Int:=if chkE N l=0 then ints (labs (lead l) N.toNat) else []
set_option maxHeartbeats 1600000 in
theorem parts_any(N:Int)(a:Option Addr)(l:List A)(cap:Nat)(w:World)(hl:l.length≤9223372036854775807)(hr:Arcs w a l):
  Calls Tryz.prog 86 #[.agg #[.int .i64 N, .slice a l.length cap]] w fun e w'=>Made w w' e (partsL N l) (chkE N l):=by
 have hb0:Below w.heap.size w (w.alloc (.cells #[.int .i64 N, .slice a l.length cap] 24)):=(Below.refl _ _).alloc (Nat.le_refl _) _
 have hr0:=hr.on hb0
 obtain⟨T,HT⟩:=named (chkAt N l)
 by_cases hE:chkE N l=0
 ·obtain⟨hN1,hN2,hlen,hall⟩:=chk_zero hE
  obtain⟨i0,hi,hz0,hz1,hz2⟩:=info_parts info3
  rw[show partsL N l=ints (labs (lead l) N.toNat) by simp[partsL,hE],hE]
  obtain⟨n,rfl⟩: ∃n:Nat,N=n:=⟨N.toNat,by omega⟩
  rw[Int.toNat_natCast]
  have hn1:1≤n:=by omega
  have hn2:n≤1024:=by omega
  have HALL:=hid hall
  have HE:=hid hE
  clear hall hN1 hN2 hE
  go_enter Tryz.func86,Tryz.ntmps86
  go_wp2_with fail
  refine(check_any n a l cap _ hl hr0).mono ?_
  rintro e w1 ⟨rfl,hb1⟩
  rw[HE.out,HT.out]
  have hg1:=(hb1.block _ (by simp)).trans (heap_top w _)
  have b1:=bthen hb0 hb1 (by simp)
  have s1:=lt_of_block hg1
  clear hb1 hb0 hr0
  obtain⟨⟨g0,g1⟩,gf0,gf1⟩:=two_cells hg1
  go_wp2_with (at_make;refine wpList_make_full _ rfl (.tmp 19) (.tmp 19) 25 rfl w1.heap.size 3 i0 (.int .i64 0) 1 Tryz.underlying25 hi hz0 hz1 .i64 .i64 n n n rfl rfl rfl rfl (by rw[hz2];omega) (by unfold maxLen;omega) (Nat.le_refl _) ?_;intro w2 hown2 hgrow2)
  have hown0:OwnL w2 w1.heap.size n (List.replicate n 0):=by
   have e:(madeCells (Value.int .i64 0).cells (n*1)).toList=cellsI (ints (List.replicate n 0)):=by
    show(madeCells #[Value.int .i64 0] (n*1)).toList=_
    rw[toList_madeCells_one,Nat.mul_one]
    unfold cellsI ints
    simp
   rw[e] at hown2
   exact hown2
  have hb2:Below w1.heap.size w1 w2:=(Below.refl _ _).grown hgrow2 (Nat.le_refl _) (by intro k hk;cases hk)
  clear hown2 hgrow2
  go_loopw [23] (fun i wr=> ∃ (k:Nat) (X:List Nat),k≤n∧i= .int .i64 (k:Int)∧Hid (X.length=n)∧Hid (∀j,j<k→X.getD j 0=j)∧OwnL wr w1.heap.size n X∧Below w1.heap.size w1 wr) (fun i _=>n - (intOf i).toNat)
  case atStart=>exact⟨0,List.replicate n 0,Nat.zero_le _,rfl,by show _=_;simp,by intro j hj;omega,hown0,hb2⟩
  case round=>
   obtain⟨k,X,hk,rfl,HX,HJ,hown,hbel⟩:=hrel
   by_cases hlt:k<n
   ·have cx:=hown.cell HX.out k hlt
    have fx:=hown.free k
    have hst:=hown.set k k
    have HN:Hid (∀j,j<k+1→(X.set k k).getD j 0=j):=by
     show ∀j,_
     intro j hj
     rw[getD_set _ _ _ _ (by rw[HX.out];exact hlt)]
     split
     ·rename_i e;exact e.symm
     ·exact HJ.out j (by omega)
    generalize X.getD k 0=x0 at*
    go_wp2_with fail
    exact⟨⟨k+1,_,by omega,by go_num,by show _=_;rw[List.length_set];exact HX.out,HN,hst,hbel.setCell (Nat.le_refl _) _⟩,by simp[intOf];omega⟩
   ·have HL0:Hid (Lead n X (lead (l.take 0))):=Lead.start n HX.out (fun j hj=>HJ.out j (by omega))
    have hg3:=(hbel.block _ s1).trans hg1
    have hb3:=b1.trans (hbel.mono (by omega))
    have s3:=hbel.size
    clear HX HJ hg1 g0 g1 gf0 gf1 hown0 hb2
    obtain⟨⟨g0,g1⟩,gf0,gf1⟩:=two_cells hg3
    obtain⟨b,o,hab⟩:=hr.b.get
    go_wp2_with fail
    go_loopw [34] (fun i wr=> ∃ (q:Nat) (M:List Nat),q≤l.length∧i= .int .i64 (q:Int)∧Hid (Lead n M (lead (l.take q)))∧OwnL wr w1.heap.size n M∧wr.heap[w.heap.size]? =some (.cells #[.int .i64 n, .slice a l.length cap] 24)∧Below w.heap.size w wr∧w1.heap.size≤wr.heap.size) (fun i _=>l.length - (intOf i).toNat)
    case atStart=>exact⟨0,X,Nat.zero_le _,rfl,HL0,hown,hg3,hb3,s3⟩
    case round=>
     obtain⟨q,M,hq,rfl,HM,ho4,hg4,hb4,s4⟩:=hrel
     clear hown hbel hg3 hb3 s3 g0 g1 gf0 gf1 HL0
     obtain⟨⟨g0,g1⟩,gf0,gf1⟩:=two_cells hg4
     by_cases hql:q<l.length
     ·obtain⟨rfl,hbl,hat⟩:=hab (by omega)
      obtain⟨c0,c1,c2⟩:=(hat q hql).onB hbl hb4
      have HS:Hid (lead (l.take (q+1))=mg (lead (l.take q)) (l.getD q A.zero).f.toNat (l.getD q A.zero).t.toNat):=lead_take l q hql
      have hx:=HALL.out (l.getD q A.zero) (by rw[show l.getD q A.zero=l[q] by simp[List.getD,List.getElem?_eq_getElem hql]];exact List.getElem_mem hql)
      generalize l.getD q A.zero=x at*
      obtain⟨xf,xt,xw⟩:=x
      obtain⟨f,hf⟩: ∃f:Nat,xf=f:=⟨xf.toNat,by have:=hx.1.1;simp at this;omega⟩
      obtain⟨t,ht⟩: ∃t:Nat,xt=t:=⟨xt.toNat,by have:=hx.2.1;simp at this;omega⟩
      subst hf ht
      have hfn:f<n:=by have:=hx.1.2;simp at this;omega
      have htn:t<n:=by have:=hx.2.2;simp at this;omega
      simp only[Int.toNat_natCast] at HS
      clear hx
      have ho5:OwnL (wr.alloc (.cells #[.int .i64 f, .int .i64 t, .int .u32 xw] 58)) w1.heap.size n M:=World.ownsRow.alloc ho4 _
      have hg5:=(Below.heap_alloc wr (.cells #[.int .i64 f, .int .i64 t, .int .u32 xw] 58) w.heap.size (by omega)).trans hg4
      have hb5:=hb4.alloc (by omega) (.cells #[.int .i64 f, .int .i64 t, .int .u32 xw] 58)
      go_wp2_with fail
      refine(join_any w1.heap.size n f t M _ _ hfn htn HM.out ho5).mono ?_
      rintro e w6 ⟨rfl,⟨M6,hM6,ho6⟩,hr6⟩
      have hg6:=(hr6.block w.heap.size (by simp;omega) (by omega)).trans hg5
      have hb6:=hr6.below hb5 (by omega) (by simp;omega)
      have s6:w1.heap.size≤w6.heap.size:=by have:=hr6.size;simp at this;omega
      have HM6:Hid (Lead n M6 (lead (l.take (q+1)))):=by show Lead _ _ _;rw[HS.out];exact hM6
      clear hM6 hb5 hg5 ho5 hr6
      go_wp2_with fail
      exact⟨⟨q+1,M6,by omega,by go_num,HM6,ho6,hg6,hb6,s6⟩,by simp[intOf];omega⟩
     ·have HM7:Hid (Lead n M (lead l)):=by
       have:=HM.out
       rw[List.take_of_length_le (by omega)] at this
       exact this
      go_wp2_with fail
      refine(tidy_any w1.heap.size n M _ _ hn2 HM7.out ho4).mono ?_
      rintro e w8 ⟨rfl,ho8,hb8⟩
      go_wp2_with fail
      go_ret2
      have s8:=hb4.size
      have e8:(ints (labs (lead l) n)).length=n:=by rw[ints_len,labs_len]
      refine⟨some ⟨wr.heap.size,0,none⟩,n,by rw[e8];rfl,?_,bthen hb4 hb8 s8⟩
      rw[e8]
      exact own_base ho8 s8
 ·rw[show partsL N l= [] by simp[partsL,hE]]
  obtain⟨E,HE⟩:=named (chkE N l)
  rw[HE.out] at hE ⊢
  have hE':(E==0)=false:=beq_eq_false_iff_ne.2 hE
  clear hE
  go_enter Tryz.func86,Tryz.ntmps86
  go_wp2_with fail
  refine(check_any N a l cap _ hl hr0).mono ?_
  rintro e w1 ⟨rfl,hb1⟩
  rw[HE.out,HT.out]
  have b1:=bthen hb0 hb1 (by simp)
  go_wp2_with fail
  go_ret2
  exact made_nil b1
def Ints(w:World)(a:Option Addr)(xs:List Int):Prop:=
 xs= []∨∃b o,a=some ⟨b,o,none⟩∧b<w.heap.size∧∀j,j<xs.length→w.cell? ⟨b,o+j,none⟩=some (.int .i64 (xs.getD j 0))
theorem ints_own{w:World}{B:Nat}{a:Option Addr}{c:Nat}{xs:List Int}(h:w.ownsRow B 3 1 (.slice a xs.length c) xs.length (cellsI xs)):Ints w a xs:=by
 by_cases h0:xs= []
 ·exact Or.inl h0
 ·rcases h.2 with ⟨_,h'⟩ | ⟨g,c',cur,h',hb,hg,hnc,hm,_⟩
  ·exact absurd (List.eq_nil_of_length_eq_zero h') h0
  ·injection h' with e1 e2 e3
   subst e1
   refine Or.inr ⟨g,0,rfl,lt_of_block hg,fun j hj=> ?_⟩
   rw[Nat.zero_add,World.ownsRow.cellAt h j (by omega),cellsI_getD xs j hj]
theorem Ints.get{w:World}{a:Option Addr}{xs:List Int}(h:Ints w a xs): ∃b o,0<xs.length→a=some ⟨b,o,none⟩∧b<w.heap.size∧∀j,j<xs.length→w.cell? ⟨b,o+j,none⟩=some (.int .i64 (xs.getD j 0)):=by
 rcases h with rfl | ⟨b,o,h⟩
 ·exact⟨0,0,fun h=>absurd h (by simp)⟩
 ·exact⟨b,o,fun _=>h⟩
end Go.Proofs.YtmenajiceaicpaaGreat.T3
