import Derived.Test.YtmenajiceaicpaaGreatYFD
set_option maxRecDepth 100000
namespace Go.Proofs.YtmenajiceaicpaaGreat.F6
open Go.RowKit
structure A where
 f:Int
 t:Int
 w:Int
deriving DecidableEq
instance :Inhabited A:=⟨⟨0,0,0⟩⟩
def A.zero:A:=⟨0,0,0⟩
def A.at(x:A)(w:World)(b o:Nat):Prop:=
 w.cell? ⟨b,o,none⟩=some (.int .i64 x.f)∧w.cell? ⟨b,o+1,none⟩=some (.int .i64 x.t)∧w.cell? ⟨b,o+2,none⟩=some (.int .u32 x.w)
def Arcs(w:World)(a:Option Addr)(l:List A):Prop:=
 l= []∨∃b o,a=some ⟨b,o,none⟩∧b<w.heap.size∧∀j,j<l.length→(l.getD j A.zero).at w b (o+j*3)
theorem A.at.on{x:A}{w w':World}{b o:Nat}(h:x.at w b o)(hb:Below w.heap.size w w'):x.at w' b o:=by
 have hl:=World.block_lt_of_cell? w _ h.1
 exact⟨(hb.cell hl).trans h.1,(hb.cell (p:=⟨b,o+1,none⟩) hl).trans h.2.1,(hb.cell (p:=⟨b,o+2,none⟩) hl).trans h.2.2⟩
theorem Arcs.on{w w':World}{a:Option Addr}{l:List A}(h:Arcs w a l)(hb:Below w.heap.size w w'):Arcs w' a l:=by
 rcases h with h | ⟨b,o,rfl,hl,hc⟩
 ·exact Or.inl h
 ·exact Or.inr ⟨b,o,rfl,Nat.lt_of_lt_of_le hl hb.size,fun j hj=>(hc j hj).on hb⟩
def okV(N v:Int):Bool:=decide (0≤v∧v<N)
def okA(N:Int)(x:A):Bool:=okV N x.f&&okV N x.t
def chkE(N:Int)(l:List A):Int:=if N<1∨1024<N then 1 else if 16384<l.length then 2 else if l.all (okA N) then 0 else 60
def chkAt(N:Int)(l:List A):Int:=if N<1∨1024<N then 0 else if 16384<l.length then 0 else if l.all (okA N) then 0 else (l.findIdx (fun x=> !okA N x):Nat)
set_option maxHeartbeats 400000 in
theorem vert_any(N v:Int)(a:Option Addr)(n cap:Nat)(w:World):
  Calls Tryz.prog 174 #[.agg #[.int .i64 N, .slice a n cap], .int .i64 v] w fun e w'=>e= .returned (.bool (okV N v))∧Below w.heap.size w w':=by
 by_cases h1:0≤v
 ·by_cases h2:v<N
  ·rw[show okV N v=true by simp[okV,h1,h2]]
   go_enter Tryz.func174,Tryz.ntmps174
   go_wp2_with fail
   go_ret
   exact⟨rfl,(Below.refl _ _).alloc (Nat.le_refl _) _⟩
  ·rw[show okV N v=false by simp[okV,h2]]
   go_enter Tryz.func174,Tryz.ntmps174
   go_wp2_with fail
   go_ret
   exact⟨rfl,(Below.refl _ _).alloc (Nat.le_refl _) _⟩
 ·rw[show okV N v=false by simp[okV,h1]]
  go_enter Tryz.func174,Tryz.ntmps174
  go_wp2_with fail
  go_ret
  exact⟨rfl,(Below.refl _ _).alloc (Nat.le_refl _) _⟩
theorem all_take{l:List A}{p:A→Bool}{k:Nat}(hk:k<l.length)(h:(l.take k).all p=true)(hp:p (l.getD k A.zero)=true):(l.take (k+1)).all p=true:=by
 rw[List.take_succ_eq_append_getElem hk,List.all_append,h]
 have e:l.getD k A.zero=l[k]:=by simp[List.getD,List.getElem?_eq_getElem hk]
 rw[e] at hp
 simp[hp]
theorem find_at{l:List A}{p:A→Bool}{k:Nat}(hk:k<l.length)(h:(l.take k).all p=true)(hp:p (l.getD k A.zero)=false):l.all p=false∧l.findIdx (fun x=> !p x)=k:=by
 have e:l.getD k A.zero=l[k]:=by simp[List.getD,List.getElem?_eq_getElem hk]
 rw[e] at hp
 constructor
 ·rw[List.all_eq_false]
  exact⟨l[k],List.getElem_mem hk,by simp[hp]⟩
 ·rw[List.findIdx_eq hk]
  refine⟨by simp[hp],fun j hj=> ?_⟩
  have h2:=List.all_eq_true.1 h (l[j]) (by rw[List.mem_take_iff_getElem];exact⟨j,by omega,rfl⟩)
  simp[h2]
theorem keep1{w w2:World}{o o':Obj}{g:Nat}(hg:w.heap[g]? =some o')(hb:Below (w.alloc o).heap.size (w.alloc o) w2):w2.heap[g]? =some o'∧w2.heap[w.heap.size]? =some o:=by
 have hl:=lt_of_block hg
 exact⟨(hb.block g (by simp;omega)).trans ((Below.heap_alloc w o g hl).trans hg),(hb.block w.heap.size (by simp)).trans (heap_top w o)⟩
theorem bthen{B:Nat}{w w1 w2:World}(h:Below B w w1)(k:Below w1.heap.size w1 w2)(hB:B≤w1.heap.size):Below B w w2:=h.trans (k.mono hB)
theorem two_cells{w:World}{g:Nat}{a b:Value}{t:TypeId}(h:w.heap[g]? =some (.cells #[a,b] t)):(w.cell? ⟨g,0,none⟩=some a∧w.cell? ⟨g,1,none⟩=some b)∧(w.frozen? ⟨g,0,none⟩=false∧w.frozen? ⟨g,1,none⟩=false):=by
 simp[World.cell?,World.frozen?,h]
theorem three_cells{w:World}{g:Nat}{a b c:Value}{t:TypeId}(h:w.heap[g]? =some (.cells #[a,b,c] t)):w.cell? ⟨g,0,none⟩=some a∧w.cell? ⟨g,1,none⟩=some b∧w.cell? ⟨g,2,none⟩=some c:=by
 simp[World.cell?,h]
theorem chk_range{N:Int}{l:List A}(h:N<1∨1024<N):chkE N l=1∧chkAt N l=0:=by
 unfold chkE chkAt;rw[if_pos h,if_pos h];exact⟨rfl,rfl⟩
theorem chk_long{N:Int}{l:List A}(h: ¬(N<1∨1024<N))(h3:16384<l.length):chkE N l=2∧chkAt N l=0:=by
 unfold chkE chkAt;rw[if_neg h,if_neg h,if_pos h3,if_pos h3];exact⟨rfl,rfl⟩
theorem chk_ok{N:Int}{l:List A}(h: ¬(N<1∨1024<N))(h3: ¬16384<l.length)(h4:l.all (okA N)=true):chkE N l=0∧chkAt N l=0:=by
 unfold chkE chkAt;rw[if_neg h,if_neg h,if_neg h3,if_neg h3,if_pos h4,if_pos h4];exact⟨rfl,rfl⟩
theorem chk_bad{N:Int}{l:List A}{k:Nat}(h: ¬(N<1∨1024<N))(h3: ¬16384<l.length)(h4:l.all (okA N)=false∧l.findIdx (fun x=> !okA N x)=k):chkE N l=60∧chkAt N l=k:=by
 unfold chkE chkAt;rw[if_neg h,if_neg h,if_neg h3,if_neg h3,h4.1,h4.2];exact⟨rfl,rfl⟩
set_option maxHeartbeats 800000 in
theorem check_any(N:Int)(a:Option Addr)(l:List A)(cap:Nat)(w:World)(hl:l.length≤9223372036854775807)(hr:Arcs w a l):
  Calls Tryz.prog 173 #[.agg #[.int .i64 N, .slice a l.length cap]] w fun e w'=>e= .returned (.tuple #[.int .i64 (chkAt N l), .int .i64 (chkE N l)])∧Below w.heap.size w w':=by
 by_cases h1:N<1
 ·rw[(chk_range (l:=l) (Or.inl h1)).1,(chk_range (l:=l) (Or.inl h1)).2]
  go_enter Tryz.func173,Tryz.ntmps173
  go_wp2_with fail
  go_ret2
  exact⟨rfl,(Below.refl _ _).alloc (Nat.le_refl _) _⟩
 by_cases h2:1024<N
 ·rw[(chk_range (l:=l) (Or.inr h2)).1,(chk_range (l:=l) (Or.inr h2)).2]
  go_enter Tryz.func173,Tryz.ntmps173
  go_wp2_with fail
  go_ret2
  exact⟨rfl,(Below.refl _ _).alloc (Nat.le_refl _) _⟩
 have hN: ¬(N<1∨1024<N):=by omega
 by_cases h3:16384<l.length
 ·have h3':(16384:Int)<l.length:=by omega
  rw[(chk_long hN h3).1,(chk_long hN h3).2]
  clear hN
  go_enter Tryz.func173,Tryz.ntmps173
  go_wp2_with fail
  go_ret2
  exact⟨rfl,(Below.refl _ _).alloc (Nat.le_refl _) _⟩
 have h3': ¬(16384:Int)<l.length:=by omega
 have HN:=Lib.hid hN
 clear hN
 obtain⟨E,HE⟩:=named (chkE N l)
 obtain⟨T,HAT⟩:=named (chkAt N l)
 rw[HE.out,HAT.out]
 have hb0:Below w.heap.size w (w.alloc (.cells #[.int .i64 N, .slice a l.length cap] 162)):=(Below.refl _ _).alloc (Nat.le_refl _) _
 obtain⟨b,o,hab⟩: ∃b o,0<l.length→a=some ⟨b,o,none⟩∧b<w.heap.size∧∀j,j<l.length→(l.getD j A.zero).at w b (o+j*3):=by
  rcases hr with rfl | ⟨b,o,h⟩
  ·exact⟨0,0,fun h=>absurd h (by simp)⟩
  ·exact⟨b,o,fun _=>h⟩
 go_enter Tryz.func173,Tryz.ntmps173
 go_wp2_with fail
 go_loopw [21] (fun i wr=> ∃k:Nat,k≤l.length∧i= .int .i64 k∧Hid ((l.take k).all (okA N)=true)∧wr.heap[w.heap.size]? =some (.cells #[.int .i64 N, .slice a l.length cap] 162)∧Below w.heap.size w wr) (fun i _=>l.length - (intOf i).toNat)
 case atStart=>exact⟨0,Nat.zero_le _,rfl,by show _=_;simp,heap_top w _,hb0⟩
 case round=>
  obtain⟨k,hk,rfl,hall,hg,hb⟩:=hrel
  obtain⟨⟨g0,g1⟩,gf0,gf1⟩:=two_cells hg
  have hsz:w.heap.size<wr.heap.size:=lt_of_block hg
  by_cases hlt:k<l.length
  ·obtain⟨rfl,hbl,hat⟩:=hab (by omega)
   obtain⟨c0,c1,c2⟩:=(hat k hlt).on hb
   have HT:=Lib.hid (fun(h:okA N (l.getD k A.zero)=true)=>all_take hlt hall.out h)
   have HF:=Lib.hid (fun(h:okA N (l.getD k A.zero)=false)=>find_at hlt hall.out h)
   generalize l.getD k A.zero=x at*
   go_wp2_with fail
   refine(vert_any N x.f _ _ _ _).mono ?_
   rintro e w2 ⟨rfl,hb2⟩
   obtain⟨hg2,hx2⟩:=keep1 hg hb2
   have s2:wr.heap.size<w2.heap.size:=lt_of_block hx2
   have b2:Below w.heap.size w w2:=bthen (hb.alloc (by omega) _) hb2 (by simp;omega)
   clear hb2 hg g0 g1 gf0 gf1 c0 c1 c2 hb
   obtain⟨⟨g0,g1⟩,gf0,gf1⟩:=two_cells hg2
   obtain⟨c0,c1,c2⟩:=three_cells hx2
   by_cases h5:okV N x.f=true
   ·rw[h5]
    go_wp2_with fail
    refine(vert_any N x.t _ _ _ _).mono ?_
    rintro e w3 ⟨rfl,hb3⟩
    have hg3:=(hb3.block _ (lt_of_block hg2)).trans hg2
    have b3:Below w.heap.size w w3:=bthen b2 hb3 (by omega)
    clear hb3 hg2 g0 g1 gf0 gf1 c0 c1 c2 b2 hx2
    by_cases h6:okV N x.t=true
    ·rw[h6]
     have hA:okA N x=true:=by simp[okA,h5,h6]
     go_wp2_with fail
     exact⟨⟨k+1,by omega,by go_num,HT.out hA,hg3,b3⟩,by simp[intOf];omega⟩
    ·have h6':okV N x.t=false:=by simpa using h6
     rw[h6']
     have hE:=chk_bad HN.out h3 (HF.out (by simp[okA,h6']))
     rw[HE.out,HAT.out] at hE
     obtain⟨rfl,rfl⟩:=hE
     go_wp2_with fail
     go_ret2
     exact⟨rfl,b3⟩
   ·have h5':okV N x.f=false:=by simpa using h5
    rw[h5']
    have hE:=chk_bad HN.out h3 (HF.out (by simp[okA,h5']))
    rw[HE.out,HAT.out] at hE
    obtain⟨rfl,rfl⟩:=hE
    go_wp2_with fail
    go_ret2
    exact⟨rfl,b2⟩
  ·have hE:=chk_ok HN.out h3 (by have:=hall.out;rw[List.take_of_length_le (by omega)] at this;exact this)
   rw[HE.out,HAT.out] at hE
   obtain⟨rfl,rfl⟩:=hE
   go_wp2_with fail
   go_ret2
   exact⟨rfl,hb⟩
theorem once_of: ∀ {p:List Nat},(∀i j,i<j→j<p.length→p.getD i 0 / 2≠p.getD j 0 / 2)→Once p
 | [],_=>trivial
 | k::p,h=>by
   refine⟨fun j hj e=> ?_,once_of (fun a b hab hb=>by
    have:=h (a+1) (b+1) (by omega) (by simp;omega)
    simpa using this)⟩
   obtain⟨i,hi,hij⟩:=List.getElem_of_mem hj
   have h2:=h 0 (i+1) (by omega) (by simp;omega)
   apply h2
   simp[List.getD,List.getElem?_eq_getElem hi,hij,e]
theorem half_same(E:List Ed){k j:Nat}(h:k / 2=j / 2):frm E k=frm E j∨(frm E k=tto E j∧tto E k=frm E j):=by
 unfold frm tto
 by_cases h1:k % 2=0
 ·by_cases h2:j % 2=0
  ·left;rw[if_pos h1,if_pos h2,h]
  ·right;rw[if_pos h1,if_neg h2,if_pos h1,if_neg h2,h];exact⟨rfl,rfl⟩
 ·by_cases h2:j % 2=0
  ·right;rw[if_neg h1,if_pos h2,if_neg h1,if_pos h2,h];exact⟨rfl,rfl⟩
  ·left;rw[if_neg h1,if_neg h2,h]
def updN(F:Nat→Nat)(x d:Nat):Nat→Nat:=fun y=>if y=x then d else F y
theorem updN_self(F:Nat→Nat)(x d:Nat):updN F x d x=d:=by simp[updN]
theorem updN_ne(F:Nat→Nat){x y:Nat}(d:Nat)(h:y≠x):updN F x d y=F y:=by simp[updN,h]
def sumO(F:Nat→Nat):Nat→Nat
 | 0=>0
 | n+1=>sumO F n+F n
theorem sumO_same{F:Nat→Nat}{v d:Nat}: ∀n,n≤v→sumO (updN F v d) n=sumO F n
 | 0,_=>rfl
 | n+1,h=>by simp only[sumO,sumO_same n (by omega:n≤v),updN_ne F d (show n≠v by omega)]
theorem sumO_upd{F:Nat→Nat}{v d:Nat}(hd:d<F v): ∀n,v<n→sumO (updN F v d) n+1≤sumO F n
 | 0,hv=>absurd hv (Nat.not_lt_zero _)
 | n+1,hv=>by
   by_cases e:v=n
   ·subst e
    simp only[sumO,sumO_same v (Nat.le_refl v),updN_self]
    omega
   ·have:=sumO_upd hd n (by omega)
    simp only[sumO,updN_ne F d (fun h:n=v=>e h.symm)]
    omega
structure Bk(n m:Nat)(E:List Ed)(gr:Int)(s t:Nat)(rk fl0:Nat→Int)(fl:Nat→Int)(ob:Nat→Nat)(p:List Nat)(v:Nat)(tot:Int):Prop where
 flow:Flow n E s t fl
 nt:net E fl s E.length=net E fl0 s E.length+tot
 t0:0≤tot
 chn:Chn E s p v
 vn:v<n
 rkv:rk v=p.length
 rki: ∀i,i<p.length→rk (frm E (p.getD i 0))=i∧rk (tto E (p.getD i 0))=i+1
 lim: ∀k,k∈p→k<2*m∧gr≤rm E fl k∧lst E (frm E k) (ob (frm E k))=k∧frm E k≠t
 obm: ∀u,ob u≤2*m
 dead:tot=0→∀k,k<2*m→frm E k≠t→ob (frm E k)≤k→gr≤rm E fl0 k→rk (tto E k)=rk (frm E k)+1→lst E (tto E k) (ob (tto E k))= -1∧tto E k≠t
 same:tot=0→∀k,rm E fl k=rm E fl0 k
section
variable {n m:Nat} {E:List Ed} {gr:Int} {s t:Nat} {rk fl0 fl:Nat→Int} {ob:Nat→Nat} {p:List Nat} {v:Nat} {tot:Int}
theorem Bk.start(hf:Flow n E s t fl0)(hs:s<n)(h0:rk s=0):Bk n m E gr s t rk fl0 fl0 (fun _=>2*m) [] s 0:=
 ⟨hf,by omega,Int.le_refl _,Chn.nil,hs,by simpa using h0,fun i h=>by simp at h,fun k h=>by simp at h,fun _=>Nat.le_refl _,fun _ k h _ h2=>by omega,fun _ _=>rfl⟩
theorem Bk.mem_rk(h:Bk n m E gr s t rk fl0 fl ob p v tot){k:Nat}(hk:k∈p):0≤rk (frm E k)∧rk (frm E k)<p.length:=by
 obtain⟨i,hi,e⟩:=List.getElem_of_mem hk
 have:=(h.rki i hi).1
 rw[show p.getD i 0=k by simp[List.getD,List.getElem?_eq_getElem hi,e]] at this
 omega
theorem Bk.once(h:Bk n m E gr s t rk fl0 fl ob p v tot):Once p:=once_of (fun i j hij hj e=>by
 have h1:=h.rki i (by omega)
 have h2:=h.rki j hj
 rcases half_same E e with h3 | ⟨h3,h4⟩
 ·rw[h3] at h1;omega
 ·rw[h3,h4] at h1;omega)
theorem Bk.mem_ne(h:Bk n m E gr s t rk fl0 fl ob p v tot){k:Nat}(hk:k∈p):frm E k≠v:=fun e=>by
 have h1:=h.mem_rk hk
 have h2:=h.rkv
 rw[e] at h1;omega
theorem Bk.skip(h:Bk n m E gr s t rk fl0 fl ob p v tot){k:Nat}(hk:k<ob v)(hl:lst E v (ob v)=k)(hf:frm E k=v)(hb: ∀j,k<j→j<ob v→frm E j≠v)(hno:gr≤rm E fl k→rk (tto E k)≠rk v+1):
  Bk n m E gr s t rk fl0 fl (updN ob v k) p v tot:=by
 refine⟨h.flow,h.nt,h.t0,h.chn,h.vn,h.rkv,h.rki,fun j hj=> ?_,fun u=> ?_,fun h0 j hj hft hob hg hr=> ?_,h.same⟩
 ·have:=h.lim j hj
  rw[updN_ne _ _ (h.mem_ne hj)]
  exact this
 ·by_cases e:u=v
  ·subst e;rw[updN_self];have:=h.obm u;omega
  ·rw[updN_ne _ _ e];exact h.obm u
 ·have hold:ob (frm E j)≤j:=by
   by_cases e:frm E j=v
   ·rw[e,updN_self] at hob
    rw[e]
    by_cases e2:j=k
    ·subst e2
     exact absurd (by rw[hr,e]) (hno (by rw[h.same h0];exact hg))
    ·by_cases e3:ob v≤j
     ·exact e3
     ·exact absurd e (hb j (by omega) (by omega))
   ·rw[updN_ne _ _ e] at hob;exact hob
  have hd:=h.dead h0 j hj hft hold hg hr
  have hne:tto E j≠v:=fun e=>by rw[e,hl] at hd;omega
  rw[updN_ne _ _ hne]
  exact hd
theorem Bk.go(h:Bk n m E gr s t rk fl0 fl ob p v tot){k:Nat}(hk:k<ob v)(hl:lst E v (ob v)=k)(hf:frm E k=v)(hg:gr≤rm E fl k)(hr:rk (tto E k)=rk v+1)(hvt:v≠t)(hn:tto E k<n):
  Bk n m E gr s t rk fl0 fl ob (p++[k]) (tto E k) tot:=by
 have hv:=h.rkv
 refine⟨h.flow,h.nt,h.t0,?_,hn,by rw[hr,hv];simp,fun i hi=> ?_,fun j hj=> ?_,h.obm,h.dead,h.same⟩
 ·have:=h.chn
  rw[←hf] at this
  exact Chn.snoc this
 ·by_cases e:i<p.length
  ·have e1:(p++[k]).getD i 0=p.getD i 0:=by simp[List.getD,List.getElem?_append_left e]
   rw[e1];exact h.rki i e
  ·have e1:i=p.length:=by simp at hi;omega
   have e2:(p++[k]).getD i 0=k:=by subst e1;simp[List.getD]
   rw[e2,hf,hr,hv,e1]
   exact⟨rfl,rfl⟩
 ·rcases List.mem_append.mp hj with h1 | h1
  ·exact h.lim j h1
  ·have:j=k:=by simpa using h1
   subst this
   exact⟨by have:=h.obm v;omega,hg,by rw[hf];exact hl,by rw[hf];exact hvt⟩
theorem chn_snoc{q:List Nat}{k u:Nat}(h:Chn E s (q++[k]) u):Chn E s q (frm E k)∧u=tto E k:=by
 generalize hp:q++[k]=r at h
 cases h with
 | nil=>simp at hp
 | @snoc p2 k2 h2=>
   have:=List.append_inj' hp rfl
   obtain⟨rfl,e⟩:=this
   have e2:k=k2:=by simpa using e
   subst e2
   exact⟨h2,rfl⟩
theorem Bk.back{q:List Nat}{k:Nat}(h:Bk n m E gr s t rk fl0 fl ob (q++[k]) v tot)(hd:lst E v (ob v)= -1)(hvt:v≠t)(hn:frm E k<n):
  Bk n m E gr s t rk fl0 fl (updN ob (frm E k) k) q (frm E k) tot∧k<ob (frm E k)∧k<2*m:=by
 obtain⟨hc,hv⟩:=chn_snoc h.chn
 have hmem:k∈q++[k]:=by simp
 have hlk:=h.lim k hmem
 have hrk:rk (frm E k)=q.length∧rk (tto E k)=q.length+1:=by
  have:=h.rki q.length (by simp)
  rw[show(q++[k]).getD q.length 0=k by simp[List.getD]] at this
  exact this
 have hko:k<ob (frm E k):=by
  have:=lst_lt E (frm E k) (ob (frm E k))
  rw[hlk.2.2.1] at this
  omega
 have hbet: ∀j,k<j→j<ob (frm E k)→frm E j≠frm E k:=by
  rcases lst_cases E (frm E k) (ob (frm E k)) with ⟨h1,_⟩ | ⟨k2,h1,h2,h3,h4⟩
  ·rw[hlk.2.2.1] at h1;omega
  ·rw[hlk.2.2.1] at h2
   have:k2=k:=by omega
   subst this
   exact h4
 have hrki: ∀i,i<q.length→rk (frm E (q.getD i 0))=i∧rk (tto E (q.getD i 0))=i+1:=fun i hi=>by
  have:=h.rki i (by simp;omega)
  rw[show(q++[k]).getD i 0=q.getD i 0 by simp[List.getD,List.getElem?_append_left hi]] at this
  exact this
 have hqne: ∀j,j∈q→frm E j≠frm E k:=fun j hj e=>by
  obtain⟨i,hi,e1⟩:=List.getElem_of_mem hj
  have:=(hrki i hi).1
  rw[show q.getD i 0=j by simp[List.getD,List.getElem?_eq_getElem hi,e1],e,hrk.1] at this
  omega
 refine⟨⟨h.flow,h.nt,h.t0,hc,hn,hrk.1,hrki,fun j hj=> ?_,fun u=> ?_,fun h0 j hj hft hob hg hr=> ?_,h.same⟩,hko,hlk.1⟩
 ·have:=h.lim j (by simp[hj])
  rw[updN_ne _ _ (hqne j hj)]
  exact this
 ·by_cases e:u=frm E k
  ·subst e;rw[updN_self];have:=h.obm (frm E k);omega
  ·rw[updN_ne _ _ e];exact h.obm u
 ·have key:lst E (tto E j) (ob (tto E j))= -1∧tto E j≠t:=by
   by_cases e:frm E j=frm E k
   ·rw[e,updN_self] at hob
    by_cases e2:j=k
    ·subst e2
     rw[←hv]
     exact⟨hd,hvt⟩
    ·by_cases e3:ob (frm E k)≤j
     ·exact h.dead h0 j hj hft (by rw[e];exact e3) hg hr
     ·exact absurd e (hbet j (by omega) (by omega))
   ·rw[updN_ne _ _ e] at hob
    exact h.dead h0 j hj hft hob hg hr
  have hne:tto E j≠frm E k:=fun e=>by rw[e,hlk.2.2.1] at key;omega
  rw[updN_ne _ _ hne]
  exact key
theorem chn_take: ∀ {q:List Nat} {u:Nat},Chn E s q u→∀j,j≤q.length→∃y,Chn E s (q.take j) y∧(j<q.length→y=frm E (q.getD j 0))∧(j=q.length→y=u):=by
 intro q u h
 induction h with
 | nil=>intro j hj;exact⟨s,by simpa using Chn.nil,fun h=>by simp at h,fun _=>rfl⟩
 | @snoc p k hc ih=>
   intro j hj
   by_cases e:j=p.length+1
   ·subst e
    refine⟨tto E k,?_,fun h=>by simp at h,fun _=>rfl⟩
    rw[List.take_of_length_le (by simp)]
    exact Chn.snoc hc
   ·have hjp:j≤p.length:=by simp at hj;omega
    obtain⟨y,h1,h2,h3⟩:=ih j hjp
    refine⟨y,?_,fun _=> ?_,fun h=>by simp at h;omega⟩
    ·rw[List.take_append_of_le_length hjp];exact h1
    ·by_cases e2:j<p.length
     ·rw[h2 e2];simp[List.getD,List.getElem?_append_left e2]
     ·have:j=p.length:=by omega
      subst this
      rw[h3 rfl];simp[List.getD]
theorem Bk.push(h:Bk n m E gr s t rk fl0 fl ob p t tot)(hm:E.length=m)(hE: ∀k,k<2*m→frm E k<n∧tto E k<n)(hst:s≠t){x:Int}(hx:0<x)(hr: ∀k,k∈p→x≤rm E fl k){kp:Nat}(hkp:kp≤p.length)(hk: ∀i,i<kp→gr≤rm E (pushAll fl x p) (p.getD i 0)):
  ∃y,Bk n m E gr s t rk fl0 (pushAll fl x p) ob (p.take kp) y (tot+x):=by
 have hp:=h.flow.push (by omega) h.chn hst h.once (fun k hk=>by have:=(h.lim k hk).1;omega) hr
 obtain⟨y,h1,h2,h3⟩:=chn_take h.chn kp hkp
 have ht0:=h.t0
 have hpt:p.getD 0 0=p.getD 0 0:=rfl
 have hlen:(p.take kp).length=kp:=by rw[List.length_take];omega
 have hget: ∀i,i<kp→(p.take kp).getD i 0=p.getD i 0:=fun i hi=>by simp[List.getD,hi]
 refine⟨y,⟨hp.1,by rw[hp.2,h.nt];omega,by omega,h1,?_,?_,fun i hi=> ?_,fun k hk2=> ?_,h.obm,fun h0=>by omega,fun h0=>by omega⟩⟩
 ·by_cases e:kp<p.length
  ·rw[h2 e]
   exact(hE _ (h.lim _ (by simp[List.getD,List.getElem?_eq_getElem e])).1).1
  ·rw[h3 (by omega)];exact h.vn
 ·rw[hlen]
  by_cases e:kp<p.length
  ·rw[h2 e];exact(h.rki kp e).1
  ·have e2:kp=p.length:=by omega
   rw[h3 e2,e2];exact h.rkv
 ·rw[hlen] at hi
  rw[hget i hi]
  exact h.rki i (by omega)
 ·obtain⟨i,hi,e⟩:=List.getElem_of_mem hk2
  have hi2:i<kp:=by rw[hlen] at hi;exact hi
  have e2:p.getD i 0=k:=by
   rw[←hget i hi2]
   simp[List.getD,List.getElem?_eq_getElem hi,e]
  have hl:=h.lim k (List.mem_of_mem_take hk2)
  have hg:=hk i hi2
  rw[e2] at hg
  exact⟨hl.1,hg,hl.2.2⟩
theorem Bk.some(h:Bk n m E gr s t rk fl0 fl ob [] s tot)(hR:Rk n m E fl0 gr s t rk)(hE: ∀k,k<2*m→frm E k<n∧tto E k<n)(htn:t<n)(ht:rk t≠ -1)(hst:s≠t)(hd:lst E s (ob s)= -1):1≤tot:=by
 have h0:=h.t0
 by_cases e:tot=0
 ·exfalso
  have key: ∀ (d:Nat) (u:Nat),u<n→rk u≠ -1→rk u≤d→u≠t∧lst E u (ob u)= -1:=by
   intro d
   induction d with
   | zero=>
     intro u hu hr hd2
     rcases hR.par u hu hr with rfl | ⟨k,_,_,_,h4,h5⟩
     ·exact⟨hst,hd⟩
     ·omega
   | succ d ih=>
     intro u hu hr hd2
     rcases hR.par u hu hr with rfl | ⟨k,h1,h2,h3,h4,h5⟩
     ·exact⟨hst,hd⟩
     ·obtain⟨i1,i2⟩:=ih (frm E k) (hE k h1).1 (by omega) (by omega)
      have hob:ob (frm E k)≤k:=by
       rcases lst_cases E (frm E k) (ob (frm E k)) with ⟨_,j2⟩ | ⟨k2,_,j2,_⟩
       ·by_cases e3:ob (frm E k)≤k
        ·exact e3
        ·exact absurd rfl (j2 k (by omega))
       ·rw[i2] at j2;omega
      have:=h.dead e k h1 i1 hob h3 (by rw[h2];exact h5)
      rw[h2] at this
      exact⟨this.2,this.1⟩
  rcases hR.pos t htn with h1 | h1
  ·exact ht h1
  ·exact(key (rk t).toNat t htn ht (by omega)).1 rfl
 ·omega
end
end Go.Proofs.YtmenajiceaicpaaGreat.F6
