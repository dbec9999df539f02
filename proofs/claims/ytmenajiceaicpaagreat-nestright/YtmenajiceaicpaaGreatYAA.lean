import Derived.Test.YtmenajiceaicpaaGreatChecked
import Derived.WalkKit
import Derived.BigCall
import Derived.Lib.Hide
import Derived.BigQuiet
import Derived.Deep.LoopGhost
open Go.Lib (hid)
namespace Go.Proofs.YtmenajiceaicpaaGreat
open Go.RowKit
structure A where
 f:Int
 t:Int
 w:Int
deriving DecidableEq
instance :Inhabited A:=⟨⟨0,0,0⟩⟩
def A.zero:A:=⟨0,0,0⟩
def A.at(x:A)(w:World)(b o:Nat):Prop:=
 w.cell? ⟨b,o,none⟩=some (.int .i64 x.f)∧w.cell? ⟨b,o+1,none⟩=some (.int .i64 x.t)∧w.cell? ⟨b,o+2,none⟩=some (.int .u32 x.w)
def Arcs(w:World)(a:Option Addr)(l:List A):Prop:=
 l= []∨∃b o,a=some ⟨b,o,none⟩∧b<w.heap.size∧∀j,j<l.length→(l.getD j A.zero).at w b (o+j*3)
theorem A.at.on{x:A}{w w':World}{b o:Nat}(h:x.at w b o)(hb:Below w.heap.size w w'):x.at w' b o:=by
 have hl:=World.block_lt_of_cell? w _ h.1
 exact⟨(hb.cell hl).trans h.1,(hb.cell (p:=⟨b,o+1,none⟩) hl).trans h.2.1,(hb.cell (p:=⟨b,o+2,none⟩) hl).trans h.2.2⟩
theorem Arcs.on{w w':World}{a:Option Addr}{l:List A}(h:Arcs w a l)(hb:Below w.heap.size w w'):Arcs w' a l:=by
 rcases h with h | ⟨b,o,rfl,hl,hc⟩
 ·exact Or.inl h
 ·exact Or.inr ⟨b,o,rfl,Nat.lt_of_lt_of_le hl hb.size,fun j hj=>(hc j hj).on hb⟩
def okV(N v:Int):Bool:=decide (0≤v∧v<N)
theorem okV_t{N v:Int}(h:okV N v=true):0≤v∧v<N:=by simpa[okV] using h
def okA(N:Int)(x:A):Bool:=okV N x.f&&okV N x.t
theorem okA_t{N:Int}{x:A}(h:okA N x=true):okV N x.f=true∧okV N x.t=true:=by simpa[okA] using h
def chkE(N:Int)(l:List A):Int:=if N<1∨1024<N then 1 else if 8192<l.length then 2 else if l.all (okA N) then 0 else 30
def chkAt(N:Int)(l:List A):Int:=if N<1∨1024<N then 0 else if 8192<l.length then 0 else if l.all (okA N) then 0 else (l.findIdx (fun x=> !okA N x):Nat)
set_option maxHeartbeats 400000 in
theorem vert_any(N v:Int)(a:Option Addr)(n cap:Nat)(w:World):
  Calls Tryz.prog 76 #[.agg #[.int .i64 N, .slice a n cap], .int .i64 v] w fun e w'=>e= .returned (.bool (okV N v))∧Below w.heap.size w w':=by
 by_cases h1:0≤v
 ·by_cases h2:v<N
  ·rw[show okV N v=true by simp[okV,h1,h2]]
   go_enter Tryz.func76,Tryz.ntmps76
   go_wp2_with fail
   go_ret
   exact⟨rfl,(Below.refl _ _).alloc (Nat.le_refl _) _⟩
  ·rw[show okV N v=false by simp[okV,h2]]
   go_enter Tryz.func76,Tryz.ntmps76
   go_wp2_with fail
   go_ret
   exact⟨rfl,(Below.refl _ _).alloc (Nat.le_refl _) _⟩
 ·rw[show okV N v=false by simp[okV,h1]]
  go_enter Tryz.func76,Tryz.ntmps76
  go_wp2_with fail
  go_ret
  exact⟨rfl,(Below.refl _ _).alloc (Nat.le_refl _) _⟩
theorem all_take{l:List A}{p:A→Bool}{k:Nat}(hk:k<l.length)(h:(l.take k).all p=true)(hp:p (l.getD k A.zero)=true):(l.take (k+1)).all p=true:=by
 rw[List.take_succ_eq_append_getElem hk,List.all_append,h]
 have e:l.getD k A.zero=l[k]:=by simp[List.getD,List.getElem?_eq_getElem hk]
 rw[e] at hp
 simp[hp]
theorem find_at{l:List A}{p:A→Bool}{k:Nat}(hk:k<l.length)(h:(l.take k).all p=true)(hp:p (l.getD k A.zero)=false):l.all p=false∧l.findIdx (fun x=> !p x)=k:=by
 have e:l.getD k A.zero=l[k]:=by simp[List.getD,List.getElem?_eq_getElem hk]
 rw[e] at hp
 constructor
 ·rw[List.all_eq_false]
  exact⟨l[k],List.getElem_mem hk,by simp[hp]⟩
 ·rw[List.findIdx_eq hk]
  refine⟨by simp[hp],fun j hj=> ?_⟩
  have h2:=List.all_eq_true.1 h (l[j]) (by rw[List.mem_take_iff_getElem];exact⟨j,by omega,rfl⟩)
  simp[h2]
theorem heap_top(w:World)(o:Obj):(w.alloc o).heap[w.heap.size]? =some o:=by show(w.heap.push o)[w.heap.size]? =_;simp
theorem keep1{w w2:World}{o o':Obj}{g:Nat}(hg:w.heap[g]? =some o')(hb:Below (w.alloc o).heap.size (w.alloc o) w2):w2.heap[g]? =some o'∧w2.heap[w.heap.size]? =some o:=by
 have hl:=lt_of_block hg
 exact⟨(hb.block g (by simp;omega)).trans ((Below.heap_alloc w o g hl).trans hg),(hb.block w.heap.size (by simp)).trans (heap_top w o)⟩
theorem bthen{B:Nat}{w w1 w2:World}(h:Below B w w1)(k:Below w1.heap.size w1 w2)(hB:B≤w1.heap.size):Below B w w2:=h.trans (k.mono hB)
theorem two_cells{w:World}{g:Nat}{a b:Value}{t:TypeId}(h:w.heap[g]? =some (.cells #[a,b] t)):(w.cell? ⟨g,0,none⟩=some a∧w.cell? ⟨g,1,none⟩=some b)∧(w.frozen? ⟨g,0,none⟩=false∧w.frozen? ⟨g,1,none⟩=false):=by
 simp[World.cell?,World.frozen?,h]
theorem three_cells{w:World}{g:Nat}{a b c:Value}{t:TypeId}(h:w.heap[g]? =some (.cells #[a,b,c] t)):w.cell? ⟨g,0,none⟩=some a∧w.cell? ⟨g,1,none⟩=some b∧w.cell? ⟨g,2,none⟩=some c:=by
 simp[World.cell?,h]
theorem named{α:Sort _}(x:α): ∃y,Hid (x=y):=⟨x,rfl⟩
theorem chk_range{N:Int}{l:List A}(h:N<1∨1024<N):chkE N l=1∧chkAt N l=0:=by
 unfold chkE chkAt;rw[if_pos h,if_pos h];exact⟨rfl,rfl⟩
theorem chk_long{N:Int}{l:List A}(h: ¬(N<1∨1024<N))(h3:8192<l.length):chkE N l=2∧chkAt N l=0:=by
 unfold chkE chkAt;rw[if_neg h,if_neg h,if_pos h3,if_pos h3];exact⟨rfl,rfl⟩
theorem chk_ok{N:Int}{l:List A}(h: ¬(N<1∨1024<N))(h3: ¬8192<l.length)(h4:l.all (okA N)=true):chkE N l=0∧chkAt N l=0:=by
 unfold chkE chkAt;rw[if_neg h,if_neg h,if_neg h3,if_neg h3,if_pos h4,if_pos h4];exact⟨rfl,rfl⟩
theorem chk_bad{N:Int}{l:List A}{k:Nat}(h: ¬(N<1∨1024<N))(h3: ¬8192<l.length)(h4:l.all (okA N)=false∧l.findIdx (fun x=> !okA N x)=k):chkE N l=30∧chkAt N l=k:=by
 unfold chkE chkAt;rw[if_neg h,if_neg h,if_neg h3,if_neg h3,h4.1,h4.2];exact⟨rfl,rfl⟩
theorem chk_zero{N:Int}{l:List A}(h:chkE N l=0):1≤N∧N≤1024∧l.length≤8192∧∀x∈l,(0≤x.f∧x.f<N)∧(0≤x.t∧x.t<N):=by
 unfold chkE at h
 split at h
 ·cases h
 split at h
 ·cases h
 split at h
 ·rename_i h1 h2 h3
  refine⟨by omega,by omega,by omega,fun x hx=> ?_⟩
  obtain⟨h5,h6⟩:=okA_t (List.all_eq_true.1 h3 x hx)
  exact⟨okV_t h5,okV_t h6⟩
 ·cases h
set_option maxHeartbeats 800000 in
theorem check_any(N:Int)(a:Option Addr)(l:List A)(cap:Nat)(w:World)(hl:l.length≤9223372036854775807)(hr:Arcs w a l):
  Calls Tryz.prog 59 #[.agg #[.int .i64 N, .slice a l.length cap]] w fun e w'=>e= .returned (.tuple #[.int .i64 (chkAt N l), .int .i64 (chkE N l)])∧Below w.heap.size w w':=by
 by_cases h1:N<1
 ·rw[(chk_range (l:=l) (Or.inl h1)).1,(chk_range (l:=l) (Or.inl h1)).2]
  go_enter Tryz.func59,Tryz.ntmps59
  go_wp2_with fail
  go_ret2
  exact⟨rfl,(Below.refl _ _).alloc (Nat.le_refl _) _⟩
 by_cases h2:1024<N
 ·rw[(chk_range (l:=l) (Or.inr h2)).1,(chk_range (l:=l) (Or.inr h2)).2]
  go_enter Tryz.func59,Tryz.ntmps59
  go_wp2_with fail
  go_ret2
  exact⟨rfl,(Below.refl _ _).alloc (Nat.le_refl _) _⟩
 have hN: ¬(N<1∨1024<N):=by omega
 by_cases h3:8192<l.length
 ·have h3':(8192:Int)<l.length:=by omega
  rw[(chk_long hN h3).1,(chk_long hN h3).2]
  clear hN
  go_enter Tryz.func59,Tryz.ntmps59
  go_wp2_with fail
  go_ret2
  exact⟨rfl,(Below.refl _ _).alloc (Nat.le_refl _) _⟩
 have h3': ¬(8192:Int)<l.length:=by omega
 have HN:=hid hN
 clear hN
 obtain⟨E,HE⟩:=named (chkE N l)
 obtain⟨T,HAT⟩:=named (chkAt N l)
 rw[HE.out,HAT.out]
 have hb0:Below w.heap.size w (w.alloc (.cells #[.int .i64 N, .slice a l.length cap] 24)):=(Below.refl _ _).alloc (Nat.le_refl _) _
 obtain⟨b,o,hab⟩: ∃b o,0<l.length→a=some ⟨b,o,none⟩∧b<w.heap.size∧∀j,j<l.length→(l.getD j A.zero).at w b (o+j*3):=by
  rcases hr with rfl | ⟨b,o,h⟩
  ·exact⟨0,0,fun h=>absurd h (by simp)⟩
  ·exact⟨b,o,fun _=>h⟩
 go_enter Tryz.func59,Tryz.ntmps59
 go_wp2_with fail
 go_loopw [21] (fun i wr=> ∃k:Nat,k≤l.length∧i= .int .i64 k∧Hid ((l.take k).all (okA N)=true)∧wr.heap[w.heap.size]? =some (.cells #[.int .i64 N, .slice a l.length cap] 24)∧Below w.heap.size w wr) (fun i _=>l.length - (intOf i).toNat)
 case atStart=>exact⟨0,Nat.zero_le _,rfl,by show _=_;simp,heap_top w _,hb0⟩
 case round=>
  obtain⟨k,hk,rfl,hall,hg,hb⟩:=hrel
  obtain⟨⟨g0,g1⟩,gf0,gf1⟩:=two_cells hg
  have hsz:w.heap.size<wr.heap.size:=lt_of_block hg
  by_cases hlt:k<l.length
  ·obtain⟨rfl,hbl,hat⟩:=hab (by omega)
   obtain⟨c0,c1,c2⟩:=(hat k hlt).on hb
   have HT:=hid (fun(h:okA N (l.getD k A.zero)=true)=>all_take hlt hall.out h)
   have HF:=hid (fun(h:okA N (l.getD k A.zero)=false)=>find_at hlt hall.out h)
   generalize l.getD k A.zero=x at*
   go_wp2_with fail
   refine(vert_any N x.f _ _ _ _).mono ?_
   rintro e w2 ⟨rfl,hb2⟩
   obtain⟨hg2,hx2⟩:=keep1 hg hb2
   have s2:wr.heap.size<w2.heap.size:=lt_of_block hx2
   have b2:Below w.heap.size w w2:=bthen (hb.alloc (by omega) _) hb2 (by simp;omega)
   clear hb2 hg g0 g1 gf0 gf1 c0 c1 c2 hb
   obtain⟨⟨g0,g1⟩,gf0,gf1⟩:=two_cells hg2
   obtain⟨c0,c1,c2⟩:=three_cells hx2
   by_cases h5:okV N x.f=true
   ·rw[h5]
    go_wp2_with fail
    refine(vert_any N x.t _ _ _ _).mono ?_
    rintro e w3 ⟨rfl,hb3⟩
    have hg3:=(hb3.block _ (lt_of_block hg2)).trans hg2
    have b3:Below w.heap.size w w3:=bthen b2 hb3 (by omega)
    clear hb3 hg2 g0 g1 gf0 gf1 c0 c1 c2 b2 hx2
    by_cases h6:okV N x.t=true
    ·rw[h6]
     have hA:okA N x=true:=by simp[okA,h5,h6]
     go_wp2_with fail
     exact⟨⟨k+1,by omega,by go_num,HT.out hA,hg3,b3⟩,by simp[intOf];omega⟩
    ·have h6':okV N x.t=false:=by simpa using h6
     rw[h6']
     have hE:=chk_bad HN.out h3 (HF.out (by simp[okA,h6']))
     rw[HE.out,HAT.out] at hE
     obtain⟨rfl,rfl⟩:=hE
     go_wp2_with fail
     go_ret2
     exact⟨rfl,b3⟩
   ·have h5':okV N x.f=false:=by simpa using h5
    rw[h5']
    have hE:=chk_bad HN.out h3 (HF.out (by simp[okA,h5']))
    rw[HE.out,HAT.out] at hE
    obtain⟨rfl,rfl⟩:=hE
    go_wp2_with fail
    go_ret2
    exact⟨rfl,b2⟩
  ·have hE:=chk_ok HN.out h3 (by have:=hall.out;rw[List.take_of_length_le (by omega)] at this;exact this)
   rw[HE.out,HAT.out] at hE
   obtain⟨rfl,rfl⟩:=hE
   go_wp2_with fail
   go_ret2
   exact⟨rfl,hb⟩
def gchk(N c m:Int)(l:List A):Int:=if chkE N l≠0 then chkE N l else if ¬(0≤c∧c<N) then 5 else if m<1∨1024<m then 1 else 0
theorem gchk_zero{N c m:Int}{l:List A}(h:gchk N c m l=0):chkE N l=0∧(0≤c∧c<N)∧1≤m∧m≤1024:=by
 unfold gchk at h
 split at h
 ·exact absurd h (by assumption)
 ·rename_i h1
  have h1:chkE N l=0:=by omega
  split at h
  ·cases h
  ·rename_i h2
   split at h
   ·cases h
   ·exact⟨h1,by omega,by omega,by omega⟩
theorem around_any(f:Nat)(c:Int)(w:World):Calls Tryz.prog 142 #[.pointer (some ⟨f,0,none⟩), .int .i64 c] w fun e w'=>e= .returned (.func (.func 171) #[] #[.pointer (some ⟨w.heap.size,0,none⟩), .pointer (some ⟨w.heap.size+1,0,none⟩)])∧w'=(w.alloc (.cells #[.pointer (some ⟨f,0,none⟩)] 197)).alloc (.cells #[.int .i64 c] 3):=by
 go_enter Tryz.func142,Tryz.ntmps142
 go_wp2_with fail
 go_ret
 exact⟨rfl,rfl⟩
theorem gisv_any(N v:Int)(s:Value)(w:World):Calls Tryz.prog 169 #[.agg #[.int .i64 N,s], .int .i64 v] w fun e w'=>e= .returned (.bool (decide (0≤v∧v<N)))∧Below w.heap.size w w':=by
 by_cases h1:0≤v
 ·by_cases h2:v<N
  ·rw[decide_eq_true ⟨h1,h2⟩]
   go_enter Tryz.func169,Tryz.ntmps169
   go_wp2_with fail
   go_ret
   exact⟨rfl,(Below.refl _ _).alloc (Nat.le_refl _) _⟩
  ·rw[decide_eq_false (fun h=>h2 h.2)]
   go_enter Tryz.func169,Tryz.ntmps169
   go_wp2_with fail
   go_ret
   exact⟨rfl,(Below.refl _ _).alloc (Nat.le_refl _) _⟩
 ·rw[decide_eq_false (fun h=>h1 h.1)]
  go_enter Tryz.func169,Tryz.ntmps169
  go_wp2_with fail
  go_ret
  exact⟨rfl,(Below.refl _ _).alloc (Nat.le_refl _) _⟩
set_option maxHeartbeats 800000 in
theorem gchk_any(N c m:Int)(a:Option Addr)(l:List A)(cap:Nat)(w:World)(hl:l.length≤9223372036854775807)(hr:Arcs w a l):
  Calls Tryz.prog 140 #[.agg #[.int .i64 N, .slice a l.length cap], .int .i64 c, .int .i64 m] w fun e w'=>e= .returned (.int .i64 (gchk N c m l))∧Below w.heap.size w w':=by
 have hb0:Below w.heap.size w (w.alloc (.cells #[.int .i64 N, .slice a l.length cap] 24)):=(Below.refl _ _).alloc (Nat.le_refl _) _
 have hg:=heap_top w (.cells #[.int .i64 N, .slice a l.length cap] 24)
 have hr2:=hr.on hb0
 obtain⟨E,HE⟩:=named (chkE N l)
 obtain⟨R,HR⟩:=named (gchk N c m l)
 obtain⟨AT,HAT⟩:=named (chkAt N l)
 rw[HR.out]
 go_enter Tryz.func140,Tryz.ntmps140
 go_wp2_with fail
 generalize hW:w.alloc (.cells #[.int .i64 N, .slice a l.length cap] 24)=W at*
 generalize hp:w.heap.size=p at*
 refine(check_any N a l cap W hl hr2).mono ?_
 rintro e w1 ⟨rfl,hb1⟩
 rw[HE.out,HAT.out]
 have hg1:=(hb1.block _ (lt_of_block hg)).trans hg
 obtain⟨⟨g0,g1⟩,_⟩:=two_cells hg1
 have hbw:Below p w w1:=hb0.trans (hb1.mono (by rw[←hp] at*;exact Nat.le_of_lt (lt_of_block hg)))
 have HBW:=hid hbw
 clear hb1 hbw hg hb0 hr2
 by_cases he:E=0
 ·have he2:(E != 0)=false:=by simp[he]
  go_wp2_with fail
  refine(gisv_any N c _ w1).mono ?_
  rintro e w2 ⟨rfl,hb2⟩
  have HB2:Hid (Below p w w2):=HBW.out.trans (hb2.mono (hp▸HBW.out.size))
  clear hb2
  by_cases hc:0≤c∧c<N
  ·rw[decide_eq_true hc]
   have h1:R=if m<1∨1024<m then 1 else 0:=by
    rw[←HR.out];unfold gchk;rw[if_neg (by rw[HE.out,he];simp),if_neg (by simpa using hc)]
   by_cases hm1:m<1
   ·rw[if_pos (.inl hm1)] at h1
    subst h1
    go_wp2_with fail
    go_ret
    exact⟨rfl,by rw[hp];exact HB2.out⟩
   ·by_cases hm2:1024<m
    ·rw[if_pos (.inr hm2)] at h1
     subst h1
     go_wp2_with fail
     go_ret
     exact⟨rfl,by rw[hp];exact HB2.out⟩
    ·rw[if_neg (by omega)] at h1
     subst h1
     go_wp2_with fail
     go_ret
     exact⟨rfl,by rw[hp];exact HB2.out⟩
  ·rw[decide_eq_false hc]
   have h1:R=5:=by
    rw[←HR.out];unfold gchk;rw[if_neg (by rw[HE.out,he];simp),if_pos hc]
   subst h1
   go_wp2_with fail
   go_ret
   exact⟨rfl,by rw[hp];exact HB2.out⟩
 ·have he2:(E != 0)=true:=by simp[he]
  have h1:R=E:=by
   rw[←HR.out];unfold gchk;rw[if_pos (by rw[HE.out];exact he),HE.out]
  subst h1
  go_wp2_with fail
  go_ret
  exact⟨rfl,by rw[hp];exact HBW.out⟩
theorem info3:(Tryz.prog.info? 3).map (fun i=>(i.zero,i.size,i.bytes))=some (some (.int .i64 0),1,8):=by kernel_rfl
theorem info4:(Tryz.prog.info? 4).map (fun i=>(i.zero,i.size,i.bytes))=some (some (.bool false),1,1):=by kernel_rfl
structure Ed where
 f:Nat
 t:Nat
 c:Int
def Ed.zero:Ed:=⟨0,0,0⟩
def ed(E:List Ed)(k:Nat):Ed:=E.getD k Ed.zero
def frm(E:List Ed)(k:Nat):Nat:=if k % 2=0 then (ed E (k / 2)).f else (ed E (k / 2)).t
def tto(E:List Ed)(k:Nat):Nat:=if k % 2=0 then (ed E (k / 2)).t else (ed E (k / 2)).f
def TbV(w:World)(b n:Nat)(ty:TypeId)(V:Nat→Value):Prop:=w.heap[b]? =some (.cells ((List.range n).map V).toArray ty (0,0))
theorem TbV.lt{w:World}{b n:Nat}{ty:TypeId}{V:Nat→Value}(h:TbV w b n ty V):b<w.heap.size:=lt_of_block h
theorem TbV.same{w w':World}{b n:Nat}{ty:TypeId}{V:Nat→Value}(h:TbV w b n ty V)(hs:w'.heap[b]? =w.heap[b]?):TbV w' b n ty V:=hs.trans h
theorem TbV.cell{w:World}{b n:Nat}{ty:TypeId}{V:Nat→Value}(h:TbV w b n ty V){v:Nat}(hv:v<n):w.cell? ⟨b,v,none⟩=some (V v):=by
 unfold TbV at h
 simp[World.cell?,h,hv]
theorem TbV.free{w:World}{b n:Nat}{ty:TypeId}{V:Nat→Value}(h:TbV w b n ty V)(v:Nat):w.frozen? ⟨b,v,none⟩=false:=by
 unfold TbV at h
 simp[World.frozen?,h]
theorem TbV.congr{w:World}{b n:Nat}{ty:TypeId}{V U:Nat→Value}(h:TbV w b n ty V)(e: ∀v,v<n→V v=U v):TbV w b n ty U:=by
 unfold TbV at*
 rw[h]
 congr 3
 apply List.map_congr_left
 intro v hv
 rw[e v (by simpa using hv)]
def updV(V:Nat→Value)(x:Nat)(d:Value):Nat→Value:=fun y=>if y=x then d else V y
theorem updV_self(V:Nat→Value)(x:Nat)(d:Value):updV V x d x=d:=by simp[updV]
theorem updV_ne(V:Nat→Value){x y:Nat}(d:Value)(h:y≠x):updV V x d y=V y:=by simp[updV,h]
theorem tabV_set(n:Nat)(V:Nat→Value)(v:Nat)(x:Value):((List.range n).map V).toArray.setIfInBounds v x=((List.range n).map (updV V v x)).toArray:=by
 apply Array.ext'
 simp only[Array.toList_setIfInBounds]
 apply List.ext_getElem?
 intro i
 rw[List.getElem?_set]
 by_cases e:v=i
 ·subst e
  by_cases h:v<n
  ·simp[h,updV_self]
  ·simp[h]
 ·rw[if_neg e]
  by_cases h:i<n
  ·simp[h,updV_ne V x (fun h:i=v=>e h.symm)]
  ·simp[h]
theorem TbV.set{w:World}{b n:Nat}{ty:TypeId}{V:Nat→Value}(h:TbV w b n ty V)(v:Nat)(x:Value):TbV (w.setCell ⟨b,v,none⟩ x) b n ty (updV V v x):=by
 unfold TbV
 rw[heap_setCell_same w b v _ _ _ h,tabV_set]
structure Fr(D:Nat→Prop)(w w':World):Prop where
 os:w'.os=w.os
 tape:w'.tape=w.tape
 output:w'.output=w.output
 size:w.heap.size≤w'.heap.size
 block: ∀k,k<w.heap.size→¬D k→w'.heap[k]? =w.heap[k]?
theorem Fr.refl(D:Nat→Prop)(w:World):Fr D w w:=⟨rfl,rfl,rfl,Nat.le_refl _,fun _ _ _=>rfl⟩
theorem Fr.setCell{D:Nat→Prop}{a b:World}(h:Fr D a b)(p:Addr)(u:Value)(hp:D p.block):Fr D a (b.setCell p u):=
 ⟨h.os,h.tape,h.output,by have:=h.size;simpa[World.setCell] using this,fun k hk hn=>(Below.heap_setCell b p u k (fun e=>hn (e▸hp))).trans (h.block k hk hn)⟩
theorem Fr.drew{D:Nat→Prop}{a b:World}(h:Fr D a b):Fr D a b.drew:=⟨h.os,h.tape,h.output,h.size,h.block⟩
theorem Fr.drewN{D:Nat→Prop}{a b:World}(h:Fr D a b)(n:Nat):Fr D a (b.drewN n):=⟨h.os,h.tape,h.output,h.size,h.block⟩
def lst(E:List Ed)(v:Nat):Nat→Int
 | 0=> -1
 | b+1=>if frm E b=v then (b:Int) else lst E v b
theorem lst_cases(E:List Ed)(v:Nat): ∀b,(lst E v b= -1∧∀k,k<b→frm E k≠v)∨∃k,k<b∧lst E v b=(k:Int)∧frm E k=v∧∀j,k<j→j<b→frm E j≠v
 | 0=> .inl ⟨rfl,fun _ h=>absurd h (Nat.not_lt_zero _)⟩
 | b+1=>by
   by_cases e:frm E b=v
   ·exact .inr ⟨b,by omega,by simp[lst,e],e,fun j h1 h2=>by omega⟩
   ·have h0:lst E v (b+1)=lst E v b:=by simp[lst,e]
    rcases lst_cases E v b with ⟨h,hn⟩ | ⟨k,hk,h,hf,hn⟩
    ·exact .inl ⟨h0.trans h,fun k hk=>by
      by_cases e2:k=b
      ·subst e2;exact e
      ·exact hn k (by omega)⟩
    ·exact .inr ⟨k,by omega,h0.trans h,hf,fun j h1 h2=>by
      by_cases e2:j=b
      ·subst e2;exact e
      ·exact hn j h1 (by omega)⟩
theorem lst_lt(E:List Ed)(v b:Nat):lst E v b<b:=by
 rcases lst_cases E v b with ⟨h,_⟩ | ⟨k,hk,h,_⟩ <;> omega
def updI(F:Nat→Int)(x:Nat)(d:Int):Nat→Int:=fun y=>if y=x then d else F y
theorem updI_self(F:Nat→Int)(x:Nat)(d:Int):updI F x d x=d:=by simp[updI]
theorem updI_ne(F:Nat→Int){x y:Nat}(d:Int)(h:y≠x):updI F x d y=F y:=by simp[updI,h]
theorem Fr.trans{D:Nat→Prop}{a b c:World}(h:Fr D a b)(h2:Fr D b c):Fr D a c:=
 ⟨h2.os.trans h.os,h2.tape.trans h.tape,h2.output.trans h.output,Nat.le_trans h.size h2.size,fun k hk hn=>(h2.block k (Nat.lt_of_lt_of_le hk h.size) hn).trans (h.block k hk hn)⟩
theorem Fr.imp{D D2:Nat→Prop}{a b:World}(h:Fr D a b)(hd: ∀k,D k→D2 k):Fr D2 a b:=
 ⟨h.os,h.tape,h.output,h.size,fun k hk hn=>h.block k hk (fun e=>hn (hd k e))⟩
theorem Fr.alloc{D:Nat→Prop}{a b:World}(h:Fr D a b)(o:Obj):Fr D a (b.alloc o):=
 ⟨h.os,h.tape,h.output,by have:=h.size;simp;omega,fun k hk hn=>(Below.heap_alloc b o k (Nat.lt_of_lt_of_le hk h.size)).trans (h.block k hk hn)⟩
theorem TbV.fr{D:Nat→Prop}{w w':World}{b n:Nat}{ty:TypeId}{V:Nat→Value}(h:TbV w b n ty V)(hf:Fr D w w')(hn: ¬D b):TbV w' b n ty V:=h.same (hf.block b h.lt hn)
theorem upd_rank(rk:Nat→Int)(v:Nat)(d:Int): ∀x,updV (fun v=>Value.int .i64 (rk v)) v (.int .i64 d) x= .int .i64 (updI rk v d x):=fun x=>by
 by_cases e:x=v
 ·subst e;rw[updV_self,updI_self]
 ·rw[updV_ne _ _ e,updI_ne _ _ e]
theorem Fr.below{D:Nat→Prop}{w w':World}(h:Fr D w w'){B:Nat}(hB:B≤w.heap.size)(hd: ∀k,D k→B≤k):Below B w w':=
 ⟨h.os,h.tape,h.output,h.size,fun k hk=>h.block k (Nat.lt_of_lt_of_le hk hB) (fun e=>absurd (hd k e) (Nat.not_le.2 hk))⟩
theorem made_int(n:Nat):madeCells (Value.int .i64 0).cells (n*1)=((List.range n).map (fun _=>Value.int .i64 0)).toArray:=by
 apply Array.ext'
 show(madeCells #[Value.int .i64 0] (n*1)).toList=_
 rw[toList_madeCells_one,Nat.mul_one]
 apply List.ext_getElem
 ·simp
 ·intro i h1 h2
  simp
def edl(l:List A):List Ed:=l.map (fun x=>⟨x.f.toNat,x.t.toNat,x.w⟩)
theorem edl_at{l:List A}{k:Nat}(hk:k<l.length):ed (edl l) k=⟨(l.getD k A.zero).f.toNat,(l.getD k A.zero).t.toNat,(l.getD k A.zero).w⟩:=by
 simp[ed,edl,hk]
theorem lst_step(E:List Ed)(b v:Nat):lst E v (b+1)=updI (fun v=>lst E v b) (frm E b) (b:Int) v:=by
 by_cases h:frm E b=v
 ·subst h;rw[updI_self];simp[lst]
 ·rw[updI_ne _ _ (fun e=>h e.symm)];simp[lst,h]
theorem made_bool(n:Nat):madeCells (Value.bool false).cells (n*1)=((List.range n).map (fun _=>Value.bool false)).toArray:=by
 apply Array.ext'
 show(madeCells #[Value.bool false] (n*1)).toList=_
 rw[toList_madeCells_one,Nat.mul_one]
 apply List.ext_getElem
 ·simp
 ·intro i h1 h2
  simp
def cellsI(l:List Int):List Value:=l.map (Value.int .i64)
theorem cellsI_len(l:List Int):(cellsI l).length=l.length:=by unfold cellsI;simp
theorem cellsI_snoc(l:List Int)(x:Int):cellsI l++[.int .i64 x]=cellsI (l++[x]):=by unfold cellsI;simp
theorem cellsI_getD(xs:List Int)(k:Nat)(h:k<xs.length):(cellsI xs)[k]? =some (.int .i64 (xs.getD k 0)):=by
 unfold cellsI
 simp[List.getD,List.getElem?_eq_getElem h]
theorem one_i64(x:Int): ∀u∈ [Value.int .i64 x],u.oneCell'=true:=by intro u hu;simp at hu;subst hu;rfl
theorem one_new(w:World)(x:Int): ∀j u,[Value.int .i64 x][j]? =some u→(w.alloc (.cells #[.int .i64 x] 3)).cell? ((⟨w.heap.size,0,none⟩:Addr).add j)=some u:=by
 intro j u hu
 match j,hu with
 | 0,hu=>simp at hu;subst hu;simp[Addr.add]
def ints(q:List Nat):List Int:=q.map (fun x:Nat=>(x:Int))
theorem ints_len(q:List Nat):(ints q).length=q.length:=by simp[ints]
theorem ints_snoc(q:List Nat)(v:Nat):ints (q++[v])=ints q++[(v:Int)]:=by simp[ints]
theorem ints_getD{q:List Nat}{i:Nat}(hi:i<q.length):(ints q).getD i 0=((q.getD i 0:Nat):Int):=by
 simp[ints,List.getD,List.getElem?_eq_getElem hi]
theorem below_drewN(B:Nat)(w:World)(k:Nat):Below B w (w.drewN k):=⟨rfl,rfl,rfl,Nat.le_refl _,fun _ _=>rfl⟩
theorem own_on{w w':World}{base:Nat}{e:TypeId}{size:Nat}{v:Value}{k:Nat}{xs:List Value}(h:w.ownsRow base e size v k xs)(hb:Below w.heap.size w w'):w'.ownsRow base e size v k xs:=by
 refine⟨h.1,?_⟩
 rcases h.2 with h' | ⟨g,c,cur,h1,h2,h3,h4⟩
 ·exact Or.inl h'
 ·exact Or.inr ⟨g,c,cur,h1,h2,(hb.block g (lt_of_block h3)).trans h3,h4⟩
theorem own_set{w:World}{base:Nat}{e:TypeId}{size:Nat}{v:Value}{n:Nat}{xs:List Value}(h:w.ownsRow base e size v n xs)(p:Addr)(u:Value)(hp:p.block<base):(w.setCell p u).ownsRow base e size v n xs:=by
 refine⟨h.1,?_⟩
 rcases h.2 with h' | ⟨g,c,cur,h1,h2,h3,h4⟩
 ·exact Or.inl h'
 ·exact Or.inr ⟨g,c,cur,h1,h2,(Below.heap_setCell w p u g (fun e=>by omega)).trans h3,h4⟩
theorem own_shape{w:World}{base:Nat}{e:TypeId}{size:Nat}{v:Value}{n:Nat}{xs:List Value}(h:w.ownsRow base e size v n xs)(hn:v≠ .slice none 0 0): ∃g c,v= .slice (some ⟨g,0,none⟩) n c∧base≤g∧n≤c∧g<w.heap.size∧c≤9223372036854775807:=by
 rcases h.2 with ⟨h',_⟩ | ⟨g,c,cur,h',hb,hg,hnc,hm,_⟩
 ·exact absurd h' hn
 ·exact⟨g,c,h',hb,hnc,lt_of_block hg,hm⟩
theorem own_base{w:World}{base base':Nat}{e:TypeId}{size:Nat}{v:Value}{n:Nat}{xs:List Value}(h:w.ownsRow base e size v n xs)(hb:base'≤base):w.ownsRow base' e size v n xs:=by
 refine⟨h.1,?_⟩
 rcases h.2 with h' | ⟨g,c,cur,h1,h2,h3⟩
 ·exact Or.inl h'
 ·exact Or.inr ⟨g,c,cur,h1,Nat.le_trans hb h2,h3⟩
theorem own_slice{w:World}{base:Nat}{e:TypeId}{size:Nat}{v:Value}{n:Nat}{xs:List Value}(h:w.ownsRow base e size v n xs): ∃a c,v= .slice a n c:=by
 rcases h.2 with ⟨rfl,rfl⟩ | ⟨g,c,cur,rfl,_⟩
 ·exact⟨none,0,rfl⟩
 ·exact⟨_,c,rfl⟩
theorem own_cell{w:World}{base:Nat}{a:Option Addr}{n cap:Nat}{ys:List Int}(h:w.ownsRow base 3 1 (.slice a n cap) n (cellsI ys))(hl:ys.length=n){j:Nat}(hj:j<n): ∃g,a=some ⟨g,0,none⟩∧g<w.heap.size∧base≤g∧w.cell? ⟨g,j,none⟩=some (.int .i64 (ys.getD j 0)):=by
 rcases h.2 with ⟨h1,h2⟩ | ⟨g,c,cur,h1,h2,h3,_⟩
 ·omega
 ·injection h1 with ha hb hc
  subst ha
  have:=World.ownsRow.cellAt h j (by omega)
  refine⟨g,rfl,lt_of_block h3,h2,?_⟩
  rw[cellsI_getD ys j (by omega)] at this
  exact this
theorem info_parts{P:Program}{e:TypeId}{z:Value}{s b:Nat}(h:(P.info? e).map (fun i=>(i.zero,i.size,i.bytes))=some (some z,s,b)): ∃i,P.info? e=some i∧i.zero=some z∧i.size=s∧i.bytes=b:=by
 cases hi:P.info? e with
 | none=>rw[hi] at h;simp at h
 | some i=>rw[hi] at h;simp at h;exact⟨i,rfl,h.1,h.2.1,h.2.2⟩
structure Gw(w:World)(f b1 b2 bs n m:Nat)(a:Option Addr)(cap:Nat):Prop where
 hd:w.heap[f]? =some (.cells #[.slice a m cap, .slice (some ⟨b1,0,none⟩) n n, .slice (some ⟨b2,0,none⟩) (2*m) (2*m), .slice (some ⟨bs,0,none⟩) n n] 209 (0,0))
theorem four_cells{w:World}{g:Nat}{a b c d:Value}{t:TypeId}(hh:w.heap[g]? =some (.cells #[a,b,c,d] t)):w.cell? ⟨g,0,none⟩=some a∧w.cell? ⟨g,1,none⟩=some b∧w.cell? ⟨g,2,none⟩=some c∧w.cell? ⟨g,3,none⟩=some d:=by
 simp[World.cell?,hh]
theorem Gw.fr{D:Nat→Prop}{w w':World}{f b1 b2 bs n m:Nat}{a:Option Addr}{cap:Nat}(h:Gw w f b1 b2 bs n m a cap)(hf:Fr D w w')(hn: ¬D f):Gw w' f b1 b2 bs n m a cap:=⟨(hf.block f (lt_of_block h.hd) hn).trans h.hd⟩
set_option maxHeartbeats 1600000 in
set_option maxRecDepth 100000 in
theorem chain_any{w:World}{f b1 b2 bs n m:Nat}{a:Option Addr}{cap:Nat}{F G:Nat→Int}(hg:Gw w f b1 b2 bs n m a cap)(h1:TbV w b1 n 3 (fun v=> .int .i64 (F v)))(h2:TbV w b2 (2*m) 3 (fun v=> .int .i64 (G v)))(hne:b1≠b2)(hf1:f≠b1)(hf2:f≠b2){v k:Nat}(hv:v<n)(hk:k<2*m):
  Calls Tryz.prog 170 #[.pointer (some ⟨f,0,none⟩), .int .i64 v, .int .i64 k] w fun e w'=>e= .returned (.tuple #[])∧TbV w' b1 n 3 (fun x=> .int .i64 (updI F v k x))∧TbV w' b2 (2*m) 3 (fun x=> .int .i64 (updI G k (F v) x))∧Fr (fun j=>j=b1∨j=b2) w w':=by
 obtain⟨c0,c1,c2,c3⟩:=four_cells hg.hd
 have d1:=h1.cell hv
 have d1f:=h1.free v
 have d2:=h2.cell hk
 have d2f:=h2.free k
 have hv':(v:Int)<n:=by omega
 have hk':(k:Int)<((2*m:Nat):Int):=by omega
 have f1:Fr (fun j=>j=b2) w (w.setCell ⟨b2,k,none⟩ (.int .i64 (F v))):=(Fr.refl _ w).setCell ⟨b2,k,none⟩ _ rfl
 have f2:Fr (fun j=>j=b1) (w.setCell ⟨b2,k,none⟩ (.int .i64 (F v))) ((w.setCell ⟨b2,k,none⟩ (.int .i64 (F v))).setCell ⟨b1,v,none⟩ (.int .i64 k)):=(Fr.refl _ _).setCell ⟨b1,v,none⟩ _ rfl
 have t2:=((h2.set k (.int .i64 (F v))).fr f2 (fun e=>hne e.symm)).congr (fun x _=>upd_rank G k (F v) x)
 have t1:=((h1.fr f1 hne).set v (.int .i64 k)).congr (fun x _=>upd_rank F v k x)
 have f3:=(f1.imp (D2:=fun j=>j=b1∨j=b2) (fun _ h=> .inr h)).trans (f2.imp (fun _ h=> .inl h))
 have HT1:=hid t1
 have HT2:=hid t2
 have HF3:=hid f3
 have hne2:=hne.symm
 have hf1':=hf1.symm
 have hf2':=hf2.symm
 clear h1 h2 f1 f2 f3 t1 t2
 generalize hFv:F v=fv at*
 generalize hGk:G k=gk at*
 go_enter Tryz.func170,Tryz.ntmps170
 go_wp2_with fail
 go_region
 all_goals
  go_wp2_with fail
  go_end0
  exact⟨rfl,HT1.out,HT2.out,⟨HF3.out.os,HF3.out.tape,HF3.out.output,HF3.out.size,HF3.out.block⟩⟩
set_option maxHeartbeats 800000 in
theorem across_any{w:World}{f b1 b2 bs n:Nat}{a:Option Addr}{l:List A}{cap:Nat}(hg:Gw w f b1 b2 bs n l.length a cap)(hr:Arcs w a l)(hp: ∀x,x∈l→0≤x.f∧0≤x.t)(hm:l.length≤16384){k:Nat}(hk:k<2*l.length):
  Calls Tryz.prog 187 #[.pointer (some ⟨f,0,none⟩), .int .i64 k] w fun e w'=>e= .returned (.int .i64 (tto (edl l) k))∧w'=w:=by
 obtain⟨c0,c1,c2,c3⟩:=four_cells hg.hd
 have hj:k / 2<l.length:=by omega
 obtain⟨b,o,rfl,hbl,hat⟩: ∃b o,a=some ⟨b,o,none⟩∧b<w.heap.size∧∀j,j<l.length→(l.getD j A.zero).at w b (o+j*3):=by
  rcases hr with rfl | ⟨b,o,h⟩
  ·simp at hj
  ·exact⟨b,o,h⟩
 obtain⟨x0,x1,x2⟩:=hat (k / 2) hj
 have hpo:=hp (l.getD (k / 2) A.zero) (by simp[List.getD,List.getElem?_eq_getElem hj])
 have he:=edl_at hj
 have hj':((k / 2:Nat):Int)<l.length:=by omega
 generalize l.getD (k / 2) A.zero=x at*
 obtain⟨T,HT⟩:=named (tto (edl l) k)
 rw[HT.out]
 have E1:Hid ((k:Int) / 2=((k / 2:Nat):Int)):=by show _=_;omega
 by_cases hp2:k % 2=0
 ·have e2:((k:Int) % 2==0)=true:=by simp;omega
  have hT:(T:Int)=x.t:=by
   rw[←HT.out];unfold tto;rw[if_pos hp2,he];exact Int.toNat_of_nonneg hpo.2
  have HTT:=hid hT
  clear hT
  go_enter Tryz.func187,Tryz.ntmps187
  go_wp2_with fail
  go_ret
  exact⟨by rw[HTT.out];rfl,rfl⟩
 ·have e2:((k:Int) % 2==0)=false:=by simp;omega
  have hT:(T:Int)=x.f:=by
   rw[←HT.out];unfold tto;rw[if_neg hp2,he];exact Int.toNat_of_nonneg hpo.1
  have HTT:=hid hT
  clear hT
  go_enter Tryz.func187,Tryz.ntmps187
  go_wp2_with fail
  go_ret
  exact⟨by rw[HTT.out];rfl,rfl⟩
end Go.Proofs.YtmenajiceaicpaaGreat
