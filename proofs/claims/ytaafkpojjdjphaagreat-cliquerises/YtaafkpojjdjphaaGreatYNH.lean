import Derived.Laws.AppendOwnNone
import Derived.Lib.SliceRun
import Derived.Deep.LoopGhost
import Derived.Test.YtaafkpojjdjphaaGreatYNG
set_option maxRecDepth 100000
namespace Go.Proofs.YtaafkpojjdjphaaGreat.N5
open Go.RowKit
theorem info3:(Tryz.prog.info? 3).map (fun i=>(i.zero,i.size,i.bytes))=some (some (.int .i64 0),1,8):=by kernel_rfl
def ArcsB(B:Nat)(w:World)(a:Option Addr)(l:List A):Prop:=
 l= []∨∃b o,a=some ⟨b,o,none⟩∧b<B∧∀j,j<l.length→(l.getD j A.zero).at w b (o+j*3)
theorem Arcs.b{w:World}{a:Option Addr}{l:List A}(h:Arcs w a l):ArcsB w.heap.size w a l:=h
theorem ArcsB.get{B:Nat}{w:World}{a:Option Addr}{l:List A}(h:ArcsB B w a l): ∃b o,0<l.length→a=some ⟨b,o,none⟩∧b<B∧∀j,j<l.length→(l.getD j A.zero).at w b (o+j*3):=by
 rcases h with rfl | ⟨b,o,h⟩
 ·exact⟨0,0,fun h=>absurd h (by simp)⟩
 ·exact⟨b,o,fun _=>h⟩
end Go.Proofs.YtaafkpojjdjphaaGreat.N5
namespace Go.Proofs.YtaafkpojjdjphaaGreat.N5
open Go.RowKit
def Ints(w:World)(a:Option Addr)(xs:List Int):Prop:=
 xs= []∨∃b o,a=some ⟨b,o,none⟩∧b<w.heap.size∧∀j,j<xs.length→w.cell? ⟨b,o+j,none⟩=some (.int .i64 (xs.getD j 0))
theorem Ints.get{w:World}{a:Option Addr}{xs:List Int}(h:Ints w a xs): ∃b o,0<xs.length→a=some ⟨b,o,none⟩∧b<w.heap.size∧∀j,j<xs.length→w.cell? ⟨b,o+j,none⟩=some (.int .i64 (xs.getD j 0)):=by
 rcases h with rfl | ⟨b,o,h⟩
 ·exact⟨0,0,fun h=>absurd h (by simp)⟩
 ·exact⟨b,o,fun _=>h⟩
end Go.Proofs.YtaafkpojjdjphaaGreat.N5
namespace Go.Proofs.YtaafkpojjdjphaaGreat.N5
open Go.RowKit
end Go.Proofs.YtaafkpojjdjphaaGreat.N5
namespace Go.Proofs.YtaafkpojjdjphaaGreat.N5
open Go.RowKit
end Go.Proofs.YtaafkpojjdjphaaGreat.N5
namespace Go.Proofs.YtaafkpojjdjphaaGreat.N5
open Go.RowKit
end Go.Proofs.YtaafkpojjdjphaaGreat.N5
namespace Go.Proofs.YtaafkpojjdjphaaGreat.N5
open Go.RowKit
def Tb(w:World)(b n:Nat)(ty:TypeId)(K:IntKind)(F:Nat→Int):Prop:=w.heap[b]? =some (.cells ((List.range n).map (fun v=>Value.int K (F v))).toArray ty (0,0))
theorem Tb.lt{w:World}{b n:Nat}{ty:TypeId}{K:IntKind}{F:Nat→Int}(h:Tb w b n ty K F):b<w.heap.size:=lt_of_block h
theorem Tb.same{w w':World}{b n:Nat}{ty:TypeId}{K:IntKind}{F:Nat→Int}(h:Tb w b n ty K F)(hs:w'.heap[b]? =w.heap[b]?):Tb w' b n ty K F:=hs.trans h
theorem Tb.cell{w:World}{b n:Nat}{ty:TypeId}{K:IntKind}{F:Nat→Int}(h:Tb w b n ty K F){v:Nat}(hv:v<n):w.cell? ⟨b,v,none⟩=some (.int K (F v)):=by
 unfold Tb at h
 simp[World.cell?,h,hv]
theorem Tb.free{w:World}{b n:Nat}{ty:TypeId}{K:IntKind}{F:Nat→Int}(h:Tb w b n ty K F)(v:Nat):w.frozen? ⟨b,v,none⟩=false:=by
 unfold Tb at h
 simp[World.frozen?,h]
theorem Tb.congr{w:World}{b n:Nat}{ty:TypeId}{K:IntKind}{F G:Nat→Int}(h:Tb w b n ty K F)(e: ∀v,v<n→F v=G v):Tb w b n ty K G:=by
 unfold Tb at*
 rw[h]
 congr 3
 apply List.map_congr_left
 intro v hv
 rw[e v (by simpa using hv)]
theorem tab_set(n:Nat)(K:IntKind)(F:Nat→Int)(v:Nat)(x:Int):((List.range n).map (fun u=>Value.int K (F u))).toArray.setIfInBounds v (.int K x)=((List.range n).map (fun u=>Value.int K (updI F v x u))).toArray:=by
 apply Array.ext'
 simp only[Array.toList_setIfInBounds]
 apply List.ext_getElem?
 intro i
 rw[List.getElem?_set]
 by_cases e:v=i
 ·subst e
  by_cases h:v<n
  ·simp[h,updI_self]
  ·simp[h]
 ·rw[if_neg e]
  by_cases h:i<n
  ·simp[h,updI_ne F x (fun h:i=v=>e h.symm)]
  ·simp[h]
theorem Tb.set{w:World}{b n:Nat}{ty:TypeId}{K:IntKind}{F:Nat→Int}(h:Tb w b n ty K F)(v:Nat)(x:Int):Tb (w.setCell ⟨b,v,none⟩ (.int K x)) b n ty K (updI F v x):=by
 unfold Tb
 rw[heap_setCell_same w b v _ _ _ h,tab_set]
theorem row_made{w:World}{base g n:Nat}{e:TypeId}{xs:List Value}(h:w.ownsRow base e 1 (.slice (some ⟨g,0,none⟩) n n) n xs):w.heap[g]? =some (.cells xs.toArray e (0,0)):=by
 rcases h.2 with ⟨h',_⟩ | ⟨g',c',cur,h',_,h3,_,_,h6,h7⟩
 ·cases h'
 ·cases h'
  rw[h3,←h7]
  rw[List.take_of_length_le (by simp;omega)]
theorem info34:(Tryz.prog.info? 48).map (fun i=>(i.zero,i.size,i.bytes))=some (some (.int .u64 0),1,8):=by kernel_rfl
theorem made_u64(n:Nat):(madeCells (Value.int .u64 0).cells (n*1)).toList=(List.range n).map (fun _=>Value.int .u64 0):=by
 show(madeCells #[Value.int .u64 0] (n*1)).toList=_
 rw[toList_madeCells_one,Nat.mul_one]
 apply List.ext_getElem
 ·simp
 ·intro i h1 h2
  simp
theorem made_int(n:Nat):(madeCells (Value.int .i64 0).cells (n*1)).toList=(List.range n).map (fun _=>Value.int .i64 0):=by
 show(madeCells #[Value.int .i64 0] (n*1)).toList=_
 rw[toList_madeCells_one,Nat.mul_one]
 apply List.ext_getElem
 ·simp
 ·intro i h1 h2
  simp
set_option maxHeartbeats 800000 in
theorem filledD_any(n:Nat)(hn:n≤8192)(c:Int)(w:World):
  Calls Tryz.prog 181 #[.int .i64 n, .int .u64 c] w fun e w'=> ∃b,e= .returned (.slice (some ⟨b,0,none⟩) n n)∧Tb w' b n 48 .u64 (fun _=>c)∧w.heap.size≤b∧Below w.heap.size w w':=by
 obtain⟨i0,hi,hz0,hz1,hz2⟩:=info_parts info34
 have HM:=Lib.hid (made_u64 n)
 go_enter Tryz.func181,Tryz.ntmps181
 go_wp2_with (at_make;refine wpList_make_full _ rfl (.tmp 7) (.tmp 7) 38 rfl 0 48 i0 (.int .u64 0) 1 Tryz.underlying38 hi hz0 hz1 .i64 .i64 n n n rfl rfl rfl rfl (by rw[hz2];omega) (by unfold maxLen;omega) (Nat.zero_le _) ?_;intro w1 hown1 hgrow1;rw[HM.out] at hown1)
 have hrow:Tb w1 w.heap.size n 48 .u64 (fun _=>0):=row_made hown1
 have hb1:Below w.heap.size w w1:=(Below.refl _ _).grown hgrow1 (Nat.le_refl _) (by intro k hk;cases hk)
 clear hown1 hgrow1
 go_wp2_with fail
 go_loopw [11] (fun i wr=> ∃k:Nat,k≤n∧i= .int .i64 k∧Tb wr w.heap.size n 48 .u64 (fun v=>if v<k then c else 0)∧Below w.heap.size w wr) (fun i _=>n - (intOf i).toNat)
 case atStart=>exact⟨0,Nat.zero_le _,rfl,hrow.congr (fun v _=>by simp),hb1⟩
 case round=>
  obtain⟨k,hk,rfl,ht,hb⟩:=hrel
  by_cases hlt:k<n
  ·have c0:=ht.cell hlt
   have f0:=ht.free k
   have hlt':(k:Int)<n:=by omega
   go_wp2_with fail
   refine⟨⟨k+1,by omega,by go_num,(ht.set k c).congr (fun v _=> ?_),hb.setCell (Nat.le_refl _) _⟩,by simp[intOf];omega⟩
   unfold updI
   by_cases e:v=k
   ·subst e;simp
   ·rw[if_neg e]
    show(if v<k then c else 0)=_
    by_cases e2:v<k
    ·rw[if_pos e2,if_pos (by omega)]
    ·rw[if_neg e2,if_neg (by omega)]
  ·have hlt': ¬(k:Int)<n:=by omega
   go_wp2_with fail
   go_ret
   exact⟨_,rfl,ht.congr (fun v hv=>by rw[if_pos (by omega)]),Nat.le_refl _,hb⟩
set_option maxHeartbeats 800000 in
theorem filledI_any(n:Nat)(hn:n≤8192)(c:Int)(w:World):
  Calls Tryz.prog 214 #[.int .i64 n, .int .i64 c] w fun e w'=> ∃b,e= .returned (.slice (some ⟨b,0,none⟩) n n)∧Tb w' b n 3 .i64 (fun _=>c)∧w.heap.size≤b∧Below w.heap.size w w':=by
 obtain⟨i0,hi,hz0,hz1,hz2⟩:=info_parts info3
 have HM:=Lib.hid (made_int n)
 go_enter Tryz.func214,Tryz.ntmps214
 go_wp2_with (at_make;refine wpList_make_full _ rfl (.tmp 7) (.tmp 7) 25 rfl 0 3 i0 (.int .i64 0) 1 Tryz.underlying25 hi hz0 hz1 .i64 .i64 n n n rfl rfl rfl rfl (by rw[hz2];omega) (by unfold maxLen;omega) (Nat.zero_le _) ?_;intro w1 hown1 hgrow1;rw[HM.out] at hown1)
 have hrow:Tb w1 w.heap.size n 3 .i64 (fun _=>0):=row_made hown1
 have hb1:Below w.heap.size w w1:=(Below.refl _ _).grown hgrow1 (Nat.le_refl _) (by intro k hk;cases hk)
 clear hown1 hgrow1
 go_wp2_with fail
 go_loopw [11] (fun i wr=> ∃k:Nat,k≤n∧i= .int .i64 k∧Tb wr w.heap.size n 3 .i64 (fun v=>if v<k then c else 0)∧Below w.heap.size w wr) (fun i _=>n - (intOf i).toNat)
 case atStart=>exact⟨0,Nat.zero_le _,rfl,hrow.congr (fun v _=>by simp),hb1⟩
 case round=>
  obtain⟨k,hk,rfl,ht,hb⟩:=hrel
  by_cases hlt:k<n
  ·have c0:=ht.cell hlt
   have f0:=ht.free k
   have hlt':(k:Int)<n:=by omega
   go_wp2_with fail
   refine⟨⟨k+1,by omega,by go_num,(ht.set k c).congr (fun v _=> ?_),hb.setCell (Nat.le_refl _) _⟩,by simp[intOf];omega⟩
   unfold updI
   by_cases e:v=k
   ·subst e;simp
   ·rw[if_neg e]
    show(if v<k then c else 0)=_
    by_cases e2:v<k
    ·rw[if_pos e2,if_pos (by omega)]
    ·rw[if_neg e2,if_neg (by omega)]
  ·have hlt': ¬(k:Int)<n:=by omega
   go_wp2_with fail
   go_ret
   exact⟨_,rfl,ht.congr (fun v hv=>by rw[if_pos (by omega)]),Nat.le_refl _,hb⟩
set_option maxHeartbeats 400000 in
theorem unreached_any(n:Nat)(hn:n≤8192)(w:World):
  Calls Tryz.prog 125 #[.int .i64 n] w fun e w'=> ∃b,e= .returned (.slice (some ⟨b,0,none⟩) n n)∧Tb w' b n 48 .u64 (fun _=>Inf)∧w.heap.size≤b∧Below w.heap.size w w':=by
 have HF:=Lib.hid (filledD_any n hn 18446744073709551615 w)
 go_enter Tryz.func125,Tryz.ntmps125
 go_wp2_with fail
 refine HF.out.mono ?_
 rintro e w1 ⟨b,rfl,h1,h2,h3⟩
 go_wp2_with fail
 go_ret
 exact⟨b,rfl,h1,h2,h3⟩
set_option maxHeartbeats 400000 in
theorem add_any(a b:Int)(ha:0≤a∧a≤Inf)(hb:0≤b∧b≤Inf)(w:World):
  Calls Tryz.prog 66 #[.int .u64 a, .int .u64 b] w fun e w'=>e= .returned (.int .u64 (sat a b))∧w'=w:=by
 unfold Inf at ha hb
 by_cases h:18446744073709551615≤a+b
 ·have h1:18446744073709551615 - b≤a:=by omega
  have HS:Hid (sat a b=18446744073709551615):=by show _=_;unfold sat Inf;rw[if_pos h]
  clear h
  go_enter Tryz.func66,Tryz.ntmps66
  go_wp2_with fail
  go_ret
  exact⟨by rw[HS.out];rfl,rfl⟩
 ·have h1: ¬18446744073709551615 - b≤a:=by omega
  have HS:Hid (sat a b=a+b):=by show _=_;unfold sat Inf;rw[if_neg h]
  go_enter Tryz.func66,Tryz.ntmps66
  go_wp2_with fail
  go_ret
  exact⟨by rw[HS.out];rfl,rfl⟩
end Go.Proofs.YtaafkpojjdjphaaGreat.N5
