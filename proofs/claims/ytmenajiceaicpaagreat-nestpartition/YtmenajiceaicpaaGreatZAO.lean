import Derived.Test.YtmenajiceaicpaaGreatZAN
import Derived.Test.YtmenajiceaicpaaGreatZAE
import Derived.Test.YtmenajiceaicpaaGreatZAJ
open Go.Lib (hid)
set_option maxRecDepth 100000
namespace Go.Proofs.YtmenajiceaicpaaGreat
open Go.RowKit
def LsP(xs:List Int)(k:Nat)(S:List Nat):Prop:=
 S.length=(szL (xs.take k)).length∧(∀j,j<S.length→S.getD j 0<k∧xs.getD (S.getD j 0) 0=(j:Int)∧∀u,u<k→xs.getD u 0=(j:Int)→S.getD j 0≤u)∧∀u,u<k→0≤xs.getD u 0∧(xs.getD u 0).toNat<S.length
theorem LsP.step{xs:List Int}{k:Nat}{S:List Nat}(h:LsP xs k S)(ht:tdy xs 0=true)(hk:k<xs.length):LsP xs (k+1) (lsS S k (xs.getD k 0)):=by
 obtain⟨h1,h2,h3⟩:=h
 obtain⟨a0,a1⟩:=right_next ht k hk
 rw[←h1] at a1
 unfold lsS
 by_cases e:xs.getD k 0=S.length
 ·rw[if_pos e]
  refine⟨?_,fun j hj=> ?_,fun u hu=> ?_⟩
  ·rw[take_snocI hk,szL_snoc,szS_len,←h1,if_pos (by omega),List.length_append];rfl
  ·rw[List.length_append] at hj
   simp only[List.length_cons,List.length_nil] at hj
   by_cases e2:j=S.length
   ·subst e2
    rw[getD_end]
    refine⟨by omega,e,fun u hu hx=> ?_⟩
    by_cases e3:u=k
    ·omega
    ·have:=(h3 u (by omega)).2;omega
   ·rw[getD_app_lt (by omega)]
    obtain⟨b0,b1,b2⟩:=h2 j (by omega)
    refine⟨by omega,b1,fun u hu hx=> ?_⟩
    by_cases e3:u=k
    ·omega
    ·exact b2 u (by omega) hx
  ·rw[List.length_append]
   simp only[List.length_cons,List.length_nil]
   by_cases e3:u=k
   ·subst e3;omega
   ·have:=h3 u (by omega);omega
 ·rw[if_neg e]
  refine⟨?_,fun j hj=> ?_,fun u hu=> ?_⟩
  ·rw[take_snocI hk,szL_snoc,szS_len,←h1,if_neg (by omega)]
  ·obtain⟨b0,b1,b2⟩:=h2 j hj
   refine⟨by omega,b1,fun u hu hx=> ?_⟩
   by_cases e3:u=k
   ·omega
   ·exact b2 u (by omega) hx
  ·by_cases e3:u=k
   ·subst e3;omega
   ·exact h3 u (by omega)
theorem LsP.go{xs:List Int}(ht:tdy xs 0=true): ∀j k S,k+j=xs.length→LsP xs k S→LsP xs xs.length (lsL (xs.drop k) k S)
 | 0,k,S,e,h=>by
   rw[List.drop_eq_nil_of_le (by omega)]
   have:k=xs.length:=by omega
   subst this
   exact h
 | j+1,k,S,e,h=>by
   rw[drop_getI (by omega)]
   exact LsP.go ht j (k+1) _ (by omega) (h.step ht (by omega))
theorem ls_right{xs:List Int}(ht:tdy xs 0=true):LsP xs xs.length (lsL xs 0 []):=by
 have h:=LsP.go (xs:=xs) ht xs.length 0 [] (by omega) ⟨rfl,fun j hj=>absurd hj (by simp),fun u hu=>absurd hu (by omega)⟩
 exact h
theorem ls_len{xs:List Int}(ht:tdy xs 0=true):(lsL xs 0 []).length=(szL xs).length:=by
 have h:=(ls_right ht).1
 rw[List.take_length] at h
 exact h
theorem right_lt{xs:List Int}(ht:tdy xs 0=true){u:Nat}(hu:u<xs.length): ∃y:Nat,xs.getD u 0=y∧y<(szL xs).length:=by
 have h:=(ls_right ht).2.2 u hu
 rw[ls_len ht] at h
 exact⟨(xs.getD u 0).toNat,by omega,h.2⟩
def Nst(xs ys:List Int):Prop:= ∀u,u<xs.length→∀v,v<xs.length→xs.getD u 0=xs.getD v 0→ys.getD u 0=ys.getD v 0
instance (xs ys:List Int):Decidable (Nst xs ys):=by unfold Nst;exact inferInstance
theorem inB_all(ys:List Int)(L:List Nat): ∀ (xs:List Int) (k:Nat),inB ys L xs k=true↔ ∀i,i<xs.length→ys.getD (k+i) 0=ys.getD (L.getD (xs.getD i 0).toNat 0) 0
 | [],k=>by simp[inB]
 | x::r,k=>by
   unfold inB
   by_cases e:ys.getD k 0=ys.getD (L.getD x.toNat 0) 0
   ·rw[if_pos e,inB_all ys L r (k+1)]
    constructor
    ·intro h i hi
     cases i with
     | zero=>exact e
     | succ i=>
       have:=h i (by simpa using hi)
       rw[show k+(i+1)=k+1+i by omega]
       exact this
    ·intro h i hi
     have:=h (i+1) (by simpa using hi)
     rw[show k+(i+1)=k+1+i by omega] at this
     exact this
   ·rw[if_neg e]
    constructor
    ·intro h;cases h
    ·intro h;exact absurd (h 0 (by simp)) e
theorem inB_nst{xs:List Int}(ys:List Int)(ht:tdy xs 0=true):inB ys (lsL xs 0 []) xs 0=decide (Nst xs ys):=by
 have hp:=ls_right ht
 rw[Bool.eq_iff_iff,inB_all,decide_eq_true_iff]
 have key: ∀u,u<xs.length→(lsL xs 0 []).getD (xs.getD u 0).toNat 0<xs.length∧xs.getD ((lsL xs 0 []).getD (xs.getD u 0).toNat 0) 0=xs.getD u 0:=fun u hu=>by
  obtain⟨a0,a1⟩:=hp.2.2 u hu
  obtain⟨b0,b1,_⟩:=hp.2.1 _ a1
  exact⟨b0,by omega⟩
 constructor
 ·intro h u hu v hv e
  have h1:=h u hu
  have h2:=h v hv
  rw[Nat.zero_add] at h1 h2
  rw[h1,h2,e]
 ·intro h i hi
  rw[Nat.zero_add]
  exact h i hi _ (key i hi).1 (key i hi).2.symm
def mbr(xs:List Int)(q:Int):List Nat:=(List.range xs.length).filter (fun v=>decide (xs.getD v 0=q))
theorem mbL_go(q:Int)(xs:List Int): ∀j k S,k+j=xs.length→mbL q (xs.drop k) k S=S++((List.range' k j).filter (fun v=>decide (xs.getD v 0=q)))
 | 0,k,S,e=>by
   rw[List.drop_eq_nil_of_le (by omega)]
   simp[mbL]
 | j+1,k,S,e=>by
   rw[drop_getI (by omega)]
   show mbL q (xs.drop (k+1)) (k+1) (mbS S k (xs.getD k 0) q)=_
   rw[mbL_go q xs j (k+1) _ (by omega),List.range'_succ,List.filter_cons]
   unfold mbS
   by_cases c:xs.getD k 0=q
   ·rw[if_pos c,if_pos (decide_eq_true c)];simp
   ·rw[if_neg c,if_neg (by simpa using c)]
theorem mbL_eq(q:Int)(xs:List Int):mbL q xs 0 []=mbr xs q:=by
 have h:=mbL_go q xs xs.length 0 [] (by omega)
 rw[List.drop_zero,List.nil_append,←List.range_eq_range'] at h
 exact h
def nxE(N bb:Int)(ys:List Int)(b:Int)(xs:List Int):Int:=
 if ¬(bb<b∧b≤1024) then 1 else if szE N xs≠0 then szE N xs else if wdB (szL xs) b=false then 90 else if ¬Nst ys xs then 110 else 0
theorem nxE_zero{N bb:Int}{ys:List Int}{b:Int}{xs:List Int}(h:nxE N bb ys b xs=0):bb<b∧b≤1024∧(xs.length:Int)=N∧tdy xs 0=true∧wdB (szL xs) b=true∧Nst ys xs:=by
 unfold nxE at h
 split at h
 ·cases h
 ·rename_i h1
  split at h
  ·rename_i h2;exact absurd h h2
  ·rename_i h2
   split at h
   ·cases h
   ·rename_i h3
    split at h
    ·cases h
    ·rename_i h4
     have h2':szE N xs=0:=by simpa using h2
     unfold szE at h2'
     split at h2'
     ·cases h2'
     ·rename_i h5
      have h6: ¬((xs.length:Int)≠N)∧¬tdy xs 0=false:=⟨fun c=>h5 (.inl c),fun c=>h5 (.inr c)⟩
      have h7:bb<b∧b≤1024:=by omega
      exact⟨h7.1,h7.2,by have:=h6.1;omega,by simpa using h6.2,by simpa using h3,by simpa using h4⟩
def lkE(N:Int):List Int→List (List Int)→Nat→Int→List Int→Nat × Int
 | b::bs,xs::cs,k,bb,ys=>if nxE N bb ys b xs≠0 then (k+1,nxE N bb ys b xs) else lkE N bs cs (k+1) b xs
 | _,_,_,_,_=>(0,0)
def lkR(N:Int):List Int→List (List Int)→Int→List Int→Prop
 | b::bs,xs::cs,bb,ys=>nxE N bb ys b xs=0∧lkR N bs cs b xs
 | _,_,_,_=>True
theorem lkE_zero(N:Int): ∀ (bs:List Int) (cs:List (List Int)) (k:Nat) (bb:Int) (ys:List Int),(lkE N bs cs k bb ys).2=0↔lkR N bs cs bb ys
 | [],_,_,_,_=>by simp[lkE,lkR]
 | _::_,[],_,_,_=>by simp[lkE,lkR]
 | b::bs,xs::cs,k,bb,ys=>by
   unfold lkE lkR
   by_cases e:nxE N bb ys b xs≠0
   ·rw[if_pos e]
    exact⟨fun h=>absurd h e,fun h=>absurd h.1 e⟩
   ·rw[if_neg e,lkE_zero N bs cs]
    have:nxE N bb ys b xs=0:=by simpa using e
    exact⟨fun h=>⟨this,h⟩,fun h=>h.2⟩
theorem lkE_at(N:Int): ∀ (bs:List Int) (cs:List (List Int)) (k:Nat) (bb:Int) (ys:List Int),(lkE N bs cs k bb ys).2=0→(lkE N bs cs k bb ys).1=0
 | [],_,_,_,_=>by simp[lkE]
 | _::_,[],_,_,_=>by simp[lkE]
 | b::bs,xs::cs,k,bb,ys=>by
   unfold lkE
   by_cases e:nxE N bb ys b xs≠0
   ·rw[if_pos e]
    exact fun h=>absurd h e
   ·rw[if_neg e]
    exact lkE_at N bs cs _ _ _
def nsE(N:Int)(l:List A)(bs:List Int)(cs:List (List Int)):Int:=
 if chkE N l≠0 then chkE N l else if ¬(1≤bs.length∧bs.length≤5)∨cs.length≠bs.length then 111 else (lkE N bs cs 0 0 []).2
def nsW(N:Int)(l:List A)(bs:List Int)(cs:List (List Int)):Nat:=
 if chkE N l≠0 then 0 else if ¬(1≤bs.length∧bs.length≤5)∨cs.length≠bs.length then 0 else (lkE N bs cs 0 0 []).1
theorem nsW_zero{N:Int}{l:List A}{bs:List Int}{cs:List (List Int)}(h:nsE N l bs cs=0):nsW N l bs cs=0:=by
 unfold nsE at h
 unfold nsW
 split
 ·rfl
 ·rename_i h1
  rw[if_neg h1] at h
  split
  ·rfl
  ·rename_i h2
   rw[if_neg h2] at h
   exact lkE_at _ _ _ _ _ _ h
def NR(N:Int)(l:List A)(bs:List Int)(cs:List (List Int)):Prop:=
 chkE N l=0∧1≤bs.length∧bs.length≤5∧cs.length=bs.length∧lkR N bs cs 0 []
theorem nsE_zero{N:Int}{l:List A}{bs:List Int}{cs:List (List Int)}:nsE N l bs cs=0↔NR N l bs cs:=by
 unfold nsE NR
 constructor
 ·intro h
  split at h
  ·rename_i h1;exact absurd h h1
  ·rename_i h1
   split at h
   ·cases h
   ·rename_i h2
    have h3:(1≤bs.length∧bs.length≤5)∧cs.length=bs.length:=by omega
    exact⟨by omega,h3.1.1,h3.1.2,h3.2,(lkE_zero _ _ _ _ _ _).1 h⟩
 ·rintro⟨h1,h2,h3,h4,h5⟩
  rw[if_neg (by omega),if_neg (by omega)]
  exact(lkE_zero _ _ _ _ _ _).2 h5
def lvl(cs:List (List Int))(k:Nat):List Int:=cs.getD k []
theorem lkR_at{N:Int}: ∀ {bs:List Int} {cs:List (List Int)} {bb:Int} {ys:List Int},lkR N bs cs bb ys→∀k,k<bs.length→k<cs.length→nxE N (if k=0 then bb else bs.getD (k - 1) 0) (if k=0 then ys else lvl cs (k - 1)) (bs.getD k 0) (lvl cs k)=0
 | [],_,_,_,_,k,h,_=>absurd h (by simp)
 | _::_,[],_,_,_,k,_,h=>absurd h (by simp)
 | b::bs,xs::cs,bb,ys,h,k,hk,hc=>by
   obtain⟨h1,h2⟩:=h
   cases k with
   | zero=>exact h1
   | succ k=>
     have ih:=lkR_at h2 k (by simpa using hk) (by simpa using hc)
     rw[if_neg (by omega),if_neg (by omega)]
     cases k with
     | zero=>exact ih
     | succ k=>
       rw[if_neg (by omega),if_neg (by omega)] at ih
       exact ih
theorem NR.lv{N:Int}{l:List A}{bs:List Int}{cs:List (List Int)}(h:NR N l bs cs){k:Nat}(hk:k<bs.length):((lvl cs k).length:Int)=N∧tdy (lvl cs k) 0=true∧wdB (szL (lvl cs k)) (bs.getD k 0)=true∧bs.getD k 0≤1024:=by
 obtain⟨_,_,_,h4,h5⟩:=h
 have:=nxE_zero (lkR_at h5 k hk (by omega))
 exact⟨this.2.2.1,this.2.2.2.1,this.2.2.2.2.1,this.2.1⟩
theorem NR.nst{N:Int}{l:List A}{bs:List Int}{cs:List (List Int)}(h:NR N l bs cs){k:Nat}(hk:k+1<bs.length):Nst (lvl cs k) (lvl cs (k+1)):=by
 obtain⟨_,_,_,h4,h5⟩:=h
 have:=nxE_zero (lkR_at h5 (k+1) hk (by omega))
 rw[if_neg (by omega),if_neg (by omega)] at this
 exact this.2.2.2.2.2
structure K where
 a:Nat
 b:Nat
 n:Nat
deriving DecidableEq
def K.val(k:K):Value:= .agg #[.int .i64 (k.a:Int), .int .i64 (k.b:Int), .int .i64 (k.n:Int)]
theorem two_below(w:World)(o o':Obj):Below w.heap.size w ((w.alloc o).alloc o'):=((Below.refl _ _).alloc (Nat.le_refl _) _).alloc (by simp) _
theorem mostPairs_any(x y:K)(w:World):Calls Tryz.prog 94 #[x.val,y.val] w fun e w'=>e= .returned (.int .i64 (cmpI y.n x.n))∧Below w.heap.size w w':=by
 have HB:=hid (two_below w (Obj.cells #[Value.int IntKind.i64 x.a,Value.int IntKind.i64 x.b,Value.int IntKind.i64 x.n] 128) (Obj.cells #[Value.int IntKind.i64 y.a,Value.int IntKind.i64 y.b,Value.int IntKind.i64 y.n] 128))
 unfold K.val
 go_enter Tryz.func94,Tryz.ntmps94
 go_wp2_with fail
 refine(compare_any y.n x.n _).mono ?_
 rintro e w1 ⟨rfl,rfl⟩
 go_wp2_with fail
 go_ret
 exact⟨rfl,HB.out⟩
theorem leastFirst_any(x y:K)(w:World):Calls Tryz.prog 95 #[x.val,y.val] w fun e w'=>e= .returned (.int .i64 (cmpI x.a y.a))∧Below w.heap.size w w':=by
 have HB:=hid (two_below w (Obj.cells #[Value.int IntKind.i64 x.a,Value.int IntKind.i64 x.b,Value.int IntKind.i64 x.n] 128) (Obj.cells #[Value.int IntKind.i64 y.a,Value.int IntKind.i64 y.b,Value.int IntKind.i64 y.n] 128))
 unfold K.val
 go_enter Tryz.func95,Tryz.ntmps95
 go_wp2_with fail
 refine(compare_any x.a y.a _).mono ?_
 rintro e w1 ⟨rfl,rfl⟩
 go_wp2_with fail
 go_ret
 exact⟨rfl,HB.out⟩
theorem leastSecond_any(x y:K)(w:World):Calls Tryz.prog 96 #[x.val,y.val] w fun e w'=>e= .returned (.int .i64 (cmpI x.b y.b))∧Below w.heap.size w w':=by
 have HB:=hid (two_below w (Obj.cells #[Value.int IntKind.i64 x.a,Value.int IntKind.i64 x.b,Value.int IntKind.i64 x.n] 128) (Obj.cells #[Value.int IntKind.i64 y.a,Value.int IntKind.i64 y.b,Value.int IntKind.i64 y.n] 128))
 unfold K.val
 go_enter Tryz.func96,Tryz.ntmps96
 go_wp2_with fail
 refine(compare_any x.b y.b _).mono ?_
 rintro e w1 ⟨rfl,rfl⟩
 go_wp2_with fail
 go_ret
 exact⟨rfl,HB.out⟩
def K.has(x:K)(lb:Nat):Bool:=decide (lb=x.a)||decide (lb=x.b)
theorem has_any(x:K)(lb:Nat)(w:World):Calls Tryz.prog 152 #[x.val, .int .i64 lb] w fun e w'=>e= .returned (.bool (x.has lb))∧Below w.heap.size w w':=by
 have HB:Hid (Below w.heap.size w (w.alloc (Obj.cells #[Value.int IntKind.i64 x.a,Value.int IntKind.i64 x.b,Value.int IntKind.i64 x.n] 128))):=(Below.refl _ _).alloc (Nat.le_refl _) _
 obtain⟨V,HV⟩:=named (x.has lb)
 rw[HV.out]
 unfold K.val
 by_cases h1:lb=x.a
 ·obtain rfl:V=true:=by rw[←HV.out];simp[K.has,h1]
  have h1':(lb:Int)=(x.a:Int):=by omega
  clear h1
  go_enter Tryz.func152,Tryz.ntmps152
  go_wp2_with fail
  go_ret
  exact⟨rfl,HB.out⟩
 ·have h1':((lb:Int)==(x.a:Int))=false:=by simp;omega
  by_cases h2:lb=x.b
  ·obtain rfl:V=true:=by rw[←HV.out];simp[K.has,h2]
   have h2':((lb:Int)==(x.b:Int))=true:=by simp;omega
   clear h1 h2
   go_enter Tryz.func152,Tryz.ntmps152
   go_wp2_with fail
   go_ret
   exact⟨rfl,HB.out⟩
  ·obtain rfl:V=false:=by rw[←HV.out];simp[K.has,h1,h2]
   have h2':((lb:Int)==(x.b:Int))=false:=by simp;omega
   clear h1 h2
   go_enter Tryz.func152,Tryz.ntmps152
   go_wp2_with fail
   go_ret
   exact⟨rfl,HB.out⟩
def told(x y:K):Nat→Int
 | 0=>cmpI y.n x.n
 | 1=>cmpI x.a y.a
 | _=>cmpI x.b y.b
def lexK(x y:K):Int:=if told x y 0≠0 then told x y 0 else if told x y 1≠0 then told x y 1 else told x y 2
def ruleV(k:Nat):Value:= .func (.func (94+k)) #[] #[]
theorem lex_at{x y:K}{k:Nat}(hk:k<3)(h: ∀j,j<k→told x y j=0)(h2:told x y k≠0):lexK x y=told x y k:=by
 unfold lexK
 match k,hk with
 | 0,_=>rw[if_pos h2]
 | 1,_=>rw[if_neg (by simp[h 0 (by omega)]),if_pos h2]
 | 2,_=>rw[if_neg (by simp[h 0 (by omega)]),if_neg (by simp[h 1 (by omega)])]
theorem lex_end{x y:K}(h: ∀j,j<3→told x y j=0):lexK x y=0:=by
 unfold lexK
 rw[if_neg (by simp[h 0 (by omega)]),if_neg (by simp[h 1 (by omega)])]
 exact h 2 (by omega)
set_option maxHeartbeats 1600000 in
theorem choose1_any(x y:K)(cb rb:Nat)(w:World)(hc:w.cell? ⟨cb,0,none⟩=some (.slice (some ⟨rb,0,none⟩) 3 3))(hcl:cb<w.heap.size)(hrl:rb<w.heap.size)(hr: ∀k,k<3→w.cell? ⟨rb,k,none⟩=some (ruleV k)):
  Calls Tryz.prog 127 #[x.val,y.val, .pointer (some ⟨cb,0,none⟩)] w fun e w'=>e= .returned (.int .i64 (lexK x y))∧Below w.heap.size w w':=by
 have HB0:=hid (two_below w (Obj.cells #[Value.int IntKind.i64 x.a,Value.int IntKind.i64 x.b,Value.int IntKind.i64 x.n] 128) (Obj.cells #[Value.int IntKind.i64 y.a,Value.int IntKind.i64 y.b,Value.int IntKind.i64 y.n] 128))
 have hg2:((w.alloc (Obj.cells #[Value.int IntKind.i64 x.a,Value.int IntKind.i64 x.b,Value.int IntKind.i64 x.n] 128)).alloc (Obj.cells #[Value.int IntKind.i64 y.a,Value.int IntKind.i64 y.b,Value.int IntKind.i64 y.n] 128)).heap[w.heap.size+1]? =some (Obj.cells #[Value.int IntKind.i64 y.a,Value.int IntKind.i64 y.b,Value.int IntKind.i64 y.n] 128):=by
  have h:=heap_top (w.alloc (Obj.cells #[Value.int IntKind.i64 x.a,Value.int IntKind.i64 x.b,Value.int IntKind.i64 x.n] 128)) (Obj.cells #[Value.int IntKind.i64 y.a,Value.int IntKind.i64 y.b,Value.int IntKind.i64 y.n] 128)
  rw[World.size_alloc] at h
  exact h
 have hg1:((w.alloc (Obj.cells #[Value.int IntKind.i64 x.a,Value.int IntKind.i64 x.b,Value.int IntKind.i64 x.n] 128)).alloc (Obj.cells #[Value.int IntKind.i64 y.a,Value.int IntKind.i64 y.b,Value.int IntKind.i64 y.n] 128)).heap[w.heap.size]? =some (Obj.cells #[Value.int IntKind.i64 x.a,Value.int IntKind.i64 x.b,Value.int IntKind.i64 x.n] 128):=(Below.heap_alloc _ _ _ (by simp)).trans (heap_top w _)
 have hc2:=(HB0.out.cell (p:=⟨cb,0,none⟩) hcl).trans hc
 have HRU:=hid hr
 obtain⟨X,HX⟩:=named (lexK x y)
 rw[HX.out]
 have HXV:Hid (x.val= .agg #[.int .i64 (x.a:Int), .int .i64 (x.b:Int), .int .i64 (x.n:Int)]):=rfl
 have HYV:Hid (y.val= .agg #[.int .i64 (y.a:Int), .int .i64 (y.b:Int), .int .i64 (y.n:Int)]):=rfl
 rw[HXV.out,HYV.out]
 have HG1:=hid hg1
 have HG2:=hid hg2
 clear hg1 hg2 hr hc
 generalize hp:w.heap.size=p at*
 go_enter Tryz.func127,Tryz.ntmps127
 go_wp2_with fail
 generalize hW:(w.alloc (Obj.cells #[Value.int IntKind.i64 x.a,Value.int IntKind.i64 x.b,Value.int IntKind.i64 x.n] 128)).alloc (Obj.cells #[Value.int IntKind.i64 y.a,Value.int IntKind.i64 y.b,Value.int IntKind.i64 y.n] 128)=W at*
 clear hW hc2
 have hWp:p+1<W.heap.size:=lt_of_block HG2.out
 go_loopw [11] (fun i wr=> ∃k:Nat,k≤3∧i= .int .i64 k∧Hid (∀j,j<k→told x y j=0)∧Hid (Below W.heap.size W wr)) (fun i _=>3 - (intOf i).toNat)
 case atStart=>exact⟨0,by omega,rfl,fun j hj=>by omega,Below.refl _ _⟩
 case round=>
  obtain⟨k,hk,rfl,HJ,HBR⟩:=hrel
  have HBP:Hid (Below p w wr):=HB0.out.trans (HBR.out.mono (by omega))
  by_cases hlk:k<3
  ·have hwr:W.heap.size≤wr.heap.size:=HBR.out.size
   obtain⟨x0,x1,x2⟩:=three_cells ((HBR.out.block p (by omega)).trans HG1.out)
   obtain⟨z0,z1,z2⟩:=three_cells ((HBR.out.block (p+1) (by omega)).trans HG2.out)
   obtain rfl | rfl | rfl:k=0∨k=1∨k=2:=by omega
   ·have y0:wr.cell? ⟨rb,0,none⟩=some (.func (.func 94) #[] #[]):=(HBP.out.cell (p:=⟨rb,0,none⟩) hrl).trans (HRU.out 0 hlk)
    have HRL:=hid (mostPairs_any x y wr)
    have HT:Hid (told x y 0=cmpI y.n x.n):=rfl
    rw[HXV.out,HYV.out,←HT.out] at HRL
    have HLX:=hid (fun h=>lex_at (x:=x) (y:=y) (k:=0) hlk HJ.out h)
    have HJ2:Hid (told x y 0=0→∀j,j<0+1→told x y j=0):=fun h j hj=>by
     by_cases e:j=0
     ·rw[e];exact h
     ·exact HJ.out j (by omega)
    obtain⟨V,HV⟩:=named (told x y 0)
    rw[HV.out] at HRL HLX HJ2
    clear hlk hk
    by_cases hV:V=0
    ·subst hV
     have HJ3:=hid (HJ2.out rfl)
     clear HJ2
     go_wp2_with (go_at_call 94;refine HRL.out.mono ?_;rintro e w2 ⟨rfl,hb2⟩;have HB2:Hid (Below W.heap.size W w2):=HBR.out.trans (hb2.mono hwr);have HP2:Hid (Below p w w2):=HBP.out.trans (hb2.mono (by omega));clear hb2 x0 x1 x2 z0 z1 z2 y0)
     exact⟨⟨0+1,by omega,by simp,HJ3,HB2⟩,by simp[intOf]⟩
    ·have hV':(V != 0)=true:=by simpa using hV
     obtain rfl:X=V:=by rw[←HX.out];exact HLX.out hV
     clear hV
     go_wp2_with (go_at_call 94;refine HRL.out.mono ?_;rintro e w2 ⟨rfl,hb2⟩;have HB2:Hid (Below W.heap.size W w2):=HBR.out.trans (hb2.mono hwr);have HP2:Hid (Below p w w2):=HBP.out.trans (hb2.mono (by omega));clear hb2 x0 x1 x2 z0 z1 z2 y0)
     go_ret
     exact⟨rfl,HP2.out⟩
   ·have y0:wr.cell? ⟨rb,1,none⟩=some (.func (.func 95) #[] #[]):=(HBP.out.cell (p:=⟨rb,1,none⟩) hrl).trans (HRU.out 1 hlk)
    have HRL:=hid (leastFirst_any x y wr)
    have HT:Hid (told x y 1=cmpI x.a y.a):=rfl
    rw[HXV.out,HYV.out,←HT.out] at HRL
    have HLX:=hid (fun h=>lex_at (x:=x) (y:=y) (k:=1) hlk HJ.out h)
    have HJ2:Hid (told x y 1=0→∀j,j<1+1→told x y j=0):=fun h j hj=>by
     by_cases e:j=1
     ·rw[e];exact h
     ·exact HJ.out j (by omega)
    obtain⟨V,HV⟩:=named (told x y 1)
    rw[HV.out] at HRL HLX HJ2
    clear hlk hk
    by_cases hV:V=0
    ·subst hV
     have HJ3:=hid (HJ2.out rfl)
     clear HJ2
     go_wp2_with (go_at_call 95;refine HRL.out.mono ?_;rintro e w2 ⟨rfl,hb2⟩;have HB2:Hid (Below W.heap.size W w2):=HBR.out.trans (hb2.mono hwr);have HP2:Hid (Below p w w2):=HBP.out.trans (hb2.mono (by omega));clear hb2 x0 x1 x2 z0 z1 z2 y0)
     exact⟨⟨1+1,by omega,by simp,HJ3,HB2⟩,by simp[intOf]⟩
    ·have hV':(V != 0)=true:=by simpa using hV
     obtain rfl:X=V:=by rw[←HX.out];exact HLX.out hV
     clear hV
     go_wp2_with (go_at_call 95;refine HRL.out.mono ?_;rintro e w2 ⟨rfl,hb2⟩;have HB2:Hid (Below W.heap.size W w2):=HBR.out.trans (hb2.mono hwr);have HP2:Hid (Below p w w2):=HBP.out.trans (hb2.mono (by omega));clear hb2 x0 x1 x2 z0 z1 z2 y0)
     go_ret
     exact⟨rfl,HP2.out⟩
   ·have y0:wr.cell? ⟨rb,2,none⟩=some (.func (.func 96) #[] #[]):=(HBP.out.cell (p:=⟨rb,2,none⟩) hrl).trans (HRU.out 2 hlk)
    have HRL:=hid (leastSecond_any x y wr)
    have HT:Hid (told x y 2=cmpI x.b y.b):=rfl
    rw[HXV.out,HYV.out,←HT.out] at HRL
    have HLX:=hid (fun h=>lex_at (x:=x) (y:=y) (k:=2) hlk HJ.out h)
    have HJ2:Hid (told x y 2=0→∀j,j<2+1→told x y j=0):=fun h j hj=>by
     by_cases e:j=2
     ·rw[e];exact h
     ·exact HJ.out j (by omega)
    obtain⟨V,HV⟩:=named (told x y 2)
    rw[HV.out] at HRL HLX HJ2
    clear hlk hk
    by_cases hV:V=0
    ·subst hV
     have HJ3:=hid (HJ2.out rfl)
     clear HJ2
     go_wp2_with (go_at_call 96;refine HRL.out.mono ?_;rintro e w2 ⟨rfl,hb2⟩;have HB2:Hid (Below W.heap.size W w2):=HBR.out.trans (hb2.mono hwr);have HP2:Hid (Below p w w2):=HBP.out.trans (hb2.mono (by omega));clear hb2 x0 x1 x2 z0 z1 z2 y0)
     exact⟨⟨2+1,by omega,by simp,HJ3,HB2⟩,by simp[intOf]⟩
    ·have hV':(V != 0)=true:=by simpa using hV
     obtain rfl:X=V:=by rw[←HX.out];exact HLX.out hV
     clear hV
     go_wp2_with (go_at_call 96;refine HRL.out.mono ?_;rintro e w2 ⟨rfl,hb2⟩;have HB2:Hid (Below W.heap.size W w2):=HBR.out.trans (hb2.mono hwr);have HP2:Hid (Below p w w2):=HBP.out.trans (hb2.mono (by omega));clear hb2 x0 x1 x2 z0 z1 z2 y0)
     go_ret
     exact⟨rfl,HP2.out⟩
  ·obtain rfl:k=3:=by omega
   obtain rfl:X=0:=by rw[←HX.out];exact lex_end HJ.out
   go_wp2_with fail
   go_ret
   exact⟨rfl,HBP.out⟩
def K.at(x:K)(w:World)(b o:Nat):Prop:=
 w.cell? ⟨b,o,none⟩=some (.int .i64 (x.a:Int))∧w.cell? ⟨b,o+1,none⟩=some (.int .i64 (x.b:Int))∧w.cell? ⟨b,o+2,none⟩=some (.int .i64 (x.n:Int))
def K.zero:K:=⟨0,0,0⟩
def pickK(l:List K):Nat→K
 | 0=>l.getD 0 K.zero
 | i+1=>if lexK (l.getD (i+1) K.zero) (pickK l i)<0 then l.getD (i+1) K.zero else pickK l i
def K.obj(x:K):Obj:= .cells #[.int .i64 (x.a:Int), .int .i64 (x.b:Int), .int .i64 (x.n:Int)] 128
theorem three_set{w:World}{b:Nat}{u0 u1 u2:Value}{t:TypeId}(h:w.heap[b]? =some (.cells #[u0,u1,u2] t))(x y z:Value):(((w.setCell ⟨b,0,none⟩ x).setCell ⟨b,1,none⟩ y).setCell ⟨b,2,none⟩ z).heap[b]? =some (.cells #[x,y,z] t):=by
 have h1:=heap_setCell_same w b 0 _ _ x h
 have h2:=heap_setCell_same _ b 1 _ _ y h1
 exact(heap_setCell_same _ b 2 _ _ z h2).trans (by simp)
theorem three_far(w:World)(b k:Nat)(hk:k≠b)(x y z:Value):(((w.setCell ⟨b,0,none⟩ x).setCell ⟨b,1,none⟩ y).setCell ⟨b,2,none⟩ z).heap[k]? =w.heap[k]? :=
 (Below.heap_setCell _ _ _ k hk).trans ((Below.heap_setCell _ _ _ k hk).trans (Below.heap_setCell _ _ _ k hk))
theorem three_below{n b:Nat}{w w':World}(h:Below n w w')(hb:n≤b)(x y z:Value):Below n w (((w'.setCell ⟨b,0,none⟩ x).setCell ⟨b,1,none⟩ y).setCell ⟨b,2,none⟩ z):=((h.setCell hb _).setCell hb _).setCell hb _
set_option maxHeartbeats 1600000 in
theorem minF_any(lb c cb rb:Nat)(l:List K)(w:World)(hn:0<l.length)(hm:l.length≤1000000)(hlb:lb<w.heap.size)(hl: ∀j,j<l.length→(l.getD j K.zero).at w lb (j*3))(hc:w.cell? ⟨cb,0,none⟩=some (.slice (some ⟨rb,0,none⟩) 3 3))(hcl:cb<w.heap.size)(hrl:rb<w.heap.size)(hr: ∀k,k<3→w.cell? ⟨rb,k,none⟩=some (ruleV k)):
  Calls Tryz.prog 126 #[.slice (some ⟨lb,0,none⟩) l.length c, .func (.func 127) #[] #[.pointer (some ⟨cb,0,none⟩)]] w fun e w'=>e= .returned (pickK l (l.length - 1)).val∧Below w.heap.size w w':=by
 obtain⟨R,HR⟩:=named (pickK l (l.length - 1))
 rw[HR.out]
 have HL:=hid hl
 have hn1: ¬(l.length:Int)<1:=by omega
 have hn2:(0:Int)<l.length:=by omega
 obtain⟨f0,f1,f2⟩:=hl 0 hn
 simp only[Nat.zero_mul] at f0 f1 f2
 have HP0:Hid (pickK l 0=l.getD 0 K.zero):=rfl
 generalize l.getD 0 K.zero=m at f0 f1 f2 HP0
 generalize hp:w.heap.size=p at*
 go_enter Tryz.func126,Tryz.ntmps126
 go_wp2_with fail
 have HB0:Hid (Below p w ((w.alloc (Obj.cells #[Value.int IntKind.i64 0,Value.int IntKind.i64 0,Value.int IntKind.i64 0] 128)).alloc (Obj.cells #[Value.int IntKind.i64 m.a,Value.int IntKind.i64 m.b,Value.int IntKind.i64 m.n] 128))):=hp▸two_below w _ _
 have HG1:Hid (((w.alloc (Obj.cells #[Value.int IntKind.i64 0,Value.int IntKind.i64 0,Value.int IntKind.i64 0] 128)).alloc (Obj.cells #[Value.int IntKind.i64 m.a,Value.int IntKind.i64 m.b,Value.int IntKind.i64 m.n] 128)).heap[p+1]? =some (Obj.cells #[Value.int IntKind.i64 m.a,Value.int IntKind.i64 m.b,Value.int IntKind.i64 m.n] 128)):=by
  have h:=heap_top (w.alloc (Obj.cells #[Value.int IntKind.i64 0,Value.int IntKind.i64 0,Value.int IntKind.i64 0] 128)) (Obj.cells #[Value.int IntKind.i64 m.a,Value.int IntKind.i64 m.b,Value.int IntKind.i64 m.n] 128)
  rw[World.size_alloc,hp] at h
  exact h
 have HG0:Hid (((w.alloc (Obj.cells #[Value.int IntKind.i64 0,Value.int IntKind.i64 0,Value.int IntKind.i64 0] 128)).alloc (Obj.cells #[Value.int IntKind.i64 m.a,Value.int IntKind.i64 m.b,Value.int IntKind.i64 m.n] 128)).heap[p]? =some (Obj.cells #[Value.int IntKind.i64 0,Value.int IntKind.i64 0,Value.int IntKind.i64 0] 128)):=(Below.heap_alloc _ _ _ (by simp[hp])).trans (by have h:=heap_top w (Obj.cells #[Value.int IntKind.i64 0,Value.int IntKind.i64 0,Value.int IntKind.i64 0] 128);rw[hp] at h;exact h)
 generalize hW:(w.alloc (Obj.cells #[Value.int IntKind.i64 0,Value.int IntKind.i64 0,Value.int IntKind.i64 0] 128)).alloc (Obj.cells #[Value.int IntKind.i64 m.a,Value.int IntKind.i64 m.b,Value.int IntKind.i64 m.n] 128)=W at*
 clear hW f0 f1 f2
 have HC0:=hid hc
 have HRU:=hid hr
 clear hc hr hl
 go_loopw [6] (fun i wr=> ∃ (k:Nat) (y:K),k<l.length∧i= .int .i64 ((k:Int)+1)∧Hid (pickK l k=y)∧Hid (wr.heap[p+1]? =some y.obj)∧Hid (wr.heap[p]? =some (Obj.cells #[Value.int IntKind.i64 0,Value.int IntKind.i64 0,Value.int IntKind.i64 0] 128))∧Hid (Below p w wr)) (fun i _=>l.length - (intOf i).toNat)
 case atStart=>exact⟨0,m,hn,rfl,HP0,HG1,HG0,HB0⟩
 case round=>
  obtain⟨k,y,hk,rfl,HY,HG,HGp,HBR⟩:=hrel
  obtain⟨z0,z1,z2⟩:=three_cells HG.out
  by_cases hlk:k+1<l.length
  ·have hlk':(k:Int)+1<l.length:=by omega
   obtain⟨x0,x1,x2⟩:=HL.out (k+1) hlk
   have y0:=(HBR.out.cell (p:=⟨lb,(k+1)*3,none⟩) hlb).trans x0
   have y1:=(HBR.out.cell (p:=⟨lb,(k+1)*3+1,none⟩) hlb).trans x1
   have y2:=(HBR.out.cell (p:=⟨lb,(k+1)*3+2,none⟩) hlb).trans x2
   obtain⟨x,HX⟩:=named (l.getD (k+1) K.zero)
   rw[HX.out] at y0 y1 y2 x0 x1 x2
   have X0:=hid x0
   have X1:=hid x1
   have X2:=hid x2
   have e1:((k:Int)+1).toNat=k+1:=by omega
   have e2:(0:Int)≤(k:Int)+1:=by omega
   clear x0 x1 x2
   have HCH:Hid (∀W2:World,Below p w W2→W2.heap=wr.heap→Calls Tryz.prog 127 #[x.val,y.val, .pointer (some ⟨cb,0,none⟩)] W2 fun e w'=>e= .returned (.int .i64 (lexK x y))∧Below p w w'∧w'.heap[p+1]? =some y.obj∧w'.heap[p]? =some (Obj.cells #[Value.int IntKind.i64 0,Value.int IntKind.i64 0,Value.int IntKind.i64 0] 128)):=fun W2 hb he=>by
    have hsz:p+1<W2.heap.size:=by rw[he];exact lt_of_block HG.out
    refine(choose1_any x y cb rb W2 ((hb.cell (p:=⟨cb,0,none⟩) hcl).trans HC0.out) (by omega) (by omega) (fun j hj=>(hb.cell (p:=⟨rb,j,none⟩) hrl).trans (HRU.out j hj))).mono ?_
    rintro e w' ⟨rfl,h⟩
    refine⟨rfl,hb.trans (h.mono (by omega)),(h.block (p+1) hsz).trans ?_,(h.block p (by omega)).trans ?_⟩
    ·rw[he];exact HG.out
    ·rw[he];exact HGp.out
   obtain⟨V,HV⟩:=named (lexK x y)
   have HXV:Hid (x.val= .agg #[.int .i64 (x.a:Int), .int .i64 (x.b:Int), .int .i64 (x.n:Int)]):=rfl
   have HYV:Hid (y.val= .agg #[.int .i64 (y.a:Int), .int .i64 (y.b:Int), .int .i64 (y.n:Int)]):=rfl
   rw[HV.out,HXV.out,HYV.out] at HCH
   have HSK:Hid (pickK l (k+1)=if V<0 then x else y):=by show _=_;rw[←HV.out,←HX.out,←HY.out];rfl
   go_wp2_with fail
   by_cases hV:V<0
   ·go_region_held3 (fun w'=>w'.cell? ⟨lb,(k+1)*3,none⟩=some (.int .i64 (x.a:Int))∧w'.cell? ⟨lb,(k+1)*3+1,none⟩=some (.int .i64 (x.b:Int))∧w'.cell? ⟨lb,(k+1)*3+2,none⟩=some (.int .i64 (x.n:Int))∧w'.cell? ⟨p+1,0,none⟩=some (.int .i64 (y.a:Int))∧w'.cell? ⟨p+1,1,none⟩=some (.int .i64 (y.b:Int))∧w'.cell? ⟨p+1,2,none⟩=some (.int .i64 (y.n:Int))) (go_keep) ((go_at_call 127;refine(HCH.out _ HBR.out.drew rfl).mono ?_;rintro e w2 ⟨rfl,hb2,hg2,hgp2⟩;obtain⟨v3,v4,v5⟩:=three_cells hg2;have v0:=(hb2.cell (p:=⟨lb,(k+1)*3,none⟩) hlb).trans X0.out;have v1:=(hb2.cell (p:=⟨lb,(k+1)*3+1,none⟩) hlb).trans X1.out;have v2:=(hb2.cell (p:=⟨lb,(k+1)*3+2,none⟩) hlb).trans X2.out))
    have HB2:=hid hb2
    have HG2:=hid hg2
    have HGp2:=hid hgp2
    have q0:w2.frozen? ⟨p+1,0,none⟩=false:=by simp[World.frozen?,hg2,K.obj]
    have q1:w2.frozen? ⟨p+1,1,none⟩=false:=by simp[World.frozen?,hg2,K.obj]
    have q2:w2.frozen? ⟨p+1,2,none⟩=false:=by simp[World.frozen?,hg2,K.obj]
    clear hb2 hg2 hgp2 y0 y1 y2 z0 z1 z2
    rw[if_pos hV] at HSK
    go_wp2_with fail
    exact⟨⟨k+1,x,hlk,by simp,HSK,three_set HG2.out _ _ _,(three_far w2 (p+1) p (by omega) _ _ _).trans HGp2.out,three_below HB2.out (by omega) _ _ _⟩,by simp[intOf];omega⟩
   ·go_region_held3 (fun w'=>w'.cell? ⟨lb,(k+1)*3,none⟩=some (.int .i64 (x.a:Int))∧w'.cell? ⟨lb,(k+1)*3+1,none⟩=some (.int .i64 (x.b:Int))∧w'.cell? ⟨lb,(k+1)*3+2,none⟩=some (.int .i64 (x.n:Int))∧w'.cell? ⟨p+1,0,none⟩=some (.int .i64 (y.a:Int))∧w'.cell? ⟨p+1,1,none⟩=some (.int .i64 (y.b:Int))∧w'.cell? ⟨p+1,2,none⟩=some (.int .i64 (y.n:Int))) (go_keep) ((go_at_call 127;refine(HCH.out _ HBR.out.drew rfl).mono ?_;rintro e w2 ⟨rfl,hb2,hg2,hgp2⟩;obtain⟨v3,v4,v5⟩:=three_cells hg2;have v0:=(hb2.cell (p:=⟨lb,(k+1)*3,none⟩) hlb).trans X0.out;have v1:=(hb2.cell (p:=⟨lb,(k+1)*3+1,none⟩) hlb).trans X1.out;have v2:=(hb2.cell (p:=⟨lb,(k+1)*3+2,none⟩) hlb).trans X2.out))
    have HB2:=hid hb2
    have HG2:=hid hg2
    have HGp2:=hid hgp2
    clear hb2 hg2 hgp2 y0 y1 y2 z0 z1 z2
    rw[if_neg (by omega)] at HSK
    go_wp2_with fail
    exact⟨⟨k+1,y,hlk,by simp,HSK,HG2,HGp2,HB2⟩,by simp[intOf];omega⟩
  ·have hlk': ¬(k:Int)+1<l.length:=by omega
   obtain rfl:R=y:=by rw[←HR.out,←HY.out];congr 1;omega
   have q0:wr.frozen? ⟨p,0,none⟩=false:=by simp[World.frozen?,HGp.out]
   have q1:wr.frozen? ⟨p,1,none⟩=false:=by simp[World.frozen?,HGp.out]
   have q2:wr.frozen? ⟨p,2,none⟩=false:=by simp[World.frozen?,HGp.out]
   obtain⟨r0,r1,r2⟩:=three_cells HGp.out
   have HGE:=hid (three_set HGp.out (.int .i64 (R.a:Int)) (.int .i64 (R.b:Int)) (.int .i64 (R.n:Int)))
   have HBE:=hid (three_below HBR.out (Nat.le_refl p) (.int .i64 (R.a:Int)) (.int .i64 (R.b:Int)) (.int .i64 (R.n:Int)))
   go_wp2_with fail
   generalize hU:((wr.setCell ⟨p,0,none⟩ (Value.int IntKind.i64 R.a)).setCell ⟨p,1,none⟩ (Value.int IntKind.i64 R.b)).setCell ⟨p,2,none⟩ (Value.int IntKind.i64 R.n)=U at*
   clear hU q0 q1 q2 r0 r1 r2 z0 z1 z2
   try simp only[Exit.inBlock,Exit.then]
   refine bodyPost_ret (results_cell_row (P:=Tryz.prog) rfl _ _ p 128 _ _ _ rfl HGE.out Tryz.underlying128 rfl (by kernel_rfl)) rfl ?_
   exact⟨rfl,HBE.out⟩
end Go.Proofs.YtmenajiceaicpaaGreat
