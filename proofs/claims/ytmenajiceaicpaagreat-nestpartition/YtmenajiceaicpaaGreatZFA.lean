import Derived.Test.YtmenajiceaicpaaGreatChecked
import Derived.Lib.Hide
import Derived.WalkKit
import Derived.BigCall
import Derived.BigQuiet
set_option maxRecDepth 100000
namespace Go.Proofs.YtmenajiceaicpaaGreat.F6
structure Ed where
 f:Nat
 t:Nat
 c:Int
def Ed.zero:Ed:=⟨0,0,0⟩
def ed(E:List Ed)(k:Nat):Ed:=E.getD k Ed.zero
def sumV(g:Nat→Int):Nat→Int
 | 0=>0
 | n+1=>sumV g n+g n
theorem sumV_congr{g h:Nat→Int}: ∀n,(∀v,v<n→g v=h v)→sumV g n=sumV h n:=by
 intro n
 induction n with
 | zero=>intro _;rfl
 | succ n ih=>intro e;simp only[sumV];rw[ih (fun v hv=>e v (by omega)),e n (by omega)]
theorem sumV_zero(n:Nat):sumV (fun _=>0) n=0:=by
 induction n with
 | zero=>rfl
 | succ n ih=>simp[sumV,ih]
theorem sumV_add(g h:Nat→Int)(n:Nat):sumV (fun v=>g v+h v) n=sumV g n+sumV h n:=by
 induction n with
 | zero=>rfl
 | succ n ih=>simp only[sumV];rw[ih];omega
theorem sumV_sub(g h:Nat→Int)(n:Nat):sumV (fun v=>g v - h v) n=sumV g n - sumV h n:=by
 induction n with
 | zero=>rfl
 | succ n ih=>simp only[sumV];rw[ih];omega
theorem sumV_only(g:Nat→Int)(s:Nat): ∀n,s<n→(∀v,v<n→v≠s→g v=0)→sumV g n=g s:=by
 intro n
 induction n with
 | zero=>intro h;omega
 | succ n ih=>
   intro h e
   simp only[sumV]
   by_cases hs:s=n
   ·subst hs
    rw[sumV_congr s (h:=fun _=>0) (fun v hv=>e v (by omega) (by omega)),sumV_zero];omega
   ·rw[ih (by omega) (fun v hv hne=>e v (by omega) hne),e n (by omega) (fun h=>hs h.symm)];omega
def net(E:List Ed)(fl:Nat→Int)(v:Nat):Nat→Int
 | 0=>0
 | k+1=>net E fl v k+(if (ed E k).f=v then fl k else 0) - (if (ed E k).t=v then fl k else 0)
def acr(E:List Ed)(fl:Nat→Int)(R:Nat→Bool):Nat→Int
 | 0=>0
 | k+1=>acr E fl R k+(if R (ed E k).f=true then fl k else 0) - (if R (ed E k).t=true then fl k else 0)
def capK(E:List Ed)(R:Nat→Bool):Nat→Int
 | 0=>0
 | k+1=>capK E R k+(if R (ed E k).f=true∧R (ed E k).t=false then (ed E k).c else 0)
theorem sumV_at(R:Nat→Bool)(f:Nat)(x:Int)(n:Nat)(hf:f<n):sumV (fun v=>if R v=true then (if f=v then x else 0) else 0) n=if R f=true then x else 0:=by
 rw[sumV_only _ f n hf (fun v _ hne=>by
  by_cases e:R v=true
  ·rw[if_pos e,if_neg (fun h=>hne h.symm)]
  ·rw[if_neg e])]
 simp
theorem sumV_net(E:List Ed)(fl:Nat→Int)(R:Nat→Bool)(n:Nat): ∀k,(∀j,j<k→(ed E j).f<n∧(ed E j).t<n)→sumV (fun v=>if R v=true then net E fl v k else 0) n=acr E fl R k:=by
 intro k
 induction k with
 | zero=>
   intro _
   rw[sumV_congr n (h:=fun _=>0) (fun v _=>by simp[net]),sumV_zero];rfl
 | succ k ih=>
   intro h
   have h1:=ih (fun j hj=>h j (by omega))
   have h2:=h k (by omega)
   have e: ∀v,v<n→(if R v=true then net E fl v (k+1) else 0)=((if R v=true then net E fl v k else 0)+(if R v=true then (if (ed E k).f=v then fl k else 0) else 0)) - (if R v=true then (if (ed E k).t=v then fl k else 0) else 0):=by
    intro v _
    by_cases hv:R v=true
    ·simp[hv,net]
    ·simp[hv]
   rw[sumV_congr n e,sumV_sub,sumV_add,h1,sumV_at R _ _ n h2.1,sumV_at R _ _ n h2.2]
   rfl
structure RN(n:Nat)(E:List Ed):Prop where
 n1:1≤n
 nb:n≤1024
 lb:E.length≤16384
 ends: ∀j,j<E.length→(ed E j).f<n∧(ed E j).t<n
 cap: ∀j,j<E.length→0≤(ed E j).c∧(ed E j).c<4294967296
structure Flow(n:Nat)(E:List Ed)(s t:Nat)(fl:Nat→Int):Prop where
 lo: ∀j,j<E.length→0≤fl j
 hi: ∀j,j<E.length→fl j≤(ed E j).c
 mid: ∀v,v<n→v≠s→v≠t→net E fl v E.length=0
theorem Flow.across{n:Nat}{E:List Ed}{s t:Nat}{fl:Nat→Int}(h:Flow n E s t fl)(g:RN n E){R:Nat→Bool}(hs:s<n)(rs:R s=true)(rt:R t=false):net E fl s E.length=acr E fl R E.length:=by
 rw[←sumV_net E fl R n E.length (fun j hj=>g.ends j hj),sumV_only _ s n hs (fun v hv hne=> ?_)]
 ·simp[rs]
 ·by_cases e:R v=true
  ·rw[if_pos e]
   exact h.mid v hv hne (fun h=>by rw[h,rt] at e;cases e)
  ·rw[if_neg e]
theorem acr_le{E:List Ed}{fl:Nat→Int}{R:Nat→Bool}: ∀k,(∀j,j<k→0≤fl j∧fl j≤(ed E j).c)→acr E fl R k≤capK E R k:=by
 intro k
 induction k with
 | zero=>intro _;exact Int.le_refl _
 | succ k ih=>
   intro h
   have h1:=ih (fun j hj=>h j (by omega))
   have h2:=h k (by omega)
   simp only[acr,capK]
   cases e1:R (ed E k).f <;> cases e2:R (ed E k).t <;> simp <;> omega
def Full(E:List Ed)(fl:Nat→Int)(R:Nat→Bool)(k:Nat):Prop:= ∀j,j<k→(R (ed E j).f=true→R (ed E j).t=false→fl j=(ed E j).c)∧(R (ed E j).f=false→R (ed E j).t=true→fl j=0)
theorem full_eq{E:List Ed}{fl:Nat→Int}{R:Nat→Bool}: ∀k,Full E fl R k→acr E fl R k=capK E R k:=by
 intro k
 induction k with
 | zero=>intro _;rfl
 | succ k ih=>
   intro h
   have h1:=ih (fun j hj=>h j (by omega))
   have h2:=h k (by omega)
   simp only[acr,capK]
   cases e1:R (ed E k).f <;> cases e2:R (ed E k).t <;> simp
   ·omega
   ·have:=h2.2 e1 e2;omega
   ·have:=h2.1 e1 e2;omega
   ·omega
theorem eq_full{E:List Ed}{fl:Nat→Int}{R:Nat→Bool}: ∀k,(∀j,j<k→0≤fl j∧fl j≤(ed E j).c)→acr E fl R k=capK E R k→Full E fl R k:=by
 intro k
 induction k with
 | zero=>intro _ _ j hj;omega
 | succ k ih=>
   intro h e
   have h1:=acr_le (E:=E) (R:=R) k (fun j hj=>h j (by omega))
   have h2:=h k (by omega)
   simp only[acr,capK] at e
   have key:acr E fl R k=capK E R k∧((R (ed E k).f=true→R (ed E k).t=false→fl k=(ed E k).c)∧(R (ed E k).f=false→R (ed E k).t=true→fl k=0)):=by
    cases e1:R (ed E k).f <;> cases e2:R (ed E k).t <;> simp[e1,e2] at e ⊢ <;> omega
   intro j hj
   by_cases hjk:j=k
   ·subst hjk;exact key.2
   ·exact ih (fun j hj=>h j (by omega)) key.1 j (by omega)
structure Ended(n:Nat)(E:List Ed)(s t:Nat)(fl:Nat→Int)(R:Nat→Bool):Prop where
 fw:Flow n E s t fl
 rs:R s=true
 rt:R t=false
 full:Full E fl R E.length
theorem Ended.value{n:Nat}{E:List Ed}{s t:Nat}{fl:Nat→Int}{R:Nat→Bool}(h:Ended n E s t fl R)(g:RN n E)(hs:s<n):net E fl s E.length=capK E R E.length:=
 (h.fw.across g hs h.rs h.rt).trans (full_eq _ h.full)
theorem Flow.le_cut{n:Nat}{E:List Ed}{s t:Nat}{fl:Nat→Int}(h:Flow n E s t fl)(g:RN n E)(hs:s<n){R:Nat→Bool}(rs:R s=true)(rt:R t=false):net E fl s E.length≤capK E R E.length:=by
 rw[h.across g hs rs rt]
 exact acr_le _ (fun j hj=>⟨h.lo j hj,h.hi j hj⟩)
theorem Ended.same{n:Nat}{E:List Ed}{s t:Nat}{f1 f2:Nat→Int}{R1 R2:Nat→Bool}(h1:Ended n E s t f1 R1)(h2:Ended n E s t f2 R2)(g:RN n E)(hs:s<n):net E f1 s E.length=net E f2 s E.length∧Full E f1 R2 E.length:=by
 have a1:=h1.value g hs
 have a2:=h2.value g hs
 have a3:=h1.fw.le_cut g hs h2.rs h2.rt
 have a4:=h2.fw.le_cut g hs h1.rs h1.rt
 have e:net E f1 s E.length=net E f2 s E.length:=by omega
 refine⟨e,eq_full _ (fun j hj=>⟨h1.fw.lo j hj,h1.fw.hi j hj⟩) ?_⟩
 rw[←h1.fw.across g hs h2.rs h2.rt]
 omega
def frm(E:List Ed)(k:Nat):Nat:=if k % 2=0 then (ed E (k / 2)).f else (ed E (k / 2)).t
def tto(E:List Ed)(k:Nat):Nat:=if k % 2=0 then (ed E (k / 2)).t else (ed E (k / 2)).f
def rm(E:List Ed)(fl:Nat→Int)(k:Nat):Int:=if k % 2=0 then (ed E (k / 2)).c - fl (k / 2) else fl (k / 2)
def push1(fl:Nat→Int)(k:Nat)(x:Int):Nat→Int:=fun j=>if j=k / 2 then (if k % 2=0 then fl j+x else fl j - x) else fl j
theorem net_ne(E:List Ed)(fl:Nat→Int)(k:Nat)(x:Int)(v:Nat): ∀m,m≤k / 2→net E (push1 fl k x) v m=net E fl v m:=by
 intro m
 induction m with
 | zero=>intro _;rfl
 | succ m ih=>
   intro h
   have e:push1 fl k x m=fl m:=by unfold push1;rw[if_neg (by omega)]
   simp only[net]
   rw[ih (by omega),e]
theorem net_push1(E:List Ed)(fl:Nat→Int)(k:Nat)(x:Int)(v:Nat): ∀m,k / 2<m→net E (push1 fl k x) v m=net E fl v m+(if frm E k=v then x else 0) - (if tto E k=v then x else 0):=by
 intro m
 induction m with
 | zero=>intro h;omega
 | succ m ih=>
   intro h
   simp only[net]
   by_cases e:m=k / 2
   ·rw[net_ne E fl k x v m (by omega)]
    subst e
    unfold push1 frm tto
    by_cases hk:k % 2=0
    ·simp only[hk,if_true]
     split <;> split <;> omega
    ·simp only[hk,if_false]
     simp only[if_true]
     split <;> split <;> omega
   ·have e2:push1 fl k x m=fl m:=by unfold push1;rw[if_neg e]
    rw[ih (by omega),e2]
    omega
def pushAll(fl:Nat→Int)(x:Int):List Nat→Nat→Int
 | []=>fl
 | k::p=>push1 (pushAll fl x p) k x
inductive Chn(E:List Ed)(s:Nat):List Nat→Nat→Prop
 | nil:Chn E s [] s
 | snoc {p:List Nat} {k:Nat}:Chn E s p (frm E k)→Chn E s (p++[k]) (tto E k)
inductive Tail(E:List Ed):Nat→List Nat→Nat→Prop
 | nil {v:Nat}:Tail E v [] v
 | cons {k:Nat} {p:List Nat} {v:Nat}:Tail E (tto E k) p v→Tail E (frm E k) (k::p) v
theorem Tail.snoc{E:List Ed}{u k:Nat}{p:List Nat}:Tail E u p (frm E k)→Tail E u (p++[k]) (tto E k):=by
 intro h
 generalize hv:frm E k=v at h
 induction h with
 | nil=>rw[←hv];exact Tail.cons Tail.nil
 | cons _ ih=>exact Tail.cons (ih hv)
theorem Chn.tail{E:List Ed}{s v:Nat}{p:List Nat}(h:Chn E s p v):Tail E s p v:=by
 induction h with
 | nil=>exact Tail.nil
 | snoc _ ih=>exact ih.snoc
theorem net_tail{E:List Ed}{fl:Nat→Int}{x:Int}{u v:Nat}{p:List Nat}(h:Tail E u p v)(m y:Nat)(hm: ∀k∈p,k / 2<m):net E (pushAll fl x p) y m=net E fl y m+(if u=y then x else 0) - (if v=y then x else 0):=by
 induction h with
 | nil=>simp only[pushAll];omega
 | @cons k p v _ ih=>
   simp only[pushAll]
   rw[net_push1 _ _ _ _ _ m (hm k (by simp)),ih (fun j hj=>hm j (by simp[hj]))]
   omega
def Once:List Nat→Prop
 | []=>True
 | k::p=>(∀j∈p,j / 2≠k / 2)∧Once p
theorem pushAll_other{fl:Nat→Int}{x:Int}{j:Nat}: ∀ {p:List Nat},(∀k∈p,k / 2≠j)→pushAll fl x p j=fl j:=by
 intro p
 induction p with
 | nil=>intro _;rfl
 | cons k p ih=>
   intro h
   have h1:=h k (by simp)
   simp only[pushAll,push1]
   rw[if_neg (fun e=>h1 e.symm)]
   exact ih (fun i hi=>h i (by simp[hi]))
theorem pushAll_rng{E:List Ed}{fl:Nat→Int}{x:Int}(hx:0≤x){j:Nat}(h0:0≤fl j∧fl j≤(ed E j).c): ∀ {p:List Nat},Once p→(∀k∈p,x≤rm E fl k)→0≤pushAll fl x p j∧pushAll fl x p j≤(ed E j).c:=by
 intro p
 induction p with
 | nil=>intro _ _;exact h0
 | cons k p ih=>
   intro ho hr
   by_cases e:j=k / 2
   ·have h1:pushAll fl x p j=fl j:=pushAll_other (fun i hi=>by rw[e];exact ho.1 i hi)
    have h2:=hr k (by simp)
    simp only[pushAll,push1]
    rw[if_pos e,h1]
    subst e
    unfold rm at h2
    by_cases hk:k % 2=0
    ·rw[if_pos hk] at h2 ⊢;omega
    ·rw[if_neg hk] at h2 ⊢;omega
   ·simp only[pushAll,push1]
    rw[if_neg e]
    exact ih ho.2 (fun i hi=>hr i (by simp[hi]))
theorem Flow.push{n:Nat}{E:List Ed}{s t:Nat}{fl:Nat→Int}(h:Flow n E s t fl){x:Int}(hx:0≤x){p:List Nat}(hp:Chn E s p t)(hst:s≠t)(ho:Once p)(hm: ∀k∈p,k / 2<E.length)(hr: ∀k∈p,x≤rm E fl k):
  Flow n E s t (pushAll fl x p)∧net E (pushAll fl x p) s E.length=net E fl s E.length+x:=by
 refine⟨⟨fun j hj=>(pushAll_rng hx ⟨h.lo j hj,h.hi j hj⟩ ho hr).1,fun j hj=>(pushAll_rng hx ⟨h.lo j hj,h.hi j hj⟩ ho hr).2,fun v hv h1 h2=> ?_⟩,?_⟩
 ·rw[net_tail hp.tail E.length v hm,h.mid v hv h1 h2,if_neg (fun e=>h1 e.symm),if_neg (fun e=>h2 e.symm)];omega
 ·rw[net_tail hp.tail E.length s hm,if_pos rfl,if_neg (fun e=>hst e.symm)];omega
end Go.Proofs.YtmenajiceaicpaaGreat.F6
namespace Go.Proofs.YtmenajiceaicpaaGreat.F6
open Go.RowKit
theorem info67:(Tryz.prog.info? 236).map (fun i=>(i.zero,i.size,i.bytes))=some (some (.agg #[.int .i64 0, .int .i64 0, .int .u32 0, .int .u32 0, .int .i64 0, .int .i64 0]),6,40):=by kernel_rfl
theorem heap_top(w:World)(o:Obj):(w.alloc o).heap[w.heap.size]? =some o:=by show(w.heap.push o)[w.heap.size]? =_;simp
theorem named{α:Sort _}(x:α): ∃y,Hid (x=y):=⟨x,rfl⟩
def TbV(w:World)(b n:Nat)(ty:TypeId)(V:Nat→Value):Prop:=w.heap[b]? =some (.cells ((List.range n).map V).toArray ty (0,0))
theorem TbV.lt{w:World}{b n:Nat}{ty:TypeId}{V:Nat→Value}(h:TbV w b n ty V):b<w.heap.size:=lt_of_block h
theorem TbV.same{w w':World}{b n:Nat}{ty:TypeId}{V:Nat→Value}(h:TbV w b n ty V)(hs:w'.heap[b]? =w.heap[b]?):TbV w' b n ty V:=hs.trans h
theorem TbV.cell{w:World}{b n:Nat}{ty:TypeId}{V:Nat→Value}(h:TbV w b n ty V){v:Nat}(hv:v<n):w.cell? ⟨b,v,none⟩=some (V v):=by
 unfold TbV at h
 simp[World.cell?,h,hv]
theorem TbV.free{w:World}{b n:Nat}{ty:TypeId}{V:Nat→Value}(h:TbV w b n ty V)(v:Nat):w.frozen? ⟨b,v,none⟩=false:=by
 unfold TbV at h
 simp[World.frozen?,h]
theorem TbV.congr{w:World}{b n:Nat}{ty:TypeId}{V U:Nat→Value}(h:TbV w b n ty V)(e: ∀v,v<n→V v=U v):TbV w b n ty U:=by
 unfold TbV at*
 rw[h]
 congr 3
 apply List.map_congr_left
 intro v hv
 rw[e v (by simpa using hv)]
def updV(V:Nat→Value)(x:Nat)(d:Value):Nat→Value:=fun y=>if y=x then d else V y
theorem updV_self(V:Nat→Value)(x:Nat)(d:Value):updV V x d x=d:=by simp[updV]
theorem updV_ne(V:Nat→Value){x y:Nat}(d:Value)(h:y≠x):updV V x d y=V y:=by simp[updV,h]
theorem tabV_set(n:Nat)(V:Nat→Value)(v:Nat)(x:Value):((List.range n).map V).toArray.setIfInBounds v x=((List.range n).map (updV V v x)).toArray:=by
 apply Array.ext'
 simp only[Array.toList_setIfInBounds]
 apply List.ext_getElem?
 intro i
 rw[List.getElem?_set]
 by_cases e:v=i
 ·subst e
  by_cases h:v<n
  ·simp[h,updV_self]
  ·simp[h]
 ·rw[if_neg e]
  by_cases h:i<n
  ·simp[h,updV_ne V x (fun h:i=v=>e h.symm)]
  ·simp[h]
def lv(E:List Ed)(fl:Nat→Int)(nx:Nat→Int)(q:Nat):Value:=
 if q % 6=0 then .int .i64 (ed E (q / 6)).f else if q % 6=1 then .int .i64 (ed E (q / 6)).t else if q % 6=2 then .int .u32 ((ed E (q / 6)).c - fl (q / 6)) else if q % 6=3 then .int .u32 (fl (q / 6)) else if q % 6=4 then .int .i64 (nx (2*(q / 6))) else .int .i64 (nx (2*(q / 6)+1))
theorem lv_end(E:List Ed)(fl nx:Nat→Int)(k:Nat):lv E fl nx (k / 2*6+k % 2)= .int .i64 (frm E k):=by
 unfold lv frm
 have h:k % 2=0∨k % 2=1:=by omega
 have e:(k / 2*6+k % 2) / 6=k / 2:=by omega
 rcases h with h | h
 ·rw[if_pos (by omega),if_pos h,e]
 ·rw[if_neg (by omega),if_pos (by omega),if_neg (by omega),e]
theorem lv_room(E:List Ed)(fl nx:Nat→Int)(k:Nat):lv E fl nx (k / 2*6+2+k % 2)= .int .u32 (rm E fl k):=by
 unfold lv rm
 have h:k % 2=0∨k % 2=1:=by omega
 have e:(k / 2*6+2+k % 2) / 6=k / 2:=by omega
 rcases h with h | h
 ·rw[if_neg (by omega),if_neg (by omega),if_pos (by omega),if_pos h,e]
 ·rw[if_neg (by omega),if_neg (by omega),if_neg (by omega),if_pos (by omega),if_neg (by omega),e]
theorem lv_next(E:List Ed)(fl nx:Nat→Int)(k:Nat):lv E fl nx (k / 2*6+4+k % 2)= .int .i64 (nx k):=by
 unfold lv
 have h:k % 2=0∨k % 2=1:=by omega
 have e:(k / 2*6+4+k % 2) / 6=k / 2:=by omega
 rcases h with h | h
 ·rw[if_neg (by omega),if_neg (by omega),if_neg (by omega),if_neg (by omega),if_pos (by omega),e]
  congr 2;omega
 ·rw[if_neg (by omega),if_neg (by omega),if_neg (by omega),if_neg (by omega),if_neg (by omega),e]
  congr 2;omega
structure Pp(w:World)(f bl b1 b2 b3 bq bp n m:Nat)(gr:Int):Prop where
 hd:w.heap[f]? =some (.cells #[.slice (some ⟨bl,0,none⟩) m m, .slice (some ⟨b1,0,none⟩) n n, .slice (some ⟨b2,0,none⟩) n n, .slice (some ⟨b3,0,none⟩) n n, .slice (some ⟨bq,0,none⟩) 0 n, .slice (some ⟨bp,0,none⟩) 0 n, .int .u32 gr] 232 (0,0))
theorem seven_cells{w:World}{g:Nat}{a b c d e f h:Value}{t:TypeId}(hh:w.heap[g]? =some (.cells #[a,b,c,d,e,f,h] t)):w.cell? ⟨g,0,none⟩=some a∧w.cell? ⟨g,1,none⟩=some b∧w.cell? ⟨g,2,none⟩=some c∧w.cell? ⟨g,3,none⟩=some d∧w.cell? ⟨g,4,none⟩=some e∧w.cell? ⟨g,5,none⟩=some f∧w.cell? ⟨g,6,none⟩=some h:=by
 simp[World.cell?,hh]
theorem and_one(i:Nat)(hi:i<9223372036854775808):bits BinOp.and IntKind.i64 (i:Int) 1=((i % 2:Nat):Int):=by
 have e1:bits BinOp.and IntKind.i64 (i:Int) 1=IntKind.i64.wrap (((i:Int) % 18446744073709551616).toNat&&& 1:Nat):=rfl
 have e2:((i:Int) % 18446744073709551616).toNat=i:=by omega
 rw[e1,e2,Nat.and_one_is_mod,IntKind.wrap_i64]
 omega
theorem xor_one(i:Nat)(hi:i<9223372036854775806):bits BinOp.xor IntKind.i64 (i:Int) 1=((if i % 2=0 then i+1 else i - 1:Nat):Int):=by
 have e1:bits BinOp.xor IntKind.i64 (i:Int) 1=IntKind.i64.wrap (((i:Int) % 18446744073709551616).toNat ^^^ 1:Nat):=rfl
 have e2:((i:Int) % 18446744073709551616).toNat=i:=by omega
 have e3:i ^^^ 1=if i % 2=0 then i+1 else i - 1:=by
  have h1:(i ^^^ 1) / 2=i / 2:=by
   have:=Nat.shiftRight_xor_distrib (a:=i) (b:=1) (i:=1)
   simpa[Nat.shiftRight_eq_div_pow] using this
  have h2:=Nat.xor_mod_two_eq_one (a:=i) (b:=1)
  split <;> omega
 rw[e1,e2,e3,IntKind.wrap_i64]
 split <;> omega
set_option maxHeartbeats 400000 in
theorem from_any{w:World}{f bl b1 b2 b3 bq bp n m:Nat}{gr:Int}{E:List Ed}{fl nx:Nat→Int}(hp:Pp w f bl b1 b2 b3 bq bp n m gr)(hl:TbV w bl (m*6) 236 (lv E fl nx)){k:Nat}(hk:k<2*m)(hm:m≤16384):
  Calls Tryz.prog 194 #[.pointer (some ⟨f,0,none⟩), .int .i64 k] w fun e w'=>e= .returned (.int .i64 (frm E k))∧w'=w:=by
 obtain⟨c0,c1,c2,c3,c4,c5,c6⟩:=seven_cells hp.hd
 have d0:=hl.cell (v:=k / 2*6+k % 2) (by omega)
 rw[lv_end] at d0
 have hk2:((k / 2:Nat):Int)<m:=by omega
 have ha:=and_one k (by omega)
 have hk3:((k % 2:Nat):Int)<2:=by omega
 go_enter Tryz.func194,Tryz.ntmps194
 go_wp2_with fail
 go_ret
 exact⟨rfl,rfl⟩
set_option maxHeartbeats 400000 in
theorem room_any{w:World}{f bl b1 b2 b3 bq bp n m:Nat}{gr:Int}{E:List Ed}{fl nx:Nat→Int}(hp:Pp w f bl b1 b2 b3 bq bp n m gr)(hl:TbV w bl (m*6) 236 (lv E fl nx)){k:Nat}(hk:k<2*m)(hm:m≤16384):
  Calls Tryz.prog 191 #[.pointer (some ⟨f,0,none⟩), .int .i64 k] w fun e w'=>e= .returned (.int .u32 (rm E fl k))∧w'=w:=by
 obtain⟨c0,c1,c2,c3,c4,c5,c6⟩:=seven_cells hp.hd
 have d0:=hl.cell (v:=k / 2*6+2+k % 2) (by omega)
 rw[lv_room] at d0
 have hk2:((k / 2:Nat):Int)<m:=by omega
 have ha:=and_one k (by omega)
 have hk3:((k % 2:Nat):Int)<2:=by omega
 go_enter Tryz.func191,Tryz.ntmps191
 go_wp2_with fail
 go_ret
 exact⟨rfl,rfl⟩
set_option maxHeartbeats 400000 in
theorem next_any{w:World}{f bl b1 b2 b3 bq bp n m:Nat}{gr:Int}{E:List Ed}{fl nx:Nat→Int}(hp:Pp w f bl b1 b2 b3 bq bp n m gr)(hl:TbV w bl (m*6) 236 (lv E fl nx)){k:Nat}(hk:k<2*m)(hm:m≤16384):
  Calls Tryz.prog 189 #[.pointer (some ⟨f,0,none⟩), .int .i64 k] w fun e w'=>e= .returned (.int .i64 (nx k))∧w'=w:=by
 obtain⟨c0,c1,c2,c3,c4,c5,c6⟩:=seven_cells hp.hd
 have d0:=hl.cell (v:=k / 2*6+4+k % 2) (by omega)
 rw[lv_next] at d0
 have hk2:((k / 2:Nat):Int)<m:=by omega
 have ha:=and_one k (by omega)
 have hk3:((k % 2:Nat):Int)<2:=by omega
 go_enter Tryz.func189,Tryz.ntmps189
 go_wp2_with fail
 go_ret
 exact⟨rfl,rfl⟩
theorem frm_other(E:List Ed)(k:Nat):frm E (if k % 2=0 then k+1 else k - 1)=tto E k:=by
 unfold frm tto
 by_cases h:k % 2=0
 ·rw[if_pos h,if_neg (by omega),if_pos h,show(k+1) / 2=k / 2 by omega]
 ·rw[if_neg h,if_pos (by omega),if_neg h,show(k - 1) / 2=k / 2 by omega]
set_option maxHeartbeats 400000 in
theorem to_any{w:World}{f bl b1 b2 b3 bq bp n m:Nat}{gr:Int}{E:List Ed}{fl nx:Nat→Int}(hp:Pp w f bl b1 b2 b3 bq bp n m gr)(hl:TbV w bl (m*6) 236 (lv E fl nx)){k:Nat}(hk:k<2*m)(hm:m≤16384):
  Calls Tryz.prog 190 #[.pointer (some ⟨f,0,none⟩), .int .i64 k] w fun e w'=>e= .returned (.int .i64 (tto E k))∧w'=w:=by
 have HF:=Lib.hid (from_any hp hl (k:=if k % 2=0 then k+1 else k - 1) (by split <;> omega) hm)
 rw[frm_other] at HF
 have hx:=xor_one k (by omega)
 generalize (if k % 2=0 then k+1 else k - 1)=j at*
 go_enter Tryz.func190,Tryz.ntmps190
 go_wp2_with fail
 refine HF.out.mono ?_
 rintro e w1 ⟨rfl,rfl⟩
 go_wp2_with fail
 go_ret
 exact⟨rfl,rfl⟩
set_option maxHeartbeats 400000 in
theorem reached_any{w:World}{f bl b1 b2 b3 bq bp n m:Nat}{gr:Int}{rk:Nat→Int}(hp:Pp w f bl b1 b2 b3 bq bp n m gr)(ht:TbV w b2 n 3 (fun v=> .int .i64 (rk v))){v:Nat}(hv:v<n):
  Calls Tryz.prog 146 #[.pointer (some ⟨f,0,none⟩), .int .i64 v] w fun e w'=>e= .returned (.bool (rk v != -1))∧w'=w:=by
 obtain⟨c0,c1,c2,c3,c4,c5,c6⟩:=seven_cells hp.hd
 have d0:=ht.cell hv
 have hv':(v:Int)<n:=by omega
 generalize rk v=r at*
 go_enter Tryz.func146,Tryz.ntmps146
 go_wp2_with fail
 go_ret
 exact⟨rfl,rfl⟩
end Go.Proofs.YtmenajiceaicpaaGreat.F6
