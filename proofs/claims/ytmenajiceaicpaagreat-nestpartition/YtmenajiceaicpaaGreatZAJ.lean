import Derived.Deep.RegionHeld3
import Derived.Test.YtmenajiceaicpaaGreatZAI
import Derived.Test.YtmenajiceaicpaaGreatZAA
import Derived.Test.YtmenajiceaicpaaGreatZAB
import Derived.Test.YtmenajiceaicpaaGreatZAD
open Go.Lib (hid)
set_option maxRecDepth 100000
namespace Go.Proofs.YtmenajiceaicpaaGreat.T3
open Go.RowKit
theorem own_keep{w w':World}{base:Nat}{e:TypeId}{size:Nat}{v:Value}{n:Nat}{xs:List Value}(h:w.ownsRow base e size v n xs)(hk: ∀k,base≤k→k<w.heap.size→v.ownBlock=some k→w'.heap[k]? =w.heap[k]?):w'.ownsRow base e size v n xs:=by
 refine⟨h.1,?_⟩
 rcases h.2 with h' | ⟨g,c,cur,h1,h2,h3,h4⟩
 ·exact Or.inl h'
 ·refine Or.inr ⟨g,c,cur,h1,h2,?_,h4⟩
  rw[hk g h2 (lt_of_block h3) (by rw[h1];rfl)]
  exact h3
def OwnI(w:World)(B:Nat)(a:Option Addr)(c:Nat)(xs:List Int):Prop:=w.ownsRow B 3 1 (.slice a xs.length c) xs.length (cellsI xs)
theorem OwnI.ints{w:World}{B:Nat}{a:Option Addr}{c:Nat}{xs:List Int}(h:OwnI w B a c xs):Ints w a xs:=ints_own h
set_option maxHeartbeats 3200000 in
theorem induced_ok(n:Nat)(a:Option Addr)(l:List A)(cap:Nat)(a':Option Addr)(q:List Bool)(cap':Nat)(w:World)(hC:chkE n l=0)(hQ:q.length=n)(hH:hits (mk q) n≠ [])(hr:Arcs w a l)(hr':Bools (· <w.heap.size) w a' q):
  Calls Tryz.prog 121 #[.agg #[.int .i64 n, .slice a l.length cap], .slice a' n cap'] w fun e w'=> ∃ah ch av cv ai ci,e= .returned (.tuple #[.agg #[.int .i64 ((hits (mk q) n).length:Nat), .slice ah (indA (mk q) l).length ch], .slice av (hits (mk q) n).length cv, .slice ai (indI (mk q) l).length ci, .int .i64 0])∧
   OwnA w' w.heap.size ah ch (indA (mk q) l)∧ah≠none∧OwnI w' w.heap.size av cv (hits (mk q) n)∧OwnI w' w.heap.size ai ci (indI (mk q) l)∧Below w.heap.size w w':=by
 have hb0:Below w.heap.size w ((w.alloc (.cells #[.int .i64 n, .slice a l.length cap] 24)).alloc (.cells #[.int .i64 0, .slice none 0 0] 24)):=((Below.refl _ _).alloc (Nat.le_refl _) _).alloc (by simp) _
 have hg:((w.alloc (.cells #[.int .i64 n, .slice a l.length cap] 24)).alloc (.cells #[.int .i64 0, .slice none 0 0] 24)).heap[w.heap.size]? =some (.cells #[.int .i64 n, .slice a l.length cap] 24):=(Below.heap_alloc _ _ _ (by simp)).trans (heap_top w _)
 have h1:=heap_top (w.alloc (.cells #[.int .i64 n, .slice a l.length cap] 24)) (.cells #[.int .i64 0, .slice none 0 0] 24)
 rw[show(w.alloc (.cells #[.int .i64 n, .slice a l.length cap] 24)).heap.size=w.heap.size+1 by simp] at h1
 generalize hW:(w.alloc (.cells #[.int .i64 n, .slice a l.length cap] 24)).alloc (.cells #[.int .i64 0, .slice none 0 0] 24)=W at*
 obtain⟨⟨g0,g1⟩,gf0,gf1⟩:=two_cells hg
 obtain⟨T,HT⟩:=named (chkAt n l)
 have hr0:=hr.on hb0
 have HC:=hid hC
 obtain⟨hN1,hN2,hlen,hall⟩:=chk_zero hC
 have hl:l.length≤9223372036854775807:=by omega
 have HALL:=hid hall
 have hn:n≤1024:=by omega
 have hpos:0<(hits (mk q) n).length:=by
  rcases Nat.eq_zero_or_pos (hits (mk q) n).length with h | h
  ·exact absurd (List.eq_nil_of_length_eq_zero h) hH
  ·exact h
 have hpos':(((hits (mk q) n).length:Int)==0)=false:=beq_eq_false_iff_ne.2 (by omega)
 have HQ:=hid hQ
 clear hC hall hH hQ
 have HPART:=hid (fun av cv ai ci W' (h1:Arcs W' a l) (h2:Ints W' av (hits (mk q) n)) (h3:Ints W' ai (indI (mk q) l))=>part_any n (mk q) a l cap av cv ai ci W' hn hlen HALL.out h1 h2 h3)
 have HMARK:=hid (fun m B W' h1 h2 h3 h4=>marked_any m B a' q cap' W' (by rw[HQ.out];omega) h1 h2 h3 h4)
 have HINS:=hid (fun m B W' h1 h2 h3 h4 h5=>inside_any m B n a l cap a' q cap' W' hlen (by rw[HQ.out];omega) (by rw[HQ.out];exact HALL.out) h1 h2 h3 h4 h5)
 rw[HQ.out] at HMARK HINS
 obtain⟨is,HIS⟩: ∃is,Hid (indI (mk q) l=is):=⟨_,rfl⟩
 have HIS':Hid (hits (fun k=>both (mk q) (l.getD k A.zero)) l.length=is):=HIS
 rw[HIS.out] at HPART ⊢
 rw[HIS'.out] at HINS
 obtain⟨vs,HVS⟩: ∃vs,Hid (hits (mk q) n=vs):=⟨_,rfl⟩
 rw[HVS.out] at HMARK HPART hpos hpos' ⊢
 obtain⟨Z,HZ⟩: ∃Z,Hid (indA (mk q) l=Z):=⟨_,rfl⟩
 rw[HZ.out] at HPART ⊢
 go_enter Tryz.func121,Tryz.ntmps121
 go_wp2_with fail
 refine(check_any n a l cap _ hl hr0).mono ?_
 rintro e w1 ⟨rfl,hb1⟩
 rw[HC.out,HT.out]
 have hg1:=(hb1.block _ (lt_of_block hg)).trans hg
 have hh1:=(hb1.block _ (lt_of_block h1)).trans h1
 have b1:=bthen hb0 hb1 (by have:=hb0.size;omega)
 have s1:=lt_of_block hh1
 clear hb1 hb0 hr0 hg h1 g0 g1 gf0 gf1 hW
 obtain⟨⟨g0,g1⟩,gf0,gf1⟩:=two_cells hg1
 have hb2:Below w1.heap.size w1 ((w1.alloc (.cells #[.slice none 0 0] 204)).alloc (.cells #[.slice none 0 0] 204)):=((Below.refl _ _).alloc (Nat.le_refl _) _).alloc (by simp) _
 have hm2:((w1.alloc (.cells #[.slice none 0 0] 204)).alloc (.cells #[.slice none 0 0] 204)).heap[w1.heap.size]? =some (.cells #[.slice none 0 0] 204 (0,0)):=(Below.heap_alloc _ _ _ (by simp)).trans (heap_top w1 _)
 have hp2:=heap_top (w1.alloc (.cells #[.slice none 0 0] 204)) (.cells #[.slice none 0 0] 204)
 rw[show(w1.alloc (.cells #[.slice none 0 0] 204)).heap.size=w1.heap.size+1 by simp] at hp2
 have z2:((w1.alloc (.cells #[.slice none 0 0] 204)).alloc (.cells #[.slice none 0 0] 204)).heap.size=w1.heap.size+2:=by simp
 generalize hW2:(w1.alloc (.cells #[.slice none 0 0] 204)).alloc (.cells #[.slice none 0 0] 204)=W2 at*
 have hfil:FilB W2 w1.heap.size W2.heap.size []:=⟨_,hm2,World.ownsRow_nil _ _ _ _⟩
 have hq2:Bools (Safe w1.heap.size W2.heap.size W2) W2 a' q:=hr'.imp (fun b h=>Or.inl ⟨by omega,by omega⟩) (fun b h=>(hb2.block b (by omega)).trans (b1.block b h))
 have hh2:=(hb2.block _ s1).trans hh1
 have hg2:=(hb2.block _ (lt_of_block hg1)).trans hg1
 have b2:=bthen b1 hb2 (by omega)
 have HZ2:=hid z2
 clear z2
 have z2:w1.heap.size+2≤W2.heap.size:=by rw[HZ2.out];exact Nat.le_refl _
 go_wp2_with (go_at_call 148;refine(HMARK.out w1.heap.size W2.heap.size W2 (by omega) (Nat.le_refl _) hq2 hfil).mono ?_;rintro e w3 ⟨rfl,hf3,hk3⟩;obtain⟨v3,hm3,hown3⟩:=hf3;obtain⟨a3,c3,hv3⟩:=own_slice hown3;rw[hv3] at hm3 hown3;have c3':=cell_of_one hm3;have hg3:=(hk3.block _ (show w.heap.size<W2.heap.size by omega) (by omega)).trans hg2;obtain⟨⟨e0,e1⟩,ef0,ef1⟩:=two_cells hg3;have s3:=hk3.size;clear g0 g1 gf0 gf1 hv3
  )
 have b3:=hk3.below b2 (by omega) (by omega)
 have hp3:=(hk3.block _ (show w1.heap.size+1<W2.heap.size by omega) (by omega)).trans hp2
 have hh3:=(hk3.block _ (show w.heap.size+1<W2.heap.size by omega) (by omega)).trans hh2
 have hfil3:FilB w3 (w1.heap.size+1) w3.heap.size []:=⟨_,hp3,World.ownsRow_nil _ _ _ _⟩
 refine(HINS.out (w1.heap.size+1) w3.heap.size w3 (by omega) (Nat.le_refl _) ((hr.b.on b3).up (by omega)) (hr'.imp (fun b h=>by show b<_;omega) (fun b h=>b3.block b h)) hfil3).mono ?_
 rintro e w4 ⟨rfl,⟨v4,hp4,hown4⟩,hk4⟩
 obtain⟨a4,c4,hv4⟩:=own_slice hown4
 rw[hv4] at hp4 hown4
 have hm4:=(hk4.block _ (show w1.heap.size<w3.heap.size by omega) (by omega)).trans hm3
 have hg4:=(hk4.block _ (show w.heap.size<w3.heap.size by omega) (by omega)).trans hg3
 have hh4:=(hk4.block _ (show w.heap.size+1<w3.heap.size by omega) (by omega)).trans hh3
 have hown4':=own_keep hown3 (fun k h1 h2 _=>hk4.block k h2 (by omega))
 have b4:=hk4.below b3 (by omega) (by omega)
 have s4:=hk4.size
 clear hk4 hk3 hfil3 hp3 hm3 hg3 hh3 hown3 c3' e0 e1 ef0 ef1 hW2 hm2 hp2 hfil hq2 hh2 hg2 hb2 b2 b3 hg1 hh1 hv4
 obtain⟨⟨g0,g1⟩,gf0,gf1⟩:=two_cells hg4
 have k0:=cell_of_one hm4
 have k1:=cell_of_one hp4
 have HP4:=hid (HPART.out a3 c3 a4 c4 w4.drew (hr.on b4.drew) (show Ints w4.drew a3 vs from ints_own (w:=w4.drew) hown4') (show Ints w4.drew a4 is from ints_own (w:=w4.drew) hown4))
 have HM4:=hid hm4
 have HPP:=hid hp4
 have HH4:=hid hh4
 have HO3:=hid hown4'
 have HO4:=hid hown4
 have HG4:=hid hg4
 clear HPART HINS HMARK hown4 hown4' hm4 hp4 hh4 hg4
 go_wp2_with fail
 have n1: ¬w1.heap.size=w.heap.size+1:=by omega
 have n2: ¬w1.heap.size=w.heap.size:=by omega
 have n3: ¬w.heap.size=w1.heap.size:=by omega
 have n4: ¬w.heap.size+1=w1.heap.size:=by omega
 go_region_held3 (fun w'=>w'.cell? ⟨w.heap.size,0,none⟩=some (.int .i64 n)∧w'.cell? ⟨w.heap.size,1,none⟩=some (.slice a l.length cap)∧w'.cell? ⟨w1.heap.size,0,none⟩=some (.slice a3 vs.length c3)∧w'.cell? ⟨w1.heap.size+1,0,none⟩=some (.slice a4 is.length c4)) (go_keep) ((go_at_call 151;refine HP4.out.mono ?_;rintro e w5 ⟨a5,c5,rfl,hown5,hne5,hb5⟩;have p0:=cell_of_one ((hb5.block _ (lt_of_block HM4.out)).trans HM4.out);have p1:=cell_of_one ((hb5.block _ (lt_of_block HPP.out)).trans HPP.out);have HR:=hid ((hb5.block _ (lt_of_block HH4.out)).trans HH4.out);obtain⟨⟨r0,r1⟩,rf0,rf1⟩:=two_cells HR.out;obtain⟨⟨t0,t1⟩,tf0,tf1⟩:=two_cells ((hb5.block _ (lt_of_block HG4.out)).trans HG4.out)))
 all_goals go_wp2_with fail
 all_goals
  have hlt4:=lt_of_block HH4.out
  have hb6:Below w.heap.size w w5:=b4.drew.trans (hb5.mono (by show w.heap.size≤w4.heap.size;omega))
  refine bodyPost_ret (v:= .tuple #[.agg #[.int .i64 (vs.length:Int), .slice a5 Z.length c5], .slice a3 vs.length c3, .slice a4 is.length c4, .int .i64 0]) (by simp[results,Tryz.results121,go_sem,r0,r1]) rfl ⟨a5,c5,a3,c3,a4,c4,rfl,?_,hne5,?_,?_,(hb6.setCell (by show _≤w.heap.size+1;omega) _).setCell (by show _≤w.heap.size+1;omega) _⟩
  ·have h9:OwnA ((w5.setCell ⟨w.heap.size+1,0,none⟩ (.int .i64 vs.length)).setCell ⟨w.heap.size+1,1,none⟩ (.slice a5 Z.length c5)) w4.heap.size a5 c5 Z:=ownsRow_setCell_below (ownsRow_setCell_below hown5 (show w.heap.size+1<w4.heap.size by omega) _) (show w.heap.size+1<w4.heap.size by omega) _
   exact h9.base (by omega)
  ·have h9:w5.ownsRow W2.heap.size 3 1 (.slice a3 vs.length c3) vs.length (cellsI vs):=own_keep HO3.out (fun k _ h2 _=>hb5.block k h2)
   exact own_base (ownsRow_setCell_below (ownsRow_setCell_below h9 (show w.heap.size+1<W2.heap.size by omega) _) (show w.heap.size+1<W2.heap.size by omega) _) (by omega)
  ·have h9:w5.ownsRow w3.heap.size 3 1 (.slice a4 is.length c4) is.length (cellsI is):=own_keep HO4.out (fun k _ h2 _=>hb5.block k h2)
   exact own_base (ownsRow_setCell_below (ownsRow_setCell_below h9 (show w.heap.size+1<w3.heap.size by omega) _) (show w.heap.size+1<w3.heap.size by omega) _) (by omega)
structure RT(R:Nat→Nat):Prop where
 rle: ∀v,R v≤v
 rr: ∀v,R (R v)=R v
theorem RT.mg{R:Nat→Nat}(h:RT R)(a b:Nat):RT (mg R a b):=by
 have ra:=h.rr a
 have rb:=h.rr b
 have hm:R (min (R a) (R b))=min (R a) (R b):=by
  rcases Nat.le_total (R a) (R b) with e | e
  ·rw[Nat.min_eq_left e];exact ra
  ·rw[Nat.min_eq_right e];exact rb
 have hle:min (R a) (R b)≤max (R a) (R b):=by omega
 unfold Go.Proofs.YtmenajiceaicpaaGreat.T3.mg
 generalize min (R a) (R b)=m at*
 generalize max (R a) (R b)=M at*
 refine⟨fun v=> ?_,fun v=> ?_⟩
 ·have:=h.rle v
  unfold mgW
  split <;> omega
 ·by_cases e:R v=M
  ·rw[show mgW R M m v=m from if_pos e]
   unfold mgW
   rw[hm];split <;> rfl
  ·rw[show mgW R M m v=R v from if_neg e]
   unfold mgW
   rw[h.rr v,if_neg e]
theorem foldl_RT: ∀ (l:List A) (R:Nat→Nat),RT R→RT (l.foldl (fun R x=>mg R x.f.toNat x.t.toNat) R)
 | [],_,h=>h
 | _::r,_,h=>foldl_RT r _ (h.mg _ _)
theorem lead_RT(l:List A):RT (lead l):=foldl_RT l id ⟨fun _=>Nat.le_refl _,fun _=>rfl⟩
theorem cnt_mono(R:Nat→Nat){m n:Nat}(h:m≤n):cnt R m≤cnt R n:=by
 induction n with
 | zero=>have:m=0:=by omega
         subst this;exact Nat.le_refl _
 | succ n ih=>
   by_cases e:m=n+1
   ·subst e;exact Nat.le_refl _
   ·have:=ih (by omega)
    show _≤(if R n=n then cnt R n+1 else cnt R n)
    split <;> omega
theorem cnt_root{R:Nat→Nat}{r n:Nat}(hr:R r=r)(h:r<n):cnt R r<cnt R n:=by
 have h1:cnt R (r+1)=cnt R r+1:=by rw[cnt,if_pos hr]
 have:=cnt_mono R (show r+1≤n by omega)
 omega
theorem cnt_inj{R:Nat→Nat}{r s:Nat}(hr:R r=r)(hs:R s=s)(h:cnt R r=cnt R s):r=s:=by
 rcases Nat.lt_trichotomy r s with e | e | e
 ·have:=cnt_root hr e;omega
 ·exact e
 ·have:=cnt_root hs e;omega
theorem cnt_find{R:Nat→Nat}: ∀ {n p:Nat},p<cnt R n→∃v,v<n∧R v=v∧cnt R v=p
 | 0,_,h=>absurd h (by simp[cnt])
 | n+1,p,h=>by
   by_cases hn:R n=n
   ·rw[cnt,if_pos hn] at h
    by_cases e:p=cnt R n
    ·exact⟨n,by omega,hn,e.symm⟩
    ·obtain⟨v,h1,h2⟩:=cnt_find (R:=R) (n:=n) (p:=p) (by omega)
     exact⟨v,by omega,h2⟩
   ·rw[cnt,if_neg hn] at h
    obtain⟨v,h1,h2⟩:=cnt_find h
    exact⟨v,by omega,h2⟩
theorem lab_step{R:Nat→Nat}(h:RT R)(k:Nat):(lab R k=cnt R k∧cnt R (k+1)=cnt R k+1)∨(lab R k<cnt R k∧cnt R (k+1)=cnt R k):=by
 by_cases e:R k=k
 ·exact Or.inl ⟨by unfold lab;rw[e],by rw[cnt,if_pos e]⟩
 ·have:=h.rle k
  exact Or.inr ⟨by unfold lab;exact cnt_root (h.rr k) (by omega),by rw[cnt,if_neg e]⟩
theorem lab_lead{R:Nat→Nat}(h:RT R){u v:Nat}(e:lab R u=lab R v):R u=R v:=cnt_inj (h.rr u) (h.rr v) e
theorem ext_labs{R:Nat→Nat}{n:Nat}{X:List Int}(hx:X.length=n)(h: ∀j,j<n→X.getD j 0=((lab R j:Nat):Int)):X=ints (labs R n):=by
 apply List.ext_getElem
 ·rw[hx,ints_len,labs_len]
 ·intro i h1 h2
  have e1:=h i (by omega)
  have e2:=labsI R n i (by omega)
  rw[←e2] at e1
  simpa[List.getD,List.getElem?_eq_getElem h1,List.getElem?_eq_getElem h2] using e1
where labsI (R:Nat→Nat) (n k:Nat) (h:k<n):(ints (labs R n)).getD k 0=((lab R k:Nat):Int):=by rw[ints_getD,labs_getD R n k h]
end Go.Proofs.YtmenajiceaicpaaGreat.T3
namespace Go.Proofs.YtmenajiceaicpaaGreat
open Go.RowKit
def tdy:List Int→Int→Bool
 | [],_=>true
 | x::r,nx=>if x<0∨nx<x then false else tdy r (if x=nx then nx+1 else nx)
theorem drop_getI{xs:List Int}{k:Nat}(h:k<xs.length):xs.drop k=xs.getD k 0::xs.drop (k+1):=by
 rw[List.drop_eq_getElem_cons h]
 simp[List.getD,List.getElem?_eq_getElem h]
theorem take_snocI{xs:List Int}{k:Nat}(h:k<xs.length):xs.take (k+1)=xs.take k++[xs.getD k 0]:=by
 rw[List.take_succ_eq_append_getElem h]
 simp[List.getD,List.getElem?_eq_getElem h]
def szS(S:List Nat)(x:Nat):List Nat:=if x=S.length then S++[1] else S.set x (S.getD x 0+1)
def szL(xs:List Int):List Nat:=xs.foldl (fun S x=>szS S x.toNat) []
theorem szL_snoc(xs:List Int)(x:Int):szL (xs++[x])=szS (szL xs) x.toNat:=by simp[szL]
theorem getD_end(S:List Nat)(x:Nat):(S++[x]).getD S.length 0=x:=by simp[List.getD]
theorem set_end(S:List Nat)(x y:Nat):(S++[x]).set S.length y=S++[y]:=by simp
theorem getD_le{S:List Nat}{m:Nat}(h: ∀u,u∈S→u≤m)(j:Nat):S.getD j 0≤m:=by
 by_cases e:j<S.length
 ·exact h _ (by simp[List.getD,List.getElem?_eq_getElem e])
 ·simp[List.getD,List.getElem?_eq_none (Nat.le_of_not_lt e)]
theorem szS_le{S:List Nat}{m:Nat}(h: ∀u,u∈S→u≤m)(x:Nat): ∀u,u∈szS S x→u≤m+1:=by
 intro u hu
 unfold szS at hu
 split at hu
 ·rcases List.mem_append.1 hu with h1 | h1
  ·have:=h u h1;omega
  ·rw[List.mem_singleton] at h1;omega
 ·rcases List.mem_or_eq_of_mem_set hu with h1 | h1
  ·have:=h u h1;omega
  ·have:=getD_le h x;omega
theorem szL_le(xs:List Int): ∀j,(szL xs).getD j 0≤xs.length:=by
 have: ∀ (xs:List Int) (S:List Nat) (m:Nat),(∀u,u∈S→u≤m)→∀u,u∈(xs.foldl (fun S x=>szS S x.toNat) S)→u≤m+xs.length:=by
  intro xs
  induction xs with
  | nil=>intro S m h u hu;exact h u hu
  | cons x r ih=>
    intro S m h u hu
    have h2:=ih (szS S x.toNat) (m+1) (szS_le h _) u hu
    rw[List.length_cons]
    omega
 refine getD_le (fun u hu=> ?_)
 have h:=this xs [] 0 (fun u hu=>by cases hu) u hu
 omega
def szE(N:Int)(xs:List Int):Int:=if (xs.length:Int)≠N∨tdy xs 0=false then 80 else 0
theorem own_setI{w:World}{B g c:Nat}{L:List Nat}(h:w.ownsRow B 3 1 (.slice (some ⟨g,0,none⟩) L.length c) L.length (cellsI (ints L)))(k x:Nat):(w.setCell ⟨g,k,none⟩ (.int .i64 x)).ownsRow B 3 1 (.slice (some ⟨g,0,none⟩) (L.set k x).length c) (L.set k x).length (cellsI (ints (L.set k x))):=by
 have h1:=(World.ownsRow.stored h k (.int .i64 x)).1
 have e:(cellsI (ints L)).set k (.int .i64 x)=cellsI (ints (L.set k x)):=by
  unfold cellsI ints
  rw[List.map_map,List.map_map,List.map_set]
  rfl
 rw[e] at h1
 rw[List.length_set]
 exact h1
theorem own_cellI{w:World}{B g c:Nat}{L:List Nat}(h:w.ownsRow B 3 1 (.slice (some ⟨g,0,none⟩) L.length c) L.length (cellsI (ints L))){k:Nat}(hk:k<L.length):w.cell? ⟨g,k,none⟩=some (.int .i64 ((L.getD k 0:Nat):Int)):=by
 rw[World.ownsRow.cellAt h k (by omega),cellsI_getD (ints L) k (by rw[ints_len];exact hk),ints_getD hk]
set_option maxHeartbeats 1600000 in
theorem sizesOf_any(N:Int)(s:Value)(b:Option Addr)(xs:List Int)(bc:Nat)(w:World)(hN:N≤1024)(hx:xs.length≤9223372036854775807)(hi:Ints w b xs):
  Calls Tryz.prog 109 #[.agg #[.int .i64 N,s], .slice b xs.length bc] w fun e w'=> ∃v c S,e= .returned (.tuple #[.slice v S.length c, .int .i64 (szE N xs)])∧w'.ownsRow w.heap.size 3 1 (.slice v S.length c) S.length (cellsI (ints S))∧S=(if szE N xs=0 then szL xs else [])∧Below w.heap.size w w':=by
 have hb0:Below w.heap.size w (w.alloc (.cells #[.int .i64 N,s] 24)):=(Below.refl _ _).alloc (Nat.le_refl _) _
 have hg:=heap_top w (.cells #[.int .i64 N,s] 24)
 obtain⟨i3,hi3,hz3,hs3,hby3⟩:=info_parts info3
 obtain⟨E,HE⟩:=named (szE N xs)
 rw[HE.out]
 obtain⟨⟨c0,c1⟩,_⟩:=two_cells hg
 have HI:=hid (hi.on hb0)
 have HB0:=hid hb0
 clear hi hb0
 generalize hp:w.heap.size=p at*
 by_cases hxn: ¬(xs.length:Int)=N
 ·have e1:((xs.length:Int) != N)=true:=by simpa using hxn
  obtain rfl:E=80:=by rw[←HE.out];unfold szE;rw[if_pos (.inl hxn)]
  clear hxn
  go_enter Tryz.func109,Tryz.ntmps109
  go_wp2_with fail
  go_ret2
  exact⟨none,0,[],rfl,World.ownsRow_nil _ _ _ _,rfl,HB0.out⟩
 have hxn:(xs.length:Int)=N:=by simpa using hxn
 subst hxn
 have e1:((xs.length:Int) != (xs.length:Int))=false:=by simp
 have hxl:xs.length≤1024:=by omega
 have HEV:Hid (E=if tdy xs 0=false then 80 else 0):=by
  show _=_
  rw[←HE.out]
  unfold szE
  by_cases h:tdy xs 0=false
  ·rw[if_pos (.inr h),if_pos h]
  ·rw[if_neg (by rintro(h1 | h1);exact h1 rfl;exact h h1),if_neg h]
 obtain⟨V,HV⟩:=named (tdy xs 0)
 rw[HV.out] at HEV
 go_enter Tryz.func109,Tryz.ntmps109
 go_wp2_with fail
 have hWs:(w.alloc (.cells #[.int .i64 xs.length,s] 24)).heap.size=p+1:=by simp[hp]
 generalize hW:w.alloc (.cells #[.int .i64 xs.length,s] 24)=W at*
 clear hW c0 c1
 have hpz:p<W.heap.size:=lt_of_block hg
 obtain⟨ix,ox,hix⟩:=HI.out.get
 have HIX:=hid hix
 clear hix hg
 go_loopw [6,16] (fun s6 i wr=> ∃ (k:Nat) (av:Option Addr) (cv:Nat) (S:List Nat),k≤xs.length∧i= .int .i64 k∧s6= .slice av S.length cv∧S.length≤k∧Hid (szL (xs.take k)=S)∧Hid (tdy (xs.drop k) S.length=V)∧Hid (wr.ownsRow (p+1) 3 1 (.slice av S.length cv) S.length (cellsI (ints S)))∧Hid (Below (p+1) W wr)) (fun _ i _=>xs.length - (intOf i).toNat)
 case atStart=>exact⟨0,none,0,[],Nat.zero_le _,rfl,rfl,Nat.zero_le _,rfl,HV,World.ownsRow_nil _ _ _ _,Below.refl _ _⟩
 case round=>
  obtain⟨k,av,cv,S,hk,rfl,rfl,hSk,HS,HK,HOW,HBR⟩:=hrel
  have hwr:W.heap.size≤wr.heap.size:=HBR.out.size
  have HBP:Hid (Below p w wr):=HB0.out.trans (HBR.out.mono (by omega))
  by_cases hlk:k<xs.length
  ·obtain⟨rfl,hbl,hat⟩:=HIX.out (by omega)
   have hlk':(k:Int)<xs.length:=by omega
   have y0:=(HBR.out.cell (p:=⟨ix,ox+k,none⟩) (hWs▸hbl)).trans (hat k hlk)
   have hk2:=HK.out
   rw[drop_getI hlk] at hk2
   simp only[tdy] at hk2
   have HK2:=hid hk2
   have HSN:Hid (szL (xs.take (k+1))=szS S (xs.getD k 0).toNat):=by show _=_;rw[take_snocI hlk,szL_snoc,HS.out]
   clear hat hk2
   generalize xs.getD k 0=x at*
   by_cases h0:x<0
   ·obtain rfl:E=80:=by
     have h1:=HK2.out
     rw[if_pos (.inl h0)] at h1
     rw[HEV.out,if_pos h1.symm]
    go_wp2_with fail
    go_ret2
    exact⟨none,0,[],rfl,World.ownsRow_nil _ _ _ _,rfl,HBP.out⟩
   ·by_cases h1:(S.length:Int)<x
    ·obtain rfl:E=80:=by
      have h2:=HK2.out
      rw[if_pos (.inr h1)] at h2
      rw[HEV.out,if_pos h2.symm]
     go_wp2_with fail
     go_ret2
     exact⟨none,0,[],rfl,World.ownsRow_nil _ _ _ _,rfl,HBP.out⟩
    ·rw[if_neg (by omega)] at HK2
     obtain⟨y,hy⟩: ∃y:Nat,x=y:=⟨x.toNat,by omega⟩
     subst hy
     rw[Int.toNat_natCast] at HSN
     by_cases h2:y=S.length
     ·subst h2
      have hq:((S.length:Int)==(S.length:Int))=true:=by simp
      have HNS:Hid (szS S S.length=S++[1]):=if_pos rfl
      rw[HNS.out] at HSN
      rw[if_pos rfl] at HK2
      have HK3:Hid (tdy (xs.drop (k+1)) (((S++[1]).length:Nat):Int)=V):=by
       have h3:=HK2.out
       rw[show((S.length:Int)+1)=(((S++[1]).length:Nat):Int) by rw[List.length_append];rfl] at h3
       exact h3
      have HNW:=hid (one_new wr 0)
      have HO2:=hid (HOW.out.alloc (.cells #[.int .i64 0] 3))
      have HBZ:Hid (p+1≤(wr.alloc (.cells #[.int .i64 0] 3)).heap.size):=by show _≤_;rw[World.size_alloc];omega
      have HBB:Hid (Below (p+1) W (wr.alloc (.cells #[.int .i64 0] 3))):=HBR.out.alloc (by omega) _
      have HOL:Hid (∀b,(Value.slice av S.length cv).ownBlock=some b→p+1≤b):=fun b hb=>(HOW.out.lt b hb).1
      have HCA:Hid (cellsI (ints S)++[.int .i64 0]=cellsI (ints (S++[0]))):=by show _=_;rw[ints_snoc,←cellsI_snoc];rfl
      have hs8:S.length≤1024:=by omega
      go_wp2_with (at_builtin;refine wpList_append_own _ rfl (.tmp 32) (.tmp 33) 25 rfl (p+1) 3 i3 (.int .i64 0) 1 8 Tryz.underlying25 hi3 hz3 hs3 hby3 rfl (by decide) (.slice av S.length cv) S.length (cellsI (ints S)) rfl HO2.out ⟨wr.heap.size,0,none⟩ 1 1 [.int .i64 0] rfl rfl HNW.out (one_i64 _) (by unfold maxLen;omega) (by omega) HBZ.out ?_;intro v6 w6 hown6 hgrow6 hnil6;obtain⟨g6,c6,hv6,_,hc6,_,hm6⟩:=own_shape hown6 (fun e=>by have:=hnil6.1 e;simp at this);subst hv6;rw[HCA.out] at hown6;have h7:w6.ownsRow (p+1) 3 1 (.slice (some ⟨g6,0,none⟩) (S++[0]).length c6) (S++[0]).length (cellsI (ints (S++[0]))):=(by rw[List.length_append];exact hown6);have d1:=own_cellI h7 (k:=S.length) (by rw[List.length_append];simp);have d2:=World.ownsRow.frozenAt h7 S.length;rw[getD_end S 0] at d1;have HO7:=hid (own_setI h7 S.length 1);have HB6:Hid (Below (p+1) W w6):=HBB.out.grown hgrow6 HBZ.out (fun j hj=>HOL.out j hj);have hg6:p+1≤g6:=(h7.lt g6 rfl).1;have hc6':((S.length:Int)+1)≤c6:=(by omega);clear hown6 hgrow6 hnil6 h7)
      rw[set_end S 0 1] at HO7
      refine⟨⟨k+1,some ⟨g6,0,none⟩,c6,S++[1],by omega,by simp,by rw[List.length_append];rfl,by rw[List.length_append];simp;omega,HSN,HK3,HO7,hid (HB6.out.setCell hg6 _)⟩,by simp[intOf];omega⟩
     ·have hq:((y:Int)==(S.length:Int))=false:=by simp;omega
      have hy:y<S.length:=by omega
      have hy':(y:Int)<S.length:=by omega
      have HNS:Hid (szS S y=S.set y (S.getD y 0+1)):=if_neg h2
      rw[HNS.out] at HSN
      rw[if_neg (by omega)] at HK2
      have HK3:Hid (tdy (xs.drop (k+1)) (((S.set y (S.getD y 0+1)).length:Nat):Int)=V):=by rw[List.length_set];exact HK2
      obtain⟨g,cg,hv,hg1,_,_,_⟩:=own_shape HOW.out (fun e=>by injection e with _ e2 _;omega)
      injection hv with hv1 _ hv3
      subst hv1 hv3
      have d1:=own_cellI HOW.out hy
      have d2:=World.ownsRow.frozenAt HOW.out y
      have HO7:=hid (own_setI HOW.out y (S.getD y 0+1))
      have hsz:(((S.getD y 0:Nat):Int)+1)≤1000000:=by
       have h3:=szL_le (xs.take k) y
       rw[HS.out,List.length_take] at h3
       omega
      generalize S.getD y 0=sy at*
      clear h2
      go_wp2_with fail
      refine⟨⟨k+1,some ⟨g,0,none⟩,cv,S.set y (sy+1),by omega,by simp,by rw[List.length_set],by rw[List.length_set];omega,HSN,HK3,?_,hid (HBR.out.setCell hg1 _)⟩,by simp[intOf];omega⟩
      exact HO7
  ·have e0:xs.drop k= []:=List.drop_eq_nil_of_le (by omega)
   have e2:xs.take k=xs:=List.take_of_length_le (by omega)
   have hlk': ¬(k:Int)<xs.length:=by omega
   rw[e0] at HK
   rw[e2] at HS
   obtain rfl:E=0:=by
    have h3:V=true:=HK.out.symm
    rw[HEV.out,h3];rfl
   clear e0 e2
   go_wp2_with fail
   go_ret2
   exact⟨av,cv,S,rfl,own_base HOW.out (by omega),HS.out.symm,HBP.out⟩
def siE(N:Int)(l:List A)(xs:List Int):Int:=if chkE N l≠0 then chkE N l else szE N xs
set_option maxHeartbeats 1600000 in
theorem sizes_any(N:Int)(a:Option Addr)(l:List A)(cap:Nat)(b:Option Addr)(xs:List Int)(bc:Nat)(w:World)(hl:l.length≤9223372036854775807)(hx:xs.length≤9223372036854775807)(hr:Arcs w a l)(hi:Ints w b xs):
  Calls Tryz.prog 77 #[.agg #[.int .i64 N, .slice a l.length cap], .slice b xs.length bc] w fun e w'=> ∃v c S,e= .returned (.tuple #[.slice v S.length c, .int .i64 (siE N l xs)])∧w'.ownsRow w.heap.size 3 1 (.slice v S.length c) S.length (cellsI (ints S))∧S=(if siE N l xs=0 then szL xs else [])∧Below w.heap.size w w':=by
 have hb0:Below w.heap.size w (w.alloc (.cells #[.int .i64 N, .slice a l.length cap] 24)):=(Below.refl _ _).alloc (Nat.le_refl _) _
 have hg:=heap_top w (.cells #[.int .i64 N, .slice a l.length cap] 24)
 have HR:=hid (hr.on hb0)
 have HI:=hid (hi.on hb0)
 have hwz:w.heap.size≤(w.alloc (.cells #[.int .i64 N, .slice a l.length cap] 24)).heap.size:=hb0.size
 have HB0:=hid hb0
 obtain⟨AT,HAT⟩:=named (chkAt N l)
 obtain⟨E,HE⟩:=named (chkE N l)
 obtain⟨R,HRR⟩:=named (if siE N l xs=0 then szL xs else [])
 rw[HRR.out]
 obtain⟨G,HG⟩:=named (siE N l xs)
 rw[HG.out] at HRR ⊢
 clear hb0 hr hi
 generalize hp:w.heap.size=p at*
 go_enter Tryz.func77,Tryz.ntmps77
 go_wp2_with fail
 generalize hW:w.alloc (.cells #[.int .i64 N, .slice a l.length cap] 24)=W at*
 clear hW
 have hpz:p<W.heap.size:=lt_of_block hg
 refine(check_any N a l cap W hl HR.out).mono ?_
 rintro e w1 ⟨rfl,hb1⟩
 have HB1:Hid (Below p w w1):=HB0.out.trans (hb1.mono hwz)
 have hg1:=(hb1.block p hpz).trans hg
 obtain⟨⟨c0,c1'⟩,_⟩:=two_cells hg1
 have HI1:=hid (HI.out.on hb1)
 have hz1:p<w1.heap.size:=lt_of_block hg1
 rw[HE.out,HAT.out]
 clear hb1 HR hg hwz HI
 by_cases hE:E≠0
 ·have e1:(E != 0)=true:=by simpa using hE
  obtain rfl:G=E:=by rw[←HG.out];unfold siE;rw[if_pos (by rw[HE.out];exact hE),HE.out]
  obtain rfl:R= []:=by rw[←HRR.out,if_neg hE]
  go_wp2_with fail
  go_ret2
  exact⟨none,0,[],rfl,World.ownsRow_nil _ _ _ _,rfl,HB1.out⟩
 obtain rfl:E=0:=by omega
 clear hE
 have HGZ:Hid (szE N xs=G):=by show _=_;rw[←HG.out];unfold siE;rw[if_neg (by rw[HE.out];omega)]
 have HSZ:=hid (sizesOf_any N (.slice a l.length cap) b xs bc w1 (by have:=(chk_zero HE.out).2.1;omega) hx HI1.out)
 rw[HGZ.out,HRR.out] at HSZ
 go_wp2_with fail
 refine HSZ.out.mono ?_
 rintro e w2 ⟨v2,c2,S,rfl,hown2,hS,hb2⟩
 have HB2:Hid (Below p w w2):=HB1.out.trans (hb2.mono (by omega))
 have HO2:=hid (own_base hown2 (Nat.le_of_lt hz1))
 have HS:=hid hS
 clear hb2 hown2 hS
 go_wp2_with fail
 go_ret2
 exact⟨v2,c2,S,rfl,HO2.out,HS.out,HB2.out⟩
def ckE(N:Int)(l:List A)(xs:List Int)(bd:Int):Int:=if siE N l xs≠0 then siE N l xs else if bd<1∨1024<bd then 1 else 0
set_option maxHeartbeats 1600000 in
theorem scheck_any(N:Int)(a:Option Addr)(l:List A)(cap:Nat)(b:Option Addr)(xs:List Int)(bc:Nat)(bd:Int)(w:World)(hl:l.length≤9223372036854775807)(hx:xs.length≤9223372036854775807)(hr:Arcs w a l)(hi:Ints w b xs):
  Calls Tryz.prog 87 #[.agg #[.int .i64 N, .slice a l.length cap], .slice b xs.length bc, .int .i64 bd] w fun e w'=> ∃v c S,e= .returned (.tuple #[.slice v S.length c, .int .i64 (ckE N l xs bd)])∧w'.ownsRow w.heap.size 3 1 (.slice v S.length c) S.length (cellsI (ints S))∧S=(if ckE N l xs bd=0 then szL xs else [])∧Below w.heap.size w w':=by
 have hb0:Below w.heap.size w (w.alloc (.cells #[.int .i64 N, .slice a l.length cap] 24)):=(Below.refl _ _).alloc (Nat.le_refl _) _
 have hg:=heap_top w (.cells #[.int .i64 N, .slice a l.length cap] 24)
 have HR:=hid (hr.on hb0)
 have HI:=hid (hi.on hb0)
 have hwz:w.heap.size≤(w.alloc (.cells #[.int .i64 N, .slice a l.length cap] 24)).heap.size:=hb0.size
 have HB0:=hid hb0
 obtain⟨R,HRR⟩:=named (if ckE N l xs bd=0 then szL xs else [])
 rw[HRR.out]
 obtain⟨G,HG⟩:=named (ckE N l xs bd)
 rw[HG.out] at HRR ⊢
 obtain⟨E,HE⟩:=named (siE N l xs)
 obtain⟨Z,HZ⟩:=named (if siE N l xs=0 then szL xs else [])
 have HSZ:=hid (sizes_any N a l cap b xs bc (w.alloc (.cells #[.int .i64 N, .slice a l.length cap] 24)) hl hx HR.out HI.out)
 rw[HZ.out,HE.out] at HSZ
 rw[HE.out] at HZ
 clear hb0 hr hi
 generalize hp:w.heap.size=p at*
 go_enter Tryz.func87,Tryz.ntmps87
 go_wp2_with fail
 generalize hW:w.alloc (.cells #[.int .i64 N, .slice a l.length cap] 24)=W at*
 clear hW
 refine HSZ.out.mono ?_
 rintro e w1 ⟨v1,c1,S,rfl,hown1,hS,hb1⟩
 have HB1:Hid (Below p w w1):=HB0.out.trans (hb1.mono hwz)
 have HO1:=hid (own_base hown1 hwz)
 have HS:=hid hS
 clear hb1 hg hown1 hS HSZ
 by_cases hE:E≠0
 ·have e1:(E != 0)=true:=by simpa using hE
  obtain rfl:G=E:=by rw[←HG.out];unfold ckE;rw[if_pos (by rw[HE.out];exact hE),HE.out]
  obtain rfl:R= []:=by rw[←HRR.out,if_neg hE]
  go_wp2_with fail
  go_ret2
  exact⟨none,0,[],rfl,World.ownsRow_nil _ _ _ _,rfl,HB1.out⟩
 obtain rfl:E=0:=by omega
 clear hE
 have HGB:Hid (G=if bd<1∨1024<bd then 1 else 0):=by show _=_;rw[←HG.out];unfold ckE;rw[if_neg (by rw[HE.out];omega)]
 by_cases h1:bd<1
 ·obtain rfl:G=1:=by rw[HGB.out,if_pos (.inl h1)]
  obtain rfl:R= []:=by rw[←HRR.out];rfl
  go_wp2_with fail
  go_ret2
  exact⟨none,0,[],rfl,World.ownsRow_nil _ _ _ _,rfl,HB1.out⟩
 ·by_cases h2:1024<bd
  ·obtain rfl:G=1:=by rw[HGB.out,if_pos (.inr h2)]
   obtain rfl:R= []:=by rw[←HRR.out];rfl
   go_wp2_with fail
   go_ret2
   exact⟨none,0,[],rfl,World.ownsRow_nil _ _ _ _,rfl,HB1.out⟩
  ·obtain rfl:G=0:=by rw[HGB.out,if_neg (by omega)]
   obtain rfl:R=S:=by rw[←HRR.out,if_pos rfl,HS.out,←HZ.out,if_pos rfl]
   go_wp2_with fail
   go_ret2
   exact⟨v1,c1,R,rfl,HO1.out,rfl,HB1.out⟩
theorem tdy_labs{R:Nat→Nat}(h:T3.RT R)(n:Nat): ∀j k,k+j=n→tdy ((T3.ints (T3.labs R n)).drop k) (T3.cnt R k)=true
 | 0,k,e=>by
   rw[List.drop_eq_nil_of_le (by rw[T3.ints_len,T3.labs_len];omega)]
   rfl
 | j+1,k,e=>by
   have hk:k<(T3.ints (T3.labs R n)).length:=by rw[T3.ints_len,T3.labs_len];omega
   have ih:=tdy_labs h n j (k+1) (by omega)
   rw[drop_getI hk,T3.ints_getD,T3.labs_getD R n k (by omega)]
   simp only[tdy]
   rcases T3.lab_step h k with ⟨h1,h2⟩ | ⟨h1,h2⟩
   ·rw[h1,if_neg (by omega),if_pos rfl]
    rw[h2] at ih
    exact ih
   ·rw[if_neg (by omega),if_neg (by omega)]
    rw[h2] at ih
    exact ih
def fstI(xs:List Int):Nat→Nat→Nat
 | 0,_=>0
 | k+1,v=>if fstI xs k v<k then fstI xs k v else if xs.getD k 0=xs.getD v 0 then k else k+1
theorem fstI_le(xs:List Int)(v:Nat): ∀k,fstI xs k v≤k
 | 0=>Nat.le_refl _
 | k+1=>by
   simp only[fstI]
   split
   ·omega
   ·split <;> omega
theorem fstI_hit(xs:List Int)(v:Nat): ∀k,fstI xs k v<k→xs.getD (fstI xs k v) 0=xs.getD v 0
 | 0,h=>absurd h (by omega)
 | k+1,h=>by
   simp only[fstI] at h ⊢
   split
   ·rename_i h1
    exact fstI_hit xs v k h1
   ·rename_i h1
    rw[if_neg h1] at h
    split
    ·rename_i h2;exact h2
    ·rename_i h2
     rw[if_neg h2] at h
     omega
theorem fstI_min(xs:List Int)(v:Nat): ∀k u,u<fstI xs k v→xs.getD u 0≠xs.getD v 0
 | 0,u,h=>absurd h (by simp[fstI])
 | k+1,u,h=>by
   simp only[fstI] at h
   split at h
   ·exact fstI_min xs v k u h
   ·rename_i h1
    have h0:=fstI_le xs v k
    have e:fstI xs k v=k:=by omega
    split at h
    ·exact fstI_min xs v k u (by omega)
    ·rename_i h2
     by_cases e2:u=k
     ·subst e2;exact h2
     ·exact fstI_min xs v k u (by omega)
def ldI(xs:List Int)(v:Nat):Nat:=fstI xs v v
theorem ldI_le(xs:List Int)(v:Nat):ldI xs v≤v:=fstI_le xs v v
theorem ldI_at(xs:List Int)(v:Nat):xs.getD (ldI xs v) 0=xs.getD v 0:=by
 rcases Nat.lt_or_ge (ldI xs v) v with h | h
 ·exact fstI_hit xs v v h
 ·have:=ldI_le xs v
  rw[show ldI xs v=v by omega]
theorem ldI_min{xs:List Int}{u v:Nat}(h:u<ldI xs v):xs.getD u 0≠xs.getD v 0:=fstI_min xs v v u h
theorem ldI_eq{xs:List Int}{u v:Nat}(h:xs.getD u 0=xs.getD v 0):ldI xs u=ldI xs v:=by
 rcases Nat.lt_trichotomy (ldI xs u) (ldI xs v) with e | e | e
 ·exact absurd ((ldI_at xs u).trans h) (ldI_min e)
 ·exact e
 ·exact absurd ((ldI_at xs v).trans h.symm) (ldI_min e)
theorem ldI_iff{xs:List Int}{u v:Nat}:xs.getD u 0=xs.getD v 0↔ldI xs u=ldI xs v:=by
 refine⟨ldI_eq,fun h=> ?_⟩
 rw[←ldI_at xs u,h,ldI_at]
theorem ldI_RT(xs:List Int):T3.RT (ldI xs):=⟨ldI_le xs,fun v=>ldI_eq (ldI_at xs v)⟩
theorem tdy_step{xs:List Int}: ∀j k,k+j=xs.length→tdy (xs.drop k) (T3.cnt (ldI xs) k)=true→(∀i,i<k→xs.getD i 0=(T3.lab (ldI xs) i:Nat))→∀i,i<xs.length→xs.getD i 0=(T3.lab (ldI xs) i:Nat)
 | 0,k,e,_,h=>fun i hi=>h i (by omega)
 | j+1,k,e,ht,h=>by
   have hk:k<xs.length:=by omega
   rw[drop_getI hk] at ht
   simp only[tdy] at ht
   split at ht
   ·cases ht
   ·rename_i hx
    have hRT:=ldI_RT xs
    split at ht
    ·rename_i he
     have hkk:ldI xs k=k:=by
      rcases Nat.lt_or_ge (ldI xs k) k with h2 | h2
      ·have h3:=h _ h2
       rw[ldI_at,he] at h3
       have h4:T3.lab (ldI xs) (ldI xs k)<T3.cnt (ldI xs) k:=by
        unfold T3.lab
        rw[hRT.rr]
        exact T3.cnt_root (hRT.rr k) h2
       omega
      ·have:=ldI_le xs k
       omega
     refine tdy_step j (k+1) (by omega) ?_ (fun i hi=> ?_)
     ·rw[T3.cnt,if_pos hkk]
      exact ht
     ·by_cases e2:i=k
      ·subst e2
       rw[he]
       unfold T3.lab
       rw[hkk]
      ·exact h i (by omega)
    ·rename_i he
     obtain⟨v,hv1,hv2,hv3⟩:=T3.cnt_find (R:=ldI xs) (n:=k) (p:=(xs.getD k 0).toNat) (by omega)
     have h3:=h v hv1
     have h4:T3.lab (ldI xs) v=(xs.getD k 0).toNat:=by unfold T3.lab;rw[hv2,hv3]
     have h5:xs.getD v 0=xs.getD k 0:=by omega
     have h6:=ldI_eq h5
     have hkk:ldI xs k≠k:=by rw[←h6,hv2];omega
     refine tdy_step j (k+1) (by omega) ?_ (fun i hi=> ?_)
     ·rw[T3.cnt,if_neg hkk]
      exact ht
     ·by_cases e2:i=k
      ·subst e2
       unfold T3.lab
       rw[←h6,hv2,hv3]
       omega
      ·exact h i (by omega)
theorem tdy_iff(xs:List Int):tdy xs 0=true↔xs=T3.ints (T3.labs (ldI xs) xs.length):=by
 constructor
 ·intro h
  have:=tdy_step (xs:=xs) xs.length 0 (by omega) h (fun i hi=>by omega)
  exact T3.ext_labs rfl this
 ·intro h
  have:=tdy_labs (ldI_RT xs) xs.length xs.length 0 (by omega)
  rw[List.drop_zero,←h] at this
  exact this
end Go.Proofs.YtmenajiceaicpaaGreat
