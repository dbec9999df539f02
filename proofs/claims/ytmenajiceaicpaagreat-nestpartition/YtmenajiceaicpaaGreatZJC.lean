import Derived.DeepKeys4
import Derived.Test.YtmenajiceaicpaaGreatZJA
import Derived.Test.YtmenajiceaicpaaGreatZAK
import Derived.Deep.DeepMust
open Go.Lib (hid)
set_option maxRecDepth 100000
namespace Go.Proofs.YtmenajiceaicpaaGreat
open Go.RowKit Go.Maps
theorem laidT:laidOutB Tryz.prog=true:=by kernel_rfl
theorem row60:(128:TypeId)<Tryz.prog.types.size:=of_decide_eq_true (by kernel_rfl)
theorem wide60:(match Tryz.prog.underlying 128 with | some (.array _ _) | some (.struct _)=>true | _=>false)=true:=by rw[Tryz.underlying128]
theorem lawK:Keyed Tryz.prog 128:=Keyed.of_law (deep_law_laid laidT (m:=2) (by omega) row60 (by kernel_rfl) wide60)
def kK(x y:Nat):Lit:= .string (keyBytes [.int .i64 (x:Int), .int .i64 (y:Int), .int .i64 0])
theorem keyType60:Tryz.prog.keyType 128=true:=by kernel_rfl
theorem cells60:Tryz.prog.cellsOf 128=3:=by kernel_rfl
theorem cells3:Tryz.prog.cellsOf 3=1:=by kernel_rfl
theorem size_types: ∃k,Tryz.prog.types.size+1=k+2:=by
 have h:(128:Nat)<Tryz.prog.types.size:=row60
 exact⟨Tryz.prog.types.size - 1,by omega⟩
theorem formedK(x y z:Value):(Value.agg #[x,y,z]).formed Tryz.prog 128=true:=by simp[Value.formed,Tryz.underlying128,cells60]
theorem keyOfK(x y:Nat)(ha:x≤1024)(hb:y≤1024):keyOf Tryz.prog 128 (.agg #[.int .i64 (x:Int), .int .i64 (y:Int), .int .i64 0])=some (kK x y):=by
 obtain⟨k,hk⟩:=size_types
 have w1:=wfN (x:=x) (by omega)
 have w2:=wfN (x:=y) (by omega)
 have w3:(Lit.int .i64 (0:Int)).wf=true:=wfN (x:=0) (by omega)
 unfold keyOf
 rw[Tryz.underlying128,hk]
 simp only[keyType60,formedK,Bool.and_self,if_true]
 simp[Program.keyLits,Tryz.underlying128,Tryz.underlying3,cells60,cells3,Value.cells,w1,w2,w3,kK]
theorem kK_inj{x y x' y':Nat}(h1:x≤1024)(h2:y≤1024)(h3:x'≤1024)(h4:y'≤1024)(h:kK x y=kK x' y'):x=x'∧y=y':=by
 have e:=lawK.inj (keyOfK x y h1 h2) (h▸keyOfK x' y' h3 h4)
 simp only[Value.agg.injEq,Array.mk.injEq,List.cons.injEq,Value.int.injEq,and_true,true_and] at e
 omega
theorem kK_lit{x y:Nat}(h1:x≤1024)(h2:y≤1024):WideAt.IsKeyLit (kK x y):=lawK.key (keyOfK x y h1 h2)
def SmK(l:List K):Prop:= ∀x,x∈l→x.a≤1024∧x.b≤1024
def MapK(w:World)(z nn:Nat)(l:List K):Prop:= ∃D:DataW Unit,w.ownsMap Tryz.prog 128 (plainElem (H:=Unit) Tryz.prog 3) z nn D∧(∀i,i<l.length→Maps.has D (kK (l.getD i K.zero).a (l.getD i K.zero).b)=true∧D.atKey (kK (l.getD i K.zero).a (l.getD i K.zero).b) (.lit (.int .i64 0))= .lit (.int .i64 (i:Int)))∧∀x y,x≤1024→y≤1024→(∀i,i<l.length→¬((l.getD i K.zero).a=x∧(l.getD i K.zero).b=y))→Maps.has D (kK x y)=false
theorem MapK.made(w:World):MapK (w.alloc (.map #[] 0)) w.heap.size 0 []:=⟨_,World.ownsMap_made _ _ _ _,fun i hi=>absurd hi (by simp),fun x y _ _ _=>by simp[Maps.has]⟩
theorem MapK.kept{w w':World}{z nn:Nat}{l:List K}{row:Option Nat}(h:MapK w z nn l)(hg:w.grownBy w' row)(hne:some z≠row):MapK w' z nn l:=by
 obtain⟨D,h1,h2⟩:=h
 exact⟨D,h1.kept hg hne,h2⟩
theorem MapK.on{w w':World}{z nn:Nat}{l:List K}(h:MapK w z nn l)(hb:Below w.heap.size w w'):MapK w' z nn l:=h.kept (row:=none) ⟨hb.os,hb.tape,hb.output,hb.size,fun k hk _=>hb.block k hk⟩ (by simp)
theorem MapK.lt{w:World}{z nn:Nat}{l:List K}(h:MapK w z nn l):z<w.heap.size:=by
 obtain⟨D,h1,_⟩:=h
 exact h1.lt
theorem MapK.like{w:World}{z nn:Nat}{l l':List K}(h:MapK w z nn l)(hl:l'.length=l.length)(he: ∀i,i<l.length→(l'.getD i K.zero).a=(l.getD i K.zero).a∧(l'.getD i K.zero).b=(l.getD i K.zero).b):MapK w z nn l':=by
 obtain⟨D,h1,h2,h3⟩:=h
 refine⟨D,h1,fun i hi=> ?_,fun x y hx hy hn=>h3 x y hx hy (fun i hi=> ?_)⟩
 ·rw[hl] at hi
  rw[(he i hi).1,(he i hi).2]
  exact h2 i hi
 ·have:=hn i (by omega)
  rw[(he i hi).1,(he i hi).2] at this
  exact this
theorem cellsK_n(y:K): ∀ (R:List K) (k:Nat),k<R.length→(R.getD k K.zero).a=y.a→(R.getD k K.zero).b=y.b→cellsK (R.set k y)=(cellsK R).set (k*3+2) (.int .i64 (y.n:Int))
 | [],k,h,_,_=>by simp at h
 | x::r,0,_,h1,h2=>by
   have h1:x.a=y.a:=h1
   have h2:x.b=y.b:=h2
   simp[cellsK,h1,h2]
 | x::r,k+1,h,h1,h2=>by
   have ih:=cellsK_n y r k (by simpa using h) (by simpa using h1) (by simpa using h2)
   rw[show(k+1)*3+2=k*3+2+3 by omega]
   simpa[cellsK] using ih
theorem own_setN{w:World}{B g c:Nat}{R:List K}(h:w.ownsRow B 128 3 (.slice (some ⟨g,0,none⟩) R.length c) R.length (cellsK R)){k:Nat}{y:K}(hk:k<R.length)(h1:(R.getD k K.zero).a=y.a)(h2:(R.getD k K.zero).b=y.b):(w.setCell ⟨g,k*3+2,none⟩ (.int .i64 (y.n:Int))).ownsRow B 128 3 (.slice (some ⟨g,0,none⟩) (R.set k y).length c) (R.set k y).length (cellsK (R.set k y)):=by
 have h3:=(World.ownsRow.stored h (k*3+2) (.int .i64 (y.n:Int))).1
 rw[←cellsK_n y R k hk h1 h2] at h3
 rw[List.length_set]
 exact h3
theorem take_snocR{P:List Pr}{k:Nat}(h:k<P.length):P.take (k+1)=P.take k++[P.getD k Pr.zero]:=by
 rw[List.take_succ_eq_append_getElem h]
 simp[List.getD,h]
theorem getD_memR{P:List Pr}{k:Nat}(h:k<P.length):P.getD k Pr.zero∈P:=by simp[List.getD,h]
theorem getD_memN{L:List Nat}{k:Nat}(h:k<L.length):L.getD k 0∈L:=by simp[List.getD,h]
theorem rowK_atS{w:World}{B g c:Nat}{R:List K}(h:w.ownsRow B 128 3 (.slice (some ⟨g,0,none⟩) R.length c) R.length (cellsK R))(j:Nat)(hj:j<R.length):(R.getD j K.zero).at w g (j*3):=OwnK.at h j hj
def LabAt(L:List Nat)(q:Pr)(la lb:Nat):Prop:=L.getD q.a 0=la∧L.getD q.b 0=lb
theorem Lks.skipL{P:List Pr}{L:List Nat}{l:List K}(h:Lks P L l){p:Pr}{la:Nat}(e:LabAt L p la la):Lks (P++[p]) L l:=h.skip (e.1.trans e.2.symm)
theorem Lks.newL{P:List Pr}{L:List Nat}{l:List K}(h:Lks P L l){p:Pr}{la lb x y:Nat}(e:LabAt L p la lb)(hne:la≠lb)(hx:x=min la lb)(hy:y=max la lb)(hn: ∀i,i<l.length→¬((l.getD i K.zero).a=x∧(l.getD i K.zero).b=y)):Lks (P++[p]) L (l++[⟨x,y,1⟩]):=
 h.new (by rw[e.1,e.2];exact hne) (by rw[e.1,e.2];exact hx) (by rw[e.1,e.2];exact hy) (fun m hm=>by obtain⟨j,hj,rfl⟩:=mem_getDK hm;exact hn j hj)
theorem Lks.moreL{P:List Pr}{L:List Nat}{l:List K}(h:Lks P L l){p:Pr}{la lb x y i n:Nat}(e:LabAt L p la lb)(hne:la≠lb)(hx:x=min la lb)(hy:y=max la lb)(hi:i<l.length)(he:l.getD i K.zero=⟨x,y,n⟩):Lks (P++[p]) L (l.set i ⟨x,y,n+1⟩):=
 h.more (by rw[e.1,e.2];exact hne) (by rw[e.1,e.2];exact hx) (by rw[e.1,e.2];exact hy) hi he
theorem Lks.len{P:List Pr}{L:List Nat}{l:List K}(h:Lks P L l){i x y n:Nat}(hi:i<l.length)(he:l.getD i K.zero=⟨x,y,n⟩):n≤P.length:=by
 have h1:=h.fit _ (getD_memK hi)
 rw[he] at h1
 have h2:n=bw P L x y:=h1.2.1
 rw[h2]
 exact bw_le P L x y
theorem SmK.set{l:List K}(h:SmK l)(i:Nat){x y n:Nat}(hx:x≤1024)(hy:y≤1024):SmK (l.set i ⟨x,y,n⟩):=fun m hm=>by
 rcases List.mem_or_eq_of_mem_set hm with h1 | h1
 ·exact h m h1
 ·rw[h1];exact⟨hx,hy⟩
theorem SmK.snoc{l:List K}(h:SmK l){x y n:Nat}(hx:x≤1024)(hy:y≤1024):SmK (l++[⟨x,y,n⟩]):=fun m hm=>by
 rcases List.mem_append.1 hm with h1 | h1
 ·exact h m h1
 ·rw[List.mem_singleton] at h1;rw[h1];exact⟨hx,hy⟩
theorem MapK.set{w:World}{z nn:Nat}{l:List K}(h:MapK w z nn l){i x y n:Nat}(hi:i<l.length)(h1:(l.getD i K.zero).a=x)(h2:(l.getD i K.zero).b=y):MapK w z nn (l.set i ⟨x,y,n⟩):=
 h.like (List.length_set ..) (fun j hj=>by
  rw[getD_setK l i j _ hi]
  split
  ·rename_i e;subst e;exact⟨h1.symm,h2.symm⟩
  ·exact⟨rfl,rfl⟩)
theorem MapK.cell{w:World}{z nn:Nat}{l:List K}(h:MapK w z nn l){a:Addr}(v:Value)(hne:z≠a.block):MapK (w.setCell a v) z nn l:=by
 obtain⟨D,h1,h2⟩:=h
 exact⟨D,h1.setCell hne v,h2⟩
theorem getD_appL(l:List K)(x:K){j:Nat}(h:j<l.length):(l++[x]).getD j K.zero=l.getD j K.zero:=by simp[List.getD,List.getElem?_append_left h]
theorem getD_appR(l:List K)(x:K):(l++[x]).getD l.length K.zero=x:=by simp[List.getD]
theorem set_appR(l:List K)(x y:K):(l++[x]).set l.length y=l++[y]:=by simp
theorem MapK.put{D:DataW Unit}{l:List K}{x y n:Nat}(hD:IsMap D)(hs:SmK l)(hx:x≤1024)(hy:y≤1024)
  (h2: ∀i,i<l.length→Maps.has D (kK (l.getD i K.zero).a (l.getD i K.zero).b)=true∧D.atKey (kK (l.getD i K.zero).a (l.getD i K.zero).b) (.lit (.int .i64 0))= .lit (.int .i64 (i:Int)))
  (h3: ∀x y,x≤1024→y≤1024→(∀i,i<l.length→¬((l.getD i K.zero).a=x∧(l.getD i K.zero).b=y))→Maps.has D (kK x y)=false)
  (hn: ∀i,i<l.length→¬((l.getD i K.zero).a=x∧(l.getD i K.zero).b=y)):
  (∀i,i<(l++[(⟨x,y,n⟩:K)]).length→Maps.has (D.put (kK x y) (.lit (.int .i64 (l.length:Int)))) (kK ((l++[(⟨x,y,n⟩:K)]).getD i K.zero).a ((l++[(⟨x,y,n⟩:K)]).getD i K.zero).b)=true∧(D.put (kK x y) (.lit (.int .i64 (l.length:Int)))).atKey (kK ((l++[(⟨x,y,n⟩:K)]).getD i K.zero).a ((l++[(⟨x,y,n⟩:K)]).getD i K.zero).b) (.lit (.int .i64 0))= .lit (.int .i64 (i:Int)))∧
  ∀x' y',x'≤1024→y'≤1024→(∀i,i<(l++[(⟨x,y,n⟩:K)]).length→¬(((l++[(⟨x,y,n⟩:K)]).getD i K.zero).a=x'∧((l++[(⟨x,y,n⟩:K)]).getD i K.zero).b=y'))→Maps.has (D.put (kK x y) (.lit (.int .i64 (l.length:Int)))) (kK x' y')=false:=by
 refine⟨fun i hi=> ?_,fun x' y' hx' hy' hn'=> ?_⟩
 ·rw[List.length_append,List.length_singleton] at hi
  by_cases e:i=l.length
  ·subst e
   rw[getD_appR]
   exact⟨has_put_same hD (kK_lit hx hy) _,atKey_put_same hD (kK_lit hx hy) _ _⟩
  ·have hil:i<l.length:=by omega
   rw[getD_appL l _ hil]
   have hsm:=hs _ (getD_memK hil)
   have hne:kK (l.getD i K.zero).a (l.getD i K.zero).b≠kK x y:=fun e2=>hn i hil (kK_inj hsm.1 hsm.2 hx hy e2)
   rw[has_put_other hne,atKey_put_other hne]
   exact h2 i hil
 ·have hne:kK x' y'≠kK x y:=fun e2=>hn' l.length (by simp) (by rw[getD_appR];have:=kK_inj hx' hy' hx hy e2;exact⟨this.1.symm,this.2.symm⟩)
  rw[has_put_other hne]
  refine h3 x' y' hx' hy' (fun i hi=> ?_)
  have:=hn' i (by rw[List.length_append];omega)
  rw[getD_appL l _ hi] at this
  exact this
set_option maxHeartbeats 3200000 in
theorem linksOf_any(pa:Option Addr)(P:List Pr)(pc:Nat)(b:Option Addr)(L:List Nat)(bc:Nat)(w:World)(hP:P.length≤8192)(hL:L.length≤1024)(hPI:PIn P L.length)(hM: ∀x,x∈L→x≤1024)(hpr:Prs w pa P)(hi:Ints w b (ints L)):
  Calls Tryz.prog 123 #[.slice pa P.length pc, .slice b L.length bc] w fun e w'=> ∃v c l,e= .returned (.slice v l.length c)∧w'.ownsRow w.heap.size 128 3 (.slice v l.length c) l.length (cellsK l)∧Hid (Lks P L l)∧l.length≤P.length∧Below w.heap.size w w':=by
 obtain⟨i0,hi0,hz0,hz1,hz2⟩:=info_parts info60K
 have hmm:= @run_makeMap Tryz.prog
 obtain⟨ib,io,hib⟩:=hpr.get
 obtain⟨ix,ox,hix⟩:=hi.get
 have HIB:=hid hib
 have HIX:=hid hix
 have HPI:=hid hPI
 have HMX:=hid hM
 clear hib hix hpr hi hPI hM
 have HM0:=hid (MapK.made w)
 have HB0:Hid (Below w.heap.size w (w.alloc (.map #[] 0))):=(Below.refl _ _).alloc (Nat.le_refl _) _
 have hU0:(w.alloc (.map #[] 0)).heap.size=w.heap.size+1:=by simp
 generalize hp:w.heap.size=p at*
 go_enter Tryz.func123,Tryz.ntmps123
 go_wp2_with fail
 generalize hU:w.alloc (.map #[] 0)=U at*
 clear hU hmm
 go_loopw [5,17] (fun s5 i wr=> ∃ (k nn:Nat) (av:Option Addr) (cv:Nat) (l:List K),k≤P.length∧nn≤k∧i= .int .i64 k∧s5= .slice av l.length cv∧l.length≤k∧Hid (Lks (P.take k) L l)∧Hid (SmK l)∧Hid (MapK wr p nn l)∧Hid (wr.ownsRow (p+1) 128 3 (.slice av l.length cv) l.length (cellsK l))∧Hid (Below p w wr)) (fun _ i _=>P.length - (intOf i).toNat)
 case atStart=>exact⟨0,0,none,0,[],Nat.zero_le _,Nat.le_refl _,rfl,rfl,Nat.zero_le _,Lks.nil L,fun x hx=>absurd hx List.not_mem_nil,HM0,World.ownsRow_nil _ _ _ _,HB0⟩
 case round=>
  obtain⟨k,nn,av,cv,l,hk,hnn,rfl,rfl,hlk0,HLK,HSM,HMP,HOW,HBW⟩:=hrel
  clear HM0 HB0
  by_cases hlk:k<P.length
  ·have hlk':(k:Int)<P.length:=by omega
   obtain⟨rfl,hbl,hat⟩:=HIB.out (by omega)
   have hPk:=HPI.out _ (getD_memR hlk)
   have HPT:=hid (take_snocR hlk)
   have hat:=hat k hlk
   obtain⟨q,HQ⟩:=named (P.getD k Pr.zero)
   rw[HQ.out] at hat hPk HPT
   obtain⟨qa,qb⟩:=q
   have y0:wr.cell? ⟨ib,io+k*2,none⟩=some (.int .i64 (qa:Int)):=(HBW.out.cell (p:=⟨ib,io+k*2,none⟩) (hp▸hbl)).trans hat.1
   have y1:wr.cell? ⟨ib,io+k*2+1,none⟩=some (.int .i64 (qb:Int)):=(HBW.out.cell (p:=⟨ib,io+k*2+1,none⟩) (hp▸hbl)).trans hat.2
   have hqa:qa<L.length:=hPk.1
   have hqb:qb<L.length:=hPk.2
   have hqa':(qa:Int)<L.length:=by omega
   have hqb':(qb:Int)<L.length:=by omega
   clear hat hPk
   obtain⟨rfl,hbx,hax⟩:=HIX.out (by rw[ints_len];omega)
   have HBX:Hid (Below wr.heap.size wr (wr.alloc (.cells #[.int .i64 (qa:Int), .int .i64 (qb:Int)] 119))):=(Below.refl _ _).alloc (Nat.le_refl _) _
   have HBY:Hid (Below p w (wr.alloc (.cells #[.int .i64 (qa:Int), .int .i64 (qb:Int)] 119))):=HBW.out.trans (HBX.out.mono (by have:=HBW.out.size;omega))
   have z0:=(HBY.out.cell (p:=⟨ix,ox+qa,none⟩) (hp▸hbx)).trans (hax qa (by rw[ints_len];exact hqa))
   have z1:=(HBY.out.cell (p:=⟨ix,ox+qb,none⟩) (hp▸hbx)).trans (hax qb (by rw[ints_len];exact hqb))
   rw[ints_getD hqa] at z0
   rw[ints_getD hqb] at z1
   have hla:=HMX.out _ (getD_memN hqa)
   have hlb:=HMX.out _ (getD_memN hqb)
   have HLA:Hid (LabAt L ⟨qa,qb⟩ (L.getD qa 0) (L.getD qb 0)):=⟨rfl,rfl⟩
   generalize L.getD qa 0=la at*
   generalize L.getD qb 0=lb at*
   clear hax
   go_wp2_with fail
   clear y0 y1
   have HMX1:=hid (HMP.out.on HBX.out)
   have HOX:=hid (own_on HOW.out HBX.out)
   have hgx:=heap_top wr (.cells #[.int .i64 (qa:Int), .int .i64 (qb:Int)] 119)
   obtain⟨⟨c0,c1⟩,_⟩:=two_cells hgx
   clear hgx
   generalize hX:wr.alloc (.cells #[.int .i64 (qa:Int), .int .i64 (qb:Int)] 119)=X at*
   clear hX HBX HOW HMP HBW
   go_quiet (fail)
   have HM2:Hid (MapK (X.drewN nq) p nn l):=HMX1.out.on ⟨rfl,rfl,rfl,Nat.le_refl _,fun _ _=>rfl⟩
   have HO2:Hid ((X.drewN nq).ownsRow (p+1) 128 3 (.slice av l.length cv) l.length (cellsK l)):=own_on HOX.out ⟨rfl,rfl,rfl,Nat.le_refl _,fun _ _=>rfl⟩
   have HB2:Hid (Below p w (X.drewN nq)):=HBY.out.trans ⟨rfl,rfl,rfl,Nat.le_refl _,fun _ _=>rfl⟩
   clear HMX1 HOX HBY c0 c1 z0 z1
   generalize X.drewN nq=Y at*
   by_cases hab:la=lb
   ·subst hab
    have HLN:Hid (Lks (P.take (k+1)) L l):=by rw[HPT.out];exact HLK.out.skipL HLA.out
    go_wp2_with fail
    exact⟨⟨k+1,nn,av,cv,l,by omega,by omega,by simp,rfl,by omega,HLN,HSM,HM2,HO2,HB2⟩,by simp[intOf];omega⟩
   ·have hab':((la:Int)==(lb:Int))=false:=by simp only[beq_eq_false_iff_ne];omega
    rcases Nat.lt_or_ge la lb with hc | hc
    ·have h1:(la:Int)<lb:=by omega
     have h2: ¬(lb:Int)<la:=by omega
     have hmn:min (la:Int) (lb:Int)=(la:Int):=by omega
     have hmx:max (la:Int) (lb:Int)=(lb:Int):=by omega
     have HKX:=hid (keyOfK la lb (by omega) (by omega))
     have HB3:Hid (Below Y.heap.size Y (Y.alloc (.cells #[.int .i64 (la:Int), .int .i64 (lb:Int), .int .i64 0] 128))):=(Below.refl _ _).alloc (Nat.le_refl _) _
     have HM3:=hid (HM2.out.on HB3.out)
     have HO3:=hid (own_on HO2.out HB3.out)
     have HW3:Hid (Below p w (Y.alloc (.cells #[.int .i64 (la:Int), .int .i64 (lb:Int), .int .i64 0] 128))):=HB2.out.trans (HB3.out.mono (by have:=HB2.out.size;omega))
     have hgx:=heap_top Y (.cells #[.int .i64 (la:Int), .int .i64 (lb:Int), .int .i64 0] 128)
     obtain⟨e0,e1,e2⟩:=three_cells hgx
     have HGX:=hid hgx
     have hYp:p<Y.heap.size:=HM2.out.lt
     clear hgx HM2 HO2 HB2 HB3
     obtain⟨D,hown,hseen,hnew⟩:=HM3.out
     have HOW:=hid hown
     by_cases hs: ∃i,i<l.length∧(l.getD i K.zero).a=la∧(l.getD i K.zero).b=lb
     ·obtain⟨i,hil,hi1,hi2⟩:=hs
      obtain⟨g1,g2⟩:=hseen i hil
      rw[hi1,hi2] at g1 g2
      have HHS:=hid g1
      have HAT:=hid g2
      have hil':(i:Int)<l.length:=by omega
      obtain⟨g,cg,hv,hg1,_,_,_⟩:=own_shape HO3.out (fun e=>by injection e with _ e2 _;omega)
      injection hv with hv1 _ hv3
      subst hv1 hv3
      obtain⟨n,HN⟩: ∃n,Hid (l.getD i K.zero=⟨la,lb,n⟩):=⟨(l.getD i K.zero).n,by show _=_;rw[←hi1,←hi2]⟩
      have d1:(Y.alloc (.cells #[.int .i64 (la:Int), .int .i64 (lb:Int), .int .i64 0] 128)).cell? ⟨g,i*3+2,none⟩=some (.int .i64 (n:Int)):=by
       have h:=(rowK_atS HO3.out i hil).2.2
       rw[HN.out] at h
       exact h
      have d2:=World.ownsRow.frozenAt HO3.out (i*3+2)
      have hnb:n≤8192:=by have h:=HLK.out.len hil HN.out;rw[List.length_take] at h;omega
      have HLN:Hid (Lks (P.take (k+1)) L (l.set i ⟨la,lb,n+1⟩)):=by rw[HPT.out];exact HLK.out.moreL HLA.out hab (by omega) (by omega) hil HN.out
      have HSN:Hid (SmK (l.set i ⟨la,lb,n+1⟩)):=HSM.out.set i (by omega) (by omega)
      have HMN:=hid ((HM3.out.set (n:=n+1) hil hi1 hi2).cell (a:=⟨g,i*3+2,none⟩) (.int .i64 ((n:Int)+1)) (by show p≠g;omega))
      have HON:Hid (((Y.alloc (.cells #[.int .i64 (la:Int), .int .i64 (lb:Int), .int .i64 0] 128)).setCell ⟨g,i*3+2,none⟩ (.int .i64 ((n:Int)+1))).ownsRow (p+1) 128 3 (.slice (some ⟨g,0,none⟩) (l.set i ⟨la,lb,n+1⟩).length cv) (l.set i ⟨la,lb,n+1⟩).length (cellsK (l.set i ⟨la,lb,n+1⟩))):=own_setN (y:=⟨la,lb,n+1⟩) HO3.out hil hi1 hi2
      clear hown hseen hnew g1 g2 hi1 hi2
      go_wp2_with (at_lookup;go_must (refine wpList_lookup_own_ok_int _ rfl _ _ 210 rfl 128 3 .i64 lawK Tryz.underlying210 Tryz.underlying3 (zero3 _) p nn D rfl HOW.out _ (kK la lb) rfl HKX.out ?_;intro c hat hwc;rw[HAT.out] at hat;obtain rfl:c=(i:Int):=(by injection hat with h;injection h with _ h;exact h.symm);rw[HHS.out];clear hat hwc))
      exact⟨⟨k+1,nn,some ⟨g,0,none⟩,cv,l.set i ⟨la,lb,n+1⟩,by omega,by omega,by simp,by rw[List.length_set],by rw[List.length_set];omega,HLN,HSN,HMN,HON,hid (HW3.out.setCell (by show p≤g;omega) _)⟩,by simp[intOf];omega⟩
     ·have hs': ∀i,i<l.length→¬((l.getD i K.zero).a=la∧(l.getD i K.zero).b=lb):=fun i hi h=>hs ⟨i,hi,h⟩
      have HHS:=hid (hnew la lb (by omega) (by omega) hs')
      have HAT:=hid (atKey_of_not_has HHS.out (.lit (.int .i64 0)))
      have HPU:=hid (MapK.put (n:=0) (x:=la) (y:=lb) hown.isMap HSM.out (by omega) (by omega) hseen hnew hs')
      have HOB:Hid (∀w8,w8.ownsMap Tryz.prog 128 (plainElem (H:=Unit) Tryz.prog 3) p (nn+1) (D.put (kK la lb) (.lit (.int .i64 (l.length:Int))))→MapK w8 p (nn+1) (l++[⟨la,lb,0⟩])):=fun w8 h=>⟨_,h,HPU.out⟩
      have HLN:Hid (Lks (P.take (k+1)) L (l++[⟨la,lb,1⟩])):=by rw[HPT.out];exact HLK.out.newL HLA.out hab (by omega) (by omega) hs'
      have HSN:Hid (SmK (l++[⟨la,lb,1⟩])):=HSM.out.snoc (by omega) (by omega)
      have HGR:Hid (∀w8,(Y.alloc (.cells #[.int .i64 (la:Int), .int .i64 (lb:Int), .int .i64 0] 128)).grownBy w8 (some p)→Fr (fun k=>k=p) (Y.alloc (.cells #[.int .i64 (la:Int), .int .i64 (lb:Int), .int .i64 0] 128)) w8):=fun w8 h=>⟨h.os,h.tape,h.output,h.size,fun k hk hn=>h.block k hk (fun e=>hn (by injection e))⟩
      have HLL:Hid ((l++[(⟨la,lb,0⟩:K)]).length=l.length+1):=by show _=_;simp
      clear hown hseen hnew hs hs' HPU
      go_wp2_with (first | (at_lookup;go_must (refine wpList_lookup_own_ok_int _ rfl _ _ 210 rfl 128 3 .i64 lawK Tryz.underlying210 Tryz.underlying3 (zero3 _) p nn D rfl HOW.out _ (kK la lb) rfl HKX.out ?_;intro c hat hwc;rw[HAT.out] at hat;obtain rfl:c=(0:Int):=(by injection hat with h;injection h with _ h;exact h.symm);rw[HHS.out];clear hat hwc)) | (at_mapUpdate;go_must (refine wpList_mapUpdate_own _ rfl _ _ _ 210 rfl 128 3 lawK Tryz.underlying210 (plainElem (H:=Unit) Tryz.prog 3) p nn D rfl HOW.out (by unfold maxLen;omega) _ _ (kK la lb) rfl rfl HKX.out (.lit (.int .i64 (l.length:Int))) [] (plainElem_int Tryz.underlying3 (wfN (by omega))) ?_;intro w8 hown8 hgrow8;have hf8:=HGR.out w8 hgrow8;have HM8:=hid (HOB.out w8 hown8);have HO8:=hid (own_frQ HO3.out hf8 (fun j hj=>by have:=(HO3.out.lt j hj).1;show ¬j=p;omega));have HB8:Hid (Below p w w8):=HW3.out.trans (hf8.below (by have:=HM3.out.lt;omega) (fun j hj=>by have hj:j=p:=hj;omega));obtain⟨f0,f1,f2⟩:=three_cells ((hf8.block Y.heap.size (by simp) (by show ¬Y.heap.size=p;omega)).trans HGX.out);have HNW:Hid (∀j u,(K.cells ⟨la,lb,0⟩)[j]? =some u→(w8.alloc (.cells #[.int .i64 (la:Int), .int .i64 (lb:Int), .int .i64 0] 128)).cell? ((⟨w8.heap.size,0,none⟩:Addr).add j)=some u):=newK w8 ⟨la,lb,0⟩;have HB9:Hid (Below w8.heap.size w8 (w8.alloc (.cells #[.int .i64 (la:Int), .int .i64 (lb:Int), .int .i64 0] 128))):=(Below.refl _ _).alloc (Nat.le_refl _) _;have HM9:=hid (HM8.out.on HB9.out);have HO9:=hid (own_on HO8.out HB9.out);have hz9:p<w8.heap.size:=HM8.out.lt;have HW9:Hid (Below p w (w8.alloc (.cells #[.int .i64 (la:Int), .int .i64 (lb:Int), .int .i64 0] 128))):=HB8.out.trans (HB9.out.mono (Nat.le_of_lt hz9));have HZ9:Hid (p+1≤(w8.alloc (.cells #[.int .i64 (la:Int), .int .i64 (lb:Int), .int .i64 0] 128)).heap.size):=Nat.le_trans hz9 HB9.out.size;clear hown8 hgrow8 hf8 e0 e1 e2)) | (at_builtin;go_must (refine wpList_append_own _ rfl (.tmp 54) (.tmp 56) 123 rfl (p+1) 128 i0 (.agg #[.int .i64 0, .int .i64 0, .int .i64 0]) 3 24 Tryz.underlying123 hi0 hz0 hz1 hz2 rfl (by decide) (.slice av l.length cv) l.length (cellsK l) rfl HO9.out ⟨w8.heap.size,0,none⟩ 1 1 (K.cells ⟨la,lb,0⟩) rfl rfl HNW.out (oneK _) (by unfold maxLen;omega) (by omega) HZ9.out ?_;intro v6 w6 hown6 hgrow6 hnil6;obtain⟨g6,c6,hv6,hg6,hc6,_,hm6⟩:=own_shape hown6 (fun e=>by have:=hnil6.1 e;simp at this);subst hv6;rw[←cellsK_snoc,←HLL.out] at hown6;have HM6:Hid (MapK w6 p (nn+1) (l++[⟨la,lb,0⟩])):=HM9.out.kept hgrow6 (fun e=>by have:=(HO9.out.lt p e.symm).1;omega);have HB6:Hid (Below p w w6):=HW9.out.grown hgrow6 (Nat.le_of_lt (Nat.lt_of_lt_of_le hz9 HB9.out.size)) (fun j hj=>by have:=(HO9.out.lt j hj).1;omega);have d1:w6.cell? ⟨g6,l.length*3+2,none⟩=some (.int .i64 0):=(by have h:=(rowK_atS hown6 l.length (by rw[HLL.out];omega)).2.2;rw[getD_appR] at h;exact h);have d2:=World.ownsRow.frozenAt hown6 (l.length*3+2);have HO7:Hid ((w6.setCell ⟨g6,l.length*3+2,none⟩ (.int .i64 1)).ownsRow (p+1) 128 3 (.slice (some ⟨g6,0,none⟩) ((l++[(⟨la,lb,0⟩:K)]).set l.length ⟨la,lb,1⟩).length c6) ((l++[(⟨la,lb,0⟩:K)]).set l.length ⟨la,lb,1⟩).length (cellsK ((l++[(⟨la,lb,0⟩:K)]).set l.length ⟨la,lb,1⟩))):=own_setN (y:=⟨la,lb,1⟩) hown6 (by rw[HLL.out];omega) (by rw[getD_appR]) (by rw[getD_appR]);have HM7:=hid ((HM6.out.set (n:=1) (i:=l.length) (x:=la) (y:=lb) (by rw[HLL.out];omega) (by rw[getD_appR]) (by rw[getD_appR])).cell (a:=⟨g6,l.length*3+2,none⟩) (.int .i64 1) (by show p≠g6;omega));rw[set_appR] at HO7 HM7;have hc6':((l.length:Int)+1)≤c6:=(by omega);clear hown6 hgrow6 hnil6)))
      refine⟨⟨k+1,nn+1,some ⟨g6,0,none⟩,c6,l++[⟨la,lb,1⟩],by omega,by omega,by simp,by simp,by simp;omega,HLN,HSN,HM7,?_,hid (HB6.out.setCell (by show p≤g6;omega) _)⟩,by simp[intOf];omega⟩
      exact HO7
    ·have h1:(lb:Int)<la:=by omega
     have h2: ¬(la:Int)<lb:=by omega
     have hmn:min (la:Int) (lb:Int)=(lb:Int):=by omega
     have hmx:max (la:Int) (lb:Int)=(la:Int):=by omega
     have HKX:=hid (keyOfK lb la (by omega) (by omega))
     have HB3:Hid (Below Y.heap.size Y (Y.alloc (.cells #[.int .i64 (lb:Int), .int .i64 (la:Int), .int .i64 0] 128))):=(Below.refl _ _).alloc (Nat.le_refl _) _
     have HM3:=hid (HM2.out.on HB3.out)
     have HO3:=hid (own_on HO2.out HB3.out)
     have HW3:Hid (Below p w (Y.alloc (.cells #[.int .i64 (lb:Int), .int .i64 (la:Int), .int .i64 0] 128))):=HB2.out.trans (HB3.out.mono (by have:=HB2.out.size;omega))
     have hgx:=heap_top Y (.cells #[.int .i64 (lb:Int), .int .i64 (la:Int), .int .i64 0] 128)
     obtain⟨e0,e1,e2⟩:=three_cells hgx
     have HGX:=hid hgx
     have hYp:p<Y.heap.size:=HM2.out.lt
     clear hgx HM2 HO2 HB2 HB3
     obtain⟨D,hown,hseen,hnew⟩:=HM3.out
     have HOW:=hid hown
     by_cases hs: ∃i,i<l.length∧(l.getD i K.zero).a=lb∧(l.getD i K.zero).b=la
     ·obtain⟨i,hil,hi1,hi2⟩:=hs
      obtain⟨g1,g2⟩:=hseen i hil
      rw[hi1,hi2] at g1 g2
      have HHS:=hid g1
      have HAT:=hid g2
      have hil':(i:Int)<l.length:=by omega
      obtain⟨g,cg,hv,hg1,_,_,_⟩:=own_shape HO3.out (fun e=>by injection e with _ e2 _;omega)
      injection hv with hv1 _ hv3
      subst hv1 hv3
      obtain⟨n,HN⟩: ∃n,Hid (l.getD i K.zero=⟨lb,la,n⟩):=⟨(l.getD i K.zero).n,by show _=_;rw[←hi1,←hi2]⟩
      have d1:(Y.alloc (.cells #[.int .i64 (lb:Int), .int .i64 (la:Int), .int .i64 0] 128)).cell? ⟨g,i*3+2,none⟩=some (.int .i64 (n:Int)):=by
       have h:=(rowK_atS HO3.out i hil).2.2
       rw[HN.out] at h
       exact h
      have d2:=World.ownsRow.frozenAt HO3.out (i*3+2)
      have hnb:n≤8192:=by have h:=HLK.out.len hil HN.out;rw[List.length_take] at h;omega
      have HLN:Hid (Lks (P.take (k+1)) L (l.set i ⟨lb,la,n+1⟩)):=by rw[HPT.out];exact HLK.out.moreL HLA.out hab (by omega) (by omega) hil HN.out
      have HSN:Hid (SmK (l.set i ⟨lb,la,n+1⟩)):=HSM.out.set i (by omega) (by omega)
      have HMN:=hid ((HM3.out.set (n:=n+1) hil hi1 hi2).cell (a:=⟨g,i*3+2,none⟩) (.int .i64 ((n:Int)+1)) (by show p≠g;omega))
      have HON:Hid (((Y.alloc (.cells #[.int .i64 (lb:Int), .int .i64 (la:Int), .int .i64 0] 128)).setCell ⟨g,i*3+2,none⟩ (.int .i64 ((n:Int)+1))).ownsRow (p+1) 128 3 (.slice (some ⟨g,0,none⟩) (l.set i ⟨lb,la,n+1⟩).length cv) (l.set i ⟨lb,la,n+1⟩).length (cellsK (l.set i ⟨lb,la,n+1⟩))):=own_setN (y:=⟨lb,la,n+1⟩) HO3.out hil hi1 hi2
      clear hown hseen hnew g1 g2 hi1 hi2
      go_wp2_with (at_lookup;go_must (refine wpList_lookup_own_ok_int _ rfl _ _ 210 rfl 128 3 .i64 lawK Tryz.underlying210 Tryz.underlying3 (zero3 _) p nn D rfl HOW.out _ (kK lb la) rfl HKX.out ?_;intro c hat hwc;rw[HAT.out] at hat;obtain rfl:c=(i:Int):=(by injection hat with h;injection h with _ h;exact h.symm);rw[HHS.out];clear hat hwc))
      exact⟨⟨k+1,nn,some ⟨g,0,none⟩,cv,l.set i ⟨lb,la,n+1⟩,by omega,by omega,by simp,by rw[List.length_set],by rw[List.length_set];omega,HLN,HSN,HMN,HON,hid (HW3.out.setCell (by show p≤g;omega) _)⟩,by simp[intOf];omega⟩
     ·have hs': ∀i,i<l.length→¬((l.getD i K.zero).a=lb∧(l.getD i K.zero).b=la):=fun i hi h=>hs ⟨i,hi,h⟩
      have HHS:=hid (hnew lb la (by omega) (by omega) hs')
      have HAT:=hid (atKey_of_not_has HHS.out (.lit (.int .i64 0)))
      have HPU:=hid (MapK.put (n:=0) (x:=lb) (y:=la) hown.isMap HSM.out (by omega) (by omega) hseen hnew hs')
      have HOB:Hid (∀w8,w8.ownsMap Tryz.prog 128 (plainElem (H:=Unit) Tryz.prog 3) p (nn+1) (D.put (kK lb la) (.lit (.int .i64 (l.length:Int))))→MapK w8 p (nn+1) (l++[⟨lb,la,0⟩])):=fun w8 h=>⟨_,h,HPU.out⟩
      have HLN:Hid (Lks (P.take (k+1)) L (l++[⟨lb,la,1⟩])):=by rw[HPT.out];exact HLK.out.newL HLA.out hab (by omega) (by omega) hs'
      have HSN:Hid (SmK (l++[⟨lb,la,1⟩])):=HSM.out.snoc (by omega) (by omega)
      have HGR:Hid (∀w8,(Y.alloc (.cells #[.int .i64 (lb:Int), .int .i64 (la:Int), .int .i64 0] 128)).grownBy w8 (some p)→Fr (fun k=>k=p) (Y.alloc (.cells #[.int .i64 (lb:Int), .int .i64 (la:Int), .int .i64 0] 128)) w8):=fun w8 h=>⟨h.os,h.tape,h.output,h.size,fun k hk hn=>h.block k hk (fun e=>hn (by injection e))⟩
      have HLL:Hid ((l++[(⟨lb,la,0⟩:K)]).length=l.length+1):=by show _=_;simp
      clear hown hseen hnew hs hs' HPU
      go_wp2_with (first | (at_lookup;go_must (refine wpList_lookup_own_ok_int _ rfl _ _ 210 rfl 128 3 .i64 lawK Tryz.underlying210 Tryz.underlying3 (zero3 _) p nn D rfl HOW.out _ (kK lb la) rfl HKX.out ?_;intro c hat hwc;rw[HAT.out] at hat;obtain rfl:c=(0:Int):=(by injection hat with h;injection h with _ h;exact h.symm);rw[HHS.out];clear hat hwc)) | (at_mapUpdate;go_must (refine wpList_mapUpdate_own _ rfl _ _ _ 210 rfl 128 3 lawK Tryz.underlying210 (plainElem (H:=Unit) Tryz.prog 3) p nn D rfl HOW.out (by unfold maxLen;omega) _ _ (kK lb la) rfl rfl HKX.out (.lit (.int .i64 (l.length:Int))) [] (plainElem_int Tryz.underlying3 (wfN (by omega))) ?_;intro w8 hown8 hgrow8;have hf8:=HGR.out w8 hgrow8;have HM8:=hid (HOB.out w8 hown8);have HO8:=hid (own_frQ HO3.out hf8 (fun j hj=>by have:=(HO3.out.lt j hj).1;show ¬j=p;omega));have HB8:Hid (Below p w w8):=HW3.out.trans (hf8.below (by have:=HM3.out.lt;omega) (fun j hj=>by have hj:j=p:=hj;omega));obtain⟨f0,f1,f2⟩:=three_cells ((hf8.block Y.heap.size (by simp) (by show ¬Y.heap.size=p;omega)).trans HGX.out);have HNW:Hid (∀j u,(K.cells ⟨lb,la,0⟩)[j]? =some u→(w8.alloc (.cells #[.int .i64 (lb:Int), .int .i64 (la:Int), .int .i64 0] 128)).cell? ((⟨w8.heap.size,0,none⟩:Addr).add j)=some u):=newK w8 ⟨lb,la,0⟩;have HB9:Hid (Below w8.heap.size w8 (w8.alloc (.cells #[.int .i64 (lb:Int), .int .i64 (la:Int), .int .i64 0] 128))):=(Below.refl _ _).alloc (Nat.le_refl _) _;have HM9:=hid (HM8.out.on HB9.out);have HO9:=hid (own_on HO8.out HB9.out);have hz9:p<w8.heap.size:=HM8.out.lt;have HW9:Hid (Below p w (w8.alloc (.cells #[.int .i64 (lb:Int), .int .i64 (la:Int), .int .i64 0] 128))):=HB8.out.trans (HB9.out.mono (Nat.le_of_lt hz9));have HZ9:Hid (p+1≤(w8.alloc (.cells #[.int .i64 (lb:Int), .int .i64 (la:Int), .int .i64 0] 128)).heap.size):=Nat.le_trans hz9 HB9.out.size;clear hown8 hgrow8 hf8 e0 e1 e2)) | (at_builtin;go_must (refine wpList_append_own _ rfl (.tmp 54) (.tmp 56) 123 rfl (p+1) 128 i0 (.agg #[.int .i64 0, .int .i64 0, .int .i64 0]) 3 24 Tryz.underlying123 hi0 hz0 hz1 hz2 rfl (by decide) (.slice av l.length cv) l.length (cellsK l) rfl HO9.out ⟨w8.heap.size,0,none⟩ 1 1 (K.cells ⟨lb,la,0⟩) rfl rfl HNW.out (oneK _) (by unfold maxLen;omega) (by omega) HZ9.out ?_;intro v6 w6 hown6 hgrow6 hnil6;obtain⟨g6,c6,hv6,hg6,hc6,_,hm6⟩:=own_shape hown6 (fun e=>by have:=hnil6.1 e;simp at this);subst hv6;rw[←cellsK_snoc,←HLL.out] at hown6;have HM6:Hid (MapK w6 p (nn+1) (l++[⟨lb,la,0⟩])):=HM9.out.kept hgrow6 (fun e=>by have:=(HO9.out.lt p e.symm).1;omega);have HB6:Hid (Below p w w6):=HW9.out.grown hgrow6 (Nat.le_of_lt (Nat.lt_of_lt_of_le hz9 HB9.out.size)) (fun j hj=>by have:=(HO9.out.lt j hj).1;omega);have d1:w6.cell? ⟨g6,l.length*3+2,none⟩=some (.int .i64 0):=(by have h:=(rowK_atS hown6 l.length (by rw[HLL.out];omega)).2.2;rw[getD_appR] at h;exact h);have d2:=World.ownsRow.frozenAt hown6 (l.length*3+2);have HO7:Hid ((w6.setCell ⟨g6,l.length*3+2,none⟩ (.int .i64 1)).ownsRow (p+1) 128 3 (.slice (some ⟨g6,0,none⟩) ((l++[(⟨lb,la,0⟩:K)]).set l.length ⟨lb,la,1⟩).length c6) ((l++[(⟨lb,la,0⟩:K)]).set l.length ⟨lb,la,1⟩).length (cellsK ((l++[(⟨lb,la,0⟩:K)]).set l.length ⟨lb,la,1⟩))):=own_setN (y:=⟨lb,la,1⟩) hown6 (by rw[HLL.out];omega) (by rw[getD_appR]) (by rw[getD_appR]);have HM7:=hid ((HM6.out.set (n:=1) (i:=l.length) (x:=lb) (y:=la) (by rw[HLL.out];omega) (by rw[getD_appR]) (by rw[getD_appR])).cell (a:=⟨g6,l.length*3+2,none⟩) (.int .i64 1) (by show p≠g6;omega));rw[set_appR] at HO7 HM7;have hc6':((l.length:Int)+1)≤c6:=(by omega);clear hown6 hgrow6 hnil6)))
      refine⟨⟨k+1,nn+1,some ⟨g6,0,none⟩,c6,l++[⟨lb,la,1⟩],by omega,by omega,by simp,by simp,by simp;omega,HLN,HSN,HM7,?_,hid (HB6.out.setCell (by show p≤g6;omega) _)⟩,by simp[intOf];omega⟩
      exact HO7
  ·obtain rfl:k=P.length:=by omega
   have hlk': ¬(P.length:Int)<P.length:=by omega
   rw[List.take_length] at HLK
   go_wp2_with fail
   go_ret
   exact⟨av,cv,l,rfl,own_base HOW.out (by omega),HLK,hlk0,HBW.out⟩
end Go.Proofs.YtmenajiceaicpaaGreat
