import Derived.Deep.LoopGhost
import Derived.Test.YtmenajiceaicpaaGreatZFC
open Go.Lib (hid)
namespace Go.Proofs.YtmenajiceaicpaaGreat.F6
open Go.RowKit
theorem info3:(Tryz.prog.info? 3).map (fun i=>(i.zero,i.size,i.bytes))=some (some (.int .i64 0),1,8):=by kernel_rfl
theorem info_parts{P:Program}{e:TypeId}{z:Value}{s b:Nat}(h:(P.info? e).map (fun i=>(i.zero,i.size,i.bytes))=some (some z,s,b)): ∃i,P.info? e=some i∧i.zero=some z∧i.size=s∧i.bytes=b:=by
 cases hi:P.info? e with
 | none=>rw[hi] at h;simp at h
 | some i=>rw[hi] at h;simp at h;exact⟨i,rfl,h.1,h.2.1,h.2.2⟩
theorem take_set(n:Nat)(V:Nat→Value){k:Nat}(hk:k<n)(u:Value):(((List.range n).map V).take k++[u]++((List.range n).map V).drop (k+1))=(List.range n).map (updV V k u):=by
 have h:=congrArg Array.toList (tabV_set n V k u)
 simp only[Array.toList_setIfInBounds] at h
 rw[←h,List.set_eq_take_append_cons_drop,if_pos (by simpa using hk)]
 simp
theorem wpList_append_tb{P:Program}{w:World}{ops:Array Oper}{rest:List Oper}{o:Oper}{a:Act}{Q:Exit→Act→World→Prop}(hgd:o.guard=none)(s x:Operand)(t:TypeId)
  (ho:o.op= .call {callee:= .builtin .append,args:= #[s,x],argTypes:= #[t,t]}) (e:TypeId) (i:TypeInfo) (ht:P.underlying t=some (.slice e)) (hi:P.info? e=some i) (hsize:i.size=1)
  (b k n:Nat) (V:Nat→Value) (hs:a.eval s= .slice (some ⟨b,0,none⟩) k n) (hT:TbV w b n e V) (ad:Addr) (c:Nat) (u:Value) (hx:a.eval x= .slice (some ad) 1 c) (hu:w.cell? ad=some u) (h1:u.oneCell'=true) (hlt:k<n)
  (h: ∀w',TbV w' b n e (updV V k u)→Fr (fun j=>j=b) w w'→wpList P ops Q rest (a.put o.dst (.slice (some ⟨b,0,none⟩) (k+1:Nat) n)) w'):wpList P ops Q (o::rest) a w:=by
 refine wpList_plain hgd fun _ hK=> ?_
 have hr:=run_append_room (P:=P) w t o.type e i ht hi b k n _ hT ad 1 c [u] (by simp[hsize]) (by
  intro j y hj
  cases j with
  | zero=>simp at hj;subst hj;simpa[Addr.add] using hu
  | succ j=>simp at hj) (by intro y hy;simp at hy;subst hy;exact h1) (by omega) (by simp[hsize];omega)
 have e1:((((List.range n).map V).toArray.toList.take (k*i.size)++[u]++((List.range n).map V).toArray.toList.drop (k*i.size+ [u].length)).toArray)=((List.range n).map (updV V k u)).toArray:=by
  rw[hsize,Nat.mul_one]
  exact congrArg List.toArray (take_set n V hlt u)
 rw[e1] at hr
 unfold Oper.wp
 simp[execOp,ho,resolve,invoke,builtin,hs,hx,hr,Result.andThen]
 exact hK _ _ (h _ (setRow_heap w b _ _ e _ hT) ⟨rfl,rfl,rfl,by simp,fun j _ hj=>setRow_other w b j _ hj⟩)
theorem Fr.trans{D:Nat→Prop}{a b c:World}(h:Fr D a b)(h2:Fr D b c):Fr D a c:=
 ⟨h2.os.trans h.os,h2.tape.trans h.tape,h2.output.trans h.output,Nat.le_trans h.size h2.size,fun k hk hn=>(h2.block k (Nat.lt_of_lt_of_le hk h.size) hn).trans (h.block k hk hn)⟩
theorem Fr.imp{D D2:Nat→Prop}{a b:World}(h:Fr D a b)(hd: ∀k,D k→D2 k):Fr D2 a b:=
 ⟨h.os,h.tape,h.output,h.size,fun k hk hn=>h.block k hk (fun e=>hn (hd k e))⟩
theorem Fr.alloc{D:Nat→Prop}{a b:World}(h:Fr D a b)(o:Obj):Fr D a (b.alloc o):=
 ⟨h.os,h.tape,h.output,by have:=h.size;simp;omega,fun k hk hn=>(Below.heap_alloc b o k (Nat.lt_of_lt_of_le hk h.size)).trans (h.block k hk hn)⟩
theorem TbV.fr{D:Nat→Prop}{w w':World}{b n:Nat}{ty:TypeId}{V:Nat→Value}(h:TbV w b n ty V)(hf:Fr D w w')(hn: ¬D b):TbV w' b n ty V:=h.same (hf.block b h.lt hn)
structure Net(w:World)(f bl b1 b2 b3 bq bp n m:Nat)(gr:Int)(E:List Ed)(fl:Nat→Int):Prop where
 pp:Pp w f bl b1 b2 b3 bq bp n m gr
 ln:TbV w bl (m*6) 236 (lv E fl (fun k=>lst E (frm E k) k))
 fi:TbV w b1 n 3 (fun v=> .int .i64 (lst E v (2*m)))
theorem Net.fr{w w':World}{f bl b1 b2 b3 bq bp n m:Nat}{gr:Int}{E:List Ed}{fl:Nat→Int}{D:Nat→Prop}(h:Net w f bl b1 b2 b3 bq bp n m gr E fl)(hf:Fr D w w')(n1: ¬D f)(n2: ¬D bl)(n3: ¬D b1):Net w' f bl b1 b2 b3 bq bp n m gr E fl:=
 ⟨⟨(hf.block f (lt_of_block h.pp.hd) n1).trans h.pp.hd⟩,h.ln.fr hf n2,h.fi.fr hf n3⟩
structure Apart(f bl b1 b2 b3 bq bp:Nat):Prop where
 nd: [f,bl,b1,b2,b3,bq,bp].Nodup
def Qu(w:World)(bq n:Nat)(q:List Nat):Prop:= ∃V,TbV w bq n 3 V∧(∀v,∃y,V v= .int .i64 y)∧∀j,j<q.length→V j= .int .i64 ((q.getD j 0:Nat):Int)
theorem Qu.fr{D:Nat→Prop}{w w':World}{b n:Nat}{q:List Nat}(h:Qu w b n q)(hf:Fr D w w')(hn: ¬D b):Qu w' b n q:=by
 obtain⟨V,h1,h2,h3⟩:=h
 exact⟨V,h1.fr hf hn,h2,h3⟩
theorem upd_ints{V:Nat→Value}(h: ∀v,∃y,V v= .int .i64 y)(k:Nat)(x:Int): ∀v,∃y,updV V k (.int .i64 x) v= .int .i64 y:=fun v=>by
 by_cases e:v=k
 ·subst e;exact⟨x,updV_self _ _ _⟩
 ·rw[updV_ne _ _ e];exact h v
theorem upd_snoc{V:Nat→Value}{q:List Nat}(h: ∀j,j<q.length→V j= .int .i64 ((q.getD j 0:Nat):Int))(v:Nat): ∀j,j<(q++[v]).length→updV V q.length (.int .i64 (v:Int)) j= .int .i64 (((q++[v]).getD j 0:Nat):Int):=by
 intro j hj
 by_cases e:j=q.length
 ·subst e
  rw[updV_self]
  simp[List.getD]
 ·have e1:j<q.length:=by simp at hj;omega
  rw[updV_ne _ _ e,h j e1]
  simp[List.getD,List.getElem?_append_left e1]
theorem upd_rank(rk:Nat→Int)(v:Nat)(d:Int): ∀x,updV (fun v=>Value.int .i64 (rk v)) v (.int .i64 d) x= .int .i64 (updI rk v d x):=fun x=>by
 by_cases e:x=v
 ·subst e;rw[updV_self,updI_self]
 ·rw[updV_ne _ _ e,updI_ne _ _ e]
set_option maxHeartbeats 3200000 in
set_option maxRecDepth 100000 in
theorem search_any{w:World}{f bl b1 b2 b3 bq bp n m:Nat}{gr:Int}{E:List Ed}{fl rk0:Nat→Int}{s t:Nat}(hn:Net w f bl b1 b2 b3 bq bp n m gr E fl)(ha:Apart f bl b1 b2 b3 bq bp)(ht:TbV w b2 n 3 (fun v=> .int .i64 (rk0 v)))(hq:Qu w bq n [])
  (hE: ∀k,k<2*m→frm E k<n∧tto E k<n) (hs:s<n) (htn:t<n) (hst:s≠t) (hnb:n≤8192) (hm:m≤16384):
  Calls Tryz.prog 177 #[.pointer (some ⟨f,0,none⟩), .int .i64 s, .int .i64 t] w fun e w'=> ∃rk,e= .returned (.bool (rk t != -1))∧Rk n m E fl gr s t rk∧TbV w' b2 n 3 (fun v=> .int .i64 (rk v))∧Qu w' bq n []∧Fr (fun k=>k=b2∨k=bq) w w':=by
 obtain⟨i0,hi,hz0,hz1,hz2⟩:=info_parts info3
 obtain⟨VQ,q1,q2,q3⟩:=hq
 have HE:=hid hE
 have HN:=hid hn
 have hnd:=ha.nd
 simp only[List.nodup_cons,List.mem_cons,not_or,List.not_mem_nil,List.nodup_nil,not_false_eq_true,and_true] at hnd
 obtain⟨⟨a1,a2,a3,a4,a5,a6⟩,⟨a7,a8,a9,a10,a11⟩,⟨a12,a13,a14,a15⟩,⟨a16,a17,a18⟩,⟨a19,a20⟩,a21⟩:=hnd
 obtain⟨c0,c1,c2,c3,c4,c5,c6⟩:=seven_cells hn.pp.hd
 have HS:=hid (setAll_any ht (fun v=>⟨_,rfl⟩) hnb (-1))
 have HQ1:=hid q1
 clear hE hn ha ht q1
 go_enter Tryz.func177,Tryz.ntmps177
 go_wp2
 go_step3
 go_wp2_with fail
 refine HS.out.mono ?_
 rintro e w1 ⟨rfl,t1,f1⟩
 have HF1:=hid f1
 obtain⟨d0,d1,d2,d3,d4,d5,d6⟩:=seven_cells (HN.out.fr f1 a3 a8 a12).pp.hd
 have hs':(s:Int)<n:=by omega
 have t1c:=t1.cell hs
 have t1f:=t1.free s
 have HT2:=hid (t1.set s (.int .i64 0))
 have HQ2:=hid ((HQ1.out.fr f1 (fun e=>a17 e.symm)))
 have HW:Hid (Fr (fun k=>k=b2) w1 ((w1.setCell ⟨b2,s,none⟩ (.int .i64 0)).alloc (.cells #[.int .i64 (s:Int)] 3))):=((Fr.refl (fun k=>k=b2) w1).setCell ⟨b2,s,none⟩ (.int .i64 0) rfl).alloc _
 have HQ3:Hid (TbV ((w1.setCell ⟨b2,s,none⟩ (.int .i64 0)).alloc (.cells #[.int .i64 (s:Int)] 3)) bq n 3 VQ):=HQ2.out.fr HW.out (fun e=>a17 e.symm)
 have HT3:Hid (TbV ((w1.setCell ⟨b2,s,none⟩ (.int .i64 0)).alloc (.cells #[.int .i64 (s:Int)] 3)) b2 n 3 (fun v=> .int .i64 (updI (fun _=> -1) s 0 v))):=(TbV.same HT2.out (Below.heap_alloc _ _ _ HT2.out.lt)).congr (fun v _=>upd_rank _ _ _ v)
 have HC3:Hid (((w1.setCell ⟨b2,s,none⟩ (.int .i64 0)).alloc (.cells #[.int .i64 (s:Int)] 3)).cell? ⟨w1.heap.size,0,none⟩=some (.int .i64 s)):=by
  have h1:(w1.setCell ⟨b2,s,none⟩ (.int .i64 0)).heap.size=w1.heap.size:=by simp[World.setCell]
  have h2:=heap_top (w1.setCell ⟨b2,s,none⟩ (.int .i64 0)) (.cells #[.int .i64 (s:Int)] 3)
  rw[h1] at h2
  show World.cell? _ _=_
  unfold World.cell?
  rw[h2]
  rfl
 have hn0:0<n:=by omega
 clear f1 t1
 go_wp2_with (at_builtin;refine wpList_append_tb rfl (.tmp 27) (.tmp 29) 25 rfl 3 i0 Tryz.underlying25 hi hz1 bq 0 n VQ rfl HQ3.out ⟨w1.heap.size,0,none⟩ 1 (.int .i64 s) rfl HC3.out rfl hn0 ?_;intro w2 t2 f2;simp only[Nat.zero_add])
 have HF2:Hid (Fr (fun k=>k=b2∨k=bq) w w2):=((HF1.out.imp (fun _ h=> .inl h)).trans (HW.out.imp (fun _ h=> .inl h))).trans (f2.imp (fun _ h=> .inr h))
 have HT4:Hid (TbV w2 b2 n 3 (fun v=> .int .i64 (updI (fun _=> -1) s 0 v))):=HT3.out.fr f2 a17
 have HQ4:Hid (Qu w2 bq n [s]):=⟨_,t2,upd_ints q2 0 s,upd_snoc (q:= []) q3 s⟩
 have HB0:Hid (Bf n m E fl gr s t (updI (fun _=> -1) s 0) [s] (fun k=>k<2*m∧frm E k∈ [s].take 0)):=Bf.start hs hst (by simp)
 have HQS:=hid q2
 clear t2 f2 HW HQ3 HT3 HC3 HQ1 HQ2 HT2 HS HF1 d0 d1 d2 d3 d4 d5 d6 c0 c1 c2 c3 c4 c5 c6 t1c t1f hn0 q2 q3
 go_step3
 go_wp2_with fail
 go_loopg [7,8] n (fun gk qv iv wr=> ∃ (i:Nat) (q:List Nat) (rk:Nat→Int),Hid (i+gk=n)∧i≤q.length∧qv= .slice (some ⟨bq,0,none⟩) q.length n∧iv= .int .i64 i∧Hid (Qu wr bq n q)∧Hid (TbV wr b2 n 3 (fun v=> .int .i64 (rk v)))∧Hid (Bf n m E fl gr s t rk q (fun k=>k<2*m∧frm E k∈q.take i))∧Hid (Fr (fun k=>k=b2∨k=bq) w wr))
 case atStart=>exact⟨0,[s],_,Nat.zero_add _,Nat.zero_le _,rfl,rfl,HQ4,HT4,HB0,HF2⟩
 case round=>
  obtain⟨i,q,rk,HG,hiq,rfl,rfl,HQ,HT,HB,HF⟩:=hrel
  obtain⟨go,rfl⟩: ∃go,go=gk:=⟨gk,rfl⟩
  clear HQ4 HT4 HB0 HF2
  have HL:=hid HB.out.len
  have hN:=HN.out.fr HF.out (by omega) (by omega) (by omega)
  obtain⟨c0,c1,c2,c3,c4,c5,c6⟩:=seven_cells hN.pp.hd
  by_cases hlt:i<q.length
  ·have hlt':(i:Int)<q.length:=by omega
   obtain⟨hu,hu2⟩:=HB.out.node hlt
   obtain⟨V,v1,v2,v3⟩:=HQ.out
   have e0:=v1.cell (v:=i) (by have:=HL.out;omega)
   rw[v3 i hlt] at e0
   obtain⟨u,HUU⟩:=named (q.getD i 0)
   rw[HUU.out] at e0 hu hu2
   have e1:=hN.fi.cell hu
   obtain⟨st0,HST⟩:=named (lst E u (2*m))
   rw[HST.out] at e1
   have hu':(u:Int)<n:=by omega
   clear hN v1 v2 v3 hu2
   go_wp2_with fail
   go_loopg [7,10] (2*m) (fun gb qv sv wx=> ∃ (q':List Nat) (rk':Nat→Int),gb≤2*m∧qv= .slice (some ⟨bq,0,none⟩) q'.length n∧sv= .int .i64 (lst E u gb)∧Hid (Qu wx bq n q')∧Hid (TbV wx b2 n 3 (fun v=> .int .i64 (rk' v)))∧Hid (Bf n m E fl gr s t rk' q' (fun k=>k<2*m∧(frm E k∈q'.take i∨(frm E k=u∧gb≤k))))∧Hid (i<q'.length∧q'.getD i 0=u)∧Hid (Fr (fun k=>k=b2∨k=bq) w wx))
   case atStart=>exact⟨q,rk,Nat.le_refl _,rfl,by rw[HST.out],HQ,HT,HB.out.imp (fun k hk=> .inl ⟨hk.1,by rcases hk.2 with h | h;exact h;omega⟩),by first | exact⟨hlt,HUU.out⟩ | exact⟨hlt,by simpa using HUU.out⟩,HF⟩
   case round=>
    clear e0 e1 c0 c1 c2 c3 c4 c5 c6 HST HUU HQ HT HB HF hlt hlt'
    obtain⟨q',rk',hgb,rfl,rfl,HQ,HT,HB,HU,HF⟩:=hrel
    have hN:=HN.out.fr HF.out (by omega) (by omega) (by omega)
    obtain⟨c0,c1,c2,c3,c4,c5,c6⟩:=seven_cells hN.pp.hd
    have HL2:=hid HB.out.len
    have hib:i<8192:=by have:=HU.out.1;have:=HL2.out;omega
    rcases lst_cases E u gk with ⟨h,hno⟩ | ⟨k,hk,h,hf,hno⟩
    ·rw[h]
     have HNO:=hid hno
     clear h hno hN
     go_wp2_with fail
     go_roundg (go - 1)
     case measure=>have:=HG.out;have:=HU.out;have:=HL2.out;omega
     case rel=>
      have hiu:=HU.out
      refine⟨i+1,q',rk',by have:=HG.out;have:=HL2.out;show _=_;omega,by omega,rfl,by go_num,HQ,HT,HB.out.imp (fun k hk=> .inl ⟨hk.1,?_⟩),HF⟩
      have e2:q'.take (i+1)=q'.take i++[u]:=by
       rw[List.take_succ_eq_append_getElem hiu.1]
       congr 2
       have:=hiu.2
       simpa[List.getD,List.getElem?_eq_getElem hiu.1] using this
      rw[e2,List.mem_append] at hk
      rcases hk.2 with h1 | h1
      ·exact .inl h1
      ·exact .inr ⟨by simpa using h1,by
        by_cases hge:gk≤k
        ·exact hge
        ·exact absurd (by simpa using h1) (HNO.out k (by omega))⟩
    ·have hkm:k<2*m:=by omega
     have HNO:=hid hno
     have HFR:=hid hf
     obtain⟨v,HV⟩:=named (tto E k)
     obtain⟨r,HR⟩:=named (rm E fl k)
     obtain⟨nx,HNX⟩:=named (lst E u k)
     have hvn:v<n:=by rw[←HV.out];exact(HE.out k hkm).2
     have HCT:=hid (to_any hN.pp hN.ln hkm hm)
     have HCR:=hid (fun j:Nat=>room_any (w:=wr.drewN j) ⟨hN.pp.hd⟩ hN.ln hkm hm)
     have HCX:=hid (fun j:Nat=>next_any (w:=wr.drewN j) ⟨hN.pp.hd⟩ hN.ln hkm hm)
     have HCV:=hid (fun j:Nat=>reached_any (w:=wr.drewN j) (rk:=rk') ⟨hN.pp.hd⟩ HT.out hvn)
     have hXX:lst E (frm E k) k=nx:=by rw[hf];exact HNX.out
     rw[HV.out] at HCT
     rw[HR.out] at HCR
     simp only[hXX] at HCX
     obtain⟨x,HX⟩:=named (rk' v)
     rw[HX.out] at HCV
     rw[h]
     have hk1:((k:Int)== -1)=false:=by rw[beq_eq_false_iff_ne];omega
     have hk2: ¬(k:Int)= -1:=by omega
     clear h hno hN hf hXX
     go_wp2_with fail
     refine HCT.out.mono ?_
     rintro e w3 ⟨rfl,rfl⟩
     go_wp2_with fail
     by_cases hg:r<gr
     ·have hg':decide (r<gr)=true:=decide_eq_true hg
      go_quiet (first | (go_at_call 191;exact Calls.quiet_of_same (HCR.out _)) | (go_at_call 146;exact Calls.quiet_of_same (HCV.out _)))
      go_wp2_with fail
      refine(HCX.out _).mono ?_
      rintro e w4 ⟨rfl,rfl⟩
      go_wp2_with fail
      go_roundg k
      case measure=>omega
      case rel=>exact⟨q',rk',by omega,rfl,by rw[HNX.out],HQ,HT,HB.out.imp (fun j hj=>by
       by_cases e:j=k
       ·subst e;right;intro h;rw[HR.out] at h;omega
       ·left;refine⟨hj.1,?_⟩
        rcases hj.2 with h | ⟨h,h2⟩
        ·exact .inl h
        ·refine .inr ⟨h,?_⟩
         by_cases hge:gk≤j
         ·exact hge
         ·exact absurd h (HNO.out j (by omega) (by omega))),HU,HF.out.drewN _⟩
     ·have hg':decide (r<gr)=false:=decide_eq_false hg
      by_cases hx:x= -1
      ·have hx':(x != -1)=false:=by rw[hx];rfl
       have HBT:=HU.out
       have hnode:=HB.out.node HBT.1
       rw[HBT.2] at hnode
       have g0:=HT.out.cell hu
       have g1:=HT.out.cell hvn
       have gf:=HT.out.free v
       have HTS:=hid (fun y j=>TbV.set (w:=w3.drewN j) HT.out v (.int .i64 y))
       obtain⟨ru,HRU⟩:=named (rk' u)
       rw[HRU.out] at g0 hnode
       have hw1:IntKind.i64.wrap (ru+1)=ru+1:=by rw[IntKind.wrap_i64];omega
       have hv':(v:Int)<n:=by omega
       have HND:=hid hnode
       clear hnode HBT
       go_quiet (first | (go_at_call 191;exact Calls.quiet_of_same (HCR.out _)) | (go_at_call 146;exact Calls.quiet_of_same (HCV.out _)))
       go_wp2_with fail
       go_region
       have HFB:Hid (Fr (fun k=>k=b2) w3 ((w3.drewN (nq+1)).setCell ⟨b2,v,none⟩ (.int .i64 (ru+1)))):=((Fr.refl (fun k=>k=b2) w3).drewN (nq+1)).setCell ⟨b2,v,none⟩ (.int .i64 (ru+1)) rfl
       have HTW:Hid (TbV ((w3.drewN (nq+1)).setCell ⟨b2,v,none⟩ (.int .i64 (ru+1))) b2 n 3 (fun y=> .int .i64 (updI rk' v (ru+1) y))):=(HTS.out (ru+1) (nq+1)).congr (fun y _=>upd_rank _ _ _ y)
       generalize (w3.drewN (nq+1)).setCell ⟨b2,v,none⟩ (.int .i64 (ru+1))=W at*
       have HFW:Hid (Fr (fun k=>k=b2∨k=bq) w W):=HF.out.trans (HFB.out.imp (fun _ h=> .inl h))
       have HQW:Hid (Qu W bq n q'):=HQ.out.fr HFB.out (fun e=>a17 e.symm)
       have hNW:=HN.out.fr HFW.out (by omega) (by omega) (by omega)
       have HU2:Hid (i<q'.length∧q'.getD i 0=u):=HU
       by_cases hvt:v=t
       ·have hvt':((v:Int)==(t:Int))=true:=by rw[hvt];simp
        have HVT:=hid hvt
        have HCV2:=hid (reached_any (rk:=updI rk' v (ru+1)) hNW.pp HTW.out htn)
        obtain⟨y,HY⟩:=named (updI rk' v (ru+1) t)
        rw[HY.out] at HCV2
        clear hvt hNW g0 g1 gf c0 c1 c2 c3 c4 c5 c6
        go_wp2_with fail
        refine HCV2.out.mono ?_
        rintro e w5 ⟨rfl,rfl⟩
        go_wp2_with fail
        try rw[Exit.noGoto_ret]
        go_ret
        obtain⟨V,v1,v2,v3⟩:=HQW.out
        refine⟨updI rk' v (ru+1),by rw[HY.out];rfl,?_,HTW.out,⟨V,v1,v2,by simp⟩,HFW.out⟩
        have hfo:=HB.out.found HU2.out.1 HU2.out.2 hkm HFR.out (HV.out.trans HVT.out) (by rw[HR.out];omega)
        rw[HRU.out,←HVT.out] at hfo
        rw[←HVT.out]
        exact hfo
       ·have hvt':((v:Int)==(t:Int))=false:=by rw[beq_eq_false_iff_ne];omega
        have HBN:=hid (HB.out.take HU2.out.1 HU2.out.2 hkm HFR.out HV.out hvn (by rw[HR.out];omega) (HX.out.trans hx) hvt)
        rw[HRU.out] at HBN
        obtain⟨V,v1,v2,v3⟩:=HQW.out
        have hql:q'.length<n:=by
         have h5:=HBN.out.len
         simp at h5
         omega
        have HV1:Hid (TbV (W.alloc (.cells #[.int .i64 (v:Int)] 3)) bq n 3 V):=v1.same (Below.heap_alloc _ _ _ v1.lt)
        have HVC:Hid ((W.alloc (.cells #[.int .i64 (v:Int)] 3)).cell? ⟨W.heap.size,0,none⟩=some (.int .i64 v)):=by
         have h2:=heap_top W (.cells #[.int .i64 (v:Int)] 3)
         show World.cell? _ _=_
         unfold World.cell?
         rw[h2]
         rfl
        have HVI:=hid (upd_ints v2 q'.length v)
        have HVS:=hid (upd_snoc v3 v)
        have HFA:Hid (Fr (fun k=>k=b2∨k=bq) w (W.alloc (.cells #[.int .i64 (v:Int)] 3))):=HFW.out.alloc _
        have HTA:Hid (TbV (W.alloc (.cells #[.int .i64 (v:Int)] 3)) b2 n 3 (fun y=> .int .i64 (updI rk' v (ru+1) y))):=HTW.out.same (Below.heap_alloc _ _ _ HTW.out.lt)
        clear v1 v2 v3 hNW g0 g1 gf c0 c1 c2 c3 c4 c5 c6
        go_wp2_with (at_builtin;refine wpList_append_tb rfl (.tmp 86) (.tmp 88) 25 rfl 3 i0 Tryz.underlying25 hi hz1 bq q'.length n V rfl HV1.out ⟨W.heap.size,0,none⟩ 1 (.int .i64 v) rfl HVC.out rfl hql ?_;intro w5 t5 f5)
        have HF5:Hid (Fr (fun k=>k=b2∨k=bq) w w5):=HFA.out.trans (f5.imp (fun _ h=> .inr h))
        have HT5:Hid (TbV w5 b2 n 3 (fun y=> .int .i64 (updI rk' v (ru+1) y))):=HTA.out.fr f5 a17
        have hN5:=HN.out.fr HF5.out (by omega) (by omega) (by omega)
        have HX5:=hid (next_any hN5.pp hN5.ln hkm hm)
        have hXX:lst E (frm E k) k=nx:=by rw[HFR.out];exact HNX.out
        simp only[hXX] at HX5
        have HT6:=hid t5
        clear t5 f5 hN5 hXX
        go_wp2_with fail
        refine HX5.out.mono ?_
        rintro e w6 ⟨rfl,rfl⟩
        go_wp2_with fail
        go_roundg k
        case measure=>omega
        case rel=>
         have hil:i<q'.length:=HU2.out.1
         refine⟨q'++[v],updI rk' v (ru+1),by omega,by simp,by rw[HNX.out],⟨_,HT6.out,HVI.out,HVS.out⟩,HT5,HBN.out.imp (fun j hj=> ?_),⟨by simp;omega,by rw[←HU2.out.2];simp[List.getD,List.getElem?_append_left hil]⟩,HF5⟩
         rw[List.take_append_of_le_length (by omega)] at hj
         by_cases e:j=k
         ·subst e;right;intro _;rw[HV.out,updI_self];have:=HND.out;omega
         ·left;refine⟨hj.1,?_⟩
          rcases hj.2 with h | ⟨h,h2⟩
          ·exact .inl h
          ·refine .inr ⟨h,?_⟩
           by_cases hge:gk≤j
           ·exact hge
           ·exact absurd h (HNO.out j (by omega) (by omega))
      ·have hx':(x != -1)=true:=by simpa using hx
       go_quiet (first | (go_at_call 191;exact Calls.quiet_of_same (HCR.out _)) | (go_at_call 146;exact Calls.quiet_of_same (HCV.out _)))
       go_wp2_with fail
       refine(HCX.out _).mono ?_
       rintro e w4 ⟨rfl,rfl⟩
       go_wp2_with fail
       go_roundg k
       case measure=>omega
       case rel=>exact⟨q',rk',by omega,rfl,by rw[HNX.out],HQ,HT,HB.out.imp (fun j hj=>by
        by_cases e:j=k
        ·subst e;right;intro _;rw[HV.out,HX.out];exact hx
        ·left;refine⟨hj.1,?_⟩
         rcases hj.2 with h | ⟨h,h2⟩
         ·exact .inl h
         ·refine .inr ⟨h,?_⟩
          by_cases hge:gk≤j
          ·exact hge
          ·exact absurd h (HNO.out j (by omega) (by omega))),HU,HF.out.drewN _⟩
  ·have hi2:i=q.length:=by omega
   have hlt': ¬(i:Int)<q.length:=by omega
   have HCV:=hid (reached_any (rk:=rk) hN.pp HT.out htn)
   have HRK:Hid (Rk n m E fl gr s t rk):=HB.out.ended (fun k hk=>(HE.out k hk).1) (fun k hk hm=>⟨hk,by rw[hi2,List.take_length];exact hm⟩)
   obtain⟨x,HX⟩:=named (rk t)
   rw[HX.out] at HCV
   clear hN hi2
   go_wp2_with fail
   refine HCV.out.mono ?_
   rintro e w3 ⟨rfl,rfl⟩
   go_wp2_with fail
   try rw[Exit.noGoto_ret]
   go_ret
   obtain⟨V,v1,v2,v3⟩:=HQ.out
   exact⟨rk,by rw[HX.out];rfl,HRK.out,HT.out,⟨V,v1,v2,by simp⟩,HF.out⟩
end Go.Proofs.YtmenajiceaicpaaGreat.F6
