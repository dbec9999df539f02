import Derived.Test.YtmenajiceaicpaaGreatZAB
import Derived.Deep.RegionLaw
import Derived.Test.YtmenajiceaicpaaGreatZFF
open Go.Lib (hid)
set_option maxRecDepth 100000
namespace Go.Proofs.YtmenajiceaicpaaGreat.F6
open Go.RowKit
theorem six_agg{w:World}{bl m:Nat}{E:List Ed}{fl nx:Nat→Int}(hl:TbV w bl (m*6) 236 (lv E fl nx)){k:Nat}(hk:k<m):
  w.cell? ⟨bl,k*6,none⟩=some (.int .i64 (ed E k).f)∧w.cell? ⟨bl,k*6+1,none⟩=some (.int .i64 (ed E k).t)∧w.cell? ⟨bl,k*6+2,none⟩=some (.int .u32 ((ed E k).c - fl k))∧w.cell? ⟨bl,k*6+3,none⟩=some (.int .u32 (fl k))∧w.cell? ⟨bl,k*6+4,none⟩=some (.int .i64 (nx (2*k)))∧w.cell? ⟨bl,k*6+5,none⟩=some (.int .i64 (nx (2*k+1))):=by
 have h: ∀j,j<6→w.cell? ⟨bl,k*6+j,none⟩=some (lv E fl nx (k*6+j)):=fun j hj=>hl.cell (by omega)
 have e: ∀j,j<6→(k*6+j) / 6=k∧(k*6+j) % 6=j:=fun j hj=>by omega
 refine⟨?_,?_,?_,?_,?_,?_⟩
 ·rw[show k*6=k*6+0 from rfl,h 0 (by decide)];unfold lv;rw[(e 0 (by decide)).1,(e 0 (by decide)).2];rfl
 ·rw[h 1 (by decide)];unfold lv;rw[(e 1 (by decide)).1,(e 1 (by decide)).2];rfl
 ·rw[h 2 (by decide)];unfold lv;rw[(e 2 (by decide)).1,(e 2 (by decide)).2];rfl
 ·rw[h 3 (by decide)];unfold lv;rw[(e 3 (by decide)).1,(e 3 (by decide)).2];rfl
 ·rw[h 4 (by decide)];unfold lv;rw[(e 4 (by decide)).1,(e 4 (by decide)).2];rfl
 ·rw[h 5 (by decide)];unfold lv;rw[(e 5 (by decide)).1,(e 5 (by decide)).2];rfl
theorem pow32: ∀j:Fin 32,1≤(2:Int) ^ j.val % 4294967296∧(2:Int) ^ j.val % 4294967296<4294967296:=by decide+kernel
theorem bitLen_pos{x:Nat}(h:x≠0)(hx:x<18446744073709551616):1≤Lib.bitLen x:=by
 rw[Lib.bitLen_half x h hx];omega
theorem bitLen_le: ∀ (k x:Nat),k≤64→x<2 ^ k→Lib.bitLen x≤k
 | 0,x,_,h=>by
   have:x=0:=by simpa using h
   subst this
   decide
 | k+1,x,hk,h=>by
   by_cases e:x=0
   ·subst e
    have:Lib.bitLen 0=0:=by decide
    omega
   ·have h64:x<2 ^ 64:=Nat.lt_of_lt_of_le h (Nat.pow_le_pow_right (by decide) hk)
    rw[Lib.bitLen_half x e h64]
    have:=bitLen_le k (x / 2) (by omega) (by rw[Nat.pow_succ] at h;omega)
    omega
set_option maxHeartbeats 1600000 in
theorem coarsest_any{w:World}{f bl b1 b2 b3 bq bp n m:Nat}{gr:Int}{E:List Ed}{fl nx:Nat→Int}(hp:Pp w f bl b1 b2 b3 bq bp n m gr)(hl:TbV w bl (m*6) 236 (lv E fl nx))(hm:m≤16384)(hr: ∀j,j<m→0≤(ed E j).c - fl j∧(ed E j).c - fl j<4294967296):
  Calls Tryz.prog 176 #[.pointer (some ⟨f,0,none⟩)] w fun e w'=> ∃g:Int,e= .returned (.int .u32 g)∧1≤g∧g<4294967296∧Below w.heap.size w w':=by
 obtain⟨c0,c1,c2,c3,c4,c5,c6⟩:=seven_cells hp.hd
 have HL:=hid hl
 have HR:=hid hr
 clear hl hr
 go_enter Tryz.func176,Tryz.ntmps176
 go_wp2_with fail
 go_loopw [3,11] (fun x i wr=> ∃ (k:Nat) (y:Int),k≤m∧i= .int .i64 k∧x= .int .u32 y∧1≤y∧y<4294967296∧Hid (Below w.heap.size w wr)) (fun _ i _=>m - (intOf i).toNat)
 case atStart=>exact⟨0,1,Nat.zero_le _,rfl,rfl,by decide,by decide,Below.refl _ _⟩
 case round=>
  obtain⟨k,y,hk,rfl,rfl,hy1,hy2,HB⟩:=hrel
  by_cases hlt:k<m
  ·have hlt':(k:Int)<m:=by omega
   have hlx:=HL.out.same (HB.out.block bl HL.out.lt)
   obtain⟨e0,e1,e2,e3,e4,e5⟩:=six_agg hlx hlt
   have hrk:=HR.out k hlt
   generalize (ed E k).c - fl k=r at*
   obtain⟨y',HY⟩:=named (if y<r then r else y)
   have hmax:=HY.out
   have hy':1≤y'∧y'<4294967296:=by rw[←hmax];split <;> omega
   clear hlx
   go_wp2_with fail
   exact⟨⟨k+1,max y r,by omega,by go_num,rfl,by omega,by omega,HB.out.alloc HB.out.size _⟩,by simp[intOf];omega⟩
  ·have hlt': ¬(k:Int)<m:=by omega
   have HC:=hid (Tryz.bits_Len32 y wr (by omega) (by omega))
   obtain⟨L,HLN⟩:=named (Lib.bitLen y.toNat)
   have hL1:1≤L:=by rw[←HLN.out];exact bitLen_pos (by omega) (by omega)
   have hL2:L≤32:=by rw[←HLN.out];exact bitLen_le 32 _ (by decide) (by omega)
   rw[HLN.out] at HC
   clear c0 c1 c2 c3 c4 c5 c6
   go_wp2_with fail
   refine HC.out.mono ?_
   rintro e w3 ⟨rfl,rfl⟩
   go_wp2_with fail
   go_ret
   have hpw:=pow32 ⟨L - 1,by omega⟩
   exact⟨_,rfl,hpw.1,hpw.2,HB.out⟩
theorem wp_copy_tb{P:Program}{w:World}{o:Oper}{a:Act}{K:Act→World→Prop}{Q:Exit→Act→World→Prop}(d s:Operand)(t:TypeId)
  (ho:o.op= .call {callee:= .builtin .copy,args:= #[d,s],argTypes:= #[t,t]}) (elem:TypeId) (hu:P.underlying t=some (.slice elem)) (hsz:(P.info? elem).map (·.size)=some 1)
  (g b n:Nat) (U V:Nat→Value) (hd:a.eval d= .slice (some ⟨g,0,none⟩) n n) (hs:a.eval s= .slice (some ⟨b,0,none⟩) n n) (hg:TbV w g n elem U) (hb:TbV w b n elem V) (h1: ∀v,(V v).oneCell'=true)
  (h: ∀w',TbV w' g n elem V→Fr (fun j=>j=g) w w'→K (a.put o.dst (.int .i64 n)) w'):o.wp P a w K Q:=by
 have hr:=run_copy_row (P:=P) w t t o.type elem g 0 n n ⟨b,0,none⟩ n n _ elem ((List.range n).map V) hu hsz hg (by simp) (by
  intro j y hj
  have hjn:j<n:=by
   have:=(List.getElem?_eq_some_iff.1 hj).1
   simpa using this
  have e:y=V j:=by simp[hjn] at hj;exact hj.symm
  rw[e]
  have:=hb.cell hjn
  by_cases e0:j=0
  ·subst e0;simpa[Addr.add] using this
  ·simpa[Addr.add,e0] using this) (by simp) (by intro y hy;simp at hy;obtain⟨j,_,rfl⟩:=hy;exact h1 j)
 have e1:(((List.range n).map U).toArray.toList.take 0++(List.range n).map V++((List.range n).map U).toArray.toList.drop (0+((List.range n).map V).length)).toArray=((List.range n).map V).toArray:=by
  simp
 rw[e1] at hr
 have e2:goInt ((List.range n).map V).length= .int .i64 n:=by simp[goInt]
 rw[e2] at hr
 unfold Oper.wp
 simp[execOp,ho,resolve,invoke,builtin,hd,hs,hr,Result.andThen]
 exact h _ (setRow_heap w g _ _ elem _ hg) ⟨rfl,rfl,rfl,by simp,fun j _ hj=>setRow_other w g j _ hj⟩
def Ints(w:World)(b n:Nat):Prop:= ∃F:Nat→Int,TbV w b n 3 (fun v=> .int .i64 (F v))
theorem Ints.fr{D:Nat→Prop}{w w':World}{b n:Nat}(h:Ints w b n)(hf:Fr D w w')(hn: ¬D b):Ints w' b n:=by
 obtain⟨F,h⟩:=h
 exact⟨F,h.fr hf hn⟩
structure St(w0 w:World)(f bl b1 b2 b3 bq bp n m:Nat)(gr:Int)(E:List Ed)(fl:Nat→Int):Prop where
 nt:Net w f bl b1 b2 b3 bq bp n m gr E fl
 rk:Ints w b2 n
 op:Ints w b3 n
 qu:Qu w bq n []
 pa:Qu w bp n []
 fr:Fr (fun k=>k=f∨k=bl∨k=b2∨k=b3∨k=bq∨k=bp) w0 w
theorem St.grain{w0 w:World}{f bl b1 b2 b3 bq bp n m:Nat}{gr:Int}{E:List Ed}{fl:Nat→Int}(h:St w0 w f bl b1 b2 b3 bq bp n m gr E fl)(ha:Apart f bl b1 b2 b3 bq bp)(g:Int):St w0 (w.setCell ⟨f,6,none⟩ (.int .u32 g)) f bl b1 b2 b3 bq bp n m g E fl:=by
 have hnd:=ha.nd
 simp only[List.nodup_cons,List.mem_cons,not_or,List.not_mem_nil,List.nodup_nil,not_false_eq_true,and_true] at hnd
 obtain⟨⟨a1,a2,a3,a4,a5,a6⟩,_⟩:=hnd
 have hf:Fr (fun k=>k=f) w (w.setCell ⟨f,6,none⟩ (.int .u32 g)):=(Fr.refl _ w).setCell ⟨f,6,none⟩ _ rfl
 refine⟨⟨⟨?_⟩,h.nt.ln.fr hf (fun e=>a1 e.symm),h.nt.fi.fr hf (fun e=>a2 e.symm)⟩,h.rk.fr hf (fun e=>a3 e.symm),h.op.fr hf (fun e=>a4 e.symm),h.qu.fr hf (fun e=>a5 e.symm),h.pa.fr hf (fun e=>a6 e.symm),h.fr.trans (hf.imp (fun _ h=> .inl h))⟩
 rw[heap_setCell_same w f 6 _ _ _ h.nt.pp.hd]
 simp
set_option maxHeartbeats 3200000 in
theorem fill_any{w:World}{f bl b1 b2 b3 bq bp n m:Nat}{gr:Int}{E:List Ed}{fl:Nat→Int}{s t:Nat}(ha:Apart f bl b1 b2 b3 bq bp)(hS:St w w f bl b1 b2 b3 bq bp n m gr E fl)
  (g:RN n E) (hm:E.length=m) (hE: ∀k,k<2*m→frm E k<n∧tto E k<n) (hs:s<n) (htn:t<n) (hst:s≠t) (hF:Flow n E s t fl) (hn0:net E fl s E.length=0):
  Calls Tryz.prog 145 #[.pointer (some ⟨f,0,none⟩), .int .i64 s, .int .i64 t] w fun e w'=> ∃ (fl' rk:Nat→Int),e= .returned (.int .u64 (net E fl' s E.length))∧Flow n E s t fl'∧Rk n m E fl' 1 s t rk∧rk t= -1∧TbV w' b2 n 3 (fun v=> .int .i64 (rk v))∧St w w' f bl b1 b2 b3 bq bp n m 0 E fl':=by
 have HA:=hid ha
 have HE:=hid hE
 have HG:=hid g
 have HMM:=hid hm
 have hmb:m≤16384:=by rw[←hm];exact g.lb
 have hnb:n≤1024:=g.nb
 have hnd:=ha.nd
 simp only[List.nodup_cons,List.mem_cons,not_or,List.not_mem_nil,List.nodup_nil,not_false_eq_true,and_true] at hnd
 obtain⟨⟨a1,a2,a3,a4,a5,a6⟩,⟨a7,a8,a9,a10,a11⟩,⟨a12,a13,a14,a15⟩,⟨a16,a17,a18⟩,⟨a19,a20⟩,a21⟩:=hnd
 have HC:=hid (coarsest_any hS.nt.pp hS.nt.ln hmb (fun j hj=>by
  have h1:=hF.lo j (by omega)
  have h2:=hF.hi j (by omega)
  have h3:=g.cap j (by omega)
  omega))
 have HS0:=hid hS
 have HF0:=hid hF
 have HN0:=hid hn0
 clear hE ha g hm hS hF hn0
 go_enter Tryz.func145,Tryz.ntmps145
 go_wp2_with fail
 refine HC.out.mono ?_
 rintro e w1 ⟨g0,rfl,hg1,hg2,hb⟩
 have HFR1:Hid (Fr (fun _=>False) w w1):=⟨hb.os,hb.tape,hb.output,hb.size,fun k hk _=>hb.block k hk⟩
 have hS1:St w w1 f bl b1 b2 b3 bq bp n m gr E fl:=⟨HS0.out.nt.fr HFR1.out (fun h=>h) (fun h=>h) (fun h=>h),HS0.out.rk.fr HFR1.out (fun h=>h),HS0.out.op.fr HFR1.out (fun h=>h),HS0.out.qu.fr HFR1.out (fun h=>h),HS0.out.pa.fr HFR1.out (fun h=>h),HS0.out.fr.trans (HFR1.out.imp (fun _ h=>h.elim))⟩
 obtain⟨c0,c1,c2,c3,c4,c5,c6⟩:=seven_cells hS1.nt.pp.hd
 have cf:w1.frozen? ⟨f,6,none⟩=false:=by have:=hS1.nt.pp.hd;simp[World.frozen?,this]
 have HS2:=hid (hS1.grain HA.out g0)
 obtain⟨G,hG⟩: ∃G:Nat,g0=(G:Int):=⟨g0.toNat,by omega⟩
 subst hG
 clear hb hS1
 go_wp2_with fail
 generalize w1.setCell ⟨f,6,none⟩ (.int .u32 (G:Int))=w2 at*
 clear c0 c1 c2 c3 c4 c5 c6 cf
 go_loopg [7] G (fun gk tv wr=> ∃ (fl':Nat→Int) (tot:Int),tv= .int .u64 tot∧Hid (gk≤G)∧Hid (net E fl' s E.length=tot∧0≤tot)∧Hid (Flow n E s t fl')∧Hid (St w wr f bl b1 b2 b3 bq bp n m (gk:Int) E fl')∧Hid (gk=0→∃rk:Nat→Int,Rk n m E fl' 1 s t rk∧rk t= -1∧TbV wr b2 n 3 (fun v=> .int .i64 (rk v))))
 case atStart=>exact⟨fl,0,rfl,Nat.le_refl _,⟨HN0.out,Int.le_refl _⟩,HF0,HS2,fun h=>by omega⟩
 case round=>
  obtain⟨fl',tot,rfl,HGG,HNT,HF,HS,HZ⟩:=hrel
  obtain⟨go,rfl⟩: ∃go,go=gk:=⟨gk,rfl⟩
  obtain⟨c0,c1,c2,c3,c4,c5,c6⟩:=seven_cells HS.out.nt.pp.hd
  obtain⟨gi,HGI⟩:=named ((go:Nat):Int)
  rw[HGI.out] at c6
  have hgi:0≤gi:=by rw[←HGI.out];omega
  by_cases hz:go=0
  ·obtain⟨rk,r1,r2,r3⟩:=HZ.out hz
   have hS0:=HS.out
   rw[hz] at hS0
   have HS0:=hid hS0
   have HR1:=hid r1
   have HR2:=hid r2
   have HR3:=hid r3
   have hz': ¬(0:Int)<gi:=by rw[←HGI.out];omega
   clear hz r1 r2 r3 hS0
   go_wp2_with fail
   go_ret
   exact⟨fl',by rw[HNT.out.1];rfl,HF.out,rk,HR1.out,HR2.out,HR3.out,HS0.out⟩
  ·have hz':(0:Int)<gi:=by rw[←HGI.out];omega
   have HZ2:=hid hz
   clear hz
   go_wp2_with fail
   go_loopg [7] ((capK E (fun v=>v==s) E.length - net E fl' s E.length).toNat) (fun gb tv wx=> ∃ (f2:Nat→Int) (to2:Int),tv= .int .u64 to2∧Hid (gb=(capK E (fun v=>v==s) E.length - net E f2 s E.length).toNat)∧Hid (net E f2 s E.length=to2∧0≤to2)∧Hid (Flow n E s t f2)∧Hid (St w wx f bl b1 b2 b3 bq bp n m (go:Int) E f2))
   case atStart=>exact⟨fl',tot,rfl,rfl,HNT,HF,HS⟩
   case round=>
    clear HNT HF HS HZ c0 c1 c2 c3 c4 c5 c6
    obtain⟨f2,to2,rfl,HGB,HNT,HF,HS⟩:=hrel
    obtain⟨rk0,hrk0⟩:=HS.out.rk
    have HCS:=hid (search_any HS.out.nt HA.out hrk0 HS.out.qu HE.out hs htn hst (by omega) hmb)
    clear hrk0
    go_wp2_with fail
    refine HCS.out.mono ?_
    rintro e w3 ⟨rk,rfl,hRk,hT,hQ,hFr⟩
    have hS3:St w w3 f bl b1 b2 b3 bq bp n m (go:Int) E f2:=⟨HS.out.nt.fr hFr (by omega) (by omega) (by omega),⟨rk,hT⟩,HS.out.op.fr hFr (by omega),hQ,HS.out.pa.fr hFr (by omega),HS.out.fr.trans (hFr.imp (fun k h=>by omega))⟩
    obtain⟨c0,c1,c2,c3,c4,c5,c6⟩:=seven_cells hS3.nt.pp.hd
    rw[HGI.out] at c6
    have HS3:=hid hS3
    have HRK:=hid hRk
    have HT3:=hid hT
    clear hRk hT hQ hFr
    by_cases hrt:rk t= -1
    ·have hrt':(rk t != -1)=false:=by rw[hrt];rfl
     have HRT:=hid hrt
     have cf:w3.frozen? ⟨f,6,none⟩=false:=by have:=hS3.nt.pp.hd;simp[World.frozen?,this]
     have HSG:=hid (hS3.grain HA.out ((go / 2:Nat):Int))
     have hgo2:gi<4294967296:=by have:=HGG.out;rw[←HGI.out];omega
     clear hrt hS3
     go_wp2_with fail
     go_roundg (go / 2)
     case measure=>have:=HZ2.out;omega
     case rel=>
      have hdv:gi / 2=((go / 2:Nat):Int):=by rw[←HGI.out];omega
      rw[hdv]
      refine⟨f2,to2,rfl,by have:=HGG.out;show _≤_;omega,HNT,HF,HSG,fun h0=>⟨rk,?_,HRT.out,HT3.out.fr ((Fr.refl (fun k=>k=f) w3).setCell ⟨f,6,none⟩ _ rfl) (fun e=>a3 e.symm)⟩⟩
      have h:=HRK.out
      rw[show((go:Nat):Int)=1 by have:=HZ2.out;omega] at h
      exact h
    ·have hrt':(rk t != -1)=true:=by simpa using hrt
     have HRT:=hid hrt
     obtain⟨F3,hF3⟩:=hS3.op
     have HF3:=hid hF3
     have HI3:=hid hS3.nt.fi
     clear hrt hS3 hF3
     go_wp2_with fail
     go_region_law (first | (rw[if_pos (by rfl)];refine wp_copy_tb (.tmp 32) (.tmp 36) 25 rfl 3 Tryz.underlying25 (by kernel_rfl) b3 b1 n _ _ rfl rfl HF3.out HI3.out (fun _=>rfl) ?_;intro w5 t5 f5))
     all_goals
      have HF5:Hid (Fr (fun j=>j=b3) w3 w5):=⟨f5.os,f5.tape,f5.output,f5.size,f5.block⟩
      have hA5:At w5 w5 f bl b1 b2 b3 bq bp n m (go:Int) E f2 rk (fun _=>2*m) []:=⟨HS3.out.nt.fr HF5.out a4 a9 a13,t5,HT3.out.fr HF5.out a16,HS3.out.pa.fr HF5.out (fun e=>a20 e.symm),Fr.refl _ _⟩
      have HCB:=hid (block_any HA.out hA5 HG.out HMM.out HE.out hs htn hst (by have:=HZ2.out;omega) (by have:=HGG.out;omega) (by have:=HNT.out;omega) HRK.out HRT.out HF.out)
      have HQ5:=hid (HS3.out.qu.fr HF5.out (fun e=>a19 e.symm))
      clear t5 f5 hA5 c0 c1 c2 c3 c4 c5 c6
      go_wp2_with fail
      refine HCB.out.mono ?_
      rintro e w6 ⟨f3,ob,dt,rfl,hdt,hFl,hNet,hA6⟩
      have hcut:=hFl.le_cut HG.out hs (R:=fun v=>v==s) (by simp) (by simpa using fun e=>hst e.symm)
      have hcl:=capK_le (R:=fun v=>v==s) HG.out.cap E.length (Nat.le_refl _)
      have hsm:0≤to2∧0≤dt∧to2+dt<18446744073709551616:=by
       have h1:=HNT.out
       have h4:=HMM.out
       have h5:(E.length:Int)≤16384:=by omega
       omega
      obtain⟨hs1,hs2,hs3⟩:=hsm
      have HFL3:=hid hFl
      have HNE3:=hid hNet
      have HA6:=hid hA6
      have HCU:=hid hcut
      clear hFl hNet hA6 hcut hcl
      go_wp2_with fail
      go_roundg ((capK E (fun v=>v==s) E.length - net E f3 s E.length).toNat)
      case measure=>have h1:=HGB.out;have h2:=HCU.out;have h3:=HNE3.out;omega
      case rel=>exact⟨f3,to2+dt,rfl,rfl,⟨by rw[HNE3.out,HNT.out.1],by omega⟩,HFL3,⟨HA6.out.nt,⟨rk,HA6.out.rk⟩,⟨_,HA6.out.op⟩,HQ5.out.fr HA6.out.fr (by omega),HA6.out.pa,(HS3.out.fr.trans (HF5.out.imp (fun k h=>by omega))).trans (HA6.out.fr.imp (fun k h=>by omega))⟩⟩
end Go.Proofs.YtmenajiceaicpaaGreat.F6
