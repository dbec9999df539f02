import Derived.Deep.CutBlock
import Derived.Deep.RegionWith
import Derived.Test.YtmenajiceaicpaaGreatZFE
open Go.Lib (hid)
namespace Go.Proofs.YtmenajiceaicpaaGreat.F6
open Go.RowKit
def Ms(n:Nat)(E:List Ed)(s:Nat)(fl:Nat→Int)(ob:Nat→Nat)(p:List Nat):Nat:=
 (capK E (fun v=>v==s) E.length - net E fl s E.length).toNat*(n+1)+2*sumO ob n+(n - p.length)
theorem Ms_skip{n:Nat}{E:List Ed}{s:Nat}{fl:Nat→Int}{ob:Nat→Nat}{p:List Nat}{v k:Nat}(hv:v<n)(hk:k<ob v):Ms n E s fl (updN ob v k) p<Ms n E s fl ob p:=by
 have:=sumO_upd hk n hv
 unfold Ms;omega
theorem Ms_go{n:Nat}{E:List Ed}{s:Nat}{fl:Nat→Int}{ob:Nat→Nat}{p:List Nat}{k:Nat}(h:p.length<n):Ms n E s fl ob (p++[k])<Ms n E s fl ob p:=by
 unfold Ms
 simp only[List.length_append,List.length_singleton]
 omega
theorem Ms_back{n:Nat}{E:List Ed}{s:Nat}{fl:Nat→Int}{ob:Nat→Nat}{q:List Nat}{v k j:Nat}(hv:v<n)(hk:k<ob v):Ms n E s fl (updN ob v k) q<Ms n E s fl ob (q++[j]):=by
 have:=sumO_upd hk n hv
 unfold Ms
 simp only[List.length_append,List.length_singleton]
 omega
theorem Ms_push{n:Nat}{E:List Ed}{s t:Nat}{fl fl2:Nat→Int}{ob:Nat→Nat}{p q:List Nat}(hf:Flow n E s t fl2)(g:RN n E)(hs:s<n)(hst:s≠t){x:Int}(hx:0<x)(hn:net E fl2 s E.length=net E fl s E.length+x):Ms n E s fl2 ob q<Ms n E s fl ob p:=by
 have hc:=hf.le_cut g hs (R:=fun v=>v==s) (by simp) (by simpa using fun e=>hst e.symm)
 unfold Ms
 obtain⟨C,hC⟩: ∃C,capK E (fun v=>v==s) E.length=C:=⟨_,rfl⟩
 rw[hC] at hc ⊢
 obtain⟨a,ha⟩: ∃a,(C - net E fl s E.length).toNat=a:=⟨_,rfl⟩
 obtain⟨b,hb⟩: ∃b,(C - net E fl2 s E.length).toNat=b:=⟨_,rfl⟩
 rw[ha,hb]
 have hab:b+1≤a:=by omega
 have:=Nat.mul_le_mul_right (n+1) hab
 rw[Nat.add_mul] at this
 omega
theorem Bk.len{n m:Nat}{E:List Ed}{gr:Int}{s t:Nat}{rk fl0 fl:Nat→Int}{ob:Nat→Nat}{p:List Nat}{v:Nat}{tot:Int}(h:Bk n m E gr s t rk fl0 fl ob p v tot)(hR:Rk n m E fl0 gr s t rk):p.length≤n:=by
 have h1:=h.rkv
 rcases hR.pos v h.vn with h2 | h2 <;> omega
theorem least_max(E:List Ed)(fl:Nat→Int)(p:List Nat): ∀k,leastN E fl p k≤4294967295
 | 0=>Int.le_refl _
 | k+1=>by
   have:=least_max E fl p k
   simp only[leastN]
   split <;> omega
theorem chn_nil{E:List Ed}{s v:Nat}(h:Chn E s [] v):v=s:=by
 generalize hp:([]:List Nat)=r at h
 cases h with
 | nil=>rfl
 | snoc _=>simp at hp
theorem Bk.last{n m:Nat}{E:List Ed}{gr:Int}{s t:Nat}{rk fl0 fl:Nat→Int}{ob:Nat→Nat}{p:List Nat}{v:Nat}{tot:Int}(h:Bk n m E gr s t rk fl0 fl ob p v tot)(hp:0<p.length): ∃q k,p=q++[k]∧p.getD (p.length - 1) 0=k∧tto E k=v∧k<2*m:=by
 rcases List.eq_nil_or_concat p with rfl | ⟨q,k,hqk⟩
 ·simp at hp
 ·have e:p=q++[k]:=by simpa using hqk
  subst e
  refine⟨q,k,rfl,by simp[List.getD],(chn_snoc h.chn).2.symm,(h.lim k (by simp)).1⟩
theorem capK_le{E:List Ed}{R:Nat→Bool}(h: ∀j,j<E.length→0≤(ed E j).c∧(ed E j).c<4294967296): ∀k,k≤E.length→capK E R k≤k*4294967296
 | 0,_=>by simp[capK]
 | k+1,hk=>by
   have h1:=capK_le (R:=R) h k (by omega)
   have h2:=h k (by omega)
   simp only[capK]
   split <;> (try split) <;> omega
theorem Qu.cells{w:World}{b n:Nat}{q:List Nat}(h:Qu w b n q)(hl:q.length≤n): ∀i,i<q.length→w.cell? ⟨b,i,none⟩=some (.int .i64 ((q.getD i 0:Nat):Int)):=fun i hi=>by
 obtain⟨V,h1,_,h3⟩:=h
 rw[h1.cell (by omega),h3 i hi]
theorem Qu.lt{w:World}{b n:Nat}{q:List Nat}(h:Qu w b n q):b<w.heap.size:=by
 obtain⟨V,h1,_,_⟩:=h
 exact h1.lt
theorem Qu.take{w:World}{b n:Nat}{q:List Nat}(h:Qu w b n q)(j:Nat):Qu w b n (q.take j):=by
 obtain⟨V,h1,h2,h3⟩:=h
 refine⟨V,h1,h2,fun i hi=> ?_⟩
 have hi2:i<j∧i<q.length:=by rw[List.length_take] at hi;omega
 rw[h3 i hi2.2]
 simp[List.getD,hi2.1]
structure At(w0 w:World)(f bl b1 b2 b3 bq bp n m:Nat)(gr:Int)(E:List Ed)(fl rk:Nat→Int)(ob:Nat→Nat)(p:List Nat):Prop where
 nt:Net w f bl b1 b2 b3 bq bp n m gr E fl
 op:TbV w b3 n 3 (fun u=> .int .i64 (lst E u (ob u)))
 rk:TbV w b2 n 3 (fun u=> .int .i64 (rk u))
 pa:Qu w bp n p
 fr:Fr (fun k=>k=bl∨k=b3∨k=bp) w0 w
theorem upd_open(E:List Ed)(ob:Nat→Nat)(v k:Nat): ∀x,updV (fun u=>Value.int .i64 (lst E u (ob u))) v (.int .i64 (lst E v k)) x= .int .i64 (lst E x (updN ob v k x)):=fun x=>by
 by_cases e:x=v
 ·subst e;rw[updV_self,updN_self]
 ·rw[updV_ne _ _ e,updN_ne _ _ e]
theorem At.open{w0 w w':World}{f bl b1 b2 b3 bq bp n m:Nat}{gr:Int}{E:List Ed}{fl rk:Nat→Int}{ob ob2:Nat→Nat}{p:List Nat}(h:At w0 w f bl b1 b2 b3 bq bp n m gr E fl rk ob p)(a4: ¬f=b3)(a9: ¬bl=b3)(a13: ¬b1=b3)(a16: ¬b2=b3)(a20: ¬b3=bp)(hf:Fr (fun j=>j=b3) w w')(ht:TbV w' b3 n 3 (fun u=> .int .i64 (lst E u (ob2 u)))):At w0 w' f bl b1 b2 b3 bq bp n m gr E fl rk ob2 p:=
 ⟨h.nt.fr hf a4 a9 a13,ht,h.rk.fr hf a16,h.pa.fr hf (fun e=>a20 e.symm),h.fr.trans (hf.imp (fun _ h=> .inr (.inl h)))⟩
theorem At.open2{w0 w w':World}{f bl b1 b2 b3 bq bp n m:Nat}{gr:Int}{E:List Ed}{fl rk:Nat→Int}{ob ob2:Nat→Nat}{p q:List Nat}(h:At w0 w f bl b1 b2 b3 bq bp n m gr E fl rk ob p)(a4: ¬f=b3)(a9: ¬bl=b3)(a13: ¬b1=b3)(a16: ¬b2=b3)(a20: ¬b3=bp)(hf:Fr (fun j=>j=b3) w w')(ht:TbV w' b3 n 3 (fun u=> .int .i64 (lst E u (ob2 u))))(hq:Qu w bp n q):At w0 w' f bl b1 b2 b3 bq bp n m gr E fl rk ob2 q:=
 ⟨h.nt.fr hf a4 a9 a13,ht,h.rk.fr hf a16,hq.fr hf (fun e=>a20 e.symm),h.fr.trans (hf.imp (fun _ h=> .inr (.inl h)))⟩
theorem At.path{w0 w w':World}{f bl b1 b2 b3 bq bp n m:Nat}{gr:Int}{E:List Ed}{fl rk:Nat→Int}{ob:Nat→Nat}{p q:List Nat}(h:At w0 w f bl b1 b2 b3 bq bp n m gr E fl rk ob p)(a6: ¬f=bp)(a11: ¬bl=bp)(a15: ¬b1=bp)(a18: ¬b2=bp)(a20: ¬b3=bp)(hf:Fr (fun j=>j=bp) w w')(ht:Qu w' bp n q):At w0 w' f bl b1 b2 b3 bq bp n m gr E fl rk ob q:=
 ⟨h.nt.fr hf a6 a11 a15,h.op.fr hf a20,h.rk.fr hf a18,ht,h.fr.trans (hf.imp (fun _ h=> .inr (.inr h)))⟩
theorem one_top(W:World)(k:Nat):(W.alloc (.cells #[.int .i64 (k:Int)] 3)).cell? ⟨W.heap.size,0,none⟩=some (.int .i64 k):=by
 have h2:=heap_top W (.cells #[.int .i64 (k:Int)] 3)
 unfold World.cell?
 rw[h2]
 rfl
set_option maxHeartbeats 3200000 in
set_option maxRecDepth 100000 in
theorem block_any{w:World}{f bl b1 b2 b3 bq bp n m:Nat}{gr:Int}{E:List Ed}{fl rk:Nat→Int}{s t:Nat}(ha:Apart f bl b1 b2 b3 bq bp)(hA:At w w f bl b1 b2 b3 bq bp n m gr E fl rk (fun _=>2*m) [])
  (g:RN n E) (hm:E.length=m) (hE: ∀k,k<2*m→frm E k<n∧tto E k<n) (hs:s<n) (htn:t<n) (hst:s≠t) (hgr:1≤gr) (hgr2:gr<4294967296) (hn0:0≤net E fl s E.length) (hR:Rk n m E fl gr s t rk) (ht:rk t≠ -1) (hF:Flow n E s t fl):
  Calls Tryz.prog 178 #[.pointer (some ⟨f,0,none⟩), .int .i64 s, .int .i64 t] w fun e w'=> ∃ (fl':Nat→Int) (ob:Nat→Nat) (tot:Int),e= .returned (.int .u64 tot)∧1≤tot∧Flow n E s t fl'∧net E fl' s E.length=net E fl s E.length+tot∧At w w' f bl b1 b2 b3 bq bp n m gr E fl' rk ob []:=by
 obtain⟨i0,hi,hz0,hz1,hz2⟩:=info_parts info3
 have HE:=hid hE
 have HA0:=hid hA
 have HG:=hid g
 have HR:=hid hR
 have HFL:=hid hF
 have HTT:=hid ht
 have HMM:=hid hm
 have HN0:=hid hn0
 have hmb:m≤16384:=by rw[←hm];exact g.lb
 have hnb:n≤1024:=g.nb
 have hnd:=ha.nd
 simp only[List.nodup_cons,List.mem_cons,not_or,List.not_mem_nil,List.nodup_nil,not_false_eq_true,and_true] at hnd
 obtain⟨⟨a1,a2,a3,a4,a5,a6⟩,⟨a7,a8,a9,a10,a11⟩,⟨a12,a13,a14,a15⟩,⟨a16,a17,a18⟩,⟨a19,a20⟩,a21⟩:=hnd
 obtain⟨c0,c1,c2,c3,c4,c5,c6⟩:=seven_cells hA.nt.pp.hd
 clear hE ha hA g hR hF ht hm hn0
 go_enter Tryz.func178,Tryz.ntmps178
 go_wp2
 go_step3
 go_wp2_with fail
 go_quiet (fail)
 go_wp2_with fail
 try go_step3
 go_wp2_with fail
 have HB0:Hid (Bk n m E gr s t rk fl fl (fun _=>2*m) [] s 0):=Bk.start HFL.out hs HR.out.s0
 clear c0 c1 c2 c3 c4 c5 c6
 go_loopg [7,8] (Ms n E s fl (fun _=>2*m) []) (fun gk tv pv wr=> ∃ (fl':Nat→Int) (ob:Nat→Nat) (p:List Nat) (v:Nat) (tot:Int),Hid (gk=Ms n E s fl' ob p)∧tv= .int .u64 tot∧pv= .slice (some ⟨bp,0,none⟩) p.length n∧Hid (Bk n m E gr s t rk fl fl' ob p v tot)∧Hid (At w wr f bl b1 b2 b3 bq bp n m gr E fl' rk ob p))
 case atStart=>exact⟨fl,_,[],s,0,rfl,rfl,rfl,HB0,⟨⟨⟨HA0.out.nt.pp.hd⟩,HA0.out.nt.ln,HA0.out.nt.fi⟩,HA0.out.op,HA0.out.rk,HA0.out.pa.fr (D:=fun _=>False) (Fr.drewN (Fr.refl _ _) _) (fun h=>h),HA0.out.fr.drewN _⟩⟩
 case round=>
  obtain⟨fl',ob,p,v,tot,HGK,rfl,rfl,HB,HA⟩:=hrel
  obtain⟨go,rfl⟩: ∃go,go=gk:=⟨gk,rfl⟩
  have HPL:=hid (HB.out.len HR.out)
  go_upto_if 21 with fail
  go_cut [9] from 18 to 132 (fun s9 wc=>s9= .int .i64 v∧wc=wr)
  case first=>
   by_cases hp0:p.length=0
   ·have hpn:p= []:=List.eq_nil_of_length_eq_zero hp0
    have hvs:v=s:=by have:=HB.out.chn;rw[hpn] at this;exact chn_nil this
    have hp1: ¬(0:Int)<(p.length:Int):=by omega
    clear hpn hp0
    go_wp2_with fail
    go_meet
    case rel=>exact⟨by rw[hvs],rfl⟩
   ·obtain⟨q,k,HPQ,hlast,hto,hk⟩:=HB.out.last (by omega)
    have e0:=HA.out.pa.cells HPL.out (p.length - 1) (by omega)
    rw[hlast] at e0
    have HCT:=hid (to_any HA.out.nt.pp HA.out.nt.ln hk hmb)
    rw[hto] at HCT
    have hp1:(0:Int)<(p.length:Int):=by omega
    have hp2:(p.length:Int) - 1=((p.length - 1:Nat):Int):=by omega
    have hp3:((p.length - 1:Nat):Int)<(p.length:Int):=by omega
    have hp4:p.length≤1024:=by have:=HPL.out;omega
    have HPQ':=hid HPQ
    clear HPQ hlast hto hp0
    go_wp2_with fail
    refine HCT.out.mono ?_
    rintro e w3 ⟨rfl,rfl⟩
    go_wp2_with fail
    go_meet
    case rel=>exact⟨rfl,rfl⟩
  case rest=>
   obtain⟨rfl,rfl⟩:=hcut
   by_cases hvt:v=t
   ·have hvt':((v:Int)==(t:Int))=true:=by rw[hvt];simp
    have HVT:=hid hvt
    have HB2:Hid (Bk n m E gr s t rk fl fl' ob p t tot):=by have h:=HB.out;rw[hvt] at h;exact h
    have HPC:=hid (HA.out.pa.cells HPL.out)
    have hk: ∀k∈p,k<2*m:=fun k hk=>(HB.out.lim k hk).1
    have hpl:p.length≤1024:=by have:=HPL.out;omega
    have HCL:=hid (least_any (c:=n) HA.out.nt.pp HA.out.nt.ln hmb hk (by omega) HPC.out)
    have hle: ∀k∈p,leastN E fl' p p.length≤rm E fl' k:=fun k hk=>by
     obtain⟨i,hi,e⟩:=List.getElem_of_mem hk
     have:=least_le E fl' p p.length i hi
     rwa [show p.getD i 0=k by simp[List.getD,List.getElem?_eq_getElem hi,e]] at this
    have hge:gr≤leastN E fl' p p.length:=least_ge E fl' p gr (by omega) p.length (fun i hi=>(HB.out.lim _ (by simp[List.getD,List.getElem?_eq_getElem hi])).2.1)
    obtain⟨x,HX⟩:=named (leastN E fl' p p.length)
    rw[HX.out] at HCL hle hge
    have hcap:=HG.out.cap
    have hfl: ∀j,j<E.length→0≤fl' j∧fl' j≤(ed E j).c:=fun j hj=>⟨HB.out.flow.lo j hj,HB.out.flow.hi j hj⟩
    have HCP:=hid (push_any HA.out.nt.pp HA.out.nt.ln hmb HMM.out hcap hfl HB.out.once hk (by omega) hle (by omega) HA.out.pa.lt HPC.out (c:=n) (fun e=>a11 e.symm) a1)
    have hpu:=HB2.out.flow.push (by omega) HB2.out.chn hst HB2.out.once (fun k hk2=>by have:=hk k hk2;have:=HMM.out;omega) hle
    have hcut:=hpu.1.le_cut HG.out hs (R:=fun v=>v==s) (by simp) (by simpa using fun e=>hst e.symm)
    have hcl:=capK_le (R:=fun v=>v==s) hcap E.length (Nat.le_refl _)
    have HPU:=hid hpu
    have hx1:x<4294967296∧0≤tot∧tot+x<18446744073709551616:=by
     have h1:=HB2.out.nt
     have h2:=HN0.out
     have h3:=HB2.out.t0
     have h4:=HMM.out
     have h5:(E.length:Int)≤16384:=by omega
     have h6:=hpu.2
     have hx5:x≤4294967295:=by rw[←HX.out];exact least_max E fl' p p.length
     omega
    obtain⟨hx1,hx2,hx3⟩:=hx1
    have hx0:0≤x:=by omega
    have HLE:=hid hle
    clear hle hcap hfl hpu hcut hcl hk hvt
    go_wp2_with fail
    refine HCL.out.mono ?_
    rintro e w3 ⟨rfl,rfl⟩
    go_wp2_with fail
    refine HCP.out.mono ?_
    rintro e w4 ⟨kp,rfl,hkp,hge2,tl,ff⟩
    have hkn:(kp:Int)≤n:=by have:=HPL.out;omega
    have HGE2:=hid hge2
    have HTL:=hid tl
    have HFF:=hid ff
    clear hge2 tl ff
    go_wp2_with fail
    obtain⟨y,hy⟩:=HB2.out.push HMM.out HE.out hst (by omega) HLE.out hkp HGE2.out
    go_roundg (Ms n E s (pushAll fl' x p) ob (p.take kp))
    case measure=>rw[HGK.out];exact Ms_push HPU.out.1 HG.out hs hst (by omega) HPU.out.2
    case rel=>
     have hlt:(p.take kp).length=kp:=by rw[List.length_take];omega
     refine⟨_,ob,p.take kp,y,tot+x,rfl,by first | rfl | go_num,by rw[hlt],hy,⟨⟨⟨(HFF.out.block f (lt_of_block HA.out.nt.pp.hd) a1).trans HA.out.nt.pp.hd⟩,HTL.out,HA.out.nt.fi.fr HFF.out (fun e=>a7 e.symm)⟩,HA.out.op.fr HFF.out (fun e=>a9 e.symm),HA.out.rk.fr HFF.out (fun e=>a8 e.symm),(HA.out.pa.take kp).fr HFF.out (fun e=>a11 e.symm),HA.out.fr.trans (HFF.out.imp (fun _ h=> .inl h))⟩⟩
   ·have hvt':((v:Int)==(t:Int))=false:=by rw[beq_eq_false_iff_ne];omega
    have hvn:=HB.out.vn
    have hvn':(v:Int)<n:=by omega
    go_wp2_with fail
    go_loopg [8] (ob v) (fun gb s8 wx=> ∃ob':Nat→Nat,s8= .slice (some ⟨bp,0,none⟩) p.length n∧Hid (gb=ob' v)∧Hid (Ms n E s fl' ob' p≤go)∧Hid (Bk n m E gr s t rk fl fl' ob' p v tot)∧Hid (At w wx f bl b1 b2 b3 bq bp n m gr E fl' rk ob' p))
    case atStart=>exact⟨ob,rfl,rfl,Nat.le_of_eq HGK.out.symm,HB,HA⟩
    case round=>
     obtain⟨ob',rfl,HGB,HMS,HB',HA'⟩:=hrel
     clear HB HA HGK
     obtain⟨c0,c1,c2,c3,c4,c5,c6⟩:=seven_cells HA'.out.nt.pp.hd
     have e0:=HA'.out.op.cell hvn
     have e0f:=HA'.out.op.free v
     rcases lst_cases E v (ob' v) with ⟨h,hno⟩ | ⟨k,hk,h,hf,hno⟩
     ·rw[h] at e0
      have HLS:=hid h
      clear h hno
      by_cases hp0:p.length=0
      ·have hpn:p= []:=List.eq_nil_of_length_eq_zero hp0
       have hp1:((p.length:Int)==0)=true:=by rw[hp0];rfl
       have HTOT:Hid (1≤tot):=by
        have h1:=HB'.out
        rw[hpn] at h1
        have h2:=chn_nil h1.chn
        have h3:=HLS.out
        rw[h2] at h1 h3
        exact h1.some HR.out HE.out htn HTT.out hst h3
       have HPN:=hid hpn
       clear hpn hp0
       go_wp2_with fail
       try rw[Exit.noGoto_ret]
       go_ret
       refine⟨fl',ob',tot,by rfl,HTOT.out,HB'.out.flow,HB'.out.nt,?_⟩
       have h5:=HA'.out
       rw[HPN.out] at h5
       exact h5
      ·obtain⟨q,k,HPQ,hlast,hto,hkm⟩:=HB'.out.last (by omega)
       have hql:q.length=p.length - 1:=by rw[HPQ];simp
       have hbk:=HB'.out
       rw[HPQ] at hbk
       have HBK:=hid (hbk.back HLS.out hvt (HE.out k hkm).1)
       have HAQ:=hid (HA'.out.pa.take (p.length - 1))
       have HTK:Hid (p.take (p.length - 1)=q):=by show _=_;rw[HPQ];simp
       have e1:=HA'.out.pa.cells HPL.out (p.length - 1) (by omega)
       rw[hlast] at e1
       have HCF:=hid (fun j:Nat=>from_any (w:=wr.drewN j) ⟨HA'.out.nt.pp.hd⟩ HA'.out.nt.ln hkm hmb)
       have HCX:=hid (fun j:Nat=>next_any (w:=wr.drewN j) ⟨HA'.out.nt.pp.hd⟩ HA'.out.nt.ln hkm hmb)
       have hun:=(HE.out k hkm).1
       obtain⟨u,HU⟩:=named (frm E k)
       rw[HU.out] at HCF hun HBK
       obtain⟨nx,HNX⟩:=named (lst E u k)
       have hXX:lst E (frm E k) k=nx:=by rw[HU.out];exact HNX.out
       simp only[hXX] at HCX
       have e2:=HA'.out.op.cell hun
       have e2f:=HA'.out.op.free u
       have hun':(u:Int)<n:=by omega
       have hp1:((p.length:Int)==0)=false:=by rw[beq_eq_false_iff_ne];omega
       have hp2:(p.length:Int) - 1=((p.length - 1:Nat):Int):=by omega
       have hp3:((p.length - 1:Nat):Int)<(p.length:Int):=by omega
       have hp4:p.length≤1024:=by have:=HPL.out;omega
       have hp5:((p.length - 1:Nat):Int)≤n:=by have:=HPL.out;omega
       have HQL:=hid hql
       have HPQ':=hid HPQ
       have HMB:Hid (Ms n E s fl' (updN ob' u k) q<Ms n E s fl' ob' p):=by
        have h1:=HBK.out.2.1
        show _<_
        rw[HPQ'.out]
        exact Ms_back hun h1
       clear HPQ hlast hto hp0 hql hbk hXX
       go_wp2_with fail
       go_region_with (first | (go_at_call 194;refine(HCF.out _).mono ?_;rintro e w' ⟨rfl,rfl⟩) | (go_at_call 189;refine(HCX.out _).mono ?_;rintro e w' ⟨rfl,rfl⟩))
       all_goals go_wp2_with fail
       all_goals go_roundg (Ms n E s fl' (updN ob' u k) q)
       all_goals first
        | exact Nat.lt_of_lt_of_le HMB.out HMS.out
        | exact⟨fl',updN ob' u k,q,u,tot,rfl,rfl,by first | rw[HQL.out] | simp[HQL.out],HBK.out.1,HA'.out.open2 a4 a9 a13 a16 a20 (((Fr.refl (fun j=>j=b3) wr).drewN _).setCell ⟨b3,u,none⟩ (.int .i64 nx) rfl) (by refine TbV.congr ?_ (fun x _=>upd_open E ob' u k x);rw[HNX.out];exact TbV.set HA'.out.op u (.int .i64 nx)) (by have h6:=HAQ.out;rw[HTK.out] at h6;exact h6)⟩
     ·have hkm:k<2*m:=by have:=HB'.out.obm v;omega
      have HNO:=hid hno
      have HFR:=hid hf
      have HLS:=hid h
      have HKO:=hid hk
      rw[h] at e0
      have hk1:((k:Int)== -1)=false:=by rw[beq_eq_false_iff_ne];omega
      have hk2: ¬(k:Int)= -1:=by omega
      have HTN:=hid (HE.out k hkm).2
      obtain⟨y,HY⟩:=named (tto E k)
      have hyn:y<n:=by rw[←HY.out];exact HTN.out
      have hyn':(y:Int)<n:=by omega
      have e1:=HA'.out.rk.cell hyn
      have e2:=HA'.out.rk.cell hvn
      have HCR:=hid (fun j:Nat=>room_any (w:=wr.drewN j) ⟨HA'.out.nt.pp.hd⟩ HA'.out.nt.ln hkm hmb)
      have HCT:=hid (fun j:Nat=>to_any (w:=wr.drewN j) ⟨HA'.out.nt.pp.hd⟩ HA'.out.nt.ln hkm hmb)
      have HCX:=hid (fun j:Nat=>next_any (w:=wr.drewN j) ⟨HA'.out.nt.pp.hd⟩ HA'.out.nt.ln hkm hmb)
      obtain⟨r,HRM⟩:=named (rm E fl' k)
      obtain⟨nx,HNX⟩:=named (lst E v k)
      have hXX:lst E (frm E k) k=nx:=by rw[hf];exact HNX.out
      simp only[hXX] at HCX
      rw[HRM.out] at HCR
      rw[HY.out] at HCT
      have hrv:=HB'.out.rkv
      have hry:rk y= -1∨(0≤rk y∧rk y≤n):=HR.out.pos y hyn
      have HRV:=hid hrv
      rw[hrv] at e2
      obtain⟨ry,HRY⟩:=named (rk y)
      rw[HRY.out] at e1 hry
      have hpl:p.length≤1024:=by have:=HPL.out;omega
      have hsum:IntKind.i64.wrap ((p.length:Int)+1)=(p.length:Int)+1:=by rw[IntKind.wrap_i64];omega
      clear h hno hf hk hXX hrv
      by_cases hg:gr≤r
      ·have hg':decide (gr≤r)=true:=decide_eq_true hg
       by_cases hr:ry=(p.length:Int)+1
       ·have hr':(ry==(p.length:Int)+1)=true:=by rw[hr];simp
        have hlp:p.length<n:=by omega
        have HBG:=hid (HB'.out.go HKO.out HLS.out HFR.out (by rw[HRM.out];exact hg) (by rw[HY.out,HRY.out,HRV.out];exact hr) hvt HTN.out)
        obtain⟨V,v1,v2,v3⟩:=HA'.out.pa
        have HVI:=hid (upd_ints v2 p.length k)
        have HVS:=hid (upd_snoc v3 k)
        have HRR:=hid hr
        clear hr
        go_wp2_with fail
        go_quiet (first | (go_at_call 191;exact Calls.quiet_of_same (HCR.out _)) | (go_at_call 190;exact Calls.quiet_of_same (HCT.out _)))
        have HV1:Hid (TbV ((wr.drewN nq).alloc (.cells #[.int .i64 (k:Int)] 3)) bp n 3 V):=TbV.same (w:=wr.drewN nq) v1 (Below.heap_alloc _ _ _ v1.lt)
        have HVC:Hid (((wr.drewN nq).alloc (.cells #[.int .i64 (k:Int)] 3)).cell? ⟨wr.heap.size,0,none⟩=some (.int .i64 k)):=one_top (wr.drewN nq) k
        have HFA:Hid (Fr (fun j=>j=bp) wr ((wr.drewN nq).alloc (.cells #[.int .i64 (k:Int)] 3))):=((Fr.refl (fun j=>j=bp) wr).drewN nq).alloc _
        clear v1 v2 v3
        go_wp2_with (at_builtin;refine wpList_append_tb rfl (.tmp 104) (.tmp 106) 25 rfl 3 i0 Tryz.underlying25 hi hz1 bp p.length n V rfl HV1.out ⟨wr.heap.size,0,none⟩ 1 (.int .i64 k) rfl HVC.out rfl hlp ?_;intro w5 t5 f5)
        have HF5:Hid (Fr (fun j=>j=bp) wr w5):=HFA.out.trans f5
        have HT5:=hid t5
        clear t5 f5
        go_wp2_with fail
        go_roundg (Ms n E s fl' ob' (p++[k]))
        case measure=>exact Nat.lt_of_lt_of_le (Ms_go hlp) HMS.out
        case rel=>exact⟨fl',ob',p++[k],_,tot,rfl,rfl,by simp,HBG,HA'.out.path a6 a11 a15 a18 a20 HF5.out ⟨_,HT5.out,HVI.out,HVS.out⟩⟩
       ·have hr':(ry==(p.length:Int)+1)=false:=by rw[beq_eq_false_iff_ne];exact hr
        go_wp2_with fail
        go_quiet (first | (go_at_call 191;exact Calls.quiet_of_same (HCR.out _)) | (go_at_call 190;exact Calls.quiet_of_same (HCT.out _)))
        go_wp2_with fail
        go_region_with (go_at_call 189;refine(HCX.out _).mono ?_;rintro e w' ⟨rfl,rfl⟩)
        all_goals go_wp2_with fail
        all_goals go_roundg k
        all_goals first
         | (show k<_;rw[HGB.out];exact HKO.out)
         | exact⟨updN ob' v k,rfl,(updN_self _ _ _).symm,Nat.le_of_lt (Nat.lt_of_lt_of_le (Ms_skip hvn HKO.out) HMS.out),HB'.out.skip HKO.out HLS.out HFR.out HNO.out (fun _=>by rw[HY.out,HRY.out,HRV.out];exact hr),HA'.out.open a4 a9 a13 a16 a20 (((Fr.refl (fun j=>j=b3) wr).drewN _).setCell ⟨b3,v,none⟩ (.int .i64 nx) rfl) (by have h5:=TbV.set (w:=wr.drewN 0) HA'.out.op v (.int .i64 (lst E v k));rw[HNX.out] at h5;refine TbV.congr ?_ (fun x _=>upd_open E ob' v k x);rw[HNX.out];exact TbV.set HA'.out.op v (.int .i64 nx))⟩
      ·have hg':decide (gr≤r)=false:=decide_eq_false hg
       go_wp2_with fail
       go_quiet (first | (go_at_call 191;exact Calls.quiet_of_same (HCR.out _)) | (go_at_call 190;exact Calls.quiet_of_same (HCT.out _)))
       go_wp2_with fail
       go_region_with (go_at_call 189;refine(HCX.out _).mono ?_;rintro e w' ⟨rfl,rfl⟩)
       all_goals go_wp2_with fail
       all_goals go_roundg k
       all_goals first
        | (show k<_;rw[HGB.out];exact HKO.out)
        | exact⟨updN ob' v k,rfl,(updN_self _ _ _).symm,Nat.le_of_lt (Nat.lt_of_lt_of_le (Ms_skip hvn HKO.out) HMS.out),HB'.out.skip HKO.out HLS.out HFR.out HNO.out (fun h=>by rw[HRM.out] at h;omega),HA'.out.open a4 a9 a13 a16 a20 (((Fr.refl (fun j=>j=b3) wr).drewN _).setCell ⟨b3,v,none⟩ (.int .i64 nx) rfl) (by have h5:=TbV.set (w:=wr.drewN 0) HA'.out.op v (.int .i64 (lst E v k));rw[HNX.out] at h5;refine TbV.congr ?_ (fun x _=>upd_open E ob' v k x);rw[HNX.out];exact TbV.set HA'.out.op v (.int .i64 nx))⟩
end Go.Proofs.YtmenajiceaicpaaGreat.F6
