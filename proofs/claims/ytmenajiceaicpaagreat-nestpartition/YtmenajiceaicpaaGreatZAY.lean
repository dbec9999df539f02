import Derived.Test.YtmenajiceaicpaaGreatZAX
import Derived.Test.YtmenajiceaicpaaGreatZMD
import Derived.Test.YtmenajiceaicpaaGreatZJD
open Go.Lib (hid)
namespace Go.Proofs.YtmenajiceaicpaaGreat
open Go.RowKit Go.Maps
def imE(N:Int)(l:List A)(xs:List Int)(bd mo:Int):Int:=if luE N l xs bd≠0 then luE N l xs bd else if mo<0∨16384<mo then 1 else 0
def ImR(N:Int)(l:List A)(xs:List Int)(bd mo:Int)(out:List Nat)(m:Nat):Prop:= ∃ (L:List Nat) (B:Nat) (E:List Nat),xs=ints L∧N=(L.length:Int)∧bd=(B:Int)∧chkE N l=0∧tdy (ints L) 0=true∧Imp (prl l) B mo.toNat L E m∧out=tdL E
theorem prl_PIn0{N:Int}{l:List A}{L:List Nat}(hc:chkE N l=0)(hN:N=(L.length:Int)):PInL (prl l) L.length:=fun p hp=>by
 obtain⟨_,_,_,hoa⟩:=chk_zero hc
 exact prl_lt (n:=L.length) (by rw[←hN];exact hoa) hp
def ImpC(mo:Int):Prop:= ∀ (N:Int) (a:Option Addr) (l:List A) (cap:Nat) (b:Option Addr) (xs:List Int) (bc:Nat) (bd:Int) (w:World),l.length≤9223372036854775807→xs.length≤9223372036854775807→Arcs w a l→Ints w b xs→
  Calls Tryz.prog 70 #[.agg #[.int .i64 N, .slice a l.length cap], .slice b xs.length bc, .int .i64 bd, .int .i64 mo] w fun e w'=> ∃ (v:Option Addr) (c m:Nat) (out:List Nat),e= .returned (.tuple #[.slice v out.length c, .int .i64 (m:Int), .int .i64 (imE N l xs bd mo)])∧w'.ownsRow w.heap.size 3 1 (.slice v out.length c) out.length (cellsI (ints out))∧Below w.heap.size w w'∧Hid (imE N l xs bd mo=0→ImR N l xs bd mo out m)∧Hid (imE N l xs bd mo≠0→out= []∧m=0)
set_option maxRecDepth 100000 in
set_option maxHeartbeats 1600000 in
theorem improve0_any(N:Int)(a:Option Addr)(l:List A)(cap:Nat)(b:Option Addr)(xs:List Int)(bc:Nat)(bd mo:Int)(hmo:mo=0)(w:World)(hl:l.length≤9223372036854775807)(hx:xs.length≤9223372036854775807)(hr:Arcs w a l)(hi:Ints w b xs):
  Calls Tryz.prog 70 #[.agg #[.int .i64 N, .slice a l.length cap], .slice b xs.length bc, .int .i64 bd, .int .i64 mo] w fun e w'=> ∃ (v:Option Addr) (c m:Nat) (out:List Nat),e= .returned (.tuple #[.slice v out.length c, .int .i64 (m:Int), .int .i64 (imE N l xs bd mo)])∧w'.ownsRow w.heap.size 3 1 (.slice v out.length c) out.length (cellsI (ints out))∧Below w.heap.size w w'∧Hid (imE N l xs bd mo=0→ImR N l xs bd mo out m)∧Hid (imE N l xs bd mo≠0→out= []∧m=0):=by
 have HMO:=hid hmo
 clear hmo
 have hb0:Below w.heap.size w (w.alloc (.cells #[.int .i64 N, .slice a l.length cap] 24)):=(Below.refl _ _).alloc (Nat.le_refl _) _
 have hg:=heap_top w (.cells #[.int .i64 N, .slice a l.length cap] 24)
 have HB0:=hid hb0
 have hwz:w.heap.size≤(w.alloc (.cells #[.int .i64 N, .slice a l.length cap] 24)).heap.size:=hb0.size
 have HCK:=hid (lookUnder_any N a l cap b xs bc bd (w.alloc (.cells #[.int .i64 N, .slice a l.length cap] 24)) hl hx (hr.on hb0) (hi.on hb0))
 obtain⟨V,HV⟩:=named (luE N l xs bd)
 obtain⟨I,HI⟩:=named (imE N l xs bd mo)
 rw[HV.out] at HCK
 rw[HI.out]
 obtain⟨⟨c0,c1⟩,_⟩:=two_cells hg
 clear hb0 hr hi hl hx
 generalize hp:w.heap.size=p at*
 go_enter Tryz.func70,Tryz.ntmps70
 go_wp2_with fail
 generalize hW:w.alloc (.cells #[.int .i64 N, .slice a l.length cap] 24)=W at*
 clear hW
 refine HCK.out.mono ?_
 rintro e w1 ⟨pv,rfl,hb1,HQ⟩
 have HB1:Hid (Below p w w1):=HB0.out.trans (hb1.mono hwz)
 have hz1:p≤w1.heap.size:=by rw[←hp];exact(show Below w.heap.size w w1 by rw[hp];exact HB1.out).size
 clear hb1 HCK c0 c1 hg
 by_cases hE:V≠0
 ·have e1:(V != 0)=true:=by simpa using hE
  have HIV:Hid (I=V):=by show I=V;rw[←HI.out];unfold imE;rw[HV.out,if_pos hE]
  go_wp2_with fail
  refine bodyPost_ret (v:= .tuple #[.slice none 0 0, .int .i64 0, .int .i64 V]) (by simp[results,Tryz.results70,go_sem]) rfl ?_
  exact⟨none,0,0,[],by rw[HIV.out];rfl,World.ownsRow_nil _ _ _ _,HB1.out,fun h=>absurd (HIV.out.symm.trans h) hE,fun _=>⟨rfl,rfl⟩⟩
 have hE0:V=0:=by simpa using hE
 have e1:(V != 0)=false:=by simpa using hE0
 have HE0:=hid hE0
 have HI2:Hid ((if mo<0∨16384<mo then 1 else 0)=I):=by
  show _=I
  rw[←HI.out]
  unfold imE
  rw[HV.out,hE0,if_neg (show ¬((0:Int)≠0) by simp)]
 clear hE hE0
 by_cases h1:mo<0
 ·have HVV:Hid (I=1):=by show I=1;rw[←HI2.out,if_pos (.inl h1)]
  go_wp2_with fail
  refine bodyPost_ret (v:= .tuple #[.slice none 0 0, .int .i64 0, .int .i64 1]) (by simp[results,Tryz.results70,go_sem]) rfl ?_
  exact⟨none,0,0,[],by rw[HVV.out];rfl,World.ownsRow_nil _ _ _ _,HB1.out,fun h=>absurd (HVV.out.symm.trans h) (by decide),fun _=>⟨rfl,rfl⟩⟩
 by_cases h2:16384<mo
 ·have HVV:Hid (I=1):=by show I=1;rw[←HI2.out,if_pos (.inr h2)]
  go_wp2_with fail
  refine bodyPost_ret (v:= .tuple #[.slice none 0 0, .int .i64 0, .int .i64 1]) (by simp[results,Tryz.results70,go_sem]) rfl ?_
  exact⟨none,0,0,[],by rw[HVV.out];rfl,World.ownsRow_nil _ _ _ _,HB1.out,fun h=>absurd (HVV.out.symm.trans h) (by decide),fun _=>⟨rfl,rfl⟩⟩
 have HVV:Hid (I=0):=by show I=0;rw[←HI2.out,if_neg (by omega)]
 obtain⟨cb,L,B,rfl,hxL,hNl,hbB,hc0,htd,hU⟩:=HQ.out HE0.out
 obtain⟨k,lg,lc,sg,sc,eg,ec,bg,pg,fg,mb,nn,rv,S,Le,Fi,hcs⟩:=hU
 have HPI:=hid (prl_PIn0 hc0 hNl)
 have HPL:Hid ((prl l).length≤8192):=Nat.le_trans (prl_len l) (chk_zero hc0).2.2.1
 have hLl:L.length≤1024:=by have:=chk_zero hc0;omega
 obtain⟨P,HPP⟩:=named (prl l)
 have HR:Hid (∀ (E:List Nat) (m:Nat),Imp P B mo.toNat L E m→ImR N l xs bd mo (tdL E) m):=fun E m hi=>⟨L,B,E,hxL,hNl,hbB,hc0,htd,by rw[HPP.out];exact hi,rfl⟩
 rw[HPP.out] at hcs HPI HPL
 obtain⟨M0,HM0⟩: ∃M0:Nat,Hid (mo=(M0:Int)):=⟨mo.toNat,by show mo=_;omega⟩
 have hM0:M0≤16384:=by have:=HM0.out;omega
 have HMZ:Hid (M0=0):=by show M0=0;have:=HM0.out;have:=HMO.out;omega
 have HTN:Hid (mo.toNat=M0):=by show mo.toNat=M0;have:=HM0.out;omega
 rw[HTN.out] at HR
 have HCS:=hid (hcs.on (Below.refl _ _))
 have HST:Hid (∀ (E:List Nat) (m:Nat),Imp P B (M0 - 0) L E m→Imp P B M0 L E (m+0)):=fun E m h=>h
 have HBW:=hid HB0.out
 obtain⟨nl,HNL⟩:=named L.length
 rw[HNL.out] at HCS HPI hLl
 have HLN:=hid HNL.out
 clear hxL hNl hbB hc0 htd hcs HQ HPP
 have hm1:mo=(M0:Int):=HM0.out
 subst hm1
 clear h1 h2 HM0 HTN
 have h1: ¬(M0:Int)<0:=by omega
 have h2: ¬(16384:Int)<M0:=by omega
 go_wp2_with fail
 go_loopw [9] (fun s9 wr=> ∃ (t:Nat) (nn:Nat→Nat) (L' S:List Nat) (Le:List Int) (Fi:Nat→M),t≤M0∧s9= .int .i64 (t:Int)∧Hid (CS W wr cb nl k B lg lc sg sc eg ec bg pg fg mb nn rv P L' S Le Fi (2*P.length+16384*t))∧Hid (∀ (E:List Nat) (m:Nat),Imp P B (M0 - t) L' E m→Imp P B M0 L E (m+t))) (fun s9 _=>M0 - (intOf s9).toNat)
 case atStart=>exact⟨0,nn,L,S,Le,Fi,Nat.zero_le _,rfl,HCS,HST⟩
 case round=>
  clear HCS HST
  obtain⟨t,nn,L',S,Le,Fi,ht,rfl,HCS,HST⟩:=hrel
  by_cases hlt:t<M0
  ·exact absurd hlt (by have:=HMZ.out;omega)
  ·have hlt': ¬(t:Int)<M0:=by omega
   have HTM:Hid (M0 - t=0):=by show M0 - t=0;omega
   have HCX:=hid HCS.out
   go_upto_region 11 with fail
   have HIP:Hid (Imp P B M0 L L' t):=by
    have q:=HST.out L' 0 (by rw[HTM.out];exact Imp.zero)
    rw[Nat.zero_add] at q
    exact q
   have HLL:=hid HCX.out.Ln
   have c1:wr.cell? ⟨cb,1,none⟩=some (.slice (some ⟨lg,0,none⟩) L'.length lc):=by rw[HLL.out];simp[World.cell?,HCX.out.X.ob,cellsO]
   have HTI:=hid (tidiedL_any (some ⟨lg,0,none⟩) L' lc wr (by rw[HLL.out];exact hLl) (fun x hx=>by
    obtain⟨u,hu,rfl⟩:=mem_getDN hx
    have:=HCX.out.fs.lab u hu
    have:=HCX.out.st.k2
    omega) (own_ints (by have q:=HCX.out.l;unfold OwI at q;rw[ints_len] at q;exact q) rfl))
   have HBX:Hid (Below p w wr):=HBW.out.trans (HCX.out.bel.mono hwz)
   have hzx:p≤wr.heap.size:=Nat.le_trans hwz HCX.out.bel.size
   clear HCX HCS HST
   go_wp2_with fail
   refine HTI.out.mono ?_
   rintro e w4 ⟨g,rfl,hown,hb4⟩
   have HOW:=hid (own_base hown hzx)
   have HB4:Hid (Below p w w4):=HBX.out.trans (hb4.mono hzx)
   clear hown hb4
   go_wp2_with fail
   refine bodyPost_ret (v:= .tuple #[.slice (some ⟨g,0,none⟩) L'.length L'.length, .int .i64 (t:Int), .int .i64 0]) (by simp[results,Tryz.results70,go_sem]) rfl ?_
   exact⟨_,_,t,tdL L',by rw[HVV.out,tdL_len],HOW.out,HB4.out,fun _=>HR.out L' t HIP.out,fun h=>absurd HVV.out h⟩
theorem impC0:ImpC 0:=fun N a l cap b xs bc bd w hl hx hr hi=>improve0_any N a l cap b xs bc bd 0 rfl w hl hx hr hi
end Go.Proofs.YtmenajiceaicpaaGreat
namespace Go.Proofs.YtmenajiceaicpaaGreat
open Go.RowKit
def btB(L:List Nat)(p:Pr):Bool:= !(L.getD p.a 0==L.getD p.b 0)
def bt(P:List Pr)(L:List Nat):Nat:=P.countP (btB L)
theorem bt_iff{L:List Nat}{p:Pr}:btB L p=true↔L.getD p.a 0≠L.getD p.b 0:=by
 unfold btB
 simp
theorem bt_set{L:List Nat}{v x:Nat}(hv:v<L.length)(hx:x≠L.getD v 0): ∀P:List Pr,(∀p,p∈P→p.a≠p.b)→(bt P (L.set v x):Int)=(bt P L:Int) - (cv P L v x:Int)+(cv P L v (L.getD v 0):Int)
 | [],_=>by simp[bt,cv]
 | p::P,hp=>by
   have ih:=bt_set hv hx P (fun q hq=>hp q (List.mem_cons_of_mem _ hq))
   have hne:=hp p (List.mem_cons_self ..)
   have c1:bt (p::P) (L.set v x)=bt P (L.set v x)+if btB (L.set v x) p=true then 1 else 0:=by unfold bt;rw[List.countP_cons]
   have c2:bt (p::P) L=bt P L+if btB L p=true then 1 else 0:=by unfold bt;rw[List.countP_cons]
   have c3:cv (p::P) L v x=cv P L v x+if hitV L v x p=true then 1 else 0:=by unfold cv;rw[List.countP_cons]
   have c4:cv (p::P) L v (L.getD v 0)=cv P L v (L.getD v 0)+if hitV L v (L.getD v 0) p=true then 1 else 0:=by unfold cv;rw[List.countP_cons]
   have key:((if btB (L.set v x) p=true then 1 else 0:Nat):Int)=((if btB L p=true then 1 else 0:Nat):Int) - ((if hitV L v x p=true then 1 else 0:Nat):Int)+((if hitV L v (L.getD v 0) p=true then 1 else 0:Nat):Int):=by
    have ea:(L.set v x).getD p.a 0=if p.a=v then x else L.getD p.a 0:=getD_setN' hv
    have eb:(L.set v x).getD p.b 0=if p.b=v then x else L.getD p.b 0:=getD_setN' hv
    simp only[bt_iff,hit_iffL]
    rw[ea,eb]
    clear ih c1 c2 c3 c4 ea eb
    by_cases a1:p.a=v
    ·have b1:p.b≠v:=fun e=>hne (a1.trans e.symm)
     rw[if_pos a1,if_neg b1,a1]
     generalize L.getD v 0=z at hx ⊢
     generalize L.getD p.b 0=lb
     generalize p.b=pb at b1 ⊢
     clear hne a1 hp hv
     repeat' split
     all_goals omega
    ·rw[if_neg a1]
     by_cases b1:p.b=v
     ·rw[if_pos b1,b1]
      generalize L.getD v 0=z at hx ⊢
      generalize L.getD p.a 0=la
      generalize p.a=pa at a1 ⊢
      clear hne hp hv b1
      repeat' split
      all_goals omega
     ·rw[if_neg b1]
      generalize L.getD v 0=z at hx ⊢
      generalize L.getD p.a 0=la
      generalize L.getD p.b 0=lb
      generalize p.a=pa at a1 ⊢
      generalize p.b=pb at b1 ⊢
      clear hne hp hv
      repeat' split
      all_goals omega
   rw[c1,c2,c3,c4]
   push_cast
   push_cast at key
   omega
theorem Open.bt{P:List Pr}{L:List Nat}{B v f:Nat}(h:Open P L B v f)(hd: ∀p,p∈P→p.a≠p.b):L.getD f 0≠L.getD v 0∧(bt P (L.set v (L.getD f 0)):Int)=(bt P L:Int) - gn P L v f:=by
 have hg:=h.2.2.2.1
 have hne:L.getD f 0≠L.getD v 0:=fun e=>by
  unfold gn at hg
  rw[e] at hg
  omega
 refine⟨hne,?_⟩
 rw[bt_set h.1 hne P hd]
 unfold gn
 omega
def Und(B:Nat)(L:List Nat):Prop:= ∀y,L.count y≤B
theorem und_set{B:Nat}{L:List Nat}{v x:Nat}(h:Und B L)(hv:v<L.length)(hx:x≠L.getD v 0)(hc:L.count x<B):Und B (L.set v x):=fun y=>by
 by_cases c1:y=x
 ·rw[c1,(count_set_at hv hx).1];omega
 ·by_cases c2:y=L.getD v 0
  ·have:=(count_set_at hv hx).2
   have:=h y
   rw[c2] at this ⊢
   omega
  ·rw[count_set_far hv c1 c2];exact h y
theorem Imp.und{P:List Pr}{B k m:Nat}{L E:List Nat}(h:Imp P B k L E m)(hd: ∀p,p∈P→p.a≠p.b)(hu:Und B L):Und B E:=by
 induction h with
 | zero=>exact hu
 | stop _=>exact hu
 | step hn _ ih=>exact ih (und_set hu hn.1.1 (hn.1.bt hd).1 hn.1.2.2.2.2)
theorem und_pat{B:Nat}{L T:List Nat}(h:Pat L T)(hu:Und B L):Und B T:=fun y=>by
 by_cases c:y∈T
 ·obtain⟨u,hu1,rfl⟩:=mem_getDN c
  have hu2:u<L.length:=by rw[←h.len];exact hu1
  rw[h.count hu2]
  exact hu _
 ·rw[List.count_eq_zero.2 c];exact Nat.zero_le _
theorem szL_getD_le{L:List Nat}{B:Nat}(htd:tdy (ints L) 0=true)(hu:Und B L)(y:Nat):(szL (ints L)).getD y 0≤B:=by rw[sz_cntL htd];exact hu y
theorem lu_ok{N:Int}{l:List A}{L:List Nat}{B:Nat}(hc:chkE N l=0)(hN:N=(L.length:Int))(htd:tdy (ints L) 0=true)(h1:1≤B)(h2:B≤1024)(hu:Und B L):cntE N l (ints L)=0∧luE N l (ints L) (B:Int)=0:=by
 have hcn:cntE N l (ints L)=0:=by
  unfold cntE
  rw[hc,if_neg (by simp),ints_len,htd,if_neg (by simp;omega)]
 refine⟨hcn,?_⟩
 unfold luE
 rw[hcn,if_neg (by simp),if_neg (by omega)]
 obtain⟨j,_,e⟩:=mxL_atL (szL (ints L)) ((szL (ints L)).length - 1)
 have:=szL_getD_le htd hu j
 rw[if_neg (by omega)]
theorem lu_und{N:Int}{l:List A}{L:List Nat}{B:Nat}(h:luE N l (ints L) (B:Int)=0)(htd:tdy (ints L) 0=true):1≤B∧B≤1024∧Und B L:=by
 unfold luE at h
 by_cases c0:cntE N l (ints L)≠0
 ·rw[if_pos c0] at h;exact absurd h c0
 ·rw[if_neg c0] at h
  by_cases c1:(B:Int)<1∨1024<(B:Int)
  ·rw[if_pos c1] at h;cases h
  ·rw[if_neg c1] at h
   by_cases c2:(B:Int)<((mxLL (szL (ints L)) ((szL (ints L)).length - 1):Nat):Int)
   ·rw[if_pos c2] at h;cases h
   ·refine⟨by omega,by omega,fun y=> ?_⟩
    rw[←sz_cntL htd]
    by_cases c3:y≤(szL (ints L)).length - 1
    ·have:=mxL_leL (szL (ints L)) _ y c3
     omega
    ·by_cases c4:y<(szL (ints L)).length
     ·omega
     ·simp[List.getD,List.getElem?_eq_none (Nat.le_of_not_lt c4)]
theorem ImR.right{N:Int}{l:List A}{L:List Nat}{B:Nat}{mo:Int}{out:List Nat}{m:Nat}(h:ImR N l (ints L) (B:Int) mo out m)(hlu:luE N l (ints L) (B:Int)=0): ∃E,Imp (prl l) B mo.toNat L E m∧out=tdL E∧chkE N l=0∧N=(L.length:Int)∧N=(out.length:Int)∧tdy (ints L) 0=true∧tdy (ints out) 0=true∧Und B L∧Und B out∧Pat E out∧1≤B∧B≤1024:=by
 obtain⟨L',B',E,h1,h2,h3,h4,h5,h6,h7⟩:=h
 have e1:L'=L:=by
  have q:=congrArg (List.map Int.toNat) h1
  simpa[ints,Function.comp_def] using q.symm
 have e2:B'=B:=by omega
 subst e1
 subst e2
 obtain⟨b1,b2,hu⟩:=lu_und hlu h5
 have hel:=h6.len
 refine⟨E,h6,h7,h4,h2,?_,h5,?_,hu,?_,?_,b1,b2⟩
 ·rw[h7,tdL_len,hel];exact h2
 ·rw[h7];exact tdL_right E
 ·rw[h7];exact und_pat (pat_tdL E) (h6.und (prl_ne h4) hu)
 ·rw[h7];exact pat_tdL E
theorem count_pat{L T:List Nat}(hl:T.length=L.length)(he: ∀u v,u<L.length→v<L.length→(T.getD u 0=T.getD v 0↔L.getD u 0=L.getD v 0)){u:Nat}(hu:u<L.length):T.count (T.getD u 0)=L.count (L.getD u 0):=by
 rw[count_at,count_at,hl]
 refine List.countP_congr (fun v hv=> ?_)
 have hv:=List.mem_range.1 hv
 simp only[decide_eq_true_eq]
 exact he v u hv hu
theorem tdL_count{L:List Nat}{u:Nat}(hu:u<L.length):(tdL L).count ((tdL L).getD u 0)=L.count (L.getD u 0):=count_pat (tdL_len L) (fun _ _ h1 h2=>tdL_eq h1 h2) hu
theorem und_of{B:Nat}{L:List Nat}(h: ∀u,u<L.length→L.count (L.getD u 0)≤B):Und B L:=fun x=>by
 by_cases hx:x∈L
 ·obtain⟨u,hu,rfl⟩:=mem_getDN hx
  exact h u hu
 ·rw[List.count_eq_zero_of_not_mem hx];exact Nat.zero_le _
theorem tdL_und{B:Nat}{L:List Nat}(h:Und B L):Und B (tdL L):=und_of (fun u hu=>by
 rw[tdL_len] at hu
 rw[tdL_count hu]
 exact h _)
theorem mrg_und{P:List Pr}{L:List Nat}{B a b:Nat}(h:Und B L)(hf:Fit P L B a b):Und B (mrg L a b):=fun x=>by
 obtain⟨c1,c2,c3⟩:=count_mrg (L:=L) (show a≠b by have:=hf.1;omega)
 by_cases e1:x=a
 ·rw[e1,c1];exact hf.2.2
 ·by_cases e2:x=b
  ·rw[e2,c2];exact Nat.zero_le _
  ·rw[c3 x e1 e2];exact h x
theorem Jn.und{P:List Pr}{B:Nat}{L E:List Nat}(h:Jn P B L E):Und B L→Und B E:=by
 induction h with
 | stop _=>exact id
 | step h1 _ ih=>exact fun h2=>ih (mrg_und h2 h1.1)
theorem Jn.same{P:List Pr}{B:Nat}{L E:List Nat}(h:Jn P B L E): ∀u v,u<L.length→v<L.length→L.getD u 0=L.getD v 0→E.getD u 0=E.getD v 0:=by
 induction h with
 | stop _=>exact fun _ _ _ _ h=>h
 | step h1 _ ih=>exact fun u v hu hv h2=>ih u v (by rw[mrg_len];exact hu) (by rw[mrg_len];exact hv) (by rw[mrg_getD hu,mrg_getD hv,h2])
theorem sz_bound{B:Nat}{L:List Nat}(hT:tdy (ints L) 0=true)(h:Und B L): ∀j,(szL (ints L)).getD j 0≤B:=fun j=>by rw[sz_cnt hT];exact h j
theorem asg_miss{P M:List Nat}{nx bd v:Nat}(hM: ∀u,u∈M→u<P.length): ∀k,k≤M.length→(∀j,j<k→M.getD j 0≠v)→(asg P M nx bd k).getD v 0=P.getD v 0
 | 0,_,_=>rfl
 | k+1,hk,h=>by
   have hin:M.getD k 0<P.length:=hM _ (by rw[getD_in (show k<M.length by omega)];exact List.getElem_mem _)
   show((asg P M nx bd k).set (M.getD k 0) (nx+k / bd)).getD v 0=_
   rw[getD_setN (by rw[asg_len];exact hin),if_neg (fun e=>h k (by omega) e.symm)]
   exact asg_miss hM k (by omega) (fun j hj=>h j (by omega))
theorem nodup_getD{M:List Nat}(h:M.Nodup){i j:Nat}(hi:i<M.length)(hj:j<M.length)(e:M.getD i 0=M.getD j 0):i=j:=by
 rw[getD_in hi,getD_in hj] at e
 exact(List.getElem_inj h).1 e
theorem asg_hit{P M:List Nat}{nx bd:Nat}(hM: ∀u,u∈M→u<P.length)(hn:M.Nodup){j:Nat}: ∀k,k≤M.length→j<k→(asg P M nx bd k).getD (M.getD j 0) 0=nx+j / bd
 | 0,_,h=>absurd h (by omega)
 | k+1,hk,h=>by
   have hin:M.getD k 0<P.length:=hM _ (by rw[getD_in (show k<M.length by omega)];exact List.getElem_mem _)
   by_cases e:j=k
   ·subst e;exact asg_last hin
   ·show((asg P M nx bd k).set (M.getD k 0) (nx+k / bd)).getD (M.getD j 0) 0=_
    rw[getD_setN (by rw[asg_len];exact hin),if_neg (fun e2=>e (nodup_getD hn (by omega) (by omega) e2))]
    exact asg_hit hM hn k (by omega) (by omega)
theorem orL_all{n:Nat}{l:List A}{L:List Nat}{lb:Nat}(hC:chkE n l=0)(hL:L.length=n){v:Nat}(hv:v<L.length)(he:L.getD v 0=lb):v∈orL l L lb:=by
 have hq:mq L lb v=true:=mq_iff.2 ⟨hv,he⟩
 have hH:vsL L lb≠ []:=T3.hits_some hv hq
 obtain⟨h1,h2⟩:=T3.hits_rank (q:=mq L lb) hv hq
 unfold orL
 refine List.mem_map.2 ⟨_,((owL_inv hC hL hH).2 _).2 h1,?_⟩
 show((T3.hits (mq L lb) L.length).getD _ 0).toNat=v
 rw[h2];rfl
theorem orL_nodup{n:Nat}{l:List A}{L:List Nat}{lb:Nat}(hC:chkE n l=0)(hL:L.length=n)(hH:vsL L lb≠ []):(orL l L lb).Nodup:=by
 obtain⟨h1,h2⟩:=owL_inv hC hL hH
 unfold orL List.Nodup
 rw[List.pairwise_map]
 refine List.Pairwise.imp_of_mem (fun {a b} ha hb hab=> ?_) h1
 obtain⟨u,_,hu2,hu3,hu4⟩:=T3.hits_idx (q:=mq L lb) (n:=L.length) (j:=a) ((h2 a).1 ha)
 obtain⟨v,_,hv2,hv3,hv4⟩:=T3.hits_idx (q:=mq L lb) (n:=L.length) (j:=b) ((h2 b).1 hb)
 show((T3.hits (mq L lb) L.length).getD a 0).toNat≠((T3.hits (mq L lb) L.length).getD b 0).toNat
 rw[hu3,hv3]
 intro e
 have e:u=v:=by simpa using e
 subst e
 omega
structure CIh(L S:List Nat)(bd k:Nat)(P:List Nat)(nx:Nat):Prop where
 len:P.length=L.length
 nxl:S.length≤nx
 at_: ∀v,v<L.length→(P.getD v 0=L.getD v 0∧(k≤L.getD v 0∨S.getD (L.getD v 0) 0≤bd))∨(S.length≤P.getD v 0∧P.getD v 0<nx∧L.getD v 0<k)
 apart: ∀u v,u<L.length→v<L.length→P.getD u 0=P.getD v 0→L.getD u 0=L.getD v 0
 cnt: ∀x,S.length≤x→P.count x≤bd
theorem count_filter(P:List Nat)(x:Nat):P.count x=((List.range P.length).filter (fun v=>decide (P.getD v 0=x))).length:=by
 rw[count_at,List.countP_eq_length_filter]
theorem count_into{P:List Nat}{x:Nat}{q:List Nat}(h: ∀v,v<P.length→P.getD v 0=x→v∈q):P.count x≤q.length:=by
 rw[count_filter]
 refine List.Nodup.length_le_of_subset (List.Nodup.sublist List.filter_sublist List.nodup_range) (fun v hv=> ?_)
 obtain⟨h1,h2⟩:=List.mem_filter.1 hv
 exact h v (List.mem_range.1 h1) (by simpa using h2)
theorem cu_inv{n:Nat}{l:List A}{L:List Nat}{bd:Nat}(hC:chkE n l=0)(hL:L.length=n)(hT:tdy (ints L) 0=true)(hB:1≤bd): ∀k,CIh L (szL (ints L)) bd k (cuS l L (szL (ints L)) bd k).1 (cuS l L (szL (ints L)) bd k).2
 | 0=>by
   have hlt: ∀v,v<L.length→L.getD v 0<(szL (ints L)).length:=fun v hv=>(right_sz hT _ (by rw[getD_in hv];exact List.getElem_mem _)).1
   refine⟨rfl,Nat.le_refl _,fun v _=> .inl ⟨rfl, .inl (Nat.zero_le _)⟩,fun u v _ _ h=>h,fun x hx=> ?_⟩
   show L.count x≤bd
   rw[List.count_eq_zero_of_not_mem (fun h=> ?_)]
   ·exact Nat.zero_le _
   ·have:=(right_sz hT x h).1
    omega
 | k+1=>by
   have ih:=cu_inv hC hL hT hB k
   by_cases hs:(szL (ints L)).getD k 0≤bd
   ·rw[cuS_le hs]
    refine⟨ih.len,ih.nxl,fun v hv=> ?_,ih.apart,ih.cnt⟩
    rcases ih.at_ v hv with ⟨h1,h2⟩ | ⟨h1,h2,h3⟩
    ·left
     refine⟨h1,?_⟩
     rcases h2 with h2 | h2
     ·by_cases e:L.getD v 0=k
      ·right;rw[e];exact hs
      ·left;omega
     ·exact .inr h2
    ·exact .inr ⟨h1,h2,by omega⟩
   ·rw[cuS_gt hs]
    have hlt: ∀v,v<L.length→L.getD v 0<(szL (ints L)).length:=fun v hv=>(right_sz hT _ (by rw[getD_in hv];exact List.getElem_mem _)).1
    have hH:vsL L k≠ []:=fun e=>hs (by rw[sz_vs hT,e];exact Nat.zero_le _)
    have hnd:=orL_nodup hC hL hH
    have hmem: ∀v,v∈orL l L k↔v<L.length∧L.getD v 0=k:=fun v=>⟨orL_mem hC hL hH,fun h=>orL_all hC hL h.1 h.2⟩
    generalize hP:(cuS l L (szL (ints L)) bd k).1=P at*
    generalize hx:(cuS l L (szL (ints L)) bd k).2=nx at*
    generalize orL l L k=M at*
    have hMP: ∀u,u∈M→u<P.length:=fun u hu=>by rw[ih.len];exact((hmem u).1 hu).1
    have hin: ∀v,v<L.length→L.getD v 0=k→∃j d,j<M.length∧M.getD j 0=v∧d=j / bd∧(asg P M nx bd M.length).getD v 0=nx+d:=fun v hv he=>by
     obtain⟨j,hj,e⟩:=mem_getDN ((hmem v).2 ⟨hv,he⟩)
     refine⟨j,_,hj,e,rfl,?_⟩
     rw[←e]
     exact asg_hit hMP hnd M.length (Nat.le_refl _) hj
    have hout: ∀v,v<L.length→L.getD v 0≠k→(asg P M nx bd M.length).getD v 0=P.getD v 0:=fun v hv he=>asg_miss hMP M.length (Nat.le_refl _) (fun j hj e=>he (((hmem v).1 (by rw[←e,getD_in hj];exact List.getElem_mem hj)).2))
    have hlow: ∀v,v<L.length→P.getD v 0<nx:=fun v hv=>by
     rcases ih.at_ v hv with ⟨h1,_⟩ | ⟨_,h2,_⟩
     ·rw[h1];have:=hlt v hv;have:=ih.nxl;omega
     ·exact h2
    have hdv: ∀j,j<M.length→j / bd≤(M.length - 1) / bd:=fun j hj=>Nat.div_le_div_right (by omega)
    generalize (M.length - 1) / bd=D at*
    refine⟨by rw[asg_len];exact ih.len,by have:=ih.nxl;show _≤nx+D+1;omega,fun v hv=> ?_,fun u v hu hv he=> ?_,fun x hx=> ?_⟩
    ·by_cases e:L.getD v 0=k
     ·obtain⟨j,d,hj,_,hd,h2⟩:=hin v hv e
      right
      have h3:d≤D:=hd▸hdv j hj
      have:=ih.nxl
      rw[h2]
      exact⟨by omega,by show _<nx+D+1;omega,by omega⟩
     ·rw[hout v hv e]
      rcases ih.at_ v hv with ⟨h1,h2⟩ | ⟨h1,h2,h3⟩
      ·left
       refine⟨h1,?_⟩
       rcases h2 with h2 | h2
       ·left;omega
       ·exact .inr h2
      ·exact .inr ⟨h1,by show _<nx+D+1;omega,by omega⟩
    ·by_cases e1:L.getD u 0=k
     ·by_cases e2:L.getD v 0=k
      ·omega
      ·obtain⟨j,d,hj,_,hd,h2⟩:=hin u hu e1
       rw[h2,hout v hv e2] at he
       have:=hlow v hv
       omega
     ·by_cases e2:L.getD v 0=k
      ·obtain⟨j,d,hj,_,hd,h2⟩:=hin v hv e2
       rw[h2,hout u hu e1] at he
       have:=hlow u hu
       omega
      ·rw[hout u hu e1,hout v hv e2] at he
       exact ih.apart u v hu hv he
    ·show(asg P M nx bd M.length).count x≤bd
     rcases Nat.lt_or_ge x nx with hxn | hxn
     ·refine Nat.le_trans ?_ (ih.cnt x hx)
      rw[count_filter P]
      refine count_into (fun v hv he=> ?_)
      rw[asg_len,ih.len] at hv
      refine List.mem_filter.2 ⟨List.mem_range.2 (by rw[ih.len];exact hv),?_⟩
      rw[decide_eq_true_eq]
      by_cases e:L.getD v 0=k
      ·obtain⟨j,d,hj,_,hd,h2⟩:=hin v hv e
       omega
      ·rw[←hout v hv e];exact he
     ·have h1:((List.range bd).map (fun i=>M.getD ((x - nx)*bd+i) 0)).length=bd:=by simp
      have h4:=count_into (P:=asg P M nx bd M.length) (x:=x) (q:=(List.range bd).map (fun i=>M.getD ((x - nx)*bd+i) 0)) (fun v hv he=> ?_)
      ·omega
      ·rw[asg_len,ih.len] at hv
       by_cases e:L.getD v 0=k
       ·obtain⟨j,d,hj,h2,hd,h3⟩:=hin v hv e
        have hq:j / bd=x - nx:=by rw[←hd];omega
        have h5:=Nat.div_add_mod j bd
        have h6:=Nat.mod_lt j (show 0<bd by omega)
        refine List.mem_map.2 ⟨j % bd,List.mem_range.2 h6,?_⟩
        rw[←hq,Nat.mul_comm,h5]
        exact h2
       ·have:=hlow v hv
        rw[hout v hv e] at he
        omega
theorem cuL_holds{n:Nat}{l:List A}{L:List Nat}{bd:Nat}(hC:chkE n l=0)(hL:L.length=n)(hT:tdy (ints L) 0=true)(hB:1≤bd):(cuL l L bd).length=L.length∧tdy (ints (cuL l L bd)) 0=true∧Und bd (cuL l L bd)∧∀u v,u<L.length→v<L.length→(cuL l L bd).getD u 0=(cuL l L bd).getD v 0→L.getD u 0=L.getD v 0:=by
 have ih:=cu_inv hC hL hT hB (szL (ints L)).length
 unfold cuL
 generalize (cuS l L (szL (ints L)) bd (szL (ints L)).length).1=P at*
 have hl:(tdL P).length=L.length:=(tdL_len P).trans ih.len
 refine⟨hl,tdL_right P,tdL_und (und_of (fun u hu=> ?_)),fun u v hu hv he=> ?_⟩
 ·have hu':u<L.length:=by rw[←ih.len];exact hu
  rcases ih.at_ u hu' with ⟨h1,h2⟩ | ⟨h1,_,_⟩
  ·have hlt:=(right_sz hT _ (by rw[getD_in hu'];exact List.getElem_mem _:L.getD u 0∈L)).1
   have h3:(szL (ints L)).getD (L.getD u 0) 0≤bd:=by
    rcases h2 with h2 | h2
    ·omega
    ·exact h2
   rw[sz_cnt hT] at h3
   refine Nat.le_trans ?_ h3
   rw[h1,count_filter L]
   refine count_into (fun v hv he=> ?_)
   rw[ih.len] at hv
   refine List.mem_filter.2 ⟨List.mem_range.2 hv,?_⟩
   rw[decide_eq_true_eq]
   exact ih.apart v u hv hu' (by rw[he,h1])
  ·exact ih.cnt _ h1
 ·rw[tdL_eq (by rw[ih.len];exact hu) (by rw[ih.len];exact hv)] at he
  exact ih.apart u v hu hv he
theorem tdy_parts{n:Nat}{l:List T3.A}(h:T3.chkE n l=0):tdy (T3.partsL n l) 0=true∧(T3.partsL n l).length=n∧∀v,v<n→(T3.partsL n l).getD v 0=(T3.lab (T3.lead l) v:Nat):=by
 unfold T3.partsL
 rw[if_pos h,Int.toNat_natCast]
 refine⟨?_,by rw[T3.ints_len,T3.labs_len],fun v hv=>by rw[T3.ints_getD,T3.labs_getD _ n v hv]⟩
 have:=tdy_labs (T3.lead_RT l) n n 0 (by omega)
 exact this
def toI(p:Pr):Pi2:=⟨(p.a:Int),(p.b:Int)⟩
theorem prs_I{w:World}{a:Option Addr}{xs:List Pr}(h:Prs w a xs):PrI w a (xs.map toI):=by
 rcases h with rfl | ⟨b,o,e,hl,hc⟩
 ·exact .inl rfl
 ·refine .inr ⟨b,o,e,hl,fun j hj=> ?_⟩
  have hj':j<xs.length:=by simpa using hj
  have e:(xs.map toI).getD j Pi2.zero=toI (xs.getD j Pr.zero):=by simp[List.getD,hj']
  rw[e]
  exact hc j hj'
theorem mk1_good{N:Int}: ∀ {ms:List Pi2},(∀p,p∈ms→(0≤p.a∧p.a<N)∧(0≤p.b∧p.b<N)∧p.a<p.b)→mk1 N ms=0
 | [],_=>rfl
 | x::r,h=>by
   obtain⟨h1,h2,h3⟩:=h x List.mem_cons_self
   simp only[mk1]
   rw[if_neg (by simp[okV,h1,h2]),if_neg (by omega)]
   exact mk1_good (fun p hp=>h p (List.mem_cons_of_mem _ hp))
theorem frE_good{n:Nat}{l:List A}{xs:List Pr}(h:chkE n l=0)(hs: ∀p,p∈xs→p∈prl l)(hl:xs.length≤16384):frE n l (xs.map toI)=0:=by
 have hoa:=(chk_zero h).2.2.2
 unfold frE mkE
 rw[if_neg (by rw[h];omega),if_neg (by rw[List.length_map];omega)]
 refine mk1_good (fun q hq=> ?_)
 obtain⟨p,hp,rfl⟩:=List.mem_map.1 hq
 have h1:=prl_ltM hoa (hs p hp)
 have h2:=((prl_mem (fun x hx=>⟨(hoa x hx).1.1,(hoa x hx).2.1⟩)).1 (hs p hp)).1
 exact⟨⟨by simp[toI],by simp[toI];omega⟩,⟨by simp[toI],by simp[toI];omega⟩,by simp[toI];omega⟩
theorem siE_ok{n:Nat}{l:List A}{L:List Nat}(hC:chkE n l=0)(hL:L.length=n)(hT:tdy (ints L) 0=true):siE n l (ints L)=0:=by
 unfold siE szE
 rw[hC,if_neg (by simp),if_neg (by rw[ints_len,hL,hT];simp)]
theorem ckE_ok{n:Nat}{l:List A}{L:List Nat}{B:Nat}(hC:chkE n l=0)(hL:L.length=n)(hT:tdy (ints L) 0=true)(hB1:1≤B)(hB2:B≤1024):ckE n l (ints L) B=0:=by
 unfold ckE
 rw[if_neg (by rw[siE_ok hC hL hT];simp),if_neg (by omega)]
theorem join_holds{n:Nat}{l:List A}{L:List Nat}{B:Nat}(hC:chkE n l=0)(hL:L.length=n)(hT:tdy (ints L) 0=true)(hU:Und B L)(hB1:1≤B)(hB2:B≤1024):jnE n l (ints L) B=0∧∀E,JnR n l (ints L) B E→E.length=L.length∧tdy (ints E) 0=true∧Und B E∧(∀u v,u<L.length→v<L.length→L.getD u 0=L.getD v 0→E.getD u 0=E.getD v 0)∧∃F,Jn (prl l) B L F∧E=tdL F:=by
 have hck:=ckE_ok (B:=B) hC hL hT hB1 hB2
 have hj:jnE n l (ints L) B=0:=by
  unfold jnE
  rw[if_neg (by rw[hck];simp),if_neg ?_]
  obtain⟨j,_,e⟩:=mxL_at (szL (ints L)) ((szL (ints L)).length - 1)
  have:=sz_bound hT hU j
  omega
 refine⟨hj,fun E h=> ?_⟩
 obtain⟨F,hF,rfl⟩:=h.1 hj
 have e1:(ints L).map Int.toNat=L:=by simp[ints,Function.comp_def]
 rw[e1,Int.toNat_natCast] at hF
 have hl:=hF.len
 refine⟨by rw[tdL_len];exact hl,tdL_right F,tdL_und (hF.und hU),fun u v hu hv he=> ?_,F,hF,rfl⟩
 rw[tdL_eq (by omega) (by omega)]
 exact hF.same u v hu hv he
theorem Jn.holds{P:List Pr}{B:Nat}{L F:List Nat}(hF:Jn P B L F)(hU:Und B L):(tdL F).length=L.length∧tdy (ints (tdL F)) 0=true∧Und B (tdL F)∧∀u v,u<L.length→v<L.length→L.getD u 0=L.getD v 0→(tdL F).getD u 0=(tdL F).getD v 0:=by
 have hl:=hF.len
 refine⟨by rw[tdL_len];exact hl,tdL_right F,tdL_und (hF.und hU),fun u v hu hv he=> ?_⟩
 rw[tdL_eq (by omega) (by omega)]
 exact hF.same u v hu hv he
def LowIs(n:Nat)(l:List A)(B:Nat)(cs:List Nat)(mo:Nat)(L:List Nat):Prop:=
 ∃ (xs:List Pr) (L0 F E:List Nat) (m:Nat),MarksIs n l cs B xs∧frL n l (xs.map toI)=ints L0∧L0.length=n∧tdy (ints L0) 0=true∧Jn (prl l) B (cuL l L0 B) F∧Imp (prl l) B mo (tdL F) E m∧L=tdL E
theorem prl_apart{n:Nat}{l:List A}(h:chkE n l=0): ∀p,p∈prl l→p.a≠p.b:=fun p hp=>by
 have hoa:=(chk_zero h).2.2.2
 have h2:=((prl_mem (fun x hx=>⟨(hoa x hx).1.1,(hoa x hx).2.1⟩)).1 hp).1
 omega
theorem LowIs.right{n:Nat}{l:List A}{B:Nat}{cs:List Nat}{mo:Nat}{L:List Nat}(h:LowIs n l B cs mo L)(hC:chkE n l=0)(hB1:1≤B):L.length=n∧tdy (ints L) 0=true∧Und B L:=by
 obtain⟨xs,L0,F,E,m,_,_,h3,h4,h5,h6,rfl⟩:=h
 obtain⟨c1,c2,c3,_⟩:=cuL_holds hC h3 h4 hB1
 obtain⟨d1,d2,d3,_⟩:=h5.holds c3
 have hu:=h6.und (prl_apart hC) d3
 refine⟨?_,tdL_right E,tdL_und hu⟩
 rw[tdL_len,h6.len,d1,c1,h3]
inductive UpIs(l:List A):List Nat→List Nat→List (List Nat)→Prop
 | nil {L:List Nat}:UpIs l [] L []
 | cons {b:Nat} {bs:List Nat} {L F:List Nat} {r:List (List Nat)} (h:Jn (prl l) b L F) (hr:UpIs l bs (tdL F) r):UpIs l (b::bs) L (tdL F::r)
theorem UpIs.len{l:List A}{bs:List Nat}{L:List Nat}{r:List (List Nat)}(h:UpIs l bs L r):r.length=bs.length:=by
 induction h with
 | nil=>rfl
 | cons _ _ ih=>simp[ih]
theorem UpIs.snoc{l:List A}{b:Nat}{bs:List Nat}{L:List Nat}{r:List (List Nat)}(h:UpIs l bs L r): ∀ {F:List Nat},Jn (prl l) b ((L::r).getLast (by simp)) F→UpIs l (bs++[b]) L (r++[tdL F]):=by
 induction h with
 | nil=>intro F hF;exact .cons hF .nil
 | cons h _ ih=>
   intro F hF
   refine .cons h (ih ?_)
   rw[List.getLast_cons (by simp)] at hF
   exact hF
theorem und_mono{B B':Nat}{L:List Nat}(h:Und B L)(hb:B≤B'):Und B' L:=fun x=>Nat.le_trans (h x) hb
theorem wdB_und{L:List Nat}{B:Nat}(hT:tdy (ints L) 0=true)(h:Und B L):wdB (szL (ints L)) (B:Int)=true:=decide_eq_true (fun j _=>by have:=sz_bound hT h j;omega)
theorem nst_of{L E:List Nat}(hl:E.length=L.length)(h: ∀u v,u<L.length→v<L.length→L.getD u 0=L.getD v 0→E.getD u 0=E.getD v 0):Nst (ints L) (ints E):=fun u hu v hv e=>by
 rw[ints_len] at hu hv
 rw[ints_getD hu,ints_getD hv] at e
 rw[ints_getD (by omega),ints_getD (by omega),h u v hu hv (by omega)]
theorem nxE_ok{n:Nat}{bb B:Nat}{ys:List Int}{L:List Nat}(hb:bb<B)(hB:B≤1024)(hL:L.length=n)(hT:tdy (ints L) 0=true)(hU:Und B L)(hn:Nst ys (ints L)):nxE n bb ys B (ints L)=0:=by
 unfold nxE
 rw[if_neg (by omega),if_neg (by unfold szE;rw[if_neg (by rw[ints_len,hT];simp;omega)];simp),if_neg (by rw[wdB_und hT hU];simp),if_neg (fun h=>h hn)]
def Ris:Nat→List Nat→Prop
 | _,[]=>True
 | bb,b::bs=>bb<b∧b≤1024∧Ris b bs
theorem UpIs.right{n:Nat}{l:List A}{bs:List Nat}{L:List Nat}{r:List (List Nat)}(h:UpIs l bs L r): ∀ {bb:Nat},Ris bb bs→L.length=n→tdy (ints L) 0=true→Und bb L→lkR n (ints bs) (r.map ints) bb (ints L):=by
 induction h with
 | nil=>intro bb _ _ _ _;exact trivial
 | cons h _ ih=>
   intro bb hR hL hT hU
   obtain⟨h1,h2,h3⟩:=hR
   obtain⟨d1,d2,d3,d4⟩:=h.holds (und_mono hU (Nat.le_of_lt h1))
   refine⟨nxE_ok h1 h2 (by omega) d2 d3 (nst_of d1 d4),ih h3 (by omega) d2 d3⟩
theorem made_right{n:Nat}{l:List A}{b:Nat}{bs cs:List Nat}{mo:Nat}{L:List Nat}{r:List (List Nat)}(hC:chkE n l=0)(hb:1≤b)(hR:Ris 0 (b::bs))(h5:bs.length+1≤5)(h:LowIs n l b cs mo L)(hu:UpIs l bs L r):NR n l (ints (b::bs)) ((L::r).map ints):=by
 obtain⟨h1,h2,h3⟩:=h.right hC hb
 obtain⟨g1,g2,g3⟩:=hR
 refine⟨hC,by simp[ints],by simp[ints];omega,by simp[ints,hu.len],nxE_ok g1 g2 h1 h2 h3 (fun u hu=>absurd hu (by simp)),?_⟩
 exact hu.right g3 h1 h2 h3
end Go.Proofs.YtmenajiceaicpaaGreat
