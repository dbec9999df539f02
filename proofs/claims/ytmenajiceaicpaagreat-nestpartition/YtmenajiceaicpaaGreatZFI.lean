import Derived.Test.YtmenajiceaicpaaGreatZFH
open Go.Lib (hid)
set_option maxRecDepth 100000
namespace Go.Proofs.YtmenajiceaicpaaGreat.F6
open Go.RowKit
def flE(N:Int)(l:List A)(s t:Int):Int:=if chkE N l=0 then (if okV N s then (if okV N t then (if s=t then 4 else 0) else 5) else 5) else chkE N l
set_option maxHeartbeats 800000 in
theorem fcheck_any(N:Int)(a:Option Addr)(l:List A)(cap:Nat)(w:World)(hl:l.length≤9223372036854775807)(hr:Arcs w a l)(s t:Int):
  Calls Tryz.prog 143 #[.agg #[.int .i64 N, .slice a l.length cap], .int .i64 s, .int .i64 t] w fun e w'=>e= .returned (.int .i64 (flE N l s t))∧Below w.heap.size w w':=by
 have hb0:Below w.heap.size w (w.alloc (.cells #[.int .i64 N, .slice a l.length cap] 162)):=(Below.refl _ _).alloc (Nat.le_refl _) _
 have HC:=hid (check_any N a l cap _ hl (hr.on hb0))
 have hg:=heap_top w (.cells #[.int .i64 N, .slice a l.length cap] 162)
 obtain⟨R,HR⟩:=named (flE N l s t)
 rw[HR.out]
 have HFE:=HR
 unfold flE at HFE
 obtain⟨E,HE⟩:=named (chkE N l)
 obtain⟨T,HT⟩:=named (chkAt N l)
 rw[HE.out,HT.out] at HC
 rw[HE.out] at HFE
 have HB0:=hid hb0
 have HG:=hid hg
 clear hb0 hg HR
 go_enter Tryz.func143,Tryz.ntmps143
 go_wp2_with fail
 refine HC.out.mono ?_
 rintro e w1 ⟨rfl,hb1⟩
 have hg1:=(hb1.block w.heap.size (by simp)).trans HG.out
 have hb2:Below w.heap.size w w1:=HB0.out.trans (hb1.mono (by simp))
 obtain⟨⟨g0,g1⟩,gf0,gf1⟩:=two_cells hg1
 have hsz:=lt_of_block hg1
 have HB2:=hid hb2
 clear hb1 hb2
 by_cases hE:E=0
 ·have hE':(E==0)=true:=by rw[hE];rfl
  have hE2:(E != 0)=false:=by rw[hE];rfl
  have hR1:=HFE.out
  rw[if_pos hE] at hR1
  have HR1:=hid hR1
  clear hE hR1 HFE
  go_wp2_with fail
  refine(vert_any N s _ _ _ _).mono ?_
  rintro e w2 ⟨rfl,hb3⟩
  have hg2:=(hb3.block w.heap.size hsz).trans hg1
  have hb4:Below w.heap.size w w2:=bthen HB2.out hb3 (by omega)
  obtain⟨⟨p0,p1⟩,pf0,pf1⟩:=two_cells hg2
  have hsz2:=lt_of_block hg2
  have HB4:=hid hb4
  clear hb3 hb4 g0 g1 gf0 gf1 hg1
  have hR2:=HR1.out
  by_cases h5:okV N s=true
  ·rw[if_pos h5] at hR2
   rw[h5]
   have HR2:=hid hR2
   clear hR2 h5
   go_wp2_with fail
   refine(vert_any N t _ _ _ _).mono ?_
   rintro e w3 ⟨rfl,hb5⟩
   have hb6:Below w.heap.size w w3:=bthen HB4.out hb5 (by omega)
   have HB6:=hid hb6
   clear hb5 hb6
   have hR3:=HR2.out
   by_cases h6:okV N t=true
   ·rw[if_pos h6] at hR3
    rw[h6]
    by_cases h7:s=t
    ·rw[if_pos h7] at hR3
     have h7':(s==t)=true:=by rw[h7];simp
     subst hR3
     clear h7 h6
     go_wp2_with fail
     go_ret
     exact⟨rfl,HB6.out⟩
    ·rw[if_neg h7] at hR3
     have h7':(s==t)=false:=by rw[beq_eq_false_iff_ne];exact h7
     subst hR3
     clear h6
     go_wp2_with fail
     go_ret
     exact⟨rfl,HB6.out⟩
   ·rw[if_neg h6] at hR3
    have h6':okV N t=false:=by simpa using h6
    rw[h6']
    subst hR3
    clear h6 h6'
    go_wp2_with fail
    go_ret
    exact⟨rfl,HB6.out⟩
  ·rw[if_neg h5] at hR2
   have h5':okV N s=false:=by simpa using h5
   rw[h5']
   subst hR2
   clear h5 h5'
   go_wp2_with fail
   go_ret
   exact⟨rfl,HB4.out⟩
 ·have hE':(E==0)=false:=by rw[beq_eq_false_iff_ne];exact hE
  have hE2:(E != 0)=true:=by simpa using hE
  have hR1:=HFE.out
  rw[if_neg hE] at hR1
  subst hR1
  go_wp2_with fail
  go_ret
  exact⟨rfl,HB2.out⟩
def side(rk:Nat→Int)(v:Nat):Bool:=rk v != -1
theorem side_true{rk:Nat→Int}{v:Nat}:side rk v=true↔rk v≠ -1:=by simp[side]
theorem side_false{rk:Nat→Int}{v:Nat}:side rk v=false↔rk v= -1:=by simp[side]
theorem Rk.stop{n m:Nat}{E:List Ed}{fl:Nat→Int}{s t:Nat}{rk:Nat→Int}(h:Rk n m E fl 1 s t rk)(hf:Flow n E s t fl)(hm:E.length=m)(ht:rk t= -1):Ended n E s t fl (side rk):=by
 have key: ∀k,k<2*m→side rk (frm E k)=true→side rk (tto E k)=false→rm E fl k<1:=fun k hk h1 h2=>by
  by_cases e:1≤rm E fl k
  ·exact absurd (side_false.1 h2) (h.closed ht k hk (side_true.1 h1) e)
  ·omega
 refine⟨hf,side_true.2 (by rw[h.s0];decide),side_false.2 ht,fun j hj=>⟨fun h1 h2=> ?_,fun h1 h2=> ?_⟩⟩
 ·have e1:frm E (2*j)=(ed E j).f:=by unfold frm;rw[if_pos (by omega),show 2*j / 2=j by omega]
  have e2:tto E (2*j)=(ed E j).t:=by unfold tto;rw[if_pos (by omega),show 2*j / 2=j by omega]
  have e3:rm E fl (2*j)=(ed E j).c - fl j:=by unfold rm;rw[if_pos (by omega),show 2*j / 2=j by omega]
  have:=key (2*j) (by omega) (by rw[e1];exact h1) (by rw[e2];exact h2)
  have:=hf.hi j hj
  omega
 ·have e1:frm E (2*j+1)=(ed E j).t:=by unfold frm;rw[if_neg (by omega),show(2*j+1) / 2=j by omega]
  have e2:tto E (2*j+1)=(ed E j).f:=by unfold tto;rw[if_neg (by omega),show(2*j+1) / 2=j by omega]
  have e3:rm E fl (2*j+1)=fl j:=by unfold rm;rw[if_neg (by omega),show(2*j+1) / 2=j by omega]
  have:=key (2*j+1) (by omega) (by rw[e1];exact h2) (by rw[e2];exact h1)
  have:=hf.lo j hj
  omega
theorem Rk.inside{n m:Nat}{E:List Ed}{fl:Nat→Int}{s t:Nat}{rk:Nat→Int}(h:Rk n m E fl 1 s t rk)(hm:E.length=m)(hE: ∀k,k<2*m→frm E k<n∧tto E k<n){R:Nat→Bool}(rs:R s=true)(hF:Full E fl R E.length): ∀ (d v:Nat),v<n→rk v≠ -1→rk v≤d→R v=true:=by
 have key: ∀k,k<2*m→1≤rm E fl k→R (frm E k)=true→R (tto E k)=true:=fun k hk hr h1=>by
  cases h2:R (tto E k) with
  | true=>rfl
  | false=>
    have hj:=hF (k / 2) (by omega)
    unfold frm at h1
    unfold tto at h2
    unfold rm at hr
    by_cases e:k % 2=0
    ·rw[if_pos e] at h1 h2 hr
     have:=hj.1 h1 h2
     omega
    ·rw[if_neg e] at h1 h2 hr
     have:=hj.2 h2 h1
     omega
 intro d
 induction d with
 | zero=>
   intro v hv hr hd
   rcases h.par v hv hr with rfl | ⟨k,_,_,_,h4,h5⟩
   ·exact rs
   ·omega
 | succ d ih=>
   intro v hv hr hd
   rcases h.par v hv hr with rfl | ⟨k,h1,h2,h3,h4,h5⟩
   ·exact rs
   ·have:=key k h1 h3 (ih (frm E k) (hE k h1).1 (by omega) (by omega))
    rw[h2] at this
    exact this
theorem Rk.both{n m:Nat}{E:List Ed}{f1 f2:Nat→Int}{s t:Nat}{r1 r2:Nat→Int}(g:RN n E)(hs:s<n)(hm:E.length=m)(hE: ∀k,k<2*m→frm E k<n∧tto E k<n)
  (h1:Rk n m E f1 1 s t r1) (h2:Rk n m E f2 1 s t r2) (hf1:Flow n E s t f1) (hf2:Flow n E s t f2) (t1:r1 t= -1) (t2:r2 t= -1): ∀v,v<n→side r1 v=side r2 v:=by
 have e1:=h1.stop hf1 hm t1
 have e2:=h2.stop hf2 hm t2
 have w1: ∀v,v<n→side r1 v=true→side r2 v=true:=fun v hv h=>h1.inside hm hE e2.rs (e1.same e2 g hs).2 (r1 v).toNat v hv (side_true.1 h) (by omega)
 have w2: ∀v,v<n→side r2 v=true→side r1 v=true:=fun v hv h=>h2.inside hm hE e1.rs (e2.same e1 g hs).2 (r2 v).toNat v hv (side_true.1 h) (by omega)
 intro v hv
 cases a:side r1 v with
 | true=>exact(w1 v hv a).symm
 | false=>
   cases b:side r2 v with
   | true=>rw[w2 v hv b] at a;cases a
   | false=>rfl
theorem net_zero(E:List Ed)(v:Nat): ∀k,net E (fun _=>0) v k=0
 | 0=>rfl
 | k+1=>by simp[net,net_zero E v k]
theorem Flow.zero{n:Nat}{E:List Ed}(g:RN n E)(s t:Nat):Flow n E s t (fun _=>0):=
 ⟨fun _ _=>Int.le_refl _,fun j hj=>(g.cap j hj).1,fun v _ _ _=>net_zero E v _⟩
theorem RN.steps{n:Nat}{E:List Ed}(g:RN n E): ∀k,k<2*E.length→frm E k<n∧tto E k<n:=fun k hk=>by
 have h:=g.ends (k / 2) (by omega)
 unfold frm tto
 split
 ·exact h
 ·exact⟨h.2,h.1⟩
structure Ok(N:Int)(l:List A)(s t:Int)(n u v:Nat):Prop where
 hn:N=n
 hs:s=u
 ht:t=v
 g:RN n (edl l)
 po: ∀x,x∈l→0≤x.f∧0≤x.t
 un:u<n
 vn:v<n
 uv:u≠v
theorem Fr.below{D:Nat→Prop}{w w':World}(h:Fr D w w'){B:Nat}(hB:B≤w.heap.size)(hd: ∀k,D k→B≤k):Below B w w':=
 ⟨h.os,h.tape,h.output,h.size,fun k hk=>h.block k (Nat.lt_of_lt_of_le hk hB) (fun e=>absurd (hd k e) (Nat.not_le.2 hk))⟩
theorem info4:(Tryz.prog.info? 4).map (fun i=>(i.zero,i.size,i.bytes))=some (some (.bool false),1,1):=by kernel_rfl
theorem made_bool(n:Nat):madeCells (Value.bool false).cells (n*1)=((List.range n).map (fun _=>Value.bool false)).toArray:=by
 apply Array.ext'
 show(madeCells #[Value.bool false] (n*1)).toList=_
 rw[toList_madeCells_one,Nat.mul_one]
 apply List.ext_getElem
 ·simp
 ·intro i h1 h2
  simp
def cellsI(l:List Int):List Value:=l.map (Value.int .i64)
theorem cellsI_snoc(l:List Int)(x:Int):cellsI l++[.int .i64 x]=cellsI (l++[x]):=by unfold cellsI;simp
theorem one_i64(x:Int): ∀u∈ [Value.int .i64 x],u.oneCell'=true:=by intro u hu;simp at hu;subst hu;rfl
theorem one_new(w:World)(x:Int): ∀j u,[Value.int .i64 x][j]? =some u→(w.alloc (.cells #[.int .i64 x] 3)).cell? ((⟨w.heap.size,0,none⟩:Addr).add j)=some u:=by
 intro j u hu
 match j,hu with
 | 0,hu=>simp at hu;subst hu;simp[Addr.add]
theorem own_slice{w:World}{base:Nat}{e:TypeId}{size:Nat}{v:Value}{n:Nat}{xs:List Value}(h:w.ownsRow base e size v n xs): ∃a c,v= .slice a n c:=by
 rcases h.2 with ⟨rfl,rfl⟩ | ⟨g,c,cur,rfl,_⟩
 ·exact⟨none,0,rfl⟩
 ·exact⟨_,c,rfl⟩
def hits(q:Nat→Bool):Nat→List Int
 | 0=> []
 | k+1=>if q k then hits q k++[(k:Int)] else hits q k
theorem hits_t{q:Nat→Bool}{k:Nat}(h:q k=true):hits q (k+1)=hits q k++[(k:Int)]:=by rw[hits,if_pos h]
theorem hits_f{q:Nat→Bool}{k:Nat}(h:q k=false):hits q (k+1)=hits q k:=by rw[hits,if_neg (by simp[h])]
theorem hits_len(q:Nat→Bool)(k:Nat):(hits q k).length≤k:=by
 induction k with
 | zero=>simp[hits]
 | succ k ih=>
   unfold hits
   split
   ·simp;omega
   ·omega
def outQ(E:List Ed)(R:Nat→Bool)(j:Nat):Bool:=R (ed E j).f&& !R (ed E j).t
theorem results_tmp4{fn:Func}{t u v x:Tmp}(h:fn.results= #[.tmp t, .tmp u, .tmp v, .tmp x])(tmps:Array Value)(P:Program)(w:World):
  (results fn tmps).run P w= .ok (.tuple #[tmps.getD t undef,tmps.getD u undef,tmps.getD v undef,tmps.getD x undef]) w:=by
 simp[results,h]
theorem side_step{rk:Nat→Int}{k:Nat}(j:Nat):updV (fun j=>if j<k then Value.bool (side rk j) else .bool false) k (.bool (side rk k)) j=if j<k+1 then .bool (side rk j) else .bool false:=by
 by_cases e:j=k
 ·subst e;rw[updV_self,if_pos (Nat.lt_succ_self _)]
 ·rw[updV_ne _ _ e]
  show(if j<k then Value.bool (side rk j) else .bool false)=_
  by_cases h:j<k
  ·rw[if_pos h,if_pos (by omega)]
  ·rw[if_neg h,if_neg (by omega)]
set_option maxHeartbeats 3200000 in
theorem cut_ok(n:Nat)(a:Option Addr)(l:List A)(cap:Nat)(w:World)(s t:Nat)(hr:Arcs w a l)(hE:flE n l s t=0)(hO:Ok n l s t n s t):
  Calls Tryz.prog 118 #[.agg #[.int .i64 n, .slice a l.length cap], .int .i64 s, .int .i64 t] w fun e w'=> ∃ (fl rk:Nat→Int) (bs:Nat) (ve:Value),e= .returned (.tuple #[.slice (some ⟨bs,0,none⟩) n n,ve, .int .u64 (net (edl l) fl s (edl l).length), .int .i64 0])∧Flow n (edl l) s t fl∧Rk n l.length (edl l) fl 1 s t rk∧rk t= -1∧TbV w' bs n 4 (fun v=> .bool (side rk v))∧w'.ownsRow (bs+1) 3 1 ve (hits (outQ (edl l) (side rk)) l.length).length (cellsI (hits (outQ (edl l) (side rk)) l.length))∧(hits (outQ (edl l) (side rk)) l.length= []→ve= .slice none 0 0)∧w.heap.size≤bs∧Below w.heap.size w w':=by
 obtain⟨i4,hi4,hz4,hs4,hby4⟩:=info_parts info4
 obtain⟨i3,hi3,hz3,hs3,hby3⟩:=info_parts info3
 have hm:l.length≤16384:=by have:=hO.g.lb;rwa [edl_len] at this
 have hnb:n≤1024:=hO.g.nb
 have hb0:Below w.heap.size w (w.alloc (.cells #[.int .i64 n, .slice a l.length cap] 162)):=(Below.refl _ _).alloc (Nat.le_refl _) _
 have HC:=hid (fcheck_any n a l cap _ (by omega) (hr.on hb0) s t)
 rw[hE] at HC
 have hg:=heap_top w (.cells #[.int .i64 n, .slice a l.length cap] 162)
 have hmk: ∀w,(Instr.makeSlice 53 (.int .i64 n) (.int .i64 n)).run Tryz.prog w= .ok (.slice (some ⟨w.heap.size,0,none⟩) n n) (w.alloc (.cells ((List.range n).map (fun _=>Value.bool false)).toArray 4)):=fun w=>by
  have:=run_make (P:=Tryz.prog) w 53 4 i4 (.bool false) Tryz.underlying53 hi4 hz4 .i64 .i64 n n (by omega) (by omega) (by rw[hby4];omega) (by omega)
  rw[this,Int.toNat_natCast,hs4,made_bool]
 have HO:=hid hO
 have HAR0:=hid hr
 have HAR:=hid (hr.on hb0)
 have hsz:(w.alloc (.cells #[.int .i64 n, .slice a l.length cap] 162)).heap.size=w.heap.size+1:=by simp
 have HB0:=hid hb0
 have HG:=hid hg
 clear hE hO hr hi4 hz4 hs4 hby4 hb0 hg
 clear i4
 go_enter Tryz.func118,Tryz.ntmps118
 go_wp2_with fail
 refine HC.out.mono ?_
 rintro e w1 ⟨rfl,hb1⟩
 generalize hW:w.alloc (.cells #[.int .i64 n, .slice a l.length cap] 162)=W at*
 have hg1:=(hb1.block w.heap.size (by omega)).trans HG.out
 obtain⟨⟨g0,g1⟩,gf0,gf1⟩:=two_cells hg1
 have HL:=hid (lay_any n a l cap w1 HO.out.g HO.out.po (HAR.out.on hb1))
 have HB1:=hid hb1
 clear hb1
 go_wp2_with fail
 refine HL.out.mono ?_
 rintro e w2 ⟨f,bl,b1,b2,b3,bq,bp,rfl,hAp,hSt,hb2,hlo⟩
 have HF:=hid (fill_any (s:=s) (t:=t) hAp hSt HO.out.g (edl_len l) (by have:=HO.out.g.steps;rwa [edl_len] at this) HO.out.un HO.out.vn HO.out.uv (Flow.zero HO.out.g s t) (net_zero _ _ _))
 have HB2:=hid hb2
 have HLO:=hid hlo
 have hg2:=(hb2.block w.heap.size (lt_of_block hg1)).trans hg1
 clear hb2 hlo hAp hSt g0 g1 gf0 gf1
 go_wp2_with fail
 refine HF.out.mono ?_
 rintro e w3 ⟨fl,rk,rfl,hFl,hRk,hrt,htb,hSt⟩
 have hw1:=lt_of_block hg1
 have hb3:Below w1.heap.size w2 w3:=hSt.fr.below HB2.out.size (fun k hk=>by
  have:=HLO.out
  rcases hk with h | h | h | h | h | h <;> (rw[h];omega))
 have hg3:=(hb3.block w.heap.size hw1).trans hg2
 obtain⟨⟨g0,g1⟩,gf0,gf1⟩:=two_cells hg3
 have hbw3:Below w.heap.size w w3:=((HB0.out.trans (HB1.out.mono (by omega))).trans (HB2.out.mono (by omega))).trans (hb3.mono (by omega))
 have hsz3:=lt_of_block hg3
 have HS3:=hid hSt
 have HTB:=hid htb
 have HFL:=hid hFl
 have HRK:=hid hRk
 have HRT:=hid hrt
 have HBW:=hid hbw3
 obtain⟨V,HV⟩:=named (net (edl l) fl s (edl l).length)
 rw[HV.out]
 clear hSt hFl hRk hrt htb hb3 hbw3 hg1 hg2
 go_wp2_with fail
 have HT0:=hid (heap_top w3 (.cells ((List.range n).map (fun _=>Value.bool false)).toArray 4))
 have hb4:Below w3.heap.size w3 (w3.alloc (.cells ((List.range n).map (fun _=>Value.bool false)).toArray 4)):=(Below.refl _ _).alloc (Nat.le_refl _) _
 have HPP:Hid (Pp (w3.alloc (.cells ((List.range n).map (fun _=>Value.bool false)).toArray 4)) f bl b1 b2 b3 bq bp n l.length 0):=⟨(hb4.block f (lt_of_block HS3.out.nt.pp.hd)).trans HS3.out.nt.pp.hd⟩
 have HRKT:Hid (TbV (w3.alloc (.cells ((List.range n).map (fun _=>Value.bool false)).toArray 4)) b2 n 3 (fun v=> .int .i64 (rk v))):=HTB.out.same (hb4.block b2 HTB.out.lt)
 have HNE:Hid (f≠w3.heap.size∧b2≠w3.heap.size):=⟨Nat.ne_of_lt (lt_of_block HS3.out.nt.pp.hd),Nat.ne_of_lt HTB.out.lt⟩
 have HBW4:Hid (Below w.heap.size w (w3.alloc (.cells ((List.range n).map (fun _=>Value.bool false)).toArray 4))):=HBW.out.trans (hb4.mono (by omega))
 have HSZ4:Hid (w.heap.size<w3.heap.size):=hsz3
 have HG4:Hid ((w3.alloc (.cells ((List.range n).map (fun _=>Value.bool false)).toArray 4)).heap[w.heap.size]? =some (.cells #[.int .i64 n, .slice a l.length cap] 162)):=(hb4.block _ hsz3).trans hg3
 clear hb4 g0 g1 gf0 gf1 hg3 hsz3 hmk hw1 hW hsz HC HL HF HB1 HB2 HB0 HG HAR HS3 HTB HLO HBW
 generalize hbf:w3.heap.size=bs at*
 generalize w3.alloc (.cells ((List.range n).map (fun _=>Value.bool false)).toArray 4)=W4 at*
 generalize hml:l.length=m at*
 go_loopw [33] (fun i wr=> ∃k:Nat,k≤n∧i= .int .i64 k∧Hid (TbV wr bs n 4 (fun j=>if j<k then .bool (side rk j) else .bool false))∧Hid (Fr (fun j=>j=bs) W4 wr)) (fun i _=>n - (intOf i).toNat)
 case atStart=>exact⟨0,Nat.zero_le _,rfl,TbV.congr HT0.out (fun v _=>by simp),Fr.refl _ _⟩
 case round=>
  obtain⟨k,hk,rfl,HT,HFR⟩:=hrel
  by_cases hlt:k<n
  ·have HCR:=hid (reached_any (v:=k) (w:=wr) ⟨(HFR.out.block f (lt_of_block HPP.out.hd) HNE.out.1).trans HPP.out.hd⟩ (HRKT.out.fr HFR.out HNE.out.2) hlt)
   have d:=HT.out.cell hlt
   have df:=HT.out.free k
   have hkm:(k:Int)<n:=by omega
   have HNX:Hid (TbV (wr.setCell ⟨bs,k,none⟩ (.bool (side rk k))) bs n 4 (fun j=>if j<k+1 then .bool (side rk j) else .bool false)):=(HT.out.set k (.bool (side rk k))).congr (fun j _=>side_step j)
   have HFX:Hid (Fr (fun j=>j=bs) W4 (wr.setCell ⟨bs,k,none⟩ (.bool (side rk k)))):=HFR.out.setCell ⟨bs,k,none⟩ _ rfl
   have hsd:(rk k != -1)=side rk k:=rfl
   rw[hsd] at HCR
   generalize side rk k=sk at*
   rw[if_neg (Nat.lt_irrefl k)] at d
   go_wp2_with fail
   refine HCR.out.mono ?_
   rintro e wq ⟨rfl,rfl⟩
   go_wp2_with fail
   exact⟨⟨k+1,hlt,by go_num,HNX,HFX⟩,by simp[intOf];omega⟩
  ·obtain rfl:k=n:=by omega
   have HT5:Hid (TbV wr bs k 4 (fun j=> .bool (side rk j))):=HT.out.congr (fun j hj=>if_pos hj)
   have HG5:Hid (wr.heap[w.heap.size]? =some (.cells #[.int .i64 k, .slice a m cap] 162)):=(HFR.out.block _ (lt_of_block HG4.out) (Nat.ne_of_lt HSZ4.out)).trans HG4.out
   have HBW5:Hid (Below w.heap.size w wr):=HBW4.out.trans (HFR.out.below HBW4.out.size (fun k h=>by rw[h];exact Nat.le_of_lt HSZ4.out))
   obtain⟨⟨g0,g1⟩,gf0,gf1⟩:=two_cells HG5.out
   clear HT HFR HPP HRKT HNE HBW4 HG4 HT0
   go_wp2_with fail
   obtain⟨b,o,hab⟩: ∃b o,0<m→a=some ⟨b,o,none⟩∧b<w.heap.size∧∀j,j<m→(l.getD j A.zero).at w b (o+j*3):=by
    rcases HAR0.out with rfl | ⟨b,o,h⟩
    ·exact⟨0,0,fun h=>absurd h (by rw[←hml];simp)⟩
    ·rw[hml] at h;exact⟨b,o,fun _=>h⟩
   have HAB:=hid hab
   have HML:=hid hml
   obtain⟨q,HQ⟩:=named (outQ (edl l) (side rk))
   obtain⟨w5,hw5⟩: ∃w5,w5=wr:=⟨_,rfl⟩
   subst hw5
   clear hab g0 g1 gf0 gf1 hml
   go_loopw [46,7] (fun i ve wr=> ∃j:Nat,j≤m∧i= .int .i64 j∧wr.ownsRow (bs+1) 3 1 ve (hits q j).length (cellsI (hits q j))∧Hid (hits q j= []→ve= .slice none 0 0)∧Hid (Below (bs+1) w5 wr)) (fun i _ _=>m - (intOf i).toNat)
   case atStart=>exact⟨0,Nat.zero_le _,rfl,⟨rfl,Or.inl ⟨rfl,rfl⟩⟩,fun _=>rfl,Below.refl _ _⟩
   case round=>
    obtain⟨j,hj,rfl,hown,HNI,HB⟩:=hrel
    by_cases hjm:j<m
    ·have hlen:=hits_len q j
     obtain⟨ys,HYS⟩:=named (hits q j)
     rw[HYS.out] at hown HNI hlen
     obtain⟨rfl,hbl,hat⟩:=HAB.out (by omega)
     obtain⟨x0,x1,x2⟩:=(hat j hjm).on HBW5.out
     have xb:b<bs+1:=by have:=HSZ4.out;omega
     have y0:=(HB.out.cell (p:=⟨b,o+j*3,none⟩) xb).trans x0
     have y1:=(HB.out.cell (p:=⟨b,o+j*3+1,none⟩) xb).trans x1
     have y2:=(HB.out.cell (p:=⟨b,o+j*3+2,none⟩) xb).trans x2
     have hj2:j<l.length:=by rw[HML.out];exact hjm
     have hxe:=edl_at hj2
     have hxp:=HO.out.po (l.getD j A.zero) (by simp[List.getD,List.getElem?_eq_getElem hj2])
     have hxn:=HO.out.g.ends j (by rw[edl_len];exact hj2)
     rw[hxe] at hxn
     have hqj:q j=(side rk (l.getD j A.zero).f.toNat&& !side rk (l.getD j A.zero).t.toNat):=by rw[←HQ.out];unfold outQ;rw[hxe]
     generalize l.getD j A.zero=x at*
     obtain⟨u,hu⟩: ∃u:Nat,x.f=(u:Int):=⟨x.f.toNat,by omega⟩
     obtain⟨v,hv⟩: ∃v:Nat,x.t=(v:Int):=⟨x.t.toNat,by omega⟩
     rw[hu,hv] at hxn hqj
     simp only[Int.toNat_natCast] at hxn hqj
     rw[hu] at y0
     rw[hv] at y1
     obtain⟨hun,hvn⟩:=hxn
     clear x0 x1 x2 hxp hat hxe hu hv
     generalize x.w=xc at*
     have hT6:TbV (wr.alloc (.cells #[.int .i64 (u:Int), .int .i64 (v:Int), .int .u32 xc] 184)) bs k 4 (fun j=> .bool (side rk j)):=by
      have h1:=HT5.out.same (w':=wr) (HB.out.block bs (Nat.lt_succ_self _))
      exact h1.same (Below.heap_alloc _ _ _ h1.lt)
     have d1:=hT6.cell hun
     have d2:=hT6.cell hvn
     have hun':(u:Int)<k:=by omega
     have hvn':(v:Int)<k:=by omega
     have hbsx:bs+1≤wr.heap.size:=by have h1:=HB.out.size;have h2:=HT5.out.lt;omega
     have hBx:Below (bs+1) w5 (wr.alloc (.cells #[.int .i64 (u:Int), .int .i64 (v:Int), .int .u32 xc] 184)):=HB.out.alloc hbsx _
     have HBX:=hid hBx
     obtain⟨av,cv,hve⟩:=own_slice hown
     subst hve
     clear hT6 hBx HB
     generalize side rk u=su at*
     generalize side rk v=sv at*
     cases su with
     | false=>
       have hq0:q j=false:=by rw[hqj];rfl
       have HH:=hid ((hits_f hq0).trans HYS.out)
       clear hqj hq0
       go_wp2_with fail
       exact⟨⟨j+1,hjm,by go_num,by rw[HH.out];exact hown.alloc _,fun h=>HNI.out (by rw[←HH.out];exact h),HBX⟩,by simp[intOf];omega⟩
     | true=>
       cases sv with
       | true=>
         have hq0:q j=false:=by rw[hqj];rfl
         have HH:=hid ((hits_f hq0).trans HYS.out)
         clear hqj hq0
         go_wp2_with fail
         exact⟨⟨j+1,hjm,by go_num,by rw[HH.out];exact hown.alloc _,fun h=>HNI.out (by rw[←HH.out];exact h),HBX⟩,by simp[intOf];omega⟩
       | false=>
         have hq0:q j=true:=by rw[hqj];rfl
         have hht:=hits_t hq0
         rw[HYS.out] at hht
         have HH:=hid hht
         have HX:Hid ((cellsI ys++[Value.int .i64 (j:Int)])=cellsI (ys++[(j:Int)])):=cellsI_snoc ys j
         have HN:Hid (ys.length+1=(ys++[(j:Int)]).length):=by show _=_;simp
         clear hqj hq0 hht
         have h1n:Hid (∀i z,[Value.int .i64 (j:Int)][i]? =some z→((wr.alloc (.cells #[.int .i64 (u:Int), .int .i64 (v:Int), .int .u32 xc] 184)).alloc (.cells #[.int .i64 (j:Int)] 3)).cell? ((⟨wr.heap.size+1,0,none⟩:Addr).add i)=some z):=fun i z hz=>by
          have:=one_new (wr.alloc (.cells #[.int .i64 (u:Int), .int .i64 (v:Int), .int .u32 xc] 184)) (j:Int) i z hz
          simpa using this
         go_wp2_with (at_builtin;refine wpList_append_own _ rfl (.tmp 64) (.tmp 66) 25 rfl (bs+1) 3 i3 (.int .i64 0) 1 8 Tryz.underlying25 hi3 hz3 hs3 hby3 rfl (by decide) (.slice av ys.length cv) ys.length (cellsI ys) rfl ((hown.alloc _).alloc _) ⟨wr.heap.size+1,0,none⟩ 1 1 [.int .i64 (j:Int)] rfl rfl h1n.out (one_i64 _) (by unfold maxLen;omega) (by omega) (by simp;omega) ?_;intro v6 w6 hown6 hgrow6 hnil6)
         rw[HX.out,HN.out] at hown6
         have hb6:Below (bs+1) w5 w6:=(HBX.out.alloc (by simp;omega) _).grown hgrow6 (by simp;omega) (by intro k hk;have:=(hown.lt k hk).1;omega)
         exact⟨⟨j+1,hjm,by go_num,by rw[HH.out];exact hown6,fun h=>absurd h (by rw[HH.out];simp),hb6⟩,by simp[intOf];omega⟩
    ·obtain rfl:j=m:=by omega
     go_wp2_with fail
     (try simp only[Exit.inBlock,Exit.then])
     refine bodyPost_ret (results_tmp4 rfl _ _ _) rfl ?_
     have hbe:Below w.heap.size w wr:=HBW5.out.trans (HB.out.mono (by have:=HSZ4.out;omega))
     have hml:=HML.out
     subst hml
     exact⟨fl,rk,bs,_,by rw[HV.out];rfl,HFL.out,HRK.out,HRT.out,HT5.out.same (HB.out.block bs (Nat.lt_succ_self _)),by rw[HQ.out];exact hown,by rw[HQ.out];exact HNI.out,Nat.le_of_lt HSZ4.out,hbe⟩
end Go.Proofs.YtmenajiceaicpaaGreat.F6
