import Derived.Test.YtmenajiceaicpaaGreatZFA
open Go.Lib (hid)
namespace Go.Proofs.YtmenajiceaicpaaGreat.F6
open Go.RowKit
theorem TbV.set{w:World}{b n:Nat}{ty:TypeId}{V:Nat→Value}(h:TbV w b n ty V)(v:Nat)(x:Value):TbV (w.setCell ⟨b,v,none⟩ x) b n ty (updV V v x):=by
 unfold TbV
 rw[heap_setCell_same w b v _ _ _ h,tabV_set]
def rmo(E:List Ed)(fl:Nat→Int)(k:Nat):Int:=if k % 2=0 then fl (k / 2) else (ed E (k / 2)).c - fl (k / 2)
theorem lv_rmo(E:List Ed)(fl nx:Nat→Int)(k:Nat):lv E fl nx (k / 2*6+2+(1 - k % 2))= .int .u32 (rmo E fl k):=by
 unfold lv rmo
 have h:k % 2=0∨k % 2=1:=by omega
 have e:(k / 2*6+2+(1 - k % 2)) / 6=k / 2:=by omega
 rcases h with h | h
 ·rw[if_neg (by omega),if_neg (by omega),if_neg (by omega),if_pos (by omega),if_pos h,e]
 ·rw[if_neg (by omega),if_neg (by omega),if_pos (by omega),if_neg (by omega),e]
theorem lv_push(E:List Ed)(fl nx:Nat→Int)(k:Nat)(x:Int)(q:Nat):updV (updV (lv E fl nx) (k / 2*6+2+k % 2) (.int .u32 (rm E fl k - x))) (k / 2*6+2+(1 - k % 2)) (.int .u32 (rmo E fl k+x)) q=lv E (push1 fl k x) nx q:=by
 have hq:q / 6=k / 2∨q / 6≠k / 2:=by omega
 rcases hq with hq | hq
 ·have hk:k % 2=0∨k % 2=1:=by omega
  have hr:q % 6=0∨q % 6=1∨q % 6=2∨q % 6=3∨q % 6=4∨q % 6=5:=by omega
  have hp:push1 fl k x (k / 2)=if k % 2=0 then fl (k / 2)+x else fl (k / 2) - x:=by unfold push1;rw[if_pos rfl]
  unfold updV
  rcases hk with hk | hk <;> rcases hr with hr | hr | hr | hr | hr | hr
  all_goals
   first
    | (rw[if_neg (by omega),if_neg (by omega)];unfold lv;rw[hq];simp[hr];done)
    | (rw[if_neg (by omega),if_pos (by omega)];unfold lv rm;rw[hq,hp];simp[hr,hk] <;> omega)
    | (rw[if_pos (by omega)];unfold lv rmo;rw[hq,hp];simp[hr,hk] <;> omega)
 ·have hp:push1 fl k x (q / 6)=fl (q / 6):=by unfold push1;rw[if_neg hq]
  unfold updV
  rw[if_neg (by omega),if_neg (by omega)]
  unfold lv
  rw[hp]
structure Fr(D:Nat→Prop)(w w':World):Prop where
 os:w'.os=w.os
 tape:w'.tape=w.tape
 output:w'.output=w.output
 size:w.heap.size≤w'.heap.size
 block: ∀k,k<w.heap.size→¬D k→w'.heap[k]? =w.heap[k]?
theorem Fr.refl(D:Nat→Prop)(w:World):Fr D w w:=⟨rfl,rfl,rfl,Nat.le_refl _,fun _ _ _=>rfl⟩
theorem Fr.setCell{D:Nat→Prop}{a b:World}(h:Fr D a b)(p:Addr)(u:Value)(hp:D p.block):Fr D a (b.setCell p u):=
 ⟨h.os,h.tape,h.output,by have:=h.size;simpa[World.setCell] using this,fun k hk hn=>(Below.heap_setCell b p u k (fun e=>hn (e▸hp))).trans (h.block k hk hn)⟩
theorem Fr.drewN{D:Nat→Prop}{a b:World}(h:Fr D a b)(n:Nat):Fr D a (b.drewN n):=⟨h.os,h.tape,h.output,h.size,h.block⟩
theorem rm_other{E:List Ed}{F:Nat→Int}{k j:Nat}{x:Int}(h:j / 2≠k / 2):rm E (push1 F k x) j=rm E F j:=by
 have e:push1 F k x (j / 2)=F (j / 2):=by unfold push1;rw[if_neg h]
 unfold rm
 rw[e]
theorem rm_self(E:List Ed)(F:Nat→Int)(k:Nat)(x:Int):rm E (push1 F k x) k=rm E F k - x:=by
 unfold rm push1
 by_cases h:k % 2=0
 ·simp only[h,if_true];omega
 ·simp only[h,if_false];simp
theorem once_get: ∀ {p:List Nat},Once p→∀ {i j:Nat},i<j→j<p.length→p.getD i 0 / 2≠p.getD j 0 / 2:=by
 intro p
 induction p with
 | nil=>intro _ i j _ h;simp at h
 | cons k p ih=>
   intro h i j hij hj
   cases j with
   | zero=>omega
   | succ j=>
     have hj':j<p.length:=by simpa using hj
     cases i with
     | zero=>
       have hm:p.getD j 0∈p:=by simp[List.getD,List.getElem?_eq_getElem hj']
       have:=h.1 _ hm
       simpa using fun e=>this e.symm
     | succ i=>simpa using ih h.2 (show i<j by omega) hj'
theorem drop_get{p:List Nat}{q:Nat}(h:q<p.length):p.drop q=p.getD q 0::p.drop (q+1):=by
 rw[List.drop_eq_getElem_cons h]
 simp[List.getD,List.getElem?_eq_getElem h]
theorem drop_mem{p:List Nat}{q j:Nat}(h:j∈p.drop q): ∃i,q≤i∧i<p.length∧p.getD i 0=j:=by
 obtain⟨i,hi,e⟩:=List.getElem_of_mem h
 have hl:q+i<p.length:=by simp at hi;omega
 refine⟨q+i,by omega,hl,?_⟩
 rw[List.getElem_drop] at e
 simp[List.getD,List.getElem?_eq_getElem hl,e]
theorem rm_before{E:List Ed}{fl:Nat→Int}{x:Int}{p:List Nat}(ho:Once p){i q:Nat}(hi:i<q):rm E (pushAll fl x (p.drop q)) (p.getD i 0)=rm E fl (p.getD i 0):=by
 have e:pushAll fl x (p.drop q) (p.getD i 0 / 2)=fl (p.getD i 0 / 2):=pushAll_other (fun k hk=>by
  obtain⟨j,h1,h2,rfl⟩:=drop_mem hk
  exact fun e=>once_get ho (show i<j by omega) h2 e.symm)
 unfold rm
 rw[e]
set_option maxHeartbeats 3200000 in
set_option maxRecDepth 100000 in
theorem push_any{w:World}{f bl b1 b2 b3 bq bp n m:Nat}{gr:Int}{E:List Ed}{fl nx:Nat→Int}{p:List Nat}{bx c:Nat}{x:Int}(hp:Pp w f bl b1 b2 b3 bq bp n m gr)(hl:TbV w bl (m*6) 236 (lv E fl nx))(hm:m≤16384)(hE:E.length=m)
  (hc: ∀j,j<E.length→0≤(ed E j).c∧(ed E j).c<4294967296) (hf: ∀j,j<E.length→0≤fl j∧fl j≤(ed E j).c) (ho:Once p) (hk: ∀k∈p,k<2*m) (hx:0≤x) (hr: ∀k∈p,x≤rm E fl k) (hpl:p.length≤100000) (hbx:bx<w.heap.size) (hpc: ∀i,i<p.length→w.cell? ⟨bx,i,none⟩=some (.int .i64 ((p.getD i 0:Nat):Int))) (n1:bx≠bl) (n2:f≠bl):
  Calls Tryz.prog 193 #[.pointer (some ⟨f,0,none⟩), .slice (some ⟨bx,0,none⟩) p.length c, .int .u32 x] w fun e w'=> ∃kp:Nat,e= .returned (.int .i64 kp)∧kp≤p.length∧(∀i,i<kp→gr≤rm E (pushAll fl x p) (p.getD i 0))∧TbV w' bl (m*6) 236 (lv E (pushAll fl x p) nx)∧Fr (fun k=>k=bl) w w':=by
 have HP:=hid hp
 have HL:=hid hl
 have HC:=hid hc
 have HF:=hid hf
 have HO:=hid ho
 have HK:=hid hk
 have HRR:=hid hr
 have HPC:=hid hpc
 clear hp hl hc hf ho hk hr hpc
 go_enter Tryz.func193,Tryz.ntmps193
 go_wp2_with fail
 go_loopw [7,8] (fun ke ii wr=> ∃q kp:Nat,q≤p.length∧kp≤p.length∧ii= .int .i64 ((q:Int) - 1)∧ke= .int .i64 kp∧TbV wr bl (m*6) 236 (lv E (pushAll fl x (p.drop q)) nx)∧Fr (fun k=>k=bl) w wr∧Hid (∀i,q≤i→i<kp→gr≤rm E (pushAll fl x (p.drop q)) (p.getD i 0))) (fun _ ii _=>(intOf ii+1).toNat)
 case atStart=>exact⟨p.length,p.length,Nat.le_refl _,Nat.le_refl _,rfl,rfl,by rw[List.drop_of_length_le (Nat.le_refl _)];exact HL.out,Fr.refl _ _,fun i h1 h2=>by omega⟩
 case round=>
  obtain⟨q,kp,hq,hkp,rfl,rfl,ht,hfr,hge⟩:=hrel
  have hszr:=hfr.size
  obtain⟨c0,c1,c2,c3,c4,c5,c6⟩:=seven_cells ((hfr.block f (lt_of_block HP.out.hd) n2).trans HP.out.hd)
  cases q with
  | zero=>
    have hz: ¬(0:Int)≤((0:Nat):Int) - 1:=by omega
    go_wp2_with fail
    go_ret
    exact⟨kp,rfl,hkp,fun i h=>hge.out i (Nat.zero_le _) h,ht,hfr⟩
  | succ q=>
    have hq1:((q+1:Nat):Int) - 1=(q:Int):=by omega
    rw[hq1]
    have hql:q<p.length:=by omega
    have hql':(q:Int)<p.length:=by omega
    have ck:=(World.cell?_of_block (a:=⟨bx,q,none⟩) (hfr.block bx hbx n1)).trans (HPC.out q hql)
    have hmem:p.getD q 0∈p:=by simp[List.getD,List.getElem?_eq_getElem hql]
    have hkm:=HK.out _ hmem
    have hrx:=HRR.out _ hmem
    have hrb:=rm_before (E:=E) (fl:=fl) (x:=x) HO.out (show q<q+1 by omega)
    have hfo:pushAll fl x (p.drop (q+1)) (p.getD q 0 / 2)=fl (p.getD q 0 / 2):=pushAll_other (fun k hk=>by
     obtain⟨j,h1,h2,rfl⟩:=drop_mem hk
     exact fun e=>once_get HO.out (show q<j by omega) h2 e.symm)
    have HDR:=hid (drop_get hql)
    have HOTH:Hid (∀i,q+1≤i→i<p.length→p.getD i 0 / 2≠p.getD q 0 / 2):=fun i h1 h2=>fun e=>once_get HO.out (show q<i by omega) h2 e.symm
    have hcc:=HC.out (p.getD q 0 / 2) (by omega)
    have hff:=HF.out (p.getD q 0 / 2) (by omega)
    have HPA:Hid (pushAll fl x (p.drop q)=push1 (pushAll fl x (p.drop (q+1))) (p.getD q 0) x):=by show _=_;rw[HDR.out];rfl
    obtain⟨k,HKK⟩:=named (p.getD q 0)
    rw[HKK.out] at ck hkm hrx hrb hfo hcc hff HPA HOTH
    obtain⟨F0,HF0⟩:=named (pushAll fl x (p.drop (q+1)))
    rw[HF0.out] at ht hge hrb hfo HPA
    have d0:=ht.cell (v:=k / 2*6+2+k % 2) (by omega)
    have d1:=ht.cell (v:=k / 2*6+2+(1 - k % 2)) (by omega)
    rw[lv_room] at d0
    rw[lv_rmo] at d1
    have f0:=ht.free (k / 2*6+2+k % 2)
    have f1:=ht.free (k / 2*6+2+(1 - k % 2))
    have hsum:rmo E F0 k+rm E F0 k=(ed E (k / 2)).c:=by unfold rmo rm;split <;> omega
    have hro:0≤rmo E F0 k:=by unfold rmo;rw[hfo];split <;> omega
    have HT2:=hid ((ht.set (k / 2*6+2+k % 2) (.int .u32 (rm E F0 k - x))).set (k / 2*6+2+(1 - k % 2)) (.int .u32 (rmo E F0 k+x)))
    have HT3:Hid (∀v,updV (updV (lv E F0 nx) (k / 2*6+2+k % 2) (.int .u32 (rm E F0 k - x))) (k / 2*6+2+(1 - k % 2)) (.int .u32 (rmo E F0 k+x)) v=lv E (pushAll fl x (p.drop q)) nx v):=fun v=>by rw[HPA.out];exact lv_push E F0 nx k x v
    have HSELF:Hid (rm E (pushAll fl x (p.drop q)) k=rm E F0 k - x):=by show _=_;rw[HPA.out];exact rm_self E F0 k x
    have HOT2:Hid (∀i,q+1≤i→i<p.length→rm E (pushAll fl x (p.drop q)) (p.getD i 0)=rm E F0 (p.getD i 0)):=fun i h1 h2=>by rw[HPA.out];exact rm_other (HOTH.out i h1 h2)
    rw[←hrb] at hrx
    obtain⟨r,HRm⟩:=named (rm E F0 k)
    obtain⟨r',HRo⟩:=named (rmo E F0 k)
    rw[HRm.out] at d0 hsum HT2 HT3 HSELF hrx
    rw[HRo.out] at d1 hsum hro HT2 HT3
    have hw1:IntKind.u32.wrap (r - x)=r - x:=by
     have h3:(r - x) % 4294967296=r - x:=Int.emod_eq_of_lt (by omega) (by omega)
     simp[IntKind.wrap,IntKind.bits,IntKind.signed,h3]
    have hw2:IntKind.u32.wrap (r'+x)=r'+x:=by
     have h3:(r'+x) % 4294967296=r'+x:=Int.emod_eq_of_lt (by omega) (by omega)
     simp[IntKind.wrap,IntKind.bits,IntKind.signed,h3]
    have hk2:((k / 2:Nat):Int)<m:=by omega
    have ha:=and_one k (by omega)
    have hk3:((k % 2:Nat):Int)<2:=by omega
    have hk4:(1:Int) - ((k % 2:Nat):Int)=((1 - k % 2:Nat):Int):=by omega
    have hk5:((1 - k % 2:Nat):Int)<2:=by omega
    have hz:(0:Int)≤(q:Int):=by omega
    clear hrb hfo hcc hff hkm hmem ht hsum hro hq1
    have hne:k / 2*6+2+k % 2≠k / 2*6+2+(1 - k % 2):=by omega
    have hne':=hne.symm
    have hnb:=n2.symm
    by_cases hrg:r - x<gr
    ·skip
     go_wp2_with fail
     go_quiet (fail)
     go_wp2_with fail
     have dV:(wr.drewN nq).cell? ⟨bl,k / 2*6+2+k % 2,none⟩=some (.int .u32 r):=d0
     have eV:(wr.drewN nq).cell? ⟨bl,k / 2*6+2+(1 - k % 2),none⟩=some (.int .u32 r'):=d1
     have fV:(wr.drewN nq).frozen? ⟨bl,k / 2*6+2+k % 2,none⟩=false:=f0
     have gV:(wr.drewN nq).frozen? ⟨bl,k / 2*6+2+(1 - k % 2),none⟩=false:=f1
     have cV:(wr.drewN nq).cell? ⟨f,6,none⟩=some (.int .u32 gr):=c6
     have HTV:Hid (TbV (((wr.drewN nq).setCell ⟨bl,k / 2*6+2+k % 2,none⟩ (.int .u32 (r - x))).setCell ⟨bl,k / 2*6+2+(1 - k % 2),none⟩ (.int .u32 (r'+x))) bl (m*6) 236 (lv E (pushAll fl x (p.drop q)) nx)):=TbV.congr (TbV.same HT2.out rfl) (fun v _=>HT3.out v)
     have HFV:=hid (((hfr.drewN nq).setCell ⟨bl,k / 2*6+2+k % 2,none⟩ (.int .u32 (r - x)) rfl).setCell ⟨bl,k / 2*6+2+(1 - k % 2),none⟩ (.int .u32 (r'+x)) rfl)
     clear d0 d1 f0 f1 c0 c1 c2 c3 c4 c5 c6 ck hfr
     generalize wr.drewN nq=V at*
     go_region
     go_wp2_with fail
     go_region
     go_wp2_with fail
     go_quiet (fail)
     go_wp2_with fail
     exact⟨⟨q,q,by omega,by omega,rfl,rfl,HTV.out.same rfl,HFV.out.drewN _,fun i h1 h2=>by omega⟩,by simp[intOf]⟩
    ·have HGE:Hid (∀i,q≤i→i<kp→gr≤rm E (pushAll fl x (p.drop q)) (p.getD i 0)):=fun i h1 h2=>by
      by_cases e:i=q
      ·subst e
       have:=HSELF.out
       rw[←HKK.out] at this
       omega
      ·have h3:=hge.out i (by omega) h2
       have h4:=HOT2.out i (by omega) (by omega)
       omega
     go_wp2_with fail
     go_quiet (fail)
     go_wp2_with fail
     have dV:(wr.drewN nq).cell? ⟨bl,k / 2*6+2+k % 2,none⟩=some (.int .u32 r):=d0
     have eV:(wr.drewN nq).cell? ⟨bl,k / 2*6+2+(1 - k % 2),none⟩=some (.int .u32 r'):=d1
     have fV:(wr.drewN nq).frozen? ⟨bl,k / 2*6+2+k % 2,none⟩=false:=f0
     have gV:(wr.drewN nq).frozen? ⟨bl,k / 2*6+2+(1 - k % 2),none⟩=false:=f1
     have cV:(wr.drewN nq).cell? ⟨f,6,none⟩=some (.int .u32 gr):=c6
     have HTV:Hid (TbV (((wr.drewN nq).setCell ⟨bl,k / 2*6+2+k % 2,none⟩ (.int .u32 (r - x))).setCell ⟨bl,k / 2*6+2+(1 - k % 2),none⟩ (.int .u32 (r'+x))) bl (m*6) 236 (lv E (pushAll fl x (p.drop q)) nx)):=TbV.congr (TbV.same HT2.out rfl) (fun v _=>HT3.out v)
     have HFV:=hid (((hfr.drewN nq).setCell ⟨bl,k / 2*6+2+k % 2,none⟩ (.int .u32 (r - x)) rfl).setCell ⟨bl,k / 2*6+2+(1 - k % 2),none⟩ (.int .u32 (r'+x)) rfl)
     clear d0 d1 f0 f1 c0 c1 c2 c3 c4 c5 c6 ck hfr
     generalize wr.drewN nq=V at*
     go_region
     go_wp2_with fail
     go_region
     go_wp2_with fail
     go_quiet (fail)
     go_wp2_with fail
     exact⟨⟨q,kp,by omega,hkp,rfl,rfl,HTV.out.same rfl,HFV.out.drewN _,HGE⟩,by simp[intOf]⟩
def leastN(E:List Ed)(fl:Nat→Int)(p:List Nat):Nat→Int
 | 0=>4294967295
 | i+1=>if rm E fl (p.getD i 0)<leastN E fl p i then rm E fl (p.getD i 0) else leastN E fl p i
theorem least_le(E:List Ed)(fl:Nat→Int)(p:List Nat): ∀k i,i<k→leastN E fl p k≤rm E fl (p.getD i 0):=by
 intro k
 induction k with
 | zero=>intro i h;omega
 | succ k ih=>
   intro i h
   simp only[leastN]
   by_cases e:i=k
   ·subst e;split <;> omega
   ·have:=ih i (by omega)
    split <;> omega
theorem least_ge(E:List Ed)(fl:Nat→Int)(p:List Nat)(g:Int)(hg:g≤4294967295): ∀k,(∀i,i<k→g≤rm E fl (p.getD i 0))→g≤leastN E fl p k:=by
 intro k
 induction k with
 | zero=>intro _;exact hg
 | succ k ih=>
   intro h
   have h1:=ih (fun i hi=>h i (by omega))
   have h2:=h k (by omega)
   simp only[leastN]
   split <;> omega
set_option maxHeartbeats 800000 in
theorem least_any{w:World}{f bl b1 b2 b3 bq bp n m:Nat}{gr:Int}{E:List Ed}{fl nx:Nat→Int}{p:List Nat}{bx c:Nat}(hp:Pp w f bl b1 b2 b3 bq bp n m gr)(hl:TbV w bl (m*6) 236 (lv E fl nx))(hm:m≤16384)(hk: ∀k∈p,k<2*m)(hpl:p.length≤100000)(hpc: ∀i,i<p.length→w.cell? ⟨bx,i,none⟩=some (.int .i64 ((p.getD i 0:Nat):Int))):
  Calls Tryz.prog 192 #[.pointer (some ⟨f,0,none⟩), .slice (some ⟨bx,0,none⟩) p.length c] w fun e w'=>e= .returned (.int .u32 (leastN E fl p p.length))∧w'=w:=by
 have HK:=hid hk
 have HPC:=hid hpc
 have HRM:=hid (fun k (h:k<2*m)=>room_any hp hl h hm)
 clear hp hl hk hpc
 go_enter Tryz.func192,Tryz.ntmps192
 go_wp2_with fail
 go_loopw [5,10] (fun le i wr=> ∃k:Nat,k≤p.length∧i= .int .i64 k∧le= .int .u32 (leastN E fl p k)∧w=wr) (fun _ i _=>p.length - (intOf i).toNat)
 case atStart=>exact⟨0,Nat.zero_le _,rfl,rfl,rfl⟩
 case round=>
  obtain⟨k,hk,rfl,rfl,rfl⟩:=hrel
  by_cases hlt:k<p.length
  ·have hlt':(k:Int)<p.length:=by omega
   have c0:=HPC.out k hlt
   have hmem:p.getD k 0∈p:=by simp[List.getD,List.getElem?_eq_getElem hlt]
   have HC:=hid (HRM.out _ (HK.out _ hmem))
   have HLE:Hid (leastN E fl p (k+1)=if rm E fl (p.getD k 0)<leastN E fl p k then rm E fl (p.getD k 0) else leastN E fl p k):=rfl
   generalize p.getD k 0=j at*
   obtain⟨r,HR⟩:=named (rm E fl j)
   obtain⟨le,HL⟩:=named (leastN E fl p k)
   obtain⟨le',HL'⟩:=named (leastN E fl p (k+1))
   rw[HR.out] at HC HLE
   rw[HL.out,HL'.out] at HLE
   rw[HL.out]
   have hmin:(if r<le then r else le)=le':=HLE.out.symm
   clear hmem
   go_wp2_with fail
   refine HC.out.mono ?_
   rintro e w1 ⟨rfl,rfl⟩
   go_wp2_with fail
   exact⟨⟨k+1,by omega,by go_num,by rw[HL'.out],by trivial⟩,by simp[intOf];omega⟩
  ·have hkl:k=p.length:=by omega
   subst hkl
   have hlt': ¬((p.length:Nat):Int)<p.length:=by omega
   go_wp2_with fail
   go_ret
   exact⟨rfl,rfl⟩
set_option maxHeartbeats 400000 in
theorem setAll_any{w:World}{b n:Nat}{V:Nat→Value}(ht:TbV w b n 3 V)(hv: ∀v,∃y,V v= .int .i64 y)(hn:n≤8192)(x:Int):
  Calls Tryz.prog 175 #[.slice (some ⟨b,0,none⟩) n n, .int .i64 x] w fun e w'=>e= .returned (.tuple #[])∧TbV w' b n 3 (fun _=> .int .i64 x)∧Fr (fun k=>k=b) w w':=by
 have HV:=hid hv
 clear hv
 go_enter Tryz.func175,Tryz.ntmps175
 go_wp2_with fail
 go_loopw [7] (fun i wr=> ∃k:Nat,k≤n∧i= .int .i64 k∧TbV wr b n 3 (fun v=>if v<k then .int .i64 x else V v)∧Fr (fun k=>k=b) w wr) (fun i _=>n - (intOf i).toNat)
 case atStart=>exact⟨0,Nat.zero_le _,rfl,ht.congr (fun v _=>by simp),Fr.refl _ _⟩
 case round=>
  obtain⟨k,hk,rfl,tk,hf⟩:=hrel
  by_cases hlt:k<n
  ·have hlt':(k:Int)<n:=by omega
   have c0:=tk.cell hlt
   rw[if_neg (Nat.lt_irrefl k)] at c0
   obtain⟨y,hy⟩:=HV.out k
   rw[hy] at c0
   have f0:=tk.free k
   have HS:=hid (tk.set k (.int .i64 x))
   clear hy
   go_wp2_with fail
   refine⟨⟨k+1,by omega,by go_num,HS.out.congr (fun v _=> ?_),hf.setCell _ _ rfl⟩,by simp[intOf];omega⟩
   unfold updV
   by_cases e:v=k
   ·subst e;simp
   ·rw[if_neg e]
    by_cases e2:v<k
    ·show(if v<k then Value.int .i64 x else V v)=_
     rw[if_pos e2,if_pos (by omega)]
    ·show(if v<k then Value.int .i64 x else V v)=_
     rw[if_neg e2,if_neg (by omega)]
  ·have hlt': ¬(k:Int)<n:=by omega
   go_wp2_with fail
   go_end0
   exact⟨rfl,tk.congr (fun v hv=>by rw[if_pos (by omega)]),hf⟩
end Go.Proofs.YtmenajiceaicpaaGreat.F6
namespace Go.Proofs.YtmenajiceaicpaaGreat.F6
open Go
section
variable {P:Program} {Q:Exit→Act→World→Prop} {md:Region.Mode}
def togo(listed:Array Bool):Nat→Nat
 | 0=>0
 | n+1=>togo listed n+if listed.getD n true=false then 1 else 0
theorem togo_zero{listed:Array Bool}: ∀n,togo listed n=0→∀i,i<n→listed.getD i true=true
 | 0,_,i,hi=>absurd hi (Nat.not_lt_zero _)
 | n+1,h,i,hi=>by
   simp only[togo] at h
   by_cases e:i=n
   ·subst e
    cases hx:listed.getD i true with
    | true=>rfl
    | false=>rw[hx] at h;simp at h
   ·exact togo_zero n (by omega) i (by omega)
theorem togo_same{listed:Array Bool}{i:Nat}: ∀n,n≤i→togo (listed.setIfInBounds i true) n=togo listed n
 | 0,_=>rfl
 | n+1,h=>by
   have e:(listed.setIfInBounds i true).getD n true=listed.getD n true:=by
    have:i≠n:=by omega
    simp[this]
   simp only[togo,togo_same n (by omega:n≤i),e]
theorem togo_set{listed:Array Bool}{i:Nat}(hl:listed.getD i true=false): ∀n,i<n→togo (listed.setIfInBounds i true) n+1=togo listed n
 | 0,h=>absurd h (Nat.not_lt_zero _)
 | n+1,h=>by
   have his:i<listed.size:=by
    by_cases e:i<listed.size
    ·exact e
    ·simp[e] at hl
   by_cases e:i=n
   ·subst e
    have e1:(listed.setIfInBounds i true).getD i true=true:=by simp[his]
    simp only[togo,togo_same i (Nat.le_refl i),e1,hl]
    simp
   ·have e1:(listed.setIfInBounds i true).getD n true=listed.getD n true:=by simp[e]
    have:=togo_set hl n (by omega)
    simp only[togo,e1]
    omega
theorem any_inv{ops:Array Oper}(I:Array Bool→Act→World→Prop)
  (hstep: ∀listed a w i o,I listed a w→i∈Region.ready md ops listed→ops[i]? =some o→wpOp P ops Q i (I (listed.setIfInBounds i true)) a w)
  (hend: ∀listed a w,I listed a w→Region.ready md ops listed= []→Q .normal a w):
  ∀ (fuel:Nat) (listed:Array Bool) (a:Act) (w:World),togo listed ops.size≤fuel→I listed a w→wpAny P md ops Q fuel listed a w:=by
 intro fuel
 induction fuel with
 | zero=>
   intro listed a w hf hI
   have hr:Region.ready md ops listed= []:=by
    rw[List.eq_nil_iff_forall_not_mem]
    intro j hj
    obtain⟨h3,oj,h4,_⟩:=mem_ready.1 hj
    have hjs:j<ops.size:=(Array.getElem?_eq_some_iff.1 h4).1
    have:=togo_zero (listed:=listed) ops.size (by omega) j hjs
    rw[h3] at this
    cases this
   exact⟨hr,hend _ _ _ hI hr⟩
 | succ fuel ih=>
   intro listed a w hf hI
   refine⟨fun hr=>hend _ _ _ hI hr,fun i hi=> ?_⟩
   obtain⟨h3,o,h4,_⟩:=mem_ready.1 hi
   have his:i<ops.size:=(Array.getElem?_eq_some_iff.1 h4).1
   refine wpOp_mono (fun a' w' hI'=>ih _ a' w' ?_ hI') (hstep listed a w i o hI hi h4)
   have:=togo_set h3 ops.size his
   omega
theorem togo_le(listed:Array Bool): ∀n,togo listed n≤n
 | 0=>Nat.le_refl _
 | n+1=>by
   have:=togo_le listed n
   simp only[togo]
   split <;> omega
theorem wp_region_inv{id:Nat}{ops:Array Oper}{a:Act}{w:World}(hf:P.follows .mixedOrders=true)(I:Array Bool→Act→World→Prop)(h0:I (Array.replicate ops.size false) a w.drew)
  (hstep: ∀listed a w i o,I listed a w→i∈Region.ready .any ops listed→ops[i]? =some o→wpOp P ops Q i (I (listed.setIfInBounds i true)) a w)
  (hend: ∀listed a w,I listed a w→Region.ready .any ops listed= []→Q .normal a w):(Code.region id ops true).wp P Q a w:=
 wp_region_any hf (any_inv I hstep hend _ _ _ _ (togo_le _ _) h0)
end
end Go.Proofs.YtmenajiceaicpaaGreat.F6
namespace Go.Proofs.YtmenajiceaicpaaGreat.F6
open Go.RowKit
theorem wpOp_val{P:Program}{ops:Array Oper}{Q:Exit→Act→World→Prop}{i:Nat}{o:Oper}{v:Value}{K:Act→World→Prop}{a:Act}{w w':World}(ho:ops[i]? =some o)(hg:o.guard=none)
  (hr: ∀ρ:Operand→Value,(∀x,a.eval x=ρ x)→(execOp ρ o).run P w= .ok (.value v) w') (h:K (a.put o.dst v) w'):wpOp P ops Q i K a w:=by
 refine wpOp_step ho (fun K' hK=> ?_)
 rw[if_pos (by simp[Region.wanted,hg])]
 unfold Oper.wp
 rw[hr a.eval (fun _=>rfl)]
 exact hK _ _ h
def fr27(x0 x1:Value)(U:Nat→Value):Act:={tmps:= #[x0,x1, .pointer none,U 3,undef,undef,undef,undef,undef,U 9,U 10,U 11,U 12,U 13,U 14,U 15,U 16,U 17,U 18,U 19,U 20,U 21,U 22,U 23,U 24,U 25,U 26,U 27,U 28,U 29,undef,undef,undef,undef,undef,undef,undef,undef,undef,undef,undef,undef,undef,undef,undef,undef,undef,undef,undef,undef,undef,undef,undef,undef,undef,undef,undef,undef,undef,undef,undef,undef,undef,undef,undef,undef,undef,undef,undef,undef,undef,undef,undef,undef,undef,undef,undef,undef,undef,undef,undef,undef,undef,undef,undef,undef,undef,undef],defers:= []}
theorem fr27_put(x0 x1:Value)(U:Nat→Value)(v:Value)(s:Nat)(hs:s=3∨(9≤s∧s<30)):(fr27 x0 x1 U).put (some s) v=fr27 x0 x1 (updV U s v):=by
 have h:s=3∨s=9∨s=10∨s=11∨s=12∨s=13∨s=14∨s=15∨s=16∨s=17∨s=18∨s=19∨s=20∨s=21∨s=22∨s=23∨s=24∨s=25∨s=26∨s=27∨s=28∨s=29:=by omega
 rcases h with h | h | h | h | h | h | h | h | h | h | h | h | h | h | h | h | h | h | h | h | h | h <;> subst h <;> rfl
theorem fr27_eval(x0 x1:Value)(U:Nat→Value)(s:Nat)(hs:s=3∨(9≤s∧s<30)):(fr27 x0 x1 U).eval (.tmp s)=U s:=by
 have h:s=3∨s=9∨s=10∨s=11∨s=12∨s=13∨s=14∨s=15∨s=16∨s=17∨s=18∨s=19∨s=20∨s=21∨s=22∨s=23∨s=24∨s=25∨s=26∨s=27∨s=28∨s=29:=by omega
 rcases h with h | h | h | h | h | h | h | h | h | h | h | h | h | h | h | h | h | h | h | h | h | h <;> subst h <;> rfl
def sl27(j:Nat):Nat:=if j=21 then 3 else 9+j
def v27(p:Nat)(a:Option Addr)(N m cap:Nat)(B:Nat→Nat)(j:Nat):Value:=
 if j=0 then .pointer (some ⟨p,1,none⟩)
 else if j=1 then .slice a m cap
 else if j=2 then .int .i64 m
 else if j=3 then .slice (some ⟨B 3,0,none⟩) m m
 else if j=6 then .slice (some ⟨B 6,0,none⟩) N N
 else if j=9 then .slice (some ⟨B 9,0,none⟩) N N
 else if j=12 then .slice (some ⟨B 12,0,none⟩) N N
 else if j=15 then .slice (some ⟨B 15,0,none⟩) 0 N
 else if j=18 then .slice (some ⟨B 18,0,none⟩) 0 N
 else if j=19 then .agg #[.slice (some ⟨B 3,0,none⟩) m m, .slice (some ⟨B 6,0,none⟩) N N, .slice (some ⟨B 9,0,none⟩) N N, .slice (some ⟨B 12,0,none⟩) N N, .slice (some ⟨B 15,0,none⟩) 0 N, .slice (some ⟨B 18,0,none⟩) 0 N, .int .u32 0]
 else if j=20 then .pointer (some ⟨B 20,0,none⟩)
 else if j=21 then .pointer (some ⟨B 20,0,none⟩)
 else if j % 3=1 then .pointer (some ⟨p,0,none⟩)
 else .int .i64 N
def mk27(j:Nat):Bool:=j==3||j==6||j==9||j==12||j==15||j==18||j==20
def ob27(N m:Nat)(B:Nat→Nat)(j:Nat):Obj:=
 if j=3 then .cells ((List.range (m*6)).map (lv [] (fun _=>0) (fun _=>0))).toArray 236 (0,0)
 else if j=20 then .cells #[.slice (some ⟨B 3,0,none⟩) m m, .slice (some ⟨B 6,0,none⟩) N N, .slice (some ⟨B 9,0,none⟩) N N, .slice (some ⟨B 12,0,none⟩) N N, .slice (some ⟨B 15,0,none⟩) 0 N, .slice (some ⟨B 18,0,none⟩) 0 N, .int .u32 0] 232 (0,0)
 else .cells ((List.range N).map (fun _=>Value.int .i64 0)).toArray 3 (0,0)
def on(L:Array Bool)(j:Nat):Prop:=L.getD j false=true
structure I27(W:World)(p:Nat)(a:Option Addr)(N m cap:Nat)(U:Nat→Value)(B:Nat→Nat)(L:Array Bool)(w:World):Prop where
 sz:L.size=22
 vals: ∀j,j<22→on L j→U (sl27 j)=v27 p a N m cap B j
 made: ∀j,j<22→mk27 j=true→on L j→w.heap[B j]? =some (ob27 N m B j)∧W.heap.size≤B j
 apart: ∀i j,i<22→j<22→mk27 i=true→mk27 j=true→on L i→on L j→i≠j→B i≠B j
 late:on L 19→on L 3∧on L 6∧on L 9∧on L 12∧on L 15∧on L 18
 late2:on L 20→on L 19
 late3:on L 21→on L 20
 below:Below W.heap.size W w
theorem on_set{L:Array Bool}{i j:Nat}(h:on (L.setIfInBounds i true) j):j=i∨on L j:=by
 by_cases e:j=i
 ·exact .inl e
 ·refine .inr ?_
  unfold on at*
  rwa [getD_set_ne false (fun h=>e h.symm)] at h
theorem on_keep{L:Array Bool}{i j:Nat}(h:on L j):on (L.setIfInBounds i true) j:=by
 by_cases e:j=i
 ·subst e
  unfold on at*
  have:j<L.size:=by
   by_cases h2:j<L.size
   ·exact h2
   ·simp[h2] at h
  simp[this]
 ·unfold on at*
  rwa [getD_set_ne false (fun h=>e h.symm)]
theorem sl27_inj{i j:Nat}(hi:i<22)(hj:j<22)(h:sl27 i=sl27 j):i=j:=by
 unfold sl27 at h
 split at h <;> split at h <;> omega
section
variable {W:World} {p:Nat} {a:Option Addr} {N m cap:Nat} {U:Nat→Value} {B:Nat→Nat} {L:Array Bool} {w:World}
theorem I27.quiet(h:I27 W p a N m cap U B L w){i:Nat}(hi:i<22)(hn:mk27 i=false)(h19:i=19→on L 3∧on L 6∧on L 9∧on L 12∧on L 15∧on L 18)(h21:i=21→on L 20):I27 W p a N m cap (updV U (sl27 i) (v27 p a N m cap B i)) B (L.setIfInBounds i true) w:=by
 have hno: ∀j,mk27 j=true→on (L.setIfInBounds i true) j→on L j:=fun j hj ho=>by
  rcases on_set ho with rfl | ho
  ·rw[hn] at hj;cases hj
  ·exact ho
 refine⟨by simp[h.sz],fun j hj ho=> ?_,fun j hj hm ho=>h.made j hj hm (hno j hm ho),fun x y hx hy mx my ox oy=>h.apart x y hx hy mx my (hno x mx ox) (hno y my oy),fun ho=> ?_,fun ho=> ?_,fun ho=> ?_,h.below⟩
 ·by_cases e:j=i
  ·subst e;rw[updV_self]
  ·rw[updV_ne _ _ (fun h2=>e (sl27_inj hj hi h2))]
   rcases on_set ho with e2 | ho
   ·exact absurd e2 e
   ·exact h.vals j hj ho
 ·have:on L 3∧on L 6∧on L 9∧on L 12∧on L 15∧on L 18:=by
   rcases on_set ho with e | ho
   ·exact h19 e.symm
   ·exact h.late ho
  obtain⟨a1,a2,a3,a4,a5,a6⟩:=this
  exact⟨on_keep a1,on_keep a2,on_keep a3,on_keep a4,on_keep a5,on_keep a6⟩
 ·have h20:on L 20:=hno 20 rfl ho
  exact on_keep (h.late2 h20)
 ·rcases on_set ho with e | ho
  ·exact on_keep (h21 e.symm)
  ·exact on_keep (h.late3 ho)
theorem I27.make(h:I27 W p a N m cap U B L w){i:Nat}(hi:i<22)(hm:mk27 i=true)(hl:L.getD i true=false)(h20:i=20→on L 19)(o:Obj)(he:o=ob27 N m (fun j=>if j=i then w.heap.size else B j) i)(v:Value)(hv:v=v27 p a N m cap (fun j=>if j=i then w.heap.size else B j) i):
  I27 W p a N m cap (updV U (sl27 i) v) (fun j=>if j=i then w.heap.size else B j) (L.setIfInBounds i true) (w.alloc o):=by
 have hoff: ¬on L i:=fun ho=>by
  unfold on at ho
  by_cases h2:i<L.size
  ·simp[h2] at ho hl;rw[ho] at hl;cases hl
  ·simp[h2] at ho
 have hsame: ∀j,j<22→on L j→v27 p a N m cap (fun j=>if j=i then w.heap.size else B j) j=v27 p a N m cap B j:=fun j hj ho=>by
  have hij:j≠i:=fun e=>hoff (e▸ho)
  have k19:on L 19→i≠3∧i≠6∧i≠9∧i≠12∧i≠15∧i≠18:=fun h19=>by
   obtain⟨a1,a2,a3,a4,a5,a6⟩:=h.late h19
   exact⟨fun e=>hoff (e▸a1),fun e=>hoff (e▸a2),fun e=>hoff (e▸a3),fun e=>hoff (e▸a4),fun e=>hoff (e▸a5),fun e=>hoff (e▸a6)⟩
  by_cases e19:j=19
  ·subst e19
   obtain⟨a1,a2,a3,a4,a5,a6⟩:=k19 ho
   simp[v27,Ne.symm a1,Ne.symm a2,Ne.symm a3,Ne.symm a4,Ne.symm a5,Ne.symm a6]
  ·by_cases e21:j=21
   ·subst e21
    have:20≠i:=fun e=>hoff (e▸h.late3 ho)
    simp[v27,this]
   ·have hc:j=0∨j=1∨j=2∨j=3∨j=4∨j=5∨j=6∨j=7∨j=8∨j=9∨j=10∨j=11∨j=12∨j=13∨j=14∨j=15∨j=16∨j=17∨j=18∨j=20:=by omega
    rcases hc with h2 | h2 | h2 | h2 | h2 | h2 | h2 | h2 | h2 | h2 | h2 | h2 | h2 | h2 | h2 | h2 | h2 | h2 | h2 | h2 <;> subst h2 <;> first | rfl | simp[v27,hij]
 have hold: ∀j,j<22→mk27 j=true→on L j→w.heap[B j]? =some (ob27 N m (fun j=>if j=i then w.heap.size else B j) j):=fun j hj hmj ho=>by
  have hij:j≠i:=fun e=>hoff (e▸ho)
  rw[(h.made j hj hmj ho).1]
  congr 1
  by_cases e20:j=20
  ·subst e20
   obtain⟨a1,a2,a3,a4,a5,a6⟩:=h.late (h.late2 ho)
   have b1:3≠i:=fun e=>hoff (e▸a1)
   have b2:6≠i:=fun e=>hoff (e▸a2)
   have b3:9≠i:=fun e=>hoff (e▸a3)
   have b4:12≠i:=fun e=>hoff (e▸a4)
   have b5:15≠i:=fun e=>hoff (e▸a5)
   have b6:18≠i:=fun e=>hoff (e▸a6)
   simp[ob27,b1,b2,b3,b4,b5,b6]
  ·unfold ob27
   rw[if_neg e20,if_neg e20]
 have hlt: ∀j,j<22→mk27 j=true→on L j→B j<w.heap.size:=fun j hj hmj ho=>lt_of_block (h.made j hj hmj ho).1
 refine⟨by simp[h.sz],fun j hj ho=> ?_,fun j hj hmj ho=> ?_,fun x y hx hy mx my ox oy hxy=> ?_,fun ho=> ?_,fun ho=> ?_,fun ho=> ?_,h.below.alloc h.below.size _⟩
 ·by_cases e:j=i
  ·subst e;rw[updV_self,hv]
  ·rw[updV_ne _ _ (fun h2=>e (sl27_inj hj hi h2))]
   rcases on_set ho with e2 | ho
   ·exact absurd e2 e
   ·rw[hsame j hj ho];exact h.vals j hj ho
 ·rcases on_set ho with rfl | ho
  ·simp only[if_true]
   exact⟨by rw[heap_top,he],h.below.size⟩
  ·have hij:j≠i:=fun e=>hoff (e▸ho)
   simp only[if_neg hij]
   exact⟨(Below.heap_alloc _ _ _ (hlt j hj hmj ho)).trans (hold j hj hmj ho),(h.made j hj hmj ho).2⟩
 ·rcases on_set ox with ex | ox
  ·rcases on_set oy with ey | oy
   ·exact absurd (ex.trans ey.symm) hxy
   ·have:=hlt y hy my oy
    have hyi:y≠i:=fun e=>hoff (e▸oy)
    simp only[ex,if_true,if_neg hyi]
    omega
  ·have hxi:x≠i:=fun e=>hoff (e▸ox)
   have hx2:=hlt x hx mx ox
   rcases on_set oy with ey | oy
   ·simp only[ey,if_true,if_neg hxi]
    omega
   ·have hyi:y≠i:=fun e=>hoff (e▸oy)
    simp only[if_neg hxi,if_neg hyi]
    exact h.apart x y hx hy mx my ox oy hxy
 ·rcases on_set ho with e | ho
  ·subst e;cases hm
  ·obtain⟨a1,a2,a3,a4,a5,a6⟩:=h.late ho
   exact⟨on_keep a1,on_keep a2,on_keep a3,on_keep a4,on_keep a5,on_keep a6⟩
 ·rcases on_set ho with e | ho
  ·exact on_keep (h20 e.symm)
  ·exact on_keep (h.late2 ho)
 ·rcases on_set ho with e | ho
  ·subst e;cases hm
  ·exact on_keep (h.late3 ho)
theorem all_on{ops:Array Oper}{L:Array Bool}(hok:(List.range ops.size).all (fun j=>(ops[j]?).all (fun o=>o.after.all (fun e=>decide (e.on<j))))=true)(hs:L.size=ops.size)(hr:Region.ready .any ops L= []): ∀j,j<ops.size→on L j:=by
 intro j
 induction j using Nat.strongRecOn with
 | ind j ih=>
   intro hj
   by_cases h:on L j
   ·exact h
   ·exfalso
    have hl:L.getD j true=false:=by
     unfold on at h
     have hj2:j<L.size:=by omega
     simp[hj2] at h ⊢
     exact h
    have:j∈Region.ready .any ops L:=by
     refine mem_ready.2 ⟨hl,ops[j],by simp[hj],fun e he _=>ih _ ?_ ?_⟩
     ·simp only[List.all_eq_true,List.mem_range] at hok
      have:=hok j hj
      rw[Array.getElem?_eq_getElem hj] at this
      simp only[Option.all_some,Array.all_eq_true] at this
      obtain⟨i,hi,rfl⟩:=Array.mem_iff_getElem.1 he
      simpa using this i hi
     ·simp only[List.all_eq_true,List.mem_range] at hok
      have:=hok j hj
      rw[Array.getElem?_eq_getElem hj] at this
      simp only[Option.all_some,Array.all_eq_true] at this
      obtain⟨i,hi,rfl⟩:=Array.mem_iff_getElem.1 he
      have:=this i hi
      simp at this
      omega
    rw[hr] at this
    cases this
theorem I27.start{W:World}(p:Nat)(a:Option Addr)(N m cap:Nat):I27 W p a N m cap (fun _=>undef) (fun _=>0) (Array.replicate 22 false) W.drew:=by
 have hno: ∀j,¬on (Array.replicate 22 false) j:=fun j h=>by
  unfold on at h
  by_cases e:j<22
  ·simp[e] at h
  ·simp[e] at h
 exact⟨by simp,fun j _ h=>absurd h (hno j),fun j _ _ h=>absurd h (hno j),fun i j _ _ _ _ h=>absurd h (hno i),fun h=>absurd h (hno _),fun h=>absurd h (hno _),fun h=>absurd h (hno _),(Below.refl _ _).drew⟩
end
end Go.Proofs.YtmenajiceaicpaaGreat.F6
