import Derived.Test.YtmenajiceaicpaaGreatZAV
import Derived.Test.YtmenajiceaicpaaGreatZAW
open Go.Lib (hid)
set_option maxRecDepth 100000
namespace Go.Proofs.YtmenajiceaicpaaGreat
open Go.RowKit Go.Maps
theorem sz_countL{L:List Nat}(h:tdy (ints L) 0=true)(lb:Nat): ∀k,k≤L.length→(szL (ints (L.take k))).getD lb 0=(L.take k).count lb
 | 0,_=>by simp[szL,ints]
 | k+1,hk=>by
   have hk':k<L.length:=by omega
   have ih:=sz_countL h lb k (by omega)
   have h1:=right_next h k (by rw[ints_len];exact hk')
   rw[ints_getD hk',Int.toNat_natCast,ints_take] at h1
   have e0:L.take (k+1)=L.take k++[L.getD k 0]:=by rw[List.take_succ_eq_append_getElem hk'];simp[List.getD,List.getElem?_eq_getElem hk']
   have e:ints (L.take (k+1))=ints (L.take k)++[((L.getD k 0:Nat):Int)]:=by rw[e0,ints_snoc]
   rw[e,szL_snoc,Int.toNat_natCast,szS_at h1.2,ih,e0,List.count_append]
   congr 1
   by_cases e2:lb=L.getD k 0
   ·rw[if_pos e2,e2];simp
   ·rw[if_neg e2,List.count_singleton]
    have:(L.getD k 0==lb)=false:=by simp only[beq_eq_false_iff_ne];exact fun e=>e2 e.symm
    rw[this];rfl
theorem sz_cntL{L:List Nat}(h:tdy (ints L) 0=true)(lb:Nat):(szL (ints L)).getD lb 0=L.count lb:=by
 have h1:=sz_countL h lb L.length (Nat.le_refl _)
 rw[List.take_length] at h1
 exact h1
theorem ints_back{xs:List Int}(h:tdy xs 0=true):xs=ints (xs.map Int.toNat):=by
 refine List.ext_getElem (by simp[ints]) (fun i h1 h2=> ?_)
 have h3:=(right_next h i h1).1
 simp only[ints,List.getElem_map]
 simp[List.getD,h1] at h3
 omega
def Looked(W wr:World)(cb n:Nat)(L:List Nat)(P:List Pr):Prop:= ∃ (k lg lc sg sc eg ec bg pg fg:Nat) (mb nn:Nat→Nat) (rv:Nat→Value) (S:List Nat) (Le:List Int),CQ W wr cb n k lg lc sg sc eg ec bg pg fg mb nn rv (besd P) (cv P L) L S Le (2*P.length)∧LP L n n S Le∧S.length=k∧lg≠sg∧lg≠eg∧sg≠eg
theorem CQ.base{W W' wr:World}{cb n k lg lc sg sc eg ec bg pg fg:Nat}{mb nn:Nat→Nat}{rv:Nat→Value}{R:Nat→List Nat}{F:Nat→Nat→Nat}{L S:List Nat}{Le:List Int}{m:Nat}(h:CQ W' wr cb n k lg lc sg sc eg ec bg pg fg mb nn rv R F L S Le m)(hb:Below W.heap.size W W'):CQ W wr cb n k lg lc sg sc eg ec bg pg fg mb nn rv R F L S Le m:=
 ⟨h.X,h.l,h.s,h.e,h.rr,h.ra,fun v hv g e=>⟨Nat.le_trans hb.size (h.rl v hv g e).1,(h.rl v hv g e).2⟩,h.mj,fun v hv=>Nat.le_trans hb.size (h.ml v hv),h.nb,h.rb,h.fb,Nat.le_trans hb.size h.bl,hb.trans (h.bel.mono hb.size),⟨Nat.le_trans hb.size h.lo.1,Nat.le_trans hb.size h.lo.2.1,Nat.le_trans hb.size h.lo.2.2.1,Nat.le_trans hb.size h.lo.2.2.2.1,Nat.le_trans hb.size h.lo.2.2.2.2⟩⟩
theorem prs_own{w:World}{B:Nat}{v:Option Addr}{c:Nat}{xs:List Pr}(h:OwnP w B v c xs):Prs w v xs:=by
 rcases Nat.eq_zero_or_pos xs.length with h0 | h0
 ·exact .inl (List.eq_nil_of_length_eq_zero h0)
 ·obtain⟨g,cap,hv,_,hlt⟩:=World.ownsRow.form h h0
  injection hv with e1 e2 e3
  subst e1
  refine .inr ⟨g,0,rfl,hlt,fun j hj=> ?_⟩
  obtain⟨h1,h2⟩:=cellsP_at xs j hj
  exact⟨by rw[Nat.zero_add];exact(World.ownsRow.cellAt h (j*2) (by omega)).trans h1,by rw[Nat.zero_add];exact(World.ownsRow.cellAt h (j*2+1) (by omega)).trans h2⟩
set_option maxHeartbeats 1600000 in
theorem look_anyL(N:Int)(a:Option Addr)(l:List A)(cap:Nat)(b:Option Addr)(xs:List Int)(bc:Nat)(w:World)(hl:l.length≤9223372036854775807)(hx:xs.length≤9223372036854775807)(hr:Arcs w a l)(hi:Ints w b xs):
  Calls Tryz.prog 129 #[.agg #[.int .i64 N, .slice a l.length cap], .slice b xs.length bc] w fun e w'=> ∃pv:Value,e= .returned (.tuple #[pv, .int .i64 (cntE N l xs)])∧Below w.heap.size w w'∧Hid (cntE N l xs=0→∃ (cb:Nat) (L:List Nat),pv= .pointer (some ⟨cb,0,none⟩)∧xs=ints L∧N=(L.length:Int)∧Looked w w' cb L.length L (prl l))∧Hid (cntE N l xs≠0→pv= .pointer none):=by
 have hb0:Below w.heap.size w (w.alloc (.cells #[.int .i64 N, .slice a l.length cap] 24)):=(Below.refl _ _).alloc (Nat.le_refl _) _
 have hg:=heap_top w (.cells #[.int .i64 N, .slice a l.length cap] 24)
 have HI:=hid (hi.on hb0)
 have HR:=hid (hr.on hb0)
 have HB0:=hid hb0
 have hwz:w.heap.size≤(w.alloc (.cells #[.int .i64 N, .slice a l.length cap] 24)).heap.size:=hb0.size
 have HCK:=hid (natCount_any N a l cap b xs bc (w.alloc (.cells #[.int .i64 N, .slice a l.length cap] 24)) hl hx (hr.on hb0) (hi.on hb0))
 obtain⟨E,HE⟩:=named (cntE N l xs)
 rw[HE.out] at HCK ⊢
 obtain⟨K,HK⟩:=named (if E=0 then ((cntB xs (prl l):Nat):Int) else 0)
 have HCK2:Hid (Calls Tryz.prog 154 #[.agg #[.int .i64 N, .slice a l.length cap], .slice b xs.length bc] (w.alloc (.cells #[.int .i64 N, .slice a l.length cap] 24)) fun e w'=>e= .returned (.tuple #[.int .i64 K, .int .i64 E])∧Below (w.alloc (.cells #[.int .i64 N, .slice a l.length cap] 24)).heap.size (w.alloc (.cells #[.int .i64 N, .slice a l.length cap] 24)) w'):=by
  refine HCK.out.mono ?_
  rintro e w' ⟨rfl,hb⟩
  refine⟨?_,hb⟩
  rw[←HK.out]
 obtain⟨⟨c0,c1⟩,_⟩:=two_cells hg
 have HHL:=hid hl
 clear hb0 hr hi HCK HK hl hx
 generalize hp:w.heap.size=p at*
 go_enter Tryz.func129,Tryz.ntmps129
 go_wp2_with fail
 generalize hW:w.alloc (.cells #[.int .i64 N, .slice a l.length cap] 24)=W at*
 clear hW
 refine HCK2.out.mono ?_
 rintro e w1 ⟨rfl,hb1⟩
 have HB1:Hid (Below p w w1):=HB0.out.trans (hb1.mono hwz)
 have hg1:=(hb1.block p (lt_of_block hg)).trans hg
 have HI1:=hid (HI.out.on hb1)
 have HR1:=hid (HR.out.on hb1)
 have hwz1:p≤w1.heap.size:=Nat.le_trans hwz hb1.size
 clear hb1 HCK2 c0 c1 hg
 obtain⟨⟨c0,c1⟩,_⟩:=two_cells hg1
 by_cases hE:E≠0
 ·have e1:(E != 0)=true:=by simpa using hE
  go_wp2_with fail
  refine bodyPost_ret (v:= .tuple #[.pointer none, .int .i64 E]) (by simp[results,Tryz.results129,go_sem]) rfl ?_
  exact⟨_,rfl,HB1.out,fun h=>absurd h hE,fun _=>rfl⟩
 have hE0:E=0:=by simpa using hE
 have e1:(E != 0)=false:=by simpa using hE0
 have HE0:=hid hE0
 clear hE hE0
 have hz:=HE.out
 rw[HE0.out] at hz
 unfold cntE at hz
 have hc0:chkE N l=0:=by
  by_cases c:chkE N l≠0
  ·rw[if_pos c] at hz;exact hz
  ·simpa using c
 rw[if_neg (by simp[hc0])] at hz
 have hxt: ¬((xs.length:Int)≠N∨tdy xs 0=false):=fun c=>by rw[if_pos c] at hz;cases hz
 have hxn:(xs.length:Int)=N:=Classical.byContradiction (fun c=>hxt (.inl c))
 have htd:tdy xs 0=true:=by cases q:tdy xs 0 with
  | true=>rfl
  | false=>exact absurd (.inr q) hxt
 obtain⟨hN1,hN2,hll,hoa⟩:=chk_zero hc0
 obtain⟨L,HL⟩:=named (xs.map Int.toNat)
 have HXL:=hid (ints_back htd)
 rw[HL.out] at HXL
 have HPA:=hid (pairs_any N a l cap w1 HHL.out HR1.out)
 have HC0:=hid hc0
 rw[hc0] at HPA
 have HOA:=hid hoa
 have HTD:=hid htd
 have hln:L.length=xs.length:=by rw[←HL.out,List.length_map]
 clear hz hxt hc0 hoa htd
 go_wp2_with fail
 refine HPA.out.mono ?_
 rintro e w2 ⟨v,c,ps,rfl,hop,hps,hb2⟩
 rw[if_pos trivial] at hps
 subst hps
 obtain⟨ix,ox,hix⟩:=(HI1.out.on hb2).get
 obtain⟨rfl,_,_⟩:=hix (by omega)
 have hNl:N=(L.length:Int):=by omega
 have HCD:=hid (counted_any ix ox xs L bc v (prl l) c xs.length w2 rfl HXL.out (by rw[←HXL.out];exact HTD.out) (by omega) (by omega) (HI1.out.on hb2) (prs_own hop) (Nat.le_trans (prl_len l) hll) (fun p hp=>prl_lt (n:=xs.length) (by rw[hxn];exact HOA.out) hp) (fun p hp=>by
  have:=((prl_mem (fun x hx=>⟨(HOA.out x hx).1.1,(HOA.out x hx).2.1⟩)).1 hp).1
  omega))
 have HB2:Hid (Below p w w2):=HB1.out.trans (hb2.mono hwz1)
 have hz2:p≤w2.heap.size:=Nat.le_trans hwz1 hb2.size
 have HNL:=hid hNl
 have HLN:=hid hln
 clear hix hop hb2 c0 c1 hNl hln hxn
 go_wp2_with fail
 refine HCD.out.mono ?_
 rintro e w3 ⟨cb,k,lg,lc,sg,sc,eg,ec,bg,pg,fg,mb,nn,rv,S,Le,rfl,hq,hlp,hk,hls,hle,hse⟩
 have HLK:Hid (Looked w w3 cb L.length L (prl l)):=by
  show Looked w w3 cb L.length L (prl l)
  rw[HLN.out]
  exact⟨k,lg,lc,sg,sc,eg,ec,bg,pg,fg,mb,nn,rv,S,Le,hq.base (by rw[hp];exact HB2.out),hlp,hk,hls,hle,hse⟩
 have HB3:Hid (Below p w w3):=HB2.out.trans (hq.bel.mono hz2)
 clear hq hlp hk hls hle hse
 go_wp2_with fail
 refine bodyPost_ret (v:= .tuple #[.pointer (some ⟨cb,0,none⟩), .int .i64 0]) (by simp[results,Tryz.results129,go_sem]) rfl ?_
 exact⟨_,by rw[HE0.out],HB3.out,fun _=>⟨cb,L,rfl,HXL.out,HNL.out,HLK.out⟩,fun h=>absurd HE0.out h⟩
theorem count_set_at{L:List Nat}{v x:Nat}(hv:v<L.length)(hx:x≠L.getD v 0):(L.set v x).count x=L.count x+1∧(L.set v x).count (L.getD v 0)+1=L.count (L.getD v 0):=by
 have h1:=List.count_set (a:=x) (b:=x) (l:=L) (i:=v) hv
 have h2:=List.count_set (a:=x) (b:=L.getD v 0) (l:=L) (i:=v) hv
 have e:L[v]=L.getD v 0:=(getD_inL hv).symm
 have pos:0<L.count (L.getD v 0):=List.count_pos_iff.2 (by rw[←e];exact List.getElem_mem hv)
 rw[e] at h1 h2
 have n1:(L.getD v 0==x)=false:=by simp only[beq_eq_false_iff_ne];exact fun e=>hx e.symm
 have n2:(x==L.getD v 0)=false:=by simp only[beq_eq_false_iff_ne];exact hx
 rw[n1] at h1
 rw[n2] at h2
 simp at h1 h2
 have h1':(L.set v x).count x=L.count x+1:=h1
 refine⟨h1',?_⟩
 have h2':(L.set v x).count (L.getD v 0)=L.count (L.getD v 0) - 1:=by simpa[List.getD] using h2
 omega
theorem range_getD(n:Nat)(Fi:Nat→M){w:Nat}(h:w<n):((List.range n).map Fi).getD w M.zero=Fi w:=by simp[List.getD,h]
structure CS(W wr:World)(cb n k B lg lc sg sc eg ec bg pg fg:Nat)(mb nn:Nat→Nat)(rv:Nat→Value)(P:List Pr)(L S:List Nat)(Le:List Int)(Fi:Nat→M)(N:Nat):Prop where
 X:CX wr cb n k (B:Int) lg lc sg sc eg ec bg pg fg mb nn rv (besd P) (cv P L) Fi
 l:OwI wr lg lc (ints L)
 s:OwI wr sg sc (ints S)
 e:OwI wr eg ec Le
 st:St cb n k lg sg eg bg pg fg mb rv
 Ln:L.length=n
 Sn:S.length=k
 En:Le.length=k
 ct: ∀y,S.getD y 0=L.count y
 fs:FsL P L k B (fun y=>Le.getD y 0) ((List.range n).map Fi)
 nb: ∀v,v<n→nn v≤N
 lo:W.heap.size≤lg∧W.heap.size≤sg∧W.heap.size≤eg∧W.heap.size≤fg∧∀v,v<n→W.heap.size≤mb v
 bel:Below W.heap.size W wr
theorem CS.on{W wr wr':World}{cb n k B lg lc sg sc eg ec bg pg fg:Nat}{mb nn:Nat→Nat}{rv:Nat→Value}{P:List Pr}{L S:List Nat}{Le:List Int}{Fi:Nat→M}{N:Nat}(h:CS W wr cb n k B lg lc sg sc eg ec bg pg fg mb nn rv P L S Le Fi N)(hb:Below wr.heap.size wr wr'):CS W wr' cb n k B lg lc sg sc eg ec bg pg fg mb nn rv P L S Le Fi N:=
 ⟨h.X.on hb,h.l.on hb,h.s.on hb,h.e.on hb,h.st,h.Ln,h.Sn,h.En,h.ct,h.fs,h.nb,h.lo,h.bel.trans (hb.mono h.bel.size)⟩
def mxLL(S:List Nat):Nat→Nat
 | 0=>S.getD 0 0
 | k+1=>max (mxLL S k) (S.getD (k+1) 0)
theorem mxL_leL(S:List Nat): ∀k j,j≤k→S.getD j 0≤mxLL S k
 | 0,j,h=>by
   obtain rfl:j=0:=by omega
   exact Nat.le_refl _
 | k+1,j,h=>by
   show _≤max (mxLL S k) (S.getD (k+1) 0)
   by_cases e:j=k+1
   ·subst e;omega
   ·have:=mxL_leL S k j (by omega);omega
theorem mxL_atL(S:List Nat): ∀k,∃j,j≤k∧mxLL S k=S.getD j 0
 | 0=>⟨0,Nat.le_refl _,rfl⟩
 | k+1=>by
   obtain⟨j,hj,e⟩:=mxL_atL S k
   show ∃j,_∧max (mxLL S k) (S.getD (k+1) 0)=_
   by_cases h:mxLL S k≤S.getD (k+1) 0
   ·exact⟨k+1,Nat.le_refl _,Nat.max_eq_right h⟩
   ·exact⟨j,by omega,by rw[Nat.max_eq_left (by omega)];exact e⟩
set_option maxHeartbeats 1600000 in
theorem max_anyL(b:Option Addr)(S:List Nat)(bc:Nat)(w:World)(hn:0<S.length)(hS:S.length≤1024)(hi:Ints w b (ints S)):
  Calls Tryz.prog 90 #[.slice b S.length bc] w fun e w'=>e= .returned (.int .i64 ((mxLL S (S.length - 1):Nat):Int))∧Below w.heap.size w w':=by
 obtain⟨ix,ox,hix⟩:=hi.get
 obtain⟨rfl,hbl,hat⟩:=hix (by rw[ints_len];exact hn)
 have HAT:Hid (∀j,j<S.length→w.cell? ⟨ix,ox+j,none⟩=some (.int .i64 ((S.getD j 0:Nat):Int))):=fun j hj=>by rw[←ints_getD hj];exact hat j (by rw[ints_len];exact hj)
 have y0:=HAT.out 0 hn
 rw[Nat.add_zero] at y0
 have HX0:Hid (mxLL S 0=S.getD 0 0):=rfl
 obtain⟨m0,HM0⟩:=named (S.getD 0 0)
 rw[HM0.out] at y0 HX0
 have hn': ¬(S.length:Int)<1:=by omega
 have hn2:(0:Int)<S.length:=by omega
 obtain⟨R,HR⟩:=named (mxLL S (S.length - 1))
 rw[HR.out]
 clear hix hat hi
 go_enter Tryz.func90,Tryz.ntmps90
 go_wp2_with fail
 clear y0
 go_loopw [3,4] (fun s3 i wr=> ∃k m:Nat,k<S.length∧s3= .int .i64 m∧i= .int .i64 ((k:Int)+1)∧Hid (mxLL S k=m)∧Hid (wr=w)) (fun _ i _=>S.length - (intOf i).toNat)
 case atStart=>exact⟨0,m0,hn,rfl,rfl,HX0,rfl⟩
 case round=>
  obtain⟨k,m,hk,rfl,rfl,HM,HW⟩:=hrel
  by_cases hlk:k+1<S.length
  ·have hlk':(k:Int)+1<S.length:=by omega
   have y0:=HAT.out (k+1) hlk
   have HNX:Hid (mxLL S (k+1)=max m (S.getD (k+1) 0)):=by show _=_;rw[←HM.out];rfl
   obtain⟨x,HX⟩:=named (S.getD (k+1) 0)
   rw[HX.out] at y0 HNX
   rw[←HW.out] at y0
   have e1:((k:Int)+1).toNat=k+1:=by omega
   have e2:(0:Int)≤(k:Int)+1:=by omega
   go_wp2_with fail
   exact⟨⟨k+1,max m x,hlk,by congr 1;omega,by simp,HNX,HW⟩,by simp[intOf];omega⟩
  ·have hlk': ¬(k:Int)+1<S.length:=by omega
   obtain rfl:R=m:=by rw[←HR.out,←HM.out];congr 1;omega
   go_wp2_with fail
   go_ret
   refine⟨rfl,?_⟩
   rw[HW.out]
   exact Below.refl _ _
def Under(W wr:World)(cb n:Nat)(L:List Nat)(P:List Pr)(B:Nat):Prop:= ∃ (k lg lc sg sc eg ec bg pg fg:Nat) (mb nn:Nat→Nat) (rv:Nat→Value) (S:List Nat) (Le:List Int) (Fi:Nat→M),CS W wr cb n k B lg lc sg sc eg ec bg pg fg mb nn rv P L S Le Fi (2*P.length)
def luE(N:Int)(l:List A)(xs:List Int)(bd:Int):Int:=if cntE N l xs≠0 then cntE N l xs else if bd<1∨1024<bd then 1 else if bd<((mxLL (szL xs) ((szL xs).length - 1):Nat):Int) then 90 else 0
theorem CQ.under{W wr:World}{cb n k lg lc sg sc eg ec bg pg fg:Nat}{mb nn:Nat→Nat}{rv:Nat→Value}{P:List Pr}{L S:List Nat}{Le:List Int}(h:CQ W wr cb n k lg lc sg sc eg ec bg pg fg mb nn rv (besd P) (cv P L) L S Le (2*P.length))(hlp:LP L n n S Le)(hk:S.length=k)(hls:lg≠sg)(hle:lg≠eg)(hse:sg≠eg)(Ln:L.length=n)(n0:0<n)(n2:n≤1024)(hPl:P.length≤8192)(htd:tdy (ints L) 0=true)(B:Nat):
  Calls Tryz.prog 130 #[.pointer (some ⟨cb,0,none⟩), .int .i64 (B:Int)] wr fun e w'=>e= .returned (.tuple #[])∧Under W w' cb n L P B:=by
 have k2:k≤1024:=by have:=hlp.lj;omega
 have k0:0<k:=by have:=hlp.lv 0 n0;omega
 have En:Le.length=k:=by rw[hlp.ll,hk]
 have st:=St.of h.X h.l h.s h.e n2 k0 k2 hls hle hse h.ra h.mj
 have hcv:=h.X.cv h.l h.s h.e Ln hk En k0 k2 (fun v hv=>by rw[←hk];exact hlp.lv v hv) (fun v y=>by have:=h.fb v y;omega)
 refine(setBound_any cb n k 0 (B:Int) lg lc sg sc eg ec bg n pg n fg n _ _ _ mb nn _ _ wr hcv h.X.ob (st.apt h.X.cp) h.X.ft n2).mono ?_
 rintro e w' ⟨Fi',rfl,hcv',hob',hft',hfst,hfr⟩
 have hS:szL (ints L)=S:=by
  have q:=hlp.s
  rw[List.take_of_length_le (by rw[ints_len];omega)] at q
  exact q
 have ct: ∀y,S.getD y 0=L.count y:=fun y=>by rw[←hS];exact sz_cntL htd y
 have hct:(fun y=>S.getD y 0)=fun y=>L.count y:=funext ct
 rw[hct] at hfst
 have o2:wr.heap[bg]? =_:=h.X.be
 have bc:bg≠cb:=fun e=>by have o1:=h.X.ob;rw[e,o1] at o2;injection o2 with o2;unfold cellsO at o2;injection o2 with _ o2 _;cases o2
 refine⟨rfl,k,lg,lc,sg,sc,eg,ec,bg,pg,fg,mb,nn,rv,S,Le,Fi',⟨hob',h.X.be.fr hfr (fun q=>q.elim bc st.fb.symm),fun v hv=>own_frL (h.X.ro v hv) hfr (fun g e q=> ?_),h.X.pa.fr hfr (fun q=>q.elim h.X.cp st.fp.symm),hcv'.mi,hft'⟩,h.l.fr hfr (fun q=>q.elim st.fl.1 st.fl.2.2.2.1),h.s.fr hfr (fun q=>q.elim st.fs.1 st.fs.2.2.2.1),h.e.fr hfr (fun q=>q.elim st.fe.1 st.fe.2.2.2.1),st,Ln,hk,En,ct,⟨by rw[List.length_map,List.length_range,Ln],fun v hv=>by rw[←hk];exact hlp.lv v (by omega),fun y hy=>by rw[Ln];exact hlp.le y (by omega),fun v hv=> ?_⟩,h.nb,⟨h.lo.2.1,h.lo.2.2.1,h.lo.2.2.2.1,h.lo.2.2.2.2,h.ml⟩,?_⟩
 ·rcases q with q | q
  ·exact own_ne (h.X.ro v hv) h.X.ob (fun cs fz e=>by unfold cellsO at e;injection e with _ e _;cases e) (by rw[e,q])
  ·exact st.fr v hv (by rw[e,q])
 ·rw[range_getD n Fi' (by omega)]
  exact hfst v (by omega)
 ·refine h.bel.trans (hfr.below h.bel.size (fun b hb=> ?_))
  rcases hb with q | q
  ·rw[q];exact h.lo.1
  ·rw[q];exact h.lo.2.2.2.2
set_option maxHeartbeats 1600000 in
theorem lookUnder_any(N:Int)(a:Option Addr)(l:List A)(cap:Nat)(b:Option Addr)(xs:List Int)(bc:Nat)(bd:Int)(w:World)(hl:l.length≤9223372036854775807)(hx:xs.length≤9223372036854775807)(hr:Arcs w a l)(hi:Ints w b xs):
  Calls Tryz.prog 97 #[.agg #[.int .i64 N, .slice a l.length cap], .slice b xs.length bc, .int .i64 bd] w fun e w'=> ∃pv:Value,e= .returned (.tuple #[pv, .int .i64 (luE N l xs bd)])∧Below w.heap.size w w'∧Hid (luE N l xs bd=0→∃ (cb:Nat) (L:List Nat) (B:Nat),pv= .pointer (some ⟨cb,0,none⟩)∧xs=ints L∧N=(L.length:Int)∧bd=(B:Int)∧chkE N l=0∧tdy (ints L) 0=true∧Under w w' cb L.length L (prl l) B):=by
 have hb0:Below w.heap.size w (w.alloc (.cells #[.int .i64 N, .slice a l.length cap] 24)):=(Below.refl _ _).alloc (Nat.le_refl _) _
 have hg:=heap_top w (.cells #[.int .i64 N, .slice a l.length cap] 24)
 have HB0:=hid hb0
 have hwz:w.heap.size≤(w.alloc (.cells #[.int .i64 N, .slice a l.length cap] 24)).heap.size:=hb0.size
 have HCK:=hid (look_anyL N a l cap b xs bc (w.alloc (.cells #[.int .i64 N, .slice a l.length cap] 24)) hl hx (hr.on hb0) (hi.on hb0))
 obtain⟨E,HE⟩:=named (cntE N l xs)
 obtain⟨V,HV⟩:=named (luE N l xs bd)
 rw[HE.out] at HCK
 rw[HV.out]
 obtain⟨⟨c0,c1⟩,_⟩:=two_cells hg
 clear hb0 hr hi hl hx
 generalize hp:w.heap.size=p at*
 go_enter Tryz.func97,Tryz.ntmps97
 go_wp2_with fail
 generalize hW:w.alloc (.cells #[.int .i64 N, .slice a l.length cap] 24)=W at*
 clear hW
 refine HCK.out.mono ?_
 rintro e w1 ⟨pv,rfl,hb1,HQ,HQ0⟩
 have HB1:Hid (Below p w w1):=HB0.out.trans (hb1.mono hwz)
 clear hb1 HCK c0 c1 hg
 by_cases hE:E≠0
 ·have e1:(E != 0)=true:=by simpa using hE
  obtain rfl:V=E:=by rw[←HV.out];unfold luE;rw[HE.out,if_pos hE]
  go_wp2_with fail
  refine bodyPost_ret (v:= .tuple #[.pointer none, .int .i64 V]) (by simp[results,Tryz.results97,go_sem]) rfl ?_
  exact⟨_,rfl,HB1.out,fun h=>absurd h hE⟩
 have hE0:E=0:=by simpa using hE
 have e1:(E != 0)=false:=by simpa using hE0
 have HE0:=hid hE0
 clear hE hE0
 have HV2:Hid ((if bd<1∨1024<bd then 1 else if bd<((mxLL (szL xs) ((szL xs).length - 1):Nat):Int) then 90 else 0)=V):=by
  show _=V
  rw[←HV.out]
  unfold luE
  rw[HE.out,HE0.out,if_neg (show ¬((0:Int)≠0) by simp)]
 obtain⟨cb,L,rfl,hxL,hNl,hLk⟩:=HQ.out HE0.out
 have HXL:=hid hxL
 have HLK:=hid hLk
 have HNL:=hid hNl
 clear hxL hLk HQ HQ0 hNl
 by_cases h1:bd<1
 ·have HVV:Hid (V=1):=by show V=1;rw[←HV2.out,if_pos (.inl h1)]
  go_wp2_with fail
  refine bodyPost_ret (v:= .tuple #[.pointer none, .int .i64 1]) (by simp[results,Tryz.results97,go_sem]) rfl ?_
  exact⟨_,by rw[HVV.out],HB1.out,fun h=>absurd (HVV.out.symm.trans h) (by decide)⟩
 by_cases h2:1024<bd
 ·have HVV:Hid (V=1):=by show V=1;rw[←HV2.out,if_pos (.inr h2)]
  go_wp2_with fail
  refine bodyPost_ret (v:= .tuple #[.pointer none, .int .i64 1]) (by simp[results,Tryz.results97,go_sem]) rfl ?_
  exact⟨_,by rw[HVV.out],HB1.out,fun h=>absurd (HVV.out.symm.trans h) (by decide)⟩
 have HV3:Hid ((if bd<((mxLL (szL xs) ((szL xs).length - 1):Nat):Int) then 90 else 0)=V):=by
  show _=V
  rw[←HV2.out,if_neg (show ¬(bd<1∨1024<bd) by omega)]
 have hz:=HE.out
 rw[HE0.out] at hz
 unfold cntE at hz
 have hc0:chkE N l=0:=by
  by_cases c:chkE N l≠0
  ·rw[if_pos c] at hz;exact hz
  ·simpa using c
 rw[if_neg (by simp[hc0])] at hz
 have hxt: ¬((xs.length:Int)≠N∨tdy xs 0=false):=fun c=>by rw[if_pos c] at hz;cases hz
 have htd:tdy (ints L) 0=true:=by cases q:tdy (ints L) 0 with
  | true=>rfl
  | false=>exact absurd (.inr (by rw[HXL.out];exact q)) hxt
 obtain⟨hN1,hN2,hll,_⟩:=chk_zero hc0
 have HC0:=hid hc0
 have HTD:=hid htd
 clear hz hxt hc0 htd
 have hNl:=HNL.out
 obtain⟨k,lg,lc,sg,sc,eg,ec,bg,pg,fg,mb,nn,rv,S,Le,hq,hlp,hk,hls,hle,hse⟩:=HLK.out
 have hS:szL xs=S:=by
  have q:=hlp.s
  rw[List.take_of_length_le (by rw[ints_len];exact Nat.le_refl _),←HXL.out] at q
  exact q
 have k0:0<S.length:=by have:=hlp.lv 0 (by omega);omega
 have k2:S.length≤1024:=by have:=hlp.lj;omega
 have c2:w1.cell? ⟨cb,2,none⟩=some (.slice (some ⟨sg,0,none⟩) S.length sc):=by rw[hk];simp[World.cell?,hq.X.ob,cellsO]
 have HMX:=hid (max_anyL (some ⟨sg,0,none⟩) S sc w1 k0 k2 (own_ints (by have q:=hq.s;unfold OwI at q;rw[ints_len] at q;exact q) rfl))
 obtain⟨mx,HMM⟩:=named (mxLL S (S.length - 1))
 rw[HMM.out] at HMX
 rw[hS,HMM.out] at HV3
 obtain⟨B,HB⟩: ∃B:Nat,Hid (bd=(B:Int)):=⟨bd.toNat,by show bd=_;omega⟩
 have HQQ:=hid (hq.base (by rw[hp];exact HB0.out))
 have HLP:=hid hlp
 have HW:=hid HV3.out
 have hmx:Hid (S.length=k):=hk
 have hL0:0<L.length∧L.length≤1024:=by omega
 clear hq hlp hS HLK k0 k2 hk hNl
 go_wp2_with fail
 refine HMX.out.mono ?_
 rintro e w2 ⟨rfl,hb2⟩
 have HQ2:=hid (HQQ.out.on hb2)
 have HB2:Hid (Below p w w2):=HB1.out.trans (hb2.mono (by rw[←hp];exact HB1.out.size))
 clear hb2 c2
 by_cases h3:bd<(mx:Int)
 ·have HVV:Hid (V=90):=by show V=90;rw[←HV3.out,if_pos h3]
  go_wp2_with fail
  refine bodyPost_ret (v:= .tuple #[.pointer none, .int .i64 90]) (by simp[results,Tryz.results97,go_sem]) rfl ?_
  exact⟨_,by rw[HVV.out],HB2.out,fun h=>absurd (HVV.out.symm.trans h) (by decide)⟩
 ·have HVV:Hid (V=0):=by show V=0;rw[←HV3.out,if_neg h3]
  have HSB:=hid (HQ2.out.under HLP.out hmx.out hls hle hse rfl hL0.1 hL0.2 (Nat.le_trans (prl_len l) hll) HTD.out B)
  have HBB:=HB.out
  rw[←HBB] at HSB
  clear HBB
  go_wp2_with fail
  refine HSB.out.mono ?_
  rintro e w3 ⟨rfl,hu⟩
  have HU:=hid hu
  have HB3:Hid (Below p w w3):=by
   obtain⟨_,_,_,_,_,_,_,_,_,_,_,_,_,_,_,_,q⟩:=hu
   rw[←hp]
   exact q.bel
  clear hu
  go_wp2_with fail
  refine bodyPost_ret (v:= .tuple #[.pointer (some ⟨cb,0,none⟩), .int .i64 0]) (by simp[results,Tryz.results97,go_sem]) rfl ?_
  exact⟨_,by rw[HVV.out],HB3.out,fun _=>⟨cb,L,B,rfl,HXL.out,HNL.out,HB.out,HC0.out,HTD.out,HU.out⟩⟩
theorem prl_ne{N:Int}{l:List A}(hc:chkE N l=0): ∀p,p∈prl l→p.a≠p.b:=fun p hp=>by
 obtain⟨_,_,_,hoa⟩:=chk_zero hc
 have:=((prl_mem (fun x hx=>⟨(hoa x hx).1.1,(hoa x hx).2.1⟩)).1 hp).1
 omega
set_option maxHeartbeats 1600000 in
theorem tidiedL_any(b:Option Addr)(L:List Nat)(bc:Nat)(w:World)(hL:L.length≤1024)(hM: ∀x,x∈L→x≤100000000)(hi:Ints w b (ints L)):
  Calls Tryz.prog 100 #[.slice b L.length bc] w fun e w'=> ∃g,e= .returned (.slice (some ⟨g,0,none⟩) L.length L.length)∧w'.ownsRow w.heap.size 3 1 (.slice (some ⟨g,0,none⟩) (tdL L).length L.length) (tdL L).length (cellsI (ints (tdL L)))∧Below w.heap.size w w':=by
 obtain⟨i3,hi3,hz3,hs3,hb3⟩:=info_parts info3
 have hmk: ∀w,(Instr.makeSlice 25 (.int .i64 L.length) (.int .i64 L.length)).run Tryz.prog w= .ok (.slice (some ⟨w.heap.size,0,none⟩) L.length L.length) (w.alloc (.cells ((List.range L.length).map (fun _=>Value.int .i64 0)).toArray 3)):=fun w=>by
  have:=run_make (P:=Tryz.prog) w 25 3 i3 (.int .i64 0) Tryz.underlying25 hi3 hz3 .i64 .i64 L.length L.length (by omega) (by omega) (by rw[hb3];omega) (by omega)
  rw[this,Int.toNat_natCast,hs3,made_int]
 clear hi3 hz3 hs3 hb3
 clear i3
 have hmm:= @run_makeMap Tryz.prog
 obtain⟨ix,ox,hix⟩:=hi.get
 have HIX:=hid hix
 have HMX:=hid hM
 clear hix hi hM
 generalize hp:w.heap.size=p at*
 have HT0:Hid (TbV ((w.alloc (.cells ((List.range L.length).map (fun _=>Value.int .i64 0)).toArray 3)).alloc (.map #[] 0)) p L.length 3 (fun v=> .int .i64 (((if v<0 then T3.lab (ldI (ints L)) v else 0:Nat)):Int))):=by
  have h:=heap_top w (.cells ((List.range L.length).map (fun _=>Value.int .i64 0)).toArray 3)
  rw[hp] at h
  have h2:=(Below.heap_alloc (w.alloc (.cells ((List.range L.length).map (fun _=>Value.int .i64 0)).toArray 3)) (.map #[] 0) p (lt_of_block h)).trans h
  exact TbV.congr (show TbV _ p L.length 3 (fun _=> .int .i64 0) from h2) (fun v _=>by simp)
 have HM0:Hid (MapN ((w.alloc (.cells ((List.range L.length).map (fun _=>Value.int .i64 0)).toArray 3)).alloc (.map #[] 0)) (p+1) 0 L 0):=by
  have h:=MapN.made (w.alloc (.cells ((List.range L.length).map (fun _=>Value.int .i64 0)).toArray 3)) L
  rw[World.size_alloc,hp] at h
  exact h
 have HB0:Hid (Below p w ((w.alloc (.cells ((List.range L.length).map (fun _=>Value.int .i64 0)).toArray 3)).alloc (.map #[] 0))):=((Below.refl _ _).alloc (by omega) _).alloc (by simp;omega) _
 go_enter Tryz.func100,Tryz.ntmps100
 go_wp2_with fail
 generalize hU:(w.alloc (.cells ((List.range L.length).map (fun _=>Value.int .i64 0)).toArray 3)).alloc (.map #[] 0)=U at*
 clear hU hmk hmm
 go_loopw [15] (fun i wr=> ∃k:Nat,k≤L.length∧i= .int .i64 k∧Hid (MapN wr (p+1) k L k)∧Hid (TbV wr p L.length 3 (fun v=> .int .i64 (((if v<k then T3.lab (ldI (ints L)) v else 0:Nat)):Int)))∧Hid (Below p w wr)) (fun i _=>L.length - (intOf i).toNat)
 case atStart=>exact⟨0,Nat.zero_le _,rfl,HM0,HT0,HB0⟩
 case round=>
  obtain⟨k,hk,rfl,HMR,HTR,HBR⟩:=hrel
  by_cases hlk:k<L.length
  ·obtain⟨rfl,hbl,hat⟩:=HIX.out (by rw[ints_len];omega)
   have hlk':(k:Int)<L.length:=by omega
   have y0:=(HBR.out.cell (p:=⟨ix,ox+k,none⟩) (hp▸hbl)).trans (hat k (by rw[ints_len];exact hlk))
   rw[ints_getD hlk] at y0
   have hx:L.getD k 0≤100000000:=HMX.out _ (by simp[List.getD,List.getElem?_eq_getElem hlk])
   obtain⟨D,hown,hsize,hseen,hnew⟩:=HMR.out
   have HOW:=hid hown
   have d2:=HTR.out.free k
   obtain⟨x,HX⟩:=named (L.getD k 0)
   rw[HX.out] at y0 hx
   have HKX:Hid (keyOf Tryz.prog 3 (.int .i64 (x:Int))=some (.int .i64 (x:Int))):=keyOf_int_mk Tryz.underlying3 (wfN (by omega))
   clear hat HMR
   by_cases hs: ∃v,v<k∧L.getD v 0=x
   ·obtain⟨v,hv1,hv2⟩:=hs
    obtain⟨h1,h2⟩:=hseen v hv1
    rw[hv2] at h1 h2
    obtain⟨h3,h4⟩:=ld_seen hv1 hlk (hv2.trans HX.out.symm)
    rw[←h3] at h2
    have HAT:=hid h2
    have HHS:=hid h1
    have hll:T3.lab (ldI (ints L)) k≤1024:=Nat.le_trans (T3.cnt_le _ _) (Nat.le_trans (ldI_le _ _) (by omega))
    have HMK:Hid (MapN wr (p+1) (k+1) L (k+1)):=⟨D,by obtain⟨es,ck,g1,g2,g3,g4⟩:=hown;exact⟨es,ck,g1,g2,by omega,g4⟩,by rw[h4];exact hsize,fun u hu=>by
      by_cases e:u=k
      ·subst e;rw[HX.out];exact⟨h1,h2⟩
      ·exact hseen u (by omega),fun y hy=>hnew y (fun u hu=>hy u (by omega))⟩
    obtain⟨z,HZ⟩:=named (T3.lab (ldI (ints L)) k)
    rw[HZ.out] at HAT hll
    have HTK:Hid (TbV (wr.setCell ⟨p,k,none⟩ (.int .i64 (z:Int))) p L.length 3 (fun v=> .int .i64 (((if v<k+1 then T3.lab (ldI (ints L)) v else 0:Nat)):Int))):=(HTR.out.set k (.int .i64 (z:Int))).congr (fun u _=>by
     by_cases e:u=k
     ·subst e;rw[updV_self,if_pos (by omega),HZ.out]
     ·rw[updV_ne _ _ e]
      by_cases e2:u<k
      ·rw[if_pos e2,if_pos (by omega)]
      ·rw[if_neg e2,if_neg (by omega)])
    have d1:=HTR.out.cell hlk
    generalize (if k<k then T3.lab (ldI (ints L)) k else 0:Nat)=old at d1
    clear hown hsize hseen hnew h1 h2 h3 h4 hv1 hv2
    go_wp2_with (at_lookup;refine wpList_lookup_own_ok_int _ rfl _ _ 171 rfl 3 3 .i64 law3 Tryz.underlying171 Tryz.underlying3 (zero3 _) (p+1) k D rfl HOW.out _ (.int .i64 (x:Int)) rfl HKX.out ?_;intro c hat hwc;rw[HAT.out] at hat;obtain rfl:c=(z:Int):=(by injection hat with h;injection h with _ h;exact h.symm);rw[HHS.out];clear hat hwc)
    refine⟨⟨k+1,by omega,by simp,?_,HTK,hid (HBR.out.setCell (Nat.le_refl _) _)⟩,by simp[intOf];omega⟩
    obtain⟨D',g1,g2⟩:=HMK.out
    exact⟨D',g1.setCell (by show p+1≠p;omega) _,g2⟩
   ·have hs': ∀v,v<k→L.getD v 0≠x:=fun v hv e=>hs ⟨v,hv,e⟩
    have HHS:=hid (hnew x hs')
    obtain⟨h3,h4⟩:=ld_new hlk (fun v hv=>by rw[HX.out];exact hs' v hv)
    have HSZ:Hid (Maps.size D=T3.lab (ldI (ints L)) k):=hsize.trans h3.symm
    have hll:T3.lab (ldI (ints L)) k≤1024:=Nat.le_trans (T3.cnt_le _ _) (Nat.le_trans (ldI_le _ _) (by omega))
    have HAT:=hid (atKey_of_not_has HHS.out (.lit (.int .i64 0)))
    obtain⟨z,HZ⟩:=named (T3.lab (ldI (ints L)) k)
    rw[HZ.out] at HSZ hll
    have hkl:WideAt.IsKeyLit (Lit.int .i64 (x:Int)):=law3.key HKX.out
    have hTD:=hown.tidy law3
    have HPU:Hid (Maps.size (D.put (.int .i64 (x:Int)) (.lit (.int .i64 (z:Int))))=T3.cnt (ldI (ints L)) (k+1)∧(∀v,v<k+1→has (D.put (.int .i64 (x:Int)) (.lit (.int .i64 (z:Int)))) (.int .i64 ((L.getD v 0:Nat):Int))=true∧(D.put (.int .i64 (x:Int)) (.lit (.int .i64 (z:Int)))).atKey (.int .i64 ((L.getD v 0:Nat):Int)) (.lit (.int .i64 0))= .lit (.int .i64 ((T3.lab (ldI (ints L)) v:Nat):Int)))∧∀y:Nat,(∀v,v<k+1→L.getD v 0≠y)→has (D.put (.int .i64 (x:Int)) (.lit (.int .i64 (z:Int)))) (.int .i64 (y:Int))=false):=by
     refine⟨?_,fun v hv=> ?_,fun y hy=> ?_⟩
     ·rw[size_put hTD,HHS.out,h4,←hsize];rfl
     ·by_cases e:v=k
      ·subst e
       rw[HX.out,HZ.out]
       exact⟨has_put_same hown.isMap hkl _,atKey_put_same hown.isMap hkl _ _⟩
      ·have hne:Lit.int .i64 ((L.getD v 0:Nat):Int)≠Lit.int .i64 (x:Int):=fun e2=>hs' v (by omega) (by injection e2 with _ e3;omega)
       rw[has_put_other hne,atKey_put_other hne]
       exact hseen v (by omega)
     ·have hne:Lit.int .i64 (y:Int)≠Lit.int .i64 (x:Int):=fun e2=>hy k (by omega) (by rw[HX.out];injection e2 with _ e3;omega)
      rw[has_put_other hne]
      exact hnew y (fun v hv=>hy v (by omega))
    have d1:=HTR.out.cell hlk
    generalize (if k<k then T3.lab (ldI (ints L)) k else 0:Nat)=old at d1
    have HOB:Hid (∀w8,w8.ownsMap Tryz.prog 3 (plainElem (H:=Unit) Tryz.prog 3) (p+1) (k+1) (D.put (.int .i64 (x:Int)) (.lit (.int .i64 (z:Int))))→MapN w8 (p+1) (k+1) L (k+1)):=fun w8 h=>⟨_,h,HPU.out⟩
    clear hown hsize hseen hnew h3 h4 hs hs' hkl hTD HPU
    go_wp2_with (first | (at_lookup;refine wpList_lookup_own_ok_int _ rfl _ _ 171 rfl 3 3 .i64 law3 Tryz.underlying171 Tryz.underlying3 (zero3 _) (p+1) k D rfl HOW.out _ (.int .i64 (x:Int)) rfl HKX.out ?_;intro c hat hwc;rw[HAT.out] at hat;obtain rfl:c=(0:Int):=(by injection hat with h;injection h with _ h;exact h.symm);rw[HHS.out];clear hat hwc) | (at_len;refine wpList_len_own _ rfl _ 171 rfl 3 3 Tryz.underlying171 _ (p+1) k D rfl HOW.out ?_;rw[HSZ.out]) | (at_mapUpdate;refine wpList_mapUpdate_own _ rfl _ _ _ 171 rfl 3 3 law3 Tryz.underlying171 (plainElem (H:=Unit) Tryz.prog 3) (p+1) k D rfl HOW.out (by unfold maxLen;omega) _ _ (.int .i64 (x:Int)) rfl rfl HKX.out (.lit (.int .i64 (z:Int))) [] (plainElem_int Tryz.underlying3 (wfN (by omega))) ?_;intro w8 hown8 hgrow8;have HM8:=hid (HOB.out w8 hown8);have HT8:Hid (TbV w8 p L.length 3 (fun v=> .int .i64 (((if v<k then T3.lab (ldI (ints L)) v else 0:Nat)):Int))):=HTR.out.same (hgrow8.block p HTR.out.lt (by simp));have HB8:Hid (Below p w w8):=HBR.out.grown hgrow8 (hp▸HBR.out.size) (by intro j hj;injection hj with hj;omega);have d8:=HT8.out.cell hlk;have f8:=HT8.out.free k;clear hown8 hgrow8))
    refine⟨⟨k+1,by omega,by simp,?_,?_,hid (HB8.out.setCell (Nat.le_refl _) _)⟩,by simp[intOf];omega⟩
    ·obtain⟨D',g1,g2⟩:=HM8.out
     exact⟨D',g1.setCell (by show p+1≠p;omega) _,g2⟩
    ·refine(HT8.out.set k (.int .i64 (z:Int))).congr (fun u _=> ?_)
     by_cases e:u=k
     ·subst e;rw[updV_self,if_pos (by omega),HZ.out]
     ·rw[updV_ne _ _ e]
      by_cases e2:u<k
      ·rw[if_pos e2,if_pos (by omega)]
      ·rw[if_neg e2,if_neg (by omega)]
  ·obtain rfl:k=L.length:=by omega
   have hlk': ¬(L.length:Int)<L.length:=by omega
   have HO:Hid (wr.ownsRow p 3 1 (.slice (some ⟨p,0,none⟩) L.length L.length) L.length (cellsI (ints ((List.range L.length).map (T3.lab (ldI (ints L))))))):=tb_own (HTR.out.congr (fun v hv=>by rw[if_pos hv])) (Nat.le_refl _) (by omega)
   go_wp2_with fail
   go_ret
   refine⟨p,rfl,?_,HBR.out⟩
   rw[tdL_len]
   exact HO.out
end Go.Proofs.YtmenajiceaicpaaGreat
