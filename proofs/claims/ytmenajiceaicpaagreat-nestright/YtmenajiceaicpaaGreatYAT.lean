import Derived.Test.YtmenajiceaicpaaGreatYAS
open Go.Lib (hid)
namespace Go.Proofs.YtmenajiceaicpaaGreat
open Go.RowKit Go.Maps
theorem fr_of{D:Nat→Prop}{w w':World}(hb:Below w.heap.size w w'):Fr D w w':=⟨hb.os,hb.tape,hb.output,hb.size,fun j hj _=>hb.block j hj⟩
theorem fr_cell(w:World)(g j:Nat)(u:Value):Fr (fun b=>b=g) w (w.setCell ⟨g,j,none⟩ u):=(Fr.refl _ _).setCell _ _ rfl
theorem CX.cell{w:World}{cb n k:Nat}{bd:Int}{lg lc sg sc eg ec bg pg fg:Nat}{mb nn:Nat→Nat}{rv:Nat→Value}{R:Nat→List Nat}{F:Nat→Nat→Nat}{Fi:Nat→M}(h:CX w cb n k bd lg lc sg sc eg ec bg pg fg mb nn rv R F Fi){g:Nat}(hg:Far cb n bg pg fg mb rv g)(j:Nat)(u:Value):CX (w.setCell ⟨g,j,none⟩ u) cb n k bd lg lc sg sc eg ec bg pg fg mb nn rv R F Fi:=
 h.fr (fr_cell w g j u) (fun e=>hg.1 e.symm) (fun e=>hg.2.1 e.symm) (fun e=>hg.2.2.1 e.symm) (fun e=>hg.2.2.2.1 e.symm) (fun v hv=>(hg.2.2.2.2 v hv).1) (fun v hv g' e e2=>(hg.2.2.2.2 v hv).2 (by rw[e,e2]))
theorem OwI.far{w:World}{g c:Nat}{l:List Int}(h:OwI w g c l){g':Nat}(hg:g≠g')(j:Nat)(u:Value):OwI (w.setCell ⟨g',j,none⟩ u) g c l:=h.fr (fr_cell w g' j u) hg
def CoD(n lg sg eg fg:Nat)(mb:Nat→Nat)(b:Nat):Prop:=b=lg∨b=sg∨b=eg∨b=fg∨∃v,v<n∧b=mb v
structure CA(w0 w:World)(p v x:Nat)(gg:Int)(cb n k:Nat)(bd:Int)(lg lc sg sc eg ec bg pg fg:Nat)(mb nn:Nat→Nat)(rv:Nat→Value)(R:Nat→List Nat)(F:Nat→Nat→Nat)(Fi:Nat→M)(L S:List Nat)(Le:List Int):Prop where
 g:w.heap[p]? =some (.cells #[.int .i64 (v:Int), .int .i64 (x:Int), .int .i64 gg] 136)
 X:CX w cb n k bd lg lc sg sc eg ec bg pg fg mb nn rv R F Fi
 l:OwI w lg lc (ints L)
 s:OwI w sg sc (ints S)
 e:OwI w eg ec Le
 f:Fr (CoD n lg sg eg fg mb) w0 w
theorem CA.on{w0 w:World}{p v x:Nat}{gg:Int}{cb n k:Nat}{bd:Int}{lg lc sg sc eg ec bg pg fg:Nat}{mb nn:Nat→Nat}{rv:Nat→Value}{R:Nat→List Nat}{F:Nat→Nat→Nat}{Fi:Nat→M}{L S:List Nat}{Le:List Int}{w':World}(h:CA w0 w p v x gg cb n k bd lg lc sg sc eg ec bg pg fg mb nn rv R F Fi L S Le)(hb:Below w.heap.size w w'):CA w0 w' p v x gg cb n k bd lg lc sg sc eg ec bg pg fg mb nn rv R F Fi L S Le:=
 ⟨(hb.block p (lt_of_block h.g)).trans h.g,h.X.on hb,h.l.on hb,h.s.on hb,h.e.on hb,h.f.trans (fr_of hb)⟩
theorem CA.setL{w0 w:World}{p v x:Nat}{gg:Int}{cb n k:Nat}{bd:Int}{lg lc sg sc eg ec bg pg fg:Nat}{mb nn:Nat→Nat}{rv:Nat→Value}{R:Nat→List Nat}{F:Nat→Nat→Nat}{Fi:Nat→M}{L S:List Nat}{Le:List Int}(h:CA w0 w p v x gg cb n k bd lg lc sg sc eg ec bg pg fg mb nn rv R F Fi L S Le)(st:St cb n k lg sg eg bg pg fg mb rv)(hp:p≠lg)(j y:Nat):CA w0 (w.setCell ⟨lg,j,none⟩ (.int .i64 (y:Int))) p v x gg cb n k bd lg lc sg sc eg ec bg pg fg mb nn rv R F Fi (L.set j y) S Le:=
 ⟨(Below.heap_setCell _ _ _ _ hp).trans h.g,h.X.cell st.fl j _,by rw[←ints_set];exact h.l.set j y,h.s.far st.ls.symm j _,h.e.far st.le.symm j _,h.f.setCell _ _ (.inl rfl)⟩
theorem CA.setS{w0 w:World}{p v x:Nat}{gg:Int}{cb n k:Nat}{bd:Int}{lg lc sg sc eg ec bg pg fg:Nat}{mb nn:Nat→Nat}{rv:Nat→Value}{R:Nat→List Nat}{F:Nat→Nat→Nat}{Fi:Nat→M}{L S:List Nat}{Le:List Int}(h:CA w0 w p v x gg cb n k bd lg lc sg sc eg ec bg pg fg mb nn rv R F Fi L S Le)(st:St cb n k lg sg eg bg pg fg mb rv)(hp:p≠sg)(j y:Nat):CA w0 (w.setCell ⟨sg,j,none⟩ (.int .i64 (y:Int))) p v x gg cb n k bd lg lc sg sc eg ec bg pg fg mb nn rv R F Fi L (S.set j y) Le:=
 ⟨(Below.heap_setCell _ _ _ _ hp).trans h.g,h.X.cell st.fs j _,h.l.far st.ls j _,by rw[←ints_set];exact h.s.set j y,h.e.far st.se.symm j _,h.f.setCell _ _ (.inr (.inl rfl))⟩
theorem CA.setE{w0 w:World}{p v x:Nat}{gg:Int}{cb n k:Nat}{bd:Int}{lg lc sg sc eg ec bg pg fg:Nat}{mb nn:Nat→Nat}{rv:Nat→Value}{R:Nat→List Nat}{F:Nat→Nat→Nat}{Fi:Nat→M}{L S:List Nat}{Le:List Int}(h:CA w0 w p v x gg cb n k bd lg lc sg sc eg ec bg pg fg mb nn rv R F Fi L S Le)(st:St cb n k lg sg eg bg pg fg mb rv)(hp:p≠eg)(j:Nat)(y:Int):CA w0 (w.setCell ⟨eg,j,none⟩ (.int .i64 y)) p v x gg cb n k bd lg lc sg sc eg ec bg pg fg mb nn rv R F Fi L S (Le.set j y):=
 ⟨(Below.heap_setCell _ _ _ _ hp).trans h.g,h.X.cell st.fe j _,h.l.far st.le j _,h.s.far st.se j _,h.e.set j y,h.f.setCell _ _ (.inr (.inr (.inl rfl)))⟩
def setAt{α:Type}(F:Nat→α)(u:Nat)(a:α)(t:Nat):α:=if t=u then a else F t
theorem setAt_same{α:Type}(F:Nat→α)(u:Nat)(a:α):setAt F u a u=a:=by simp[setAt]
theorem setAt_ne{α:Type}(F:Nat→α){u t:Nat}(a:α)(h:t≠u):setAt F u a t=F t:=by simp[setAt,h]
theorem CA.map{w0 w:World}{p v x:Nat}{gg:Int}{cb n k:Nat}{bd:Int}{lg lc sg sc eg ec bg pg fg:Nat}{mb nn:Nat→Nat}{rv:Nat→Value}{R:Nat→List Nat}{F:Nat→Nat→Nat}{Fi:Nat→M}{L S:List Nat}{Le:List Int}{w':World}{u c:Nat}{f:Nat→Nat}(h:CA w0 w p v x gg cb n k bd lg lc sg sc eg ec bg pg fg mb nn rv R F Fi L S Le)(st:St cb n k lg sg eg bg pg fg mb rv)(hu:u<n)(hf:Fr (fun b=>b=mb u) w w')(hm:MapI w' (mb u) c k f):CA w0 w' p v x gg cb n k bd lg lc sg sc eg ec bg pg fg mb (setAt nn u c) rv R (setAt F u f) Fi L S Le:=by
 have hmc:=st.mc u hu
 have hpm:p≠mb u:=((h.X.mi u hu).ne h.g).symm
 have hf2:Fr (CoD n lg sg eg fg mb) w w':=hf.imp (fun b e=> .inr (.inr (.inr (.inr ⟨u,hu,e⟩))))
 refine⟨(hf.block p (lt_of_block h.g) hpm).trans h.g,⟨(hf.block cb (lt_of_block h.X.ob) hmc.1.symm).trans h.X.ob,h.X.be.fr hf hmc.2.1.symm,fun t ht=>own_frL (h.X.ro t ht) hf (fun g e e2=>hmc.2.2.2.2 t ht (by rw[e,e2])),h.X.pa.fr hf hmc.2.2.1.symm,fun t ht=> ?_,TbV.fr h.X.ft hf hmc.2.2.2.1.symm⟩,h.l.fr hf (st.fl.2.2.2.2 u hu).1.symm,h.s.fr hf (st.fs.2.2.2.2 u hu).1.symm,h.e.fr hf (st.fe.2.2.2.2 u hu).1.symm,h.f.trans hf2⟩
 by_cases e:t=u
 ·subst e
  rw[setAt_same,setAt_same]
  exact hm
 ·rw[setAt_ne _ _ e,setAt_ne _ _ e]
  exact(h.X.mi t ht).fr hf (fun e2=>e (st.mj t u ht hu e2))
theorem take_next{l:List Nat}{i:Nat}(h:i<l.length):l.take (i+1)=l.take i++[l.getD i 0]:=by
 rw[List.take_add_one]
 simp[List.getD,h]
theorem count_take{l:List Nat}{i:Nat}(h:i<l.length):(l.take i).count (l.getD i 0)+1≤l.count (l.getD i 0):=by
 have e:((l.take (i+1)).count (l.getD i 0))≤l.count (l.getD i 0):=(List.take_sublist _ _).count_le _
 rw[take_next h,List.count_append] at e
 simp at e
 exact e
set_option maxRecDepth 100000 in
set_option maxHeartbeats 1600000 in
theorem carryOut_any(cb n k:Nat)(bd:Int)(lg lc sg sc eg ec bg pg fg:Nat)(mb nn:Nat→Nat)(rv:Nat→Value)(R:Nat→List Nat)(F:Nat→Nat→Nat)(Fi:Nat→M)(L S:List Nat)(Le:List Int)(v x N fm:Nat)(gg:Int)(w:World)
  (hX:CX w cb n k bd lg lc sg sc eg ec bg pg fg mb nn rv R F Fi) (hl:OwI w lg lc (ints L)) (hs:OwI w sg sc (ints S)) (he:OwI w eg ec Le) (st:St cb n k lg sg eg bg pg fg mb rv) (Ln:L.length=n) (Sn:S.length=k) (En:Le.length=k) (lb: ∀v,v<n→L.getD v 0<k) (hv:v<n) (hx:x<k) (hfm:L.getD v 0=fm) (hne:x≠fm) (hS1:1≤S.getD fm 0) (hS2: ∀y,S.getD y 0≤1024) (hR: ∀u,u∈R v→u<n) (hRl:(R v).length≤8192) (hRc: ∀u,(R v).count u≤F u fm) (hF: ∀t y,F t y≤1000000) (hnn: ∀u,u<n→nn u≤N) (hN:N+16384<maxLen):
  Calls Tryz.prog 99 #[.pointer (some ⟨cb,0,none⟩),(⟨v,x,gg⟩:M).val] w fun e w'=>e= .returned (.tuple #[])∧∃ (nn':Nat→Nat) (Fi':Nat→M) (r:Int),LstAt (fun u=>(L.set v x).getD u 0) n fm r∧CX w' cb n k bd lg lc sg sc eg ec bg pg fg mb nn' rv R (mvF F (R v) x fm) Fi'∧OwI w' lg lc (ints (L.set v x))∧OwI w' sg sc (ints ((S.set fm (S.getD fm 0 - 1)).set x (S.getD x 0+1)))∧OwI w' eg ec ((Le.set fm r).set x (min (Le.getD x 0) v))∧(∀u,u<n→nn' u≤N+16384)∧(∀u,u<n→Agn k bd (fun u=>(L.set v x).getD u 0) (fun y=>((S.set fm (S.getD fm 0 - 1)).set x (S.getD x 0+1)).getD y 0) (fun y=>((Le.set fm r).set x (min (Le.getD x 0) v)).getD y 0) (mvF F (R v) x fm) fm x Fi Fi' u)∧Fr (CoD n lg sg eg fg mb) w w':=by
 have hb0:Below w.heap.size w (w.alloc (M.obj ⟨v,x,gg⟩)):=(Below.refl _ _).alloc (Nat.le_refl _) _
 have HG0:=hid (heap_top w (M.obj ⟨v,x,gg⟩))
 have HA:Hid (CA w (w.alloc (M.obj ⟨v,x,gg⟩)) w.heap.size v x gg cb n k bd lg lc sg sc eg ec bg pg fg mb nn rv R F Fi L S Le):=⟨HG0.out,hX.on hb0,hl.on hb0,hs.on hb0,he.on hb0,fr_of hb0⟩
 have hv':(v:Int)<n:=by omega
 have hx':(x:Int)<k:=by omega
 have hfk:fm<k:=by rw[←hfm];exact lb v hv
 have hfk':(fm:Int)<k:=by omega
 have hcl:w.heap.size≠cb:=Nat.ne_of_gt (lt_of_block hX.ob)
 have hll:w.heap.size≠lg:=Nat.ne_of_gt hl.lt
 have hsl:w.heap.size≠sg:=Nat.ne_of_gt hs.lt
 have hel:w.heap.size≠eg:=Nat.ne_of_gt he.lt
 have HST:=hid st
 have HLB:=hid lb
 have HFM:=hid hfm
 have hk2:=st.k2
 have hn2:=st.n2
 obtain⟨sf,HSF⟩:=named (S.getD fm 0)
 have hsf:=hS2 fm
 obtain⟨sx,HSX⟩:=named (S.getD x 0)
 have hsx:=hS2 x
 rw[HSF.out] at hS1 hsf
 rw[HSX.out] at hsx
 rw[HSF.out,HSX.out]
 obtain⟨lx,HLX⟩:=named (Le.getD x 0)
 rw[HLX.out]
 obtain⟨mn,hmn⟩: ∃y:Int,(if (v:Int)<lx then (v:Int) else lx)=y:=⟨_,rfl⟩
 have HMN:Hid (min lx (v:Int)=mn):=by
  show min lx (v:Int)=mn
  rw[←hmn]
  by_cases c:(v:Int)<lx
  ·rw[if_pos c];omega
  ·rw[if_neg c];omega
 rw[HMN.out]
 have HRC:=hid hRc
 have HR:=hid hR
 have HFB:=hid hF
 have HNN:=hid hnn
 have HN:=hid hN
 clear hX hl hs he hb0 st lb hfm hR hRc hF hnn hN hS2
 have HMV:Hid ((⟨v,x,gg⟩:M).val= .agg #[.int .i64 (v:Int), .int .i64 (x:Int), .int .i64 gg]):=rfl
 have HMO:Hid (M.obj ⟨v,x,gg⟩= .cells #[.int .i64 (v:Int), .int .i64 (x:Int), .int .i64 gg] 136):=rfl
 rw[HMV.out]
 rw[HMO.out] at HA
 clear HMV HMO HG0
 generalize hp:w.heap.size=p at*
 go_enter Tryz.func99,Tryz.ntmps99
 go_wp2_with fail
 try rw[hp]
 generalize hW:w.alloc (.cells #[.int .i64 (v:Int), .int .i64 (x:Int), .int .i64 gg] 136)=W at*
 clear hW
 obtain⟨m0,m1,m2⟩:=three_cells HA.out.g
 have c1:=(cellsO_hd HA.out.X.ob HA.out.l.lt HA.out.s.lt HA.out.e.lt HA.out.X.pa.lt).c1
 have d1:=HA.out.l.cell (k:=v) (by rw[ints_len];omega)
 rw[getD_ints,HFM.out] at d1
 go_quiet (fail)
 have HA1:=hid (HA.out.on (below_drewN _ W nq))
 clear m0 m1 m2 c1 d1 HA
 generalize hW:W.drewN nq=W1 at*
 clear hW W
 obtain⟨m0,m1,m2⟩:=three_cells HA1.out.g
 have c1:=(cellsO_hd HA1.out.X.ob HA1.out.l.lt HA1.out.s.lt HA1.out.e.lt HA1.out.X.pa.lt).c1
 have d1:=HA1.out.l.cell (k:=v) (by rw[ints_len];omega)
 rw[getD_ints,HFM.out] at d1
 have f1:=HA1.out.l.free v
 go_wp2_with fail
 go_region
 have HA2:=hid ((HA1.out.setL HST.out hll v x).on (below_drewN _ _ 1))
 clear m0 m1 m2 c1 d1 f1 HA1
 generalize hW:(W1.setCell {block:=lg,off:=v} (Value.int IntKind.i64 (x:Int))).drew=W2 at*
 replace HA2:Hid (CA w W2 p v x gg cb n k bd lg lc sg sc eg ec bg pg fg mb nn rv R F Fi (L.set v x) S Le):=by rw[←hW];exact HA2
 clear hW W1
 have c2:=(cellsO_hd HA2.out.X.ob HA2.out.l.lt HA2.out.s.lt HA2.out.e.lt HA2.out.X.pa.lt).c2
 have d2:=HA2.out.s.cell (k:=fm) (by rw[ints_len];omega)
 rw[getD_ints,HSF.out] at d2
 have f2:=HA2.out.s.free fm
 have hw1:IntKind.i64.wrap ((sf:Int) - 1)=((sf - 1:Nat):Int):=by rw[IntKind.wrap_i64];omega
 go_wp2_with fail
 have HA3:=hid (HA2.out.setS HST.out hsl fm (sf - 1))
 clear c2 d2 f2 hw1 HA2
 generalize hW:W2.setCell {block:=sg,off:=fm} (Value.int IntKind.i64 ((sf - 1:Nat):Int))=W3 at*
 clear hW W2
 obtain⟨m0,m1,m2⟩:=three_cells HA3.out.g
 have c2:=(cellsO_hd HA3.out.X.ob HA3.out.l.lt HA3.out.s.lt HA3.out.e.lt HA3.out.X.pa.lt).c2
 have d2:=HA3.out.s.cell (k:=x) (by rw[ints_len,List.length_set];omega)
 rw[getD_ints,getD_setN' (by omega),if_neg hne,HSX.out] at d2
 have f2:=HA3.out.s.free x
 have hw1:IntKind.i64.wrap ((sx:Int)+1)=((sx+1:Nat):Int):=by rw[IntKind.wrap_i64];omega
 go_region
 have HA4:=hid ((HA3.out.setS HST.out hsl x (sx+1)).on (below_drewN _ _ 1))
 clear m0 m1 m2 c2 d2 f2 hw1 HA3
 generalize hW:(W3.setCell {block:=sg,off:=x} (Value.int IntKind.i64 ((sx:Int)+1))).drew=W4 at*
 replace HA4:Hid (CA w W4 p v x gg cb n k bd lg lc sg sc eg ec bg pg fg mb nn rv R F Fi (L.set v x) ((S.set fm (sf - 1)).set x (sx+1)) Le):=by rw[←hW];exact HA4
 clear hW W3
 have c1:=(cellsO_hd HA4.out.X.ob HA4.out.l.lt HA4.out.s.lt HA4.out.e.lt HA4.out.X.pa.lt).c1
 have c3:=(cellsO_hd HA4.out.X.ob HA4.out.l.lt HA4.out.s.lt HA4.out.e.lt HA4.out.X.pa.lt).c3
 have d3:=HA4.out.e.cell (k:=fm) (by omega)
 have f3:=HA4.out.e.free fm
 have HCO:Hid (Calls Tryz.prog 131 #[.slice (some ⟨lg,0,none⟩) n lc, .int .i64 fm] W4.drew fun e w'=> ∃r:Int,e= .returned (.int .i64 r)∧LstAt (fun u=>(L.set v x).getD u 0) n fm r∧w'=W4.drew):=index_any lg n lc fm (fun u=>(L.set v x).getD u 0) W4.drew (fun u hu=>by
  have h:=HA4.out.l.cell (k:=u) (by rw[ints_len,List.length_set];omega)
  rw[getD_ints] at h
  exact h) (by omega)
 generalize Le.getD fm 0=lf at d3
 have hec:=HST.out.fe.1
 have hec2:=hec.symm
 go_wp2_with fail
 go_region_held3 (fun w'=>w'.cell? ⟨cb,1,none⟩=some (.slice (some ⟨lg,0,none⟩) n lc)∧w'.cell? ⟨cb,3,none⟩=some (.slice (some ⟨eg,0,none⟩) k ec)) (go_keep) ((go_at_call 131;refine HCO.out.mono ?_;rintro e w2 ⟨r,rfl,HLA,rfl⟩))
 have HA5:=hid ((HA4.out.setE HST.out hel fm r).on (below_drewN _ _ 1))
 have HLR:=hid HLA
 clear c1 c3 d3 f3 HA4 HCO lf HLA
 generalize hW:(W4.setCell {block:=eg,off:=fm} (Value.int IntKind.i64 r)).drew=W5 at*
 replace HA5:Hid (CA w W5 p v x gg cb n k bd lg lc sg sc eg ec bg pg fg mb nn rv R F Fi (L.set v x) ((S.set fm (sf - 1)).set x (sx+1)) (Le.set fm r)):=by rw[←hW];exact HA5
 clear hW W4
 obtain⟨m0,m1,m2⟩:=three_cells HA5.out.g
 have c3:=(cellsO_hd HA5.out.X.ob HA5.out.l.lt HA5.out.s.lt HA5.out.e.lt HA5.out.X.pa.lt).c3
 have d3:=HA5.out.e.cell (k:=x) (by rw[List.length_set];omega)
 have q3:(Le.set fm r).getD x 0=Le.getD x 0:=by
  unfold List.getD
  rw[List.getElem?_set_ne (fun e=>hne e.symm)]
 rw[q3] at d3
 clear q3
 have f3:=HA5.out.e.free x
 rw[HLX.out] at d3
 have hmn2:min lx (v:Int)=mn:=HMN.out
 go_wp2_with fail
 refine wp_region_last (S:=fun w'=>w'.cell? ⟨cb,3,none⟩=some (.slice (some ⟨eg,0,none⟩) k ec)∧w'.cell? ⟨p,0,none⟩=some (.int .i64 (v:Int))∧w'.cell? ⟨p,1,none⟩=some (.int .i64 (x:Int))∧w'.cell? ⟨eg,x,none⟩=some (.int .i64 lx)) 18 _ (by kernel_rfl) (by kernel_rfl) rfl _ rfl ?_ (fun hHeld=> ?_)
 ·go_keep
 simp only[idled,List.modify_toArray,List.modify_succ_cons,List.modify_zero_cons,idle,List.size_toArray,List.length_cons,List.length_nil]
 refine wpAnyH_take (i:=0) (v:= ?_) rfl (by kernel_rfl) (by decide+kernel) (by decide+kernel) (fun _ _ _ h=>h) (Or.inl ⟨by rfl,?_⟩) (by assumption) ?_
 rotate_left
 ·intro w hSw
  (try dsimp only at hSw)
  go_simp
  (try with_reducible rfl)
 simp only[Act.put,List.getElem_toArray,List.getElem_cons_zero,List.getElem_cons_succ,List.setIfInBounds_toArray,List.set_cons_zero,List.set_cons_succ]
 refine wpAnyH_take (i:=1) (v:= ?_) rfl (by kernel_rfl) (by decide+kernel) (by decide+kernel) (fun _ _ _ h=>h) (Or.inl ⟨by rfl,?_⟩) (by assumption) ?_
 rotate_left
 ·intro w hSw
  (try dsimp only at hSw)
  go_simp
  (try with_reducible rfl)
 simp only[Act.put,List.getElem_toArray,List.getElem_cons_zero,List.getElem_cons_succ,List.setIfInBounds_toArray,List.set_cons_zero,List.set_cons_succ]
 refine wpAnyH_take (i:=2) (v:= ?_) rfl (by kernel_rfl) (by decide+kernel) (by decide+kernel) (fun _ _ _ h=>h) (Or.inl ⟨by rfl,?_⟩) (by assumption) ?_
 rotate_left
 ·intro w hSw
  (try dsimp only at hSw)
  go_simp
  (try with_reducible rfl)
 simp only[Act.put,List.getElem_toArray,List.getElem_cons_zero,List.getElem_cons_succ,List.setIfInBounds_toArray,List.set_cons_zero,List.set_cons_succ]
 refine wpAnyH_take (i:=3) (v:= ?_) rfl (by kernel_rfl) (by decide+kernel) (by decide+kernel) (fun _ _ _ h=>h) (Or.inl ⟨by rfl,?_⟩) (by assumption) ?_
 rotate_left
 ·intro w hSw
  (try dsimp only at hSw)
  go_simp
  (try with_reducible rfl)
 simp only[Act.put,List.getElem_toArray,List.getElem_cons_zero,List.getElem_cons_succ,List.setIfInBounds_toArray,List.set_cons_zero,List.set_cons_succ]
 refine wpAnyH_take (i:=4) (v:= ?_) rfl (by kernel_rfl) (by decide+kernel) (by decide+kernel) (fun _ _ _ h=>h) (Or.inl ⟨by rfl,?_⟩) (by assumption) ?_
 rotate_left
 ·intro w hSw
  (try dsimp only at hSw)
  go_simp
  (try with_reducible rfl)
 simp only[Act.put,List.getElem_toArray,List.getElem_cons_zero,List.getElem_cons_succ,List.setIfInBounds_toArray,List.set_cons_zero,List.set_cons_succ]
 refine wpAnyH_take (i:=5) (v:= ?_) rfl (by kernel_rfl) (by decide+kernel) (by decide+kernel) (fun _ _ _ h=>h) (Or.inl ⟨by rfl,?_⟩) (by assumption) ?_
 rotate_left
 ·intro w hSw
  (try dsimp only at hSw)
  go_simp
  (try with_reducible rfl)
 simp only[Act.put,List.getElem_toArray,List.getElem_cons_zero,List.getElem_cons_succ,List.setIfInBounds_toArray,List.set_cons_zero,List.set_cons_succ]
 refine wpAnyH_take (i:=6) (v:= ?_) rfl (by kernel_rfl) (by decide+kernel) (by decide+kernel) (fun _ _ _ h=>h) (Or.inl ⟨by rfl,?_⟩) (by assumption) ?_
 rotate_left
 ·intro w hSw
  (try dsimp only at hSw)
  go_simp
  (try with_reducible rfl)
 simp only[Act.put,List.getElem_toArray,List.getElem_cons_zero,List.getElem_cons_succ,List.setIfInBounds_toArray,List.set_cons_zero,List.set_cons_succ]
 refine wpAnyH_take (i:=7) (v:= ?_) rfl (by kernel_rfl) (by decide+kernel) (by decide+kernel) (fun _ _ _ h=>h) (Or.inl ⟨by rfl,?_⟩) (by assumption) ?_
 rotate_left
 ·intro w hSw
  (try dsimp only at hSw)
  go_simp
  (try with_reducible rfl)
 simp only[Act.put,List.getElem_toArray,List.getElem_cons_zero,List.getElem_cons_succ,List.setIfInBounds_toArray,List.set_cons_zero,List.set_cons_succ]
 refine wpAnyH_take (i:=8) (v:= ?_) rfl (by kernel_rfl) (by decide+kernel) (by decide+kernel) (fun _ _ _ h=>h) (Or.inl ⟨by rfl,?_⟩) (by assumption) ?_
 rotate_left
 ·intro w hSw
  (try dsimp only at hSw)
  go_simp
  (try with_reducible rfl)
 simp only[Act.put,List.getElem_toArray,List.getElem_cons_zero,List.getElem_cons_succ,List.setIfInBounds_toArray,List.set_cons_zero,List.set_cons_succ]
 refine wpAnyH_take (i:=9) (v:= ?_) rfl (by kernel_rfl) (by decide+kernel) (by decide+kernel) (fun _ _ _ h=>h) (Or.inl ⟨by rfl,?_⟩) (by assumption) ?_
 rotate_left
 ·intro w hSw
  (try dsimp only at hSw)
  go_simp
  (try with_reducible rfl)
 simp only[Act.put,List.getElem_toArray,List.getElem_cons_zero,List.getElem_cons_succ,List.setIfInBounds_toArray,List.set_cons_zero,List.set_cons_succ]
 refine wpAnyH_take (i:=10) (v:= ?_) rfl (by kernel_rfl) (by decide+kernel) (by decide+kernel) (fun _ _ _ h=>h) (Or.inl ⟨by rfl,?_⟩) (by assumption) ?_
 rotate_left
 ·intro w hSw
  (try dsimp only at hSw)
  go_simp
  (try with_reducible rfl)
 simp only[Act.put,List.getElem_toArray,List.getElem_cons_zero,List.getElem_cons_succ,List.setIfInBounds_toArray,List.set_cons_zero,List.set_cons_succ]
 refine wpAnyH_take (i:=11) (v:= ?_) rfl (by kernel_rfl) (by decide+kernel) (by decide+kernel) (fun _ _ _ h=>h) (Or.inl ⟨by rfl,?_⟩) (by assumption) ?_
 rotate_left
 ·intro w hSw
  (try dsimp only at hSw)
  go_simp
  (try with_reducible rfl)
 simp only[Act.put,List.getElem_toArray,List.getElem_cons_zero,List.getElem_cons_succ,List.setIfInBounds_toArray,List.set_cons_zero,List.set_cons_succ]
 refine wpAnyH_take (i:=12) (v:= ?_) rfl (by kernel_rfl) (by decide+kernel) (by decide+kernel) (fun _ _ _ h=>h) (Or.inl ⟨by rfl,?_⟩) (by assumption) ?_
 rotate_left
 ·intro w hSw
  (try dsimp only at hSw)
  go_simp
  (try with_reducible rfl)
 simp only[Act.put,List.getElem_toArray,List.getElem_cons_zero,List.getElem_cons_succ,List.setIfInBounds_toArray,List.set_cons_zero,List.set_cons_succ]
 refine wpAnyH_take (i:=13) (v:= ?_) rfl (by kernel_rfl) (by decide+kernel) (by decide+kernel) (fun _ _ _ h=>h) (Or.inl ⟨by rfl,?_⟩) (by assumption) ?_
 rotate_left
 ·intro w hSw
  (try dsimp only at hSw)
  go_simp
  (try with_reducible rfl)
 simp only[Act.put,List.getElem_toArray,List.getElem_cons_zero,List.getElem_cons_succ,List.setIfInBounds_toArray,List.set_cons_zero,List.set_cons_succ]
 refine wpAnyH_take (i:=14) (v:= ?_) rfl (by kernel_rfl) (by decide+kernel) (by decide+kernel) (fun _ _ _ h=>h) (Or.inl ⟨by rfl,?_⟩) (by assumption) ?_
 rotate_left
 ·intro w hSw
  (try dsimp only at hSw)
  go_simp
  (try with_reducible rfl)
 simp only[Act.put,List.getElem_toArray,List.getElem_cons_zero,List.getElem_cons_succ,List.setIfInBounds_toArray,List.set_cons_zero,List.set_cons_succ]
 refine wpAnyH_take (i:=15) (v:= ?_) rfl (by kernel_rfl) (by decide+kernel) (by decide+kernel) (fun _ _ _ h=>h) (Or.inl ⟨by rfl,?_⟩) (by assumption) ?_
 rotate_left
 ·intro w hSw
  (try dsimp only at hSw)
  go_simp
  (try with_reducible rfl)
 simp only[Act.put,List.getElem_toArray,List.getElem_cons_zero,List.getElem_cons_succ,List.setIfInBounds_toArray,List.set_cons_zero,List.set_cons_succ]
 refine wpAnyH_take (i:=16) (v:= ?_) rfl (by kernel_rfl) (by decide+kernel) (by decide+kernel) (fun _ _ _ h=>h) (Or.inl ⟨by rfl,?_⟩) (by assumption) ?_
 rotate_left
 ·intro w hSw
  (try dsimp only at hSw)
  go_simp
  (try with_reducible rfl)
 simp only[Act.put,List.getElem_toArray,List.getElem_cons_zero,List.getElem_cons_succ,List.setIfInBounds_toArray,List.set_cons_zero,List.set_cons_succ]
 refine wpAnyH_take (i:=17) (v:= ?_) rfl (by kernel_rfl) (by decide+kernel) (by decide+kernel) (fun _ _ _ h=>h) (Or.inl ⟨by rfl,?_⟩) (by assumption) ?_
 rotate_left
 ·intro w hSw
  (try dsimp only at hSw)
  go_simp
  (try with_reducible rfl)
 simp only[Act.put,List.getElem_toArray,List.getElem_cons_zero,List.getElem_cons_succ,List.setIfInBounds_toArray,List.set_cons_zero,List.set_cons_succ]
 refine wpAnyH_take (i:=18) (v:= ?_) rfl (by kernel_rfl) (by decide+kernel) (by decide+kernel) (fun _ _ _ h=>h) (Or.inl ⟨by rfl,?_⟩) (by assumption) ?_
 rotate_left
 ·intro w hSw
  (try dsimp only at hSw)
  go_simp
  (try with_reducible rfl)
 simp only[Act.put]
 refine wpAnyH_done (by kernel_rfl) ?_ _
 simp only[lastQ]
 go_simp
 clear hHeld
 have HA6:=hid ((HA5.out.setE HST.out hel x mn).on (below_drewN _ _ 1))
 clear m0 m1 m2 c3 d3 f3 HA5
 generalize hW:(W5.setCell {block:=eg,off:=x} (Value.int IntKind.i64 mn)).drew=W6 at*
 replace HA6:Hid (CA w W6 p v x gg cb n k bd lg lc sg sc eg ec bg pg fg mb nn rv R F Fi (L.set v x) ((S.set fm (sf - 1)).set x (sx+1)) ((Le.set fm r).set x mn)):=by rw[←hW];exact HA6
 clear hW hmn hmn2
 obtain⟨m0,m1,m2⟩:=three_cells HA6.out.g
 have c4:W6.cell? ⟨cb,4,none⟩=some (.slice (some ⟨bg,0,none⟩) n n):=by simp[World.cell?,HA6.out.X.ob,cellsO]
 have d4:=HA6.out.X.be.cell hv
 obtain⟨ra,rc,hrv⟩:=own_slice (HA6.out.X.ro v hv)
 rw[hrv] at d4
 have HRV:=hid hrv
 clear hrv
 obtain⟨ln,HLN⟩:=named (R v).length
 rw[HLN.out] at d4 hRl
 go_wp2_with fail
 go_quiet (fail)
 have HA7:=hid (HA6.out.on (below_drewN _ W6 nq))
 clear m0 m1 m2 c4 d4 HA6
 generalize hW:W6.drewN nq=W7 at*
 clear hW W6
 have HMZ:=hid (mvF_nil F x fm)
 replace HA7:Hid (CA w W7 p v x gg cb n k bd lg lc sg sc eg ec bg pg fg mb nn rv R (mvF F ((R v).take 0) x fm) Fi (L.set v x) ((S.set fm (sf - 1)).set x (sx+1)) ((Le.set fm r).set x mn)):=by rw[List.take_zero,HMZ.out];exact HA7
 go_wp2_with fail
 go_loopw [82] (fun i wr=> ∃ (j:Nat) (nj:Nat→Nat),j≤ln∧i= .int .i64 (j:Int)∧Hid (CA w wr p v x gg cb n k bd lg lc sg sc eg ec bg pg fg mb nj rv R (mvF F ((R v).take j) x fm) Fi (L.set v x) ((S.set fm (sf - 1)).set x (sx+1)) ((Le.set fm r).set x mn))∧Hid (∀u,u<n→nj u≤N+2*j)) (fun i _=>ln - (intOf i).toNat)
 case atStart=>exact⟨0,nn,Nat.zero_le _,rfl,HA7,HNN⟩
 case round=>
  clear HA7 HNN
  obtain⟨j,nj,hj,rfl,HA,HNN⟩:=hrel
  by_cases hlk:j<ln
  ·have hlk':(j:Int)<ln:=by omega
   obtain⟨rg,rfl,hrl,_,hrc⟩:=own_cell (by have h:=HA.out.X.ro v hv;rw[HRV.out,HLN.out] at h;exact h) (by rw[ints_len];exact HLN.out) hlk
   rw[getD_ints] at hrc
   have HU:Hid ((R v).getD j 0<n):=HR.out _ (by have h:j<(R v).length:=(by rw[HLN.out];exact hlk);simp[List.getD,h])
   have HCT:Hid (((R v).take j).count ((R v).getD j 0)+1≤F ((R v).getD j 0) fm):=Nat.le_trans (count_take (by rw[HLN.out];exact hlk)) (HRC.out _)
   have HTK:=hid (take_next (l:=R v) (i:=j) (by rw[HLN.out];exact hlk))
   obtain⟨u,HUD⟩:=named ((R v).getD j 0)
   rw[HUD.out] at hrc HU HCT HTK
   obtain⟨T,HTD⟩:=named ((R v).take j)
   rw[HTD.out] at HCT HTK HA
   have hun:=HU.out
   have hun':(u:Int)<n:=by omega
   obtain⟨m0,m1,m2⟩:=three_cells HA.out.g
   have c5:=(cellsO_hd HA.out.X.ob HA.out.l.lt HA.out.s.lt HA.out.e.lt HA.out.X.pa.lt).c5
   have d5:=HA.out.X.pa.cell hun
   have HM1:=hid ((HA.out.X.mi u hun).on (w':=wr.drew) ⟨rfl,rfl,rfl,Nat.le_refl _,fun _ _=>rfl⟩)
   have HFX:Hid (mvF F T x fm u x≤1010000):=Nat.le_trans mvF_le (by have h1:=HFB.out u x;have h2:T.length≤8192:=(by rw[←HTD.out,List.length_take];omega);omega)
   have HFY:Hid (1≤mvF F T x fm u fm∧mvF F T x fm u fm≤1010000):=by
    have h1:=HFB.out u fm
    have h2:=HCT.out
    have e:mvF F T x fm u fm=F u fm - T.count u:=by unfold mvF;rw[if_neg (fun e=>hne e.symm),if_pos rfl];omega
    rw[show Hid (1≤mvF F T x fm u fm∧mvF F T x fm u fm≤1010000)=(1≤mvF F T x fm u fm∧mvF F T x fm u fm≤1010000) from rfl,e]
    omega
   obtain⟨fx,HX1⟩:=named (mvF F T x fm u x)
   obtain⟨fy,HY1⟩:=named (mvF F T x fm u fm)
   rw[HX1.out] at HFX
   rw[HY1.out] at HFY
   have hfx:=HFX.out
   have hfy:=HFY.out
   have l1:=HM1.out.look (x:=x) (by omega)
   rw[HX1.out] at l1
   have hw1:IntKind.i64.wrap ((fx:Int)+1)=((fx+1:Nat):Int):=by rw[IntKind.wrap_i64];omega
   obtain⟨w8,r1,HM2,hg1⟩:=HM1.out.store (y:=x) (c:=fx+1) (by have:=HNN.out u hun;have:=HN.out;omega) hx hk2 (by omega)
   have r2:(Instr.mapUpdate 171 (.map (some (mb u))) (.int .i64 (x:Int)) (.int .i64 ((fx:Int)+1))).run Tryz.prog wr.drew= .ok () w8:=r1
   have HA8:=hid ((HA.out.on (w':=wr.drew) (below_drewN _ _ 1)).map HST.out hun (fr_grownL hg1) HM2)
   go_wp2_with fail
   refine wp_region_last (S:=fun w'=>w'.cell? ⟨cb,5,none⟩=some (.slice (some ⟨pg,0,none⟩) n n)∧w'.cell? ⟨p,1,none⟩=some (.int .i64 (x:Int))∧w'.cell? ⟨pg,u,none⟩=some (.map (some (mb u)))∧(Instr.lookup 171 (.map (some (mb u))) (.int .i64 (x:Int)) false).run Tryz.prog w'= .ok (.int .i64 (fx:Int)) w') 11 _ (by kernel_rfl) (by kernel_rfl) rfl _ rfl ?_ (fun hHeld=> ?_)
   ·go_keep
   simp only[idled,List.modify_toArray,List.modify_succ_cons,List.modify_zero_cons,idle,List.size_toArray,List.length_cons,List.length_nil]
   refine wpAnyH_take (i:=0) (v:= ?_) rfl (by kernel_rfl) (by decide+kernel) (by decide+kernel) (fun _ _ _ h=>h) (Or.inl ⟨by rfl,?_⟩) (by assumption) ?_
   rotate_left
   ·intro w hSw
    (try dsimp only at hSw)
    go_simp
    (try with_reducible rfl)
   simp only[Act.put,List.getElem_toArray,List.getElem_cons_zero,List.getElem_cons_succ,List.setIfInBounds_toArray,List.set_cons_zero,List.set_cons_succ]
   refine wpAnyH_take (i:=1) (v:= ?_) rfl (by kernel_rfl) (by decide+kernel) (by decide+kernel) (fun _ _ _ h=>h) (Or.inl ⟨by rfl,?_⟩) (by assumption) ?_
   rotate_left
   ·intro w hSw
    (try dsimp only at hSw)
    go_simp
    (try with_reducible rfl)
   simp only[Act.put,List.getElem_toArray,List.getElem_cons_zero,List.getElem_cons_succ,List.setIfInBounds_toArray,List.set_cons_zero,List.set_cons_succ]
   refine wpAnyH_take (i:=2) (v:= ?_) rfl (by kernel_rfl) (by decide+kernel) (by decide+kernel) (fun _ _ _ h=>h) (Or.inl ⟨by rfl,?_⟩) (by assumption) ?_
   rotate_left
   ·intro w hSw
    (try dsimp only at hSw)
    go_simp
    (try with_reducible rfl)
   simp only[Act.put,List.getElem_toArray,List.getElem_cons_zero,List.getElem_cons_succ,List.setIfInBounds_toArray,List.set_cons_zero,List.set_cons_succ]
   refine wpAnyH_take (i:=3) (v:= ?_) rfl (by kernel_rfl) (by decide+kernel) (by decide+kernel) (fun _ _ _ h=>h) (Or.inl ⟨by rfl,?_⟩) (by assumption) ?_
   rotate_left
   ·intro w hSw
    (try dsimp only at hSw)
    go_simp
    (try with_reducible rfl)
   simp only[Act.put,List.getElem_toArray,List.getElem_cons_zero,List.getElem_cons_succ,List.setIfInBounds_toArray,List.set_cons_zero,List.set_cons_succ]
   refine wpAnyH_take (i:=4) (v:= ?_) rfl (by kernel_rfl) (by decide+kernel) (by decide+kernel) (fun _ _ _ h=>h) (Or.inl ⟨by rfl,?_⟩) (by assumption) ?_
   rotate_left
   ·intro w hSw
    (try dsimp only at hSw)
    go_simp
    (try with_reducible rfl)
   simp only[Act.put,List.getElem_toArray,List.getElem_cons_zero,List.getElem_cons_succ,List.setIfInBounds_toArray,List.set_cons_zero,List.set_cons_succ]
   refine wpAnyH_take (i:=5) (v:= ?_) rfl (by kernel_rfl) (by decide+kernel) (by decide+kernel) (fun _ _ _ h=>h) (Or.inl ⟨by rfl,?_⟩) (by assumption) ?_
   rotate_left
   ·intro w hSw
    (try dsimp only at hSw)
    go_simp
    (try with_reducible rfl)
   simp only[Act.put,List.getElem_toArray,List.getElem_cons_zero,List.getElem_cons_succ,List.setIfInBounds_toArray,List.set_cons_zero,List.set_cons_succ]
   refine wpAnyH_take (i:=6) (v:= ?_) rfl (by kernel_rfl) (by decide+kernel) (by decide+kernel) (fun _ _ _ h=>h) (Or.inl ⟨by rfl,?_⟩) (by assumption) ?_
   rotate_left
   ·intro w hSw
    (try dsimp only at hSw)
    go_simp
    (try with_reducible rfl)
   simp only[Act.put,List.getElem_toArray,List.getElem_cons_zero,List.getElem_cons_succ,List.setIfInBounds_toArray,List.set_cons_zero,List.set_cons_succ]
   refine wpAnyH_take (i:=7) (v:= ?_) rfl (by kernel_rfl) (by decide+kernel) (by decide+kernel) (fun _ _ _ h=>h) (Or.inl ⟨by rfl,?_⟩) (by assumption) ?_
   rotate_left
   ·intro w hSw
    (try dsimp only at hSw)
    go_simp
    (try with_reducible rfl)
   simp only[Act.put,List.getElem_toArray,List.getElem_cons_zero,List.getElem_cons_succ,List.setIfInBounds_toArray,List.set_cons_zero,List.set_cons_succ]
   refine wpAnyH_take (i:=8) (v:= ?_) rfl (by kernel_rfl) (by decide+kernel) (by decide+kernel) (fun _ _ _ h=>h) (Or.inl ⟨by rfl,?_⟩) (by assumption) ?_
   rotate_left
   ·intro w hSw
    (try dsimp only at hSw)
    go_simp
    (try with_reducible rfl)
   simp only[Act.put,List.getElem_toArray,List.getElem_cons_zero,List.getElem_cons_succ,List.setIfInBounds_toArray,List.set_cons_zero,List.set_cons_succ]
   refine wpAnyH_take (i:=9) (v:= ?_) rfl (by kernel_rfl) (by decide+kernel) (by decide+kernel) (fun _ _ _ h=>h) (Or.inl ⟨by rfl,?_⟩) (by assumption) ?_
   rotate_left
   ·intro w hSw
    (try dsimp only at hSw)
    go_simp
    (try with_reducible rfl)
   simp only[Act.put,List.getElem_toArray,List.getElem_cons_zero,List.getElem_cons_succ,List.setIfInBounds_toArray,List.set_cons_zero,List.set_cons_succ]
   refine wpAnyH_take (i:=10) (v:= ?_) rfl (by kernel_rfl) (by decide+kernel) (by decide+kernel) (fun _ _ _ h=>h) (Or.inl ⟨by rfl,?_⟩) (by assumption) ?_
   rotate_left
   ·intro w hSw
    (try dsimp only at hSw)
    go_simp
    (try with_reducible rfl)
   simp only[Act.put,List.getElem_toArray,List.getElem_cons_zero,List.getElem_cons_succ,List.setIfInBounds_toArray,List.set_cons_zero,List.set_cons_succ]
   refine wpAnyH_take (i:=11) (v:= ?_) rfl (by kernel_rfl) (by decide+kernel) (by decide+kernel) (fun _ _ _ h=>h) (Or.inl ⟨by rfl,?_⟩) (by assumption) ?_
   rotate_left
   ·intro w hSw
    (try dsimp only at hSw)
    go_simp
    (try with_reducible rfl)
   simp only[Act.put]
   refine wpAnyH_done (by kernel_rfl) ?_ _
   simp only[lastQ]
   go_simp
   clear hHeld
   have HU8:=hid (setAt_same (mvF F T x fm) u (updN (mvF F T x fm u) x (fx+1)))
   have HN8:=hid (setAt_same nj u (nj u+1))
   have HM3:=hid (HA8.out.X.mi u hun)
   rw[HU8.out,HN8.out] at HM3
   clear m0 m1 m2 c5 d5 l1 r1 r2 hw1 hrc HM1 HM2 hg1 HA
   have c5:=(cellsO_hd HA8.out.X.ob HA8.out.l.lt HA8.out.s.lt HA8.out.e.lt HA8.out.X.pa.lt).c5
   have d5:=HA8.out.X.pa.cell hun
   have HQ:Hid (updN (mvF F T x fm u) x (fx+1) fm=fy):=by
    show updN (mvF F T x fm u) x (fx+1) fm=fy
    unfold updN
    rw[if_neg (fun e=>hne e.symm)]
    exact HY1.out
   have l1:=HM3.out.look (x:=fm) (by omega)
   rw[HQ.out] at l1
   have hw1:IntKind.i64.wrap ((fy:Int) - 1)=((fy - 1:Nat):Int):=by rw[IntKind.wrap_i64];omega
   obtain⟨w9,r1,HM4,hg2⟩:=HM3.out.store (y:=fm) (c:=fy - 1) (by have:=HNN.out u hun;have:=HN.out;omega) hfk hk2 (by omega)
   have HA9:=hid (HA8.out.map HST.out hun (fr_grownL hg2) HM4)
   have HEQ:Hid (setAt (setAt (mvF F T x fm) u (updN (mvF F T x fm u) x (fx+1))) u (updN (updN (mvF F T x fm u) x (fx+1)) fm (fy - 1))=mvF F ((R v).take (j+1)) x fm):=by
    show setAt (setAt (mvF F T x fm) u (updN (mvF F T x fm u) x (fx+1))) u (updN (updN (mvF F T x fm u) x (fx+1)) fm (fy - 1))=mvF F ((R v).take (j+1)) x fm
    rw[HTK.out]
    funext t
    by_cases e:t=u
    ·rw[e,setAt_same,mvF_at hne HCT.out,HX1.out,HY1.out]
    ·rw[setAt_ne _ _ e,setAt_ne _ _ e,mvF_far e]
   rw[HEQ.out] at HA9
   have HN9:Hid (∀t,t<n→setAt (setAt nj u (nj u+1)) u (nj u+1+1) t≤N+2*(j+1)):=fun t ht=>by
    by_cases e:t=u
    ·rw[e,setAt_same]
     have:=HNN.out u hun
     omega
    ·rw[setAt_ne _ _ e,setAt_ne _ _ e]
     have:=HNN.out t ht
     omega
   clear HA8 HM3 HM4 hg2 HEQ HQ HU8 HN8
   go_wp2_with fail
   exact⟨⟨j+1,_,hlk,by simp,HA9,HN9⟩,by simp[intOf];omega⟩
  ·have hlk': ¬(j:Int)<ln:=by omega
   obtain rfl:j=ln:=by omega
   have HTA:Hid ((R v).take j=R v):=List.take_of_length_le (by rw[HLN.out];exact Nat.le_refl _)
   rw[HTA.out] at HA
   have HCV:=hid (HA.out.X.cv HA.out.l HA.out.s HA.out.e (by rw[List.length_set];exact Ln) (by rw[List.length_set,List.length_set];exact Sn) (by rw[List.length_set,List.length_set];exact En) HST.out.k0 hk2 (fun u hu=>by
    rw[getD_setN' (by omega)]
    by_cases e:u=v
    ·rw[if_pos e];exact hx
    ·rw[if_neg e];exact HLB.out u hu) (fun t y=>Nat.le_trans mvF_le (by have:=HFB.out t y;have:=HLN.out;omega)))
   obtain⟨m0,m1,m2⟩:=three_cells HA.out.g
   have HAG:=hid (lookAgain_any cb n k bd lg lc sg sc eg ec bg n pg n fg n fm x _ _ _ mb nj _ Fi wr HCV.out HA.out.X.ob (HST.out.apt HA.out.X.cp) HA.out.X.ft hn2 hfk hx)
   go_wp2_with fail
   refine HAG.out.mono ?_
   rintro e w' ⟨Fi',rfl,hcv',hob',hft',hag,hfr⟩
   go_wp2_with fail
   refine bodyPost_end (results_none rfl _ _ _) rfl ?_
   have hst:=HST.out
   have hA:=HA.out
   refine⟨rfl,nj,Fi',r,HLR.out,⟨hob',hA.X.be.fr hfr hst.fb.symm,fun t ht=>own_frL (hA.X.ro t ht) hfr (fun g e e2=>hst.fr t ht (by rw[e,e2])),hA.X.pa.fr hfr hst.fp.symm,hcv'.mi,hft'⟩,hA.l.fr hfr hst.fl.2.2.2.1,hA.s.fr hfr hst.fs.2.2.2.1,hA.e.fr hfr hst.fe.2.2.2.1,fun u hu=> ?_,hag,hA.f.trans (hfr.imp (fun b e=> .inr (.inr (.inr (.inl e)))))⟩
   have:=HNN.out u hu
   omega
end Go.Proofs.YtmenajiceaicpaaGreat
