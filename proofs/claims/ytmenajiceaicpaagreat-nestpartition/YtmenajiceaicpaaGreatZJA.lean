import Derived.Test.YtmenajiceaicpaaGreatZAO
import Derived.Deep.RegionLaw
import Derived.Test.YtmenajiceaicpaaGreatZAB
import Derived.Test.YtmenajiceaicpaaGreatZAP
open Go.Lib (hid)
set_option maxRecDepth 100000
namespace Go.Proofs.YtmenajiceaicpaaGreat
open Go.RowKit
theorem K.at.on{x:K}{w w':World}{b o n:Nat}(h:x.at w b o)(hb:Below n w w')(hn:b<n):x.at w' b o:=
 ⟨(hb.cell (p:=⟨b,o,none⟩) hn).trans h.1,(hb.cell (p:=⟨b,o+1,none⟩) hn).trans h.2.1,(hb.cell (p:=⟨b,o+2,none⟩) hn).trans h.2.2⟩
set_option maxHeartbeats 1600000 in
theorem choose_any(lb c rb:Nat)(l:List K)(w:World)(hn:0<l.length)(hm:l.length≤1000000)(hlb:lb<w.heap.size)(hl: ∀j,j<l.length→(l.getD j K.zero).at w lb (j*3))(hrl:rb<w.heap.size)(hr: ∀k,k<3→w.cell? ⟨rb,k,none⟩=some (ruleV k)):
  Calls Tryz.prog 93 #[.slice (some ⟨lb,0,none⟩) l.length c, .slice (some ⟨rb,0,none⟩) 3 3] w fun e w'=>e= .returned (pickK l (l.length - 1)).val∧Below w.heap.size w w':=by
 have hb:=two_below w (Obj.cells #[Value.slice (some ⟨rb,0,none⟩) 3 3] 175) (Obj.cells #[Value.int IntKind.i64 0,Value.int IntKind.i64 0,Value.int IntKind.i64 0] 128)
 have hg1:((w.alloc (Obj.cells #[Value.slice (some ⟨rb,0,none⟩) 3 3] 175)).alloc (Obj.cells #[Value.int IntKind.i64 0,Value.int IntKind.i64 0,Value.int IntKind.i64 0] 128)).heap[w.heap.size+1]? =some (Obj.cells #[Value.int IntKind.i64 0,Value.int IntKind.i64 0,Value.int IntKind.i64 0] 128):=by
  have h:=heap_top (w.alloc (Obj.cells #[Value.slice (some ⟨rb,0,none⟩) 3 3] 175)) (Obj.cells #[Value.int IntKind.i64 0,Value.int IntKind.i64 0,Value.int IntKind.i64 0] 128)
  rw[World.size_alloc] at h
  exact h
 have hg0:((w.alloc (Obj.cells #[Value.slice (some ⟨rb,0,none⟩) 3 3] 175)).alloc (Obj.cells #[Value.int IntKind.i64 0,Value.int IntKind.i64 0,Value.int IntKind.i64 0] 128)).heap[w.heap.size]? =some (Obj.cells #[Value.slice (some ⟨rb,0,none⟩) 3 3] 175):=(Below.heap_alloc _ _ _ (by simp)).trans (heap_top w _)
 have hsz:w.heap.size+1<((w.alloc (Obj.cells #[Value.slice (some ⟨rb,0,none⟩) 3 3] 175)).alloc (Obj.cells #[Value.int IntKind.i64 0,Value.int IntKind.i64 0,Value.int IntKind.i64 0] 128)).heap.size:=lt_of_block hg1
 have HMF:=hid (minF_any lb c w.heap.size rb l ((w.alloc (Obj.cells #[Value.slice (some ⟨rb,0,none⟩) 3 3] 175)).alloc (Obj.cells #[Value.int IntKind.i64 0,Value.int IntKind.i64 0,Value.int IntKind.i64 0] 128)) hn hm (by omega) (fun j hj=>(hl j hj).on hb hlb) (by simp[World.cell?,hg0]) (by omega) (by omega) (fun k hk=>(hb.cell (p:=⟨rb,k,none⟩) hrl).trans (hr k hk)))
 obtain⟨R,HR⟩:=named (pickK l (l.length - 1))
 rw[HR.out] at HMF ⊢
 have HRV:Hid (R.val= .agg #[.int .i64 (R.a:Int), .int .i64 (R.b:Int), .int .i64 (R.n:Int)]):=rfl
 rw[HRV.out] at HMF ⊢
 have HB:=hid hb
 have HG1:=hid hg1
 clear hb hg0 hg1 hl hr
 generalize hp:w.heap.size=p at*
 go_enter Tryz.func93,Tryz.ntmps93
 go_wp2_with fail
 generalize hW:(w.alloc (Obj.cells #[Value.slice (some ⟨rb,0,none⟩) 3 3] 175)).alloc (Obj.cells #[Value.int IntKind.i64 0,Value.int IntKind.i64 0,Value.int IntKind.i64 0] 128)=W at*
 clear hW
 refine HMF.out.mono ?_
 rintro e w2 ⟨rfl,hb2⟩
 have HB2:Hid (Below p w w2):=HB.out.trans (hb2.mono (by omega))
 have hg2:=(hb2.block (p+1) hsz).trans HG1.out
 have HG2:=hid hg2
 have q0:w2.frozen? ⟨p+1,0,none⟩=false:=by simp[World.frozen?,hg2]
 have q1:w2.frozen? ⟨p+1,1,none⟩=false:=by simp[World.frozen?,hg2]
 have q2:w2.frozen? ⟨p+1,2,none⟩=false:=by simp[World.frozen?,hg2]
 obtain⟨r0,r1,r2⟩:=three_cells hg2
 have HGE:=hid (three_set hg2 (.int .i64 (R.a:Int)) (.int .i64 (R.b:Int)) (.int .i64 (R.n:Int)))
 have HBE:=hid (three_below HB2.out (show p≤p+1 by omega) (.int .i64 (R.a:Int)) (.int .i64 (R.b:Int)) (.int .i64 (R.n:Int)))
 clear hb2 hg2 HMF
 go_wp2_with fail
 generalize hU:((w2.setCell ⟨p+1,0,none⟩ (Value.int IntKind.i64 R.a)).setCell ⟨p+1,1,none⟩ (Value.int IntKind.i64 R.b)).setCell ⟨p+1,2,none⟩ (Value.int IntKind.i64 R.n)=U at*
 clear hU q0 q1 q2 r0 r1 r2
 try simp only[Exit.inBlock,Exit.then]
 refine bodyPost_ret (results_cell_row (P:=Tryz.prog) rfl _ _ (p+1) 128 _ _ _ rfl HGE.out Tryz.underlying128 rfl (by kernel_rfl)) rfl ?_
 exact⟨rfl,HBE.out⟩
theorem info60K:(Tryz.prog.info? 128).map (fun i=>(i.zero,i.size,i.bytes))=some (some (.agg #[.int .i64 0, .int .i64 0, .int .i64 0]),3,24):=by kernel_rfl
def cellsK:List K→List Value
 | []=> []
 | x::r=> .int .i64 (x.a:Int):: .int .i64 (x.b:Int):: .int .i64 (x.n:Int)::cellsK r
theorem cellsK_len: ∀l:List K,(cellsK l).length=l.length*3
 | []=>rfl
 | x::r=>by simp only[cellsK,List.length_cons,cellsK_len r];omega
theorem cellsK_app: ∀l r:List K,cellsK (l++r)=cellsK l++cellsK r
 | [],r=>rfl
 | x::l,r=>by simp only[List.cons_append,cellsK,cellsK_app l r]
theorem cellsK_at: ∀ (l:List K) (j:Nat),j<l.length→(cellsK l)[j*3]? =some (.int .i64 ((l.getD j K.zero).a:Int))∧(cellsK l)[j*3+1]? =some (.int .i64 ((l.getD j K.zero).b:Int))∧(cellsK l)[j*3+2]? =some (.int .i64 ((l.getD j K.zero).n:Int))
 | [],j,h=>by simp at h
 | x::r,0,_=>by simp[cellsK]
 | x::r,j+1,h=>by
   have ih:=cellsK_at r j (by simpa using h)
   rw[show(j+1)*3=j*3+3 by omega]
   simpa[cellsK] using ih
def OwnK(w:World)(B:Nat)(v:Value)(l:List K):Prop:=w.ownsRow B 128 3 v l.length (cellsK l)
theorem OwnK.at{w:World}{B g c:Nat}{l:List K}(h:OwnK w B (.slice (some ⟨g,0,none⟩) l.length c) l)(j:Nat)(hj:j<l.length):(l.getD j K.zero).at w g (j*3):=by
 obtain⟨h1,h2,h3⟩:=cellsK_at l j hj
 exact⟨(World.ownsRow.cellAt h (j*3) (by omega)).trans h1,(World.ownsRow.cellAt h (j*3+1) (by omega)).trans h2,(World.ownsRow.cellAt h (j*3+2) (by omega)).trans h3⟩
theorem four_cellsJ{w:World}{g:Nat}{a b c d:Value}{t:TypeId}(h:w.heap[g]? =some (.cells #[a,b,c,d] t)):w.cell? ⟨g,0,none⟩=some a∧w.cell? ⟨g,1,none⟩=some b∧w.cell? ⟨g,2,none⟩=some c∧w.cell? ⟨g,3,none⟩=some d:=by
 simp[World.cell?,h]
set_option maxHeartbeats 1600000 in
theorem offer_no(jb bd gs:Nat)(lv ov:Value)(S:List Nat)(cs B:Nat)(x:K)(w:World)(hg:w.heap[jb]? =some (.cells #[.int .i64 (bd:Int),lv, .slice (some ⟨gs,0,none⟩) S.length cs,ov] 125))(hS:w.ownsRow B 3 1 (.slice (some ⟨gs,0,none⟩) S.length cs) S.length (cellsI (ints S)))(ha:x.a<S.length)(hb:x.b<S.length)(hs:S.getD x.a 0+S.getD x.b 0≤100000)(hbd:bd≤1024)(hno: ¬S.getD x.a 0+S.getD x.b 0≤bd):
  Calls Tryz.prog 124 #[.pointer (some ⟨jb,0,none⟩),x.val] w fun e w'=>e= .returned (.tuple #[])∧Below w.heap.size w w':=by
 have hb0:Below w.heap.size w (w.alloc (Obj.cells #[Value.int IntKind.i64 x.a,Value.int IntKind.i64 x.b,Value.int IntKind.i64 x.n] 128)):=(Below.refl _ _).alloc (Nat.le_refl _) _
 have HB0:=hid hb0
 have hg1:=(hb0.block jb (lt_of_block hg)).trans hg
 have hg2:=heap_top w (Obj.cells #[Value.int IntKind.i64 x.a,Value.int IntKind.i64 x.b,Value.int IntKind.i64 x.n] 128)
 have y0:=own_cellI (own_on hS hb0) ha
 have y1:=own_cellI (own_on hS hb0) hb
 have HXV:Hid (x.val= .agg #[.int .i64 (x.a:Int), .int .i64 (x.b:Int), .int .i64 (x.n:Int)]):=rfl
 rw[HXV.out]
 obtain⟨j0,j1,j2,j3⟩:=four_cellsJ hg1
 obtain⟨k0,k1,k2⟩:=three_cells hg2
 have ha':(x.a:Int)<S.length:=by omega
 have hb':(x.b:Int)<S.length:=by omega
 generalize S.getD x.a 0=s at*
 generalize S.getD x.b 0=t at*
 have hw:IntKind.i64.wrap ((s:Int)+(t:Int))=(s:Int)+(t:Int):=by rw[IntKind.wrap_i64];omega
 have hno': ¬(s:Int)+(t:Int)≤bd:=by omega
 clear hb0 hg hS hg1 hg2 hno
 generalize hp:w.heap.size=p at*
 go_enter Tryz.func124,Tryz.ntmps124
 go_wp2_with fail
 generalize hW:w.alloc (Obj.cells #[Value.int IntKind.i64 x.a,Value.int IntKind.i64 x.b,Value.int IntKind.i64 x.n] 128)=W at*
 clear hW
 go_quiet (fail)
 go_wp2_with fail
 go_end0
 exact⟨rfl,⟨HB0.out.os,HB0.out.tape,HB0.out.output,HB0.out.size,HB0.out.block⟩⟩
theorem own_frQ{w w':World}{B:Nat}{e:TypeId}{size:Nat}{v:Value}{n:Nat}{xs:List Value}{D:Nat→Prop}(h:w.ownsRow B e size v n xs)(hf:Fr D w w')(hn: ∀k,v.ownBlock=some k→¬D k):w'.ownsRow B e size v n xs:=by
 refine⟨h.1,?_⟩
 rcases h.2 with h' | ⟨g,c,cur,h1,h2,h3,h4⟩
 ·exact .inl h'
 ·exact .inr ⟨g,c,cur,h1,h2,(hf.block g (lt_of_block h3) (hn g (by rw[h1];rfl))).trans h3,h4⟩
theorem own_block{w:World}{B:Nat}{e:TypeId}{size:Nat}{v:Value}{n:Nat}{xs:List Value}(h:w.ownsRow B e size v n xs){k:Nat}(hk:v.ownBlock=some k): ∃cur,w.heap[k]? =some (.cells cur e (0,0)):=by
 rcases h.2 with ⟨h',_⟩ | ⟨g,c,cur,h1,h2,h3,h4⟩
 ·rw[h'] at hk;cases hk
 ·rw[h1] at hk
  injection hk with hk
  exact⟨cur,hk▸h3⟩
structure JS(w:World)(jb B bd:Nat)(L S:List Nat)(O:List K)(lg sg lc sc:Nat)(ov:Value):Prop where
 hd:w.heap[jb]? =some (.cells #[.int .i64 (bd:Int), .slice (some ⟨lg,0,none⟩) L.length lc, .slice (some ⟨sg,0,none⟩) S.length sc,ov] 125)
 lo:w.ownsRow B 3 1 (.slice (some ⟨lg,0,none⟩) L.length lc) L.length (cellsI (ints L))
 so:w.ownsRow B 3 1 (.slice (some ⟨sg,0,none⟩) S.length sc) S.length (cellsI (ints S))
 oo:w.ownsRow B 128 3 ov O.length (cellsK O)
 ne:lg≠sg
 jl:B≤jb
theorem JS.njl{w:World}{jb B bd:Nat}{L S:List Nat}{O:List K}{lg sg lc sc:Nat}{ov:Value}(h:JS w jb B bd L S O lg sg lc sc ov):jb≠lg:=by
 rintro rfl
 obtain⟨cur,hc⟩:=own_block h.lo rfl
 have:=h.hd.symm.trans hc
 injection this with this
 injection this with _ this
 cases this
theorem JS.njs{w:World}{jb B bd:Nat}{L S:List Nat}{O:List K}{lg sg lc sc:Nat}{ov:Value}(h:JS w jb B bd L S O lg sg lc sc ov):jb≠sg:=by
 rintro rfl
 obtain⟨cur,hc⟩:=own_block h.so rfl
 have:=h.hd.symm.trans hc
 injection this with this
 injection this with _ this
 cases this
theorem JS.njo{w:World}{jb B bd:Nat}{L S:List Nat}{O:List K}{lg sg lc sc:Nat}{ov:Value}(h:JS w jb B bd L S O lg sg lc sc ov):ov.ownBlock≠some jb:=by
 intro e
 obtain⟨cur,hc⟩:=own_block h.oo e
 have:=h.hd.symm.trans hc
 injection this with this
 injection this with _ this
 cases this
theorem own_types{w:World}{B B':Nat}{e e':TypeId}{size size':Nat}{v v':Value}{n n':Nat}{xs xs':List Value}(h:w.ownsRow B e size v n xs)(h2:w.ownsRow B' e' size' v' n' xs')(hne:e≠e'){k:Nat}(hk:v.ownBlock=some k):v'.ownBlock≠some k:=by
 intro hk2
 obtain⟨cur,hc⟩:=own_block h hk
 obtain⟨cur2,hc2⟩:=own_block h2 hk2
 have:=hc.symm.trans hc2
 injection this with this
 injection this with _ this
 exact hne this
theorem JS.nlo{w:World}{jb B bd:Nat}{L S:List Nat}{O:List K}{lg sg lc sc:Nat}{ov:Value}(h:JS w jb B bd L S O lg sg lc sc ov):ov.ownBlock≠some lg:=own_types h.lo h.oo (by decide) rfl
theorem JS.nso{w:World}{jb B bd:Nat}{L S:List Nat}{O:List K}{lg sg lc sc:Nat}{ov:Value}(h:JS w jb B bd L S O lg sg lc sc ov):ov.ownBlock≠some sg:=own_types h.so h.oo (by decide) rfl
theorem JS.fr{w w':World}{jb B bd:Nat}{L S:List Nat}{O:List K}{lg sg lc sc:Nat}{ov:Value}{D:Nat→Prop}(h:JS w jb B bd L S O lg sg lc sc ov)(hf:Fr D w w')(h1: ¬D jb)(h2: ¬D lg)(h3: ¬D sg)(h4: ∀k,ov.ownBlock=some k→¬D k):JS w' jb B bd L S O lg sg lc sc ov:=
 ⟨(hf.block jb (lt_of_block h.hd) h1).trans h.hd,own_frQ h.lo hf (fun k hk=>by injection hk with hk;exact hk▸h2),own_frQ h.so hf (fun k hk=>by injection hk with hk;exact hk▸h3),own_frQ h.oo hf h4,h.ne,h.jl⟩
theorem JS.on{w w':World}{jb B bd:Nat}{L S:List Nat}{O:List K}{lg sg lc sc:Nat}{ov:Value}(h:JS w jb B bd L S O lg sg lc sc ov)(hb:Below w.heap.size w w'):JS w' jb B bd L S O lg sg lc sc ov:=
 h.fr (D:=fun _=>False) ⟨hb.os,hb.tape,hb.output,hb.size,fun k hk _=>hb.block k hk⟩ id id id (fun _ _=>id)
theorem four_free{w:World}{g:Nat}{a b c d:Value}{t:TypeId}(h:w.heap[g]? =some (.cells #[a,b,c,d] t))(k:Nat):w.frozen? ⟨g,k,none⟩=false:=by
 simp[World.frozen?,h]
theorem JS.open{w w3:World}{jb B bd:Nat}{L S:List Nat}{O O3:List K}{lg sg lc sc:Nat}{ov v3:Value}(h:JS w jb B bd L S O lg sg lc sc ov)(hown:w3.ownsRow B 128 3 v3 O3.length (cellsK O3))(hg:w.grownBy w3 ov.ownBlock)(hb:v3.ownBlock=ov.ownBlock∨v3.ownBlock=some w.heap.size):
  JS (w3.setCell ⟨jb,3,none⟩ v3) jb B bd L S O3 lg sg lc sc v3∧Fr (fun k=>k=jb∨ov.ownBlock=some k) w (w3.setCell ⟨jb,3,none⟩ v3):=by
 have hf:Fr (fun k=>k=jb∨ov.ownBlock=some k) w w3:=⟨hg.os,hg.tape,hg.output,hg.size,fun k hk hn=>hg.block k hk (fun e=>hn (.inr e.symm))⟩
 have hj:jb<w.heap.size:=lt_of_block h.hd
 have hd3:=(hg.block jb hj (fun e=>h.njo e.symm)).trans h.hd
 have hn:v3.ownBlock≠some jb:=by
  rcases hb with hb | hb
  ·rw[hb];exact h.njo
  ·rw[hb];intro e;injection e with e;omega
 have hs:Fr (fun k=>k=jb) w3 (w3.setCell ⟨jb,3,none⟩ v3):=(Fr.refl _ w3).setCell ⟨jb,3,none⟩ v3 rfl
 refine⟨⟨?_,?_,?_,?_,h.ne,h.jl⟩,hf.setCell ⟨jb,3,none⟩ v3 (.inl rfl)⟩
 ·rw[heap_setCell_same w3 jb 3 _ _ _ hd3]
  simp
 ·refine own_frQ (own_frQ h.lo hf (fun k hk=> ?_)) hs (fun k hk=> ?_)
  ·injection hk with hk
   subst hk
   rintro(e | e)
   ·exact h.njl e.symm
   ·exact h.nlo e
  ·injection hk with hk
   subst hk
   exact fun e=>h.njl e.symm
 ·refine own_frQ (own_frQ h.so hf (fun k hk=> ?_)) hs (fun k hk=> ?_)
  ·injection hk with hk
   subst hk
   rintro(e | e)
   ·exact h.njs e.symm
   ·exact h.nso e
  ·injection hk with hk
   subst hk
   exact fun e=>h.njs e.symm
 ·exact own_frQ hown hs (fun k hk e=>hn (e▸hk))
def K.cells(x:K):List Value:=[.int .i64 (x.a:Int), .int .i64 (x.b:Int), .int .i64 (x.n:Int)]
theorem cellsK_snoc(l:List K)(x:K):cellsK (l++[x])=cellsK l++x.cells:=by rw[cellsK_app];rfl
theorem newK(w:World)(x:K): ∀j u,x.cells[j]? =some u→(w.alloc (.cells #[.int .i64 (x.a:Int), .int .i64 (x.b:Int), .int .i64 (x.n:Int)] 128)).cell? ((⟨w.heap.size,0,none⟩:Addr).add j)=some u:=by
 intro j u hu
 have ht:=three_cells (heap_top w (.cells #[.int .i64 (x.a:Int), .int .i64 (x.b:Int), .int .i64 (x.n:Int)] 128))
 unfold K.cells at hu
 match j,hu with
 | 0,hu=>simp at hu;subst hu;exact ht.1
 | 1,hu=>simp at hu;subst hu;exact ht.2.1
 | 2,hu=>simp at hu;subst hu;exact ht.2.2
theorem oneK(x:K): ∀u∈x.cells,u.oneCell'=true:=by
 intro u hu
 simp[K.cells] at hu
 rcases hu with rfl | rfl | rfl <;> rfl
set_option maxHeartbeats 1600000 in
theorem offer_yes(jb B bd:Nat)(L S:List Nat)(O:List K)(lg sg lc sc:Nat)(ov:Value)(x:K)(w:World)(hj:JS w jb B bd L S O lg sg lc sc ov)(ha:x.a<S.length)(hb:x.b<S.length)(hbd:bd≤1024)(hO:O.length≤1000000)(hB:B≤w.heap.size)(hyes:S.getD x.a 0+S.getD x.b 0≤bd):
  Calls Tryz.prog 124 #[.pointer (some ⟨jb,0,none⟩),x.val] w fun e w'=>e= .returned (.tuple #[])∧∃ov',JS w' jb B bd L S (O++[x]) lg sg lc sc ov'∧Fr (fun k=>k=jb∨ov.ownBlock=some k) w w'∧(ov'.ownBlock=ov.ownBlock∨∃k,ov'.ownBlock=some k∧w.heap.size≤k):=by
 obtain⟨i0,hi,hz0,hz1,hz2⟩:=info_parts info60K
 have hb0:Below w.heap.size w (w.alloc (Obj.cells #[Value.int IntKind.i64 x.a,Value.int IntKind.i64 x.b,Value.int IntKind.i64 x.n] 128)):=(Below.refl _ _).alloc (Nat.le_refl _) _
 have HJ0:=hid (hj.on hb0)
 have HF0:Hid (Fr (fun k=>k=jb∨ov.ownBlock=some k) w (w.alloc (Obj.cells #[Value.int IntKind.i64 x.a,Value.int IntKind.i64 x.b,Value.int IntKind.i64 x.n] 128))):=(Fr.refl _ w).alloc _
 have hg2:=heap_top w (Obj.cells #[Value.int IntKind.i64 x.a,Value.int IntKind.i64 x.b,Value.int IntKind.i64 x.n] 128)
 have y0:=own_cellI HJ0.out.so ha
 have y1:=own_cellI HJ0.out.so hb
 have HXV:Hid (x.val= .agg #[.int .i64 (x.a:Int), .int .i64 (x.b:Int), .int .i64 (x.n:Int)]):=rfl
 rw[HXV.out]
 obtain⟨av,cv,rfl⟩:=own_slice hj.oo
 obtain⟨j0,j1,j2,j3⟩:=four_cellsJ HJ0.out.hd
 have f3:=four_free HJ0.out.hd 3
 obtain⟨k0,k1,k2⟩:=three_cells hg2
 have HG2:=hid hg2
 have hjw:jb<w.heap.size:=lt_of_block hj.hd
 have ha':(x.a:Int)<S.length:=by omega
 have hb':(x.b:Int)<S.length:=by omega
 generalize S.getD x.a 0=s at*
 generalize S.getD x.b 0=t at*
 have hw:IntKind.i64.wrap ((s:Int)+(t:Int))=(s:Int)+(t:Int):=by rw[IntKind.wrap_i64];omega
 have hyes':(s:Int)+(t:Int)≤bd:=by omega
 clear hb0 hg2 hyes hj
 have hpw:w.heap.size<(w.alloc (Obj.cells #[Value.int IntKind.i64 x.a,Value.int IntKind.i64 x.b,Value.int IntKind.i64 x.n] 128)).heap.size:=by simp
 generalize hp:w.heap.size=p at*
 go_enter Tryz.func124,Tryz.ntmps124
 go_wp2_with fail
 generalize hW:w.alloc (Obj.cells #[Value.int IntKind.i64 x.a,Value.int IntKind.i64 x.b,Value.int IntKind.i64 x.n] 128)=W at*
 clear hW
 go_quiet (fail)
 go_wp2_with fail
 have HJ2:Hid (JS (W.drewN nq).drew jb B bd L S O lg sg lc sc (.slice av O.length cv)):=HJ0.out.on ⟨rfl,rfl,rfl,Nat.le_refl _,fun _ _=>rfl⟩
 have HF2:Hid (Fr (fun k=>k=jb∨(Value.slice av O.length cv).ownBlock=some k) w (W.drewN nq).drew):=HF0.out.trans ⟨rfl,rfl,rfl,Nat.le_refl _,fun _ _ _=>rfl⟩
 have HG3:Hid ((W.drewN nq).drew.heap[p]? =some (.cells #[.int .i64 (x.a:Int), .int .i64 (x.b:Int), .int .i64 (x.n:Int)] 128)):=HG2.out
 have hp2:p<(W.drewN nq).heap.size:=hpw
 clear HJ0 HF0 HG2 hpw y0 y1 j0 j1 j2 j3 f3 k0 k1 k2
 generalize W.drewN nq=W2 at*
 obtain⟨c0,c1,c2,c3⟩:=four_cellsJ HJ2.out.hd
 have f3:=four_free HJ2.out.hd 3
 obtain⟨b0,b1,b2⟩:=three_cells HG3.out
 simp only[World.cell?_drew,World.frozen?_drew] at c0 c1 c2 c3 f3 b0 b1 b2
 have HJ3:=hid (HJ2.out.on (show Below W2.drew.heap.size W2.drew (W2.drew.alloc (.cells #[.int .i64 (x.a:Int), .int .i64 (x.b:Int), .int .i64 (x.n:Int)] 128)) from (Below.refl _ _).alloc (Nat.le_refl _) _))
 have HF3:=hid (HF2.out.alloc (.cells #[.int .i64 (x.a:Int), .int .i64 (x.b:Int), .int .i64 (x.n:Int)] 128))
 have HOWN:=hid HJ3.out.oo
 have HNW:=hid (newK W2.drew x)
 have H1:=hid (oneK x)
 have HBZ:Hid (B≤(W2.drew.alloc (.cells #[.int .i64 (x.a:Int), .int .i64 (x.b:Int), .int .i64 (x.n:Int)] 128)).heap.size):=by show _≤_;simp;omega
 have r3:(W2.alloc (.cells #[.int .i64 (x.a:Int), .int .i64 (x.b:Int), .int .i64 (x.n:Int)] 128)).cell? ⟨jb,3,none⟩=some (.slice av O.length cv):=(four_cellsJ HJ3.out.hd).2.2.2
 go_region_law (first | (rw[if_pos (by rfl)];refine wp_append_new (.tmp 30) (.tmp 32) 123 rfl B 128 i0 _ 3 24 Tryz.underlying123 hi hz0 hz1 hz2 rfl (by decide) (.slice av O.length cv) O.length (cellsK O) rfl HOWN.out ⟨W2.heap.size,0,none⟩ 1 1 x.cells rfl rfl HNW.out H1.out (by unfold maxLen;omega) (by omega) HBZ.out (by omega) ?_;intro v3 w3 hown3 hgrow3 hb3;obtain⟨a3,d3,hv3⟩:=own_slice hown3;subst hv3;have hd3:=(hgrow3.block jb (by simp;omega) (fun e=>HJ3.out.njo e.symm)).trans HJ3.out.hd;obtain⟨q0,q1,q2,q3⟩:=four_cellsJ hd3;have qf3:=four_free hd3 3))
 all_goals
  have hlen:O.length+1=(O++[x]).length:=by simp
  rw[←cellsK_snoc,hlen] at hown3
  obtain⟨j4,f4⟩:=HJ3.out.open hown3 hgrow3 (by rw[hlen] at hb3;exact hb3)
  rw[←hlen] at j4 f4
  have HJ4:=hid j4
  have HF4:=hid (HF3.out.trans f4)
  have HOB:Hid ((Value.slice a3 (O.length+1) d3).ownBlock=(Value.slice av O.length cv).ownBlock∨∃k,(Value.slice a3 (O.length+1) d3).ownBlock=some k∧p≤k):=by
   rcases hb3 with e | e
   ·exact .inl e
   ·exact .inr ⟨_,e,by simp;omega⟩
  clear hown3 hgrow3 hb3 hd3 q0 q1 q2 q3 qf3 j4 f4
  go_wp2_with fail
  go_end0
  exact⟨rfl,_,HJ4.out.on ⟨rfl,rfl,rfl,Nat.le_refl _,fun _ _=>rfl⟩,⟨HF4.out.os,HF4.out.tape,HF4.out.output,HF4.out.size,HF4.out.block⟩,HOB.out⟩
theorem offer_any(jb B bd:Nat)(L S:List Nat)(O:List K)(lg sg lc sc:Nat)(ov:Value)(x:K)(w:World)(hj:JS w jb B bd L S O lg sg lc sc ov)(ha:x.a<S.length)(hb:x.b<S.length)(hs:S.getD x.a 0+S.getD x.b 0≤100000)(hbd:bd≤1024)(hO:O.length≤1000000)(hB:B≤w.heap.size):
  Calls Tryz.prog 124 #[.pointer (some ⟨jb,0,none⟩),x.val] w fun e w'=>e= .returned (.tuple #[])∧∃ov',JS w' jb B bd L S (O++if S.getD x.a 0+S.getD x.b 0≤bd then [x] else []) lg sg lc sc ov'∧Fr (fun k=>k=jb∨ov.ownBlock=some k) w w'∧(ov'.ownBlock=ov.ownBlock∨∃k,ov'.ownBlock=some k∧w.heap.size≤k):=by
 by_cases h:S.getD x.a 0+S.getD x.b 0≤bd
 ·rw[if_pos h]
  exact offer_yes jb B bd L S O lg sg lc sc ov x w hj ha hb hbd hO hB h
 ·rw[if_neg h,List.append_nil]
  refine(offer_no jb bd sg _ ov S sc B x w hj.hd hj.so ha hb hs hbd h).mono ?_
  rintro e w' ⟨rfl,hb⟩
  exact⟨rfl,ov,hj.on hb,⟨hb.os,hb.tape,hb.output,hb.size,fun k hk _=>hb.block k hk⟩, .inl rfl⟩
theorem cellsK_set(y:K): ∀ (R:List K) (k:Nat),k<R.length→cellsK (R.set k y)=(cellsK R).take (k*3)++y.cells++(cellsK R).drop (k*3+3)
 | [],k,h=>by simp at h
 | x::r,0,_=>by simp[cellsK,K.cells]
 | x::r,k+1,h=>by
   have ih:=cellsK_set y r k (by simpa using h)
   rw[show(k+1)*3=k*3+3 by omega]
   simpa[cellsK] using ih
theorem row_setK{cur:List Value}{R:List K}{n k:Nat}(hn:n=R.length)(h:cur.take (n*3)=cellsK R)(y:K)(hk:k<n):(cur.take (k*3)++y.cells++cur.drop (k*3+3)).take (n*3)=cellsK (R.set k y):=by
 subst hn
 have hl:=cellsK_len R
 have e:cur=cellsK R++cur.drop (R.length*3):=by rw[←h,List.take_append_drop]
 generalize cur.drop (R.length*3)=T at e
 subst e
 have e1:(cellsK R++T).take (k*3)=(cellsK R).take (k*3):=List.take_append_of_le_length (by omega)
 have e2:(cellsK R++T).drop (k*3+3)=(cellsK R).drop (k*3+3)++T:=List.drop_append_of_le_length (by omega)
 rw[e1,e2,←List.append_assoc,←cellsK_set y R k hk]
 rw[List.take_append_of_le_length (by rw[cellsK_len,List.length_set];omega)]
 exact List.take_of_length_le (by rw[cellsK_len,List.length_set];omega)
theorem wpList_append_in{P:Program}{w:World}{ops:Array Oper}{rest:List Oper}{o:Oper}{a:Act}{Q:Exit→Act→World→Prop}(hgd:o.guard=none)(s x:Operand)(t:TypeId)
  (ho:o.op= .call {callee:= .builtin .append,args:= #[s,x],argTypes:= #[t,t]}) (e:TypeId) (i:TypeInfo) (ht:P.underlying t=some (.slice e)) (hi:P.info? e=some i) (hsize:i.size=3)
  (B g k c:Nat) (R:List K) (hs:a.eval s= .slice (some ⟨g,0,none⟩) k c) (hown:w.ownsRow B e 3 (.slice (some ⟨g,0,none⟩) R.length c) R.length (cellsK R)) (hk:k<R.length)
  (ad:Addr) (cx:Nat) (y:K) (hx:a.eval x= .slice (some ad) 1 cx) (hnews: ∀j u,y.cells[j]? =some u→w.cell? (ad.add j)=some u)
  (h: ∀w',w'.ownsRow B e 3 (.slice (some ⟨g,0,none⟩) R.length c) R.length (cellsK (R.set k y))→Fr (fun j=>j=g) w w'→wpList P ops Q rest (a.put o.dst (.slice (some ⟨g,0,none⟩) (k+1:Nat) c)) w'):wpList P ops Q (o::rest) a w:=by
 refine wpList_plain hgd fun _ hK=> ?_
 rcases hown.2 with ⟨h1,_⟩ | ⟨g',cap,cur,h1,h2,h3,h4,h5,h6,h7⟩
 ·cases h1
 injection h1 with e1 e2 e3
 injection e1 with e1
 injection e1 with e1
 subst e1
 have e3:c=cap:=by omega
 subst e3
 have hr:=run_append_room (P:=P) w t o.type e i ht hi g k c cur h3 ad 1 cx y.cells (by rw[hsize];rfl) hnews (oneK y) (by omega) (by rw[hsize,h6];show k*3+3≤c*3;omega)
 rw[hsize] at hr
 unfold Oper.wp
 simp[execOp,ho,resolve,invoke,builtin,hs,hx,hr,Result.andThen]
 refine hK _ _ (h _ ⟨by rw[cellsK_len,List.length_set], .inr ⟨g,c,_,rfl,h2,setRow_heap w g _ _ e _ h3,h4,h5,?_,?_⟩⟩ ⟨rfl,rfl,rfl,by simp,fun j _ hj=>setRow_other w g j _ hj⟩)
 ·have hc:cur.toList.length=c*3:=by simpa using h6
  simp[K.cells]
  omega
 ·rw[←List.append_assoc]
  exact row_setK rfl h7 y hk
def half(l:K)(O:List K)(k:Nat):List K:=oth l (O.take k)++O.drop (oth l (O.take k)).length
theorem half_le(l:K)(O:List K)(k:Nat):(oth l (O.take k)).length≤k:=Nat.le_trans (oth_le l _) (by rw[List.length_take];omega)
theorem half_len(l:K)(O:List K){k:Nat}(hk:k≤O.length):(half l O k).length=O.length:=by
 have:=half_le l O k
 unfold half
 rw[List.length_append,List.length_drop]
 omega
theorem half_get(l:K)(O:List K)(k:Nat):(half l O k).getD k K.zero=O.getD k K.zero:=by
 have:=half_le l O k
 unfold half
 simp only[List.getD]
 rw[List.getElem?_append_right this,List.getElem?_drop]
 congr 2
 omega
theorem take_snocK{O:List K}{k:Nat}(h:k<O.length):O.take (k+1)=O.take k++[O.getD k K.zero]:=by
 rw[List.take_succ_eq_append_getElem h]
 simp[List.getD,h]
theorem half_skip{l:K}{O:List K}{k:Nat}(h:k<O.length)(hh:l.has (O.getD k K.zero).a=true∨l.has (O.getD k K.zero).b=true):oth l (O.take (k+1))=oth l (O.take k):=by
 rw[take_snocK h,oth_snoc,if_pos hh]
theorem half_stay{l:K}{O:List K}{k:Nat}(h:k<O.length)(h1:l.has (O.getD k K.zero).a=false)(h2:l.has (O.getD k K.zero).b=false):oth l (O.take (k+1))=oth l (O.take k)++[O.getD k K.zero]:=by
 rw[take_snocK h,oth_snoc,if_neg (by rw[h1,h2];simp)]
theorem half_set{l:K}{O:List K}{k:Nat}(h:k<O.length)(h1:l.has (O.getD k K.zero).a=false)(h2:l.has (O.getD k K.zero).b=false):(half l O k).set (oth l (O.take k)).length (O.getD k K.zero)=half l O (k+1):=by
 have hle:=half_le l O k
 unfold half
 rw[half_stay h h1 h2]
 generalize oth l (O.take k)=q at*
 have e:O.drop q.length=O[q.length]::O.drop (q.length+1):=List.drop_eq_getElem_cons (show q.length<O.length by omega)
 rw[List.set_append_right _ _ (Nat.le_refl _),Nat.sub_self,e,List.set_cons_zero,List.length_append,List.append_assoc]
 rfl
theorem bs_next(l:K)(O:List K){k:Nat}(h:k<O.length)(o:Nat):bs l (O.take (k+1)) o=bs l (O.take k) o+con l (O.getD k K.zero) o:=by rw[take_snocK h,bs_snoc]
theorem bs_bound{l:K}{M:Nat}{o:Nat}: ∀ {q:List K},(∀m,m∈q→m.n≤M)→bs l q o≤q.length*M
 | [],_=>by simp[bs]
 | m::r,h=>by
   have ih:=bs_bound (l:=l) (o:=o) (q:=r) (fun x hx=>h x (List.mem_cons_of_mem _ hx))
   have h1:=con_le l m o
   have h2:=h m List.mem_cons_self
   show con l m o+bs l r o≤(r.length+1)*M
   rw[Nat.add_mul]
   omega
end Go.Proofs.YtmenajiceaicpaaGreat
