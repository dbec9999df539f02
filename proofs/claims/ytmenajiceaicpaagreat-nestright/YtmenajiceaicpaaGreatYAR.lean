import Derived.Test.YtmenajiceaicpaaGreatYAQ
open Go.Lib (hid)
set_option maxRecDepth 100000
namespace Go.Proofs.YtmenajiceaicpaaGreat
open Go.RowKit
def M.zero:M:=⟨0,0,0⟩
def M.at(x:M)(w:World)(b o:Nat):Prop:=
 w.cell? ⟨b,o,none⟩=some (.int .i64 (x.v:Int))∧w.cell? ⟨b,o+1,none⟩=some (.int .i64 (x.l:Int))∧w.cell? ⟨b,o+2,none⟩=some (.int .i64 x.g)
def pickM(l:List M):Nat→M
 | 0=>M.zero
 | i+1=>if (pickM l i).g<(l.getD i M.zero).g then l.getD i M.zero else pickM l i
set_option maxHeartbeats 1600000 in
theorem next_any(cb fg fc:Nat)(l:List M)(w:World)(hm:l.length≤1000000)(hc:w.cell? ⟨cb,6,none⟩=some (.slice (some ⟨fg,0,none⟩) l.length fc))(hcl:cb<w.heap.size)(hfl:fg<w.heap.size)(hl: ∀j,j<l.length→(l.getD j M.zero).at w fg (j*3)):
  Calls Tryz.prog 98 #[.pointer (some ⟨cb,0,none⟩)] w fun e w'=>e= .returned (.tuple #[(pickM l l.length).val, .bool (decide (0<(pickM l l.length).g))])∧Below w.heap.size w w':=by
 obtain⟨R,HR⟩:=named (pickM l l.length)
 rw[HR.out]
 have HL:=hid hl
 have HC:=hid hc
 generalize hp:w.heap.size=p at*
 have hb2:=two_belowL w (.cells #[.int .i64 0, .int .i64 0, .int .i64 0] 136) (.cells #[.int .i64 0, .int .i64 0, .int .i64 0] 136)
 have c6:=(hb2.cell (p:=⟨cb,6,none⟩) (by show cb<w.heap.size;omega)).trans hc
 clear hl
 go_enter Tryz.func98,Tryz.ntmps98
 go_wp2_with fail
 have HB0:Hid (Below p w ((w.alloc (.cells #[.int .i64 0, .int .i64 0, .int .i64 0] 136)).alloc (.cells #[.int .i64 0, .int .i64 0, .int .i64 0] 136))):=hp▸hb2
 have HG1:Hid (((w.alloc (.cells #[.int .i64 0, .int .i64 0, .int .i64 0] 136)).alloc (.cells #[.int .i64 0, .int .i64 0, .int .i64 0] 136)).heap[p+1]? =some (.cells #[.int .i64 0, .int .i64 0, .int .i64 0] 136)):=by
  have h:=heap_top (w.alloc (.cells #[.int .i64 0, .int .i64 0, .int .i64 0] 136)) (.cells #[.int .i64 0, .int .i64 0, .int .i64 0] 136)
  rw[World.size_alloc,hp] at h
  exact h
 have HG0:Hid (((w.alloc (.cells #[.int .i64 0, .int .i64 0, .int .i64 0] 136)).alloc (.cells #[.int .i64 0, .int .i64 0, .int .i64 0] 136)).heap[p]? =some (.cells #[.int .i64 0, .int .i64 0, .int .i64 0] 136)):=(Below.heap_alloc _ _ _ (by simp[hp])).trans (by have h:=heap_top w (.cells #[.int .i64 0, .int .i64 0, .int .i64 0] 136);rw[hp] at h;exact h)
 generalize hW:((w.alloc (.cells #[.int .i64 0, .int .i64 0, .int .i64 0] 136)).alloc (.cells #[.int .i64 0, .int .i64 0, .int .i64 0] 136))=W at*
 clear hW hb2 c6 hc
 go_loopw [12] (fun i wr=> ∃ (k:Nat) (y:M),k≤l.length∧i= .int .i64 (k:Int)∧Hid (pickM l k=y)∧Hid (wr.heap[p+1]? =some y.obj)∧Hid (wr.heap[p]? =some (.cells #[.int .i64 0, .int .i64 0, .int .i64 0] 136))∧Hid (Below p w wr)) (fun i _=>l.length - (intOf i).toNat)
 case atStart=>exact⟨0,M.zero,Nat.zero_le _,rfl,rfl,HG1,HG0,HB0⟩
 case round=>
  obtain⟨k,y,hk,rfl,HY,HG,HGp,HBR⟩:=hrel
  obtain⟨z0,z1,z2⟩:=three_cells HG.out
  by_cases hlk:k<l.length
  ·have hlk':(k:Int)<l.length:=by omega
   have hkw:IntKind.i64.wrap ((k:Int)+1)=((k+1:Nat):Int):=by rw[IntKind.wrap_i64];omega
   obtain⟨x0,x1,x2⟩:=HL.out k hlk
   have y0:=(HBR.out.cell (p:=⟨fg,k*3,none⟩) hfl).trans x0
   have y1:=(HBR.out.cell (p:=⟨fg,k*3+1,none⟩) hfl).trans x1
   have y2:=(HBR.out.cell (p:=⟨fg,k*3+2,none⟩) hfl).trans x2
   obtain⟨x,HX⟩:=named (l.getD k M.zero)
   rw[HX.out] at y0 y1 y2
   clear x0 x1 x2
   have HSK:Hid (pickM l (k+1)=if y.g<x.g then x else y):=by show _=_;rw[←HX.out,←HY.out];rfl
   have HB2:Hid (Below p w (wr.alloc (.cells #[.int .i64 (x.v:Int), .int .i64 (x.l:Int), .int .i64 x.g] 136))):=HBR.out.alloc (by have:=lt_of_block HGp.out;omega) _
   have HG2:Hid ((wr.alloc (.cells #[.int .i64 (x.v:Int), .int .i64 (x.l:Int), .int .i64 x.g] 136)).heap[p+1]? =some y.obj):=(Below.heap_alloc _ _ _ (lt_of_block HG.out)).trans HG.out
   have HGp2:Hid ((wr.alloc (.cells #[.int .i64 (x.v:Int), .int .i64 (x.l:Int), .int .i64 x.g] 136)).heap[p]? =some (.cells #[.int .i64 0, .int .i64 0, .int .i64 0] 136)):=(Below.heap_alloc _ _ _ (lt_of_block HGp.out)).trans HGp.out
   obtain⟨s0,s1,s2⟩:=three_cells HG2.out
   have q0:(wr.alloc (.cells #[.int .i64 (x.v:Int), .int .i64 (x.l:Int), .int .i64 x.g] 136)).frozen? ⟨p+1,0,none⟩=false:=by simp[World.frozen?,HG2.out,M.obj]
   have q1:(wr.alloc (.cells #[.int .i64 (x.v:Int), .int .i64 (x.l:Int), .int .i64 x.g] 136)).frozen? ⟨p+1,1,none⟩=false:=by simp[World.frozen?,HG2.out,M.obj]
   have q2:(wr.alloc (.cells #[.int .i64 (x.v:Int), .int .i64 (x.l:Int), .int .i64 x.g] 136)).frozen? ⟨p+1,2,none⟩=false:=by simp[World.frozen?,HG2.out,M.obj]
   by_cases hV:y.g<x.g
   ·rw[if_pos hV] at HSK
    go_wp2_with fail
    exact⟨⟨k+1,x,hlk,by simp,HSK,three_setL HG2.out _ _ _,(three_farL _ (p+1) p (by omega) _ _ _).trans HGp2.out,three_belowL HB2.out (by omega) _ _ _⟩,by simp[intOf];omega⟩
   ·rw[if_neg hV] at HSK
    go_wp2_with fail
    exact⟨⟨k+1,y,hlk,by simp,HSK,HG2,HGp2,HB2⟩,by simp[intOf];omega⟩
  ·have hlk': ¬(k:Int)<l.length:=by omega
   obtain rfl:R=y:=by rw[←HR.out,←HY.out];congr 1;omega
   have q0:wr.frozen? ⟨p,0,none⟩=false:=by simp[World.frozen?,HGp.out]
   have q1:wr.frozen? ⟨p,1,none⟩=false:=by simp[World.frozen?,HGp.out]
   have q2:wr.frozen? ⟨p,2,none⟩=false:=by simp[World.frozen?,HGp.out]
   obtain⟨r0,r1,r2⟩:=three_cells HGp.out
   have HGE:=hid (three_setL HGp.out (.int .i64 (R.v:Int)) (.int .i64 (R.l:Int)) (.int .i64 R.g))
   have HBE:=hid (three_belowL HBR.out (Nat.le_refl p) (.int .i64 (R.v:Int)) (.int .i64 (R.l:Int)) (.int .i64 R.g))
   go_wp2_with fail
   go_region
   all_goals
    go_wp2_with fail
    generalize hU:((wr.setCell ⟨p,0,none⟩ (Value.int IntKind.i64 R.v)).setCell ⟨p,1,none⟩ (Value.int IntKind.i64 R.l)).setCell ⟨p,2,none⟩ (Value.int IntKind.i64 R.g)=U at*
    refine bodyPost_ret (v:= .tuple #[R.val, .bool (decide (0<R.g))]) ?_ rfl ⟨rfl,HBE.out.drew⟩
    rw[results_cell_tmp rfl]
    have hld:=run_loadVar_row (P:=Tryz.prog) U.drew p 136 136 _ _ _ HGE.out Tryz.underlying136 rfl (by kernel_rfl)
    simp[asAddr,Result.andThen,hld,M.val]
def mvV(Fi:Nat→M)(j:Nat):Value:=if j % 3=0 then .int .i64 ((Fi (j / 3)).v:Int) else if j % 3=1 then .int .i64 ((Fi (j / 3)).l:Int) else .int .i64 (Fi (j / 3)).g
def FT(w:World)(fg n:Nat)(Fi:Nat→M):Prop:=TbV w fg (n*3) 136 (mvV Fi)
theorem FT.at{w:World}{fg n:Nat}{Fi:Nat→M}(h:FT w fg n Fi){j:Nat}(hj:j<n):(Fi j).at w fg (j*3):=by
 have e0:(j*3) % 3=0∧(j*3) / 3=j:=by omega
 have e1:(j*3+1) % 3=1∧(j*3+1) / 3=j:=by omega
 have e2:(j*3+2) % 3=2∧(j*3+2) / 3=j:=by omega
 refine⟨(TbV.cell h (v:=j*3) (by omega)).trans ?_,(TbV.cell h (v:=j*3+1) (by omega)).trans ?_,(TbV.cell h (v:=j*3+2) (by omega)).trans ?_⟩
 ·simp[mvV,e0.1,e0.2]
 ·simp[mvV,e1.1,e1.2]
 ·simp[mvV,e2.1,e2.2]
def setM(Fi:Nat→M)(j:Nat)(m:M)(i:Nat):M:=if i=j then m else Fi i
theorem FT.set{w:World}{fg n:Nat}{Fi:Nat→M}(h:FT w fg n Fi)(j:Nat)(m:M):FT (((w.setCell ⟨fg,j*3,none⟩ (.int .i64 (m.v:Int))).setCell ⟨fg,j*3+1,none⟩ (.int .i64 (m.l:Int))).setCell ⟨fg,j*3+2,none⟩ (.int .i64 m.g)) fg n (setM Fi j m):=by
 refine TbV.congr (((TbV.set h (j*3) _).set (j*3+1) _).set (j*3+2) _) (fun i hi=> ?_)
 unfold updV mvV setM
 by_cases e:i / 3=j
 ·rw[if_pos e]
  by_cases c2:i=j*3+2
  ·simp[c2]
  ·by_cases c1:i=j*3+1
   ·have a1:(j*3+1) % 3=1:=by omega
    simp[c1,a1]
   ·have c0:i=j*3:=by omega
    have a0:(j*3) % 3=0:=by omega
    simp[c0,a0]
 ·rw[if_neg e,if_neg (by omega),if_neg (by omega),if_neg (by omega)]
structure CV(w:World)(cb n k:Nat)(bd:Int)(lg lc sg sc eg ec pg pc:Nat)(Lb S:Nat→Nat)(Le:Nat→Int)(mb nn:Nat→Nat)(F:Nat→Nat→Nat):Prop where
 hd:Hd w cb n k bd lg lc sg sc eg ec pg pc
 lab: ∀v,v<n→w.cell? ⟨lg,v,none⟩=some (.int .i64 ((Lb v:Nat):Int))
 map: ∀v,v<n→w.cell? ⟨pg,v,none⟩=some (.map (some (mb v)))
 mi: ∀v,v<n→MapI w (mb v) (nn v) k (F v)
 sz: ∀y,y<k→w.cell? ⟨sg,y,none⟩=some (.int .i64 ((S y:Nat):Int))
 le: ∀y,y<k→w.cell? ⟨eg,y,none⟩=some (.int .i64 (Le y))
 k0:0<k
 k2:k≤1024
 lb: ∀v,v<n→Lb v<k
 fb: ∀v y,F v y≤100000000
theorem CV.fr{D:Nat→Prop}{w w':World}{cb n k:Nat}{bd:Int}{lg lc sg sc eg ec pg pc:Nat}{Lb S:Nat→Nat}{Le:Nat→Int}{mb nn:Nat→Nat}{F:Nat→Nat→Nat}(h:CV w cb n k bd lg lc sg sc eg ec pg pc Lb S Le mb nn F)(hf:Fr D w w')(h1: ¬D cb)(h2: ¬D lg)(h3: ¬D sg)(h4: ¬D eg)(h5: ¬D pg)(h6: ∀v,v<n→¬D (mb v)):CV w' cb n k bd lg lc sg sc eg ec pg pc Lb S Le mb nn F:=by
 have hz:=hf.size
 have H:=h.hd
 have a1:=H.cl
 have a2:=H.ll
 have a3:=H.sl
 have a4:=H.el
 have a5:=H.pl
 have cc: ∀ (b o:Nat),b<w.heap.size→¬D b→w'.cell? ⟨b,o,none⟩=w.cell? ⟨b,o,none⟩:=fun b o hb hn=>by
  unfold World.cell?
  simp only[hf.block b hb hn]
 exact⟨⟨(cc _ _ a1 h1).trans H.c0,(cc _ _ a1 h1).trans H.c1,(cc _ _ a1 h1).trans H.c2,(cc _ _ a1 h1).trans H.c3,(cc _ _ a1 h1).trans H.c5,by omega,by omega,by omega,by omega,by omega⟩,fun v hv=>(cc _ _ a2 h2).trans (h.lab v hv),fun v hv=>(cc _ _ a5 h5).trans (h.map v hv),fun v hv=>(h.mi v hv).fr hf (h6 v hv),fun y hy=>(cc _ _ a3 h3).trans (h.sz y hy),fun y hy=>(cc _ _ a4 h4).trans (h.le y hy),h.k0,h.k2,h.lb,h.fb⟩
theorem CV.on{w w':World}{cb n k:Nat}{bd:Int}{lg lc sg sc eg ec pg pc:Nat}{Lb S:Nat→Nat}{Le:Nat→Int}{mb nn:Nat→Nat}{F:Nat→Nat→Nat}(h:CV w cb n k bd lg lc sg sc eg ec pg pc Lb S Le mb nn F)(hb:Below w.heap.size w w'):CV w' cb n k bd lg lc sg sc eg ec pg pc Lb S Le mb nn F:=
 h.fr (D:=fun _=>False) ⟨hb.os,hb.tape,hb.output,hb.size,fun j hj _=>hb.block j hj⟩ id id id id id (fun _ _=>id)
def Fst(k:Nat)(bd:Int)(Lb S:Nat→Nat)(Le:Nat→Int)(F:Nat→Nat→Nat)(v:Nat)(m:M):Prop:=FoS k (F v) S Le bd (F v (Lb v)) v (fun _=>True) m
theorem CV.firstOf{w:World}{cb n k:Nat}{bd:Int}{lg lc sg sc eg ec pg pc:Nat}{Lb S:Nat→Nat}{Le:Nat→Int}{mb nn:Nat→Nat}{F:Nat→Nat→Nat}(h:CV w cb n k bd lg lc sg sc eg ec pg pc Lb S Le mb nn F){v:Nat}(hv:v<n):
  Calls Tryz.prog 156 #[.pointer (some ⟨cb,0,none⟩), .int .i64 v] w fun e w'=> ∃m:M,e= .returned m.val∧Hid (Fst k bd Lb S Le F v m)∧Below w.heap.size w w':=
 firstOf_any cb n k bd lg lc sg sc eg ec pg pc (mb v) (nn v) v (Lb v) (F v) S Le w h.hd (h.lab v hv) (h.map v hv) h.sz h.le hv h.k0 h.k2 (h.mi v hv) (by have:=h.lb v hv;have:=h.k2;omega) (h.fb v)
def cellsO(bd:Int)(n k lg lc sg sc eg ec bg bc pg pc fg fc:Nat):Obj:= .cells #[.int .i64 bd, .slice (some ⟨lg,0,none⟩) n lc, .slice (some ⟨sg,0,none⟩) k sc, .slice (some ⟨eg,0,none⟩) k ec, .slice (some ⟨bg,0,none⟩) n bc, .slice (some ⟨pg,0,none⟩) n pc, .slice (some ⟨fg,0,none⟩) n fc] 143
theorem cellsO_hd{w:World}{cb n k:Nat}{bd:Int}{lg lc sg sc eg ec bg bc pg pc fg fc:Nat}(h:w.heap[cb]? =some (cellsO bd n k lg lc sg sc eg ec bg bc pg pc fg fc))(a1:lg<w.heap.size)(a2:sg<w.heap.size)(a3:eg<w.heap.size)(a4:pg<w.heap.size):Hd w cb n k bd lg lc sg sc eg ec pg pc:=
 ⟨by simp[World.cell?,h,cellsO],by simp[World.cell?,h,cellsO],by simp[World.cell?,h,cellsO],by simp[World.cell?,h,cellsO],by simp[World.cell?,h,cellsO],lt_of_block h,a1,a2,a3,a4⟩
theorem cellsO_c6{w:World}{cb n k:Nat}{bd:Int}{lg lc sg sc eg ec bg bc pg pc fg fc:Nat}(h:w.heap[cb]? =some (cellsO bd n k lg lc sg sc eg ec bg bc pg pc fg fc)):w.cell? ⟨cb,6,none⟩=some (.slice (some ⟨fg,0,none⟩) n fc):=by simp[World.cell?,h,cellsO]
theorem cellsO_free{w:World}{cb n k:Nat}{bd:Int}{lg lc sg sc eg ec bg bc pg pc fg fc:Nat}(h:w.heap[cb]? =some (cellsO bd n k lg lc sg sc eg ec bg bc pg pc fg fc))(o:Nat):w.frozen? ⟨cb,o,none⟩=false:=by simp[World.frozen?,h,cellsO]
theorem cellsO_bound{w:World}{cb n k:Nat}{bd:Int}{lg lc sg sc eg ec bg bc pg pc fg fc:Nat}(h:w.heap[cb]? =some (cellsO bd n k lg lc sg sc eg ec bg bc pg pc fg fc))(bd':Int):(w.setCell ⟨cb,0,none⟩ (.int .i64 bd')).heap[cb]? =some (cellsO bd' n k lg lc sg sc eg ec bg bc pg pc fg fc):=
 (heap_setCell_same w cb 0 _ _ _ h).trans (by simp[cellsO])
structure Apt(cb n lg sg eg pg fg:Nat)(mb:Nat→Nat):Prop where
 cl:lg≠cb
 cs:sg≠cb
 ce:eg≠cb
 cp:pg≠cb
 cf:fg≠cb
 fl:lg≠fg
 fs:sg≠fg
 fe:eg≠fg
 fp:pg≠fg
 cm: ∀v,v<n→mb v≠cb
 fm: ∀v,v<n→mb v≠fg
theorem CV.bound{w:World}{cb n k:Nat}{bd:Int}{lg lc sg sc eg ec bg bc pg pc fg fc:Nat}{Lb S:Nat→Nat}{Le:Nat→Int}{mb nn:Nat→Nat}{F:Nat→Nat→Nat}(h:CV w cb n k bd lg lc sg sc eg ec pg pc Lb S Le mb nn F)(ho:w.heap[cb]? =some (cellsO bd n k lg lc sg sc eg ec bg bc pg pc fg fc))(ha:Apt cb n lg sg eg pg fg mb)(bd':Int):CV (w.setCell ⟨cb,0,none⟩ (.int .i64 bd')) cb n k bd' lg lc sg sc eg ec pg pc Lb S Le mb nn F:=by
 have hf:Fr (fun b=>b=cb) w (w.setCell ⟨cb,0,none⟩ (.int .i64 bd')):=(Fr.refl _ _).setCell _ _ rfl
 have hz:=hf.size
 have a2:=h.hd.ll
 have a3:=h.hd.sl
 have a4:=h.hd.el
 have a5:=h.hd.pl
 have cc: ∀ (b o:Nat),b<w.heap.size→b≠cb→(w.setCell ⟨cb,0,none⟩ (.int .i64 bd')).cell? ⟨b,o,none⟩=w.cell? ⟨b,o,none⟩:=fun b o hb hn=>by
  unfold World.cell?
  simp only[hf.block b hb hn]
 exact⟨cellsO_hd (cellsO_bound ho bd') (by omega) (by omega) (by omega) (by omega),fun v hv=>(cc _ _ a2 ha.cl).trans (h.lab v hv),fun v hv=>(cc _ _ a5 ha.cp).trans (h.map v hv),fun v hv=>(h.mi v hv).fr hf (ha.cm v hv),fun y hy=>(cc _ _ a3 ha.cs).trans (h.sz y hy),fun y hy=>(cc _ _ a4 ha.ce).trans (h.le y hy),h.k0,h.k2,h.lb,h.fb⟩
theorem Fr.set3{D:Nat→Prop}{a b:World}(h:Fr D a b)(g:Nat)(hg:D g)(i j l:Nat)(x y z:Value):Fr D a (((b.setCell ⟨g,i,none⟩ x).setCell ⟨g,j,none⟩ y).setCell ⟨g,l,none⟩ z):=
 have h1:Fr D a (b.setCell ⟨g,i,none⟩ x):=h.setCell ⟨g,i,none⟩ x hg
 have h2:Fr D a ((b.setCell ⟨g,i,none⟩ x).setCell ⟨g,j,none⟩ y):=h1.setCell ⟨g,j,none⟩ y hg
 h2.setCell ⟨g,l,none⟩ z hg
set_option maxHeartbeats 1600000 in
theorem setBound_any(cb n k:Nat)(bd bd':Int)(lg lc sg sc eg ec bg bc pg pc fg fc:Nat)(Lb S:Nat→Nat)(Le:Nat→Int)(mb nn:Nat→Nat)(F:Nat→Nat→Nat)(Fi:Nat→M)(w:World)(hv:CV w cb n k bd lg lc sg sc eg ec pg pc Lb S Le mb nn F)(ho:w.heap[cb]? =some (cellsO bd n k lg lc sg sc eg ec bg bc pg pc fg fc))(ha:Apt cb n lg sg eg pg fg mb)(ht:FT w fg n Fi)(hn:n≤1024):
  Calls Tryz.prog 130 #[.pointer (some ⟨cb,0,none⟩), .int .i64 bd'] w fun e w'=> ∃Fi':Nat→M,e= .returned (.tuple #[])∧CV w' cb n k bd' lg lc sg sc eg ec pg pc Lb S Le mb nn F∧w'.heap[cb]? =some (cellsO bd' n k lg lc sg sc eg ec bg bc pg pc fg fc)∧FT w' fg n Fi'∧(∀v,v<n→Fst k bd' Lb S Le F v (Fi' v))∧Fr (fun b=>b=cb∨b=fg) w w':=by
 have c0:=hv.hd.c0
 have f0:=cellsO_free ho 0
 have HV:=hid (hv.bound ho ha bd')
 have HO:=hid (cellsO_bound ho bd')
 have HT:Hid (FT (w.setCell ⟨cb,0,none⟩ (.int .i64 bd')) fg n Fi):=TbV.same ht (Below.heap_setCell _ _ _ _ ha.cf)
 have HF:Hid (Fr (fun b=>b=cb∨b=fg) w (w.setCell ⟨cb,0,none⟩ (.int .i64 bd'))):=(Fr.refl _ _).setCell _ _ (.inl rfl)
 have c6:=cellsO_c6 HO.out
 have HA:=hid ha
 clear hv ho ht ha
 go_enter Tryz.func130,Tryz.ntmps130
 go_wp2_with fail
 generalize hW:w.setCell ⟨cb,0,none⟩ (.int .i64 bd')=W at*
 clear hW c6 c0 f0
 go_loopw [14] (fun i wr=> ∃ (j:Nat) (Fj:Nat→M),j≤n∧i= .int .i64 (j:Int)∧Hid (CV wr cb n k bd' lg lc sg sc eg ec pg pc Lb S Le mb nn F)∧Hid (wr.heap[cb]? =some (cellsO bd' n k lg lc sg sc eg ec bg bc pg pc fg fc))∧Hid (FT wr fg n Fj)∧Hid (∀v,v<j→Fst k bd' Lb S Le F v (Fj v))∧Hid (Fr (fun b=>b=cb∨b=fg) w wr)) (fun i _=>n - (intOf i).toNat)
 case atStart=>exact⟨0,Fi,Nat.zero_le _,rfl,HV,HO,HT,fun v hv=>absurd hv (Nat.not_lt_zero _),HF⟩
 case round=>
  clear HV HO HT HF
  obtain⟨j,Fj,hj,rfl,HV,HO,HT,HS,HF⟩:=hrel
  by_cases hlk:j<n
  ·have hlk':(j:Int)<n:=by omega
   have c6:=cellsO_c6 HO.out
   obtain⟨x0,x1,x2⟩:=HT.out.at hlk
   have HCO:Hid (Calls Tryz.prog 156 #[.pointer (some ⟨cb,0,none⟩), .int .i64 (j:Int)] wr.drew fun e w'=> ∃m:M,e= .returned m.val∧Hid (Fst k bd' Lb S Le F j m)∧Below wr.heap.size wr w'):=by
    refine((HV.out.on (w':=wr.drew) ⟨rfl,rfl,rfl,Nat.le_refl _,fun _ _=>rfl⟩).firstOf hlk).mono ?_
    rintro e w' ⟨m,rfl,h,hb⟩
    exact⟨m,rfl,h,hb.os,hb.tape,hb.output,hb.size,hb.block⟩
   have hcf:=HA.out.cf
   have hcf2:=HA.out.cf.symm
   have hcl:cb<wr.heap.size:=lt_of_block HO.out
   have hfl:fg<wr.heap.size:=TbV.lt HT.out
   go_wp2_with fail
   go_region_held3 (fun w'=>w'.cell? ⟨cb,6,none⟩=some (.slice (some ⟨fg,0,none⟩) n fc)) (go_keep) ((go_at_call 156;refine HCO.out.mono ?_;rintro e w2 ⟨m,rfl,HM,hb2⟩;have v6:=(hb2.cell (p:=⟨cb,6,none⟩) hcl).trans c6;have v0:=(hb2.cell (p:=⟨fg,j*3,none⟩) hfl).trans x0;have v1:=(hb2.cell (p:=⟨fg,j*3+1,none⟩) hfl).trans x1;have v2:=(hb2.cell (p:=⟨fg,j*3+2,none⟩) hfl).trans x2;have HT2:=hid (TbV.same HT.out (hb2.block fg hfl));have q0:=TbV.free HT2.out (j*3);have q1:=TbV.free HT2.out (j*3+1);have q2:=TbV.free HT2.out (j*3+2);unfold M.val))
   have HT3:=hid (FT.set HT2.out j m)
   have hfu:Fr (fun b=>b=fg) w2 (((w2.setCell ⟨fg,j*3,none⟩ (.int .i64 (m.v:Int))).setCell ⟨fg,j*3+1,none⟩ (.int .i64 (m.l:Int))).setCell ⟨fg,j*3+2,none⟩ (.int .i64 m.g)):=Fr.set3 (D:=fun b=>b=fg) (Fr.refl _ w2) fg rfl _ _ _ _ _ _
   have HA':=HA.out
   have HV3:=hid ((HV.out.on hb2).fr hfu hcf2 HA'.fl HA'.fs HA'.fe HA'.fp HA'.fm)
   have HO3:=hid (((hfu.block cb (Nat.lt_of_lt_of_le hcl hb2.size) hcf2).trans (hb2.block cb hcl)).trans HO.out)
   have HF3:Hid (Fr (fun b=>b=cb∨b=fg) w (((w2.setCell ⟨fg,j*3,none⟩ (.int .i64 (m.v:Int))).setCell ⟨fg,j*3+1,none⟩ (.int .i64 (m.l:Int))).setCell ⟨fg,j*3+2,none⟩ (.int .i64 m.g))):=Fr.set3 (D:=fun b=>b=cb∨b=fg) (HF.out.trans ⟨hb2.os,hb2.tape,hb2.output,hb2.size,fun i hi _=>hb2.block i hi⟩) fg (.inr rfl) _ _ _ _ _ _
   have HS3:Hid (∀v,v<j+1→Fst k bd' Lb S Le F v (setM Fj j m v)):=fun v hv=>by
    unfold setM
    by_cases e:v=j
    ·rw[if_pos e,e];exact HM.out
    ·rw[if_neg e];exact HS.out v (by omega)
   generalize hU:(((w2.setCell ⟨fg,j*3,none⟩ (.int .i64 (m.v:Int))).setCell ⟨fg,j*3+1,none⟩ (.int .i64 (m.l:Int))).setCell ⟨fg,j*3+2,none⟩ (.int .i64 m.g))=U at*
   clear hU hfu HA' hb2 v0 v1 v2 v6 q0 q1 q2 x0 x1 x2 HT2
   go_wp2_with fail
   exact⟨⟨j+1,_,hlk,by simp,HV3,HO3,HT3,HS3,HF3⟩,by simp[intOf];omega⟩
  ·have hlk': ¬(j:Int)<n:=by omega
   obtain rfl:j=n:=by omega
   go_wp2_with fail
   refine bodyPost_end (results_none rfl _ _ _) rfl ?_
   exact⟨rfl,HV.out,HO.out,Fj,HT.out,HS.out,HF.out⟩
def Agn(k:Nat)(bd:Int)(Lb S:Nat→Nat)(Le:Nat→Int)(F:Nat→Nat→Nat)(x y:Nat)(Fi Fi':Nat→M)(v:Nat):Prop:=if 0<F v x∨0<F v y then Fst k bd Lb S Le F v (Fi' v) else Fi' v=Fi v
set_option maxHeartbeats 1600000 in
theorem lookAgain_any(cb n k:Nat)(bd:Int)(lg lc sg sc eg ec bg bc pg pc fg fc x y:Nat)(Lb S:Nat→Nat)(Le:Nat→Int)(mb nn:Nat→Nat)(F:Nat→Nat→Nat)(Fi:Nat→M)(w:World)(hv:CV w cb n k bd lg lc sg sc eg ec pg pc Lb S Le mb nn F)(ho:w.heap[cb]? =some (cellsO bd n k lg lc sg sc eg ec bg bc pg pc fg fc))(ha:Apt cb n lg sg eg pg fg mb)(ht:FT w fg n Fi)(hn:n≤1024)(hx:x<k)(hy:y<k):
  Calls Tryz.prog 132 #[.pointer (some ⟨cb,0,none⟩), .int .i64 x, .int .i64 y] w fun e w'=> ∃Fi':Nat→M,e= .returned (.tuple #[])∧CV w' cb n k bd lg lc sg sc eg ec pg pc Lb S Le mb nn F∧w'.heap[cb]? =some (cellsO bd n k lg lc sg sc eg ec bg bc pg pc fg fc)∧FT w' fg n Fi'∧(∀v,v<n→Agn k bd Lb S Le F x y Fi Fi' v)∧Fr (fun b=>b=fg) w w':=by
 have HV:=hid hv
 have HO:=hid ho
 have HT:=hid ht
 have HF:Hid (Fr (fun b=>b=fg) w w):=Fr.refl _ _
 have c5:=hv.hd.c5
 have HA:=hid ha
 have hk2:=hv.k2
 clear hv ho ht ha
 go_enter Tryz.func132,Tryz.ntmps132
 go_wp2_with fail
 clear c5
 go_loopw [13] (fun i wr=> ∃ (j:Nat) (Fj:Nat→M),j≤n∧i= .int .i64 (j:Int)∧Hid (CV wr cb n k bd lg lc sg sc eg ec pg pc Lb S Le mb nn F)∧Hid (wr.heap[cb]? =some (cellsO bd n k lg lc sg sc eg ec bg bc pg pc fg fc))∧Hid (FT wr fg n Fj)∧Hid (∀v,v<j→Agn k bd Lb S Le F x y Fi Fj v)∧Hid (∀v,j≤v→Fj v=Fi v)∧Hid (Fr (fun b=>b=fg) w wr)) (fun i _=>n - (intOf i).toNat)
 case atStart=>exact⟨0,Fi,Nat.zero_le _,rfl,HV,HO,HT,fun v hv=>absurd hv (Nat.not_lt_zero _),fun _ _=>rfl,HF⟩
 case round=>
  clear HV HO HT HF
  obtain⟨j,Fj,hj,rfl,HV,HO,HT,HS,HU,HF⟩:=hrel
  by_cases hlk:j<n
  ·have hlk':(j:Int)<n:=by omega
   have c6:=cellsO_c6 HO.out
   have cm:=HV.out.map j hlk
   have l1:=(HV.out.mi j hlk).look (x:=x) (by omega)
   have l2:=(HV.out.mi j hlk).look (x:=y) (by omega)
   obtain⟨fx,HFX⟩:=named (F j x)
   obtain⟨fy,HFY⟩:=named (F j y)
   rw[HFX.out] at l1
   rw[HFY.out] at l2
   obtain⟨x0,x1,x2⟩:=HT.out.at hlk
   have HCO:Hid (Calls Tryz.prog 156 #[.pointer (some ⟨cb,0,none⟩), .int .i64 (j:Int)] wr.drew fun e w'=> ∃m:M,e= .returned m.val∧Hid (Fst k bd Lb S Le F j m)∧Below wr.heap.size wr w'):=by
    refine((HV.out.on (w':=wr.drew) ⟨rfl,rfl,rfl,Nat.le_refl _,fun _ _=>rfl⟩).firstOf hlk).mono ?_
    rintro e w' ⟨m,rfl,h,hb⟩
    exact⟨m,rfl,h,hb.os,hb.tape,hb.output,hb.size,hb.block⟩
   have hcf:=HA.out.cf
   have hcf2:=HA.out.cf.symm
   have hcl:cb<wr.heap.size:=lt_of_block HO.out
   have hfl:fg<wr.heap.size:=TbV.lt HT.out
   have hcase:(0<fx)∨(¬0<fx∧0<fy)∨(¬0<fx∧¬0<fy):=by omega
   rcases hcase with h1 | ⟨h1,h2⟩ | ⟨h1,h2⟩
   ·have i1:(0:Int)<fx:=by omega
    go_wp2_with fail
    go_region_held3 (fun w'=>w'.cell? ⟨cb,6,none⟩=some (.slice (some ⟨fg,0,none⟩) n fc)) (go_keep) ((go_at_call 156;refine HCO.out.mono ?_;rintro e w2 ⟨m,rfl,HM,hb2⟩;have v6:=(hb2.cell (p:=⟨cb,6,none⟩) hcl).trans c6;have v0:=(hb2.cell (p:=⟨fg,j*3,none⟩) hfl).trans x0;have v1:=(hb2.cell (p:=⟨fg,j*3+1,none⟩) hfl).trans x1;have v2:=(hb2.cell (p:=⟨fg,j*3+2,none⟩) hfl).trans x2;have HT2:=hid (TbV.same HT.out (hb2.block fg hfl));have q0:=TbV.free HT2.out (j*3);have q1:=TbV.free HT2.out (j*3+1);have q2:=TbV.free HT2.out (j*3+2);unfold M.val))
    have HT3:=hid (FT.set HT2.out j m)
    have hfu:Fr (fun b=>b=fg) w2 (((w2.setCell ⟨fg,j*3,none⟩ (.int .i64 (m.v:Int))).setCell ⟨fg,j*3+1,none⟩ (.int .i64 (m.l:Int))).setCell ⟨fg,j*3+2,none⟩ (.int .i64 m.g)):=Fr.set3 (D:=fun b=>b=fg) (Fr.refl _ w2) fg rfl _ _ _ _ _ _
    have HA':=HA.out
    have HV3:=hid ((HV.out.on hb2).fr hfu hcf2 HA'.fl HA'.fs HA'.fe HA'.fp HA'.fm)
    have HO3:=hid (((hfu.block cb (Nat.lt_of_lt_of_le hcl hb2.size) hcf2).trans (hb2.block cb hcl)).trans HO.out)
    have HF3:Hid (Fr (fun b=>b=fg) w (((w2.setCell ⟨fg,j*3,none⟩ (.int .i64 (m.v:Int))).setCell ⟨fg,j*3+1,none⟩ (.int .i64 (m.l:Int))).setCell ⟨fg,j*3+2,none⟩ (.int .i64 m.g))):=Fr.set3 (D:=fun b=>b=fg) (HF.out.trans ⟨hb2.os,hb2.tape,hb2.output,hb2.size,fun i hi _=>hb2.block i hi⟩) fg rfl _ _ _ _ _ _
    have HS3:Hid (∀v,v<j+1→Agn k bd Lb S Le F x y Fi (setM Fj j m) v):=fun v hv=>by
     by_cases e:v=j
     ·subst e
      unfold Agn setM
      rw[if_pos rfl,if_pos (by rw[HFX.out,HFY.out];exact .inl h1)]
      exact HM.out
     ·have h:=HS.out v (by omega)
      unfold Agn setM at*
      rw[if_neg e]
      exact h
    have HU3:Hid (∀v,j+1≤v→setM Fj j m v=Fi v):=fun v hv=>by
     unfold setM
     rw[if_neg (by omega)]
     exact HU.out v (by omega)
    generalize hU:(((w2.setCell ⟨fg,j*3,none⟩ (.int .i64 (m.v:Int))).setCell ⟨fg,j*3+1,none⟩ (.int .i64 (m.l:Int))).setCell ⟨fg,j*3+2,none⟩ (.int .i64 m.g))=U at*
    clear hU hfu HA' hb2 v0 v1 v2 v6 q0 q1 q2 x0 x1 x2 HT2
    go_wp2_with fail
    exact⟨⟨j+1,_,hlk,by simp,HV3,HO3,HT3,HS3,HU3,HF3⟩,by simp[intOf];omega⟩
   ·have i1: ¬(0:Int)<fx:=by omega
    have i2:(0:Int)<fy:=by omega
    go_wp2_with fail
    go_region_held3 (fun w'=>w'.cell? ⟨cb,6,none⟩=some (.slice (some ⟨fg,0,none⟩) n fc)) (go_keep) ((go_at_call 156;refine HCO.out.mono ?_;rintro e w2 ⟨m,rfl,HM,hb2⟩;have v6:=(hb2.cell (p:=⟨cb,6,none⟩) hcl).trans c6;have v0:=(hb2.cell (p:=⟨fg,j*3,none⟩) hfl).trans x0;have v1:=(hb2.cell (p:=⟨fg,j*3+1,none⟩) hfl).trans x1;have v2:=(hb2.cell (p:=⟨fg,j*3+2,none⟩) hfl).trans x2;have HT2:=hid (TbV.same HT.out (hb2.block fg hfl));have q0:=TbV.free HT2.out (j*3);have q1:=TbV.free HT2.out (j*3+1);have q2:=TbV.free HT2.out (j*3+2);unfold M.val))
    have HT3:=hid (FT.set HT2.out j m)
    have hfu:Fr (fun b=>b=fg) w2 (((w2.setCell ⟨fg,j*3,none⟩ (.int .i64 (m.v:Int))).setCell ⟨fg,j*3+1,none⟩ (.int .i64 (m.l:Int))).setCell ⟨fg,j*3+2,none⟩ (.int .i64 m.g)):=Fr.set3 (D:=fun b=>b=fg) (Fr.refl _ w2) fg rfl _ _ _ _ _ _
    have HA':=HA.out
    have HV3:=hid ((HV.out.on hb2).fr hfu hcf2 HA'.fl HA'.fs HA'.fe HA'.fp HA'.fm)
    have HO3:=hid (((hfu.block cb (Nat.lt_of_lt_of_le hcl hb2.size) hcf2).trans (hb2.block cb hcl)).trans HO.out)
    have HF3:Hid (Fr (fun b=>b=fg) w (((w2.setCell ⟨fg,j*3,none⟩ (.int .i64 (m.v:Int))).setCell ⟨fg,j*3+1,none⟩ (.int .i64 (m.l:Int))).setCell ⟨fg,j*3+2,none⟩ (.int .i64 m.g))):=Fr.set3 (D:=fun b=>b=fg) (HF.out.trans ⟨hb2.os,hb2.tape,hb2.output,hb2.size,fun i hi _=>hb2.block i hi⟩) fg rfl _ _ _ _ _ _
    have HS3:Hid (∀v,v<j+1→Agn k bd Lb S Le F x y Fi (setM Fj j m) v):=fun v hv=>by
     by_cases e:v=j
     ·subst e
      unfold Agn setM
      rw[if_pos rfl,if_pos (by rw[HFX.out,HFY.out];exact .inr h2)]
      exact HM.out
     ·have h:=HS.out v (by omega)
      unfold Agn setM at*
      rw[if_neg e]
      exact h
    have HU3:Hid (∀v,j+1≤v→setM Fj j m v=Fi v):=fun v hv=>by
     unfold setM
     rw[if_neg (by omega)]
     exact HU.out v (by omega)
    generalize hU:(((w2.setCell ⟨fg,j*3,none⟩ (.int .i64 (m.v:Int))).setCell ⟨fg,j*3+1,none⟩ (.int .i64 (m.l:Int))).setCell ⟨fg,j*3+2,none⟩ (.int .i64 m.g))=U at*
    clear hU hfu HA' hb2 v0 v1 v2 v6 q0 q1 q2 x0 x1 x2 HT2
    go_wp2_with fail
    exact⟨⟨j+1,_,hlk,by simp,HV3,HO3,HT3,HS3,HU3,HF3⟩,by simp[intOf];omega⟩
   ·have i1: ¬(0:Int)<fx:=by omega
    have i2: ¬(0:Int)<fy:=by omega
    have HS3:Hid (∀v,v<j+1→Agn k bd Lb S Le F x y Fi Fj v):=fun v hv=>by
     by_cases e:v=j
     ·subst e
      unfold Agn
      rw[if_neg (by rw[HFX.out,HFY.out];omega)]
      exact HU.out v (Nat.le_refl _)
     ·exact HS.out v (by omega)
    have HU3:Hid (∀v,j+1≤v→Fj v=Fi v):=fun v hv=>HU.out v (by omega)
    go_wp2_with fail
    exact⟨⟨j+1,_,hlk,by simp,HV,HO,HT,HS3,HU3,HF⟩,by simp[intOf];omega⟩
  ·have hlk': ¬(j:Int)<n:=by omega
   obtain rfl:j=n:=by omega
   go_wp2_with fail
   refine bodyPost_end (results_none rfl _ _ _) rfl ?_
   exact⟨rfl,HV.out,HO.out,Fj,HT.out,HS.out,HF.out⟩
structure LstAt(Lb:Nat→Nat)(n x:Nat)(r:Int):Prop where
 none:r= -1→∀v,v<n→Lb v≠x
 some:r≠ -1→∃u:Nat,r=(u:Int)∧u<n∧Lb u=x∧∀v,v<u→Lb v≠x
set_option maxHeartbeats 1600000 in
theorem index_any(lg n lc x:Nat)(Lb:Nat→Nat)(w:World)(hl: ∀v,v<n→w.cell? ⟨lg,v,none⟩=some (.int .i64 ((Lb v:Nat):Int)))(hn:n≤1024):
  Calls Tryz.prog 131 #[.slice (some ⟨lg,0,none⟩) n lc, .int .i64 x] w fun e w'=> ∃r:Int,e= .returned (.int .i64 r)∧LstAt Lb n x r∧w'=w:=by
 have HL:=hid hl
 clear hl
 go_enter Tryz.func131,Tryz.ntmps131
 go_wp2_with fail
 go_loopw [8] (fun i wr=> ∃j:Nat,j≤n∧i= .int .i64 (j:Int)∧Hid (∀v,v<j→Lb v≠x)∧wr=w) (fun i _=>n - (intOf i).toNat)
 case atStart=>exact⟨0,Nat.zero_le _,rfl,fun v hv=>absurd hv (Nat.not_lt_zero _),rfl⟩
 case round=>
  obtain⟨j,hj,rfl,HS,rfl⟩:=hrel
  by_cases hlk:j<n
  ·have hlk':(j:Int)<n:=by omega
   have c:=HL.out j hlk
   obtain⟨z,HZ⟩:=named (Lb j)
   rw[HZ.out] at c
   by_cases he:x=z
   ·have he':(x:Int)=z:=by omega
    have HR:Hid (LstAt Lb n x (j:Int)):=⟨fun h=>absurd h (by omega),fun _=>⟨j,rfl,hlk,HZ.out.trans he.symm,HS.out⟩⟩
    subst he
    clear he'
    go_wp2_with fail
    refine bodyPost_ret (results_tmp rfl _ _ _) rfl ?_
    exact⟨_,rfl,HR.out,rfl⟩
   ·have he': ¬(x:Int)=z:=by omega
    have HS3:Hid (∀v,v<j+1→Lb v≠x):=fun v hv=>by
     by_cases e:v=j
     ·rw[e,HZ.out];exact fun h=>he h.symm
     ·exact HS.out v (by omega)
    go_wp2_with fail
    exact⟨⟨j+1,hlk,by simp,HS3,trivial⟩,by simp[intOf];omega⟩
  ·have hlk': ¬(j:Int)<n:=by omega
   obtain rfl:j=n:=by omega
   have HR:Hid (LstAt Lb j x (-1)):=⟨fun _=>HS.out,fun h=>absurd rfl h⟩
   go_wp2_with fail
   refine bodyPost_ret (results_tmp rfl _ _ _) rfl ?_
   exact⟨_,rfl,HR.out,rfl⟩
end Go.Proofs.YtmenajiceaicpaaGreat
namespace Go.Proofs.YtmenajiceaicpaaGreat
open Go.RowKit Go.Maps
def updN(F:Nat→Nat)(x c:Nat)(y:Nat):Nat:=if y=x then c else F y
theorem MapI.put{w w':World}{b nn k:Nat}{F:Nat→Nat}{D:DataW Unit}{x c:Nat}(h1:w.ownsMap Tryz.prog 3 (plainElem (H:=Unit) Tryz.prog 3) b nn D)(h2: ∀y:Nat,y≤100000000→D.atKey (.int .i64 (y:Int)) (.lit (.int .i64 0))= .lit (.int .i64 ((F y:Nat):Int)))(h3: ∀y:Int,Maps.has D (.int .i64 y)=true→∃z:Nat,z<k∧y=(z:Int))(hx:x<k)(h:w'.ownsMap Tryz.prog 3 (plainElem (H:=Unit) Tryz.prog 3) b (nn+1) (D.put (.int .i64 (x:Int)) (.lit (.int .i64 (c:Int))))):MapI w' b (nn+1) k (updN F x c):=by
 refine⟨_,h,fun y hy=> ?_,fun y hy=> ?_⟩
 ·unfold updN
  by_cases e:y=x
  ·rw[if_pos e,e]
   exact atKey_put_same (k:= .int .i64 (x:Int)) h1.isMap (by simp[WideAt.IsKeyLit]) _ _
  ·rw[if_neg e,atKey_put_other (fun h=>e (by injection h with _ h;omega))]
   exact h2 y hy
 ·by_cases e:y=(x:Int)
  ·exact⟨x,hx,e⟩
  ·rw[has_put_other (fun h=>e (by injection h))] at hy
   exact h3 y hy
theorem wpList_put_mi(w:World){ops:Array Oper}{rest:List Oper}{o:Oper}{a:Act}{Q:Exit→Act→World→Prop}(hg:o.guard=none)(m x v:Operand)(hop:o.op=Op.mapUpdate 171 m x v)(b nn k y c:Nat)(F:Nat→Nat)(hm:a.eval m= .map (some b))(h:MapI w b nn k F)(hn:nn<maxLen)(hx:a.eval x= .int .i64 (y:Int))(hv:a.eval v= .int .i64 (c:Int))(hy:y<k)(hk:k≤1024)(hc:c≤100000000)
  (hK: ∀w',MapI w' b (nn+1) k (updN F y c)→w.grownBy w' (some b)→wpList Tryz.prog ops Q rest (a.put o.dst undef) w'):wpList Tryz.prog ops Q (o::rest) a w:=by
 obtain⟨D,h1,h2,h3⟩:=h
 exact wpList_mapUpdate_own w hg m x v 171 hop 3 3 law3 Tryz.underlying171 (plainElem (H:=Unit) Tryz.prog 3) b nn D hm h1 hn _ _ (.int .i64 (y:Int)) hx hv (keyOf_int_mk Tryz.underlying3 (wfN (by omega))) (.lit (.int .i64 (c:Int))) [] (plainElem_int Tryz.underlying3 (wfN (by omega))) (fun w' g1 g2=>hK w' (MapI.put h1 h2 h3 hy g1) g2)
theorem MapI.store{w:World}{b nn k y c:Nat}{F:Nat→Nat}(h:MapI w b nn k F)(hn:nn<maxLen)(hy:y<k)(hk:k≤1024)(hc:c≤100000000): ∃w',(Instr.mapUpdate 171 (.map (some b)) (.int .i64 (y:Int)) (.int .i64 (c:Int))).run Tryz.prog w= .ok () w'∧MapI w' b (nn+1) k (updN F y c)∧w.grownBy w' (some b):=by
 obtain⟨D,h1,h2,h3⟩:=h
 obtain⟨w',r1,r2,r3⟩:=h1.update (t:=171) (e:=3) law3 Tryz.underlying171 hn (key:= .int .i64 (y:Int)) (val:= .int .i64 (c:Int)) (kl:= .int .i64 (y:Int)) (d:= .lit (.int .i64 (c:Int))) (ps:= []) (keyOf_int_mk Tryz.underlying3 (wfN (by omega))) (plainElem_int Tryz.underlying3 (wfN (by omega)))
 exact⟨w',r1,MapI.put h1 h2 h3 hy r2,r3⟩
theorem fr_grownL{w w':World}{b:Nat}(h:w.grownBy w' (some b)):Fr (fun g=>g=b) w w':=⟨h.os,h.tape,h.output,h.size,fun k hk hn=>h.block k hk (fun e=>hn (by injection e))⟩
end Go.Proofs.YtmenajiceaicpaaGreat
