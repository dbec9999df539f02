import Derived.Laws.ResultCell
import Derived.Test.YtmenajiceaicpaaGreatZAR
import Derived.Lib.OwnKind
open Go.Lib (hid)
namespace Go.Proofs.YtmenajiceaicpaaGreat
open Go.RowKit
def M.zero:M:=⟨0,0,0⟩
def M.at(x:M)(w:World)(b o:Nat):Prop:=
 w.cell? ⟨b,o,none⟩=some (.int .i64 (x.v:Int))∧w.cell? ⟨b,o+1,none⟩=some (.int .i64 (x.l:Int))∧w.cell? ⟨b,o+2,none⟩=some (.int .i64 x.g)
def mvV(Fi:Nat→M)(j:Nat):Value:=if j % 3=0 then .int .i64 ((Fi (j / 3)).v:Int) else if j % 3=1 then .int .i64 ((Fi (j / 3)).l:Int) else .int .i64 (Fi (j / 3)).g
def FT(w:World)(fg n:Nat)(Fi:Nat→M):Prop:=TbV w fg (n*3) 136 (mvV Fi)
theorem FT.at{w:World}{fg n:Nat}{Fi:Nat→M}(h:FT w fg n Fi){j:Nat}(hj:j<n):(Fi j).at w fg (j*3):=by
 have e0:(j*3) % 3=0∧(j*3) / 3=j:=by omega
 have e1:(j*3+1) % 3=1∧(j*3+1) / 3=j:=by omega
 have e2:(j*3+2) % 3=2∧(j*3+2) / 3=j:=by omega
 refine⟨(TbV.cell h (v:=j*3) (by omega)).trans ?_,(TbV.cell h (v:=j*3+1) (by omega)).trans ?_,(TbV.cell h (v:=j*3+2) (by omega)).trans ?_⟩
 ·simp[mvV,e0.1,e0.2]
 ·simp[mvV,e1.1,e1.2]
 ·simp[mvV,e2.1,e2.2]
def setM(Fi:Nat→M)(j:Nat)(m:M)(i:Nat):M:=if i=j then m else Fi i
theorem FT.set{w:World}{fg n:Nat}{Fi:Nat→M}(h:FT w fg n Fi)(j:Nat)(m:M):FT (((w.setCell ⟨fg,j*3,none⟩ (.int .i64 (m.v:Int))).setCell ⟨fg,j*3+1,none⟩ (.int .i64 (m.l:Int))).setCell ⟨fg,j*3+2,none⟩ (.int .i64 m.g)) fg n (setM Fi j m):=by
 refine TbV.congr (((TbV.set h (j*3) _).set (j*3+1) _).set (j*3+2) _) (fun i hi=> ?_)
 unfold updV mvV setM
 by_cases e:i / 3=j
 ·rw[if_pos e]
  by_cases c2:i=j*3+2
  ·simp[c2]
  ·by_cases c1:i=j*3+1
   ·have a1:(j*3+1) % 3=1:=by omega
    simp[c1,a1]
   ·have c0:i=j*3:=by omega
    have a0:(j*3) % 3=0:=by omega
    simp[c0,a0]
 ·rw[if_neg e,if_neg (by omega),if_neg (by omega),if_neg (by omega)]
structure CV(w:World)(cb n k:Nat)(bd:Int)(lg lc sg sc eg ec pg pc:Nat)(Lb S:Nat→Nat)(Le:Nat→Int)(mb nn:Nat→Nat)(F:Nat→Nat→Nat):Prop where
 hd:Hd w cb n k bd lg lc sg sc eg ec pg pc
 lab: ∀v,v<n→w.cell? ⟨lg,v,none⟩=some (.int .i64 ((Lb v:Nat):Int))
 map: ∀v,v<n→w.cell? ⟨pg,v,none⟩=some (.map (some (mb v)))
 mi: ∀v,v<n→MapI w (mb v) (nn v) k (F v)
 sz: ∀y,y<k→w.cell? ⟨sg,y,none⟩=some (.int .i64 ((S y:Nat):Int))
 le: ∀y,y<k→w.cell? ⟨eg,y,none⟩=some (.int .i64 (Le y))
 k0:0<k
 k2:k≤1024
 lb: ∀v,v<n→Lb v<k
 fb: ∀v y,F v y≤100000000
theorem CV.fr{D:Nat→Prop}{w w':World}{cb n k:Nat}{bd:Int}{lg lc sg sc eg ec pg pc:Nat}{Lb S:Nat→Nat}{Le:Nat→Int}{mb nn:Nat→Nat}{F:Nat→Nat→Nat}(h:CV w cb n k bd lg lc sg sc eg ec pg pc Lb S Le mb nn F)(hf:Fr D w w')(h1: ¬D cb)(h2: ¬D lg)(h3: ¬D sg)(h4: ¬D eg)(h5: ¬D pg)(h6: ∀v,v<n→¬D (mb v)):CV w' cb n k bd lg lc sg sc eg ec pg pc Lb S Le mb nn F:=by
 have hz:=hf.size
 have H:=h.hd
 have a1:=H.cl
 have a2:=H.ll
 have a3:=H.sl
 have a4:=H.el
 have a5:=H.pl
 have cc: ∀ (b o:Nat),b<w.heap.size→¬D b→w'.cell? ⟨b,o,none⟩=w.cell? ⟨b,o,none⟩:=fun b o hb hn=>by
  unfold World.cell?
  simp only[hf.block b hb hn]
 exact⟨⟨(cc _ _ a1 h1).trans H.c0,(cc _ _ a1 h1).trans H.c1,(cc _ _ a1 h1).trans H.c2,(cc _ _ a1 h1).trans H.c3,(cc _ _ a1 h1).trans H.c5,by omega,by omega,by omega,by omega,by omega⟩,fun v hv=>(cc _ _ a2 h2).trans (h.lab v hv),fun v hv=>(cc _ _ a5 h5).trans (h.map v hv),fun v hv=>(h.mi v hv).fr hf (h6 v hv),fun y hy=>(cc _ _ a3 h3).trans (h.sz y hy),fun y hy=>(cc _ _ a4 h4).trans (h.le y hy),h.k0,h.k2,h.lb,h.fb⟩
theorem CV.on{w w':World}{cb n k:Nat}{bd:Int}{lg lc sg sc eg ec pg pc:Nat}{Lb S:Nat→Nat}{Le:Nat→Int}{mb nn:Nat→Nat}{F:Nat→Nat→Nat}(h:CV w cb n k bd lg lc sg sc eg ec pg pc Lb S Le mb nn F)(hb:Below w.heap.size w w'):CV w' cb n k bd lg lc sg sc eg ec pg pc Lb S Le mb nn F:=
 h.fr (D:=fun _=>False) ⟨hb.os,hb.tape,hb.output,hb.size,fun j hj _=>hb.block j hj⟩ id id id id id (fun _ _=>id)
def Fst(k:Nat)(bd:Int)(Lb S:Nat→Nat)(Le:Nat→Int)(F:Nat→Nat→Nat)(v:Nat)(m:M):Prop:=FoS k (F v) S Le bd (F v (Lb v)) v (fun _=>True) m
theorem CV.firstOf{w:World}{cb n k:Nat}{bd:Int}{lg lc sg sc eg ec pg pc:Nat}{Lb S:Nat→Nat}{Le:Nat→Int}{mb nn:Nat→Nat}{F:Nat→Nat→Nat}(h:CV w cb n k bd lg lc sg sc eg ec pg pc Lb S Le mb nn F){v:Nat}(hv:v<n):
  Calls Tryz.prog 156 #[.pointer (some ⟨cb,0,none⟩), .int .i64 v] w fun e w'=> ∃m:M,e= .returned m.val∧Hid (Fst k bd Lb S Le F v m)∧Below w.heap.size w w':=
 firstOf_any cb n k bd lg lc sg sc eg ec pg pc (mb v) (nn v) v (Lb v) (F v) S Le w h.hd (h.lab v hv) (h.map v hv) h.sz h.le hv h.k0 h.k2 (h.mi v hv) (by have:=h.lb v hv;have:=h.k2;omega) (h.fb v)
def cellsO(bd:Int)(n k lg lc sg sc eg ec bg bc pg pc fg fc:Nat):Obj:= .cells #[.int .i64 bd, .slice (some ⟨lg,0,none⟩) n lc, .slice (some ⟨sg,0,none⟩) k sc, .slice (some ⟨eg,0,none⟩) k ec, .slice (some ⟨bg,0,none⟩) n bc, .slice (some ⟨pg,0,none⟩) n pc, .slice (some ⟨fg,0,none⟩) n fc] 143
theorem cellsO_hd{w:World}{cb n k:Nat}{bd:Int}{lg lc sg sc eg ec bg bc pg pc fg fc:Nat}(h:w.heap[cb]? =some (cellsO bd n k lg lc sg sc eg ec bg bc pg pc fg fc))(a1:lg<w.heap.size)(a2:sg<w.heap.size)(a3:eg<w.heap.size)(a4:pg<w.heap.size):Hd w cb n k bd lg lc sg sc eg ec pg pc:=
 ⟨by simp[World.cell?,h,cellsO],by simp[World.cell?,h,cellsO],by simp[World.cell?,h,cellsO],by simp[World.cell?,h,cellsO],by simp[World.cell?,h,cellsO],lt_of_block h,a1,a2,a3,a4⟩
theorem cellsO_c6{w:World}{cb n k:Nat}{bd:Int}{lg lc sg sc eg ec bg bc pg pc fg fc:Nat}(h:w.heap[cb]? =some (cellsO bd n k lg lc sg sc eg ec bg bc pg pc fg fc)):w.cell? ⟨cb,6,none⟩=some (.slice (some ⟨fg,0,none⟩) n fc):=by simp[World.cell?,h,cellsO]
theorem cellsO_free{w:World}{cb n k:Nat}{bd:Int}{lg lc sg sc eg ec bg bc pg pc fg fc:Nat}(h:w.heap[cb]? =some (cellsO bd n k lg lc sg sc eg ec bg bc pg pc fg fc))(o:Nat):w.frozen? ⟨cb,o,none⟩=false:=by simp[World.frozen?,h,cellsO]
theorem cellsO_bound{w:World}{cb n k:Nat}{bd:Int}{lg lc sg sc eg ec bg bc pg pc fg fc:Nat}(h:w.heap[cb]? =some (cellsO bd n k lg lc sg sc eg ec bg bc pg pc fg fc))(bd':Int):(w.setCell ⟨cb,0,none⟩ (.int .i64 bd')).heap[cb]? =some (cellsO bd' n k lg lc sg sc eg ec bg bc pg pc fg fc):=
 (heap_setCell_same w cb 0 _ _ _ h).trans (by simp[cellsO])
structure Apt(cb n lg sg eg pg fg:Nat)(mb:Nat→Nat):Prop where
 cl:lg≠cb
 cs:sg≠cb
 ce:eg≠cb
 cp:pg≠cb
 cf:fg≠cb
 fl:lg≠fg
 fs:sg≠fg
 fe:eg≠fg
 fp:pg≠fg
 cm: ∀v,v<n→mb v≠cb
 fm: ∀v,v<n→mb v≠fg
theorem CV.bound{w:World}{cb n k:Nat}{bd:Int}{lg lc sg sc eg ec bg bc pg pc fg fc:Nat}{Lb S:Nat→Nat}{Le:Nat→Int}{mb nn:Nat→Nat}{F:Nat→Nat→Nat}(h:CV w cb n k bd lg lc sg sc eg ec pg pc Lb S Le mb nn F)(ho:w.heap[cb]? =some (cellsO bd n k lg lc sg sc eg ec bg bc pg pc fg fc))(ha:Apt cb n lg sg eg pg fg mb)(bd':Int):CV (w.setCell ⟨cb,0,none⟩ (.int .i64 bd')) cb n k bd' lg lc sg sc eg ec pg pc Lb S Le mb nn F:=by
 have hf:Fr (fun b=>b=cb) w (w.setCell ⟨cb,0,none⟩ (.int .i64 bd')):=(Fr.refl _ _).setCell _ _ rfl
 have hz:=hf.size
 have a2:=h.hd.ll
 have a3:=h.hd.sl
 have a4:=h.hd.el
 have a5:=h.hd.pl
 have cc: ∀ (b o:Nat),b<w.heap.size→b≠cb→(w.setCell ⟨cb,0,none⟩ (.int .i64 bd')).cell? ⟨b,o,none⟩=w.cell? ⟨b,o,none⟩:=fun b o hb hn=>by
  unfold World.cell?
  simp only[hf.block b hb hn]
 exact⟨cellsO_hd (cellsO_bound ho bd') (by omega) (by omega) (by omega) (by omega),fun v hv=>(cc _ _ a2 ha.cl).trans (h.lab v hv),fun v hv=>(cc _ _ a5 ha.cp).trans (h.map v hv),fun v hv=>(h.mi v hv).fr hf (ha.cm v hv),fun y hy=>(cc _ _ a3 ha.cs).trans (h.sz y hy),fun y hy=>(cc _ _ a4 ha.ce).trans (h.le y hy),h.k0,h.k2,h.lb,h.fb⟩
theorem Fr.set3{D:Nat→Prop}{a b:World}(h:Fr D a b)(g:Nat)(hg:D g)(i j l:Nat)(x y z:Value):Fr D a (((b.setCell ⟨g,i,none⟩ x).setCell ⟨g,j,none⟩ y).setCell ⟨g,l,none⟩ z):=
 have h1:Fr D a (b.setCell ⟨g,i,none⟩ x):=h.setCell ⟨g,i,none⟩ x hg
 have h2:Fr D a ((b.setCell ⟨g,i,none⟩ x).setCell ⟨g,j,none⟩ y):=h1.setCell ⟨g,j,none⟩ y hg
 h2.setCell ⟨g,l,none⟩ z hg
set_option maxRecDepth 100000 in
set_option maxHeartbeats 1600000 in
theorem setBound_any(cb n k:Nat)(bd bd':Int)(lg lc sg sc eg ec bg bc pg pc fg fc:Nat)(Lb S:Nat→Nat)(Le:Nat→Int)(mb nn:Nat→Nat)(F:Nat→Nat→Nat)(Fi:Nat→M)(w:World)(hv:CV w cb n k bd lg lc sg sc eg ec pg pc Lb S Le mb nn F)(ho:w.heap[cb]? =some (cellsO bd n k lg lc sg sc eg ec bg bc pg pc fg fc))(ha:Apt cb n lg sg eg pg fg mb)(ht:FT w fg n Fi)(hn:n≤1024):
  Calls Tryz.prog 130 #[.pointer (some ⟨cb,0,none⟩), .int .i64 bd'] w fun e w'=> ∃Fi':Nat→M,e= .returned (.tuple #[])∧CV w' cb n k bd' lg lc sg sc eg ec pg pc Lb S Le mb nn F∧w'.heap[cb]? =some (cellsO bd' n k lg lc sg sc eg ec bg bc pg pc fg fc)∧FT w' fg n Fi'∧(∀v,v<n→Fst k bd' Lb S Le F v (Fi' v))∧Fr (fun b=>b=cb∨b=fg) w w':=by
 have c0:=hv.hd.c0
 have f0:=cellsO_free ho 0
 have HV:=hid (hv.bound ho ha bd')
 have HO:=hid (cellsO_bound ho bd')
 have HT:Hid (FT (w.setCell ⟨cb,0,none⟩ (.int .i64 bd')) fg n Fi):=TbV.same ht (Below.heap_setCell _ _ _ _ ha.cf)
 have HF:Hid (Fr (fun b=>b=cb∨b=fg) w (w.setCell ⟨cb,0,none⟩ (.int .i64 bd'))):=(Fr.refl _ _).setCell _ _ (.inl rfl)
 have c6:=cellsO_c6 HO.out
 have HA:=hid ha
 clear hv ho ht ha
 go_enter Tryz.func130,Tryz.ntmps130
 go_wp2_with fail
 generalize hW:w.setCell ⟨cb,0,none⟩ (.int .i64 bd')=W at*
 clear hW c6 c0 f0
 go_loopw [14] (fun i wr=> ∃ (j:Nat) (Fj:Nat→M),j≤n∧i= .int .i64 (j:Int)∧Hid (CV wr cb n k bd' lg lc sg sc eg ec pg pc Lb S Le mb nn F)∧Hid (wr.heap[cb]? =some (cellsO bd' n k lg lc sg sc eg ec bg bc pg pc fg fc))∧Hid (FT wr fg n Fj)∧Hid (∀v,v<j→Fst k bd' Lb S Le F v (Fj v))∧Hid (Fr (fun b=>b=cb∨b=fg) w wr)) (fun i _=>n - (intOf i).toNat)
 case atStart=>exact⟨0,Fi,Nat.zero_le _,rfl,HV,HO,HT,fun v hv=>absurd hv (Nat.not_lt_zero _),HF⟩
 case round=>
  clear HV HO HT HF
  obtain⟨j,Fj,hj,rfl,HV,HO,HT,HS,HF⟩:=hrel
  by_cases hlk:j<n
  ·have hlk':(j:Int)<n:=by omega
   have c6:=cellsO_c6 HO.out
   obtain⟨x0,x1,x2⟩:=HT.out.at hlk
   have HCO:Hid (Calls Tryz.prog 156 #[.pointer (some ⟨cb,0,none⟩), .int .i64 (j:Int)] wr.drew fun e w'=> ∃m:M,e= .returned m.val∧Hid (Fst k bd' Lb S Le F j m)∧Below wr.heap.size wr w'):=by
    refine((HV.out.on (w':=wr.drew) ⟨rfl,rfl,rfl,Nat.le_refl _,fun _ _=>rfl⟩).firstOf hlk).mono ?_
    rintro e w' ⟨m,rfl,h,hb⟩
    exact⟨m,rfl,h,hb.os,hb.tape,hb.output,hb.size,hb.block⟩
   have hcf:=HA.out.cf
   have hcf2:=HA.out.cf.symm
   have hcl:cb<wr.heap.size:=lt_of_block HO.out
   have hfl:fg<wr.heap.size:=TbV.lt HT.out
   go_wp2_with fail
   go_region_held3 (fun w'=>w'.cell? ⟨cb,6,none⟩=some (.slice (some ⟨fg,0,none⟩) n fc)) (go_keep) ((go_at_call 156;refine HCO.out.mono ?_;rintro e w2 ⟨m,rfl,HM,hb2⟩;have v6:=(hb2.cell (p:=⟨cb,6,none⟩) hcl).trans c6;have v0:=(hb2.cell (p:=⟨fg,j*3,none⟩) hfl).trans x0;have v1:=(hb2.cell (p:=⟨fg,j*3+1,none⟩) hfl).trans x1;have v2:=(hb2.cell (p:=⟨fg,j*3+2,none⟩) hfl).trans x2;have HT2:=hid (TbV.same HT.out (hb2.block fg hfl));have q0:=TbV.free HT2.out (j*3);have q1:=TbV.free HT2.out (j*3+1);have q2:=TbV.free HT2.out (j*3+2);unfold M.val))
   have HT3:=hid (FT.set HT2.out j m)
   have hfu:Fr (fun b=>b=fg) w2 (((w2.setCell ⟨fg,j*3,none⟩ (.int .i64 (m.v:Int))).setCell ⟨fg,j*3+1,none⟩ (.int .i64 (m.l:Int))).setCell ⟨fg,j*3+2,none⟩ (.int .i64 m.g)):=Fr.set3 (D:=fun b=>b=fg) (Fr.refl _ w2) fg rfl _ _ _ _ _ _
   have HA':=HA.out
   have HV3:=hid ((HV.out.on hb2).fr hfu hcf2 HA'.fl HA'.fs HA'.fe HA'.fp HA'.fm)
   have HO3:=hid (((hfu.block cb (Nat.lt_of_lt_of_le hcl hb2.size) hcf2).trans (hb2.block cb hcl)).trans HO.out)
   have HF3:Hid (Fr (fun b=>b=cb∨b=fg) w (((w2.setCell ⟨fg,j*3,none⟩ (.int .i64 (m.v:Int))).setCell ⟨fg,j*3+1,none⟩ (.int .i64 (m.l:Int))).setCell ⟨fg,j*3+2,none⟩ (.int .i64 m.g))):=Fr.set3 (D:=fun b=>b=cb∨b=fg) (HF.out.trans ⟨hb2.os,hb2.tape,hb2.output,hb2.size,fun i hi _=>hb2.block i hi⟩) fg (.inr rfl) _ _ _ _ _ _
   have HS3:Hid (∀v,v<j+1→Fst k bd' Lb S Le F v (setM Fj j m v)):=fun v hv=>by
    unfold setM
    by_cases e:v=j
    ·rw[if_pos e,e];exact HM.out
    ·rw[if_neg e];exact HS.out v (by omega)
   generalize hU:(((w2.setCell ⟨fg,j*3,none⟩ (.int .i64 (m.v:Int))).setCell ⟨fg,j*3+1,none⟩ (.int .i64 (m.l:Int))).setCell ⟨fg,j*3+2,none⟩ (.int .i64 m.g))=U at*
   clear hU hfu HA' hb2 v0 v1 v2 v6 q0 q1 q2 x0 x1 x2 HT2
   go_wp2_with fail
   exact⟨⟨j+1,_,hlk,by simp,HV3,HO3,HT3,HS3,HF3⟩,by simp[intOf];omega⟩
  ·have hlk': ¬(j:Int)<n:=by omega
   obtain rfl:j=n:=by omega
   go_wp2_with fail
   refine bodyPost_end (results_none rfl _ _ _) rfl ?_
   exact⟨rfl,HV.out,HO.out,Fj,HT.out,HS.out,HF.out⟩
structure LstAt(Lb:Nat→Nat)(n x:Nat)(r:Int):Prop where
 none:r= -1→∀v,v<n→Lb v≠x
 some:r≠ -1→∃u:Nat,r=(u:Int)∧u<n∧Lb u=x∧∀v,v<u→Lb v≠x
end Go.Proofs.YtmenajiceaicpaaGreat
namespace Go.Proofs.YtmenajiceaicpaaGreat
open Go.RowKit Go.Maps
def updN(F:Nat→Nat)(x c:Nat)(y:Nat):Nat:=if y=x then c else F y
theorem MapI.put{w w':World}{b nn k:Nat}{F:Nat→Nat}{D:DataW Unit}{x c:Nat}(h1:w.ownsMap Tryz.prog 3 (plainElem (H:=Unit) Tryz.prog 3) b nn D)(h2: ∀y:Nat,y≤100000000→D.atKey (.int .i64 (y:Int)) (.lit (.int .i64 0))= .lit (.int .i64 ((F y:Nat):Int)))(h3: ∀y:Int,Maps.has D (.int .i64 y)=true→∃z:Nat,z<k∧y=(z:Int))(hx:x<k)(h:w'.ownsMap Tryz.prog 3 (plainElem (H:=Unit) Tryz.prog 3) b (nn+1) (D.put (.int .i64 (x:Int)) (.lit (.int .i64 (c:Int))))):MapI w' b (nn+1) k (updN F x c):=by
 refine⟨_,h,fun y hy=> ?_,fun y hy=> ?_⟩
 ·unfold updN
  by_cases e:y=x
  ·rw[if_pos e,e]
   exact atKey_put_same (k:= .int .i64 (x:Int)) h1.isMap (by simp[WideAt.IsKeyLit]) _ _
  ·rw[if_neg e,atKey_put_other (fun h=>e (by injection h with _ h;omega))]
   exact h2 y hy
 ·by_cases e:y=(x:Int)
  ·exact⟨x,hx,e⟩
  ·rw[has_put_other (fun h=>e (by injection h))] at hy
   exact h3 y hy
theorem wpList_put_mi(w:World){ops:Array Oper}{rest:List Oper}{o:Oper}{a:Act}{Q:Exit→Act→World→Prop}(hg:o.guard=none)(m x v:Operand)(hop:o.op=Op.mapUpdate 171 m x v)(b nn k y c:Nat)(F:Nat→Nat)(hm:a.eval m= .map (some b))(h:MapI w b nn k F)(hn:nn<maxLen)(hx:a.eval x= .int .i64 (y:Int))(hv:a.eval v= .int .i64 (c:Int))(hy:y<k)(hk:k≤1024)(hc:c≤100000000)
  (hK: ∀w',MapI w' b (nn+1) k (updN F y c)→w.grownBy w' (some b)→wpList Tryz.prog ops Q rest (a.put o.dst undef) w'):wpList Tryz.prog ops Q (o::rest) a w:=by
 obtain⟨D,h1,h2,h3⟩:=h
 exact wpList_mapUpdate_own w hg m x v 171 hop 3 3 law3 Tryz.underlying171 (plainElem (H:=Unit) Tryz.prog 3) b nn D hm h1 hn _ _ (.int .i64 (y:Int)) hx hv (keyOf_int_mk Tryz.underlying3 (wfN (by omega))) (.lit (.int .i64 (c:Int))) [] (plainElem_int Tryz.underlying3 (wfN (by omega))) (fun w' g1 g2=>hK w' (MapI.put h1 h2 h3 hy g1) g2)
theorem MapI.store{w:World}{b nn k y c:Nat}{F:Nat→Nat}(h:MapI w b nn k F)(hn:nn<maxLen)(hy:y<k)(hk:k≤1024)(hc:c≤100000000): ∃w',(Instr.mapUpdate 171 (.map (some b)) (.int .i64 (y:Int)) (.int .i64 (c:Int))).run Tryz.prog w= .ok () w'∧MapI w' b (nn+1) k (updN F y c)∧w.grownBy w' (some b):=by
 obtain⟨D,h1,h2,h3⟩:=h
 obtain⟨w',r1,r2,r3⟩:=h1.update (t:=171) (e:=3) law3 Tryz.underlying171 hn (key:= .int .i64 (y:Int)) (val:= .int .i64 (c:Int)) (kl:= .int .i64 (y:Int)) (d:= .lit (.int .i64 (c:Int))) (ps:= []) (keyOf_int_mk Tryz.underlying3 (wfN (by omega))) (plainElem_int Tryz.underlying3 (wfN (by omega)))
 exact⟨w',r1,MapI.put h1 h2 h3 hy r2,r3⟩
theorem fr_grownL{w w':World}{b:Nat}(h:w.grownBy w' (some b)):Fr (fun g=>g=b) w w':=⟨h.os,h.tape,h.output,h.size,fun k hk hn=>h.block k hk (fun e=>hn (by injection e))⟩
end Go.Proofs.YtmenajiceaicpaaGreat
namespace Go.Proofs.YtmenajiceaicpaaGreat
structure FsL(P:List Pr)(L:List Nat)(k B:Nat)(Le:Nat→Int)(l:List M):Prop where
 len:l.length=L.length
 lab: ∀v,v<L.length→L.getD v 0<k
 le: ∀y,y<k→LstAt (fun v=>L.getD v 0) L.length y (Le y)
 fst: ∀v,v<L.length→FoS k (cv P L v) (fun y=>L.count y) Le (B:Int) (cv P L v (L.getD v 0)) v (fun _=>True) (l.getD v M.zero)
theorem count_set_far{L:List Nat}{v x z:Nat}(hv:v<L.length)(h1:z≠x)(h2:z≠L.getD v 0):(L.set v x).count z=L.count z:=by
 rw[count_atL,count_atL,List.length_set]
 apply List.countP_congr
 intro u hu
 rw[getD_setN' hv]
 by_cases e:u=v
 ·rw[if_pos e,e]
  simp only[decide_eq_true_eq]
  omega
 ·rw[if_neg e]
end Go.Proofs.YtmenajiceaicpaaGreat
namespace Go.Proofs.YtmenajiceaicpaaGreat
open Go.RowKit Go.Maps
theorem own_frL{D:Nat→Prop}{w w':World}{base:Nat}{e:TypeId}{size:Nat}{v:Value}{k:Nat}{xs:List Value}(h:w.ownsRow base e size v k xs)(hf:Fr D w w')(hn: ∀g,v.ownBlock=some g→¬D g):w'.ownsRow base e size v k xs:=by
 refine⟨h.1,?_⟩
 rcases h.2 with h' | ⟨g,c,cur,h1,h2,h3,h4⟩
 ·exact Or.inl h'
 ·exact Or.inr ⟨g,c,cur,h1,h2,(hf.block g (lt_of_block h3) (hn g (by rw[h1];rfl))).trans h3,h4⟩
def OwI(w:World)(g c:Nat)(l:List Int):Prop:=w.ownsRow 0 3 1 (.slice (some ⟨g,0,none⟩) l.length c) l.length (cellsI l)
theorem OwI.lt{w:World}{g c:Nat}{l:List Int}(h:OwI w g c l):g<w.heap.size:=(World.ownsRow.lt h g rfl).2
theorem OwI.cell{w:World}{g c:Nat}{l:List Int}(h:OwI w g c l){k:Nat}(hk:k<l.length):w.cell? ⟨g,k,none⟩=some (.int .i64 (l.getD k 0)):=by
 rw[World.ownsRow.cellAt h k (by omega),cellsI_getD l k hk]
theorem OwI.fr{D:Nat→Prop}{w w':World}{g c:Nat}{l:List Int}(h:OwI w g c l)(hf:Fr D w w')(hn: ¬D g):OwI w' g c l:=own_frL h hf (fun g' e=>by injection e with e;rw[←e];exact hn)
theorem OwI.kind{w:World}{g c:Nat}{l:List Int}(h:OwI w g c l): ∃cs fz,w.heap[g]? =some (.cells cs 3 fz):=Lib.ownsRow_kind h g rfl
theorem OwI.ne{w:World}{g c b:Nat}{l:List Int}(h:OwI w g c l){cs:Array Value}{t:TypeId}{fz:Nat × Nat}(hb:w.heap[b]? =some (.cells cs t fz))(ht:t≠3):g≠b:=fun e=>by
 obtain⟨cs',fz',h1⟩:=h.kind
 rw[e,hb] at h1
 injection h1 with h1
 injection h1 with _ h1 _
 exact ht h1
theorem MapI.kind{w:World}{b nn k:Nat}{F:Nat→Nat}(h:MapI w b nn k F): ∃es ck,w.heap[b]? =some (.map es ck):=by
 obtain⟨D,⟨es,ck,h1,_⟩,_⟩:=h
 exact⟨es,ck,h1⟩
theorem MapI.ne{w:World}{b nn k b':Nat}{F:Nat→Nat}(h:MapI w b nn k F){cs:Array Value}{t:TypeId}{fz:Nat × Nat}(hb:w.heap[b']? =some (.cells cs t fz)):b≠b':=fun e=>by
 obtain⟨es,ck,h1⟩:=h.kind
 rw[e,hb] at h1
 injection h1 with h1
 cases h1
structure CX(w:World)(cb n k:Nat)(bd:Int)(lg lc sg sc eg ec bg pg fg:Nat)(mb nn:Nat→Nat)(rv:Nat→Value)(R:Nat→List Nat)(F:Nat→Nat→Nat)(Fi:Nat→M):Prop where
 ob:w.heap[cb]? =some (cellsO bd n k lg lc sg sc eg ec bg n pg n fg n)
 be:TbV w bg n 25 rv
 ro: ∀v,v<n→w.ownsRow 0 3 1 (rv v) (R v).length (cellsI (ints (R v)))
 pa:TbV w pg n 171 (fun v=> .map (some (mb v)))
 mi: ∀v,v<n→MapI w (mb v) (nn v) k (F v)
 ft:FT w fg n Fi
theorem CX.fr{D:Nat→Prop}{w w':World}{cb n k:Nat}{bd:Int}{lg lc sg sc eg ec bg pg fg:Nat}{mb nn:Nat→Nat}{rv:Nat→Value}{R:Nat→List Nat}{F:Nat→Nat→Nat}{Fi:Nat→M}(h:CX w cb n k bd lg lc sg sc eg ec bg pg fg mb nn rv R F Fi)(hf:Fr D w w')(h0: ¬D cb)(h1: ¬D bg)(h2: ¬D pg)(h3: ¬D fg)(h4: ∀v,v<n→¬D (mb v))(h5: ∀v,v<n→∀g,(rv v).ownBlock=some g→¬D g):CX w' cb n k bd lg lc sg sc eg ec bg pg fg mb nn rv R F Fi:=
 ⟨(hf.block cb (lt_of_block h.ob) h0).trans h.ob,h.be.fr hf h1,fun v hv=>own_frL (h.ro v hv) hf (h5 v hv),h.pa.fr hf h2,fun v hv=>(h.mi v hv).fr hf (h4 v hv),TbV.fr h.ft hf h3⟩
theorem CX.on{w w':World}{cb n k:Nat}{bd:Int}{lg lc sg sc eg ec bg pg fg:Nat}{mb nn:Nat→Nat}{rv:Nat→Value}{R:Nat→List Nat}{F:Nat→Nat→Nat}{Fi:Nat→M}(h:CX w cb n k bd lg lc sg sc eg ec bg pg fg mb nn rv R F Fi)(hb:Below w.heap.size w w'):CX w' cb n k bd lg lc sg sc eg ec bg pg fg mb nn rv R F Fi:=
 h.fr (D:=fun _=>False) ⟨hb.os,hb.tape,hb.output,hb.size,fun j hj _=>hb.block j hj⟩ id id id id (fun _ _=>id) (fun _ _ _ _=>id)
theorem OwI.on{w w':World}{g c:Nat}{l:List Int}(h:OwI w g c l)(hb:Below w.heap.size w w'):OwI w' g c l:=own_on h hb
def Far(cb n bg pg fg:Nat)(mb:Nat→Nat)(rv:Nat→Value)(g:Nat):Prop:=g≠cb∧g≠bg∧g≠pg∧g≠fg∧∀v,v<n→mb v≠g∧(rv v).ownBlock≠some g
structure St(cb n k lg sg eg bg pg fg:Nat)(mb:Nat→Nat)(rv:Nat→Value):Prop where
 n2:n≤1024
 k0:0<k
 k2:k≤1024
 fl:Far cb n bg pg fg mb rv lg
 fs:Far cb n bg pg fg mb rv sg
 fe:Far cb n bg pg fg mb rv eg
 ls:lg≠sg
 le:lg≠eg
 se:sg≠eg
 fc:fg≠cb
 fb:fg≠bg
 fp:fg≠pg
 fr: ∀v,v<n→(rv v).ownBlock≠some fg
 mc: ∀v,v<n→mb v≠cb∧mb v≠bg∧mb v≠pg∧mb v≠fg∧∀u,u<n→(rv u).ownBlock≠some (mb v)
 mj: ∀u v,u<n→v<n→mb u=mb v→u=v
theorem own_ne{w:World}{base size n b:Nat}{v:Value}{xs:List Value}(h:w.ownsRow base 3 size v n xs){o:Obj}(hb:w.heap[b]? =some o)(ho: ∀cs fz,o≠ .cells cs 3 fz):v.ownBlock≠some b:=fun e=>by
 obtain⟨cs',fz',h1⟩:=Lib.ownsRow_kind h b e
 rw[hb] at h1
 injection h1 with h1
 exact ho _ _ h1
theorem St.of{w:World}{cb n k:Nat}{bd:Int}{lg lc sg sc eg ec bg pg fg:Nat}{mb nn:Nat→Nat}{rv:Nat→Value}{R:Nat→List Nat}{F:Nat→Nat→Nat}{Fi:Nat→M}{l1 l2 l3:List Int}(h:CX w cb n k bd lg lc sg sc eg ec bg pg fg mb nn rv R F Fi)(h1:OwI w lg lc l1)(h2:OwI w sg sc l2)(h3:OwI w eg ec l3)(hn:n≤1024)(k0:0<k)(k2:k≤1024)(ls:lg≠sg)(le:lg≠eg)(se:sg≠eg)(hr: ∀v,v<n→(rv v).ownBlock≠some lg∧(rv v).ownBlock≠some sg∧(rv v).ownBlock≠some eg)(mj: ∀u v,u<n→v<n→mb u=mb v→u=v):St cb n k lg sg eg bg pg fg mb rv:=by
 have o1:=h.ob
 have o2:w.heap[bg]? =_:=h.be
 have o3:w.heap[pg]? =_:=h.pa
 have o4:w.heap[fg]? =_:=h.ft
 have nb:fg≠bg:=fun e=>by rw[e,o2] at o4;injection o4 with o4;injection o4 with _ o4 _;cases o4
 have np:fg≠pg:=fun e=>by rw[e,o3] at o4;injection o4 with o4;injection o4 with _ o4 _;cases o4
 have nc:fg≠cb:=fun e=>by rw[e,o1] at o4;injection o4 with o4;injection o4 with _ o4 _;cases o4
 have far: ∀g c l,OwI w g c l→(∀v,v<n→(rv v).ownBlock≠some g)→Far cb n bg pg fg mb rv g:=fun g c l hg hq=>by
  obtain⟨cs,fz,hk⟩:=hg.kind
  exact⟨hg.ne o1 (by decide),hg.ne o2 (by decide),hg.ne o3 (by decide),hg.ne o4 (by decide),fun v hv=>⟨(h.mi v hv).ne hk,hq v hv⟩⟩
 refine⟨hn,k0,k2,far _ _ _ h1 (fun v hv=>(hr v hv).1),far _ _ _ h2 (fun v hv=>(hr v hv).2.1),far _ _ _ h3 (fun v hv=>(hr v hv).2.2),ls,le,se,nc,nb,np,fun v hv=>own_ne (h.ro v hv) o4 (fun cs fz e=>by injection e with _ e _;cases e),fun v hv=>⟨(h.mi v hv).ne o1,(h.mi v hv).ne o2,(h.mi v hv).ne o3,(h.mi v hv).ne o4,fun u hu=> ?_⟩,mj⟩
 obtain⟨es,ck,hm⟩:=(h.mi v hv).kind
 exact own_ne (h.ro u hu) hm (fun cs fz e=>by cases e)
theorem St.apt{cb n k lg sg eg bg pg fg:Nat}{mb:Nat→Nat}{rv:Nat→Value}(h:St cb n k lg sg eg bg pg fg mb rv)(hcp:pg≠cb):Apt cb n lg sg eg pg fg mb:=
 ⟨h.fl.1,h.fs.1,h.fe.1,hcp,h.fc,h.fl.2.2.2.1,h.fs.2.2.2.1,h.fe.2.2.2.1,h.fp.symm,fun v hv=>(h.mc v hv).1,fun v hv=>(h.mc v hv).2.2.2.1⟩
theorem CX.cp{w:World}{cb n k:Nat}{bd:Int}{lg lc sg sc eg ec bg pg fg:Nat}{mb nn:Nat→Nat}{rv:Nat→Value}{R:Nat→List Nat}{F:Nat→Nat→Nat}{Fi:Nat→M}(h:CX w cb n k bd lg lc sg sc eg ec bg pg fg mb nn rv R F Fi):pg≠cb:=fun e=>by
 have o1:=h.ob
 have o3:w.heap[pg]? =_:=h.pa
 rw[e,o1] at o3
 injection o3 with o3
 injection o3 with _ o3 _
 cases o3
theorem getD_ints(L:List Nat)(v:Nat):(ints L).getD v 0=((L.getD v 0:Nat):Int):=by
 rcases Nat.lt_or_ge v L.length with h | h
 ·exact ints_getD h
 ·have e1:(ints L)[v]? =none:=List.getElem?_eq_none (by rw[ints_len];exact h)
  have e2:L[v]? =none:=List.getElem?_eq_none h
  unfold List.getD
  rw[e1,e2]
  rfl
theorem CX.cv{w:World}{cb n k:Nat}{bd:Int}{lg lc sg sc eg ec bg pg fg:Nat}{mb nn:Nat→Nat}{rv:Nat→Value}{R:Nat→List Nat}{F:Nat→Nat→Nat}{Fi:Nat→M}{L S:List Nat}{Le:List Int}(h:CX w cb n k bd lg lc sg sc eg ec bg pg fg mb nn rv R F Fi)(h1:OwI w lg lc (ints L))(h2:OwI w sg sc (ints S))(h3:OwI w eg ec Le)(Ln:L.length=n)(Sn:S.length=k)(En:Le.length=k)(k0:0<k)(k2:k≤1024)(lb: ∀v,v<n→L.getD v 0<k)(fb: ∀v y,F v y≤100000000):CV w cb n k bd lg lc sg sc eg ec pg n (fun v=>L.getD v 0) (fun y=>S.getD y 0) (fun y=>Le.getD y 0) mb nn F:=
 ⟨cellsO_hd h.ob h1.lt h2.lt h3.lt h.pa.lt,fun v hv=>(h1.cell (by rw[ints_len];omega)).trans (by rw[getD_ints]),fun v hv=>h.pa.cell hv,h.mi,fun y hy=>(h2.cell (by rw[ints_len];omega)).trans (by rw[getD_ints]),fun y hy=>h3.cell (by omega),k0,k2,lb,fb⟩
end Go.Proofs.YtmenajiceaicpaaGreat
namespace Go.Proofs.YtmenajiceaicpaaGreat
open Go
def lastQ(P:Program)(o:Oper)(Q:Exit→Act→World→Prop):Exit→Act→World→Prop
 | .normal,a,w=>o.wp P a w (fun a' w'=>Q .normal a' w') Q
 | e,a,w=>Q e a w
def idle(o:Oper):Oper:={o with op:= .move (.const (.bool true))}
section
variable {P:Program} {Q Q':Exit→Act→World→Prop} {md:Region.Mode}
theorem wp_turn{o:Oper}{a:Act}{w:World}{K K':Act→World→Prop}(hK: ∀a w,K a w→K' a w)(hQ: ∀e a w,e≠ .normal→Q e a w→Q' e a w)(h:o.wp P a w K Q):o.wp P a w K' Q':=by
 have hL:LetsOut Q→LetsOut Q':=fun⟨a,w,h⟩=>⟨a,w,hQ _ _ _ (by simp) h⟩
 unfold Oper.wp at*
 generalize (execOp a.eval o).run P w=r at*
 cases r with
 | ok n w'=>
   cases n <;> simp only[Oper.upon] at h ⊢ <;>
    first
     | exact hK _ _ h
     | exact Calls.mono h (fun e w'' he=>by cases e <;> first | exact hK _ _ he | exact hL he | exact hQ _ _ _ (by simp) he)
     | exact Rows.mono h (fun _ _ he=>hK _ _ he)
     | exact h
 | halt x w'=>cases x <;> simp only[Oper.upon] at h ⊢ <;> first | exact hQ _ _ _ (by simp) h | exact h
theorem idle_run(o:Oper)(a:Act)(w:World):(execOp a.eval (idle o)).run P w= .ok (.value (.bool true)) w:=by
 simp[execOp,idle,Act.eval]
theorem idle_asks(o:Oper)(a:Act)(w:World): ¬(idle o).asks P a w:=by
 intro h
 have h1:=h.1
 simp[execOp,idle,Act.eval] at h1
 cases (Array.not_mem_empty _ h1:False)
def lastOK(md:Region.Mode)(ops:Array Oper)(m:Nat):Bool:=
 ops.size==m+1&&(List.range ops.size).all (fun j=>(ops[j]?).all (fun o=>o.after.all (fun e=> !Region.binds md e||decide (e.on<j))))&&((ops[m]?).all (fun o=>o.guard.isNone&&o.dst.isNone&&(List.range m).all (fun j=>o.after.any (fun e=>Region.binds md e&&(e.on==j||(ops[e.on]?).any (fun o'=>o'.after.any (fun e'=>Region.binds md e'&&e'.on==j)))))))
theorem ready_some{ops:Array Oper}{m:Nat}(hok:lastOK md ops m=true){listed:Array Bool}: ∀j,j<ops.size→listed.getD j true=false→(∀i,i<j→listed.getD i false=true)→j∈Region.ready md ops listed:=by
 intro j hj hl hb
 simp only[lastOK,Bool.and_eq_true,List.all_eq_true,List.mem_range] at hok
 refine mem_ready.2 ⟨hl,ops[j],by simp[hj],fun e he hbi=>hb _ ?_⟩
 have:=hok.1.2 j hj
 rw[Array.getElem?_eq_getElem hj] at this
 simp only[Option.all_some,Array.all_eq_true] at this
 obtain⟨i,hi,rfl⟩:=Array.mem_iff_getElem.1 he
 have h:=this i hi
 rw[hbi] at h
 simpa using h
theorem getD_set_same{l:Array Bool}{i:Nat}{b:Bool}(h:i<l.size):(l.setIfInBounds i true).getD i b=true:=by simp[h]
theorem getD_set_other{l:Array Bool}{i j:Nat}{b:Bool}(h:i≠j):(l.setIfInBounds i true).getD j b=l.getD j b:=by
 simp[h]
theorem ready_ne{ops:Array Oper}{m:Nat}(hok:lastOK md ops m=true){listed:Array Bool}(hs:listed.size=ops.size)(j:Nat)(hj:j<ops.size)(hl:listed.getD j true=false):Region.ready md ops listed≠ []:=by
 induction j using Nat.strongRecOn with
 | ind j ih=>
   by_cases h: ∀i,i<j→listed.getD i false=true
   ·intro e
    have:=ready_some hok j hj hl h
    rw[e] at this
    cases this
   ·simp only[Classical.not_forall] at h
    obtain⟨i,hi,hn⟩:=h
    refine ih i hi (by omega) ?_
    have hi':i<listed.size:=by omega
    simp[hi'] at hn ⊢
    exact hn
def shutL(md:Region.Mode)(ops:Array Oper)(listed:Array Bool):Prop:= ∀j oj,ops[j]? =some oj→listed.getD j false=true→∀e,e∈oj.after→Region.binds md e=true→listed.getD e.on false=true
theorem shutL_set{ops:Array Oper}{listed:Array Bool}{i:Nat}(h:shutL md ops listed)(hi:i∈Region.ready md ops listed):shutL md ops (listed.setIfInBounds i true):=by
 obtain⟨h1,o,h2,h3⟩:=mem_ready.1 hi
 have up: ∀j,listed.getD j false=true→(listed.setIfInBounds i true).getD j false=true:=fun j hj=>by
  by_cases e:i=j
  ·subst e
   have hs:i<listed.size:=by
    by_cases c:i<listed.size
    ·exact c
    ·simp[c] at hj
   exact getD_set_same hs
  ·rw[getD_set_other e];exact hj
 intro j oj hj hl e he hb
 by_cases c:i=j
 ·subst c
  rw[h2] at hj
  injection hj with hj
  subst hj
  exact up _ (h3 e he hb)
 ·rw[getD_set_other c] at hl
  exact up _ (h j oj hj hl e he hb)
theorem ready_last{ops:Array Oper}{m:Nat}(hok:lastOK md ops m=true){listed:Array Bool}(hsh:shutL md ops listed)(h:m∈Region.ready md ops listed): ∀j,j<m→listed.getD j false=true:=by
 intro j hj
 obtain⟨_,o,ho,ha⟩:=mem_ready.1 h
 simp only[lastOK,Bool.and_eq_true,List.all_eq_true,List.mem_range] at hok
 have:=hok.2
 rw[ho] at this
 simp only[Option.all_some,Bool.and_eq_true,List.all_eq_true,List.mem_range] at this
 have h2:=this.2 j hj
 rw[Array.any_eq_true] at h2
 obtain⟨i,hi,h3⟩:=h2
 simp only[Bool.and_eq_true,Bool.or_eq_true,beq_iff_eq] at h3
 have h4:=ha _ (Array.getElem_mem hi) h3.1
 rcases h3.2 with h5 | h5
 ·rw[h5] at h4
  exact h4
 ·cases ho':ops[(o.after[i]).on]? with
  | none=>rw[ho'] at h5;simp at h5
  | some o'=>
    rw[ho'] at h5
    simp only[Option.any_some] at h5
    rw[Array.any_eq_true] at h5
    obtain⟨i',hi',h6⟩:=h5
    simp only[Bool.and_eq_true,beq_iff_eq] at h6
    have h7:=hsh _ o' ho' h4 _ (Array.getElem_mem hi') h6.1
    rw[h6.2] at h7
    exact h7
def idled(ops:Array Oper)(m:Nat):Array Oper:=ops.modify m idle
theorem idled_get(ops:Array Oper)(m j:Nat):(idled ops m)[j]? =if j=m then (ops[j]?).map idle else ops[j]? :=by
 unfold idled
 rw[Array.getElem?_modify]
 by_cases h:m=j
 ·subst h;simp
 ·rw[if_neg h,if_neg (fun e=>h e.symm)]
theorem idled_ready(ops:Array Oper)(m:Nat)(listed:Array Bool):Region.ready md (idled ops m) listed=Region.ready md ops listed:=by
 unfold Region.ready
 rw[show(idled ops m).size=ops.size by simp[idled]]
 congr 1
 funext i
 rw[idled_get]
 split
 ·cases ops[i]? <;> rfl
 ·rfl
theorem idled_yielded(ops:Array Oper)(m:Nat)(tmps:Array Value):yielded (idled ops m) tmps=yielded ops tmps:=by
 funext j
 have h:((idled ops m)[j]?).bind (·.dst)=(ops[j]?).bind (·.dst):=by
  rw[idled_get]
  split
  ·cases ops[j]? <;> rfl
  ·rfl
 unfold yielded
 rw[h]
theorem any_end{ops:Array Oper}{fuel:Nat}{listed:Array Bool}{a:Act}{w:World}(hr:Region.ready md ops listed= []):wpAny P md ops Q fuel listed a w↔Q .normal a w:=by
 cases fuel with
 | zero=>simp[wpAny,hr]
 | succ n=>simp[wpAny,hr]
theorem any_last{ops:Array Oper}{m:Nat}{o:Oper}(hok:lastOK md ops m=true)(hm:ops[m]? =some o): ∀ (fuel:Nat) (listed:Array Bool) (a:Act) (w:World),listed.size=ops.size→shutL md ops listed→listed.getD m true=false→
  wpAny P md (idled ops m) (lastQ P o Q) fuel listed a w→wpAny P md ops Q fuel listed a w:=by
 have hms:m<ops.size:=(Array.getElem?_eq_some_iff.1 hm).1
 have hpa:=hok
 simp only[lastOK,Bool.and_eq_true,beq_iff_eq] at hpa
 have hog:o.guard=none∧o.dst=none:=by
  have h2:=hpa.2
  rw[hm] at h2
  simp only[Option.all_some,Bool.and_eq_true,Option.isNone_iff_eq_none] at h2
  exact⟨h2.1.1,h2.1.2⟩
 intro fuel
 induction fuel with
 | zero=>
   intro listed a w hs hsh hl h
   have h1:=h.1
   rw[idled_ready] at h1
   exact absurd h1 (ready_ne hok hs m hms hl)
 | succ fuel ih=>
   intro listed a w hs hsh hl h
   refine⟨fun h1=>absurd h1 (ready_ne hok hs m hms hl),fun i hi=> ?_⟩
   have h2:=h.2 i (by rw[idled_ready];exact hi)
   by_cases him:i=m
   ·subst him
    have hall:=ready_last hok hsh hi
    have hend:Region.ready md ops (listed.setIfInBounds i true)= []:=by
     rw[List.eq_nil_iff_forall_not_mem]
     intro j hj
     obtain⟨h3,oj,h4,_⟩:=mem_ready.1 hj
     have hjs:j<ops.size:=(Array.getElem?_eq_some_iff.1 h4).1
     by_cases hji:i=j
     ·subst hji
      rw[getD_set_same (by omega)] at h3
      cases h3
     ·rw[getD_set_other hji] at h3
      have h5:=hall j (by omega)
      have h6:j<listed.size:=by omega
      simp[h6] at h3 h5
      rw[h3] at h5
      cases h5
    unfold wpOp at h2 ⊢
    rw[idled_get,if_pos rfl,hm] at h2
    rw[hm]
    simp only[Option.map_some] at h2 ⊢
    have hw1:Region.wanted (idle o) (yielded (idled ops i) a.tmps)=true:=by simp[Region.wanted,idle,hog.1]
    have hw2:Region.wanted o (yielded ops a.tmps)=true:=by simp[Region.wanted,hog.1]
    rw[if_pos hw1] at h2
    rw[if_pos hw2]
    rcases h2 with h2 | h2
    ·left
     unfold Oper.wp at h2
     rw[idle_run] at h2
     simp only[Oper.upon] at h2
     rw[show(idle o).dst=none from hog.2,any_end (by rw[idled_ready];exact hend)] at h2
     exact wp_turn (fun a' w' hq=>(any_end hend).2 hq) (fun _ _ _ _ hq=>hq) h2
    ·exact absurd h2.1 (idle_asks o a w)
   ·have hx:ops[i]? =(idled ops m)[i]? :=by rw[idled_get,if_neg him]
    have hK: ∀a' w',wpAny P md (idled ops m) (lastQ P o Q) fuel (listed.setIfInBounds i true) a' w'→wpAny P md ops Q fuel (listed.setIfInBounds i true) a' w':=fun a' w' hh=>
     ih _ a' w' (by simpa using hs) (shutL_set hsh hi) (by rw[getD_set_other him];exact hl) hh
    have hQ: ∀e a w,e≠ .normal→lastQ P o Q e a w→Q e a w:=fun e a w he hq=>by cases e <;> first | exact hq | exact absurd rfl he
    unfold wpOp at h2 ⊢
    rw[idled_yielded,←hx] at h2
    cases ho:ops[i]? with
    | none=>rw[ho] at h2;exact hK _ _ h2
    | some oi=>
      rw[ho] at h2
      simp only at h2 ⊢
      split at h2
      ·rename_i hw
       rw[if_pos hw]
       rcases h2 with h2 | h2
       ·exact Or.inl (wp_turn hK hQ h2)
       ·exact Or.inr ⟨h2.1,by obtain⟨a,w,h3⟩:=h2.2;exact⟨a,w,h3⟩⟩
      ·rename_i hw
       rw[if_neg hw]
       exact hK _ _ h2
theorem wp_region_last{id:Nat}{ops:Array Oper}{a:Act}{w:World}{S:World→Prop}(m:Nat)(o:Oper)(hf:P.follows .mixedOrders=true)(hok:lastOK .any ops m=true)(hm:ops[m]? =some o)(ops':Array Oper)(ho:idled ops m=ops')
  (hS:S w.drew) (h:S w.drew→wpAnyH P .any ops' (lastQ P o Q) S ops'.size (Array.replicate ops'.size false) a w.drew):(Code.region id ops true).wp P Q a w:=by
 have hms:m<ops.size:=(Array.getElem?_eq_some_iff.1 hm).1
 have hsz:ops'.size=ops.size:=by rw[←ho];simp[idled]
 refine wp_region_any hf (any_last hok hm _ _ _ _ (by simp) (fun j oj hj hl=> ?_) (by simp[hms]) ?_)
 ·have hjs:j<ops.size:=(Array.getElem?_eq_some_iff.1 hj).1
  simp[hjs] at hl
 have h1:=wpAny_of_held _ _ _ _ (h hS)
 rw[hsz] at h1
 rw[ho]
 exact h1
end
end Go.Proofs.YtmenajiceaicpaaGreat
namespace Go.Proofs.YtmenajiceaicpaaGreat
open Go.RowKit Go.Maps
theorem fr_of{D:Nat→Prop}{w w':World}(hb:Below w.heap.size w w'):Fr D w w':=⟨hb.os,hb.tape,hb.output,hb.size,fun j hj _=>hb.block j hj⟩
theorem fr_cell(w:World)(g j:Nat)(u:Value):Fr (fun b=>b=g) w (w.setCell ⟨g,j,none⟩ u):=(Fr.refl _ _).setCell _ _ rfl
def setAt{α:Type}(F:Nat→α)(u:Nat)(a:α)(t:Nat):α:=if t=u then a else F t
theorem setAt_same{α:Type}(F:Nat→α)(u:Nat)(a:α):setAt F u a u=a:=by simp[setAt]
theorem setAt_ne{α:Type}(F:Nat→α){u t:Nat}(a:α)(h:t≠u):setAt F u a t=F t:=by simp[setAt,h]
end Go.Proofs.YtmenajiceaicpaaGreat
