import Derived.Maps.RangeWalk
import Derived.BigRegion
import Derived.Test.YtmenajiceaicpaaGreatZAQ
open Go.Lib (hid)
namespace Go.Proofs.YtmenajiceaicpaaGreat
open Go.RowKit Go.Maps
structure Hd(w:World)(cb n k:Nat)(bd:Int)(lg lc sg sc eg ec pg pc:Nat):Prop where
 c0:w.cell? ⟨cb,0,none⟩=some (.int .i64 bd)
 c1:w.cell? ⟨cb,1,none⟩=some (.slice (some ⟨lg,0,none⟩) n lc)
 c2:w.cell? ⟨cb,2,none⟩=some (.slice (some ⟨sg,0,none⟩) k sc)
 c3:w.cell? ⟨cb,3,none⟩=some (.slice (some ⟨eg,0,none⟩) k ec)
 c5:w.cell? ⟨cb,5,none⟩=some (.slice (some ⟨pg,0,none⟩) n pc)
 cl:cb<w.heap.size
 ll:lg<w.heap.size
 sl:sg<w.heap.size
 el:eg<w.heap.size
 pl:pg<w.heap.size
theorem Hd.on{w w':World}{cb n k:Nat}{bd:Int}{lg lc sg sc eg ec pg pc B:Nat}(h:Hd w cb n k bd lg lc sg sc eg ec pg pc)(hb:Below B w w')(hB:w.heap.size≤B):Hd w' cb n k bd lg lc sg sc eg ec pg pc:=by
 have h1:=h.cl
 have h2:=h.ll
 have h3:=h.sl
 have h4:=h.el
 have h5:=h.pl
 have hz:=hb.size
 exact⟨(hb.cell (p:=⟨cb,0,none⟩) (by show cb<B;omega)).trans h.c0,(hb.cell (p:=⟨cb,1,none⟩) (by show cb<B;omega)).trans h.c1,(hb.cell (p:=⟨cb,2,none⟩) (by show cb<B;omega)).trans h.c2,(hb.cell (p:=⟨cb,3,none⟩) (by show cb<B;omega)).trans h.c3,(hb.cell (p:=⟨cb,5,none⟩) (by show cb<B;omega)).trans h.c5,by omega,by omega,by omega,by omega,by omega⟩
set_option maxRecDepth 100000 in
set_option maxHeartbeats 3200000 in
theorem firstOf_any(cb n k:Nat)(bd:Int)(lg lc sg sc eg ec pg pc b nn v lv:Nat)(F S:Nat→Nat)(Le:Nat→Int)(w:World)(hd:Hd w cb n k bd lg lc sg sc eg ec pg pc)(hl:w.cell? ⟨lg,v,none⟩=some (.int .i64 (lv:Int)))(hm:w.cell? ⟨pg,v,none⟩=some (.map (some b)))(hS: ∀y,y<k→w.cell? ⟨sg,y,none⟩=some (.int .i64 ((S y:Nat):Int)))(hLe: ∀y,y<k→w.cell? ⟨eg,y,none⟩=some (.int .i64 (Le y)))(hv:v<n)(hk:0<k)(hk2:k≤1024)(hM:MapI w b nn k F)(hlv:lv≤1024)(hF: ∀y,F y≤100000000):
  Calls Tryz.prog 156 #[.pointer (some ⟨cb,0,none⟩), .int .i64 v] w fun e w'=> ∃m:M,e= .returned m.val∧Hid (FoS k F S Le bd (F lv) v (fun _=>True) m)∧Below w.heap.size w w':=by
 have hv':(v:Int)<n:=by omega
 have hb0:Below w.heap.size w (w.alloc (.cells #[.int .i64 0, .int .i64 0, .int .i64 0] 136)):=(Below.refl _ _).alloc (Nat.le_refl _) _
 have hg0:=heap_top w (.cells #[.int .i64 0, .int .i64 0, .int .i64 0] 136)
 have hWs:(w.alloc (.cells #[.int .i64 0, .int .i64 0, .int .i64 0] 136)).heap.size=w.heap.size+1:=by simp
 have HD0:=hid (hd.on hb0 (Nat.le_refl _))
 have HL0:=hid ((hb0.cell (p:=⟨lg,v,none⟩) hd.ll).trans hl)
 have HP0:=hid ((hb0.cell (p:=⟨pg,v,none⟩) hd.pl).trans hm)
 have HM0:=hid (hM.on hb0)
 have HS0:Hid (∀y,y<k→(w.alloc (.cells #[.int .i64 0, .int .i64 0, .int .i64 0] 136)).cell? ⟨sg,y,none⟩=some (.int .i64 ((S y:Nat):Int))):=fun y hy=>(hb0.cell (p:=⟨sg,y,none⟩) hd.sl).trans (hS y hy)
 have HE0:Hid (∀y,y<k→(w.alloc (.cells #[.int .i64 0, .int .i64 0, .int .i64 0] 136)).cell? ⟨eg,y,none⟩=some (.int .i64 (Le y))):=fun y hy=>(hb0.cell (p:=⟨eg,y,none⟩) hd.el).trans (hLe y hy)
 have HB0:=hid hb0
 have HG0:=hid hg0
 have HFB:=hid hF
 have hfl:=hF lv
 have hcl:=hd.cl
 have hll:=hd.ll
 have hpl:=hd.pl
 clear hM hd hS hLe hF hb0 hg0 hl hm
 obtain⟨fl,HFL⟩:=named (F lv)
 rw[HFL.out] at hfl ⊢
 generalize hp:w.heap.size=p at*
 go_enter Tryz.func156,Tryz.ntmps156
 go_wp2_with fail
 try rw[hp]
 generalize hW:w.alloc (.cells #[.int .i64 0, .int .i64 0, .int .i64 0] 136)=W at*
 clear hW
 have hb2:Below W.heap.size W (W.alloc (.cells #[.int .i64 0, .int .i64 0, .int .i64 0] 136)):=(Below.refl _ _).alloc (Nat.le_refl _) _
 have HG3:=hid (heap_top W (.cells #[.int .i64 (v:Int), .int .i64 0, .int .i64 0] 136))
 have hb3:Below W.heap.size W (W.alloc (.cells #[.int .i64 (v:Int), .int .i64 0, .int .i64 0] 136)):=(Below.refl _ _).alloc (Nat.le_refl _) _
 have D2:=HD0.out.on hb2 (Nat.le_refl _)
 have D3:=HD0.out.on hb3 (Nat.le_refl _)
 have p1:=HD0.out.c1
 have p5:=HD0.out.c5
 have q1:=D2.c1
 have q5:=D2.c5
 have r1:=D3.c1
 have r5:=D3.c5
 have pl:=HL0.out
 have ql:=(hb2.cell (p:=⟨lg,v,none⟩) HD0.out.ll).trans HL0.out
 have rl:=(hb3.cell (p:=⟨lg,v,none⟩) HD0.out.ll).trans HL0.out
 have pm:=HP0.out
 have qm:=(hb2.cell (p:=⟨pg,v,none⟩) HD0.out.pl).trans HP0.out
 have rm:=(hb3.cell (p:=⟨pg,v,none⟩) HD0.out.pl).trans HP0.out
 have l1:=(HM0.out.on (w':=W.drew) ⟨rfl,rfl,rfl,Nat.le_refl _,fun _ _=>rfl⟩).look (x:=lv) (by omega)
 have l2:=((HM0.out.on hb2).on (w':=(W.alloc (.cells #[.int .i64 0, .int .i64 0, .int .i64 0] 136)).drew) ⟨rfl,rfl,rfl,Nat.le_refl _,fun _ _=>rfl⟩).look (x:=lv) (by omega)
 have l3:=((HM0.out.on hb3).on (w':=(W.alloc (.cells #[.int .i64 (v:Int), .int .i64 0, .int .i64 0] 136)).drew) ⟨rfl,rfl,rfl,Nat.le_refl _,fun _ _=>rfl⟩).look (x:=lv) (by omega)
 have HMB:=hid (HM0.out.on hb3)
 have HB3:=hid hb3
 have HGp:=hid ((hb3.block p (by omega)).trans HG0.out)
 rw[HFL.out] at l1 l2 l3
 clear hb2 hb3 D2 D3
 go_region
 all_goals
  have HX1:Hid (MapI (W.alloc (.cells #[.int .i64 (v:Int), .int .i64 0, .int .i64 0] 136)).drew b nn k F):=HMB.out.on ⟨rfl,rfl,rfl,Nat.le_refl _,fun _ _=>rfl⟩
  have HX2:Hid (Below W.heap.size W (W.alloc (.cells #[.int .i64 (v:Int), .int .i64 0, .int .i64 0] 136)).drew):=HB3.out.trans ⟨rfl,rfl,rfl,Nat.le_refl _,fun _ _=>rfl⟩
  have HX3:Hid ((W.alloc (.cells #[.int .i64 (v:Int), .int .i64 0, .int .i64 0] 136)).drew.heap[p+1]? =some (M.obj ⟨v,0,0⟩)):=by rw[←hWs];exact HG3.out
  have HX4:Hid ((W.alloc (.cells #[.int .i64 (v:Int), .int .i64 0, .int .i64 0] 136)).drew.heap[p]? =some (.cells #[.int .i64 0, .int .i64 0, .int .i64 0] 136)):=HGp.out
  have hXs:(W.alloc (.cells #[.int .i64 (v:Int), .int .i64 0, .int .i64 0] 136)).drew.heap.size=p+2:=by show(W.alloc _).heap.size=_;simp;omega
  clear p1 p5 q1 q5 r1 r5 pl ql rl pm qm rm l1 l2 l3 HMB HB3 HGp HG3
  generalize hX:(W.alloc (.cells #[.int .i64 (v:Int), .int .i64 0, .int .i64 0] 136)).drew=X at*
  clear hX
  have c5:=(HX2.out.cell (p:=⟨cb,5,none⟩) HD0.out.cl).trans HD0.out.c5
  have cm:=(HX2.out.cell (p:=⟨pg,v,none⟩) HD0.out.pl).trans HP0.out
  obtain⟨D,hown,hat,hkey⟩:=HX1.out
  have HOW:=hid hown
  have HAT:=hid hat
  have HKY:=hid hkey
  clear hown hat hkey
  go_wp2_with (first | (at_range;go_must (refine wpList_range_own _ rfl _ 171 rfl 3 3 law3 Tryz.underlying171 _ b nn _ rfl HOW.out ?_;intro w0 hrg0 hgr0 hs0)) | go_in)
  go_frame
  rw[hXs] at hrg0 hs0
  try rw[hXs]
  have HRG0:=hid hrg0
  have HB4:Hid (Below p w w0):=(HB0.out.trans (HX2.out.mono (by omega))).grown hgr0 (by omega) (fun j hj=>by cases hj)
  have HG4:=hid ((hgr0.block (p+1) (by omega) (by simp)).trans HX3.out)
  have HG5:=hid ((hgr0.block p (by omega) (by simp)).trans HX4.out)
  have HFS0:Hid (FoS k F S Le bd fl v (fun y=>Maps.has D (.int .i64 (y:Int))=false∧y≤100000000) ⟨v,0,0⟩):=FoS.start hk (fun y hy=>by
   have h1:=HAT.out y hy.2
   rw[atKey_of_not_has hy.1] at h1
   simp only[DataW.lit.injEq,Lit.int.injEq,true_and] at h1
   omega)
  have HBW0:Hid (Below W.heap.size W w0):=HX2.out.grown hgr0 (by omega) (fun j hj=>by cases hj)
  clear hrg0 hgr0 hs0 c5 cm HX1 HX2 HX3 HX4 HOW
  go_loopw [7] (fun _ wr=> ∃ (left:Lit→Bool) (cnt:Nat) (m:M),Hid (wr.ranges Tryz.prog 3 (plainElem (H:=Unit) Tryz.prog 3) b (p+2) nn D left cnt)∧Hid (wr.heap[p+1]? =some m.obj)∧Hid (wr.heap[p]? =some (.cells #[.int .i64 0, .int .i64 0, .int .i64 0] 136))∧Hid (FoS k F S Le bd fl v (fun y=>left (.int .i64 (y:Int))=false∧y≤100000000) m)∧Hid (∀x:Int,left (.int .i64 x)=true→Maps.has D (.int .i64 x)=true)∧Hid (Below W.heap.size W wr)) (fun _ wr=>wr.rangeLeft b (p+2))
  case atStart=>exact⟨_,_,⟨v,0,0⟩,HRG0,HG4,HG5,HFS0,(fun x hx=>hx),HBW0⟩
  case round=>
   obtain⟨left,cnt,m,HRG,HGM,HGZ,HFS,HLF,HBW⟩:=hrel
   clear HRG0 HG4 HG5 HFS0 HBW0 HB4
   go_wp2_with (first | (at_next;go_must (refine wpList_next_ranges_ii _ rfl _ rfl 3 3 .i64 .i64 law3 Tryz.underlying3 Tryz.underlying3 b (p+2) nn _ _ _ rfl HRG.out ?_ ?_)) | go_in)
   ·intro hc0 hl0
    have HFE:Hid (FoS k F S Le bd fl v (fun _=>True) m):=⟨HFS.out.v,HFS.out.l,HFS.out.g,fun h0=>⟨(HFS.out.some h0).1,(HFS.out.some h0).2.1,fun y hy _ hs=>(HFS.out.some h0).2.2 y hy ⟨hl0 _,by omega⟩ hs⟩,fun h0 y hy _ hs=>HFS.out.none h0 y hy ⟨hl0 _,by omega⟩ hs⟩
    obtain⟨x0,x1,x2⟩:=three_cells HGM.out
    obtain⟨y0,y1,y2⟩:=three_cells HGZ.out
    have f0:wr.frozen? ⟨p,0,none⟩=false:=by simp[World.frozen?,HGZ.out]
    have f1:wr.frozen? ⟨p,1,none⟩=false:=by simp[World.frozen?,HGZ.out]
    have f2:wr.frozen? ⟨p,2,none⟩=false:=by simp[World.frozen?,HGZ.out]
    have HGE:=hid (three_setL HGZ.out (.int .i64 (m.v:Int)) (.int .i64 (m.l:Int)) (.int .i64 m.g))
    have HBE:=hid (three_belowL (HB0.out.trans (show Below p W wr from HBW.out.mono (by omega))) (Nat.le_refl p) (.int .i64 (m.v:Int)) (.int .i64 (m.l:Int)) (.int .i64 m.g))
    clear hc0 hl0
    go_wp2_with fail
    refine bodyPost_ret (results_cell_row (P:=Tryz.prog) rfl _ _ p 136 _ _ _ rfl HGE.out Tryz.underlying136 rfl (by kernel_rfl)) rfl ?_
    exact⟨m,rfl,HFE,HBE.out⟩
   ·intro x c w1 cnt1 hwx hwc hlx hat hrg1 hlt hg1 hs1 hen
    obtain⟨y,hy,rfl⟩:=HKY.out x (HLF.out x hlx)
    have hFy:=HFB.out y
    have hcF:c=((F y:Nat):Int):=by
     have h1:=HAT.out y (by omega)
     rw[hat] at h1
     simpa only[DataW.lit.injEq,Lit.int.injEq,true_and] using h1
    subst hcF
    obtain⟨fy,HFY⟩:=named (F y)
    rw[HFY.out] at hen hFy
    have hsub:IntKind.i64.wrap ((fy:Int) - fl)=(fy:Int) - fl:=by rw[IntKind.wrap_i64];omega
    have HBX:Hid (Below W.heap.size W (w1.alloc (.cells #[.int .i64 (v:Int), .int .i64 (y:Int), .int .i64 ((fy:Int) - fl)] 136))):=(HBW.out.grown hg1 HBW.out.size (fun j hj=>by cases hj;omega)).alloc (by have:=hg1.size;have:=HBW.out.size;omega) _
    have HGX:Hid ((w1.alloc (.cells #[.int .i64 (v:Int), .int .i64 (y:Int), .int .i64 ((fy:Int) - fl)] 136)).heap[p+1]? =some m.obj):=(Below.heap_alloc _ _ _ (by have:=lt_of_block HGM.out;omega)).trans ((hg1.block (p+1) (lt_of_block HGM.out) (by simp)).trans HGM.out)
    have HZX:Hid ((w1.alloc (.cells #[.int .i64 (v:Int), .int .i64 (y:Int), .int .i64 ((fy:Int) - fl)] 136)).heap[p]? =some (.cells #[.int .i64 0, .int .i64 0, .int .i64 0] 136)):=(Below.heap_alloc _ _ _ (by have:=lt_of_block HGZ.out;omega)).trans ((hg1.block p (lt_of_block HGZ.out) (by simp)).trans HGZ.out)
    have HMX:=hid (heap_top w1 (.cells #[.int .i64 (v:Int), .int .i64 (y:Int), .int .i64 ((fy:Int) - fl)] 136))
    have HRX:=hid (hrg1.alloc (.cells #[.int .i64 (v:Int), .int .i64 (y:Int), .int .i64 ((fy:Int) - fl)] 136))
    rw[hs1] at HMX
    have HM8:Hid (wr.rangeLeft b (p+2)=cnt):=HRG.out.left_eq
    have HML:Hid (m.l<k):=HFS.out.l
    have hyk:(y:Int)<k:=by omega
    clear hwx hwc hlx hat hrg1 hg1
    go_wp2_with fail
    generalize hX:w1.alloc (.cells #[.int .i64 (v:Int), .int .i64 (y:Int), .int .i64 ((fy:Int) - fl)] 136)=Y at*
    generalize hq:wr.heap.size=q at*
    have HC:Hid (∀W':World,Below Y.heap.size Y W'→Calls Tryz.prog 181 #[.pointer (some ⟨cb,0,none⟩), .agg #[.int .i64 (v:Int), .int .i64 (y:Int), .int .i64 ((fy:Int) - fl)], .agg #[.int .i64 (m.v:Int), .int .i64 (m.l:Int), .int .i64 m.g]] W' fun e w'=>e= .returned (.bool (ahB ⟨v,y,(fy:Int) - fl⟩ m (Le y) (Le m.l)))∧Below Y.heap.size Y w'):=fun W' hb=>by
     have hBY:=(HBX.out.trans (hb.mono HBX.out.size))
     have d:=HD0.out.on hBY (Nat.le_refl _)
     refine(ahead_any cb eg k ec ⟨v,y,(fy:Int) - fl⟩ m (Le y) (Le m.l) W' d.c3 d.cl d.el ((hBY.cell (p:=⟨eg,y,none⟩) HD0.out.el).trans (HE0.out y hy)) ((hBY.cell (p:=⟨eg,m.l,none⟩) HD0.out.el).trans (HE0.out m.l HML.out)) hy HML.out).mono ?_
     rintro e w' ⟨rfl,h⟩
     exact⟨rfl,hb.trans (h.mono hb.size)⟩
    have HBD:Hid (Below Y.heap.size Y Y.drew):=⟨rfl,rfl,rfl,Nat.le_refl _,fun _ _=>rfl⟩
    have DY:=HD0.out.on HBX.out (Nat.le_refl _)
    have c0:=DY.c0
    have c2:=DY.c2
    have cs:=(HBX.out.cell (p:=⟨sg,y,none⟩) HD0.out.sl).trans (HS0.out y hy)
    have hcY:=DY.cl
    have hsY:=DY.sl
    clear DY
    obtain⟨x0,x1,x2⟩:=three_cells HGX.out
    obtain⟨z0,z1,z2⟩:=three_cells HMX.out
    have hpX:p+1<Y.heap.size:=lt_of_block HGX.out
    have hxX:q<Y.heap.size:=lt_of_block HMX.out
    obtain⟨sy,HSY⟩:=named (S y)
    rw[HSY.out] at cs
    obtain⟨t,HT⟩:=named (ahB ⟨v,y,(fy:Int) - fl⟩ m (Le y) (Le m.l))
    rw[HT.out] at HC
    have HQ:Hid (∀z:Nat,((left (.int .i64 (z:Int))&& !(Lit.int .i64 (z:Int)).sameKey (.int .i64 (y:Int)))=false∧z≤100000000)→(left (.int .i64 (z:Int))=false∧z≤100000000)∨z=y):=fun z hz=>by
     cases hlz:left (.int .i64 (z:Int)) with
     | false=>exact .inl ⟨rfl,hz.2⟩
     | true=>
       have h1:=hz.1
       rw[hlz] at h1
       simp[Lit.sameKey] at h1
       exact .inr (by omega)
    have HLG:Hid (∀x:Int,(left (.int .i64 x)&& !(Lit.int .i64 x).sameKey (.int .i64 (y:Int)))=true→Maps.has D (.int .i64 x)=true):=fun x hx=>HLF.out x (by simp only[Bool.and_eq_true] at hx;exact hx.1)
    have HNB:Hid (b<p+1):=by have:=HM0.out.lt;show _<_;omega
    by_cases hlt0:(sy:Int)<bd
    ·cases t
     ·go_region_held3 (fun w'=>w'.cell? ⟨cb,0,none⟩=some (.int .i64 bd)∧w'.cell? ⟨cb,2,none⟩=some (.slice (some ⟨sg,0,none⟩) k sc)∧w'.cell? ⟨sg,y,none⟩=some (.int .i64 (sy:Int))∧w'.cell? ⟨p+1,0,none⟩=some (.int .i64 (m.v:Int))∧w'.cell? ⟨p+1,1,none⟩=some (.int .i64 (m.l:Int))∧w'.cell? ⟨p+1,2,none⟩=some (.int .i64 m.g)∧w'.cell? ⟨q,0,none⟩=some (.int .i64 (v:Int))∧w'.cell? ⟨q,1,none⟩=some (.int .i64 (y:Int))∧w'.cell? ⟨q,2,none⟩=some (.int .i64 ((fy:Int) - fl))) (go_keep) ((go_at_call 181;refine(HC.out _ (by first | exact HBD.out | exact hb2)).mono ?_;rintro e w2 ⟨rfl,hb2⟩;have u0:=(hb2.cell (p:=⟨cb,0,none⟩) hcY).trans c0;have u1:=(hb2.cell (p:=⟨cb,2,none⟩) hcY).trans c2;have u2:=(hb2.cell (p:=⟨sg,y,none⟩) hsY).trans cs;have v0:=(hb2.cell (p:=⟨p+1,0,none⟩) hpX).trans x0;have v1:=(hb2.cell (p:=⟨p+1,1,none⟩) hpX).trans x1;have v2:=(hb2.cell (p:=⟨p+1,2,none⟩) hpX).trans x2;have v3:=(hb2.cell (p:=⟨q,0,none⟩) hxX).trans z0;have v4:=(hb2.cell (p:=⟨q,1,none⟩) hxX).trans z1;have v5:=(hb2.cell (p:=⟨q,2,none⟩) hxX).trans z2))
      have HB2:=hid hb2
      have HG2:=hid ((hb2.block (p+1) hpX).trans HGX.out)
      have HZ2:=hid ((hb2.block p (by omega)).trans HZX.out)
      have HR2:=hid (HRX.out.kept (row:=none) (w':=w2) ⟨hb2.os,hb2.tape,hb2.output,hb2.size,fun i hi _=>hb2.block i hi⟩ (by simp) (by simp))
      have HF2:=hid (HFS.out.leave HQ.out (fun _=>by rw[HFY.out];exact HT.out))
      clear hb2 u0 u1 u2 v0 v1 v2 v3 v4 v5 c0 c2 cs x0 x1 x2 z0 z1 z2
      go_wp2_with fail
      exact⟨⟨_,cnt1,m,HR2,HG2,HZ2,HF2,HLG,HBX.out.trans (HB2.out.mono HBX.out.size)⟩,by rw[HR2.out.left_eq,HM8.out];exact hlt⟩
     ·go_region_held3 (fun w'=>w'.cell? ⟨cb,0,none⟩=some (.int .i64 bd)∧w'.cell? ⟨cb,2,none⟩=some (.slice (some ⟨sg,0,none⟩) k sc)∧w'.cell? ⟨sg,y,none⟩=some (.int .i64 (sy:Int))∧w'.cell? ⟨p+1,0,none⟩=some (.int .i64 (m.v:Int))∧w'.cell? ⟨p+1,1,none⟩=some (.int .i64 (m.l:Int))∧w'.cell? ⟨p+1,2,none⟩=some (.int .i64 m.g)∧w'.cell? ⟨q,0,none⟩=some (.int .i64 (v:Int))∧w'.cell? ⟨q,1,none⟩=some (.int .i64 (y:Int))∧w'.cell? ⟨q,2,none⟩=some (.int .i64 ((fy:Int) - fl))) (go_keep) ((go_at_call 181;refine(HC.out _ (by first | exact HBD.out | exact hb2)).mono ?_;rintro e w2 ⟨rfl,hb2⟩;have u0:=(hb2.cell (p:=⟨cb,0,none⟩) hcY).trans c0;have u1:=(hb2.cell (p:=⟨cb,2,none⟩) hcY).trans c2;have u2:=(hb2.cell (p:=⟨sg,y,none⟩) hsY).trans cs;have v0:=(hb2.cell (p:=⟨p+1,0,none⟩) hpX).trans x0;have v1:=(hb2.cell (p:=⟨p+1,1,none⟩) hpX).trans x1;have v2:=(hb2.cell (p:=⟨p+1,2,none⟩) hpX).trans x2;have v3:=(hb2.cell (p:=⟨q,0,none⟩) hxX).trans z0;have v4:=(hb2.cell (p:=⟨q,1,none⟩) hxX).trans z1;have v5:=(hb2.cell (p:=⟨q,2,none⟩) hxX).trans z2))
      have HB2:=hid hb2
      have HG2:=hid ((hb2.block (p+1) hpX).trans HGX.out)
      have HZ2:=hid ((hb2.block p (by omega)).trans HZX.out)
      have HR2:=hid (HRX.out.kept (row:=none) (w':=w2) ⟨hb2.os,hb2.tape,hb2.output,hb2.size,fun i hi _=>hb2.block i hi⟩ (by simp) (by simp))
      have HF2:Hid (FoS k F S Le bd fl v (fun z=>(left (.int .i64 (z:Int))&& !(Lit.int .i64 (z:Int)).sameKey (.int .i64 (y:Int)))=false∧z≤100000000) ⟨v,y,(fy:Int) - fl⟩):=by
       have h:=HFS.out.take HQ.out hy (by rw[HSY.out];exact hlt0) (by rw[HFY.out];exact HT.out)
       rw[HFY.out] at h
       exact h
      have f0:w2.frozen? ⟨p+1,0,none⟩=false:=by simp[World.frozen?,HG2.out,M.obj]
      have f1:w2.frozen? ⟨p+1,1,none⟩=false:=by simp[World.frozen?,HG2.out,M.obj]
      have f2:w2.frozen? ⟨p+1,2,none⟩=false:=by simp[World.frozen?,HG2.out,M.obj]
      clear hb2 u0 u1 u2 c0 c2 cs x0 x1 x2 z0 z1 z2
      have HR3:=hid (HR2.out.kept (row:=some (p+1)) (w':=((w2.setCell ⟨p+1,0,none⟩ (.int .i64 (v:Int))).setCell ⟨p+1,1,none⟩ (.int .i64 (y:Int))).setCell ⟨p+1,2,none⟩ (.int .i64 ((fy:Int) - fl))) ⟨rfl,rfl,rfl,by simp,fun i _ hn=>three_farL w2 (p+1) i (fun e=>hn (by rw[e])) _ _ _⟩ (fun e=>by cases e;exact absurd HNB.out (Nat.lt_irrefl _)) (by simp))
      have HG3:=hid (three_setL HG2.out (.int .i64 (v:Int)) (.int .i64 (y:Int)) (.int .i64 ((fy:Int) - fl)))
      have HZ3:=hid ((three_farL w2 (p+1) p (by omega) (.int .i64 (v:Int)) (.int .i64 (y:Int)) (.int .i64 ((fy:Int) - fl))).trans HZ2.out)
      have HB3:=hid (three_belowL (HBX.out.trans (HB2.out.mono HBX.out.size)) (b:=p+1) (by omega) (.int .i64 (v:Int)) (.int .i64 (y:Int)) (.int .i64 ((fy:Int) - fl)))
      go_wp2_with fail
      exact⟨⟨_,cnt1,⟨v,y,(fy:Int) - fl⟩,HR3,HG3,HZ3,HF2,HLG,HB3⟩,by rw[HR3.out.left_eq,HM8.out];exact hlt⟩
    ·have HF2:=hid (HFS.out.leave HQ.out (fun h=>absurd h (by rw[HSY.out];exact hlt0)))
     go_region
     have HR2:Hid (Y.drew.ranges Tryz.prog 3 (plainElem (H:=Unit) Tryz.prog 3) b (p+2) nn D (fun z=>left z&& !z.sameKey (.int .i64 (y:Int))) cnt1):=HRX.out.kept (row:=none) ⟨rfl,rfl,rfl,Nat.le_refl _,fun _ _ _=>rfl⟩ (by simp) (by simp)
     go_wp2_with fail
     exact⟨⟨_,cnt1,m,HR2,HGX,HZX,HF2,HLG,HBX.out.trans (HBD.out.mono HBX.out.size)⟩,by rw[HR2.out.left_eq,HM8.out];exact hlt⟩
end Go.Proofs.YtmenajiceaicpaaGreat
