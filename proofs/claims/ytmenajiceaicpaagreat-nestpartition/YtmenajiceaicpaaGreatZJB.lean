import Derived.BigRegion
import Derived.Deep.DeepMust
import Derived.Test.YtmenajiceaicpaaGreatZJA
open Go.Lib (hid)
set_option maxRecDepth 100000
namespace Go.Proofs.YtmenajiceaicpaaGreat
open Go.RowKit
theorem JS.row{w w':World}{jb B bd:Nat}{L S:List Nat}{O O':List K}{lg sg lc sc og n oc:Nat}(h:JS w jb B bd L S O lg sg lc sc (.slice (some ⟨og,0,none⟩) n oc))(hf:Fr (fun k=>k=og) w w')(ho:w'.ownsRow B 128 3 (.slice (some ⟨og,0,none⟩) n oc) O'.length (cellsK O')):JS w' jb B bd L S O' lg sg lc sc (.slice (some ⟨og,0,none⟩) n oc):=
 ⟨(hf.block jb (lt_of_block h.hd) (fun e=>h.njo (by rw[e];rfl))).trans h.hd,own_frQ h.lo hf (fun k hk e=>h.nlo (by injection hk with hk;show some og=_;rw[←e,←hk])),own_frQ h.so hf (fun k hk e=>h.nso (by injection hk with hk;show some og=_;rw[←e,←hk])),ho,h.ne,h.jl⟩
theorem rowK_at{w:World}{B g n c:Nat}{R:List K}(h:w.ownsRow B 128 3 (.slice (some ⟨g,0,none⟩) n c) R.length (cellsK R))(j:Nat)(hj:j<R.length):(R.getD j K.zero).at w g (j*3):=by
 obtain⟨h1,h2,h3⟩:=cellsK_at R j hj
 have hn:n=R.length:=by
  rcases h.2 with ⟨h4,_⟩ | ⟨_,_,_,h4,_⟩
  ·cases h4
  ·injection h4
 subst hn
 exact⟨(World.ownsRow.cellAt h (j*3) (by omega)).trans h1,(World.ownsRow.cellAt h (j*3+1) (by omega)).trans h2,(World.ownsRow.cellAt h (j*3+2) (by omega)).trans h3⟩
theorem Fr.setNew{D:Nat→Prop}{a b:World}(h:Fr D a b)(p:Addr)(u:Value)(hp:a.heap.size≤p.block):Fr D a (b.setCell p u):=
 ⟨h.os,h.tape,h.output,by have:=h.size;simpa[World.setCell] using this,fun k hk hn=>(Below.heap_setCell b p u k (fun e=>by omega)).trans (h.block k hk hn)⟩
set_option maxHeartbeats 1600000 in
theorem takeOut_any(jb B bd:Nat)(L S:List Nat)(O:List K)(lg sg lc sc og oc:Nat)(l:K)(w:World)(hj:JS w jb B bd L S O lg sg lc sc (.slice (some ⟨og,0,none⟩) O.length oc))(hin: ∀m,m∈O→m.a<S.length∧m.b<S.length∧m.n≤100000)(hO:O.length≤1000000)(hS:S.length≤1024):
  Calls Tryz.prog 125 #[.pointer (some ⟨jb,0,none⟩),l.val] w fun e w'=> ∃g,e= .returned (.slice (some ⟨g,0,none⟩) S.length S.length)∧w.heap.size≤g∧TbV w' g S.length 3 (fun o=> .int .i64 ((bs l O o:Nat):Int))∧JS w' jb B bd L S (oth l O) lg sg lc sc (.slice (some ⟨og,0,none⟩) (oth l O).length oc)∧Fr (fun k=>k=jb∨k=og) w w':=by
 obtain⟨i3,hi3,hz3,hs3,hb3⟩:=info_parts info3
 have hmk: ∀w,(Instr.makeSlice 25 (.int .i64 S.length) (.int .i64 S.length)).run Tryz.prog w= .ok (.slice (some ⟨w.heap.size,0,none⟩) S.length S.length) (w.alloc (.cells ((List.range S.length).map (fun _=>Value.int .i64 0)).toArray 3)):=fun w=>by
  have:=run_make (P:=Tryz.prog) w 25 3 i3 (.int .i64 0) Tryz.underlying25 hi3 hz3 .i64 .i64 S.length S.length (by omega) (by omega) (by rw[hb3];omega) (by omega)
  rw[this,Int.toNat_natCast,hs3,made_int]
 clear hi3 hz3 hs3 hb3
 clear i3
 obtain⟨i0,hi,hz0,hz1,hz2⟩:=info_parts info60K
 have HJ0:=hid (hj.on (show Below w.heap.size w (w.alloc (Obj.cells #[Value.int IntKind.i64 l.a,Value.int IntKind.i64 l.b,Value.int IntKind.i64 l.n] 128)) from (Below.refl _ _).alloc (Nat.le_refl _) _))
 have HF0:Hid (Fr (fun k=>k=jb∨k=og) w (w.alloc (Obj.cells #[Value.int IntKind.i64 l.a,Value.int IntKind.i64 l.b,Value.int IntKind.i64 l.n] 128))):=(Fr.refl _ w).alloc _
 have hg2:=heap_top w (Obj.cells #[Value.int IntKind.i64 l.a,Value.int IntKind.i64 l.b,Value.int IntKind.i64 l.n] 128)
 have HXV:Hid (l.val= .agg #[.int .i64 (l.a:Int), .int .i64 (l.b:Int), .int .i64 (l.n:Int)]):=rfl
 rw[HXV.out]
 obtain⟨j0,j1,j2,j3⟩:=four_cellsJ HJ0.out.hd
 have HG2:=hid hg2
 have hjw:jb<w.heap.size:=lt_of_block hj.hd
 have hogp:og<w.heap.size:=(hj.oo.lt og rfl).2
 have hlgp:lg<w.heap.size:=(hj.lo.lt lg rfl).2
 have hsgp:sg<w.heap.size:=(hj.so.lt sg rfl).2
 have HOC:Hid (O.length≤oc):=by
  obtain⟨_,_,h1,_,h2,_⟩:=own_shape hj.oo (by simp)
  injection h1 with _ _ h3
  show _≤_
  omega
 have hoc:(0:Int)≤oc:=by omega
 have HIN:=hid hin
 clear hg2 hj hin
 have hpw:w.heap.size<(w.alloc (Obj.cells #[Value.int IntKind.i64 l.a,Value.int IntKind.i64 l.b,Value.int IntKind.i64 l.n] 128)).heap.size:=by simp
 generalize hp:w.heap.size=p at*
 go_enter Tryz.func125,Tryz.ntmps125
 go_wp2_with fail
 generalize hW:w.alloc (Obj.cells #[Value.int IntKind.i64 l.a,Value.int IntKind.i64 l.b,Value.int IntKind.i64 l.n] 128)=W at*
 clear hW
 have HJ1:=hid (HJ0.out.on (show Below W.heap.size W (W.alloc (.cells ((List.range S.length).map (fun _=>Value.int .i64 0)).toArray 3)) from (Below.refl _ _).alloc (Nat.le_refl _) _))
 have r3:=(four_cellsJ HJ1.out.hd).2.2.2
 have r2:=(four_cellsJ HJ1.out.hd).2.2.1
 have HF1:=hid (HF0.out.alloc (.cells ((List.range S.length).map (fun _=>Value.int .i64 0)).toArray 3))
 have HT1:Hid (TbV (W.alloc (.cells ((List.range S.length).map (fun _=>Value.int .i64 0)).toArray 3)) W.heap.size S.length 3 (fun _=> .int .i64 0)):=heap_top W _
 have HG3:=hid ((Below.heap_alloc W (.cells ((List.range S.length).map (fun _=>Value.int .i64 0)).toArray 3) p hpw).trans HG2.out)
 go_region
 generalize hg:W.heap.size=g at*
 generalize hU:(W.alloc (.cells ((List.range S.length).map (fun _=>Value.int .i64 0)).toArray 3)).drew=U at*
 have HJ2:Hid (JS U jb B bd L S O lg sg lc sc (.slice (some ⟨og,0,none⟩) O.length oc)):=by rw[←hU];exact HJ1.out.on ⟨rfl,rfl,rfl,Nat.le_refl _,fun _ _=>rfl⟩
 have HF2:Hid (Fr (fun k=>k=jb∨k=og) w U):=by rw[←hU];exact HF1.out.drew
 have HT2:Hid (TbV U g S.length 3 (fun _=> .int .i64 0)):=by rw[←hU];exact HT1.out
 have HG4:Hid (U.heap[p]? =some (.cells #[.int .i64 (l.a:Int), .int .i64 (l.b:Int), .int .i64 (l.n:Int)] 128)):=by rw[←hU];exact HG3.out
 clear HJ1 HF1 HT1 HG3 HJ0 HF0 HG2 r2 r3 j0 j1 j2 j3 hU hmk
 have j3:=(four_cellsJ HJ2.out.hd).2.2.2
 have HNX:Hid (∀ (W':World) (o:Nat) (u:Value) (R:List K),JS W' jb B bd L S R lg sg lc sc (.slice (some ⟨og,0,none⟩) O.length oc)→JS (W'.setCell ⟨g,o,none⟩ u).drew jb B bd L S R lg sg lc sc (.slice (some ⟨og,0,none⟩) O.length oc)):=fun W' o u R h=>
  (h.fr (D:=fun k=>k=g) ((Fr.refl _ W').setCell ⟨g,o,none⟩ u rfl) (by omega) (by omega) (by omega) (fun k hk=>by injection hk with hk;have hk:og=k:=hk;show ¬k=g;omega)).on ⟨rfl,rfl,rfl,Nat.le_refl _,fun _ _=>rfl⟩
 go_wp2_with fail
 clear j3
 go_loopw [6,27] (fun s6 i wr=> ∃k n6:Nat,k≤O.length∧i= .int .i64 k∧s6= .slice (some ⟨og,0,none⟩) n6 oc∧n6≤k∧Hid ((oth l (O.take k)).length=n6)∧Hid (JS wr jb B bd L S (half l O k) lg sg lc sc (.slice (some ⟨og,0,none⟩) O.length oc))∧Hid (TbV wr g S.length 3 (fun o=> .int .i64 ((bs l (O.take k) o:Nat):Int)))∧Hid (wr.heap[p]? =some (.cells #[.int .i64 (l.a:Int), .int .i64 (l.b:Int), .int .i64 (l.n:Int)] 128))∧Hid (Fr (fun k=>k=jb∨k=og) w wr)) (fun _ i _=>O.length - (intOf i).toNat)
 case atStart=>
  refine⟨0,0,Nat.zero_le _,rfl,rfl,Nat.zero_le _,rfl,?_,?_,HG4,HF2⟩
  ·have e:half l O 0=O:=by simp[half,oth]
   rw[e];exact HJ2
  ·exact HT2
 case round=>
  obtain⟨k,n6,hk,rfl,rfl,hn6,HN6,HJ,HT,HG,HF⟩:=hrel
  have HJL:Hid ((half l O k).length=O.length):=half_len l O hk
  by_cases hlk:k<O.length
  ·have hlk':(k:Int)<O.length:=by omega
   obtain⟨y0,y1,y2⟩:=rowK_at HJ.out.oo k (by rw[HJL.out];exact hlk)
   rw[half_get] at y0 y1 y2
   obtain⟨m,HM⟩:=named (O.getD k K.zero)
   rw[HM.out] at y0 y1 y2
   have hmin:=HIN.out m (by rw[←HM.out];exact getD_memK hlk)
   obtain⟨ma,mb,mn⟩:=m
   have Y0:wr.cell? ⟨og,k*3,none⟩=some (.int .i64 (ma:Int)):=y0
   have Y1:wr.cell? ⟨og,k*3+1,none⟩=some (.int .i64 (mb:Int)):=y1
   have Y2:wr.cell? ⟨og,k*3+2,none⟩=some (.int .i64 (mn:Int)):=y2
   clear y0 y1 y2
   have hma:ma<S.length:=hmin.1
   have hmb:mb<S.length:=hmin.2.1
   have hmn:mn≤100000:=hmin.2.2
   clear hmin
   go_wp2_with fail
   clear Y0 Y1 Y2
   have HBX:Hid (Below wr.heap.size wr (wr.alloc (.cells #[.int .i64 (ma:Int), .int .i64 (mb:Int), .int .i64 (mn:Int)] 128))):=(Below.refl _ _).alloc (Nat.le_refl _) _
   have HJX:=hid (HJ.out.on HBX.out)
   have HTX:=hid (HT.out.same (HBX.out.block g HT.out.lt))
   have HGX:=hid ((HBX.out.block p (lt_of_block HG.out)).trans HG.out)
   have HFX:=hid (HF.out.alloc (.cells #[.int .i64 (ma:Int), .int .i64 (mb:Int), .int .i64 (mn:Int)] 128))
   have HMX:=hid (heap_top wr (.cells #[.int .i64 (ma:Int), .int .i64 (mb:Int), .int .i64 (mn:Int)] 128))
   generalize hX:wr.alloc (.cells #[.int .i64 (ma:Int), .int .i64 (mb:Int), .int .i64 (mn:Int)] 128)=X at*
   have hwp:p≤wr.heap.size:=by have:=HF.out.size;omega
   generalize hxb:wr.heap.size=xb at*
   clear HBX HJ HT HG HF hX hxb
   have HC:Hid (∀ (x:Nat) (W':World),Below X.heap.size X W'→Calls Tryz.prog 152 #[.agg #[.int .i64 (l.a:Int), .int .i64 (l.b:Int), .int .i64 (l.n:Int)], .int .i64 (x:Int)] W' fun e w'=>e= .returned (.bool (l.has x))∧Below X.heap.size X w'):=fun x W' hb=>by
    refine(has_any l x W').mono ?_
    rintro e w' ⟨rfl,h⟩
    exact⟨rfl,hb.trans (h.mono hb.size)⟩
   have HBD:Hid (Below X.heap.size X X.drew):=⟨rfl,rfl,rfl,Nat.le_refl _,fun _ _=>rfl⟩
   obtain⟨x0,x1,x2⟩:=three_cells HGX.out
   obtain⟨z0,z1,z2⟩:=three_cells HMX.out
   have hpX:p<X.heap.size:=lt_of_block HGX.out
   have hxX:xb<X.heap.size:=lt_of_block HMX.out
   go_region_held3 (fun w'=>w'.cell? ⟨p,0,none⟩=some (.int .i64 (l.a:Int))∧w'.cell? ⟨p,1,none⟩=some (.int .i64 (l.b:Int))∧w'.cell? ⟨p,2,none⟩=some (.int .i64 (l.n:Int))∧w'.cell? ⟨xb,0,none⟩=some (.int .i64 (ma:Int))∧w'.cell? ⟨xb,1,none⟩=some (.int .i64 (mb:Int))) (go_keep) ((go_at_call 152;refine(HC.out _ _ (by first | exact HBD.out | exact hb2)).mono ?_;rintro e w2 ⟨rfl,hb2⟩;have v0:=(hb2.cell (p:=⟨p,0,none⟩) hpX).trans x0;have v1:=(hb2.cell (p:=⟨p,1,none⟩) hpX).trans x1;have v2:=(hb2.cell (p:=⟨p,2,none⟩) hpX).trans x2;have v3:=(hb2.cell (p:=⟨xb,0,none⟩) hxX).trans z0;have v4:=(hb2.cell (p:=⟨xb,1,none⟩) hxX).trans z1))
   have HJ3:=hid (HJX.out.on hb2)
   have HT3:=hid (HTX.out.same (hb2.block g HTX.out.lt))
   have HG3:=hid ((hb2.block p hpX).trans HGX.out)
   have HM3:=hid ((hb2.block xb hxX).trans HMX.out)
   have HF3:Hid (Fr (fun k=>k=jb∨k=og) w w2):=HFX.out.trans ⟨hb2.os,hb2.tape,hb2.output,hb2.size,fun k hk _=>hb2.block k hk⟩
   have HXS:Hid (p≤w2.heap.size):=Nat.le_trans (Nat.le_of_lt hpX) hb2.size
   clear hb2 v0 v1 v2 v3 v4 x0 x1 x2 z0 z1 z2 HC HBD HJX HTX HGX HFX HMX hpX hxX
   have HV1:Hid (l.has (O.getD k K.zero).a=l.has ma):=by show _=_;rw[HM.out]
   have HV2:Hid (l.has (O.getD k K.zero).b=l.has mb):=by show _=_;rw[HM.out]
   have HBS:Hid (∀o,bs l (O.take (k+1)) o=bs l (O.take k) o+con l ⟨ma,mb,mn⟩ o):=fun o=>by rw[bs_next l O hlk,HM.out]
   have HBL:Hid (∀o,bs l (O.take k) o≤100000000000):=fun o=>by
    have h1:=bs_bound (l:=l) (o:=o) (q:=O.take k) (M:=100000) (fun m hm=>(HIN.out m (List.mem_of_mem_take hm)).2.2)
    rw[List.length_take,Nat.min_eq_left hk] at h1
    omega
   have HCO:Hid (∀o,con l ⟨ma,mb,mn⟩ o=if l.has ma=true∧l.has mb=true then 0 else if l.has ma=true then (if mb=o then mn else 0) else if l.has mb=true then (if ma=o then mn else 0) else 0):=fun o=>rfl
   generalize l.has ma=V1 at*
   generalize l.has mb=V2 at*
   cases V1
   ·cases V2
    ·have hn7:n6<(half l O k).length:=by rw[HJL.out];omega
     obtain⟨z0,z1,z2⟩:=three_cells HM3.out
     have HB4:Hid (Below w2.heap.size w2 (w2.alloc (.cells #[.int .i64 (ma:Int), .int .i64 (mb:Int), .int .i64 (mn:Int)] 128))):=(Below.refl _ _).alloc (Nat.le_refl _) _
     have HJ4:=hid (HJ3.out.on HB4.out)
     have HT4:=hid (HT3.out.same (HB4.out.block g HT3.out.lt))
     have HG4:=hid ((HB4.out.block p (lt_of_block HG3.out)).trans HG3.out)
     have HF4:=hid (HF3.out.alloc (.cells #[.int .i64 (ma:Int), .int .i64 (mb:Int), .int .i64 (mn:Int)] 128))
     have HO4:Hid ((w2.alloc (.cells #[.int .i64 (ma:Int), .int .i64 (mb:Int), .int .i64 (mn:Int)] 128)).ownsRow B 128 3 (.slice (some ⟨og,0,none⟩) (half l O k).length oc) (half l O k).length (cellsK (half l O k))):=by rw[HJL.out];have h:=HJ4.out.oo;rw[HJL.out] at h;exact h
     have HNW:=hid (newK w2 ⟨ma,mb,mn⟩)
     have HOT:=hid (half_stay hlk HV1.out HV2.out)
     have HST:=hid (half_set hlk HV1.out HV2.out)
     rw[HM.out,HN6.out] at HST
     rw[HM.out] at HOT
     go_wp2_with (at_builtin;go_must (refine wpList_append_in rfl (.tmp 39) (.tmp 41) 123 rfl 128 i0 Tryz.underlying123 hi hz1 B og n6 oc (half l O k) rfl HO4.out hn7 ⟨w2.heap.size,0,none⟩ 1 ⟨ma,mb,mn⟩ rfl HNW.out ?_;intro w5 hown5 hf5;rw[HJL.out,HST.out] at hown5;have HJ5:=hid (HJ4.out.row (O':=half l O (k+1)) hf5 (by rw[half_len l O (by omega)];exact hown5));have HT5:=hid (HT4.out.same (hf5.block g HT4.out.lt (by omega)));have HG5:=hid ((hf5.block p (lt_of_block HG4.out) (by omega)).trans HG4.out);have HF5:=hid (HF4.out.trans (hf5.imp (fun _ h=> .inr h)));clear hown5 hf5))
     refine⟨⟨k+1,n6+1,by omega,by simp,rfl,by omega,?_,HJ5,?_,HG5,HF5⟩,by simp[intOf];omega⟩
     ·show _=_
      rw[HOT.out,List.length_append,HN6.out];rfl
     ·refine HT5.out.congr (fun o _=> ?_)
      rw[HBS.out,HCO.out];simp
    ·have d1:=HT3.out.cell hma
     have d2:=HT3.out.free ma
     have hbl:=HBL.out ma
     have HST:=hid (half_skip hlk (.inr HV2.out))
     have HN7:Hid ((oth l (O.take (k+1))).length=n6):=by rw[HST.out];exact HN6
     have HJ7:Hid (JS w2 jb B bd L S (half l O (k+1)) lg sg lc sc (.slice (some ⟨og,0,none⟩) O.length oc)):=by unfold half;rw[HST.out];exact HJ3
     have HTV:Hid (∀o,updV (fun o=>Value.int .i64 ((bs l (O.take k) o:Nat):Int)) ma (.int .i64 ((bs l (O.take k) ma:Nat)+(mn:Int))) o= .int .i64 ((bs l (O.take (k+1)) o:Nat):Int)):=fun o=>by
      by_cases e:o=ma
      ·subst e;rw[updV_self,HBS.out,HCO.out];simp
      ·rw[updV_ne _ _ e,HBS.out,HCO.out];simp[Ne.symm e]
     obtain⟨z0,z1,z2⟩:=three_cells HM3.out
     obtain⟨bo,HBO⟩:=named (bs l (O.take k) ma)
     rw[HBO.out] at d1 hbl HTV
     have hw:IntKind.i64.wrap ((bo:Int)+(mn:Int))=(bo:Int)+(mn:Int):=by rw[IntKind.wrap_i64];omega
     have hma':(ma:Int)<S.length:=by omega
     go_wp2_with fail
     go_region
     go_wp2_with fail
     refine⟨⟨k+1,n6,by omega,by simp,rfl,by omega,HN7,HNX.out _ _ _ _ HJ7.out,?_,?_,(HF3.out.setNew ⟨g,ma,none⟩ _ (by show w.heap.size≤g;omega)).drew⟩,by simp[intOf];omega⟩
     ·exact(HT3.out.set ma (.int .i64 ((bo:Int)+(mn:Int)))).congr (fun o _=>HTV.out o)
     ·exact(Below.heap_setCell w2 ⟨g,ma,none⟩ _ p (by show p≠g;omega)).trans HG3.out
   ·cases V2
    ·have d1:=HT3.out.cell hmb
     have d2:=HT3.out.free mb
     have hbl:=HBL.out mb
     have HST:=hid (half_skip hlk (.inl HV1.out))
     have HN7:Hid ((oth l (O.take (k+1))).length=n6):=by rw[HST.out];exact HN6
     have HJ7:Hid (JS w2 jb B bd L S (half l O (k+1)) lg sg lc sc (.slice (some ⟨og,0,none⟩) O.length oc)):=by unfold half;rw[HST.out];exact HJ3
     have HTV:Hid (∀o,updV (fun o=>Value.int .i64 ((bs l (O.take k) o:Nat):Int)) mb (.int .i64 ((bs l (O.take k) mb:Nat)+(mn:Int))) o= .int .i64 ((bs l (O.take (k+1)) o:Nat):Int)):=fun o=>by
      by_cases e:o=mb
      ·subst e;rw[updV_self,HBS.out,HCO.out];simp
      ·rw[updV_ne _ _ e,HBS.out,HCO.out];simp[Ne.symm e]
     obtain⟨z0,z1,z2⟩:=three_cells HM3.out
     obtain⟨bo,HBO⟩:=named (bs l (O.take k) mb)
     rw[HBO.out] at d1 hbl HTV
     have hw:IntKind.i64.wrap ((bo:Int)+(mn:Int))=(bo:Int)+(mn:Int):=by rw[IntKind.wrap_i64];omega
     have hmb':(mb:Int)<S.length:=by omega
     go_wp2_with fail
     go_region
     go_wp2_with fail
     refine⟨⟨k+1,n6,by omega,by simp,rfl,by omega,HN7,HNX.out _ _ _ _ HJ7.out,?_,?_,(HF3.out.setNew ⟨g,mb,none⟩ _ (by show w.heap.size≤g;omega)).drew⟩,by simp[intOf];omega⟩
     ·exact(HT3.out.set mb (.int .i64 ((bo:Int)+(mn:Int)))).congr (fun o _=>HTV.out o)
     ·exact(Below.heap_setCell w2 ⟨g,mb,none⟩ _ p (by show p≠g;omega)).trans HG3.out
    ·have HST:=hid (half_skip hlk (.inl HV1.out))
     have HN7:Hid ((oth l (O.take (k+1))).length=n6):=by rw[HST.out];exact HN6
     have HJ7:Hid (JS w2 jb B bd L S (half l O (k+1)) lg sg lc sc (.slice (some ⟨og,0,none⟩) O.length oc)):=by unfold half;rw[HST.out];exact HJ3
     go_wp2_with fail
     refine⟨⟨k+1,n6,by omega,by simp,rfl,by omega,HN7,HJ7,?_,HG3,HF3⟩,by simp[intOf];omega⟩
     refine HT3.out.congr (fun o _=> ?_)
     rw[HBS.out,HCO.out];simp
  ·obtain rfl:k=O.length:=by omega
   have hlk': ¬(O.length:Int)<O.length:=by omega
   have HTK:Hid (O.take O.length=O):=List.take_length
   rw[HTK.out] at HN6 HT
   have HHA:Hid (half l O O.length=oth l O++O.drop n6):=by show _=_;unfold half;rw[HTK.out,HN6.out]
   have hj3:=(four_cellsJ HJ.out.hd).2.2.2
   have f3:=four_free HJ.out.hd 3
   have HOO:Hid (wr.ownsRow B 128 3 (.slice (some ⟨og,0,none⟩) n6 oc) (oth l O).length (cellsK (oth l O))):=by
    have h:=HJ.out.oo
    rw[HHA.out,cellsK_app] at h
    rcases h.2 with ⟨h1,_⟩ | ⟨g',cap,cur,h1,h2,h3,h4,h5,h6,h7⟩
    ·cases h1
    ·injection h1 with e1 e2 e3
     injection e1 with e1
     injection e1 with e1
     have e3:oc=cap:=by omega
     refine⟨cellsK_len _, .inr ⟨g',cap,cur,by rw[e1,e3,HN6.out],h2,h3,by rw[HN6.out];omega,h5,h6,?_⟩⟩
     have h8:=congrArg (List.take ((oth l O).length*3)) h7
     have h9:(cellsK (oth l O)++cellsK (O.drop n6)).take ((oth l O).length*3)=cellsK (oth l O):=by rw[←cellsK_len];exact List.take_left
     rw[h9,List.take_take,Nat.min_eq_left (by rw[List.length_append,Nat.add_mul];omega)] at h8
     exact h8
   obtain⟨j9,_⟩:=HJ.out.open (O3:=oth l O) (v3:= .slice (some ⟨og,0,none⟩) n6 oc) HOO.out ⟨rfl,rfl,rfl,Nat.le_refl _,fun _ _ _=>rfl⟩ (.inl rfl)
   have HJ9:=hid j9
   clear j9
   go_wp2_with fail
   go_ret
   refine⟨g,rfl,by omega,HT.out.same (Below.heap_setCell wr ⟨jb,3,none⟩ _ g (by show g≠jb;omega)),?_,HF.out.setCell ⟨jb,3,none⟩ _ (.inl rfl)⟩
   rw[HN6.out]
   exact HJ9.out
theorem below_drew{B:Nat}{a b:World}(h:Below B a b):Below B a b.drew:=⟨h.os,h.tape,h.output,h.size,h.block⟩
theorem mrg_app(L M:List Nat)(a b:Nat):mrg (L++M) a b=mrg L a b++mrg M a b:=by simp[mrg]
theorem take_snocJ{L:List Nat}{k:Nat}(h:k<L.length):L.take (k+1)=L.take k++[L.getD k 0]:=by
 rw[List.take_succ_eq_append_getElem h]
 simp[List.getD,h]
def part(L:List Nat)(a b k:Nat):List Nat:=mrg (L.take k) a b++L.drop k
theorem part_len(L:List Nat)(a b k:Nat):(part L a b k).length=L.length:=by
 unfold part
 rw[List.length_append,mrg_len,List.length_take,List.length_drop]
 omega
theorem part_get{L:List Nat}(a b:Nat){k:Nat}(h:k<L.length):(part L a b k).getD k 0=L.getD k 0:=by
 unfold part
 have hl:(mrg (L.take k) a b).length=k:=by rw[mrg_len,List.length_take];omega
 simp only[List.getD]
 rw[List.getElem?_append_right (by omega),hl,List.getElem?_drop]
 congr 2
 omega
theorem part_next{L:List Nat}(a b:Nat){k:Nat}(h:k<L.length):part L a b (k+1)=(part L a b k).set k (if L.getD k 0=b then a else L.getD k 0):=by
 have hl:(mrg (L.take k) a b).length=k:=by rw[mrg_len,List.length_take];omega
 unfold part
 rw[take_snocJ h,mrg_app,List.set_append_right _ _ (by omega),hl,Nat.sub_self,List.append_assoc]
 have e:L.drop k=L[k]::L.drop (k+1):=List.drop_eq_getElem_cons h
 rw[e,List.set_cons_zero]
 rfl
theorem part_same{L:List Nat}(a b:Nat){k:Nat}(h:k<L.length)(hn:L.getD k 0≠b):part L a b (k+1)=part L a b k:=by
 have hl:(mrg (L.take k) a b).length=k:=by rw[mrg_len,List.length_take];omega
 unfold part
 rw[take_snocJ h,mrg_app,List.append_assoc]
 have e:L.drop k=L.getD k 0::L.drop (k+1):=by rw[List.drop_eq_getElem_cons h,getD_in h]
 rw[e]
 show mrg (L.take k) a b++((if L.getD k 0=b then a else L.getD k 0)::L.drop (k+1))=_
 rw[if_neg hn]
theorem part_end(L:List Nat)(a b:Nat):part L a b L.length=mrg L a b:=by
 unfold part
 rw[List.take_length,List.drop_length,List.append_nil]
theorem JS.setL{w:World}{jb B bd:Nat}{L S:List Nat}{O:List K}{lg sg lc sc:Nat}{ov:Value}(h:JS w jb B bd L S O lg sg lc sc ov)(k x:Nat):JS (w.setCell ⟨lg,k,none⟩ (.int .i64 (x:Int))) jb B bd (L.set k x) S O lg sg lc sc ov:=by
 have hs:Fr (fun k=>k=lg) w (w.setCell ⟨lg,k,none⟩ (.int .i64 (x:Int))):=(Fr.refl _ w).setCell ⟨lg,k,none⟩ _ rfl
 refine⟨?_,own_setI h.lo k x,own_frQ h.so hs (fun j hj e=> ?_),own_frQ h.oo hs (fun j hj e=>h.nlo (e▸hj)),h.ne,h.jl⟩
 ·rw[List.length_set]
  exact(hs.block jb (lt_of_block h.hd) h.njl).trans h.hd
 ·injection hj with hj
  have hj:sg=j:=hj
  exact h.ne (by omega)
theorem JS.setS{w:World}{jb B bd:Nat}{L S:List Nat}{O:List K}{lg sg lc sc:Nat}{ov:Value}(h:JS w jb B bd L S O lg sg lc sc ov)(k x:Nat):JS (w.setCell ⟨sg,k,none⟩ (.int .i64 (x:Int))) jb B bd L (S.set k x) O lg sg lc sc ov:=by
 have hs:Fr (fun k=>k=sg) w (w.setCell ⟨sg,k,none⟩ (.int .i64 (x:Int))):=(Fr.refl _ w).setCell ⟨sg,k,none⟩ _ rfl
 refine⟨?_,own_frQ h.lo hs (fun j hj e=> ?_),own_setI h.so k x,own_frQ h.oo hs (fun j hj e=>h.nso (e▸hj)),h.ne,h.jl⟩
 ·rw[List.length_set]
  exact(hs.block jb (lt_of_block h.hd) h.njs).trans h.hd
 ·injection hj with hj
  have hj:lg=j:=hj
  exact h.ne (by omega)
theorem JS.drew{w:World}{jb B bd:Nat}{L S:List Nat}{O:List K}{lg sg lc sc:Nat}{ov:Value}(h:JS w jb B bd L S O lg sg lc sc ov):JS w.drew jb B bd L S O lg sg lc sc ov:=h.on ⟨rfl,rfl,rfl,Nat.le_refl _,fun _ _=>rfl⟩
set_option maxHeartbeats 1600000 in
theorem join_any(jb B bd:Nat)(L S:List Nat)(O:List K)(lg sg lc sc og oc:Nat)(l:K)(w:World)(hj:JS w jb B bd L S O lg sg lc sc (.slice (some ⟨og,0,none⟩) O.length oc))(hin: ∀m,m∈O→m.a<S.length∧m.b<S.length∧m.n≤100000)(hO:O.length≤500000)(hS:S.length≤1024)(hL:L.length≤1024)(hbd:bd≤1024)(hB:B≤w.heap.size)
  (ha:l.a<S.length) (hb:l.b<S.length) (hs: ∀j,(S.set l.a (S.getD l.a 0+S.getD l.b 0)).getD j 0≤1024) (hs0:S.getD l.a 0+S.getD l.b 0≤1024):
  Calls Tryz.prog 92 #[.pointer (some ⟨jb,0,none⟩),l.val] w fun e w'=>e= .returned (.tuple #[])∧∃ov',JS w' jb B bd (mrg L l.a l.b) (S.set l.a (S.getD l.a 0+S.getD l.b 0)) (oth l O++nwK l bd (S.set l.a (S.getD l.a 0+S.getD l.b 0)) O S.length) lg sg lc sc ov'∧Below B w w':=by
 have HJ0:=hid (hj.on (show Below w.heap.size w (w.alloc (Obj.cells #[Value.int IntKind.i64 l.a,Value.int IntKind.i64 l.b,Value.int IntKind.i64 l.n] 128)) from (Below.refl _ _).alloc (Nat.le_refl _) _))
 have HB0:Hid (Below B w (w.alloc (Obj.cells #[Value.int IntKind.i64 l.a,Value.int IntKind.i64 l.b,Value.int IntKind.i64 l.n] 128))):=(Below.refl _ _).alloc hB _
 have hg2:=heap_top w (Obj.cells #[Value.int IntKind.i64 l.a,Value.int IntKind.i64 l.b,Value.int IntKind.i64 l.n] 128)
 have HXV:Hid (l.val= .agg #[.int .i64 (l.a:Int), .int .i64 (l.b:Int), .int .i64 (l.n:Int)]):=rfl
 rw[HXV.out]
 obtain⟨j0,j1,j2,j3⟩:=four_cellsJ HJ0.out.hd
 have HG2:=hid hg2
 have hjw:jb<w.heap.size:=lt_of_block hj.hd
 have hBj:B≤jb:=hj.jl
 have hogp:og<w.heap.size:=(hj.oo.lt og rfl).2
 have hBo:B≤og:=(hj.oo.lt og rfl).1
 have hlgp:lg<w.heap.size:=(hj.lo.lt lg rfl).2
 have hBl:B≤lg:=(hj.lo.lt lg rfl).1
 have hsgp:sg<w.heap.size:=(hj.so.lt sg rfl).2
 have hBs:B≤sg:=(hj.so.lt sg rfl).1
 have HIN:=hid hin
 have HSS:=hid hs
 obtain⟨S',HS'⟩:=named (S.set l.a (S.getD l.a 0+S.getD l.b 0))
 rw[HS'.out] at HSS ⊢
 have HSL:Hid (S'.length=S.length):=by show _=_;rw[←HS'.out,List.length_set]
 have ha':(l.a:Int)<S.length:=by omega
 have hb':(l.b:Int)<S.length:=by omega
 clear hg2 hj hin hs
 have hpw:w.heap.size<(w.alloc (Obj.cells #[Value.int IntKind.i64 l.a,Value.int IntKind.i64 l.b,Value.int IntKind.i64 l.n] 128)).heap.size:=by simp
 generalize hp:w.heap.size=p at*
 go_enter Tryz.func92,Tryz.ntmps92
 go_wp2_with fail
 generalize hW:w.alloc (Obj.cells #[Value.int IntKind.i64 l.a,Value.int IntKind.i64 l.b,Value.int IntKind.i64 l.n] 128)=W at*
 clear hW j0 j1 j2 j3
 go_loopw [13] (fun i wr=> ∃k:Nat,k≤L.length∧i= .int .i64 k∧Hid (JS wr jb B bd (part L l.a l.b k) S O lg sg lc sc (.slice (some ⟨og,0,none⟩) O.length oc))∧Hid (wr.heap[p]? =some (.cells #[.int .i64 (l.a:Int), .int .i64 (l.b:Int), .int .i64 (l.n:Int)] 128))∧Hid (Below B w wr)) (fun i _=>L.length - (intOf i).toNat)
 case atStart=>exact⟨0,Nat.zero_le _,rfl,(show part L l.a l.b 0=L from rfl)▸HJ0,HG2,HB0⟩
 case round=>
  obtain⟨k,hk,rfl,HJ,HG,HBW⟩:=hrel
  clear HJ0 HB0 HG2
  obtain⟨x0,x1,x2⟩:=three_cells HG.out
  obtain⟨j0,j1,j2,j3⟩:=four_cellsJ HJ.out.hd
  rw[part_len] at j1
  by_cases hlk:k<L.length
  ·have hlk':(k:Int)<L.length:=by omega
   have y0:=own_cellI HJ.out.lo (k:=k) (by rw[part_len];exact hlk)
   have y1:=World.ownsRow.frozenAt HJ.out.lo k
   rw[part_get l.a l.b hlk] at y0
   by_cases hv:L.getD k 0=l.b
   ·have HPN:=hid (part_next (L:=L) l.a l.b hlk)
    rw[if_pos hv] at HPN
    rw[hv] at y0
    have HJN:=hid (HJ.out.setL k l.a)
    rw[←HPN.out] at HJN
    clear hv
    go_wp2_with fail
    go_region
    go_wp2_with fail
    exact⟨⟨k+1,by omega,by simp,HJN.out.drew,(Below.heap_setCell wr ⟨lg,k,none⟩ _ p (by show p≠lg;omega)).trans HG.out,below_drew (HBW.out.setCell hBl _)⟩,by simp[intOf];omega⟩
   ·have hv':(((L.getD k 0:Nat):Int)==(l.b:Int))=false:=by simp only[beq_eq_false_iff_ne];omega
    have HPN:=hid (part_same (L:=L) l.a l.b hlk hv)
    generalize L.getD k 0=lv at*
    clear hv
    go_wp2_with fail
    refine⟨⟨k+1,by omega,by simp,?_,HG,HBW⟩,by simp[intOf];omega⟩
    rw[HPN.out]
    exact HJ
  ·obtain rfl:k=L.length:=by omega
   have hlk': ¬(L.length:Int)<L.length:=by omega
   rw[part_end] at HJ
   have y0:=own_cellI HJ.out.so ha
   have y1:=own_cellI HJ.out.so hb
   have y2:=World.ownsRow.frozenAt HJ.out.so l.a
   have HJN:=hid (HJ.out.setS l.a (S.getD l.a 0+S.getD l.b 0))
   rw[HS'.out] at HJN
   generalize S.getD l.a 0=s at*
   generalize S.getD l.b 0=t at*
   have hw:IntKind.i64.wrap ((s:Int)+(t:Int))=(s:Int)+(t:Int):=by rw[IntKind.wrap_i64];omega
   have HJ2:Hid (JS (wr.setCell ⟨sg,l.a,none⟩ (.int .i64 ((s:Int)+(t:Int)))).drew jb B bd (mrg L l.a l.b) S' O lg sg lc sc (.slice (some ⟨og,0,none⟩) O.length oc)):=by
    have h:=HJN.out.drew
    rw[show(((s+t:Nat)):Int)=(s:Int)+(t:Int) by omega] at h
    exact h
   have HG3:Hid ((wr.setCell ⟨sg,l.a,none⟩ (.int .i64 ((s:Int)+(t:Int)))).drew.heap[p]? =some (.cells #[.int .i64 (l.a:Int), .int .i64 (l.b:Int), .int .i64 (l.n:Int)] 128)):=(Below.heap_setCell wr ⟨sg,l.a,none⟩ _ p (by show p≠sg;omega)).trans HG.out
   have HB3:Hid (Below B w (wr.setCell ⟨sg,l.a,none⟩ (.int .i64 ((s:Int)+(t:Int)))).drew):=below_drew (HBW.out.setCell hBs _)
   go_wp2_with fail
   go_region
   generalize hX:(wr.setCell ⟨sg,l.a,none⟩ (.int .i64 ((s:Int)+(t:Int)))).drew=X at*
   clear hX HJ HJN HG HBW x0 x1 x2 j0 j1 j2 j3 y0 y1 y2 hw
   obtain⟨x0,x1,x2⟩:=three_cells HG3.out
   have hpX:p<X.heap.size:=lt_of_block HG3.out
   have HTO:=hid (takeOut_any jb B bd (mrg L l.a l.b) S' O lg sg lc sc og oc l X HJ2.out (fun m hm=>by rw[HSL.out];exact HIN.out m hm) (by omega) (by rw[HSL.out];exact hS))
   rw[HXV.out,HSL.out] at HTO
   go_wp2_with fail
   refine HTO.out.mono ?_
   rintro e w2 ⟨g,rfl,hg,ht,hj2,hf2⟩
   have HT2:=hid ht
   have HJ3:=hid hj2
   have HG4:=hid ((hf2.block p hpX (by omega)).trans HG3.out)
   have HB4:Hid (Below B w w2):=HB3.out.trans (hf2.below (by omega) (fun k hk=>by omega))
   have hgp:p<g:=by omega
   clear ht hj2 hf2 hg HTO HJ2 HG3 HB3 x0 x1 x2
   go_wp2_with fail
   go_loopw [53] (fun i wr=> ∃ (o:Nat) (ov:Value),o≤S.length∧i= .int .i64 o∧Hid (JS wr jb B bd (mrg L l.a l.b) S' (oth l O++nwK l bd S' O o) lg sg lc sc ov)∧Hid (ov.ownBlock≠some p)∧Hid (TbV wr g S.length 3 (fun o=> .int .i64 ((bs l O o:Nat):Int)))∧Hid (wr.heap[p]? =some (.cells #[.int .i64 (l.a:Int), .int .i64 (l.b:Int), .int .i64 (l.n:Int)] 128))∧Hid (Below B w wr)) (fun i _=>S.length - (intOf i).toNat)
   case atStart=>
    refine⟨0, .slice (some ⟨og,0,none⟩) (oth l O).length oc,Nat.zero_le _,rfl,?_,?_,HT2,HG4,HB4⟩
    ·have e:oth l O++nwK l bd S' O 0=oth l O:=List.append_nil _
     rw[e];exact HJ3
    ·intro e
     injection e with e
     have e:og=p:=e
     omega
   case round=>
    obtain⟨o,ov,ho,rfl,HJ,HNP,HT,HG,HBW⟩:=hrel
    clear HJ3 HT2 HG4 HB4
    by_cases hlo:o<S.length
    ·have hlo':(o:Int)<S.length:=by omega
     have d1:=HT.out.cell hlo
     obtain⟨x0,x1,x2⟩:=three_cells HG.out
     have HNN:Hid (nwK l bd S' O (o+1)=nwK l bd S' O o++if 0<bs l O o∧S'.getD (min l.a o) 0+S'.getD (max l.a o) 0≤bd then [⟨min l.a o,max l.a o,bs l O o⟩] else []):=rfl
     by_cases hb0:0<bs l O o
     ·have hOL:(oth l O++nwK l bd S' O o).length≤1000000:=by
       have h1:=oth_le l O
       have h2:=nwK_len l bd S' O o
       rw[List.length_append]
       omega
      have HOF:=hid (offer_any jb B bd (mrg L l.a l.b) S' (oth l O++nwK l bd S' O o) lg sg lc sc ov ⟨min l.a o,max l.a o,bs l O o⟩ wr HJ.out (by rw[HSL.out];show min l.a o<_;omega) (by rw[HSL.out];show max l.a o<_;omega) (by have h1:=HSS.out (min l.a o);have h2:=HSS.out (max l.a o);show S'.getD (min l.a o) 0+S'.getD (max l.a o) 0≤_;omega) hbd hOL (by have:=HBW.out.size;omega))
      have HVV:Hid ((⟨min l.a o,max l.a o,bs l O o⟩:K).val= .agg #[.int .i64 ((min l.a o:Nat):Int), .int .i64 ((max l.a o:Nat):Int), .int .i64 ((bs l O o:Nat):Int)]):=rfl
      rw[HVV.out] at HOF
      have HNE:Hid (∀W' ov',JS W' jb B bd (mrg L l.a l.b) S' ((oth l O++nwK l bd S' O o)++if S'.getD (min l.a o) 0+S'.getD (max l.a o) 0≤bd then [⟨min l.a o,max l.a o,bs l O o⟩] else []) lg sg lc sc ov'→JS W' jb B bd (mrg L l.a l.b) S' (oth l O++nwK l bd S' O (o+1)) lg sg lc sc ov'):=fun W' ov' h=>by
       rw[HNN.out,←List.append_assoc]
       by_cases hc:S'.getD (min l.a o) 0+S'.getD (max l.a o) 0≤bd
       ·rw[if_pos ⟨hb0,hc⟩];rw[if_pos hc] at h;exact h
       ·rw[if_neg (fun h=>hc h.2)];rw[if_neg hc] at h;exact h
      have hwp:p<wr.heap.size:=lt_of_block HG.out
      have HGN:Hid (jb≠g∧ov.ownBlock≠some g):=by
       refine⟨by omega,fun e=> ?_⟩
       obtain⟨cur,hc⟩:=own_block HJ.out.oo e
       have:=HT.out.symm.trans hc
       injection this with this
       injection this with _ this
       cases this
      have HOB:Hid (∀k,ov.ownBlock=some k→B≤k):=fun k hk=>(HJ.out.oo.lt k hk).1
      have hoa:o≠l.a:=fun e=>by rw[bs_own (.inl e)] at hb0;omega
      rcases Nat.lt_or_ge o l.a with hoa | hoa
      ·have h1:(o:Int)<l.a:=by omega
       have h2: ¬(l.a:Int)<o:=by omega
       have hmn:min (l.a:Int) (o:Int)=(o:Int):=by omega
       have hmx:max (l.a:Int) (o:Int)=(l.a:Int):=by omega
       have HMI:Hid (min l.a o=o):=Nat.min_eq_right (by omega)
       have HMX:Hid (max l.a o=l.a):=Nat.max_eq_left (by omega)
       rw[HMI.out,HMX.out] at HOF HNE
       clear HNN HVV
       generalize bs l O o=bo at*
       have hb0':(0:Int)<bo:=by omega
       go_wp2_with fail
       refine HOF.out.mono ?_
       rintro e w5 ⟨rfl,ov5,hj5,hf5,hob5⟩
       have HJ5:=hid (HNE.out _ _ hj5)
       have HT5:=hid (HT.out.same (hf5.block g HT.out.lt (by rintro(e | e);exact HGN.out.1 e.symm;exact HGN.out.2 e)))
       have HG5:=hid ((hf5.block p hwp (by rintro(e | e);omega;exact HNP.out e)).trans HG.out)
       have HB5:Hid (Below B w w5):=HBW.out.trans (hf5.below (by omega) (fun k hk=>by rcases hk with e | e;omega;exact HOB.out k e))
       have HN5:Hid (ov5.ownBlock≠some p):=by
        rcases hob5 with e | ⟨k,e,hk⟩
        ·rw[e];exact HNP.out
        ·rw[e];intro e2;injection e2 with e2;omega
       clear hj5 hf5 hob5 HOF HNE d1 x0 x1 x2
       go_wp2_with fail
       exact⟨⟨o+1,ov5,by omega,by simp,HJ5,HN5,HT5,HG5,HB5⟩,by simp[intOf];omega⟩
      ·have h1: ¬(o:Int)<l.a:=by omega
       have h2:(l.a:Int)<o:=by omega
       have hmn:min (l.a:Int) (o:Int)=(l.a:Int):=by omega
       have hmx:max (l.a:Int) (o:Int)=(o:Int):=by omega
       have HMI:Hid (min l.a o=l.a):=Nat.min_eq_left (by omega)
       have HMX:Hid (max l.a o=o):=Nat.max_eq_right (by omega)
       rw[HMI.out,HMX.out] at HOF HNE
       clear HNN HVV
       generalize bs l O o=bo at*
       have hb0':(0:Int)<bo:=by omega
       go_wp2_with fail
       refine HOF.out.mono ?_
       rintro e w5 ⟨rfl,ov5,hj5,hf5,hob5⟩
       have HJ5:=hid (HNE.out _ _ hj5)
       have HT5:=hid (HT.out.same (hf5.block g HT.out.lt (by rintro(e | e);exact HGN.out.1 e.symm;exact HGN.out.2 e)))
       have HG5:=hid ((hf5.block p hwp (by rintro(e | e);omega;exact HNP.out e)).trans HG.out)
       have HB5:Hid (Below B w w5):=HBW.out.trans (hf5.below (by omega) (fun k hk=>by rcases hk with e | e;omega;exact HOB.out k e))
       have HN5:Hid (ov5.ownBlock≠some p):=by
        rcases hob5 with e | ⟨k,e,hk⟩
        ·rw[e];exact HNP.out
        ·rw[e];intro e2;injection e2 with e2;omega
       clear hj5 hf5 hob5 HOF HNE d1 x0 x1 x2
       go_wp2_with fail
       exact⟨⟨o+1,ov5,by omega,by simp,HJ5,HN5,HT5,HG5,HB5⟩,by simp[intOf];omega⟩
     ·have hb0': ¬(0:Int)<((bs l O o:Nat):Int):=by omega
      have HNE:Hid (nwK l bd S' O (o+1)=nwK l bd S' O o):=by show _=_;rw[HNN.out,if_neg (fun h=>hb0 h.1),List.append_nil]
      generalize bs l O o=bo at*
      clear HNN
      go_wp2_with fail
      refine⟨⟨o+1,ov,by omega,by simp,?_,HNP,HT,HG,HBW⟩,by simp[intOf];omega⟩
      rw[HNE.out];exact HJ
    ·obtain rfl:o=S.length:=by omega
     have hlo': ¬(S.length:Int)<S.length:=by omega
     go_wp2_with fail
     go_end0
     exact⟨rfl,⟨ov,HJ.out⟩,HBW.out⟩
end Go.Proofs.YtmenajiceaicpaaGreat
