import Derived.Deep.AppendLies
import Derived.Test.YtmenajiceaicpaaGreatZAS
import Derived.Deep.DeepCutAuto
open Go.Lib (hid)
namespace Go.Proofs.YtmenajiceaicpaaGreat
open Go.RowKit Go.Maps
def CnD(bg:Nat)(m:Nat)(o:Option Nat)(b:Nat):Prop:=o=some b∨b=bg∨b=m
set_option maxRecDepth 100000 in
set_option maxHeartbeats 1600000 in
theorem count_any(cb n k:Nat)(bd:Int)(lg lc sg sc eg ec bg pg fg:Nat)(mb nn:Nat→Nat)(rv:Nat→Value)(R:Nat→List Nat)(F:Nat→Nat→Nat)(Fi:Nat→M)(L:List Nat)(v u y:Nat)(w:World)
  (hX:CX w cb n k bd lg lc sg sc eg ec bg pg fg mb nn rv R F Fi) (hl:OwI w lg lc (ints L)) (Ln:L.length=n) (hk:k≤1024) (hv:v<n) (hu:u<n) (hy:L.getD u 0=y) (hyk:y<k) (hrl:(R v).length≤8192) (hF:F v y≤1000000) (hnn:nn v≤1000000) (hra: ∀t,t<n→t≠v→(rv t).ownBlock=none∨(rv t).ownBlock≠(rv v).ownBlock) (hrg:(rv v).ownBlock≠some lg) (mj: ∀u v,u<n→v<n→mb u=mb v→u=v):
  Calls Tryz.prog 180 #[.pointer (some ⟨cb,0,none⟩), .int .i64 v, .int .i64 u] w fun e w'=>e= .returned (.tuple #[])∧∃val:Value,CX w' cb n k bd lg lc sg sc eg ec bg pg fg mb (setAt nn v (nn v+1)) (setAt rv v val) (setAt R v (R v++[u])) (setAt F v (updN (F v) y (F v y+1))) Fi∧(val.ownBlock=(rv v).ownBlock∨∃g,val.ownBlock=some g∧w.heap.size≤g)∧OwI w' lg lc (ints L)∧Fr (CnD bg (mb v) (rv v).ownBlock) w w':=by
 obtain⟨i3,hi3,hz3,hs3,hby3⟩:=info_parts info3
 have hv':(v:Int)<n:=by omega
 have hu':(u:Int)<n:=by omega
 have HX:=hid hX
 have HL:=hid hl
 have HRA:=hid hra
 have HRG:=hid hrg
 have HMJ:=hid mj
 have HY:=hid hy
 obtain⟨rvv,HRV⟩:=named (rv v)
 have c4:w.cell? ⟨cb,4,none⟩=some (.slice (some ⟨bg,0,none⟩) n n):=by simp[World.cell?,hX.ob,cellsO]
 have d4:=hX.be.cell hv
 rw[HRV.out] at d4
 have hcl:=lt_of_block hX.ob
 have hbl:=hX.be.lt
 have HOW:=hid (hX.ro v hv)
 rw[HRV.out] at HOW
 have HNC:Hid (rvv.ownBlock≠some cb):=own_ne HOW.out hX.ob (fun cs fz e=>by unfold cellsO at e;injection e with _ e _;cases e)
 have HNB:Hid (rvv.ownBlock≠some bg):=own_ne HOW.out (show w.heap[bg]? =some _ from hX.be) (fun cs fz e=>by injection e with _ e _;cases e)
 clear hX hl hra hrg mj hy
 obtain⟨ln,HLN⟩:=named (R v).length
 rw[HLN.out] at hrl HOW
 generalize hp:w.heap.size=p at*
 go_enter Tryz.func180,Tryz.ntmps180
 go_wp2_with fail
 refine wp_region_last (S:=fun w'=>w'.cell? ⟨cb,4,none⟩=some (.slice (some ⟨bg,0,none⟩) n n)∧w'.cell? ⟨bg,v,none⟩=some rvv) 16 _ (by kernel_rfl) (by kernel_rfl) rfl _ rfl ?_ (fun hHeld=> ?_)
 ·go_keep
 simp only[idled,List.modify_toArray,List.modify_succ_cons,List.modify_zero_cons,idle,List.size_toArray,List.length_cons,List.length_nil]
 refine wpAnyH_take (i:=0) (v:= ?_) rfl (by kernel_rfl) (by decide+kernel) (by decide+kernel) (fun _ _ _ h=>h) (Or.inl ⟨by rfl,?_⟩) (by assumption) ?_
 rotate_left
 ·intro w hSw
  (try dsimp only at hSw)
  go_simp
  (try with_reducible rfl)
 simp only[Act.put,List.getElem_toArray,List.getElem_cons_zero,List.getElem_cons_succ,List.setIfInBounds_toArray,List.set_cons_zero,List.set_cons_succ]
 refine wpAnyH_take (i:=1) (v:= ?_) rfl (by kernel_rfl) (by decide+kernel) (by decide+kernel) (fun _ _ _ h=>h) (Or.inl ⟨by rfl,?_⟩) (by assumption) ?_
 rotate_left
 ·intro w hSw
  (try dsimp only at hSw)
  go_simp
  (try with_reducible rfl)
 simp only[Act.put,List.getElem_toArray,List.getElem_cons_zero,List.getElem_cons_succ,List.setIfInBounds_toArray,List.set_cons_zero,List.set_cons_succ]
 refine wpAnyH_take (i:=2) (v:= ?_) rfl (by kernel_rfl) (by decide+kernel) (by decide+kernel) (fun _ _ _ h=>h) (Or.inl ⟨by rfl,?_⟩) (by assumption) ?_
 rotate_left
 ·intro w hSw
  (try dsimp only at hSw)
  go_simp
  (try with_reducible rfl)
 simp only[Act.put,List.getElem_toArray,List.getElem_cons_zero,List.getElem_cons_succ,List.setIfInBounds_toArray,List.set_cons_zero,List.set_cons_succ]
 refine wpAnyH_take (i:=3) (v:= ?_) rfl (by kernel_rfl) (by decide+kernel) (by decide+kernel) (fun _ _ _ h=>h) (Or.inl ⟨by rfl,?_⟩) (by assumption) ?_
 rotate_left
 ·intro w hSw
  (try dsimp only at hSw)
  go_simp
  (try with_reducible rfl)
 simp only[Act.put,List.getElem_toArray,List.getElem_cons_zero,List.getElem_cons_succ,List.setIfInBounds_toArray,List.set_cons_zero,List.set_cons_succ]
 refine wpAnyH_take (i:=4) (v:= ?_) rfl (by kernel_rfl) (by decide+kernel) (by decide+kernel) (fun _ _ _ h=>h) (Or.inl ⟨by rfl,?_⟩) (by assumption) ?_
 rotate_left
 ·intro w hSw
  (try dsimp only at hSw)
  go_simp
  (try with_reducible rfl)
 simp only[Act.put,List.getElem_toArray,List.getElem_cons_zero,List.getElem_cons_succ,List.setIfInBounds_toArray,List.set_cons_zero,List.set_cons_succ]
 refine wpAnyH_take (i:=5) (v:= ?_) rfl (by kernel_rfl) (by decide+kernel) (by decide+kernel) (fun _ _ _ h=>h) (Or.inl ⟨by rfl,?_⟩) (by assumption) ?_
 rotate_left
 ·intro w hSw
  (try dsimp only at hSw)
  go_simp
  (try with_reducible rfl)
 simp only[Act.put,List.getElem_toArray,List.getElem_cons_zero,List.getElem_cons_succ,List.setIfInBounds_toArray,List.set_cons_zero,List.set_cons_succ]
 refine wpAnyH_take (i:=6) (v:= ?_) rfl (by kernel_rfl) (by decide+kernel) (by decide+kernel) (fun _ _ _ h=>h) (Or.inl ⟨by rfl,?_⟩) (by assumption) ?_
 rotate_left
 ·intro w hSw
  (try dsimp only at hSw)
  go_simp
  (try with_reducible rfl)
 simp only[Act.put,List.getElem_toArray,List.getElem_cons_zero,List.getElem_cons_succ,List.setIfInBounds_toArray,List.set_cons_zero,List.set_cons_succ]
 refine wpAnyH_take (i:=7) (v:= ?_) rfl (by kernel_rfl) (by decide+kernel) (by decide+kernel) (fun _ _ _ h=>h) (Or.inl ⟨by rfl,?_⟩) (by assumption) ?_
 rotate_left
 ·intro w hSw
  (try dsimp only at hSw)
  go_simp
  (try with_reducible rfl)
 simp only[Act.put,List.getElem_toArray,List.getElem_cons_zero,List.getElem_cons_succ,List.setIfInBounds_toArray,List.set_cons_zero,List.set_cons_succ]
 refine wpAnyH_take (i:=8) (v:= ?_) rfl (by kernel_rfl) (by decide+kernel) (by decide+kernel) (fun _ _ _ h=>h) (Or.inl ⟨by rfl,?_⟩) (by assumption) ?_
 rotate_left
 ·intro w hSw
  (try dsimp only at hSw)
  go_simp
  (try with_reducible rfl)
 simp only[Act.put,List.getElem_toArray,List.getElem_cons_zero,List.getElem_cons_succ,List.setIfInBounds_toArray,List.set_cons_zero,List.set_cons_succ]
 refine wpAnyH_take (i:=9) (v:= ?_) rfl (by kernel_rfl) (by decide+kernel) (by decide+kernel) (fun _ _ _ h=>h) (Or.inl ⟨by rfl,?_⟩) (by assumption) ?_
 rotate_left
 ·intro w hSw
  (try dsimp only at hSw)
  go_simp
  (try with_reducible rfl)
 simp only[Act.put,List.getElem_toArray,List.getElem_cons_zero,List.getElem_cons_succ,List.setIfInBounds_toArray,List.set_cons_zero,List.set_cons_succ]
 refine wpAnyH_take (i:=10) (v:= ?_) rfl (by kernel_rfl) (by decide+kernel) (by decide+kernel) (fun _ _ _ h=>h) (Or.inl ⟨by rfl,?_⟩) (by assumption) ?_
 rotate_left
 ·intro w hSw
  (try dsimp only at hSw)
  go_simp
  (try with_reducible rfl)
 simp only[Act.put,List.getElem_toArray,List.getElem_cons_zero,List.getElem_cons_succ,List.setIfInBounds_toArray,List.set_cons_zero,List.set_cons_succ]
 refine wpAnyH_take (i:=11) (v:= ?_) rfl (by kernel_rfl) (by decide+kernel) (by decide+kernel) (fun _ _ _ h=>h) (Or.inl ⟨by rfl,?_⟩) (by assumption) ?_
 rotate_left
 ·intro w hSw
  (try dsimp only at hSw)
  go_simp
  (try with_reducible rfl)
 simp only[Act.put,List.getElem_toArray,List.getElem_cons_zero,List.getElem_cons_succ,List.setIfInBounds_toArray,List.set_cons_zero,List.set_cons_succ]
 refine wpAnyH_take (i:=12) (v:= ?_) rfl (by kernel_rfl) (by decide+kernel) (by decide+kernel) (fun _ _ _ h=>h) (Or.inl ⟨by rfl,?_⟩) (by assumption) ?_
 rotate_left
 ·intro w hSw
  (try dsimp only at hSw)
  go_simp
  (try with_reducible rfl)
 simp only[Act.put,List.getElem_toArray,List.getElem_cons_zero,List.getElem_cons_succ,List.setIfInBounds_toArray,List.set_cons_zero,List.set_cons_succ]
 refine wpAnyH_ready (rs:=[13]) (by kernel_rfl) (by simp) ?_
 refine AllReadyH.cons rfl (fun K hK=> ?_) AllReadyH.nil
 go_simp
 refine hK.out _ _ ?_ (fun hHeld2=> ?_)
 ·go_keep
 clear hK K
 have HG1:=hid (heap_top w (Obj.cells #[Value.int IntKind.i64 (u:Int)] 3))
 have HB1:Hid (Below w.heap.size w (w.alloc (Obj.cells #[Value.int IntKind.i64 (u:Int)] 3)).drew):=((Below.refl _ _).alloc (Nat.le_refl _) _).drew
 have hA1:(w.alloc (Obj.cells #[Value.int IntKind.i64 (u:Int)] 3)).drew.heap.size=p+1:=by rw[←hp];exact World.size_alloc _ _
 have HO1:=hid (own_on HOW.out HB1.out)
 have e4:=(HB1.out.cell (p:=⟨cb,4,none⟩) (by show cb<w.heap.size;omega)).trans c4
 have g4:=(HB1.out.cell (p:=⟨bg,v,none⟩) (by show bg<w.heap.size;omega)).trans d4
 rw[hp] at HG1
 have HNW:Hid (∀ (j:Nat) (z:Value),(cellsI [(u:Int)])[j]? =some z→(w.alloc (Obj.cells #[Value.int IntKind.i64 (u:Int)] 3)).drew.cell? ((⟨p,0,none⟩:Addr).add j)=some z):=World.news_of_block (w:=(w.alloc (Obj.cells #[Value.int IntKind.i64 (u:Int)] 3)).drew) (cs:= #[Value.int IntKind.i64 (u:Int)]) (t:=3) (fr:=(0,0)) HG1.out
 generalize hW:(w.alloc (Obj.cells #[Value.int IntKind.i64 (u:Int)] 3)).drew=A at*
 clear hW
 refine wpAnyH_ready (rs:=[14]) (by kernel_rfl) (by simp) ?_
 refine AllReadyH.cons rfl (fun K hK=> ?_) AllReadyH.nil
 rw[if_pos (by rfl)]
 refine wp_append_lies _ (.tmp 17) (.tmp 19) 25 rfl 0 3 i3 _ 1 8 Tryz.underlying25 hi3 hz3 hs3 hby3 rfl (by decide) rvv ln (cellsI (ints (R v))) rfl HO1.out ⟨p,0,none⟩ 1 1 (cellsI [(u:Int)]) rfl rfl HNW.out (one_I _) (by decide) (by unfold maxLen;omega) (by omega) (Nat.zero_le _) (p+1) hA1 ?_
 intro g cap w7 hown7 hgrow7 hat7 hlt7
 have f4:=(hgrow7.cell_far ⟨cb,4,none⟩ (by show cb<A.heap.size;omega) (fun e=>HNC.out e.symm)).trans e4
 have h4:=(hgrow7.cell_far ⟨bg,v,none⟩ (by show bg<A.heap.size;omega) (fun e=>HNB.out e.symm)).trans g4
 refine hK.out _ _ ?_ (fun hHeld3=> ?_)
 ·go_keep
 clear hK K
 simp only[Act.put,List.getElem_toArray,List.getElem_cons_zero,List.getElem_cons_succ,List.setIfInBounds_toArray,List.set_cons_zero,List.set_cons_succ]
 refine wpAnyH_take (i:=15) (v:= ?_) rfl (by kernel_rfl) (by decide+kernel) (by decide+kernel) (fun _ _ _ h=>h) (Or.inl ⟨by rfl,?_⟩) (by assumption) ?_
 rotate_left
 ·intro w hSw
  (try dsimp only at hSw)
  go_simp
  (try with_reducible rfl)
 simp only[Act.put,List.getElem_toArray,List.getElem_cons_zero,List.getElem_cons_succ,List.setIfInBounds_toArray,List.set_cons_zero,List.set_cons_succ]
 refine wpAnyH_take (i:=16) (v:= ?_) rfl (by kernel_rfl) (by decide+kernel) (by decide+kernel) (fun _ _ _ h=>h) (Or.inl ⟨by rfl,?_⟩) (by assumption) ?_
 rotate_left
 ·intro w hSw
  (try dsimp only at hSw)
  go_simp
  (try with_reducible rfl)
 simp only[Act.put]
 have q4:=(TbV.free (w:=w7) (V:=rv) (ty:=25) (b:=bg) (n:=n) (TbV.same HX.out.be ((hgrow7.block bg (by omega) (fun e=>HNB.out e.symm)).trans (HB1.out.block bg (by omega)))) v)
 refine wpAnyH_done (by kernel_rfl) ?_ _
 simp only[lastQ]
 go_simp
 have HF8:Hid (Fr (fun b=>rvv.ownBlock=some b∨b=bg) w (w7.setCell ⟨bg,v,none⟩ (Value.slice (some ⟨g,0,none⟩) (ln+1) cap))):=by
  have h1:Fr (fun b=>rvv.ownBlock=some b∨b=bg) w A:=fr_of HB1.out
  have h2:Fr (fun b=>rvv.ownBlock=some b∨b=bg) A w7:=⟨hgrow7.os,hgrow7.tape,hgrow7.output,hgrow7.size,fun b hb hn=>hgrow7.block b hb (fun e=>hn (.inl e.symm))⟩
  exact(h1.trans h2).setCell _ _ (.inr rfl)
 have HX8:Hid (CX (w7.setCell ⟨bg,v,none⟩ (Value.slice (some ⟨g,0,none⟩) (ln+1) cap)) cb n k bd lg lc sg sc eg ec bg pg fg mb nn (setAt rv v (Value.slice (some ⟨g,0,none⟩) (ln+1) cap)) (setAt R v (R v++[u])) F Fi):=by
  have X:=HX.out
  have o2:w.heap[bg]? =_:=X.be
  have o3:w.heap[pg]? =_:=X.pa
  have o4:w.heap[fg]? =_:=X.ft
  have n1:cb≠bg:=fun e=>by have o1:=X.ob;rw[e,o2] at o1;injection o1 with o1;unfold cellsO at o1;injection o1 with _ o1 _;cases o1
  have n2:pg≠bg:=fun e=>by rw[e,o2] at o3;injection o3 with o3;injection o3 with _ o3 _;cases o3
  have n3:fg≠bg:=fun e=>by rw[e,o2] at o4;injection o4 with o4;injection o4 with _ o4 _;cases o4
  have n4:rvv.ownBlock≠some pg:=own_ne HOW.out o3 (fun cs fz e=>by injection e with _ e _;cases e)
  have n5:rvv.ownBlock≠some fg:=own_ne HOW.out o4 (fun cs fz e=>by injection e with _ e _;cases e)
  have b7:TbV w7 bg n 25 rv:=TbV.same X.be ((hgrow7.block bg (by omega) (fun e=>HNB.out e.symm)).trans (HB1.out.block bg (by omega)))
  have ng:g≠bg:=fun e=>by
   have q:=Lib.ownsRow_kind hown7 g rfl
   obtain⟨cs,fz,q⟩:=q
   have b7':w7.heap[bg]? =_:=b7
   rw[e,b7'] at q
   injection q with q
   injection q with _ q _
   cases q
  refine⟨(HF8.out.block cb (by omega) (fun h=>h.elim HNC.out n1)).trans X.ob,TbV.congr (b7.set v _) (fun t _=>rfl),fun t ht=> ?_,X.pa.fr HF8.out (fun h=>h.elim n4 n2),fun t ht=>(X.mi t ht).fr HF8.out (fun h=> ?_),TbV.fr X.ft HF8.out (fun h=>h.elim n5 n3)⟩
  ·by_cases e:t=v
   ·subst e
    rw[setAt_same,setAt_same,List.length_append,ints_snoc,HLN.out]
    have q:=own_frL hown7 (fr_cell w7 bg t (Value.slice (some ⟨g,0,none⟩) (ln+1) cap)) (fun g' e e2=>by injection e with e;exact ng (e.trans e2))
    rw[show cellsI (ints (R t))++cellsI [(u:Int)]=cellsI (ints (R t)++[(u:Int)]) from by simp[cellsI]] at q
    exact q
   ·rw[setAt_ne _ _ e,setAt_ne _ _ e]
    refine own_frL (X.ro t ht) HF8.out (fun g' e1 h=> ?_)
    rcases h with h | h
    ·rcases HRA.out t ht e with q | q
     ·rw[q] at e1;cases e1
     ·exact q (by rw[e1,HRV.out,h])
    ·exact own_ne (X.ro t ht) o2 (fun cs fz e=>by injection e with _ e _;cases e) (by rw[e1,h])
  ·rcases h with h | h
   ·obtain⟨es,ck,hm⟩:=(X.mi t ht).kind
    exact own_ne HOW.out hm (fun cs fz e=>by cases e) h
   ·exact(X.mi t ht).ne o2 h
 have HL8:Hid (OwI (w7.setCell ⟨bg,v,none⟩ (Value.slice (some ⟨g,0,none⟩) (ln+1) cap)) lg lc (ints L)):=HL.out.fr HF8.out (fun h=>h.elim (fun e=>HRG.out (by rw[HRV.out];exact e)) (HL.out.ne (show w.heap[bg]? =some _ from HX.out.be) (by decide)))
 clear c4 d4 e4 g4 f4 h4 q4 HNW HO1 HB1 hA1 hown7 hgrow7 hlt7 hHeld hHeld2 hHeld3
 generalize hW:w7.setCell ⟨bg,v,none⟩ (Value.slice (some ⟨g,0,none⟩) (ln+1) cap)=W8 at*
 clear hW w7 A
 have hM8:=HX8.out.mi v hv
 obtain⟨fy,HFY⟩:=named (F v y)
 rw[HFY.out] at hF
 have c1:W8.cell? ⟨cb,1,none⟩=some (.slice (some ⟨lg,0,none⟩) n lc):=by simp[World.cell?,HX8.out.ob,cellsO]
 have c5:W8.cell? ⟨cb,5,none⟩=some (.slice (some ⟨pg,0,none⟩) n n):=by simp[World.cell?,HX8.out.ob,cellsO]
 have d5:=HX8.out.pa.cell hv
 have d1:=HL8.out.cell (k:=u) (by rw[ints_len];omega)
 rw[getD_ints,HY.out] at d1
 have HM1:=hid (hM8.on (w':=W8.drew) ⟨rfl,rfl,rfl,Nat.le_refl _,fun _ _=>rfl⟩)
 have l1:=HM1.out.look (x:=y) (by omega)
 rw[HFY.out] at l1
 have hw1:IntKind.i64.wrap ((fy:Int)+1)=((fy+1:Nat):Int):=by rw[IntKind.wrap_i64];omega
 obtain⟨w9,r1,HM2,hg1⟩:=HM1.out.store (y:=y) (c:=fy+1) (by unfold maxLen;omega) hyk hk (by omega)
 have r2:(Instr.mapUpdate 171 (.map (some (mb v))) (.int .i64 (y:Int)) (.int .i64 ((fy:Int)+1))).run Tryz.prog W8.drew= .ok () w9:=r1
 have HF9:Hid (Fr (fun b=>b=mb v) W8 w9):=(fr_of (below_drewN _ W8 1)).trans (fr_grownL hg1)
 have HM3:=hid HM2
 clear hM8 r1 hg1 HM2
 go_wp2_with fail
 refine wp_region_last (S:=fun w'=>w'.cell? ⟨cb,5,none⟩=some (.slice (some ⟨pg,0,none⟩) n n)∧w'.cell? ⟨cb,1,none⟩=some (.slice (some ⟨lg,0,none⟩) n lc)∧w'.cell? ⟨pg,v,none⟩=some (.map (some (mb v)))∧w'.cell? ⟨lg,u,none⟩=some (.int .i64 (y:Int))∧(Instr.lookup 171 (.map (some (mb v))) (.int .i64 (y:Int)) false).run Tryz.prog w'= .ok (.int .i64 (fy:Int)) w') 16 _ (by kernel_rfl) (by kernel_rfl) rfl _ rfl ?_ (fun hHeld=> ?_)
 ·go_keep
 simp only[idled,List.modify_toArray,List.modify_succ_cons,List.modify_zero_cons,idle,List.size_toArray,List.length_cons,List.length_nil]
 refine wpAnyH_take (i:=0) (v:= ?_) rfl (by kernel_rfl) (by decide+kernel) (by decide+kernel) (fun _ _ _ h=>h) (Or.inl ⟨by rfl,?_⟩) (by assumption) ?_
 rotate_left
 ·intro w hSw
  (try dsimp only at hSw)
  go_simp
  (try with_reducible rfl)
 simp only[Act.put,List.getElem_toArray,List.getElem_cons_zero,List.getElem_cons_succ,List.setIfInBounds_toArray,List.set_cons_zero,List.set_cons_succ]
 refine wpAnyH_take (i:=1) (v:= ?_) rfl (by kernel_rfl) (by decide+kernel) (by decide+kernel) (fun _ _ _ h=>h) (Or.inl ⟨by rfl,?_⟩) (by assumption) ?_
 rotate_left
 ·intro w hSw
  (try dsimp only at hSw)
  go_simp
  (try with_reducible rfl)
 simp only[Act.put,List.getElem_toArray,List.getElem_cons_zero,List.getElem_cons_succ,List.setIfInBounds_toArray,List.set_cons_zero,List.set_cons_succ]
 refine wpAnyH_take (i:=2) (v:= ?_) rfl (by kernel_rfl) (by decide+kernel) (by decide+kernel) (fun _ _ _ h=>h) (Or.inl ⟨by rfl,?_⟩) (by assumption) ?_
 rotate_left
 ·intro w hSw
  (try dsimp only at hSw)
  go_simp
  (try with_reducible rfl)
 simp only[Act.put,List.getElem_toArray,List.getElem_cons_zero,List.getElem_cons_succ,List.setIfInBounds_toArray,List.set_cons_zero,List.set_cons_succ]
 refine wpAnyH_take (i:=3) (v:= ?_) rfl (by kernel_rfl) (by decide+kernel) (by decide+kernel) (fun _ _ _ h=>h) (Or.inl ⟨by rfl,?_⟩) (by assumption) ?_
 rotate_left
 ·intro w hSw
  (try dsimp only at hSw)
  go_simp
  (try with_reducible rfl)
 simp only[Act.put,List.getElem_toArray,List.getElem_cons_zero,List.getElem_cons_succ,List.setIfInBounds_toArray,List.set_cons_zero,List.set_cons_succ]
 refine wpAnyH_take (i:=4) (v:= ?_) rfl (by kernel_rfl) (by decide+kernel) (by decide+kernel) (fun _ _ _ h=>h) (Or.inl ⟨by rfl,?_⟩) (by assumption) ?_
 rotate_left
 ·intro w hSw
  (try dsimp only at hSw)
  go_simp
  (try with_reducible rfl)
 simp only[Act.put,List.getElem_toArray,List.getElem_cons_zero,List.getElem_cons_succ,List.setIfInBounds_toArray,List.set_cons_zero,List.set_cons_succ]
 refine wpAnyH_take (i:=5) (v:= ?_) rfl (by kernel_rfl) (by decide+kernel) (by decide+kernel) (fun _ _ _ h=>h) (Or.inl ⟨by rfl,?_⟩) (by assumption) ?_
 rotate_left
 ·intro w hSw
  (try dsimp only at hSw)
  go_simp
  (try with_reducible rfl)
 simp only[Act.put,List.getElem_toArray,List.getElem_cons_zero,List.getElem_cons_succ,List.setIfInBounds_toArray,List.set_cons_zero,List.set_cons_succ]
 refine wpAnyH_take (i:=6) (v:= ?_) rfl (by kernel_rfl) (by decide+kernel) (by decide+kernel) (fun _ _ _ h=>h) (Or.inl ⟨by rfl,?_⟩) (by assumption) ?_
 rotate_left
 ·intro w hSw
  (try dsimp only at hSw)
  go_simp
  (try with_reducible rfl)
 simp only[Act.put,List.getElem_toArray,List.getElem_cons_zero,List.getElem_cons_succ,List.setIfInBounds_toArray,List.set_cons_zero,List.set_cons_succ]
 refine wpAnyH_take (i:=7) (v:= ?_) rfl (by kernel_rfl) (by decide+kernel) (by decide+kernel) (fun _ _ _ h=>h) (Or.inl ⟨by rfl,?_⟩) (by assumption) ?_
 rotate_left
 ·intro w hSw
  (try dsimp only at hSw)
  go_simp
  (try with_reducible rfl)
 simp only[Act.put,List.getElem_toArray,List.getElem_cons_zero,List.getElem_cons_succ,List.setIfInBounds_toArray,List.set_cons_zero,List.set_cons_succ]
 refine wpAnyH_take (i:=8) (v:= ?_) rfl (by kernel_rfl) (by decide+kernel) (by decide+kernel) (fun _ _ _ h=>h) (Or.inl ⟨by rfl,?_⟩) (by assumption) ?_
 rotate_left
 ·intro w hSw
  (try dsimp only at hSw)
  go_simp
  (try with_reducible rfl)
 simp only[Act.put,List.getElem_toArray,List.getElem_cons_zero,List.getElem_cons_succ,List.setIfInBounds_toArray,List.set_cons_zero,List.set_cons_succ]
 refine wpAnyH_take (i:=9) (v:= ?_) rfl (by kernel_rfl) (by decide+kernel) (by decide+kernel) (fun _ _ _ h=>h) (Or.inl ⟨by rfl,?_⟩) (by assumption) ?_
 rotate_left
 ·intro w hSw
  (try dsimp only at hSw)
  go_simp
  (try with_reducible rfl)
 simp only[Act.put,List.getElem_toArray,List.getElem_cons_zero,List.getElem_cons_succ,List.setIfInBounds_toArray,List.set_cons_zero,List.set_cons_succ]
 refine wpAnyH_take (i:=10) (v:= ?_) rfl (by kernel_rfl) (by decide+kernel) (by decide+kernel) (fun _ _ _ h=>h) (Or.inl ⟨by rfl,?_⟩) (by assumption) ?_
 rotate_left
 ·intro w hSw
  (try dsimp only at hSw)
  go_simp
  (try with_reducible rfl)
 simp only[Act.put,List.getElem_toArray,List.getElem_cons_zero,List.getElem_cons_succ,List.setIfInBounds_toArray,List.set_cons_zero,List.set_cons_succ]
 refine wpAnyH_take (i:=11) (v:= ?_) rfl (by kernel_rfl) (by decide+kernel) (by decide+kernel) (fun _ _ _ h=>h) (Or.inl ⟨by rfl,?_⟩) (by assumption) ?_
 rotate_left
 ·intro w hSw
  (try dsimp only at hSw)
  go_simp
  (try with_reducible rfl)
 simp only[Act.put,List.getElem_toArray,List.getElem_cons_zero,List.getElem_cons_succ,List.setIfInBounds_toArray,List.set_cons_zero,List.set_cons_succ]
 refine wpAnyH_take (i:=12) (v:= ?_) rfl (by kernel_rfl) (by decide+kernel) (by decide+kernel) (fun _ _ _ h=>h) (Or.inl ⟨by rfl,?_⟩) (by assumption) ?_
 rotate_left
 ·intro w hSw
  (try dsimp only at hSw)
  go_simp
  (try with_reducible rfl)
 simp only[Act.put,List.getElem_toArray,List.getElem_cons_zero,List.getElem_cons_succ,List.setIfInBounds_toArray,List.set_cons_zero,List.set_cons_succ]
 refine wpAnyH_take (i:=13) (v:= ?_) rfl (by kernel_rfl) (by decide+kernel) (by decide+kernel) (fun _ _ _ h=>h) (Or.inl ⟨by rfl,?_⟩) (by assumption) ?_
 rotate_left
 ·intro w hSw
  (try dsimp only at hSw)
  go_simp
  (try with_reducible rfl)
 simp only[Act.put,List.getElem_toArray,List.getElem_cons_zero,List.getElem_cons_succ,List.setIfInBounds_toArray,List.set_cons_zero,List.set_cons_succ]
 refine wpAnyH_take (i:=14) (v:= ?_) rfl (by kernel_rfl) (by decide+kernel) (by decide+kernel) (fun _ _ _ h=>h) (Or.inl ⟨by rfl,?_⟩) (by assumption) ?_
 rotate_left
 ·intro w hSw
  (try dsimp only at hSw)
  go_simp
  (try with_reducible rfl)
 simp only[Act.put,List.getElem_toArray,List.getElem_cons_zero,List.getElem_cons_succ,List.setIfInBounds_toArray,List.set_cons_zero,List.set_cons_succ]
 refine wpAnyH_take (i:=15) (v:= ?_) rfl (by kernel_rfl) (by decide+kernel) (by decide+kernel) (fun _ _ _ h=>h) (Or.inl ⟨by rfl,?_⟩) (by assumption) ?_
 rotate_left
 ·intro w hSw
  (try dsimp only at hSw)
  go_simp
  (try with_reducible rfl)
 simp only[Act.put,List.getElem_toArray,List.getElem_cons_zero,List.getElem_cons_succ,List.setIfInBounds_toArray,List.set_cons_zero,List.set_cons_succ]
 refine wpAnyH_take (i:=16) (v:= ?_) rfl (by kernel_rfl) (by decide+kernel) (by decide+kernel) (fun _ _ _ h=>h) (Or.inl ⟨by rfl,?_⟩) (by assumption) ?_
 rotate_left
 ·intro w hSw
  (try dsimp only at hSw)
  go_simp
  (try with_reducible rfl)
 simp only[Act.put]
 refine wpAnyH_done (by kernel_rfl) ?_ _
 simp only[lastQ]
 go_simp
 clear hHeld
 go_wp2_with fail
 refine bodyPost_end (results_none rfl _ _ _) rfl ?_
 have X:=HX8.out
 have f9:=HF9.out
 have o2:W8.heap[bg]? =_:=X.be
 have o3:W8.heap[pg]? =_:=X.pa
 have o4:W8.heap[fg]? =_:=X.ft
 have mv:=X.mi v hv
 obtain⟨es,ck,hk9⟩:=mv.kind
 refine⟨rfl,_,⟨(f9.block cb (lt_of_block X.ob) (mv.ne X.ob).symm).trans X.ob,X.be.fr f9 (mv.ne o2).symm,fun t ht=>own_frL (X.ro t ht) f9 (fun g' e e2=>own_ne (X.ro t ht) hk9 (fun cs fz e=>by cases e) (by rw[e,e2])),X.pa.fr f9 (mv.ne o3).symm,fun t ht=> ?_,TbV.fr X.ft f9 (mv.ne o4).symm⟩,?_,HL8.out.fr f9 (fun e=> ?_),(HF8.out.imp (fun b h=> ?_)).trans (f9.imp (fun b h=> ?_))⟩
 ·by_cases e:t=v
  ·subst e
   rw[setAt_same,setAt_same,HFY.out]
   exact HM3.out
  ·rw[setAt_ne _ _ e,setAt_ne _ _ e]
   exact(X.mi t ht).fr f9 (fun e2=>e (HMJ.out t v ht hv e2))
 ·rw[HRV.out]
  rcases hat7 with h | h
  ·exact .inl h.symm
  ·exact .inr ⟨g,rfl,by omega⟩
 ·obtain⟨cs,fz,q⟩:=HL8.out.kind
  exact mv.ne q e.symm
 ·rw[HRV.out]
  exact h.elim .inl (fun e=> .inr (.inl e))
 ·exact .inr (.inr h)
theorem info25:(Tryz.prog.info? 25).map (fun i=>(i.zero,i.size,i.bytes))=some (some (.slice none 0 0),1,24):=by kernel_rfl
theorem info81:(Tryz.prog.info? 171).map (fun i=>(i.zero,i.size,i.bytes))=some (some (.map none),1,8):=by kernel_rfl
theorem info65:(Tryz.prog.info? 136).map (fun i=>(i.zero,i.size,i.bytes))=some (some (.agg #[.int .i64 0, .int .i64 0, .int .i64 0]),3,24):=by kernel_rfl
theorem made_one(z:Value)(n:Nat)(h:z.cells= #[z]):madeCells z.cells (n*1)=((List.range n).map (fun _=>z)).toArray:=by
 apply Array.ext'
 rw[h]
 show(madeCells #[z] (n*1)).toList=_
 rw[toList_madeCells_one,Nat.mul_one]
 apply List.ext_getElem
 ·simp
 ·intro i h1 h2
  simp
theorem made_three(n:Nat):madeCells (Value.agg #[.int .i64 0, .int .i64 0, .int .i64 0]).cells (n*3)=((List.range (n*3)).map (fun _=>Value.int .i64 0)).toArray:=by
 apply Array.ext'
 show(madeCells #[Value.int .i64 0,Value.int .i64 0,Value.int .i64 0] (n*3)).toList=_
 apply List.ext_getElem
 ·simp[madeCells]
 ·intro i h1 h2
  have h3:i % 3=0∨i % 3=1∨i % 3=2:=by omega
  simp only[madeCells]
  rcases h3 with h | h | h <;> simp[h]
abbrev o55(n:Nat):Obj:= .cells ((List.range n).map (fun _=>Value.slice none 0 0)).toArray 25
abbrev o56(n:Nat):Obj:= .cells ((List.range n).map (fun _=>Value.map none)).toArray 171
abbrev o57(n:Nat):Obj:= .cells ((List.range (n*3)).map (fun _=>Value.int .i64 0)).toArray 136
structure Mk(W w:World)(n:Nat)(xs:List Int)(a b c:Option Nat)(d:Option (Nat × Nat)):Prop where
 be:Below W.heap.size W w
 a1: ∀q,a=some q→w.heap[q]? =some (o55 n)∧W.heap.size≤q
 b1: ∀q,b=some q→w.heap[q]? =some (o56 n)∧W.heap.size≤q
 c1: ∀q,c=some q→w.heap[q]? =some (o57 n)∧W.heap.size≤q
 d1: ∀g k,d=some (g,k)→OwI w g k xs∧W.heap.size≤g
theorem Mk.start(W:World)(n:Nat)(xs:List Int):Mk W W.drew n xs none none none none:=⟨(Below.refl _ _).drew,(fun _ h=>by cases h),(fun _ h=>by cases h),(fun _ h=>by cases h),(fun _ _ h=>by cases h)⟩
theorem Mk.on{W w w':World}{n:Nat}{xs:List Int}{a b c:Option Nat}{d:Option (Nat × Nat)}(h:Mk W w n xs a b c d)(hb:Below w.heap.size w w'):Mk W w' n xs a b c d:=
 ⟨h.be.trans (hb.mono h.be.size),fun q e=>⟨(hb.block q (lt_of_block (h.a1 q e).1)).trans (h.a1 q e).1,(h.a1 q e).2⟩,fun q e=>⟨(hb.block q (lt_of_block (h.b1 q e).1)).trans (h.b1 q e).1,(h.b1 q e).2⟩,fun q e=>⟨(hb.block q (lt_of_block (h.c1 q e).1)).trans (h.c1 q e).1,(h.c1 q e).2⟩,fun g k e=>⟨(h.d1 g k e).1.on hb,(h.d1 g k e).2⟩⟩
theorem al_below(w:World)(o:Obj):Below w.heap.size w (w.alloc o):=(Below.refl _ _).alloc (Nat.le_refl _) _
theorem Mk.s55{W w:World}{n:Nat}{xs:List Int}{b c:Option Nat}{d:Option (Nat × Nat)}(h:Mk W w n xs none b c d):Mk W (w.alloc (o55 n)) n xs (some w.heap.size) b c d:=
 have g:=h.on (al_below w (o55 n))
 ⟨g.be,fun q e=>by injection e with e;rw[←e];exact⟨heap_top _ _,h.be.size⟩,g.b1,g.c1,g.d1⟩
theorem Mk.s56{W w:World}{n:Nat}{xs:List Int}{a c:Option Nat}{d:Option (Nat × Nat)}(h:Mk W w n xs a none c d):Mk W (w.alloc (o56 n)) n xs a (some w.heap.size) c d:=
 have g:=h.on (al_below w (o56 n))
 ⟨g.be,g.a1,fun q e=>by injection e with e;rw[←e];exact⟨heap_top _ _,h.be.size⟩,g.c1,g.d1⟩
theorem Mk.s57{W w:World}{n:Nat}{xs:List Int}{a b:Option Nat}{d:Option (Nat × Nat)}(h:Mk W w n xs a b none d):Mk W (w.alloc (o57 n)) n xs a b (some w.heap.size) d:=
 have g:=h.on (al_below w (o57 n))
 ⟨g.be,g.a1,g.b1,fun q e=>by injection e with e;rw[←e];exact⟨heap_top _ _,h.be.size⟩,g.d1⟩
theorem Mk.s54{W w w':World}{n:Nat}{xs:List Int}{a b c:Option Nat}{g k:Nat}(h:Mk W w n xs a b c none)(hb:Below w.heap.size w w')(ho:w'.ownsRow w.heap.size 3 1 (.slice (some ⟨g,0,none⟩) xs.length k) xs.length (cellsI xs)):Mk W w' n xs a b c (some (g,k)):=
 have q:=h.on hb
 ⟨q.be,q.a1,q.b1,q.c1,fun g' k' e=>by injection e with e;injection e with e1 e2;rw[←e1,←e2];exact⟨own_base ho (Nat.zero_le _),Nat.le_trans h.be.size (World.ownsRow.lt ho g rfl).1⟩⟩
def cells0(n lg lc bg pg fg:Nat)(sv ev:Value):Obj:= .cells #[.int .i64 0, .slice (some ⟨lg,0,none⟩) n lc,sv,ev, .slice (some ⟨bg,0,none⟩) n n, .slice (some ⟨pg,0,none⟩) n n, .slice (some ⟨fg,0,none⟩) n n] 143
structure CI(W wc:World)(cb n lg lc bg pg fg:Nat)(xs:List Int):Prop where
 ob:wc.heap[cb]? =some (cells0 n lg lc bg pg fg (.slice none 0 0) (.slice none 0 0))
 md:Mk W wc n xs (some bg) (some pg) (some fg) (some (lg,lc))
 lo:W.heap.size≤cb
theorem Mk.ci{W w:World}{n lg lc bg pg fg:Nat}{xs:List Int}(h:Mk W w n xs (some bg) (some pg) (some fg) (some (lg,lc))):CI W (w.alloc (cells0 n lg lc bg pg fg (.slice none 0 0) (.slice none 0 0))) w.heap.size n lg lc bg pg fg xs:=
 ⟨heap_top _ _,h.on (al_below _ _),h.be.size⟩
theorem wp_region_true{P:Program}{Q:Exit→Act→World→Prop}{id:Nat}{ops:Array Oper}{a:Act}{w:World}(hf:P.follows .mixedOrders=true)(h:wpAnyH P .any ops Q (fun _=>True) ops.size (Array.replicate ops.size false) a w.drew):(Code.region id ops true).wp P Q a w:=wp_region_any hf (wpAny_of_held _ _ _ _ h)
end Go.Proofs.YtmenajiceaicpaaGreat
