import Derived.Test.YtmenajiceaicpaaGreatZAU
open Go.Lib (hid)
namespace Go.Proofs.YtmenajiceaicpaaGreat
open Go.RowKit Go.Maps
set_option maxRecDepth 100000 in
set_option maxHeartbeats 3200000 in
theorem counted_any(ib io:Nat)(xs:List Int)(L:List Nat)(lc0:Nat)(pa:Option Addr)(P:List Pr)(pc n:Nat)(w:World)(hxl:xs.length=n)(hL:xs=ints L)(htd:tdy (ints L) 0=true)(hn0:0<n)(hn:n≤1024)(hi:Ints w (some ⟨ib,io,none⟩) xs)(hP:Prs w pa P)(hPl:P.length≤8192)(hPn: ∀p,p∈P→p.a<n∧p.b<n)(hPd: ∀p,p∈P→p.a≠p.b):
  Calls Tryz.prog 155 #[.slice pa P.length pc, .slice (some ⟨ib,io,none⟩) n lc0] w fun e w'=> ∃ (cb k lg lc sg sc eg ec bg pg fg:Nat) (mb nn:Nat→Nat) (rv:Nat→Value) (S:List Nat) (Le:List Int),e= .returned (.pointer (some ⟨cb,0,none⟩))∧CQ w w' cb n k lg lc sg sc eg ec bg pg fg mb nn rv (besd P) (cv P L) L S Le (2*P.length)∧LP L n n S Le∧S.length=k∧lg≠sg∧lg≠eg∧sg≠eg:=by
 have HPP:=hid hP
 have HPN:=hid hPn
 have HPD:=hid hPd
 clear hP hPn hPd
 have HTD:=hid htd
 clear htd
 have hLn:L.length=n:=by rw[←hxl,hL,ints_len]
 obtain⟨hib,HIC⟩:ib<w.heap.size∧Hid (∀j,j<n→w.cell? ⟨ib,io+j,none⟩=some (.int .i64 ((L.getD j 0:Nat):Int))):=by
  obtain⟨ix,ox,hix⟩:=hi.get
  obtain⟨h1,h2,h3⟩:=hix (by omega)
  injection h1 with h1
  injection h1 with h1 h4
  subst h1
  subst h4
  refine⟨h2,fun j hj=> ?_⟩
  have h:=h3 j (by omega)
  rw[hL,getD_ints] at h
  exact h
 obtain⟨i25,hi25,hz25,hs25,hb25⟩:=info_parts info25
 obtain⟨i81,hi81,hz81,hs81,hb81⟩:=info_parts info81
 obtain⟨i65,hi65,hz65,hs65,hb65⟩:=info_parts info65
 have hm55: ∀w,(Instr.makeSlice 26 (.int .i64 n) (.int .i64 n)).run Tryz.prog w= .ok (.slice (some ⟨w.heap.size,0,none⟩) n n) (w.alloc (o55 n)):=fun w=>by
  have:=run_make (P:=Tryz.prog) w 26 25 i25 _ Tryz.underlying26 hi25 hz25 .i64 .i64 n n (by omega) (by omega) (by rw[hb25];omega) (by omega)
  rw[this,Int.toNat_natCast,hs25,made_one _ _ rfl]
 have hm56: ∀w,(Instr.makeSlice 140 (.int .i64 n) (.int .i64 n)).run Tryz.prog w= .ok (.slice (some ⟨w.heap.size,0,none⟩) n n) (w.alloc (o56 n)):=fun w=>by
  have:=run_make (P:=Tryz.prog) w 140 171 i81 _ Tryz.underlying140 hi81 hz81 .i64 .i64 n n (by omega) (by omega) (by rw[hb81];omega) (by omega)
  rw[this,Int.toNat_natCast,hs81,made_one _ _ rfl]
 have hm57: ∀w,(Instr.makeSlice 141 (.int .i64 n) (.int .i64 n)).run Tryz.prog w= .ok (.slice (some ⟨w.heap.size,0,none⟩) n n) (w.alloc (o57 n)):=fun w=>by
  have:=run_make (P:=Tryz.prog) w 141 136 i65 _ Tryz.underlying141 hi65 hz65 .i64 .i64 n n (by omega) (by omega) (by rw[hb65];omega) (by omega)
  rw[this,Int.toNat_natCast,hs65,made_three]
 have HI:=hid hi
 have HXL:=hid hxl
 clear hi25 hz25 hs25 hb25 hi81 hz81 hs81 hb81 hi65 hz65 hs65 hb65 hi hxl
 clear i25 i81 i65
 go_enter Tryz.func155,Tryz.ntmps155
 go_wp2_with fail
 go_cut [6] (fun s6 wc=> ∃cb lg lc bg pg fg,s6= .pointer (some ⟨cb,0,none⟩)∧Hid (CI w wc cb n lg lc bg pg fg xs))
 case first=>
  refine wp_region_true (by kernel_rfl) ?_
  refine wpAnyH_take (i:=0) (v:= ?_) rfl (by kernel_rfl) (by decide+kernel) (by decide+kernel) (fun _ _ _ h=>h) (Or.inl ⟨by rfl,?_⟩) trivial ?_
  rotate_left
  ·intro w hSw
   (try clear hSw)
   go_simp
   (try with_reducible rfl)
  simp only[Act.put,List.getElem_toArray,List.getElem_cons_zero,List.setIfInBounds_toArray,List.set_cons_zero,List.set_cons_succ]
  refine wpAnyH_take (i:=2) (v:= ?_) rfl (by kernel_rfl) (by decide+kernel) (by decide+kernel) (fun _ _ _ h=>h) (Or.inl ⟨by rfl,?_⟩) trivial ?_
  rotate_left
  ·intro w hSw
   (try clear hSw)
   go_simp
   (try with_reducible rfl)
  simp only[Act.put,List.getElem_toArray,List.getElem_cons_zero,List.getElem_cons_succ,List.setIfInBounds_toArray,List.set_cons_zero,List.set_cons_succ]
  refine wpAnyH_take (i:=4) (v:= ?_) rfl (by kernel_rfl) (by decide+kernel) (by decide+kernel) (fun _ _ _ h=>h) (Or.inl ⟨by rfl,?_⟩) trivial ?_
  rotate_left
  ·intro w hSw
   (try clear hSw)
   go_simp
   (try with_reducible rfl)
  simp only[Act.put,List.getElem_toArray,List.getElem_cons_zero,List.getElem_cons_succ,List.setIfInBounds_toArray,List.set_cons_zero,List.set_cons_succ]
  refine wpAnyH_take (i:=6) (v:= ?_) rfl (by kernel_rfl) (by decide+kernel) (by decide+kernel) (fun _ _ _ h=>h) (Or.inl ⟨by rfl,?_⟩) trivial ?_
  rotate_left
  ·intro w hSw
   (try clear hSw)
   go_simp
   (try with_reducible rfl)
  simp only[Act.put,List.getElem_toArray,List.getElem_cons_zero,List.getElem_cons_succ,List.setIfInBounds_toArray,List.set_cons_zero,List.set_cons_succ]
  have HK:=hid (Mk.start w n xs)
  generalize hX:w.drew=X at*
  clear hX
  refine wpAnyH_ready (rs:=[1,3,5,7]) (by kernel_rfl) (by simp) ?_
  refine AllReadyH.cons rfl (fun K hK=> ?_) (AllReadyH.cons rfl (fun K hK=> ?_) (AllReadyH.cons rfl (fun K hK=> ?_) (AllReadyH.cons rfl (fun K hK=> ?_) AllReadyH.nil)))
  focus
   have hcl:=clone_any ⟨ib,io,none⟩ xs lc0 X (by rw[HXL.out];exact hn) (HI.out.on HK.out.be)
   rw[HXL.out] at hcl
   have HCL:=hid hcl
   clear hcl
   go_simp
   refine HCL.out.mono ?_
   rintro e w2 ⟨g54,c54,rfl,hown54,hb54⟩
   replace hown54:w2.ownsRow X.heap.size 3 1 (.slice (some ⟨g54,0,none⟩) xs.length c54) xs.length (cellsI xs):=by rw[HXL.out];exact hown54
   replace HK:=hid (HK.out.s54 hb54 hown54)
   clear hown54 hb54 HCL
   refine hK.out _ _ trivial (fun _=> ?_)
   clear hK K
   clear X
   rename World=>X
   refine wpAnyH_ready (rs:=[3,5,7]) (by kernel_rfl) (by simp) ?_
   refine AllReadyH.cons rfl (fun K hK=> ?_) (AllReadyH.cons rfl (fun K hK=> ?_) (AllReadyH.cons rfl (fun K hK=> ?_) AllReadyH.nil))
   focus
    go_simp
    refine hK.out _ _ trivial (fun _=> ?_)
    clear hK K
    replace HK:=hid HK.out.s55
    generalize hq55:X.heap.size=q55 at*
    generalize hX:X.alloc _=Y at*
    clear hX hq55 X
    rename World=>X
    refine wpAnyH_ready (rs:=[5,7]) (by kernel_rfl) (by simp) ?_
    refine AllReadyH.cons rfl (fun K hK=> ?_) (AllReadyH.cons rfl (fun K hK=> ?_) AllReadyH.nil)
    focus
     go_simp
     refine hK.out _ _ trivial (fun _=> ?_)
     clear hK K
     replace HK:=hid HK.out.s56
     generalize hq56:X.heap.size=q56 at*
     generalize hX:X.alloc _=Y at*
     clear hX hq56 X
     rename World=>X
     refine wpAnyH_ready (rs:=[7]) (by kernel_rfl) (by simp) ?_
     refine AllReadyH.cons rfl (fun K hK=> ?_) AllReadyH.nil
     focus
      go_simp
      refine hK.out _ _ trivial (fun _=> ?_)
      clear hK K
      replace HK:=hid HK.out.s57
      generalize hq57:X.heap.size=q57 at*
      generalize hX:X.alloc _=Y at*
      clear hX hq57 X
      rename World=>X
     rotate_left
    rotate_left
    focus
     go_simp
     refine hK.out _ _ trivial (fun _=> ?_)
     clear hK K
     replace HK:=hid HK.out.s57
     generalize hq57:X.heap.size=q57 at*
     generalize hX:X.alloc _=Y at*
     clear hX hq57 X
     rename World=>X
     refine wpAnyH_ready (rs:=[5]) (by kernel_rfl) (by simp) ?_
     refine AllReadyH.cons rfl (fun K hK=> ?_) AllReadyH.nil
     focus
      go_simp
      refine hK.out _ _ trivial (fun _=> ?_)
      clear hK K
      replace HK:=hid HK.out.s56
      generalize hq56:X.heap.size=q56 at*
      generalize hX:X.alloc _=Y at*
      clear hX hq56 X
      rename World=>X
     rotate_left
    rotate_left
   rotate_left 2
   focus
    go_simp
    refine hK.out _ _ trivial (fun _=> ?_)
    clear hK K
    replace HK:=hid HK.out.s56
    generalize hq56:X.heap.size=q56 at*
    generalize hX:X.alloc _=Y at*
    clear hX hq56 X
    rename World=>X
    refine wpAnyH_ready (rs:=[3,7]) (by kernel_rfl) (by simp) ?_
    refine AllReadyH.cons rfl (fun K hK=> ?_) (AllReadyH.cons rfl (fun K hK=> ?_) AllReadyH.nil)
    focus
     go_simp
     refine hK.out _ _ trivial (fun _=> ?_)
     clear hK K
     replace HK:=hid HK.out.s55
     generalize hq55:X.heap.size=q55 at*
     generalize hX:X.alloc _=Y at*
     clear hX hq55 X
     rename World=>X
     refine wpAnyH_ready (rs:=[7]) (by kernel_rfl) (by simp) ?_
     refine AllReadyH.cons rfl (fun K hK=> ?_) AllReadyH.nil
     focus
      go_simp
      refine hK.out _ _ trivial (fun _=> ?_)
      clear hK K
      replace HK:=hid HK.out.s57
      generalize hq57:X.heap.size=q57 at*
      generalize hX:X.alloc _=Y at*
      clear hX hq57 X
      rename World=>X
     rotate_left
    rotate_left
    focus
     go_simp
     refine hK.out _ _ trivial (fun _=> ?_)
     clear hK K
     replace HK:=hid HK.out.s57
     generalize hq57:X.heap.size=q57 at*
     generalize hX:X.alloc _=Y at*
     clear hX hq57 X
     rename World=>X
     refine wpAnyH_ready (rs:=[3]) (by kernel_rfl) (by simp) ?_
     refine AllReadyH.cons rfl (fun K hK=> ?_) AllReadyH.nil
     focus
      go_simp
      refine hK.out _ _ trivial (fun _=> ?_)
      clear hK K
      replace HK:=hid HK.out.s55
      generalize hq55:X.heap.size=q55 at*
      generalize hX:X.alloc _=Y at*
      clear hX hq55 X
      rename World=>X
     rotate_left
    rotate_left
   rotate_left 2
   focus
    go_simp
    refine hK.out _ _ trivial (fun _=> ?_)
    clear hK K
    replace HK:=hid HK.out.s57
    generalize hq57:X.heap.size=q57 at*
    generalize hX:X.alloc _=Y at*
    clear hX hq57 X
    rename World=>X
    refine wpAnyH_ready (rs:=[3,5]) (by kernel_rfl) (by simp) ?_
    refine AllReadyH.cons rfl (fun K hK=> ?_) (AllReadyH.cons rfl (fun K hK=> ?_) AllReadyH.nil)
    focus
     go_simp
     refine hK.out _ _ trivial (fun _=> ?_)
     clear hK K
     replace HK:=hid HK.out.s55
     generalize hq55:X.heap.size=q55 at*
     generalize hX:X.alloc _=Y at*
     clear hX hq55 X
     rename World=>X
     refine wpAnyH_ready (rs:=[5]) (by kernel_rfl) (by simp) ?_
     refine AllReadyH.cons rfl (fun K hK=> ?_) AllReadyH.nil
     focus
      go_simp
      refine hK.out _ _ trivial (fun _=> ?_)
      clear hK K
      replace HK:=hid HK.out.s56
      generalize hq56:X.heap.size=q56 at*
      generalize hX:X.alloc _=Y at*
      clear hX hq56 X
      rename World=>X
     rotate_left
    rotate_left
    focus
     go_simp
     refine hK.out _ _ trivial (fun _=> ?_)
     clear hK K
     replace HK:=hid HK.out.s56
     generalize hq56:X.heap.size=q56 at*
     generalize hX:X.alloc _=Y at*
     clear hX hq56 X
     rename World=>X
     refine wpAnyH_ready (rs:=[3]) (by kernel_rfl) (by simp) ?_
     refine AllReadyH.cons rfl (fun K hK=> ?_) AllReadyH.nil
     focus
      go_simp
      refine hK.out _ _ trivial (fun _=> ?_)
      clear hK K
      replace HK:=hid HK.out.s55
      generalize hq55:X.heap.size=q55 at*
      generalize hX:X.alloc _=Y at*
      clear hX hq55 X
      rename World=>X
     rotate_left
    rotate_left
   rotate_left 2
  rotate_left 6
  focus
   go_simp
   refine hK.out _ _ trivial (fun _=> ?_)
   clear hK K
   replace HK:=hid HK.out.s55
   generalize hq55:X.heap.size=q55 at*
   generalize hX:X.alloc _=Y at*
   clear hX hq55 X
   rename World=>X
   refine wpAnyH_ready (rs:=[1,5,7]) (by kernel_rfl) (by simp) ?_
   refine AllReadyH.cons rfl (fun K hK=> ?_) (AllReadyH.cons rfl (fun K hK=> ?_) (AllReadyH.cons rfl (fun K hK=> ?_) AllReadyH.nil))
   focus
    have hcl:=clone_any ⟨ib,io,none⟩ xs lc0 X (by rw[HXL.out];exact hn) (HI.out.on HK.out.be)
    rw[HXL.out] at hcl
    have HCL:=hid hcl
    clear hcl
    go_simp
    refine HCL.out.mono ?_
    rintro e w2 ⟨g54,c54,rfl,hown54,hb54⟩
    replace hown54:w2.ownsRow X.heap.size 3 1 (.slice (some ⟨g54,0,none⟩) xs.length c54) xs.length (cellsI xs):=by rw[HXL.out];exact hown54
    replace HK:=hid (HK.out.s54 hb54 hown54)
    clear hown54 hb54 HCL
    refine hK.out _ _ trivial (fun _=> ?_)
    clear hK K
    clear X
    rename World=>X
    refine wpAnyH_ready (rs:=[5,7]) (by kernel_rfl) (by simp) ?_
    refine AllReadyH.cons rfl (fun K hK=> ?_) (AllReadyH.cons rfl (fun K hK=> ?_) AllReadyH.nil)
    focus
     go_simp
     refine hK.out _ _ trivial (fun _=> ?_)
     clear hK K
     replace HK:=hid HK.out.s56
     generalize hq56:X.heap.size=q56 at*
     generalize hX:X.alloc _=Y at*
     clear hX hq56 X
     rename World=>X
     refine wpAnyH_ready (rs:=[7]) (by kernel_rfl) (by simp) ?_
     refine AllReadyH.cons rfl (fun K hK=> ?_) AllReadyH.nil
     focus
      go_simp
      refine hK.out _ _ trivial (fun _=> ?_)
      clear hK K
      replace HK:=hid HK.out.s57
      generalize hq57:X.heap.size=q57 at*
      generalize hX:X.alloc _=Y at*
      clear hX hq57 X
      rename World=>X
     rotate_left
    rotate_left
    focus
     go_simp
     refine hK.out _ _ trivial (fun _=> ?_)
     clear hK K
     replace HK:=hid HK.out.s57
     generalize hq57:X.heap.size=q57 at*
     generalize hX:X.alloc _=Y at*
     clear hX hq57 X
     rename World=>X
     refine wpAnyH_ready (rs:=[5]) (by kernel_rfl) (by simp) ?_
     refine AllReadyH.cons rfl (fun K hK=> ?_) AllReadyH.nil
     focus
      go_simp
      refine hK.out _ _ trivial (fun _=> ?_)
      clear hK K
      replace HK:=hid HK.out.s56
      generalize hq56:X.heap.size=q56 at*
      generalize hX:X.alloc _=Y at*
      clear hX hq56 X
      rename World=>X
     rotate_left
    rotate_left
   rotate_left 2
   focus
    go_simp
    refine hK.out _ _ trivial (fun _=> ?_)
    clear hK K
    replace HK:=hid HK.out.s56
    generalize hq56:X.heap.size=q56 at*
    generalize hX:X.alloc _=Y at*
    clear hX hq56 X
    rename World=>X
    refine wpAnyH_ready (rs:=[1,7]) (by kernel_rfl) (by simp) ?_
    refine AllReadyH.cons rfl (fun K hK=> ?_) (AllReadyH.cons rfl (fun K hK=> ?_) AllReadyH.nil)
    focus
     have hcl:=clone_any ⟨ib,io,none⟩ xs lc0 X (by rw[HXL.out];exact hn) (HI.out.on HK.out.be)
     rw[HXL.out] at hcl
     have HCL:=hid hcl
     clear hcl
     go_simp
     refine HCL.out.mono ?_
     rintro e w2 ⟨g54,c54,rfl,hown54,hb54⟩
     replace hown54:w2.ownsRow X.heap.size 3 1 (.slice (some ⟨g54,0,none⟩) xs.length c54) xs.length (cellsI xs):=by rw[HXL.out];exact hown54
     replace HK:=hid (HK.out.s54 hb54 hown54)
     clear hown54 hb54 HCL
     refine hK.out _ _ trivial (fun _=> ?_)
     clear hK K
     clear X
     rename World=>X
     refine wpAnyH_ready (rs:=[7]) (by kernel_rfl) (by simp) ?_
     refine AllReadyH.cons rfl (fun K hK=> ?_) AllReadyH.nil
     focus
      go_simp
      refine hK.out _ _ trivial (fun _=> ?_)
      clear hK K
      replace HK:=hid HK.out.s57
      generalize hq57:X.heap.size=q57 at*
      generalize hX:X.alloc _=Y at*
      clear hX hq57 X
      rename World=>X
     rotate_left
    rotate_left
    focus
     go_simp
     refine hK.out _ _ trivial (fun _=> ?_)
     clear hK K
     replace HK:=hid HK.out.s57
     generalize hq57:X.heap.size=q57 at*
     generalize hX:X.alloc _=Y at*
     clear hX hq57 X
     rename World=>X
     refine wpAnyH_ready (rs:=[1]) (by kernel_rfl) (by simp) ?_
     refine AllReadyH.cons rfl (fun K hK=> ?_) AllReadyH.nil
     focus
      have hcl:=clone_any ⟨ib,io,none⟩ xs lc0 X (by rw[HXL.out];exact hn) (HI.out.on HK.out.be)
      rw[HXL.out] at hcl
      have HCL:=hid hcl
      clear hcl
      go_simp
      refine HCL.out.mono ?_
      rintro e w2 ⟨g54,c54,rfl,hown54,hb54⟩
      replace hown54:w2.ownsRow X.heap.size 3 1 (.slice (some ⟨g54,0,none⟩) xs.length c54) xs.length (cellsI xs):=by rw[HXL.out];exact hown54
      replace HK:=hid (HK.out.s54 hb54 hown54)
      clear hown54 hb54 HCL
      refine hK.out _ _ trivial (fun _=> ?_)
      clear hK K
      clear X
      rename World=>X
     rotate_left
    rotate_left
   rotate_left 2
   focus
    go_simp
    refine hK.out _ _ trivial (fun _=> ?_)
    clear hK K
    replace HK:=hid HK.out.s57
    generalize hq57:X.heap.size=q57 at*
    generalize hX:X.alloc _=Y at*
    clear hX hq57 X
    rename World=>X
    refine wpAnyH_ready (rs:=[1,5]) (by kernel_rfl) (by simp) ?_
    refine AllReadyH.cons rfl (fun K hK=> ?_) (AllReadyH.cons rfl (fun K hK=> ?_) AllReadyH.nil)
    focus
     have hcl:=clone_any ⟨ib,io,none⟩ xs lc0 X (by rw[HXL.out];exact hn) (HI.out.on HK.out.be)
     rw[HXL.out] at hcl
     have HCL:=hid hcl
     clear hcl
     go_simp
     refine HCL.out.mono ?_
     rintro e w2 ⟨g54,c54,rfl,hown54,hb54⟩
     replace hown54:w2.ownsRow X.heap.size 3 1 (.slice (some ⟨g54,0,none⟩) xs.length c54) xs.length (cellsI xs):=by rw[HXL.out];exact hown54
     replace HK:=hid (HK.out.s54 hb54 hown54)
     clear hown54 hb54 HCL
     refine hK.out _ _ trivial (fun _=> ?_)
     clear hK K
     clear X
     rename World=>X
     refine wpAnyH_ready (rs:=[5]) (by kernel_rfl) (by simp) ?_
     refine AllReadyH.cons rfl (fun K hK=> ?_) AllReadyH.nil
     focus
      go_simp
      refine hK.out _ _ trivial (fun _=> ?_)
      clear hK K
      replace HK:=hid HK.out.s56
      generalize hq56:X.heap.size=q56 at*
      generalize hX:X.alloc _=Y at*
      clear hX hq56 X
      rename World=>X
     rotate_left
    rotate_left
    focus
     go_simp
     refine hK.out _ _ trivial (fun _=> ?_)
     clear hK K
     replace HK:=hid HK.out.s56
     generalize hq56:X.heap.size=q56 at*
     generalize hX:X.alloc _=Y at*
     clear hX hq56 X
     rename World=>X
     refine wpAnyH_ready (rs:=[1]) (by kernel_rfl) (by simp) ?_
     refine AllReadyH.cons rfl (fun K hK=> ?_) AllReadyH.nil
     focus
      have hcl:=clone_any ⟨ib,io,none⟩ xs lc0 X (by rw[HXL.out];exact hn) (HI.out.on HK.out.be)
      rw[HXL.out] at hcl
      have HCL:=hid hcl
      clear hcl
      go_simp
      refine HCL.out.mono ?_
      rintro e w2 ⟨g54,c54,rfl,hown54,hb54⟩
      replace hown54:w2.ownsRow X.heap.size 3 1 (.slice (some ⟨g54,0,none⟩) xs.length c54) xs.length (cellsI xs):=by rw[HXL.out];exact hown54
      replace HK:=hid (HK.out.s54 hb54 hown54)
      clear hown54 hb54 HCL
      refine hK.out _ _ trivial (fun _=> ?_)
      clear hK K
      clear X
      rename World=>X
     rotate_left
    rotate_left
   rotate_left 2
  rotate_left 6
  focus
   go_simp
   refine hK.out _ _ trivial (fun _=> ?_)
   clear hK K
   replace HK:=hid HK.out.s56
   generalize hq56:X.heap.size=q56 at*
   generalize hX:X.alloc _=Y at*
   clear hX hq56 X
   rename World=>X
   refine wpAnyH_ready (rs:=[1,3,7]) (by kernel_rfl) (by simp) ?_
   refine AllReadyH.cons rfl (fun K hK=> ?_) (AllReadyH.cons rfl (fun K hK=> ?_) (AllReadyH.cons rfl (fun K hK=> ?_) AllReadyH.nil))
   focus
    have hcl:=clone_any ⟨ib,io,none⟩ xs lc0 X (by rw[HXL.out];exact hn) (HI.out.on HK.out.be)
    rw[HXL.out] at hcl
    have HCL:=hid hcl
    clear hcl
    go_simp
    refine HCL.out.mono ?_
    rintro e w2 ⟨g54,c54,rfl,hown54,hb54⟩
    replace hown54:w2.ownsRow X.heap.size 3 1 (.slice (some ⟨g54,0,none⟩) xs.length c54) xs.length (cellsI xs):=by rw[HXL.out];exact hown54
    replace HK:=hid (HK.out.s54 hb54 hown54)
    clear hown54 hb54 HCL
    refine hK.out _ _ trivial (fun _=> ?_)
    clear hK K
    clear X
    rename World=>X
    refine wpAnyH_ready (rs:=[3,7]) (by kernel_rfl) (by simp) ?_
    refine AllReadyH.cons rfl (fun K hK=> ?_) (AllReadyH.cons rfl (fun K hK=> ?_) AllReadyH.nil)
    focus
     go_simp
     refine hK.out _ _ trivial (fun _=> ?_)
     clear hK K
     replace HK:=hid HK.out.s55
     generalize hq55:X.heap.size=q55 at*
     generalize hX:X.alloc _=Y at*
     clear hX hq55 X
     rename World=>X
     refine wpAnyH_ready (rs:=[7]) (by kernel_rfl) (by simp) ?_
     refine AllReadyH.cons rfl (fun K hK=> ?_) AllReadyH.nil
     focus
      go_simp
      refine hK.out _ _ trivial (fun _=> ?_)
      clear hK K
      replace HK:=hid HK.out.s57
      generalize hq57:X.heap.size=q57 at*
      generalize hX:X.alloc _=Y at*
      clear hX hq57 X
      rename World=>X
     rotate_left
    rotate_left
    focus
     go_simp
     refine hK.out _ _ trivial (fun _=> ?_)
     clear hK K
     replace HK:=hid HK.out.s57
     generalize hq57:X.heap.size=q57 at*
     generalize hX:X.alloc _=Y at*
     clear hX hq57 X
     rename World=>X
     refine wpAnyH_ready (rs:=[3]) (by kernel_rfl) (by simp) ?_
     refine AllReadyH.cons rfl (fun K hK=> ?_) AllReadyH.nil
     focus
      go_simp
      refine hK.out _ _ trivial (fun _=> ?_)
      clear hK K
      replace HK:=hid HK.out.s55
      generalize hq55:X.heap.size=q55 at*
      generalize hX:X.alloc _=Y at*
      clear hX hq55 X
      rename World=>X
     rotate_left
    rotate_left
   rotate_left 2
   focus
    go_simp
    refine hK.out _ _ trivial (fun _=> ?_)
    clear hK K
    replace HK:=hid HK.out.s55
    generalize hq55:X.heap.size=q55 at*
    generalize hX:X.alloc _=Y at*
    clear hX hq55 X
    rename World=>X
    refine wpAnyH_ready (rs:=[1,7]) (by kernel_rfl) (by simp) ?_
    refine AllReadyH.cons rfl (fun K hK=> ?_) (AllReadyH.cons rfl (fun K hK=> ?_) AllReadyH.nil)
    focus
     have hcl:=clone_any ⟨ib,io,none⟩ xs lc0 X (by rw[HXL.out];exact hn) (HI.out.on HK.out.be)
     rw[HXL.out] at hcl
     have HCL:=hid hcl
     clear hcl
     go_simp
     refine HCL.out.mono ?_
     rintro e w2 ⟨g54,c54,rfl,hown54,hb54⟩
     replace hown54:w2.ownsRow X.heap.size 3 1 (.slice (some ⟨g54,0,none⟩) xs.length c54) xs.length (cellsI xs):=by rw[HXL.out];exact hown54
     replace HK:=hid (HK.out.s54 hb54 hown54)
     clear hown54 hb54 HCL
     refine hK.out _ _ trivial (fun _=> ?_)
     clear hK K
     clear X
     rename World=>X
     refine wpAnyH_ready (rs:=[7]) (by kernel_rfl) (by simp) ?_
     refine AllReadyH.cons rfl (fun K hK=> ?_) AllReadyH.nil
     focus
      go_simp
      refine hK.out _ _ trivial (fun _=> ?_)
      clear hK K
      replace HK:=hid HK.out.s57
      generalize hq57:X.heap.size=q57 at*
      generalize hX:X.alloc _=Y at*
      clear hX hq57 X
      rename World=>X
     rotate_left
    rotate_left
    focus
     go_simp
     refine hK.out _ _ trivial (fun _=> ?_)
     clear hK K
     replace HK:=hid HK.out.s57
     generalize hq57:X.heap.size=q57 at*
     generalize hX:X.alloc _=Y at*
     clear hX hq57 X
     rename World=>X
     refine wpAnyH_ready (rs:=[1]) (by kernel_rfl) (by simp) ?_
     refine AllReadyH.cons rfl (fun K hK=> ?_) AllReadyH.nil
     focus
      have hcl:=clone_any ⟨ib,io,none⟩ xs lc0 X (by rw[HXL.out];exact hn) (HI.out.on HK.out.be)
      rw[HXL.out] at hcl
      have HCL:=hid hcl
      clear hcl
      go_simp
      refine HCL.out.mono ?_
      rintro e w2 ⟨g54,c54,rfl,hown54,hb54⟩
      replace hown54:w2.ownsRow X.heap.size 3 1 (.slice (some ⟨g54,0,none⟩) xs.length c54) xs.length (cellsI xs):=by rw[HXL.out];exact hown54
      replace HK:=hid (HK.out.s54 hb54 hown54)
      clear hown54 hb54 HCL
      refine hK.out _ _ trivial (fun _=> ?_)
      clear hK K
      clear X
      rename World=>X
     rotate_left
    rotate_left
   rotate_left 2
   focus
    go_simp
    refine hK.out _ _ trivial (fun _=> ?_)
    clear hK K
    replace HK:=hid HK.out.s57
    generalize hq57:X.heap.size=q57 at*
    generalize hX:X.alloc _=Y at*
    clear hX hq57 X
    rename World=>X
    refine wpAnyH_ready (rs:=[1,3]) (by kernel_rfl) (by simp) ?_
    refine AllReadyH.cons rfl (fun K hK=> ?_) (AllReadyH.cons rfl (fun K hK=> ?_) AllReadyH.nil)
    focus
     have hcl:=clone_any ⟨ib,io,none⟩ xs lc0 X (by rw[HXL.out];exact hn) (HI.out.on HK.out.be)
     rw[HXL.out] at hcl
     have HCL:=hid hcl
     clear hcl
     go_simp
     refine HCL.out.mono ?_
     rintro e w2 ⟨g54,c54,rfl,hown54,hb54⟩
     replace hown54:w2.ownsRow X.heap.size 3 1 (.slice (some ⟨g54,0,none⟩) xs.length c54) xs.length (cellsI xs):=by rw[HXL.out];exact hown54
     replace HK:=hid (HK.out.s54 hb54 hown54)
     clear hown54 hb54 HCL
     refine hK.out _ _ trivial (fun _=> ?_)
     clear hK K
     clear X
     rename World=>X
     refine wpAnyH_ready (rs:=[3]) (by kernel_rfl) (by simp) ?_
     refine AllReadyH.cons rfl (fun K hK=> ?_) AllReadyH.nil
     focus
      go_simp
      refine hK.out _ _ trivial (fun _=> ?_)
      clear hK K
      replace HK:=hid HK.out.s55
      generalize hq55:X.heap.size=q55 at*
      generalize hX:X.alloc _=Y at*
      clear hX hq55 X
      rename World=>X
     rotate_left
    rotate_left
    focus
     go_simp
     refine hK.out _ _ trivial (fun _=> ?_)
     clear hK K
     replace HK:=hid HK.out.s55
     generalize hq55:X.heap.size=q55 at*
     generalize hX:X.alloc _=Y at*
     clear hX hq55 X
     rename World=>X
     refine wpAnyH_ready (rs:=[1]) (by kernel_rfl) (by simp) ?_
     refine AllReadyH.cons rfl (fun K hK=> ?_) AllReadyH.nil
     focus
      have hcl:=clone_any ⟨ib,io,none⟩ xs lc0 X (by rw[HXL.out];exact hn) (HI.out.on HK.out.be)
      rw[HXL.out] at hcl
      have HCL:=hid hcl
      clear hcl
      go_simp
      refine HCL.out.mono ?_
      rintro e w2 ⟨g54,c54,rfl,hown54,hb54⟩
      replace hown54:w2.ownsRow X.heap.size 3 1 (.slice (some ⟨g54,0,none⟩) xs.length c54) xs.length (cellsI xs):=by rw[HXL.out];exact hown54
      replace HK:=hid (HK.out.s54 hb54 hown54)
      clear hown54 hb54 HCL
      refine hK.out _ _ trivial (fun _=> ?_)
      clear hK K
      clear X
      rename World=>X
     rotate_left
    rotate_left
   rotate_left 2
  rotate_left 6
  focus
   go_simp
   refine hK.out _ _ trivial (fun _=> ?_)
   clear hK K
   replace HK:=hid HK.out.s57
   generalize hq57:X.heap.size=q57 at*
   generalize hX:X.alloc _=Y at*
   clear hX hq57 X
   rename World=>X
   refine wpAnyH_ready (rs:=[1,3,5]) (by kernel_rfl) (by simp) ?_
   refine AllReadyH.cons rfl (fun K hK=> ?_) (AllReadyH.cons rfl (fun K hK=> ?_) (AllReadyH.cons rfl (fun K hK=> ?_) AllReadyH.nil))
   focus
    have hcl:=clone_any ⟨ib,io,none⟩ xs lc0 X (by rw[HXL.out];exact hn) (HI.out.on HK.out.be)
    rw[HXL.out] at hcl
    have HCL:=hid hcl
    clear hcl
    go_simp
    refine HCL.out.mono ?_
    rintro e w2 ⟨g54,c54,rfl,hown54,hb54⟩
    replace hown54:w2.ownsRow X.heap.size 3 1 (.slice (some ⟨g54,0,none⟩) xs.length c54) xs.length (cellsI xs):=by rw[HXL.out];exact hown54
    replace HK:=hid (HK.out.s54 hb54 hown54)
    clear hown54 hb54 HCL
    refine hK.out _ _ trivial (fun _=> ?_)
    clear hK K
    clear X
    rename World=>X
    refine wpAnyH_ready (rs:=[3,5]) (by kernel_rfl) (by simp) ?_
    refine AllReadyH.cons rfl (fun K hK=> ?_) (AllReadyH.cons rfl (fun K hK=> ?_) AllReadyH.nil)
    focus
     go_simp
     refine hK.out _ _ trivial (fun _=> ?_)
     clear hK K
     replace HK:=hid HK.out.s55
     generalize hq55:X.heap.size=q55 at*
     generalize hX:X.alloc _=Y at*
     clear hX hq55 X
     rename World=>X
     refine wpAnyH_ready (rs:=[5]) (by kernel_rfl) (by simp) ?_
     refine AllReadyH.cons rfl (fun K hK=> ?_) AllReadyH.nil
     focus
      go_simp
      refine hK.out _ _ trivial (fun _=> ?_)
      clear hK K
      replace HK:=hid HK.out.s56
      generalize hq56:X.heap.size=q56 at*
      generalize hX:X.alloc _=Y at*
      clear hX hq56 X
      rename World=>X
     rotate_left
    rotate_left
    focus
     go_simp
     refine hK.out _ _ trivial (fun _=> ?_)
     clear hK K
     replace HK:=hid HK.out.s56
     generalize hq56:X.heap.size=q56 at*
     generalize hX:X.alloc _=Y at*
     clear hX hq56 X
     rename World=>X
     refine wpAnyH_ready (rs:=[3]) (by kernel_rfl) (by simp) ?_
     refine AllReadyH.cons rfl (fun K hK=> ?_) AllReadyH.nil
     focus
      go_simp
      refine hK.out _ _ trivial (fun _=> ?_)
      clear hK K
      replace HK:=hid HK.out.s55
      generalize hq55:X.heap.size=q55 at*
      generalize hX:X.alloc _=Y at*
      clear hX hq55 X
      rename World=>X
     rotate_left
    rotate_left
   rotate_left 2
   focus
    go_simp
    refine hK.out _ _ trivial (fun _=> ?_)
    clear hK K
    replace HK:=hid HK.out.s55
    generalize hq55:X.heap.size=q55 at*
    generalize hX:X.alloc _=Y at*
    clear hX hq55 X
    rename World=>X
    refine wpAnyH_ready (rs:=[1,5]) (by kernel_rfl) (by simp) ?_
    refine AllReadyH.cons rfl (fun K hK=> ?_) (AllReadyH.cons rfl (fun K hK=> ?_) AllReadyH.nil)
    focus
     have hcl:=clone_any ⟨ib,io,none⟩ xs lc0 X (by rw[HXL.out];exact hn) (HI.out.on HK.out.be)
     rw[HXL.out] at hcl
     have HCL:=hid hcl
     clear hcl
     go_simp
     refine HCL.out.mono ?_
     rintro e w2 ⟨g54,c54,rfl,hown54,hb54⟩
     replace hown54:w2.ownsRow X.heap.size 3 1 (.slice (some ⟨g54,0,none⟩) xs.length c54) xs.length (cellsI xs):=by rw[HXL.out];exact hown54
     replace HK:=hid (HK.out.s54 hb54 hown54)
     clear hown54 hb54 HCL
     refine hK.out _ _ trivial (fun _=> ?_)
     clear hK K
     clear X
     rename World=>X
     refine wpAnyH_ready (rs:=[5]) (by kernel_rfl) (by simp) ?_
     refine AllReadyH.cons rfl (fun K hK=> ?_) AllReadyH.nil
     focus
      go_simp
      refine hK.out _ _ trivial (fun _=> ?_)
      clear hK K
      replace HK:=hid HK.out.s56
      generalize hq56:X.heap.size=q56 at*
      generalize hX:X.alloc _=Y at*
      clear hX hq56 X
      rename World=>X
     rotate_left
    rotate_left
    focus
     go_simp
     refine hK.out _ _ trivial (fun _=> ?_)
     clear hK K
     replace HK:=hid HK.out.s56
     generalize hq56:X.heap.size=q56 at*
     generalize hX:X.alloc _=Y at*
     clear hX hq56 X
     rename World=>X
     refine wpAnyH_ready (rs:=[1]) (by kernel_rfl) (by simp) ?_
     refine AllReadyH.cons rfl (fun K hK=> ?_) AllReadyH.nil
     focus
      have hcl:=clone_any ⟨ib,io,none⟩ xs lc0 X (by rw[HXL.out];exact hn) (HI.out.on HK.out.be)
      rw[HXL.out] at hcl
      have HCL:=hid hcl
      clear hcl
      go_simp
      refine HCL.out.mono ?_
      rintro e w2 ⟨g54,c54,rfl,hown54,hb54⟩
      replace hown54:w2.ownsRow X.heap.size 3 1 (.slice (some ⟨g54,0,none⟩) xs.length c54) xs.length (cellsI xs):=by rw[HXL.out];exact hown54
      replace HK:=hid (HK.out.s54 hb54 hown54)
      clear hown54 hb54 HCL
      refine hK.out _ _ trivial (fun _=> ?_)
      clear hK K
      clear X
      rename World=>X
     rotate_left
    rotate_left
   rotate_left 2
   focus
    go_simp
    refine hK.out _ _ trivial (fun _=> ?_)
    clear hK K
    replace HK:=hid HK.out.s56
    generalize hq56:X.heap.size=q56 at*
    generalize hX:X.alloc _=Y at*
    clear hX hq56 X
    rename World=>X
    refine wpAnyH_ready (rs:=[1,3]) (by kernel_rfl) (by simp) ?_
    refine AllReadyH.cons rfl (fun K hK=> ?_) (AllReadyH.cons rfl (fun K hK=> ?_) AllReadyH.nil)
    focus
     have hcl:=clone_any ⟨ib,io,none⟩ xs lc0 X (by rw[HXL.out];exact hn) (HI.out.on HK.out.be)
     rw[HXL.out] at hcl
     have HCL:=hid hcl
     clear hcl
     go_simp
     refine HCL.out.mono ?_
     rintro e w2 ⟨g54,c54,rfl,hown54,hb54⟩
     replace hown54:w2.ownsRow X.heap.size 3 1 (.slice (some ⟨g54,0,none⟩) xs.length c54) xs.length (cellsI xs):=by rw[HXL.out];exact hown54
     replace HK:=hid (HK.out.s54 hb54 hown54)
     clear hown54 hb54 HCL
     refine hK.out _ _ trivial (fun _=> ?_)
     clear hK K
     clear X
     rename World=>X
     refine wpAnyH_ready (rs:=[3]) (by kernel_rfl) (by simp) ?_
     refine AllReadyH.cons rfl (fun K hK=> ?_) AllReadyH.nil
     focus
      go_simp
      refine hK.out _ _ trivial (fun _=> ?_)
      clear hK K
      replace HK:=hid HK.out.s55
      generalize hq55:X.heap.size=q55 at*
      generalize hX:X.alloc _=Y at*
      clear hX hq55 X
      rename World=>X
     rotate_left
    rotate_left
    focus
     go_simp
     refine hK.out _ _ trivial (fun _=> ?_)
     clear hK K
     replace HK:=hid HK.out.s55
     generalize hq55:X.heap.size=q55 at*
     generalize hX:X.alloc _=Y at*
     clear hX hq55 X
     rename World=>X
     refine wpAnyH_ready (rs:=[1]) (by kernel_rfl) (by simp) ?_
     refine AllReadyH.cons rfl (fun K hK=> ?_) AllReadyH.nil
     focus
      have hcl:=clone_any ⟨ib,io,none⟩ xs lc0 X (by rw[HXL.out];exact hn) (HI.out.on HK.out.be)
      rw[HXL.out] at hcl
      have HCL:=hid hcl
      clear hcl
      go_simp
      refine HCL.out.mono ?_
      rintro e w2 ⟨g54,c54,rfl,hown54,hb54⟩
      replace hown54:w2.ownsRow X.heap.size 3 1 (.slice (some ⟨g54,0,none⟩) xs.length c54) xs.length (cellsI xs):=by rw[HXL.out];exact hown54
      replace HK:=hid (HK.out.s54 hb54 hown54)
      clear hown54 hb54 HCL
      refine hK.out _ _ trivial (fun _=> ?_)
      clear hK K
      clear X
      rename World=>X
     rotate_left
    rotate_left
   rotate_left 2
  rotate_left 6
  all_goals
   refine wpAnyH_take (i:=8) (v:= ?_) rfl (by kernel_rfl) (by decide+kernel) (by decide+kernel) (fun _ _ _ h=>h) (Or.inl ⟨by rfl,?_⟩) trivial ?_
   rotate_left
   ·intro w hSw
    (try clear hSw)
    go_simp
    (try with_reducible rfl)
   simp only[Act.put,List.getElem_toArray,List.getElem_cons_zero,List.getElem_cons_succ,List.setIfInBounds_toArray,List.set_cons_zero,List.set_cons_succ]
   refine wpAnyH_ready (rs:=[9]) (by kernel_rfl) (by simp) ?_
   refine AllReadyH.cons rfl (fun K hK=> ?_) AllReadyH.nil
   go_simp
   refine hK.out _ _ trivial (fun _=> ?_)
   clear hK K
   refine wpAnyH_take (i:=10) (v:= ?_) rfl (by kernel_rfl) (by decide+kernel) (by decide+kernel) (fun _ _ _ h=>h) (Or.inl ⟨by rfl,?_⟩) trivial ?_
   rotate_left
   ·intro w hSw
    (try clear hSw)
    go_simp
    (try with_reducible rfl)
   simp only[Act.put,List.getElem_toArray,List.getElem_cons_zero,List.getElem_cons_succ,List.setIfInBounds_toArray,List.set_cons_zero,List.set_cons_succ]
   refine wpAnyH_done (by kernel_rfl) ?_ _
   go_wp2_with fail
   go_meet
   case rel=>exact⟨_,_,_,_,_,_,rfl,HK.out.ci⟩
 case rest=>
  obtain⟨cb,lg,lc,bg,pg,fg,rfl,HC⟩:=hcut
  have HC1:=hid HC.out.start
  clear HC hm55 hm56 hm57
  obtain⟨i3,hi3,hz3,hs3,hby3⟩:=info_parts info3
  go_wp2_with fail
  go_loopw [25] (fun i wr=> ∃ (j:Nat) (sv ev:Value) (S:List Nat) (Le:List Int) (mb:Nat→Nat),j≤n∧i= .int .i64 (j:Int)∧Hid (C1 w wr cb n lg lc bg pg fg xs j sv ev S Le mb)∧Hid (LP L n j S Le)) (fun i _=>n - (intOf i).toNat)
  case atStart=>exact⟨0,_,_,_,_,fun _=>0,Nat.zero_le _,rfl,HC1,LP.start HTD.out⟩
  case round=>
   clear HC1
   obtain⟨j,sv,ev,S,Le,mb,hj,rfl,HC,HLP⟩:=hrel
   by_cases hlk:j<n
   ·have hlk':(j:Int)<n:=by omega
    obtain⟨y,HYD⟩:=named (L.getD j 0)
    have y0:=(HC.out.bel.cell (p:=⟨ib,io+j,none⟩) hib).trans (HIC.out j hlk)
    rw[HYD.out] at y0
    have hyle:=(HLP.out.next (by omega)).1
    have hlj:=HLP.out.lj
    have hll:=HLP.out.ll
    rw[HYD.out] at hyle
    obtain⟨sa,sc,hsv⟩:=own_slice HC.out.s
    obtain⟨ea,ec,hev⟩:=own_slice HC.out.e
    subst hsv
    subst hev
    obtain⟨kk,HKK⟩:=named S.length
    rw[HKK.out] at hyle hlj hll HC
    rw[hll] at HC
    have HLL:=hid hll
    have c2:wr.cell? ⟨cb,2,none⟩=some (.slice sa kk sc):=by simp[World.cell?,HC.out.ob,cells0]
    have c3:wr.cell? ⟨cb,3,none⟩=some (.slice ea kk ec):=by simp[World.cell?,HC.out.ob,cells0]
    clear hll
    go_upto_if 36 with fail
    go_cut [8] (fun s8 wc=>s8= .int .i64 (y:Int)∧∃ (g c k1:Nat) (ev1:Value) (S1:List Nat) (Le1:List Int),y<k1∧Hid (S1.length=k1)∧Hid (C1 w wc cb n lg lc bg pg fg xs j (.slice (some ⟨g,0,none⟩) k1 c) ev1 S1 Le1 mb)∧Hid (LP L n (j+1) (S1.set y (S1.getD y 0+1)) Le1))
    case first=>
     by_cases hy:y=kk
     ·subst hy
      have hyb:((y:Int)==(y:Int))=true:=by simp
      have hcl:=lt_of_block HC.out.ob
      have HSO:=hid HC.out.s
      have HEO:=hid HC.out.e
      rw[HKK.out] at HSO
      rw[HLL.out] at HEO
      have hr1:=HC.out.rows HC.out.s
      have hr2:=HC.out.rows HC.out.e
      have HSB:Hid (∀b,(Value.slice sa y sc).ownBlock=some b→b<wr.heap.size):=fun b e=>(HC.out.s.lt b e).2
      have HEB:Hid (∀b,(Value.slice ea y ec).ownBlock=some b→b<wr.heap.size):=fun b e=>(HC.out.e.lt b e).2
      have HNS:Hid (¬(Value.slice sa y sc).ownBlock=some cb):=hr1.1
      have HNE:Hid (¬((Value.slice sa y sc).ownBlock=some cb∨(Value.slice ea y ec).ownBlock=some cb)):=fun h=>h.elim hr1.1 hr2.1
      have HSE:=hid HC.out.se
      have HEA:Hid (∀g,(Value.slice ea y ec).ownBlock=some g→¬(Value.slice sa y sc).ownBlock=some g):=fun g e1 e2=>by
       rcases HSE.out with q | q
       ·rw[q] at e2;cases e2
       ·exact q (by rw[e1,e2])
      have HOB:=hid HC.out.ob
      have hwz:=HC.out.bel.size
      have HSN:Hid ((S++[0]).length=y+1):=by show(S++[0]).length=y+1;rw[List.length_append,HKK.out];rfl
      have HLM:Hid (LP L n (j+1) ((S++[0]).set y ((S++[0]).getD y 0+1)) (Le++[(j:Int)])):=by
       show LP L n (j+1) ((S++[0]).set y ((S++[0]).getD y 0+1)) (Le++[(j:Int)])
       have q:=HLP.out.more (by omega) hLn HYD.out HKK.out.symm
       rw[←HKK.out,getD_end,set_end]
       exact q
      clear hr1 hr2
      go_wp2_with fail
      refine wp_region_last (S:=fun w'=>w'.cell? ⟨cb,3,none⟩=some (.slice ea y ec)) 20 _ (by kernel_rfl) (by kernel_rfl) rfl _ rfl ?_ (fun HH=> ?_)
      ·go_keep
      simp only[idled,List.modify_toArray,List.modify_succ_cons,List.modify_zero_cons,idle,List.size_toArray,List.length_cons,List.length_nil]
      refine wpAnyH_take (i:=0) (v:= ?_) rfl (by kernel_rfl) (by decide+kernel) (by decide+kernel) (fun _ _ _ h=>h) (Or.inl ⟨by rfl,?_⟩) HH ?_
      rotate_left
      ·intro w hSw
       (try dsimp only at hSw)
       go_simp
       (try with_reducible rfl)
      simp only[Act.put,List.getElem_toArray,List.getElem_cons_zero,List.getElem_cons_succ,List.setIfInBounds_toArray,List.set_cons_zero,List.set_cons_succ]
      refine wpAnyH_take (i:=1) (v:= ?_) rfl (by kernel_rfl) (by decide+kernel) (by decide+kernel) (fun _ _ _ h=>h) (Or.inl ⟨by rfl,?_⟩) HH ?_
      rotate_left
      ·intro w hSw
       (try dsimp only at hSw)
       go_simp
       (try with_reducible rfl)
      simp only[Act.put,List.getElem_toArray,List.getElem_cons_zero,List.getElem_cons_succ,List.setIfInBounds_toArray,List.set_cons_zero,List.set_cons_succ]
      refine wpAnyH_take (i:=2) (v:= ?_) rfl (by kernel_rfl) (by decide+kernel) (by decide+kernel) (fun _ _ _ h=>h) (Or.inl ⟨by rfl,?_⟩) HH ?_
      rotate_left
      ·intro w hSw
       (try dsimp only at hSw)
       go_simp
       (try with_reducible rfl)
      simp only[Act.put,List.getElem_toArray,List.getElem_cons_zero,List.getElem_cons_succ,List.setIfInBounds_toArray,List.set_cons_zero,List.set_cons_succ]
      refine wpAnyH_take (i:=3) (v:= ?_) rfl (by kernel_rfl) (by decide+kernel) (by decide+kernel) (fun _ _ _ h=>h) (Or.inl ⟨by rfl,?_⟩) HH ?_
      rotate_left
      ·intro w hSw
       (try dsimp only at hSw)
       go_simp
       (try with_reducible rfl)
      simp only[Act.put,List.getElem_toArray,List.getElem_cons_zero,List.getElem_cons_succ,List.setIfInBounds_toArray,List.set_cons_zero,List.set_cons_succ]
      refine wpAnyH_take (i:=4) (v:= ?_) rfl (by kernel_rfl) (by decide+kernel) (by decide+kernel) (fun _ _ _ h=>h) (Or.inl ⟨by rfl,?_⟩) HH ?_
      rotate_left
      ·intro w hSw
       (try dsimp only at hSw)
       go_simp
       (try with_reducible rfl)
      simp only[Act.put,List.getElem_toArray,List.getElem_cons_zero,List.getElem_cons_succ,List.setIfInBounds_toArray,List.set_cons_zero,List.set_cons_succ]
      refine wpAnyH_take (i:=8) (v:= ?_) rfl (by kernel_rfl) (by decide+kernel) (by decide+kernel) (fun _ _ _ h=>h) (Or.inl ⟨by rfl,?_⟩) HH ?_
      rotate_left
      ·intro w hSw
       (try dsimp only at hSw)
       go_simp
       (try with_reducible rfl)
      simp only[Act.put,List.getElem_toArray,List.getElem_cons_zero,List.getElem_cons_succ,List.setIfInBounds_toArray,List.set_cons_zero,List.set_cons_succ]
      refine wpAnyH_take (i:=9) (v:= ?_) rfl (by kernel_rfl) (by decide+kernel) (by decide+kernel) (fun _ _ _ h=>h) (Or.inl ⟨by rfl,?_⟩) HH ?_
      rotate_left
      ·intro w hSw
       (try dsimp only at hSw)
       go_simp
       (try with_reducible rfl)
      simp only[Act.put,List.getElem_toArray,List.getElem_cons_zero,List.getElem_cons_succ,List.setIfInBounds_toArray,List.set_cons_zero,List.set_cons_succ]
      refine wpAnyH_take (i:=10) (v:= ?_) rfl (by kernel_rfl) (by decide+kernel) (by decide+kernel) (fun _ _ _ h=>h) (Or.inl ⟨by rfl,?_⟩) HH ?_
      rotate_left
      ·intro w hSw
       (try dsimp only at hSw)
       go_simp
       (try with_reducible rfl)
      simp only[Act.put,List.getElem_toArray,List.getElem_cons_zero,List.getElem_cons_succ,List.setIfInBounds_toArray,List.set_cons_zero,List.set_cons_succ]
      refine wpAnyH_take (i:=11) (v:= ?_) rfl (by kernel_rfl) (by decide+kernel) (by decide+kernel) (fun _ _ _ h=>h) (Or.inl ⟨by rfl,?_⟩) HH ?_
      rotate_left
      ·intro w hSw
       (try dsimp only at hSw)
       go_simp
       (try with_reducible rfl)
      simp only[Act.put,List.getElem_toArray,List.getElem_cons_zero,List.getElem_cons_succ,List.setIfInBounds_toArray,List.set_cons_zero,List.set_cons_succ]
      refine wpAnyH_take (i:=12) (v:= ?_) rfl (by kernel_rfl) (by decide+kernel) (by decide+kernel) (fun _ _ _ h=>h) (Or.inl ⟨by rfl,?_⟩) HH ?_
      rotate_left
      ·intro w hSw
       (try dsimp only at hSw)
       go_simp
       (try with_reducible rfl)
      simp only[Act.put,List.getElem_toArray,List.getElem_cons_zero,List.getElem_cons_succ,List.setIfInBounds_toArray,List.set_cons_zero,List.set_cons_succ]
      have HK:=hid (AP.start wr j)
      generalize hX:wr.drew=X at*
      clear hX
      refine wpAnyH_ready (rs:=[5,6,13]) (by kernel_rfl) (by simp) ?_
      refine AllReadyH.cons rfl (fun K hK=> ?_) (AllReadyH.cons rfl (fun K hK=> ?_) (AllReadyH.cons rfl (fun K hK=> ?_) AllReadyH.nil))
      focus
       have x2:=HK.out.c3 hcl c2
       go_simp
       refine hK.out _ _ HH (fun hq=> ?_)
       clear hq hK K x2
       refine wpAnyH_ready (rs:=[6,13]) (by kernel_rfl) (by simp) ?_
       refine AllReadyH.cons rfl (fun K hK=> ?_) (AllReadyH.cons rfl (fun K hK=> ?_) AllReadyH.nil)
       focus
        go_simp
        replace HK:=hid HK.out.s6
        replace HH:=(HK.out.c3 hcl c3)
        refine hK.out _ _ HH (fun hq=> ?_)
        clear hq hK K
        generalize hq6:X.heap.size=q6 at*
        generalize hX:X.alloc _=Y at*
        clear hX hq6 X
        rename World=>X
        refine wpAnyH_ready (rs:=[7,13]) (by kernel_rfl) (by simp) ?_
        refine AllReadyH.cons rfl (fun K hK=> ?_) (AllReadyH.cons rfl (fun K hK=> ?_) AllReadyH.nil)
        focus
         rw[if_pos (by rfl)]
         have HO6:=hid (own_on HSO.out (Below.mono HK.out.be (Nat.le_refl _)))
         have HNW:=hid (World.news_of_block (HK.out.p6 _ rfl).1)
         have HZ:=hid HK.out.be.size
         refine wp_append_lies _ (.tmp 42) (.tmp 43) 25 rfl w.heap.size 3 i3 _ 1 8 Tryz.underlying25 hi3 hz3 hs3 hby3 rfl (by decide) (.slice sa y sc) y (cellsI (ints S)) rfl HO6.out ⟨q6,0,none⟩ 1 1 (cellsI [0]) rfl rfl HNW.out (one_I _) (by decide) (by unfold maxLen;omega) (by omega) (Nat.le_trans hwz HZ.out) _ rfl ?_
         intro g cap w7 hown7 hgrow7 hat7 hlt7
         replace HK:=hid (HK.out.s7 HSB.out hown7 hgrow7 hat7)
         replace HH:=fr_cell_at HK.out.fr hcl HNS.out c3
         refine hK.out _ _ HH (fun hq=> ?_)
         clear hq hK K HO6 HNW HZ hown7 hgrow7 hat7 hlt7
         simp only[Act.put,List.getElem_toArray,List.getElem_cons_zero,List.getElem_cons_succ,List.setIfInBounds_toArray,List.set_cons_zero,List.set_cons_succ]
         clear X
         rename World=>X
         refine wpAnyH_ready (rs:=[13]) (by kernel_rfl) (by simp) ?_
         refine AllReadyH.cons rfl (fun K hK=> ?_) AllReadyH.nil
         focus
          go_simp
          replace HK:=hid HK.out.s13
          replace HH:=(fr_cell_at HK.out.fr hcl HNS.out c3)
          refine hK.out _ _ HH (fun hq=> ?_)
          clear hq hK K
          generalize hq13:X.heap.size=q13 at*
          generalize hX:X.alloc _=Y at*
          clear hX hq13 X
          rename World=>X
        rotate_left
        focus
         go_simp
         replace HK:=hid HK.out.s13
         replace HH:=(HK.out.c3 hcl c3)
         refine hK.out _ _ HH (fun hq=> ?_)
         clear hq hK K
         generalize hq13:X.heap.size=q13 at*
         generalize hX:X.alloc _=Y at*
         clear hX hq13 X
         rename World=>X
         refine wpAnyH_ready (rs:=[7]) (by kernel_rfl) (by simp) ?_
         refine AllReadyH.cons rfl (fun K hK=> ?_) AllReadyH.nil
         focus
          rw[if_pos (by rfl)]
          have HO6:=hid (own_on HSO.out (Below.mono HK.out.be (Nat.le_refl _)))
          have HNW:=hid (World.news_of_block (HK.out.p6 _ rfl).1)
          have HZ:=hid HK.out.be.size
          refine wp_append_lies _ (.tmp 42) (.tmp 43) 25 rfl w.heap.size 3 i3 _ 1 8 Tryz.underlying25 hi3 hz3 hs3 hby3 rfl (by decide) (.slice sa y sc) y (cellsI (ints S)) rfl HO6.out ⟨q6,0,none⟩ 1 1 (cellsI [0]) rfl rfl HNW.out (one_I _) (by decide) (by unfold maxLen;omega) (by omega) (Nat.le_trans hwz HZ.out) _ rfl ?_
          intro g cap w7 hown7 hgrow7 hat7 hlt7
          replace HK:=hid (HK.out.s7 HSB.out hown7 hgrow7 hat7)
          replace HH:=fr_cell_at HK.out.fr hcl HNS.out c3
          refine hK.out _ _ HH (fun hq=> ?_)
          clear hq hK K HO6 HNW HZ hown7 hgrow7 hat7 hlt7
          simp only[Act.put,List.getElem_toArray,List.getElem_cons_zero,List.getElem_cons_succ,List.setIfInBounds_toArray,List.set_cons_zero,List.set_cons_succ]
          clear X
          rename World=>X
        rotate_left
       rotate_left 2
       focus
        go_simp
        replace HK:=hid HK.out.s13
        replace HH:=(HK.out.c3 hcl c3)
        refine hK.out _ _ HH (fun hq=> ?_)
        clear hq hK K
        generalize hq13:X.heap.size=q13 at*
        generalize hX:X.alloc _=Y at*
        clear hX hq13 X
        rename World=>X
        refine wpAnyH_ready (rs:=[6]) (by kernel_rfl) (by simp) ?_
        refine AllReadyH.cons rfl (fun K hK=> ?_) AllReadyH.nil
        focus
         go_simp
         replace HK:=hid HK.out.s6
         replace HH:=(HK.out.c3 hcl c3)
         refine hK.out _ _ HH (fun hq=> ?_)
         clear hq hK K
         generalize hq6:X.heap.size=q6 at*
         generalize hX:X.alloc _=Y at*
         clear hX hq6 X
         rename World=>X
         refine wpAnyH_ready (rs:=[7]) (by kernel_rfl) (by simp) ?_
         refine AllReadyH.cons rfl (fun K hK=> ?_) AllReadyH.nil
         focus
          rw[if_pos (by rfl)]
          have HO6:=hid (own_on HSO.out (Below.mono HK.out.be (Nat.le_refl _)))
          have HNW:=hid (World.news_of_block (HK.out.p6 _ rfl).1)
          have HZ:=hid HK.out.be.size
          refine wp_append_lies _ (.tmp 42) (.tmp 43) 25 rfl w.heap.size 3 i3 _ 1 8 Tryz.underlying25 hi3 hz3 hs3 hby3 rfl (by decide) (.slice sa y sc) y (cellsI (ints S)) rfl HO6.out ⟨q6,0,none⟩ 1 1 (cellsI [0]) rfl rfl HNW.out (one_I _) (by decide) (by unfold maxLen;omega) (by omega) (Nat.le_trans hwz HZ.out) _ rfl ?_
          intro g cap w7 hown7 hgrow7 hat7 hlt7
          replace HK:=hid (HK.out.s7 HSB.out hown7 hgrow7 hat7)
          replace HH:=fr_cell_at HK.out.fr hcl HNS.out c3
          refine hK.out _ _ HH (fun hq=> ?_)
          clear hq hK K HO6 HNW HZ hown7 hgrow7 hat7 hlt7
          simp only[Act.put,List.getElem_toArray,List.getElem_cons_zero,List.getElem_cons_succ,List.setIfInBounds_toArray,List.set_cons_zero,List.set_cons_succ]
          clear X
          rename World=>X
       rotate_left
      rotate_left 3
      focus
       go_simp
       replace HK:=hid HK.out.s6
       replace HH:=(HK.out.c3 hcl c3)
       refine hK.out _ _ HH (fun hq=> ?_)
       clear hq hK K
       generalize hq6:X.heap.size=q6 at*
       generalize hX:X.alloc _=Y at*
       clear hX hq6 X
       rename World=>X
       refine wpAnyH_ready (rs:=[5,13]) (by kernel_rfl) (by simp) ?_
       refine AllReadyH.cons rfl (fun K hK=> ?_) (AllReadyH.cons rfl (fun K hK=> ?_) AllReadyH.nil)
       focus
        have x2:=HK.out.c3 hcl c2
        go_simp
        refine hK.out _ _ HH (fun hq=> ?_)
        clear hq hK K x2
        refine wpAnyH_ready (rs:=[7,13]) (by kernel_rfl) (by simp) ?_
        refine AllReadyH.cons rfl (fun K hK=> ?_) (AllReadyH.cons rfl (fun K hK=> ?_) AllReadyH.nil)
        focus
         rw[if_pos (by rfl)]
         have HO6:=hid (own_on HSO.out (Below.mono HK.out.be (Nat.le_refl _)))
         have HNW:=hid (World.news_of_block (HK.out.p6 _ rfl).1)
         have HZ:=hid HK.out.be.size
         refine wp_append_lies _ (.tmp 42) (.tmp 43) 25 rfl w.heap.size 3 i3 _ 1 8 Tryz.underlying25 hi3 hz3 hs3 hby3 rfl (by decide) (.slice sa y sc) y (cellsI (ints S)) rfl HO6.out ⟨q6,0,none⟩ 1 1 (cellsI [0]) rfl rfl HNW.out (one_I _) (by decide) (by unfold maxLen;omega) (by omega) (Nat.le_trans hwz HZ.out) _ rfl ?_
         intro g cap w7 hown7 hgrow7 hat7 hlt7
         replace HK:=hid (HK.out.s7 HSB.out hown7 hgrow7 hat7)
         replace HH:=fr_cell_at HK.out.fr hcl HNS.out c3
         refine hK.out _ _ HH (fun hq=> ?_)
         clear hq hK K HO6 HNW HZ hown7 hgrow7 hat7 hlt7
         simp only[Act.put,List.getElem_toArray,List.getElem_cons_zero,List.getElem_cons_succ,List.setIfInBounds_toArray,List.set_cons_zero,List.set_cons_succ]
         clear X
         rename World=>X
         refine wpAnyH_ready (rs:=[13]) (by kernel_rfl) (by simp) ?_
         refine AllReadyH.cons rfl (fun K hK=> ?_) AllReadyH.nil
         focus
          go_simp
          replace HK:=hid HK.out.s13
          replace HH:=(fr_cell_at HK.out.fr hcl HNS.out c3)
          refine hK.out _ _ HH (fun hq=> ?_)
          clear hq hK K
          generalize hq13:X.heap.size=q13 at*
          generalize hX:X.alloc _=Y at*
          clear hX hq13 X
          rename World=>X
        rotate_left
        focus
         go_simp
         replace HK:=hid HK.out.s13
         replace HH:=(HK.out.c3 hcl c3)
         refine hK.out _ _ HH (fun hq=> ?_)
         clear hq hK K
         generalize hq13:X.heap.size=q13 at*
         generalize hX:X.alloc _=Y at*
         clear hX hq13 X
         rename World=>X
         refine wpAnyH_ready (rs:=[7]) (by kernel_rfl) (by simp) ?_
         refine AllReadyH.cons rfl (fun K hK=> ?_) AllReadyH.nil
         focus
          rw[if_pos (by rfl)]
          have HO6:=hid (own_on HSO.out (Below.mono HK.out.be (Nat.le_refl _)))
          have HNW:=hid (World.news_of_block (HK.out.p6 _ rfl).1)
          have HZ:=hid HK.out.be.size
          refine wp_append_lies _ (.tmp 42) (.tmp 43) 25 rfl w.heap.size 3 i3 _ 1 8 Tryz.underlying25 hi3 hz3 hs3 hby3 rfl (by decide) (.slice sa y sc) y (cellsI (ints S)) rfl HO6.out ⟨q6,0,none⟩ 1 1 (cellsI [0]) rfl rfl HNW.out (one_I _) (by decide) (by unfold maxLen;omega) (by omega) (Nat.le_trans hwz HZ.out) _ rfl ?_
          intro g cap w7 hown7 hgrow7 hat7 hlt7
          replace HK:=hid (HK.out.s7 HSB.out hown7 hgrow7 hat7)
          replace HH:=fr_cell_at HK.out.fr hcl HNS.out c3
          refine hK.out _ _ HH (fun hq=> ?_)
          clear hq hK K HO6 HNW HZ hown7 hgrow7 hat7 hlt7
          simp only[Act.put,List.getElem_toArray,List.getElem_cons_zero,List.getElem_cons_succ,List.setIfInBounds_toArray,List.set_cons_zero,List.set_cons_succ]
          clear X
          rename World=>X
        rotate_left
       rotate_left 2
       focus
        go_simp
        replace HK:=hid HK.out.s13
        replace HH:=(HK.out.c3 hcl c3)
        refine hK.out _ _ HH (fun hq=> ?_)
        clear hq hK K
        generalize hq13:X.heap.size=q13 at*
        generalize hX:X.alloc _=Y at*
        clear hX hq13 X
        rename World=>X
        refine wpAnyH_ready (rs:=[5]) (by kernel_rfl) (by simp) ?_
        refine AllReadyH.cons rfl (fun K hK=> ?_) AllReadyH.nil
        focus
         have x2:=HK.out.c3 hcl c2
         go_simp
         refine hK.out _ _ HH (fun hq=> ?_)
         clear hq hK K x2
         refine wpAnyH_ready (rs:=[7]) (by kernel_rfl) (by simp) ?_
         refine AllReadyH.cons rfl (fun K hK=> ?_) AllReadyH.nil
         focus
          rw[if_pos (by rfl)]
          have HO6:=hid (own_on HSO.out (Below.mono HK.out.be (Nat.le_refl _)))
          have HNW:=hid (World.news_of_block (HK.out.p6 _ rfl).1)
          have HZ:=hid HK.out.be.size
          refine wp_append_lies _ (.tmp 42) (.tmp 43) 25 rfl w.heap.size 3 i3 _ 1 8 Tryz.underlying25 hi3 hz3 hs3 hby3 rfl (by decide) (.slice sa y sc) y (cellsI (ints S)) rfl HO6.out ⟨q6,0,none⟩ 1 1 (cellsI [0]) rfl rfl HNW.out (one_I _) (by decide) (by unfold maxLen;omega) (by omega) (Nat.le_trans hwz HZ.out) _ rfl ?_
          intro g cap w7 hown7 hgrow7 hat7 hlt7
          replace HK:=hid (HK.out.s7 HSB.out hown7 hgrow7 hat7)
          replace HH:=fr_cell_at HK.out.fr hcl HNS.out c3
          refine hK.out _ _ HH (fun hq=> ?_)
          clear hq hK K HO6 HNW HZ hown7 hgrow7 hat7 hlt7
          simp only[Act.put,List.getElem_toArray,List.getElem_cons_zero,List.getElem_cons_succ,List.setIfInBounds_toArray,List.set_cons_zero,List.set_cons_succ]
          clear X
          rename World=>X
       rotate_left
      rotate_left 3
      focus
       go_simp
       replace HK:=hid HK.out.s13
       replace HH:=(HK.out.c3 hcl c3)
       refine hK.out _ _ HH (fun hq=> ?_)
       clear hq hK K
       generalize hq13:X.heap.size=q13 at*
       generalize hX:X.alloc _=Y at*
       clear hX hq13 X
       rename World=>X
       refine wpAnyH_ready (rs:=[5,6]) (by kernel_rfl) (by simp) ?_
       refine AllReadyH.cons rfl (fun K hK=> ?_) (AllReadyH.cons rfl (fun K hK=> ?_) AllReadyH.nil)
       focus
        have x2:=HK.out.c3 hcl c2
        go_simp
        refine hK.out _ _ HH (fun hq=> ?_)
        clear hq hK K x2
        refine wpAnyH_ready (rs:=[6]) (by kernel_rfl) (by simp) ?_
        refine AllReadyH.cons rfl (fun K hK=> ?_) AllReadyH.nil
        focus
         go_simp
         replace HK:=hid HK.out.s6
         replace HH:=(HK.out.c3 hcl c3)
         refine hK.out _ _ HH (fun hq=> ?_)
         clear hq hK K
         generalize hq6:X.heap.size=q6 at*
         generalize hX:X.alloc _=Y at*
         clear hX hq6 X
         rename World=>X
         refine wpAnyH_ready (rs:=[7]) (by kernel_rfl) (by simp) ?_
         refine AllReadyH.cons rfl (fun K hK=> ?_) AllReadyH.nil
         focus
          rw[if_pos (by rfl)]
          have HO6:=hid (own_on HSO.out (Below.mono HK.out.be (Nat.le_refl _)))
          have HNW:=hid (World.news_of_block (HK.out.p6 _ rfl).1)
          have HZ:=hid HK.out.be.size
          refine wp_append_lies _ (.tmp 42) (.tmp 43) 25 rfl w.heap.size 3 i3 _ 1 8 Tryz.underlying25 hi3 hz3 hs3 hby3 rfl (by decide) (.slice sa y sc) y (cellsI (ints S)) rfl HO6.out ⟨q6,0,none⟩ 1 1 (cellsI [0]) rfl rfl HNW.out (one_I _) (by decide) (by unfold maxLen;omega) (by omega) (Nat.le_trans hwz HZ.out) _ rfl ?_
          intro g cap w7 hown7 hgrow7 hat7 hlt7
          replace HK:=hid (HK.out.s7 HSB.out hown7 hgrow7 hat7)
          replace HH:=fr_cell_at HK.out.fr hcl HNS.out c3
          refine hK.out _ _ HH (fun hq=> ?_)
          clear hq hK K HO6 HNW HZ hown7 hgrow7 hat7 hlt7
          simp only[Act.put,List.getElem_toArray,List.getElem_cons_zero,List.getElem_cons_succ,List.setIfInBounds_toArray,List.set_cons_zero,List.set_cons_succ]
          clear X
          rename World=>X
       rotate_left
       focus
        go_simp
        replace HK:=hid HK.out.s6
        replace HH:=(HK.out.c3 hcl c3)
        refine hK.out _ _ HH (fun hq=> ?_)
        clear hq hK K
        generalize hq6:X.heap.size=q6 at*
        generalize hX:X.alloc _=Y at*
        clear hX hq6 X
        rename World=>X
        refine wpAnyH_ready (rs:=[5]) (by kernel_rfl) (by simp) ?_
        refine AllReadyH.cons rfl (fun K hK=> ?_) AllReadyH.nil
        focus
         have x2:=HK.out.c3 hcl c2
         go_simp
         refine hK.out _ _ HH (fun hq=> ?_)
         clear hq hK K x2
         refine wpAnyH_ready (rs:=[7]) (by kernel_rfl) (by simp) ?_
         refine AllReadyH.cons rfl (fun K hK=> ?_) AllReadyH.nil
         focus
          rw[if_pos (by rfl)]
          have HO6:=hid (own_on HSO.out (Below.mono HK.out.be (Nat.le_refl _)))
          have HNW:=hid (World.news_of_block (HK.out.p6 _ rfl).1)
          have HZ:=hid HK.out.be.size
          refine wp_append_lies _ (.tmp 42) (.tmp 43) 25 rfl w.heap.size 3 i3 _ 1 8 Tryz.underlying25 hi3 hz3 hs3 hby3 rfl (by decide) (.slice sa y sc) y (cellsI (ints S)) rfl HO6.out ⟨q6,0,none⟩ 1 1 (cellsI [0]) rfl rfl HNW.out (one_I _) (by decide) (by unfold maxLen;omega) (by omega) (Nat.le_trans hwz HZ.out) _ rfl ?_
          intro g cap w7 hown7 hgrow7 hat7 hlt7
          replace HK:=hid (HK.out.s7 HSB.out hown7 hgrow7 hat7)
          replace HH:=fr_cell_at HK.out.fr hcl HNS.out c3
          refine hK.out _ _ HH (fun hq=> ?_)
          clear hq hK K HO6 HNW HZ hown7 hgrow7 hat7 hlt7
          simp only[Act.put,List.getElem_toArray,List.getElem_cons_zero,List.getElem_cons_succ,List.setIfInBounds_toArray,List.set_cons_zero,List.set_cons_succ]
          clear X
          rename World=>X
       rotate_left
      rotate_left 2
      all_goals
       refine wpAnyH_ready (rs:=[14]) (by kernel_rfl) (by simp) ?_
       refine AllReadyH.cons rfl (fun K hK=> ?_) AllReadyH.nil
       rw[if_pos (by rfl)]
       have HO6:=hid (own_frL HEO.out HK.out.fr HEA.out)
       have HNW:=hid (World.news_of_block (HK.out.p13 _ rfl).1)
       have HZ:=hid HK.out.fr.size
       refine wp_append_lies _ (.tmp 48) (.tmp 50) 25 rfl w.heap.size 3 i3 _ 1 8 Tryz.underlying25 hi3 hz3 hs3 hby3 rfl (by decide) (.slice ea y ec) y (cellsI Le) rfl HO6.out ⟨q13,0,none⟩ 1 1 (cellsI [(j:Int)]) rfl rfl HNW.out (one_I _) (by decide) (by unfold maxLen;omega) (by omega) (Nat.le_trans hwz HZ.out) _ rfl ?_
       intro g' cap' w7 hown7 hgrow7 hat7 hlt7
       replace HK:=hid (HK.out.s14 HEB.out HSE.out hown7 hgrow7 hat7)
       replace HH:=fr_cell_at HK.out.fr hcl HNE.out c3
       refine hK.out _ _ HH (fun hq=> ?_)
       clear hq hK K HO6 HNW HZ hown7 hgrow7 hat7 hlt7
       simp only[Act.put,List.getElem_toArray,List.getElem_cons_zero,List.getElem_cons_succ,List.setIfInBounds_toArray,List.set_cons_zero,List.set_cons_succ]
       clear X
       rename World=>X
       refine wpAnyH_take (i:=15) (v:= ?_) rfl (by kernel_rfl) (by decide+kernel) (by decide+kernel) (fun _ _ _ h=>h) (Or.inl ⟨by rfl,?_⟩) HH ?_
       rotate_left
       ·intro w hSw
        (try dsimp only at hSw)
        go_simp
        (try with_reducible rfl)
       simp only[Act.put,List.getElem_toArray,List.getElem_cons_zero,List.getElem_cons_succ,List.setIfInBounds_toArray,List.set_cons_zero,List.set_cons_succ]
       refine wpAnyH_take (i:=16) (v:= ?_) rfl (by kernel_rfl) (by decide+kernel) (by decide+kernel) (fun _ _ _ h=>h) (Or.inl ⟨by rfl,?_⟩) HH ?_
       rotate_left
       ·intro w hSw
        (try dsimp only at hSw)
        go_simp
        (try with_reducible rfl)
       simp only[Act.put,List.getElem_toArray,List.getElem_cons_zero,List.getElem_cons_succ,List.setIfInBounds_toArray,List.set_cons_zero,List.set_cons_succ]
       refine wpAnyH_ready (rs:=[17]) (by kernel_rfl) (by simp) ?_
       refine AllReadyH.cons rfl (fun K hK=> ?_) AllReadyH.nil
       have q2:=(cells0_free (HK.out.ob HOB.out HNE.out) 2)
       have x2:=fr_cell_at HK.out.fr hcl HNE.out c2
       go_simp
       have HH2:(X.setCell ⟨cb,2,none⟩ (.slice (some ⟨g,0,none⟩) (y+1) cap)).cell? ⟨cb,3,none⟩=some (.slice ea y ec):=by
        exact(World.cell?_setCell_other X ⟨cb,2,none⟩ ⟨cb,3,none⟩ _ (by simp)).trans HH
       refine hK.out _ _ HH2 (fun hq=> ?_)
       clear hq hK K
       refine wpAnyH_take (i:=18) (v:= ?_) rfl (by kernel_rfl) (by decide+kernel) (by decide+kernel) (fun _ _ _ h=>h) (Or.inl ⟨by rfl,?_⟩) HH2 ?_
       rotate_left
       ·intro w hSw
        (try dsimp only at hSw)
        go_simp
        (try with_reducible rfl)
       simp only[Act.put,List.getElem_toArray,List.getElem_cons_zero,List.getElem_cons_succ,List.setIfInBounds_toArray,List.set_cons_zero,List.set_cons_succ]
       refine wpAnyH_take (i:=19) (v:= ?_) rfl (by kernel_rfl) (by decide+kernel) (by decide+kernel) (fun _ _ _ h=>h) (Or.inl ⟨by rfl,?_⟩) HH2 ?_
       rotate_left
       ·intro w hSw
        (try dsimp only at hSw)
        go_simp
        (try with_reducible rfl)
       simp only[Act.put,List.getElem_toArray,List.getElem_cons_zero,List.getElem_cons_succ,List.setIfInBounds_toArray,List.set_cons_zero,List.set_cons_succ]
       refine wpAnyH_take (i:=20) (v:= ?_) rfl (by kernel_rfl) (by decide+kernel) (by decide+kernel) (fun _ _ _ h=>h) (Or.inl ⟨by rfl,?_⟩) HH2 ?_
       rotate_left
       ·intro w hSw
        (try dsimp only at hSw)
        go_simp
        (try with_reducible rfl)
       simp only[Act.put]
       refine wpAnyH_done (by kernel_rfl) ?_ _
       simp only[lastQ]
       have q3:=cells0_free2 (HK.out.ob HOB.out HNE.out) (.slice (some ⟨g,0,none⟩) (y+1) cap)
       go_simp
       go_wp2_with fail
       go_meet
       case rel=>exact⟨rfl,_,_,_,_,_,_,Nat.lt_succ_self _,HSN.out,HC.out.app HKK.out HLL.out HK.out,HLM⟩
     ·have hyk:y<kk:=by omega
      have hyb:((y:Int)==(kk:Int))=false:=by simp;omega
      have hyc: ¬(y:Int)=kk:=by omega
      obtain⟨g,sc',hsv',_,_⟩:=World.ownsRow.form (by have q:=HC.out.s;rw[HKK.out] at q;exact q) (by omega:0<kk)
      injection hsv' with e1 e2 e3
      subst e1
      subst e3
      have HLM:Hid (LP L n (j+1) (S.set y (S.getD y 0+1)) Le):=HLP.out.again (by omega) HYD.out (by rw[HKK.out];exact hyk)
      go_wp2_with fail
      go_meet
      case rel=>exact⟨rfl,_,_,_,_,_,_,hyk,HKK,HC,HLM⟩
    case rest=>
     obtain⟨rfl,g,c,k1,ev1,S1,Le1,hyk,HK1,HC4,HLN⟩:=hcut
     clear HC HLP c2 c3 y0
     have hyk':(y:Int)<k1:=by omega
     have HS4:=hid HC4.out.s
     rw[HK1.out] at HS4
     obtain⟨sy,HSY⟩:=named (S1.getD y 0)
     have hsy:sy≤1024:=by
      have h1:=szL_le ((ints L).take (j+1)) y
      rw[HLN.out.s,getD_setN' (by rw[HK1.out];exact hyk),if_pos rfl,HSY.out] at h1
      have h2:((ints L).take (j+1)).length≤n:=by rw[List.length_take,ints_len];omega
      omega
     have d2:=World.ownsRow.cellAt HS4.out y (by omega)
     rw[cellsI_getD (ints S1) y (by rw[ints_len,HK1.out];exact hyk),getD_ints,HSY.out] at d2
     have c2:wc.cell? ⟨cb,2,none⟩=some (.slice (some ⟨g,0,none⟩) k1 c):=by simp[World.cell?,HC4.out.ob,cells0]
     have f2:=World.ownsRow.frozenAt HS4.out y
     have hw1:IntKind.i64.wrap ((sy:Int)+1)=((sy+1:Nat):Int):=by rw[IntKind.wrap_i64];omega
     have HC5:=hid (HC4.out.inc HK1.out y (sy+1))
     go_upto_region 9 with fail
     rw[HSY.out] at HLN
     generalize hW5:wc.setCell ⟨g,y,none⟩ (.int .i64 ((sy:Int)+1))=W5 at*
     replace HC5:Hid (C1 w W5 cb n lg lc bg pg fg xs j (.slice (some ⟨g,0,none⟩) k1 c) ev1 (S1.set y (sy+1)) Le1 mb):=by rw[←hW5];exact HC5
     clear hW5 c2 d2 f2 hw1 HC4 HS4
     have HC6:=hid HC5.out.made
     have hbel6:=al_below W5 (.map #[] 0)
     have c5:(W5.alloc (.map #[] 0)).cell? ⟨cb,5,none⟩=some (.slice (some ⟨pg,0,none⟩) n n):=(hbel6.cell (p:=⟨cb,5,none⟩) (lt_of_block HC5.out.ob)).trans (by simp[World.cell?,HC5.out.ob,cells0])
     have c5':W5.cell? ⟨cb,5,none⟩=some (.slice (some ⟨pg,0,none⟩) n n):=by simp[World.cell?,HC5.out.ob,cells0]
     have d5:=(hbel6.cell (p:=⟨pg,j,none⟩) HC5.out.pa.lt).trans (HC5.out.pa.cell hlk)
     rw[if_neg (Nat.lt_irrefl j)] at d5
     have f5:=TbV.free (TbV.same HC5.out.pa (hbel6.block pg HC5.out.pa.lt)) j
     have hmm:= @run_makeMap Tryz.prog
     clear hbel6
     go_wp2_with fail
     exact⟨⟨j+1,_,_,_,_,_,hlk,by simp,HC6,HLN⟩,by simp[intOf];omega⟩
   ·have hlk': ¬(j:Int)<n:=by omega
    obtain rfl:j=n:=by omega
    have hkj:=HLP.out.lv 0 hn0
    have hk2:=HLP.out.lj
    have hll:=HLP.out.ll
    obtain⟨k,HKK⟩:=named S.length
    rw[HKK.out] at hkj hk2 hll
    have hk0:0<k:=by omega
    obtain⟨sg,sc,hsv,_,_⟩:=World.ownsRow.form HC.out.s (by rw[HKK.out];exact hk0)
    obtain⟨eg,ec,hev,_,_⟩:=World.ownsRow.form HC.out.e (by rw[hll];exact hk0)
    rw[HKK.out] at hsv
    rw[hll] at hev
    subst hsv
    subst hev
    have hC1:=HC.out
    rw[hL] at hC1
    have HQ:=hid (hC1.two HKK.out hll)
    have hse:sg≠eg:=fun e=>by
     rcases hC1.se with q | q
     ·cases q
     ·exact q (by rw[e];rfl)
    have hls:lg≠sg:=fun e=>hC1.sl (by rw[e];rfl)
    have hle:lg≠eg:=fun e=>hC1.el (by rw[e];rfl)
    clear hC1 HC
    go_wp2_with fail
    clear hlk'
    go_loopw [75] (fun i wr=> ∃ (t:Nat) (nn:Nat→Nat) (rv:Nat→Value),t≤P.length∧i= .int .i64 (t:Int)∧Hid (CQ w wr cb j k lg lc sg sc eg ec bg pg fg mb nn rv (besd (P.take t)) (cv (P.take t) L) L S Le (2*t))) (fun i _=>P.length - (intOf i).toNat)
    case atStart=>exact⟨0,_,_,Nat.zero_le _,rfl,HQ⟩
    case round=>
     clear HQ
     obtain⟨t,nn,rv,ht,rfl,HQ⟩:=hrel
     by_cases hlt:t<P.length
     ·have hlt':(t:Int)<P.length:=by omega
      obtain⟨pb,po,rfl,hpb,hpc⟩: ∃b o,pa=some ⟨b,o,none⟩∧b<w.heap.size∧∀i,i<P.length→(P.getD i Pr.zero).at w b (o+i*2):=by
       rcases HPP.out with q | q
       ·rw[q] at hlt;exact absurd hlt (Nat.not_lt_zero _)
       ·exact q
      have hpt:=hpc t hlt
      have hpm:=getD_memP hlt
      have HPB:=hid (HPN.out _ hpm)
      have HPE:=hid (HPD.out _ hpm)
      have HTK:Hid (P.take (t+1)=P.take t++[P.getD t Pr.zero]):=by
       show P.take (t+1)=P.take t++[P.getD t Pr.zero]
       rw[List.take_succ_eq_append_getElem hlt]
       simp[List.getD,hlt]
      obtain⟨p,HPT⟩:=named (P.getD t Pr.zero)
      rw[HPT.out] at hpt HPB HPE HTK
      have z0:=(HQ.out.bel.cell (p:=⟨pb,po+t*2,none⟩) hpb).trans hpt.1
      have z1:=(HQ.out.bel.cell (p:=⟨pb,po+t*2+1,none⟩) hpb).trans hpt.2
      have hrt: ∀v,(besd (P.take t) v).length≤8191:=fun v=>by have:=besd_len (P.take t) v;rw[List.length_take] at this;omega
      have hbA:=al_below wr (.cells #[.int .i64 (p.a:Int), .int .i64 (p.b:Int)] 119)
      have HGA:=hid (heap_top wr (.cells #[.int .i64 (p.a:Int), .int .i64 (p.b:Int)] 119))
      have HQA:=hid (HQ.out.on hbA)
      have HCA:=hid (HQA.out.count hLn (by omega) (by omega) (fun v=>Nat.le_trans (hrt v) (by omega)) HPB.out.1 HPB.out.2 (by rw[←HKK.out];exact HLP.out.lv p.b HPB.out.2))
      have HNA:Hid (¬CnD bg (mb p.a) (rv p.a).ownBlock wr.heap.size):=fun hd=>by
       rcases hd with q | q | q
       ·have:=(HQ.out.rl p.a HPB.out.1 _ q).2;omega
       ·have:=HQ.out.X.be.lt;omega
       ·have:=(HQ.out.X.mi p.a HPB.out.1).lt;omega
      have hGl:wr.heap.size<(wr.alloc (.cells #[.int .i64 (p.a:Int), .int .i64 (p.b:Int)] 119)).heap.size:=lt_of_block HGA.out
      have y0:=(two_cells HGA.out).1.1
      have y1:=(two_cells HGA.out).1.2
      have HRT:=hid hrt
      clear hpt hpc hpm hrt hbA
      go_wp2_with fail
      refine HCA.out.mono ?_
      rintro e w2 ⟨rfl,nn2,rv2,hq2,hf2⟩
      have HG2:=hid ((hf2.block wr.heap.size hGl HNA.out).trans HGA.out)
      have HQ2:=hid hq2
      have x0:=(two_cells HG2.out).1.1
      have x1:=(two_cells HG2.out).1.2
      have HCB:=hid (HQ2.out.count hLn (by omega) (by omega) (fun v=>by
       by_cases c:v=p.a
       ·rw[c,setAt_same,List.length_append]
        have:=HRT.out p.a
        simp
        omega
       ·rw[setAt_ne _ _ c]
        have:=HRT.out v
        omega) HPB.out.2 HPB.out.1 (by rw[←HKK.out];exact HLP.out.lv p.a HPB.out.1))
      clear hq2 hf2 y0 y1 z0 z1
      go_wp2_with fail
      refine HCB.out.mono ?_
      rintro e w3 ⟨rfl,nn3,rv3,hq3,hf3⟩
      rw[besd_two HPE.out,cv_two HPE.out,←HTK.out] at hq3
      have HQ3:=hid hq3
      clear hq3 hf3 x0 x1
      go_wp2_with fail
      exact⟨⟨t+1,_,_,hlt,by simp,HQ3⟩,by simp[intOf];omega⟩
     ·have hlt': ¬(t:Int)<P.length:=by omega
      obtain rfl:t=P.length:=by omega
      have HTA:Hid (P.take P.length=P):=List.take_length
      rw[HTA.out] at HQ
      go_wp2_with fail
      go_ret
      exact⟨cb,rfl,k,lg,lc,sg,sc,eg,ec,bg,pg,fg,mb,nn,rv,S,Le,HQ.out,HLP.out,HKK.out,hls,hle,hse⟩
end Go.Proofs.YtmenajiceaicpaaGreat
