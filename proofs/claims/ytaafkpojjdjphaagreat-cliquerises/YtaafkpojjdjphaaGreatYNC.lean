import Derived.Test.YtaafkpojjdjphaaGreatYNB
namespace Go.Proofs.YtaafkpojjdjphaaGreat.N5.Hp
open Go.RowKit
theorem nearer_is(a b:M)(t:Bool)(ht:ahead a b=t)(w:World):
  Calls Tryz.prog 213 #[.agg #[.int .i64 a.id, .int .u64 a.key], .agg #[.int .i64 b.id, .int .u64 b.key]] w fun e w'=>e= .returned (.bool t)∧Below w.heap.size w w':=ht▸nearer_any a b w
set_option maxRecDepth 100000 in
set_option maxHeartbeats 1600000 in
theorem up_any{w:World}{h p:Nat}{v:Value}{n:Nat}{ms:List M}{pl:List Int}(r:Rep w h p v n ms pl)(T:Nat→Option Int)(k:Nat)(m:M)(hl:ms.length≤16384)(g:PG n ms pl T k m)(o3:O3 ms k m):
  Calls Tryz.prog 228 #[.pointer (some ⟨h,0,none⟩), .int .i64 k, .agg #[.int .i64 m.id, .int .u64 m.key]] w fun e w'=> ∃ (k':Nat) (ms':List M) (pl':List Int),e= .returned (.int .i64 k')∧Rep w' h p v n ms' pl'∧PG n ms' pl' T k' m∧O3 ms' k' m∧(k'=0∨le (gm ms' ((k' - 1) / 2)) m)∧ms'.length=ms.length∧Fr (Dof h p v) w w':=by
 have hkl:=g.kl
 obtain⟨N,HN⟩:=named ms.length
 rw[HN.out] at hkl hl ⊢
 obtain⟨b,c,hv,hc1,hg1,hc2⟩:=own_shape r.own (by have:=HN.out;omega)
 rw[HN.out] at hv hc1
 subst hv
 have r0:=r.alloc (.cells #[.int .i64 m.id, .int .u64 m.key] 285)
 have t0:=heap_top w (.cells #[.int .i64 m.id, .int .u64 m.key] 285)
 have fr0:=(Fr.refl (Dof h p (.slice (some ⟨b,0,none⟩) N c)) w).alloc (.cells #[.int .i64 m.id, .int .u64 m.key] 285)
 go_enter Tryz.func228,Tryz.ntmps228
 go_wp2_with fail
 go_loopw [1] (fun i wr=> ∃ (k:Nat) (ms':List M) (pl':List Int),i= .int .i64 k∧Rep wr h p (.slice (some ⟨b,0,none⟩) N c) n ms' pl'∧PG n ms' pl' T k m∧O3 ms' k m∧Hid (ms'.length=N)∧wr.heap[w.heap.size]? =some (.cells #[.int .i64 m.id, .int .u64 m.key] 285)∧Fr (Dof h p (.slice (some ⟨b,0,none⟩) N c)) w wr) (fun i _=>(intOf i).toNat)
 case atStart=>exact⟨k,ms,pl,rfl,r0,g,o3,HN,t0,fr0⟩
 case round=>
  obtain⟨k,ms',pl',rfl,r',g',o3',HL,tb,fr⟩:=hrel
  have hkl':=g'.kl
  rw[HL.out] at hkl'
  by_cases h0:0<k
  ·have h0':(0:Int)<k:=by omega
   obtain⟨⟨c0,c1,c2⟩,f0,f1,f2⟩:=cells3 r'.hd
   obtain⟨⟨b0,b1⟩,_,_⟩:=cells2 tb
   have ha2:(k - 1) / 2<N:=by omega
   have r'':=r'
   rw[←HL.out] at r''
   obtain⟨⟨d0,d1⟩,e0,e1⟩:=r''.member ((k - 1) / 2) (by rw[HL.out];exact ha2)
   clear r''
   have hdiv:((k:Int) - 1) / 2=(((k - 1) / 2:Nat):Int):=by omega
   have s0:=lt_of_block r'.hd
   have s1:=lt_of_block tb
   have s2:b<wr.heap.size:=r'.lt b (Or.inr (Or.inr rfl))
   have HUP:=Lib.hid (g'.up o3' h0)
   have HLE:=Lib.hid (fun(hh:ahead m (gm ms' ((k - 1) / 2))=false)=>le_f hh)
   have hAm:=(g'.mem ((k - 1) / 2) (by rw[HL.out];exact ha2) (by omega)).1
   have HA2:Hid ((k - 1) / 2<k):=by show _<_;omega
   generalize hA:(k - 1) / 2=A at*
   obtain⟨X,HX⟩:=named (gm ms' A)
   rw[HX.out] at d0 d1 HUP HLE hAm
   obtain⟨t,HT⟩:=named (ahead m X)
   have HTO:=HT.out
   rw[HTO] at HUP HLE
   have HTT:=Lib.hid HTO
   clear HTO
   have hA':=Lib.hid hA
   clear hA
   cases t with
   | true=>
     have HP:=Lib.hid (HUP.out rfl)
     clear HUP HLE r0 t0 fr0
     go_wp2_with fail
     go_region_held3 (fun w'=>w'.cell? ⟨h,0,none⟩=some (.slice (some ⟨b,0,none⟩) N c)∧w'.cell? ⟨h,2,none⟩=some (.func (.func 213) #[] #[])∧w'.cell? ⟨w.heap.size,0,none⟩=some (.int .i64 m.id)∧w'.cell? ⟨w.heap.size,1,none⟩=some (.int .u64 m.key)∧w'.cell? ⟨b,A*2,none⟩=some (.int .i64 X.id)∧w'.cell? ⟨b,A*2+1,none⟩=some (.int .u64 X.key)) (go_keep) ((refine(nearer_is m X true HTT.out _).mono ?_;rintro e w2 ⟨rfl,hb2⟩;have k0:=(hb2.cell (p:=⟨h,0,none⟩) s0).trans c0;have k2:=(hb2.cell (p:=⟨h,2,none⟩) s0).trans c2;have k3:=(hb2.cell (p:=⟨w.heap.size,0,none⟩) s1).trans b0;have k4:=(hb2.cell (p:=⟨w.heap.size,1,none⟩) s1).trans b1;have k5:=(hb2.cell (p:=⟨b,A*2,none⟩) s2).trans d0;have k6:=(hb2.cell (p:=⟨b,A*2+1,none⟩) s2).trans d1))
     have r2:Rep w2 h p (.slice (some ⟨b,0,none⟩) N c) n ms' pl':=r'.drew.on hb2
     have tb2:=(hb2.block _ s1).trans tb
     have fr2:Fr (Dof h p (.slice (some ⟨b,0,none⟩) N c)) w w2:=fr.drew.then (Fr.of hb2)
     clear hb2 r' tb fr c0 c1 c2 f0 f1 f2 b0 b1 d0 d1 e0 e1
     go_wp2_with fail
     refine(put_any r2 k (by rw[HL.out];exact hkl') X hAm (by rw[HL.out];exact hl)).mono ?_
     rintro e w3 ⟨rfl,r3,fr3⟩
     go_wp2_with fail
     have h9:=HA2.out
     exact⟨⟨A,ms'.set k X,pl'.set X.id (k+1),rfl,r3,HP.out.1,HP.out.2,by show _=_;rw[List.length_set];exact HL.out,((fr3.block _ (lt_of_block tb2) (fun hd=>by have:=r.lt _ hd;omega)).trans tb2),fr2.then fr3⟩,by simp[intOf];omega⟩
   | false=>
     have HP:=Lib.hid (HLE.out rfl)
     clear HUP HLE r0 t0 fr0
     go_wp2_with fail
     go_region_held3 (fun w'=>w'.cell? ⟨h,0,none⟩=some (.slice (some ⟨b,0,none⟩) N c)∧w'.cell? ⟨h,2,none⟩=some (.func (.func 213) #[] #[])∧w'.cell? ⟨w.heap.size,0,none⟩=some (.int .i64 m.id)∧w'.cell? ⟨w.heap.size,1,none⟩=some (.int .u64 m.key)∧w'.cell? ⟨b,A*2,none⟩=some (.int .i64 X.id)∧w'.cell? ⟨b,A*2+1,none⟩=some (.int .u64 X.key)) (go_keep) ((refine(nearer_is m X false HTT.out _).mono ?_;rintro e w2 ⟨rfl,hb2⟩;have k0:=(hb2.cell (p:=⟨h,0,none⟩) s0).trans c0;have k2:=(hb2.cell (p:=⟨h,2,none⟩) s0).trans c2;have k3:=(hb2.cell (p:=⟨w.heap.size,0,none⟩) s1).trans b0;have k4:=(hb2.cell (p:=⟨w.heap.size,1,none⟩) s1).trans b1;have k5:=(hb2.cell (p:=⟨b,A*2,none⟩) s2).trans d0;have k6:=(hb2.cell (p:=⟨b,A*2+1,none⟩) s2).trans d1))
     have r2:Rep w2 h p (.slice (some ⟨b,0,none⟩) N c) n ms' pl':=r'.drew.on hb2
     have fr2:Fr (Dof h p (.slice (some ⟨b,0,none⟩) N c)) w w2:=fr.drew.then (Fr.of hb2)
     clear hb2 r' tb fr c0 c1 c2 f0 f1 f2 b0 b1 d0 d1 e0 e1
     go_wp2_with fail
     go_ret
     exact⟨k,ms',pl',rfl,r2,g',o3',Or.inr (by rw[hA'.out,HX.out];exact HP.out),HL.out,fr2⟩
  ·go_wp2_with fail
   go_ret
   exact⟨k,ms',pl',rfl,r',g',o3',Or.inl (by omega),HL.out,fr⟩
end Go.Proofs.YtaafkpojjdjphaaGreat.N5.Hp
