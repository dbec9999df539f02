import Derived.Test.YtaafkpojjdjphaaGreatYNF
set_option maxRecDepth 100000
namespace Go.Proofs.YtaafkpojjdjphaaGreat.N5.Hp
open Go.RowKit
set_option maxHeartbeats 1600000 in
theorem lower_old{w:World}{h p:Nat}{v:Value}{n:Nat}{ms:List M}{pl:List Int}{T:Nat→Option Int}(r:Rep w h p v n ms pl)(f:WF n ms pl T)(x:Nat)(hx:x<n)(key k0:Int)(h0:T x=some k0):
  Calls Tryz.prog 226 #[.pointer (some ⟨h,0,none⟩), .agg #[.int .i64 x, .int .u64 key]] w fun e w'=>e= .returned (.bool (decide (key<k0)))∧After w w' h p v n (if key<k0 then upd T x (some key) else T):=by
 obtain⟨i,hi,hpi,hid,hki⟩: ∃i,i<ms.length∧pl.getD x 0=(i:Int)+1∧(gm ms i).id=x∧(gm ms i).key=k0:=by
  rcases f.find hx with ⟨_,b⟩ | ⟨i,a,b,c,d⟩
  ·rw[h0] at b;cases b
  ·rw[h0] at d;exact⟨i,a,b,c,(Option.some.inj d).symm⟩
 have hgm:gm ms i=⟨x,k0⟩:=by cases hg:gm ms i;rw[hg] at hid hki;simp at hid hki;rw[hid,hki]
 have hnb:=r.nb
 have hln:=f.len
 obtain⟨N,HN⟩:=named ms.length
 have HLOW:=Lib.hid (fun hh=>f.lower (key:=key) hi hh)
 rw[hgm] at HLOW
 rw[HN.out] at hi hln
 have HAK:=Lib.hid (ahead_key (x:=x) (a:=key) (b:=k0))
 have r0:=r.alloc (.cells #[.int .i64 x, .int .u64 key] 285)
 have t0:=heap_top w (.cells #[.int .i64 x, .int .u64 key] 285)
 have HF:=Lib.hid (find_any r0 x hx (i+1) (by rw[hpi];omega) (by omega))
 have fr0:=(Fr.refl (Dof h p v) w).alloc (.cells #[.int .i64 x, .int .u64 key] 285)
 clear hpi hid hki
 have HLEN:Hid (ms.length≤16384):=by show _≤_;have:=HN.out;omega
 have HRL:=Lib.hid r.lt
 obtain⟨b,c,hv,hc1,hg1,hc2⟩:=own_shape r0.own (by have:=HN.out;omega)
 rw[HN.out] at hv hc1
 subst hv
 have hgs:b<w.heap.size:=HRL.out b (Or.inr (Or.inr rfl))
 have s0:=lt_of_block r0.hd
 have s1:=lt_of_block t0
 obtain⟨⟨c0,c1,c2⟩,f0,f1,f2⟩:=cells3 r0.hd
 obtain⟨⟨b0,b1⟩,_,_⟩:=cells2 t0
 have r'':=r0
 rw[←HN.out] at r''
 obtain⟨⟨d0,d1⟩,_,_⟩:=r''.member i (by have:=HN.out;omega)
 rw[hgm] at d0 d1
 clear r'' hgm
 generalize hW:w.alloc (.cells #[.int .i64 x, .int .u64 key] 285)=W at*
 have HW:=Lib.hid hW
 clear hW
 have hsub:((i:Int)+1) - 1=i:=by omega
 have hdec:decide (0<i+1)=true:=by simp
 by_cases hkk:key<k0
 ·rw[show decide (key<k0)=true by simpa using hkk,if_pos hkk]
  have HT:Hid (ahead ⟨x,key⟩ ⟨x,k0⟩=true):=by show _=_;rw[HAK.out];simpa using hkk
  have HUP:=Lib.hid (HLOW.out HT.out)
  clear HLOW HAK hkk
  go_enter Tryz.func226,Tryz.ntmps226
  go_wp2_with fail
  rw[HW.out]
  refine HF.out.mono ?_
  rintro e w1 ⟨rfl,rfl⟩
  rw[hdec]
  clear HF HW
  go_wp2_with fail
  go_region_held3 (fun w'=>w'.cell? ⟨h,0,none⟩=some (.slice (some ⟨b,0,none⟩) N c)∧w'.cell? ⟨h,2,none⟩=some (.func (.func 213) #[] #[])∧w'.cell? ⟨w.heap.size,0,none⟩=some (.int .i64 x)∧w'.cell? ⟨w.heap.size,1,none⟩=some (.int .u64 key)∧w'.cell? ⟨b,i*2,none⟩=some (.int .i64 x)∧w'.cell? ⟨b,i*2+1,none⟩=some (.int .u64 k0)) (go_keep) ((refine(nearer_is ⟨x,key⟩ ⟨x,k0⟩ true HT.out _).mono ?_;rintro e w2 ⟨rfl,hb2⟩;have k0:=(hb2.cell (p:=⟨h,0,none⟩) s0).trans c0;have k2:=(hb2.cell (p:=⟨h,2,none⟩) s0).trans c2;have k3:=(hb2.cell (p:=⟨w.heap.size,0,none⟩) s1).trans b0;have k4:=(hb2.cell (p:=⟨w.heap.size,1,none⟩) s1).trans b1;have k5:=(hb2.cell (p:=⟨b,i*2,none⟩) hg1).trans d0;have k6:=(hb2.cell (p:=⟨b,i*2+1,none⟩) hg1).trans d1))
  have r2:=r0.drew.on hb2
  have t2:=(hb2.block _ s1).trans t0
  have fr2:=fr0.drew.then (Fr.of hb2)
  have sx:w.heap.size<w2.drew.heap.size:=lt_of_block t2
  clear hb2 r0 t0 fr0 c0 c1 c2 f0 f1 f2 b0 b1 d0 d1 s0 s1
  have r5:=r2.drew
  have fr6:=fr2.drew
  obtain⟨⟨b0,b1⟩,_,_⟩:=cells2 t2
  have HB0:Hid (w2.drew.cell? ⟨w.heap.size,0,none⟩=some (.int .i64 x)):=b0
  have HB1:Hid (w2.drew.cell? ⟨w.heap.size,1,none⟩=some (.int .u64 key)):=b1
  have HBX:Hid (¬Dof h p (.slice (some ⟨b,0,none⟩) N c) w.heap.size):=fun hk=>by have:=HRL.out _ hk;omega
  clear r2 fr2 t2
  go_wp2_with fail
  go_region_held3 (fun w'=>w'.cell? ⟨w.heap.size,0,none⟩=some (.int .i64 x)∧w'.cell? ⟨w.heap.size,1,none⟩=some (.int .u64 key)) (go_keep) (first | (go_at_call 228;refine(up_any r5 _ i ⟨x,key⟩ HLEN.out HUP.out.1 HUP.out.2).mono ?_;rintro e w5 ⟨k6,ms6,pl6,rfl,r6,g6,o6,hk6,hl6,fr7⟩;have y0:=fr7.cell HB0.out HBX.out;have y1:=fr7.cell HB1.out HBX.out) | (go_at_call 227;refine(put_any r6 k6 g6.kl ⟨x,key⟩ hx (by rw[hl6];exact HLEN.out)).mono ?_;rintro e w6 ⟨rfl,r7,fr8⟩;have z0:=fr8.cell y0 HBX.out;have z1:=fr8.cell y1 HBX.out))
  have wf7:=g6.fill o6 hk6
  have fr9:=fr6.then (fr7.then fr8)
  clear r5 r6 g6 o6 fr7 fr8 y0 y1 z0 z1 b0 b1
  go_wp2_with fail
  go_ret
  exact⟨rfl,_,_,_,r7,wf7,fun k hk=>Or.inl hk,fr9⟩
 ·rw[show decide (key<k0)=false by simpa using hkk,if_neg hkk]
  have HT:Hid (ahead ⟨x,key⟩ ⟨x,k0⟩=false):=by show _=_;rw[HAK.out];simpa using hkk
  clear HLOW HAK hkk
  go_enter Tryz.func226,Tryz.ntmps226
  go_wp2_with fail
  rw[HW.out]
  refine HF.out.mono ?_
  rintro e w1 ⟨rfl,rfl⟩
  rw[hdec]
  clear HF HW
  go_wp2_with fail
  go_region_held3 (fun w'=>w'.cell? ⟨h,0,none⟩=some (.slice (some ⟨b,0,none⟩) N c)∧w'.cell? ⟨h,2,none⟩=some (.func (.func 213) #[] #[])∧w'.cell? ⟨w.heap.size,0,none⟩=some (.int .i64 x)∧w'.cell? ⟨w.heap.size,1,none⟩=some (.int .u64 key)∧w'.cell? ⟨b,i*2,none⟩=some (.int .i64 x)∧w'.cell? ⟨b,i*2+1,none⟩=some (.int .u64 k0)) (go_keep) ((refine(nearer_is ⟨x,key⟩ ⟨x,k0⟩ false HT.out _).mono ?_;rintro e w2 ⟨rfl,hb2⟩;have k0:=(hb2.cell (p:=⟨h,0,none⟩) s0).trans c0;have k2:=(hb2.cell (p:=⟨h,2,none⟩) s0).trans c2;have k3:=(hb2.cell (p:=⟨w.heap.size,0,none⟩) s1).trans b0;have k4:=(hb2.cell (p:=⟨w.heap.size,1,none⟩) s1).trans b1;have k5:=(hb2.cell (p:=⟨b,i*2,none⟩) hg1).trans d0;have k6:=(hb2.cell (p:=⟨b,i*2+1,none⟩) hg1).trans d1))
  have r2:=r0.drew.on hb2
  have t2:=(hb2.block _ s1).trans t0
  have fr2:=fr0.drew.then (Fr.of hb2)
  clear hb2 r0 t0 fr0 c0 c1 c2 f0 f1 f2 b0 b1 d0 d1 s0 s1
  go_wp2_with fail
  go_ret
  exact⟨rfl,_,_,_,r2,f,fun k hk=>Or.inl hk,fr2⟩
theorem lower_any{w:World}{h p:Nat}{v:Value}{n:Nat}{ms:List M}{pl:List Int}{T:Nat→Option Int}(r:Rep w h p v n ms pl)(f:WF n ms pl T)(x:Nat)(hx:x<n)(key:Int):
  Calls Tryz.prog 226 #[.pointer (some ⟨h,0,none⟩), .agg #[.int .i64 x, .int .u64 key]] w fun e w'=>e= .returned (.bool (low T x key))∧After w w' h p v n (lowT T x key):=by
 cases h0:T x with
 | none=>
   rw[show lowT T x key=upd T x (some key) by simp[lowT,low,h0],show low T x key=true by simp[low,h0]]
   exact lower_new r f x hx key h0
 | some k0=>
   rw[show lowT T x key=(if key<k0 then upd T x (some key) else T) by simp[lowT,low,h0],show low T x key=decide (key<k0) by simp[low,h0]]
   exact lower_old r f x hx key k0 h0
def HR(w:World)(h n:Nat)(T:Nat→Option Int)(D:Nat→Prop):Prop:= ∃p v ms pl,Rep w h p v n ms pl∧WF n ms pl T∧D=Dof h p v
def HRto(w w':World)(h n:Nat)(T':Nat→Option Int)(D:Nat→Prop):Prop:= ∃D',HR w' h n T' D'∧(∀k,D' k→D k∨w.heap.size≤k)∧Fr D w w'
theorem After.to{w w':World}{h p:Nat}{v:Value}{n:Nat}{T':Nat→Option Int}(a:After w w' h p v n T'):HRto w w' h n T' (Dof h p v):=by
 obtain⟨v',ms',pl',r,f,hd,fr⟩:=a
 exact⟨Dof h p v',⟨p,v',ms',pl',r,f,rfl⟩,hd,fr⟩
theorem HR.lt{w:World}{h n:Nat}{T:Nat→Option Int}{D:Nat→Prop}(r:HR w h n T D): ∀k,D k→k<w.heap.size:=by
 obtain⟨p,v,ms,pl,r,_,rfl⟩:=r
 exact r.lt
theorem HR.on{w w':World}{h n:Nat}{T:Nat→Option Int}{D:Nat→Prop}(r:HR w h n T D)(hb:Below w.heap.size w w'):HR w' h n T D:=by
 obtain⟨p,v,ms,pl,r,f,rfl⟩:=r
 exact⟨p,v,ms,pl,r.on hb,f,rfl⟩
theorem HR.same{w w':World}{h n:Nat}{T:Nat→Option Int}{D:Nat→Prop}(r:HR w h n T D)(hs: ∀k,D k→w'.heap[k]? =w.heap[k]?):HR w' h n T D:=by
 obtain⟨p,v,ms,pl,r,f,rfl⟩:=r
 exact⟨p,v,ms,pl,r.same hs,f,rfl⟩
theorem HR.fr{w w':World}{h n:Nat}{T:Nat→Option Int}{D D':Nat→Prop}(r:HR w h n T D)(f:Fr D' w w')(hd: ∀k,D k→¬D' k):HR w' h n T D:=
 r.same (fun k hk=>f.block k (r.lt k hk) (hd k hk))
theorem HR.to{w w':World}{h n:Nat}{T:Nat→Option Int}{D:Nat→Prop}(r:HR w h n T D)(hb:Below w.heap.size w w'):HRto w w' h n T D:=
 ⟨D,r.on hb,fun _ hk=>Or.inl hk,Fr.of hb⟩
def lowE(n:Nat)(x:Int):Int:=if okI n x then 0 else 5
def lowB(n:Nat)(T:Nat→Option Int)(x key:Int):Bool:=okI n x&&low T x.toNat key
def lowTT(n:Nat)(T:Nat→Option Int)(x key:Int):Nat→Option Int:=if okI n x then lowT T x.toNat key else T
set_option maxHeartbeats 800000 in
theorem Lower_any{w:World}{h n:Nat}{T:Nat→Option Int}{D:Nat→Prop}(r:HR w h n T D)(x key:Int):
  Calls Tryz.prog 215 #[.pointer (some ⟨h,0,none⟩), .int .i64 x, .int .u64 key] w fun e w'=>e= .returned (.tuple #[.bool (lowB n T x key), .int .i64 (lowE n x)])∧HRto w w' h n (lowTT n T x key) D:=by
 obtain⟨p,v,ms,pl,r,f,rfl⟩:=r
 have HM:=Lib.hid (may_any r x)
 cases hok:okI n x with
 | true=>
   have h1:0≤x∧x<n:=by simpa[okI] using hok
   obtain⟨y,rfl⟩: ∃y:Nat,x=y:=⟨x.toNat,by omega⟩
   rw[show lowB n T y key=low T y key by simp[lowB,hok],show lowE n y=0 by simp[lowE,hok],show lowTT n T y key=lowT T y key by simp[lowTT,hok]]
   rw[hok] at HM
   have HL:=Lib.hid (lower_any r f y (by omega) key)
   clear hok
   obtain⟨t,HT⟩:=named (low T y key)
   rw[HT.out] at HL ⊢
   go_enter Tryz.func215,Tryz.ntmps215
   go_wp2_with fail
   refine HM.out.mono ?_
   rintro e w1 ⟨rfl,rfl⟩
   go_wp2_with fail
   refine HL.out.mono ?_
   rintro e w2 ⟨rfl,ha⟩
   go_wp2_with fail
   go_ret2
   exact⟨rfl,ha.to⟩
 | false=>
   rw[show lowB n T x key=false by simp[lowB,hok],show lowE n x=5 by simp[lowE,hok],show lowTT n T x key=T by simp[lowTT,hok]]
   rw[hok] at HM
   clear hok
   go_enter Tryz.func215,Tryz.ntmps215
   go_wp2_with fail
   refine HM.out.mono ?_
   rintro e w1 ⟨rfl,rfl⟩
   go_wp2_with fail
   go_ret2
   exact⟨rfl,Dof h p v,⟨p,v,ms,pl,r,f,rfl⟩,fun _ hk=>Or.inl hk,Fr.refl _ _⟩
end Go.Proofs.YtaafkpojjdjphaaGreat.N5.Hp
