import Derived.Deep.RegionLaw
import Derived.Test.YtaafkpojjdjphaaGreatYNE
namespace Go.Proofs.YtaafkpojjdjphaaGreat.N5.Hp
open Go.RowKit
theorem run_append_new{P:Program}(w:World)(base:Nat)(t ty e:TypeId)(i:TypeInfo)(z:Value)(size bytes:Nat)(ht:P.underlying t=some (.slice e))(hi:P.info? e=some i)(hz:i.zero=some z)
  (hsize:i.size=size) (hby:i.bytes=bytes) (hzs:z.cells.size=size) (hsz:0<size)
  (v:Value) (n:Nat) (xs:List Value) (hown:w.ownsRow base e size v n xs)
  (a:Addr) (m c:Nat) (news:List Value) (hl:news.length=m*size) (hnews: ∀j u,news[j]? =some u→w.cell? (a.add j)=some u) (h1: ∀u∈news,u.oneCell'=true)
  (h63:n+m≤maxLen) (hbytes:(n+m)*bytes≤140737488355328) (hbase:base≤w.heap.size) (hm:0<m):
  ∃v' w',(Builtin.append_ #[t,t] ty #[v, .slice (some a) m c]).run P w= .ok v' w'∧w'.ownsRow base e size v' (n+m) (xs++news)∧w.grownBy w' v.ownBlock∧(v'.ownBlock=v.ownBlock∨v'.ownBlock=some w.heap.size):=by
 obtain⟨v',w',hr,h2,h3,h4⟩:=run_append_own (P:=P) w base t ty e i z size bytes ht hi hz hsize hby hzs hsz v n xs hown a m c news hl hnews h1 h63 hbytes hbase
 refine⟨v',w',hr,h2,h3,?_⟩
 subst hsize
 subst hby
 have hsmall:n+m≤9223372036854775807:=by simp only[maxLen] at h63;omega
 rcases hown.2 with ⟨rfl,rfl⟩ | ⟨g,cap,cur,rfl,hbg,hg,hnc,hcm,hcs,htake⟩
 ·have hr2:=run_append_nil (P:=P) w t ty e i z ht hi hz a m c news hl hnews (by omega) (by omega) (by have hb:=hbytes;simp only[Nat.zero_add] at hb;omega)
  rw[hr2] at hr
  injection hr with e1 e2
  right
  rw[←e1]
  rfl
 ·by_cases hroom:n+m≤cap
  ·have hfit:n*i.size+news.length≤cur.size:=by rw[hl,hcs,←Nat.add_mul];exact Nat.mul_le_mul_right _ hroom
   have hr2:=run_append_room (P:=P) w t ty e i ht hi g n cap cur hg a m c news hl hnews h1 hroom hfit
   rw[hr2] at hr
   injection hr with e1 e2
   left
   rw[←e1]
   rfl
  ·have holds: ∀j u,xs[j]? =some u→w.cell? ((⟨g,0,none⟩:Addr).add j)=some u:=hown.cells (g:=g) rfl
   have hr2:=run_append_grow (P:=P) w t ty e i z ht hi hz ⟨g,0,none⟩ n cap xs hown.1 holds a m c news hl hnews (by omega) (by omega) (growslice_fits (by omega) hbytes)
   rw[hr2] at hr
   injection hr with e1 e2
   right
   rw[←e1]
   rfl
theorem wp_append_new{P:Program}{w:World}{o:Oper}{a:Act}{K:Act→World→Prop}{Q:Exit→Act→World→Prop}(s x:Operand)(t:TypeId)
  (ho:o.op= .call {callee:= .builtin .append,args:= #[s,x],argTypes:= #[t,t]})
  (base:Nat) (e:TypeId) (i:TypeInfo) (z:Value) (size bytes:Nat) (ht:P.underlying t=some (.slice e)) (hi:P.info? e=some i) (hz:i.zero=some z)
  (hsize:i.size=size) (hby:i.bytes=bytes) (hzs:z.cells.size=size) (hsz:0<size)
  (v:Value) (n:Nat) (xs:List Value) (hs:a.eval s=v) (hown:w.ownsRow base e size v n xs)
  (ad:Addr) (m c:Nat) (news:List Value) (hx:a.eval x= .slice (some ad) m c) (hl:news.length=m*size) (hnews: ∀j u,news[j]? =some u→w.cell? (ad.add j)=some u) (h1: ∀u∈news,u.oneCell'=true)
  (h63:n+m≤maxLen) (hbytes:(n+m)*bytes≤140737488355328) (hbase:base≤w.heap.size) (hm:0<m)
  (h: ∀v' w',w'.ownsRow base e size v' (n+m) (xs++news)→w.grownBy w' v.ownBlock→(v'.ownBlock=v.ownBlock∨v'.ownBlock=some w.heap.size)→K (a.put o.dst v') w'):o.wp P a w K Q:=by
 obtain⟨v',w',hr,h2,h3,h4⟩:=run_append_new (P:=P) w base t o.type e i z size bytes ht hi hz hsize hby hzs hsz v n xs hown ad m c news hl hnews h1 h63 hbytes hbase hm
 unfold Oper.wp
 simp[execOp,ho,resolve,invoke,builtin,hs,hx,hr,Result.andThen]
 exact h v' w' h2 h3 h4
theorem Rep.grow{w w3:World}{h p:Nat}{v v3:Value}{n:Nat}{ms:List M}{pl:List Int}(r:Rep w h p v n ms pl)(m:M)
  (hown:w3.ownsRow 0 285 2 v3 (ms.length+1) (cellsM ms++[.int .i64 m.id, .int .u64 m.key])) (hg:w.grownBy w3 v.ownBlock) (hb:v3.ownBlock=v.ownBlock∨v3.ownBlock=some w.heap.size):
  Rep (w3.setCell ⟨h,0,none⟩ v3) h p v3 n (ms++[m]) pl∧(∀k,Dof h p v3 k→Dof h p v k∨w.heap.size≤k)∧Fr (Dof h p v) w (w3.setCell ⟨h,0,none⟩ v3):=by
 have s0:=lt_of_block r.hd
 have s1:=lt_of_block r.pb
 have hd3:=(hg.block h s0 (fun e=>r.hv e.symm)).trans r.hd
 have pb3:=(hg.block p s1 (fun e=>r.pv e.symm)).trans r.pb
 have n1:v3.ownBlock≠some h:=by
  rcases hb with hb | hb
  ·rw[hb];exact r.hv
  ·rw[hb];intro e;injection e with e;omega
 have n2:v3.ownBlock≠some p:=by
  rcases hb with hb | hb
  ·rw[hb];exact r.pv
  ·rw[hb];intro e;injection e with e;omega
 refine⟨⟨?_,?_,?_,r.hp,n1,n2,r.pn,r.nb⟩,?_,?_⟩
 ·rw[heap_setCell_same w3 h 0 _ _ _ hd3]
  simp
 ·have e:cellsM (ms++[m])=cellsM ms++[.int .i64 m.id, .int .u64 m.key]:=by rw[cellsM_app];rfl
  rw[e,show(ms++[m]).length=ms.length+1 by simp]
  exact own_same hown (fun k hk=>heap_setCell_other w3 _ k _ (fun e=>n1 (by rw[hk];exact congrArg some e)))
 ·rw[heap_setCell_other w3 _ p _ (fun e=>r.hp e.symm)]
  exact pb3
 ·rintro k (rfl | rfl | hk)
  ·exact Or.inl (Or.inl rfl)
  ·exact Or.inl (Or.inr (Or.inl rfl))
  ·rcases hb with hb | hb
   ·exact Or.inl (Or.inr (Or.inr (by rw[←hb];exact hk)))
   ·rw[hb] at hk;injection hk with hk;right;omega
 ·have f:Fr (Dof h p v) w w3:=⟨hg.os,hg.tape,hg.output,hg.size,fun k hk hn=>hg.block k hk (fun e=>hn (Or.inr (Or.inr e.symm)))⟩
  exact f.setCell ⟨h,0,none⟩ v3 (Or.inl (Or.inl rfl))
theorem info63:(Tryz.prog.info? 285).map (fun i=>(i.zero,i.size,i.bytes))=some (some (.agg #[.int .i64 0, .int .u64 0]),2,16):=by kernel_rfl
theorem WF.len{n:Nat}{ms:List M}{pl:List Int}{T:Nat→Option Int}(h:WF n ms pl T):ms.length≤n:=by
 rw[←h.cnt]
 unfold YtaafkpojjdjphaaGreat.N5.Hp.cnt
 exact Nat.le_trans (List.length_filter_le _ _) (by simp)
theorem WF.room{n:Nat}{ms:List M}{pl:List Int}{T:Nat→Option Int}(h:WF n ms pl T){x:Nat}(hx:x<n)(h0:T x=none):ms.length<n:=by
 rw[←h.cnt]
 unfold YtaafkpojjdjphaaGreat.N5.Hp.cnt
 rcases Nat.lt_or_ge ((List.range n).filter (fun x=>(T x).isSome)).length n with h' | h'
 ·exact h'
 ·exfalso
  have e:((List.range n).filter (fun x=>(T x).isSome)).length=(List.range n).length:=Nat.le_antisymm (List.length_filter_le _ _) (by simpa using h')
  have:=List.length_filter_eq_length_iff.1 e x (by simpa using hx)
  rw[h0] at this
  cases this
def low(T:Nat→Option Int)(x:Nat)(key:Int):Bool:=match T x with | none=>true | some k=>decide (key<k)
def lowT(T:Nat→Option Int)(x:Nat)(key:Int):Nat→Option Int:=if low T x key then upd T x (some key) else T
def After(w w':World)(h p:Nat)(v:Value)(n:Nat)(T':Nat→Option Int):Prop:=
 ∃v' ms' pl',Rep w' h p v' n ms' pl'∧WF n ms' pl' T'∧(∀k,Dof h p v' k→Dof h p v k∨w.heap.size≤k)∧Fr (Dof h p v) w w'
theorem Fr.cell{D:Nat→Prop}{w w':World}(f:Fr D w w'){a:Addr}{u:Value}(h:w.cell? a=some u)(hn: ¬D a.block):w'.cell? a=some u:=
 (World.cell?_of_block (f.block _ (World.block_lt_of_cell? w a h) hn)).trans h
theorem ahead_key{x:Nat}{a b:Int}:ahead ⟨x,a⟩ ⟨x,b⟩=decide (a<b):=by simp[ahead]
set_option maxRecDepth 100000 in
set_option maxHeartbeats 1600000 in
theorem lower_new{w:World}{h p:Nat}{v:Value}{n:Nat}{ms:List M}{pl:List Int}{T:Nat→Option Int}(r:Rep w h p v n ms pl)(f:WF n ms pl T)(x:Nat)(hx:x<n)(key:Int)(h0:T x=none):
  Calls Tryz.prog 226 #[.pointer (some ⟨h,0,none⟩), .agg #[.int .i64 x, .int .u64 key]] w fun e w'=>e= .returned (.bool true)∧After w w' h p v n (upd T x (some key)):=by
 obtain⟨i0,hi,hz0,hz1,hz2⟩:=info_parts info63
 have hroom:=f.room hx h0
 have hnb:=r.nb
 obtain⟨N,HN⟩:=named ms.length
 have hpx:pl.getD x 0=((0:Nat):Int):=by
  rcases f.find hx with ⟨a,_⟩ | ⟨i,_,_,_,d⟩
  ·exact a
  ·rw[h0] at d;cases d
 have HADD:=Lib.hid (f.add hx h0 key)
 rw[HN.out] at hroom
 have r0:=r.alloc (.cells #[.int .i64 x, .int .u64 key] 285)
 have t0:=heap_top w (.cells #[.int .i64 x, .int .u64 key] 285)
 have HF:=Lib.hid (find_any r0 x hx 0 hpx (by omega))
 have fr0:=(Fr.refl (Dof h p v) w).alloc (.cells #[.int .i64 x, .int .u64 key] 285)
 clear hpx
 have s0:=lt_of_block r0.hd
 have s1:=lt_of_block t0
 obtain⟨⟨c0,c1,c2⟩,f0,f1,f2⟩:=cells3 r0.hd
 obtain⟨⟨b0,b1⟩,_,_⟩:=cells2 t0
 generalize hW:w.alloc (.cells #[.int .i64 x, .int .u64 key] 285)=W at*
 have HW:=Lib.hid hW
 clear hW
 obtain⟨a,c,hv⟩:=own_slice r0.own
 rw[HN.out] at hv
 subst hv
 go_enter Tryz.func226,Tryz.ntmps226
 go_wp2_with fail
 rw[HW.out]
 refine HF.out.mono ?_
 rintro e w1 ⟨rfl,rfl⟩
 go_wp2_with fail
 go_quiet (fail)
 go_wp2_with fail
 have r2:Rep (w1.drewN nq).drew h p (.slice a N c) n ms pl:=r0.same (fun _ _=>rfl)
 have t2:(w1.drewN nq).drew.heap[w.heap.size]? =some (.cells #[.int .i64 x, .int .u64 key] 285):=t0
 have fr2:Fr (Dof h p (.slice a N c)) w (w1.drewN nq).drew:=fr0.then ⟨rfl,rfl,rfl,Nat.le_refl _,fun _ _ _=>rfl⟩
 have s2:w.heap.size<(w1.drewN nq).heap.size:=s1
 have s3:h<(w1.drewN nq).heap.size:=s0
 clear r0 t0 fr0 c0 c1 c2 f0 f1 f2 b0 b1 HF HW s0 s1
 generalize w1.drewN nq=W2 at*
 obtain⟨⟨c0,c1,c2⟩,f0,f1,f2⟩:=cells3 r2.hd
 obtain⟨⟨b0,b1⟩,_,_⟩:=cells2 t2
 simp only[World.cell?_drew,World.frozen?_drew] at c0 c1 c2 f0 f1 f2 b0 b1
 have HOWN:=Lib.hid (r2.own.alloc (.cells #[.int .i64 x, .int .u64 key] 285))
 have HR3:=Lib.hid (r2.alloc (.cells #[.int .i64 x, .int .u64 key] 285))
 rw[HN.out] at HOWN
 have HNW:Hid (∀j u,[Value.int .i64 x, .int .u64 key][j]? =some u→(W2.drew.alloc (.cells #[.int .i64 x, .int .u64 key] 285)).cell? ((⟨W2.heap.size,0,none⟩:Addr).add j)=some u):=by
  intro j u hu
  have ht:=(cells2 (heap_top W2.drew (.cells #[.int .i64 x, .int .u64 key] 285))).1
  match j,hu with
  | 0,hu=>simp at hu;subst hu;exact ht.1
  | 1,hu=>simp at hu;subst hu;exact ht.2
 have H1:Hid (∀u∈ [Value.int .i64 x, .int .u64 key],u.oneCell'=true):=by
  intro u hu
  simp at hu
  rcases hu with rfl | rfl <;> rfl
 go_region_law (first | (rw[if_pos (by rfl)];refine wp_append_new (.tmp 42) (.tmp 44) 274 rfl 0 285 i0 _ 2 16 Tryz.underlying274 hi hz0 hz1 hz2 rfl (by decide) (.slice a N c) N (cellsM ms) rfl HOWN.out ⟨W2.heap.size,0,none⟩ 1 1 [.int .i64 x, .int .u64 key] rfl rfl HNW.out H1.out (by unfold maxLen;omega) (by omega) (by omega) (by omega) ?_;intro v3 w3 hown3 hgrow3 hb3;obtain⟨g3,c3,hv3,hc3,hs3,hm3⟩:=own_shape hown3 (by omega);subst hv3;have hd3:=(hgrow3.block h (by simp;omega) (fun e=>HR3.out.hv e.symm)).trans HR3.out.hd;obtain⟨⟨q0,q1,q2⟩,qf0,qf1,qf2⟩:=cells3 hd3))
 all_goals
  obtain⟨r4,hD4,fr4⟩:=HR3.out.grow ⟨x,key⟩ (by rw[HN.out];exact hown3) hgrow3 hb3
  have fr5:=(fr2.alloc (.cells #[.int .i64 x, .int .u64 key] 285)).then fr4
  have hlt:=r.lt
  have t4:=(fr4.block w.heap.size (by simp;omega) (fun hd=>by have:=hlt _ hd;omega)).trans ((Below.heap_alloc _ _ _ (by exact s2)).trans t2)
  have HBX:Hid (¬Dof h p (.slice (some ⟨g3,0,none⟩) (N+1) c3) w.heap.size):=fun hk=>by
   rcases hD4 _ hk with h' | h'
   ·have:=hlt _ h';omega
   ·have:(W2.drew.alloc (.cells #[.int .i64 x, .int .u64 key] 285)).heap.size=W2.heap.size+1:=by simp
    omega
  have hD5: ∀k,Dof h p (.slice (some ⟨g3,0,none⟩) (N+1) c3) k→Dof h p (.slice a N c) k∨w.heap.size≤k:=fun k hk=>by
   rcases hD4 k hk with h' | h'
   ·exact Or.inl h'
   ·have:(W2.drew.alloc (.cells #[.int .i64 x, .int .u64 key] 285)).heap.size=W2.heap.size+1:=by simp
    omega
  clear hgrow3 hown3 hb3 hd3 q0 q1 q2 qf0 qf1 qf2 c0 c1 c2 f0 f1 f2 b0 b1 HOWN HR3 HNW H1 fr4 fr2 r2 t2 hD4
  generalize w3.setCell ⟨h,0,none⟩ (.slice (some ⟨g3,0,none⟩) (N+1) c3)=W4 at*
  have r5:=r4.drew
  have fr6:=fr5.drew
  have sx:w.heap.size<W4.drew.heap.size:=lt_of_block t4
  obtain⟨⟨b0,b1⟩,_,_⟩:=cells2 t4
  have HB0:Hid (W4.drew.cell? ⟨w.heap.size,0,none⟩=some (.int .i64 x)):=b0
  have HB1:Hid (W4.drew.cell? ⟨w.heap.size,1,none⟩=some (.int .u64 key)):=b1
  have HL5:Hid ((ms++[(⟨x,key⟩:M)]).length≤16384):=by show _≤_;simp;have:=HN.out;omega
  rw[HN.out] at HADD
  clear r4 fr5
  go_wp2_with fail
  go_region_held3 (fun w'=>w'.cell? ⟨w.heap.size,0,none⟩=some (.int .i64 x)∧w'.cell? ⟨w.heap.size,1,none⟩=some (.int .u64 key)) (go_keep) (first | (go_at_call 228;refine(up_any r5 _ N ⟨x,key⟩ HL5.out HADD.out.1 HADD.out.2).mono ?_;rintro e w5 ⟨k6,ms6,pl6,rfl,r6,g6,o6,hk6,hl6,fr7⟩;have y0:=fr7.cell HB0.out HBX.out;have y1:=fr7.cell HB1.out HBX.out) | (go_at_call 227;refine(put_any r6 k6 g6.kl ⟨x,key⟩ hx (by rw[hl6];exact HL5.out)).mono ?_;rintro e w6 ⟨rfl,r7,fr8⟩;have z0:=fr8.cell y0 HBX.out;have z1:=fr8.cell y1 HBX.out))
  have wf7:=g6.fill o6 hk6
  have fr9:=fr6.trans (fr7.then fr8) hD5
  clear r5 r6 g6 o6 fr7 fr8 HADD y0 y1 z0 z1 b0 b1
  go_wp2_with fail
  go_ret
  exact⟨rfl,_,_,_,r7,wf7,hD5,fr9⟩
end Go.Proofs.YtaafkpojjdjphaaGreat.N5.Hp
