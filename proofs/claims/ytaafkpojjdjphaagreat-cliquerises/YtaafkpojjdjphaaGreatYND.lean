import Derived.Test.YtaafkpojjdjphaaGreatYNC
namespace Go.Proofs.YtaafkpojjdjphaaGreat.N5.Hp
open Go.RowKit
def fb(ms:List M)(k:Nat):Nat:=if ms.length≤2*k+1 then ms.length else if 2*k+2<ms.length∧ahead (gm ms (2*k+2)) (gm ms (2*k+1))=true then 2*k+2 else 2*k+1
theorem fb_none{ms:List M}{k:Nat}(h:ms.length≤2*k+1):fb ms k=ms.length:=by rw[fb,if_pos h]
theorem fb_right{ms:List M}{k:Nat}(h:2*k+2<ms.length)(h2:ahead (gm ms (2*k+2)) (gm ms (2*k+1))=true):fb ms k=2*k+2:=by rw[fb,if_neg (by omega),if_pos ⟨h,h2⟩]
theorem fb_left{ms:List M}{k:Nat}(h:2*k+1<ms.length)(h2:ms.length≤2*k+2∨ahead (gm ms (2*k+2)) (gm ms (2*k+1))=false):fb ms k=2*k+1:=by
 rw[fb,if_neg (by omega),if_neg]
 rintro⟨a,b⟩
 rcases h2 with h2 | h2
 ·omega
 ·rw[h2] at b;cases b
theorem fb_spec{ms:List M}{k:Nat}(h:fb ms k≠ms.length):fb ms k<ms.length∧0<fb ms k∧(fb ms k - 1) / 2=k∧∀i,0<i→i<ms.length→(i - 1) / 2=k→le (gm ms (fb ms k)) (gm ms i):=by
 by_cases h1:ms.length≤2*k+1
 ·exact absurd (fb_none h1) h
 ·by_cases h2:2*k+2<ms.length
  ·cases h3:ahead (gm ms (2*k+2)) (gm ms (2*k+1)) with
   | true=>
     rw[fb_right h2 h3]
     refine⟨h2,by omega,by omega,fun i a b c=> ?_⟩
     have:i=2*k+1∨i=2*k+2:=by omega
     rcases this with rfl | rfl
     ·exact le_t h3
     ·exact le_rfl _
   | false=>
     rw[fb_left (by omega) (Or.inr h3)]
     refine⟨by omega,by omega,by omega,fun i a b c=> ?_⟩
     have:i=2*k+1∨i=2*k+2:=by omega
     rcases this with rfl | rfl
     ·exact le_rfl _
     ·exact le_f h3
  ·rw[fb_left (by omega) (Or.inl (by omega))]
   refine⟨by omega,by omega,by omega,fun i a b c=> ?_⟩
   have:i=2*k+1:=by omega
   subst this
   exact le_rfl _
theorem fb_o3{ms:List M}{k:Nat}{m:M}(h:fb ms k=ms.length):O3 ms k m:=by
 by_cases h1:ms.length≤2*k+1
 ·intro i a b c;omega
 ·exfalso
  unfold fb at h
  rw[if_neg h1] at h
  split at h <;> omega
theorem fb_o3'{ms:List M}{k:Nat}{m:M}(h:fb ms k≠ms.length)(ha:ahead (gm ms (fb ms k)) m=false):O3 ms k m:=by
 intro i a b c
 exact(le_f ha).trans ((fb_spec h).2.2.2 i a b c)
set_option maxRecDepth 100000 in
set_option maxHeartbeats 1600000 in
theorem fb_any{w:World}{h p:Nat}{v:Value}{n:Nat}{ms:List M}{pl:List Int}(r:Rep w h p v n ms pl)(k:Nat)(hk:k<ms.length)(hl:ms.length≤16384):
  Calls Tryz.prog 242 #[.pointer (some ⟨h,0,none⟩), .int .i64 k] w fun e w'=>e= .returned (.int .i64 (fb ms k))∧Below w.heap.size w w':=by
 obtain⟨N,HN⟩:=named ms.length
 obtain⟨b,c,hv,hc1,hg1,hc2⟩:=own_shape r.own (by omega)
 have r'':=r
 rw[hv] at r''
 rw[HN.out] at hk hl hv hc1
 subst hv
 obtain⟨⟨c0,c1,c2⟩,f0,f1,f2⟩:=cells3 r.hd
 have s0:=lt_of_block r.hd
 have hw0:(2:Int)*k≤40000:=by omega
 have hw1:(0:Int)≤k:=by omega
 by_cases h1:N≤2*k+1
 ·have h1':(N:Int)≤2*k+1:=by omega
  rw[fb_none (by rw[HN.out];exact h1),HN.out]
  clear r''
  go_enter Tryz.func242,Tryz.ntmps242
  go_wp2_with fail
  go_ret
  exact⟨rfl,Below.refl _ _⟩
 ·have h1': ¬(N:Int)≤2*k+1:=by omega
  by_cases h2:2*k+2<N
  ·have h2':(2:Int)*k+2<N:=by omega
   obtain⟨⟨d0,d1⟩,_⟩:=r''.member (2*k+2) (by rw[HN.out];exact h2)
   obtain⟨⟨x0,x1⟩,_⟩:=r''.member (2*k+1) (by rw[HN.out];omega)
   have HR:=Lib.hid (fun h3=>fb_right (ms:=ms) (k:=k) (by rw[HN.out];exact h2) h3)
   have HF:=Lib.hid (fun h3=>fb_left (ms:=ms) (k:=k) (by rw[HN.out];omega) (Or.inr h3))
   clear r''
   obtain⟨X,HX⟩:=named (gm ms (2*k+2))
   obtain⟨Y,HY⟩:=named (gm ms (2*k+1))
   rw[HX.out] at d0 d1 HR HF
   rw[HY.out] at x0 x1 HR HF
   obtain⟨t,HT⟩:=named (ahead X Y)
   have HTO:=HT.out
   rw[HTO] at HR HF
   have HTT:=Lib.hid HTO
   clear HTO
   have hd:decide ((2:Int)*k+2<N)=true:=by simpa using h2'
   have hL:(2:Int)*k+1=((2*k+1:Nat):Int):=by omega
   have hR:(2:Int)*k+2=((2*k+2:Nat):Int):=by omega
   generalize 2*k+1=A at*
   generalize 2*k+2=B at*
   rw[hL] at h1'
   rw[hR] at h2' hd
   cases t with
   | true=>
     have HP:=HR.out rfl
     clear HR HF
     rw[HP]
     clear HP
     go_enter Tryz.func242,Tryz.ntmps242
     go_wp2_with fail
     go_region_held3 (fun w'=>w'.cell? ⟨h,0,none⟩=some (.slice (some ⟨b,0,none⟩) N c)∧w'.cell? ⟨h,2,none⟩=some (.func (.func 213) #[] #[])∧w'.cell? ⟨b,B*2,none⟩=some (.int .i64 X.id)∧w'.cell? ⟨b,B*2+1,none⟩=some (.int .u64 X.key)∧w'.cell? ⟨b,A*2,none⟩=some (.int .i64 Y.id)∧w'.cell? ⟨b,A*2+1,none⟩=some (.int .u64 Y.key)) (go_keep) ((refine(nearer_is X Y true HTT.out _).mono ?_;rintro e w2 ⟨rfl,hb2⟩;have k0:=(hb2.cell (p:=⟨h,0,none⟩) s0).trans c0;have k2:=(hb2.cell (p:=⟨h,2,none⟩) s0).trans c2;have k3:=(hb2.cell (p:=⟨b,B*2,none⟩) hg1).trans d0;have k4:=(hb2.cell (p:=⟨b,B*2+1,none⟩) hg1).trans d1;have k5:=(hb2.cell (p:=⟨b,A*2,none⟩) hg1).trans x0;have k6:=(hb2.cell (p:=⟨b,A*2+1,none⟩) hg1).trans x1))
     go_wp2_with fail
     go_ret
     exact⟨rfl,(Below.refl _ _).drew.trans hb2⟩
   | false=>
     have HP:=HF.out rfl
     clear HR HF
     rw[HP]
     clear HP
     go_enter Tryz.func242,Tryz.ntmps242
     go_wp2_with fail
     go_region_held3 (fun w'=>w'.cell? ⟨h,0,none⟩=some (.slice (some ⟨b,0,none⟩) N c)∧w'.cell? ⟨h,2,none⟩=some (.func (.func 213) #[] #[])∧w'.cell? ⟨b,B*2,none⟩=some (.int .i64 X.id)∧w'.cell? ⟨b,B*2+1,none⟩=some (.int .u64 X.key)∧w'.cell? ⟨b,A*2,none⟩=some (.int .i64 Y.id)∧w'.cell? ⟨b,A*2+1,none⟩=some (.int .u64 Y.key)) (go_keep) ((refine(nearer_is X Y false HTT.out _).mono ?_;rintro e w2 ⟨rfl,hb2⟩;have k0:=(hb2.cell (p:=⟨h,0,none⟩) s0).trans c0;have k2:=(hb2.cell (p:=⟨h,2,none⟩) s0).trans c2;have k3:=(hb2.cell (p:=⟨b,B*2,none⟩) hg1).trans d0;have k4:=(hb2.cell (p:=⟨b,B*2+1,none⟩) hg1).trans d1;have k5:=(hb2.cell (p:=⟨b,A*2,none⟩) hg1).trans x0;have k6:=(hb2.cell (p:=⟨b,A*2+1,none⟩) hg1).trans x1))
     go_wp2_with fail
     go_ret
     exact⟨rfl,(Below.refl _ _).drew.trans hb2⟩
  ·have hd:decide ((2:Int)*k+2<N)=false:=by simp;omega
   rw[fb_left (by rw[HN.out];omega) (Or.inl (by rw[HN.out];omega))]
   clear r''
   go_enter Tryz.func242,Tryz.ntmps242
   go_wp2_with fail
   go_quiet (fail)
   go_wp2_with fail
   go_ret
   exact⟨by simp,⟨rfl,rfl,rfl,Nat.le_refl _,fun _ _=>rfl⟩⟩
end Go.Proofs.YtaafkpojjdjphaaGreat.N5.Hp
