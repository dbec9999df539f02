import Derived.Test.YtmenajiceaicpaaGreatZAL
namespace Go.Proofs.YtmenajiceaicpaaGreat
open Go.RowKit
def mbS(S:List Nat)(v:Nat)(x q:Int):List Nat:=if x=q then S++[v] else S
def mbL(q:Int):List Int→Nat→List Nat→List Nat
 | [],_,S=>S
 | x::r,v,S=>mbL q r (v+1) (mbS S v x q)
set_option maxRecDepth 100000 in
set_option maxHeartbeats 1600000 in
theorem nsMembers_any(a:Option Addr)(xs:List Int)(c:Nat)(b:Option Addr)(zs:List Int)(cb q m:Nat)(w:World)(hx:xs.length≤1024)(hz:zs.length≤1024)(hq:q<zs.length)(hqm:zs.getD q 0=m)(hm:m≤1024)(hi:Ints w a xs)(hj:Ints w b zs):
  Calls Tryz.prog 42 #[.agg #[.slice a xs.length c, .slice b zs.length cb], .int .i64 q] w fun e w'=> ∃v c S,e= .returned (.slice v S.length c)∧w'.ownsRow w.heap.size 3 1 (.slice v S.length c) S.length (cellsI (ints S))∧S=mbL q xs 0 []∧Below w.heap.size w w':=by
 have hb0:Below w.heap.size w (w.alloc (.cells #[.slice a xs.length c, .slice b zs.length cb] 67)):=(Below.refl _ _).alloc (Nat.le_refl _) _
 have hg:=heap_top w (.cells #[.slice a xs.length c, .slice b zs.length cb] 67)
 obtain⟨i3,hi3,hz3,hs3,hby3⟩:=info_parts info3
 obtain⟨⟨c0,c1⟩,_⟩:=two_cells hg
 obtain⟨ix,ox,hix⟩:=hi.get
 obtain⟨jx,oy,hjx⟩:=(hj.on hb0).get
 obtain⟨rfl,_,hjt⟩:=hjx (by omega)
 have z0:=hjt q hq
 rw[hqm] at z0
 have hq':(q:Int)<zs.length:=by omega
 have HIX:=Lib.hid hix
 have HB0:=Lib.hid hb0
 have hmk: ∀w,(Instr.makeSlice 25 (.int .i64 0) (.int .i64 m)).run Tryz.prog w= .ok (.slice (some ⟨w.heap.size,0,none⟩) 0 m) (w.alloc (.cells ((List.range m).map (fun _=>Value.int .i64 0)).toArray 3)):=fun w=>by
  have:=run_make (P:=Tryz.prog) w 25 3 i3 (.int .i64 0) Tryz.underlying25 hi3 hz3 .i64 .i64 0 m (by omega) (by omega) (by rw[hby3];omega) (by omega)
  rw[hs3] at this
  rw[this,Int.toNat_natCast,made_int]
  rfl
 clear hi hb0 hix hj hjx hjt hqm
 generalize hp:w.heap.size=p at*
 go_enter Tryz.func42,Tryz.ntmps42
 go_wp2_with fail
 have hw2:(w.alloc (.cells #[.slice a xs.length c, .slice (some ⟨jx,oy,none⟩) zs.length cb] 67)).heap.size=p+1:=by simp[hp]
 have hw1:w.heap.size<(w.alloc (.cells #[.slice a xs.length c, .slice (some ⟨jx,oy,none⟩) zs.length cb] 67)).heap.size:=by simp
 generalize hW:(w.alloc (.cells #[.slice a xs.length c, .slice (some ⟨jx,oy,none⟩) zs.length cb] 67))=w1 at*
 clear hW
 have HO0:Hid ((w1.alloc (.cells ((List.range m).map (fun _=>Value.int .i64 0)).toArray 3)).ownsRow p 3 1 (.slice (some ⟨w1.heap.size,0,none⟩) 0 m) 0 []):=World.ownsRow_made w1 _ m (by omega) (by unfold maxLen;omega) (by simp)
 have HB2:Hid (Below p w (w1.alloc (.cells ((List.range m).map (fun _=>Value.int .i64 0)).toArray 3))):=HB0.out.alloc (by omega) _
 rw[hw2] at HO0
 generalize w1.alloc (.cells ((List.range m).map (fun _=>Value.int .i64 0)).toArray 3)=V at*
 clear hg c0 c1 HB0
 go_loopw [5,17] (fun s5 i wr=> ∃ (k:Nat) (av:Option Addr) (cv:Nat) (S:List Nat),k≤xs.length∧i= .int .i64 k∧s5= .slice av S.length cv∧S.length≤k∧Hid (mbL q (xs.drop k) k S=mbL q xs 0 [])∧Hid (wr.ownsRow p 3 1 (.slice av S.length cv) S.length (cellsI (ints S)))∧Hid (Below p w wr)) (fun _ i _=>xs.length - (intOf i).toNat)
 case atStart=>exact⟨0,_,_,[],Nat.zero_le _,rfl,rfl,Nat.zero_le _,rfl,HO0,HB2⟩
 case round=>
  obtain⟨k,av,cv,S,hk,rfl,rfl,hSk,HS,HOW,HBR⟩:=hrel
  have hwr:p≤wr.heap.size:=by have:=HBR.out.size;omega
  by_cases hlk:k<xs.length
  ·obtain⟨rfl,hbl,hat⟩:=HIX.out (by omega)
   have hlk':(k:Int)<xs.length:=by omega
   have y0:=(HBR.out.cell (p:=⟨ix,ox+k,none⟩) (hp▸hbl)).trans (hat k hlk)
   have hk2:=HS.out
   rw[drop_getI hlk] at hk2
   simp only[mbL] at hk2
   have HK2:=Lib.hid hk2
   clear hat hk2
   generalize xs.getD k 0=x at*
   by_cases h2:x=q
   ·subst h2
    have hqq:((q:Int)==(q:Int))=true:=by simp
    have HNS:Hid (mbS S k q q=S++[k]):=if_pos rfl
    rw[HNS.out] at HK2
    have HNW:=Lib.hid (one_new wr k)
    have HO2:=Lib.hid (HOW.out.alloc (.cells #[.int .i64 k] 3))
    have HBZ:Hid (p≤(wr.alloc (.cells #[.int .i64 k] 3)).heap.size):=by show _≤_;rw[World.size_alloc];omega
    have HBB:Hid (Below p w (wr.alloc (.cells #[.int .i64 k] 3))):=HBR.out.alloc (by omega) _
    have HOL:Hid (∀b,(Value.slice av S.length cv).ownBlock=some b→p≤b):=fun b hb=>(HOW.out.lt b hb).1
    have HCA:Hid (cellsI (ints S)++[.int .i64 k]=cellsI (ints (S++[k]))):=by show _=_;rw[ints_snoc,←cellsI_snoc]
    have hs8:S.length≤1024:=by omega
    go_wp2_with (at_builtin;refine wpList_append_own _ rfl (.tmp 25) (.tmp 27) 25 rfl p 3 i3 (.int .i64 0) 1 8 Tryz.underlying25 hi3 hz3 hs3 hby3 rfl (by decide) (.slice av S.length cv) S.length (cellsI (ints S)) rfl HO2.out ⟨wr.heap.size,0,none⟩ 1 1 [.int .i64 k] rfl rfl HNW.out (one_i64 _) (by unfold maxLen;omega) (by omega) HBZ.out ?_;intro v6 w6 hown6 hgrow6 hnil6;obtain⟨g6,c6,hv6,_,hc6,_,hm6⟩:=own_shape hown6 (fun e=>by have:=hnil6.1 e;simp at this);subst hv6;rw[HCA.out] at hown6;have h7:w6.ownsRow p 3 1 (.slice (some ⟨g6,0,none⟩) (S++[k]).length c6) (S++[k]).length (cellsI (ints (S++[k]))):=(by rw[List.length_append];exact hown6);have HO7:=Lib.hid h7;have HB6:Hid (Below p w w6):=HBB.out.grown hgrow6 HBZ.out (fun j hj=>HOL.out j hj);clear hown6 hgrow6 hnil6 h7)
    exact⟨⟨k+1,some ⟨g6,0,none⟩,c6,S++[k],by omega,by simp,by rw[List.length_append];rfl,by rw[List.length_append];simp;omega,HK2,HO7,HB6⟩,by simp[intOf];omega⟩
   ·have hqq:(x==(q:Int))=false:=by simpa using h2
    have HNS:Hid (mbS S k x q=S):=if_neg h2
    rw[HNS.out] at HK2
    clear h2
    go_wp2_with fail
    exact⟨⟨k+1,av,cv,S,by omega,by simp,rfl,by omega,HK2,HOW,HBR⟩,by simp[intOf];omega⟩
  ·have e0:xs.drop k= []:=List.drop_eq_nil_of_le (by omega)
   have hlk': ¬(k:Int)<xs.length:=by omega
   rw[e0] at HS
   clear e0
   go_wp2_with fail
   go_ret
   exact⟨av,cv,S,rfl,HOW.out,HS.out,HBR.out⟩
end Go.Proofs.YtmenajiceaicpaaGreat
