import Derived.Deep.RegionHeld3
import Derived.Test.YtmenajiceaicpaaGreatZAM
open Go.Lib (hid)
namespace Go.Proofs.YtmenajiceaicpaaGreat
open Go.RowKit
def inB(ys:List Int)(L:List Nat):List Int→Nat→Bool
 | [],_=>true
 | x::r,k=>if ys.getD k 0=ys.getD (L.getD x.toNat 0) 0 then inB ys L r (k+1) else false
set_option maxRecDepth 100000 in
set_option maxHeartbeats 1600000 in
theorem nsNested_any(a:Option Addr)(xs:List Int)(c:Nat)(b:Option Addr)(m cb:Nat)(d:Option Addr)(ys:List Int)(dc:Nat)(s:Value)(w:World)(hx:xs.length≤1024)(hm:m≤1024)(hy:ys.length≤1024)(hxy:xs.length≤ys.length)
  (hL: ∀k,k<xs.length→∃y:Nat,xs.getD k 0=y∧y<(lsL xs 0 []).length∧(lsL xs 0 []).getD y 0<ys.length) (hi:Ints w a xs) (hj:Ints w d ys):
  Calls Tryz.prog 79 #[.agg #[.slice a xs.length c, .slice b m cb], .agg #[.slice d ys.length dc,s]] w fun e w'=>e= .returned (.bool (inB ys (lsL xs 0 []) xs 0))∧Below w.heap.size w w':=by
 have hb0:Below w.heap.size w (w.alloc (.cells #[.slice a xs.length c, .slice b m cb] 67)):=(Below.refl _ _).alloc (Nat.le_refl _) _
 have hg:=heap_top w (.cells #[.slice a xs.length c, .slice b m cb] 67)
 obtain⟨⟨c0,c1⟩,_⟩:=two_cells hg
 have HI:=hid hi
 have HJ:=hid hj
 have HB0:=hid hb0
 have HL:=hid hL
 clear hi hj hb0 hL
 obtain⟨E,HE⟩:=named (inB ys (lsL xs 0 []) xs 0)
 rw[HE.out]
 generalize hp:w.heap.size=p at*
 go_enter Tryz.func79,Tryz.ntmps79
 go_wp2_with fail
 have hq0:=heap_top (w.alloc (.cells #[.slice a xs.length c, .slice b m cb] 67)) (.cells #[.slice d ys.length dc,s] 67)
 have hz0:(w.alloc (.cells #[.slice a xs.length c, .slice b m cb] 67)).heap.size=p+1:=by simp[hp]
 have hw1:((w.alloc (.cells #[.slice a xs.length c, .slice b m cb] 67)).alloc (.cells #[.slice d ys.length dc,s] 67)).heap.size=p+2:=by simp[hp]
 have HB1:Hid (Below p w ((w.alloc (.cells #[.slice a xs.length c, .slice b m cb] 67)).alloc (.cells #[.slice d ys.length dc,s] 67))):=HB0.out.alloc (by omega) _
 have k0:=((Below.refl (p+1) (w.alloc (.cells #[.slice a xs.length c, .slice b m cb] 67))).alloc (by omega) (.cells #[.slice d ys.length dc,s] 67)).cell (p:=⟨p,0,none⟩) (by show p<p+1;omega)
 rw[c0] at k0
 rw[hz0] at hq0
 clear hg c0 c1 hz0 HB0
 generalize (w.alloc (.cells #[.slice a xs.length c, .slice b m cb] 67)).alloc (.cells #[.slice d ys.length dc,s] 67)=W at*
 obtain⟨⟨x0,x1⟩,_⟩:=two_cells hq0
 have HX:=hid x0
 have HX1:=hid x1
 have HLE:Hid (Calls Tryz.prog 46 #[.agg #[.slice a xs.length c, .slice b m cb]] W _):=nsLeasts_any a xs c b m cb W hx hm (HI.out.on (hp▸HB1.out))
 clear hq0 x0 x1
 go_wp2_with (go_at_call 46;refine HLE.out.mono ?_;rintro e V ⟨lv,lc,L,rfl,hown,hLL,hb1⟩;have k1:=(hb1.cell (p:=⟨p,0,none⟩) (by show p<_;omega)).trans k0;have HBV:Hid (Below p w V):=HB1.out.trans (hb1.mono (by omega));have HOW:=hid hown;have HX2:=hid ((hb1.cell (p:=⟨p+1,0,none⟩) (by show p+1<_;omega)).trans HX.out);have HX3:=hid ((hb1.cell (p:=⟨p+1,1,none⟩) (by show p+1<_;omega)).trans HX1.out);have hVs:=hb1.size;have HLL:=hid hLL;clear hb1 hown hLL HX HX1 HLE k0)
 rw[←HLL.out] at HL HE
 obtain⟨ix,ox,hix⟩:=HI.out.get
 have HIX:=hid hix
 have HC:Hid (∀X,Below V.heap.size V X→∀k,k<ys.length→Calls Tryz.prog 47 #[.agg #[.slice d ys.length dc,s], .int .i64 k] X fun e w'=>e= .returned (.int .i64 (ys.getD k 0))∧Below V.heap.size V w'):=fun X hX k hk=>(nsOf_any d ys dc s k X hk (by omega) (HJ.out.on (by rw[hp];exact HBV.out.trans (hX.mono (by omega))))).mono (fun e w' h=>⟨h.1,hX.trans (h.2.mono hX.size)⟩)
 clear hix k1
 go_loopw [13] (fun i wr=> ∃k:Nat,k≤xs.length∧i= .int .i64 k∧Hid (inB ys L (xs.drop k) k=E)∧Hid (Below V.heap.size V wr)) (fun i _=>xs.length - (intOf i).toNat)
 case atStart=>exact⟨0,Nat.zero_le _,rfl,HE,Below.refl _ _⟩
 case round=>
  obtain⟨k,hk,rfl,HS,HBR⟩:=hrel
  have HBP:Hid (Below p w wr):=HBV.out.trans (HBR.out.mono (by omega))
  by_cases hlk:k<xs.length
  ·obtain⟨rfl,hbl,hat⟩:=HIX.out (by omega)
   have hlk':(k:Int)<xs.length:=by omega
   have y0:=(HBP.out.cell (p:=⟨ix,ox+k,none⟩) (hp▸hbl)).trans (hat k hlk)
   obtain⟨y,hxy1,hyL,hyy⟩:=HL.out k hlk
   have hk2:=HS.out
   rw[drop_getI hlk,hxy1] at hk2
   simp only[inB,Int.toNat_natCast] at hk2
   rw[hxy1] at y0
   have HT:Hid (ys.getD k 0=ys.getD (L.getD y 0) 0→inB ys L (xs.drop (k+1)) (k+1)=E):=fun h=>by rw[if_pos h] at hk2;exact hk2
   have HF:Hid (¬ys.getD k 0=ys.getD (L.getD y 0) 0→false=E):=fun h=>by rw[if_neg h] at hk2;exact hk2
   obtain⟨g,cg,hv,hg1,_,hgs,_⟩:=own_shape HOW.out (fun e=>by injection e with _ e2 _;omega)
   injection hv with hv1 _ hv3
   subst hv1 hv3
   have d0:=own_cellI HOW.out hyL
   have HD0:=hid d0
   have x2:=(HBR.out.cell (p:=⟨g,y,none⟩) hgs).trans d0
   have x0:=(HBR.out.cell (p:=⟨p+1,0,none⟩) (by show p+1<_;omega)).trans HX2.out
   have x1:=(HBR.out.cell (p:=⟨p+1,1,none⟩) (by show p+1<_;omega)).trans HX3.out
   have hyL':(y:Int)<L.length:=by omega
   have hLm:L.length≤1024∨True:= .inr trivial
   have hky:k<ys.length:=by omega
   have HBD:Hid (Below V.heap.size V wr.drew):=HBR.out.drew
   have hp1V:p+1<V.heap.size:=by omega
   clear hat hk2 d0 hxy1 hbl
   have HC1:Hid (∀X,Below V.heap.size V X→Calls Tryz.prog 47 #[.agg #[.slice d ys.length dc,s], .int .i64 k] X fun e w'=>e= .returned (.int .i64 (ys.getD k 0))∧Below V.heap.size V w'):=fun X hX=>HC.out X hX k hky
   have HC2:Hid (∀X,Below V.heap.size V X→Calls Tryz.prog 47 #[.agg #[.slice d ys.length dc,s], .int .i64 (L.getD y 0:Nat)] X fun e w'=>e= .returned (.int .i64 (ys.getD (L.getD y 0) 0))∧Below V.heap.size V w'):=fun X hX=>HC.out X hX _ hyy
   clear HC
   generalize ys.getD k 0=r1 at*
   generalize ys.getD (L.getD y 0) 0=r2 at*
   generalize L.getD y 0=u at*
   by_cases h2:r1=r2
   ·have hne:(r1 != r2)=false:=by simpa using h2
    go_wp2_with fail
    go_region_held3 (fun w'=>w'.cell? ⟨p+1,0,none⟩=some (.slice d ys.length dc)∧w'.cell? ⟨p+1,1,none⟩=some s∧w'.cell? ⟨g,y,none⟩=some (.int .i64 (u:Int))) (go_keep) ((go_at_call 47;first | (refine(HC1.out _ HBD.out).mono ?_;rintro e w2 ⟨rfl,hb2⟩;have v0:=(hb2.cell (p:=⟨p+1,0,none⟩) hp1V).trans HX2.out;have v1:=(hb2.cell (p:=⟨p+1,1,none⟩) hp1V).trans HX3.out;have v2:=(hb2.cell (p:=⟨g,y,none⟩) hgs).trans HD0.out) | (refine(HC2.out _ hb2).mono ?_;rintro e w3 ⟨rfl,hb3⟩;have v3:=(hb3.cell (p:=⟨p+1,0,none⟩) hp1V).trans HX2.out;have v4:=(hb3.cell (p:=⟨p+1,1,none⟩) hp1V).trans HX3.out;have v5:=(hb3.cell (p:=⟨g,y,none⟩) hgs).trans HD0.out)))
    all_goals (go_wp2_with fail)
    all_goals (exact⟨⟨k+1,by omega,by simp,hid (HT.out h2),(by first | exact hb3 | exact hb2)⟩,by simp[intOf];omega⟩)
   ·have hne:(r1 != r2)=true:=by simpa using h2
    obtain rfl:false=E:=HF.out h2
    go_wp2_with fail
    go_region_held3 (fun w'=>w'.cell? ⟨p+1,0,none⟩=some (.slice d ys.length dc)∧w'.cell? ⟨p+1,1,none⟩=some s∧w'.cell? ⟨g,y,none⟩=some (.int .i64 (u:Int))) (go_keep) ((go_at_call 47;first | (refine(HC1.out _ HBD.out).mono ?_;rintro e w2 ⟨rfl,hb2⟩;have v0:=(hb2.cell (p:=⟨p+1,0,none⟩) hp1V).trans HX2.out;have v1:=(hb2.cell (p:=⟨p+1,1,none⟩) hp1V).trans HX3.out;have v2:=(hb2.cell (p:=⟨g,y,none⟩) hgs).trans HD0.out) | (refine(HC2.out _ hb2).mono ?_;rintro e w3 ⟨rfl,hb3⟩;have v3:=(hb3.cell (p:=⟨p+1,0,none⟩) hp1V).trans HX2.out;have v4:=(hb3.cell (p:=⟨p+1,1,none⟩) hp1V).trans HX3.out;have v5:=(hb3.cell (p:=⟨g,y,none⟩) hgs).trans HD0.out)))
    all_goals (go_wp2_with fail)
    all_goals go_ret
    all_goals (exact⟨rfl,HBV.out.trans (Below.mono (by first | exact hb3 | exact hb2) (by omega))⟩)
  ·have e0:xs.drop k= []:=List.drop_eq_nil_of_le (by omega)
   have hlk': ¬(k:Int)<xs.length:=by omega
   rw[e0] at HS
   obtain rfl:true=E:=HS.out
   clear e0
   go_wp2_with fail
   go_ret
   exact⟨rfl,HBP.out⟩
end Go.Proofs.YtmenajiceaicpaaGreat
