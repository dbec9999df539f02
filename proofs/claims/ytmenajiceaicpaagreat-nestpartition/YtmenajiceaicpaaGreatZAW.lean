import Derived.Test.YtmenajiceaicpaaGreatProg
import Derived.Test.YtmenajiceaicpaaGreatZAE
import Derived.Shelf.SlSortCmp.NoneTotal
import Derived.Test.YtmenajiceaicpaaGreatZAJ
open Go.Lib (hid)
set_option maxRecDepth 100000
namespace Go.Proofs
open Go.Shelf
def Tryz.sortP_ren:Go.Shelf.Ren:=⟨fun | 6=>110 | 15=>138 | 14=>137 | 28=>167 | 29=>168 | 20=>159 | 21=>160 | 22=>161 | 23=>162 | 24=>163 | 25=>164 | 26=>165 | 27=>166 | 46=>182 | 47=>183 | 48=>184 | 49=>185 | 50=>186 | 57=>195 | n=>n,fun | 22=>96 | 24=>119 | 25=>156 | 3=>3 | 39=>192 | 0=>0 | 53=>56 | 55=>163 | 4=>4 | 46=>220 | 45=>219 | 50=>172 | 5=>5 | 9=>9 | 66=>240 | 70=>244 | 76=>250 | 77=>251 | n=>n,fun | n=>n⟩
theorem Tryz.sortP:Go.Proofs.SlLaysF0.n6 Tryz.prog Tryz.sortP_ren:={
 mixed:=by kernel_rfl
 f6:=⟨Tryz.f110.name,by decide,Tryz.func110.trans (congrArg some (by kernel_rfl))⟩
 f14:=⟨Tryz.f137.name,by decide,Tryz.func137.trans (congrArg some (by kernel_rfl))⟩
 f15:=Tryz.func138.trans (congrArg some (by kernel_rfl))
 f20:=⟨Tryz.f159.name,by decide,Tryz.func159.trans (congrArg some (by kernel_rfl))⟩
 f21:=⟨Tryz.f160.name,by decide,Tryz.func160.trans (congrArg some (by kernel_rfl))⟩
 f22:=⟨Tryz.f161.name,by decide,Tryz.func161.trans (congrArg some (by kernel_rfl))⟩
 f23:=⟨Tryz.f162.name,by decide,Tryz.func162.trans (congrArg some (by kernel_rfl))⟩
 f24:=⟨Tryz.f163.name,by decide,Tryz.func163.trans (congrArg some (by kernel_rfl))⟩
 f25:=⟨Tryz.f164.name,by decide,Tryz.func164.trans (congrArg some (by kernel_rfl))⟩
 f26:=⟨Tryz.f165.name,by decide,Tryz.func165.trans (congrArg some (by kernel_rfl))⟩
 f27:=⟨Tryz.f166.name,by decide,Tryz.func166.trans (congrArg some (by kernel_rfl))⟩
 f28:=Tryz.func167.trans (congrArg some (by kernel_rfl))
 f29:=Tryz.func168.trans (congrArg some (by kernel_rfl))
 f46:=⟨Tryz.f182.name,by decide,Tryz.func182.trans (congrArg some (by kernel_rfl))⟩
 f47:=Tryz.func183.trans (congrArg some (by kernel_rfl))
 f48:=Tryz.func184.trans (congrArg some (by kernel_rfl))
 f49:=⟨Tryz.f185.name,by decide,Tryz.func185.trans (congrArg some (by kernel_rfl))⟩
 f50:=⟨Tryz.f186.name,by decide,Tryz.func186.trans (congrArg some (by kernel_rfl))⟩
 f57:=⟨Tryz.f195.name,by decide,Tryz.func195.trans (congrArg some (by kernel_rfl))⟩
 t0:=Tryz.underlying0
 a0:=Tryz.isAgg0
 z0:=Tryz.sizeOf0
 v0:=Tryz.zeroValue0
 t3:=Tryz.underlying3
 a3:=Tryz.isAgg3
 z3:=Tryz.sizeOf3
 v3:=Tryz.zeroValue3
 t4:=Tryz.underlying4
 a4:=Tryz.isAgg4
 z4:=Tryz.sizeOf4
 v4:=Tryz.zeroValue4
 t5:=Tryz.underlying5
 a5:=Tryz.isAgg5
 z5:=Tryz.sizeOf5
 v5:=Tryz.zeroValue5
 t9:=Tryz.underlying9
 a9:=Tryz.isAgg9
 z9:=Tryz.sizeOf9
 v9:=Tryz.zeroValue9
 t22:=Tryz.underlying96
 a22:=Tryz.isAgg96
 z22:=Tryz.sizeOf96
 v22:=Tryz.zeroValue96
 t25:=Tryz.underlying156
 a25:=Tryz.isAgg156
 z25:=Tryz.sizeOf156
 v25:=Tryz.zeroValue156
 t39:=Tryz.underlying192
 a39:=Tryz.isAgg192
 z39:=Tryz.sizeOf192
 v39:=Tryz.zeroValue192
 t45:=Tryz.underlying219
 a45:=Tryz.isAgg219
 z45:=Tryz.sizeOf219
 v45:=Tryz.zeroValue219
 t46:=Tryz.underlying220
 a46:=Tryz.isAgg220
 z46:=Tryz.sizeOf220
 v46:=Tryz.zeroValue220
 t50:=Tryz.underlying172
 a50:=Tryz.isAgg172
 z50:=Tryz.sizeOf172
 v50:=Tryz.zeroValue172
 t53:=Tryz.underlying56
 a53:=Tryz.isAgg56
 z53:=Tryz.sizeOf56
 v53:=Tryz.zeroValue56
 t55:=Tryz.underlying163
 a55:=Tryz.isAgg163
 z55:=Tryz.sizeOf163
 v55:=Tryz.zeroValue163
 t66:=Tryz.underlying240
 a66:=Tryz.isAgg240
 z66:=Tryz.sizeOf240
 v66:=Tryz.zeroValue240
 t70:=Tryz.underlying244
 a70:=Tryz.isAgg244
 z70:=Tryz.sizeOf244
 v70:=Tryz.zeroValue244
 t76:=Tryz.underlying250
 a76:=Tryz.isAgg250
 z76:=Tryz.sizeOf250
 v76:=Tryz.zeroValue250
 t77:=Tryz.underlying251
 a77:=Tryz.isAgg251
 z77:=Tryz.sizeOf251
 v77:=Tryz.zeroValue251}
end Go.Proofs
namespace Go.Proofs.YtmenajiceaicpaaGreat
open Go.RowKit
open Go.Sort (Holds HoldsK flatK putRow putRowK putCells mapBlock onCells grow heap_grow_old get_flatK size_flatK)
theorem flat_at(d:List Pr){j:Nat}(hj:j<d.length*2):(cellsP d)[j]? =some ((flatK encP 2 d.toArray)[j]!):=by
 rw[get_flatK _ _ _ _ (by simpa using hj)]
 obtain⟨i,hi⟩: ∃i,j=i*2∨j=i*2+1:=⟨j / 2,by omega⟩
 obtain⟨q1,q2⟩:=cellsP_at d i (by omega)
 have e:(d.toArray)[j / 2]! =d.getD i Pr.zero:=by
  rw[show j / 2=i by omega]
  have hi':i<d.length:=by omega
  simp[List.getD,hi',getElem!_pos]
 rw[e]
 rcases hi with rfl | rfl
 ·rw[q1,show i*2 % 2=0 by omega];rfl
 ·rw[q2,show(i*2+1) % 2=1 by omega];rfl
theorem holds_P{w:World}{B g c:Nat}{d:List Pr}(h:OwnP w B (some ⟨g,0,none⟩) c d):HoldsK encP 2 w g 0 d.toArray:=by
 intro j hj
 rw[size_flatK] at hj
 have hj':j<d.length*2:=by simpa using hj
 refine⟨?_,h.frozenAt _⟩
 rw[Nat.zero_add,World.ownsRow.cellAt h j (by omega),flat_at d hj']
 rfl
theorem own_sorted{w:World}{B g c q:Nat}{os:Array Obj}{d e:List Pr}(h:OwnP w B (some ⟨g,0,none⟩) c d)(he:e.length=d.length):OwnP (sortWorldK encP 2 w g 0 q e.toArray os) B (some ⟨g,0,none⟩) c e:=by
 unfold OwnP
 rw[he]
 rcases h.2 with ⟨e0,_⟩ | ⟨g',cap',cur,e0,hb,hg,hn,hm,hs,ht⟩
 ·cases e0
 ·injection e0 with e1 _ e3
  injection e1 with e1
  injection e1 with e1
  subst e1;subst e3
  have hlt:g<w.heap.size:=lt_of_block hg
  refine⟨by rw[cellsP_len,he], .inr ⟨g,c,putCells id 0 (flatK encP 2 e.toArray) cur,rfl,hb,?_,hn,hm,by simpa[putCells] using hs,?_⟩⟩
  ·unfold sortWorldK putRowK
   rw[heap_grow_old _ _ (by simpa[putRow,mapBlock,Sort.ahead] using hlt)]
   simp[putRow,mapBlock,Sort.ahead,Array.getElem?_modify,hg,onCells]
  ·apply List.ext_getElem?
   intro j
   rw[List.getElem?_take,Array.getElem?_toList]
   by_cases hj:j<d.length*2
   ·have hjc:j<cur.size:=by omega
    rw[if_pos hj,flat_at e (by omega)]
    simp only[putCells,Array.getElem?_mapIdx,Array.getElem?_eq_getElem hjc,Option.map_some]
    rw[if_pos ⟨by omega,by simp;omega⟩]
    simp
   ·rw[if_neg hj,List.getElem?_eq_none (by rw[cellsP_len];omega)]
theorem sorted_fr{w:World}{g q:Nat}{os:Array Obj}{e:Array Pr}:Fr (fun j=>j=g) w (sortWorldK encP 2 w g 0 q e os):=by
 unfold sortWorldK putRowK
 refine⟨rfl,rfl,rfl,by simp[grow,putRow,mapBlock,Sort.ahead],fun j hj hn=> ?_⟩
 rw[heap_grow_old _ _ (by simpa[putRow,mapBlock,Sort.ahead] using hj)]
 simp[putRow,mapBlock,Sort.ahead,Array.getElem?_modify,Ne.symm hn]
theorem swoP:Sort.SWO (ltOf cmpP) where
 irrefl x:=by unfold ltOf;rw[decide_eq_false_iff_not,cmpP_lt];exact ltP_irrefl x
 trans x y z h1 h2:=by
  unfold ltOf at*
  rw[decide_eq_true_eq,cmpP_lt] at*
  exact ltP_trans h1 h2
 ntrans x y z h1 h2:=by
  unfold ltOf at*
  rw[decide_eq_false_iff_not,cmpP_lt] at*
  unfold ltP at*;omega
theorem cmpLaysP(g size:Nat)(w:World):CmpLays Tryz.prog 111 #[] encP 2 cmpP g 0 size w:=by
 intro m os dk _ x y
 refine(inOrder_any x y _).mono ?_
 rintro e w' ⟨he,n,os',hw⟩
 exact⟨he,n,os',hw⟩
theorem isAgg41: ∀w,(isAgg 119).run Tryz.prog w= .ok true w:=Tryz.isAgg119
theorem sizeOf41: ∀w,(Go.sizeOf 119).run Tryz.prog w= .ok 2 w:=Tryz.sizeOf119
theorem sortP_any{w:World}{B g c:Nat}{d:List Pr}(h:OwnP w B (some ⟨g,0,none⟩) c d)(hb:d.length<4611686018427387904):
  Calls Tryz.prog 110 #[.slice (some ⟨g,0,none⟩) d.length c, .func (.func 111) #[] #[]] w fun e w'=>e= .returned (.tuple #[])∧∃d',d'.length=d.length∧(∀x,x∈d'↔x∈d)∧d'.Pairwise (fun x y=> ¬ltP y x)∧OwnP w' B (some ⟨g,0,none⟩) c d'∧Fr (fun j=>j=g) w w':=by
 have eg: ∀args w,(callFunc 111 args).run Tryz.prog w= .ok (.enter 111 args) w:=enters_of Tryz.func111 (by kernel_rfl) rfl
 have hlt:g<w.heap.size:=by
  rcases h.2 with ⟨e,_⟩ | ⟨g',c',cur,e,_,hg,_⟩
  ·cases e
  ·injection e with e1 _ _
   injection e1 with e1
   injection e1 with e1
   subst e1
   exact lt_of_block hg
 have hcon:=AnyQ.slices_SortFunc Tryz.sortP 2 isAgg41 sizeOf41 encP (fun _=>rfl) (fun x v hv=>by simp[encP] at hv;rcases hv with rfl | rfl <;> rfl) cmpP swoP 111 #[] g 0 c d.toArray w eg (cmpLaysP g _ w) (holds_P h) hlt (by simpa using hb)
 have hcon2:Calls Tryz.prog 110 #[.slice (some ⟨g,0,none⟩) d.length c, .func (.func 111) #[] #[]] w _:=hcon
 refine hcon2.mono ?_
 rintro e w' ⟨he,d',n,os,hp,hs,rfl⟩
 obtain⟨p1,_,p3⟩:=hp
 have hsz:d'.size=d.length:=by simpa using p1
 have hperm:d'.toList.Perm d:=by
  have e1:d'.extract 0 d.toArray.size=d':=by rw[←p1];simp
  have e2:d.toArray.extract 0 d.toArray.size=d.toArray:=by simp
  rw[e1,e2] at p3
  simpa using p3
 refine⟨he,d'.toList,by simpa using hsz,fun x=>hperm.mem_iff,?_,?_,sorted_fr⟩
 ·rw[List.pairwise_iff_getElem]
  intro i j hi hj hij
  have hi':i<d'.size:=by simpa using hi
  have hj':j<d'.size:=by simpa using hj
  have:=hs i j (Nat.zero_le _) hij (by simpa[hsz] using hj')
  unfold ltOf at this
  rw[decide_eq_false_iff_not,cmpP_lt,getElem!_pos d' j hj',getElem!_pos d' i hi'] at this
  simpa using this
 ·have:=own_sorted (q:=n) (os:=os) (e:=d'.toList) h (by simpa using hsz)
  simpa using this
end Go.Proofs.YtmenajiceaicpaaGreat
namespace Go.Proofs.YtmenajiceaicpaaGreat
open Go.RowKit
theorem sortNone_any(w:World):Calls Tryz.prog 110 #[.slice none 0 0, .func (.func 111) #[] #[]] w fun e w'=>e= .returned (.tuple #[])∧w'=w:=AnyF.slices_SortFunc_none {Tryz.sortP with} none 0 _ w
set_option maxHeartbeats 400000 in
theorem compactNone_any(w:World):Calls Tryz.prog 112 #[.slice none 0 0] w fun e w'=>e= .returned (.slice none 0 0)∧w'=w:=by
 go_enter Tryz.func112,Tryz.ntmps112
 go_wp2_with fail
 go_ret
 exact⟨rfl,rfl⟩
theorem prl_of{l:List A}{d:List Pr}(hm: ∀x,x∈d↔x∈pq l)(hs:d.Pairwise (fun x y=> ¬ltP y x)):ddk d d.length=prl l:=by
 obtain⟨h1,h2⟩:=ddk_inv hs _ (Nat.le_refl _)
 refine sorted_one h1 (prl_sorted l) (fun x=> ?_)
 have h3:=(ddk_inv (srtP_sorted (pq l)) _ (Nat.le_refl _)).2 x
 unfold prl
 rw[h2,h3,List.take_length,List.take_length,srtP_mem,hm]
theorem news1(w:World)(x y:Nat): ∀j u,(cellsP [⟨x,y⟩])[j]? =some u→(w.alloc (.cells #[.int .i64 (x:Int), .int .i64 (y:Int)] 119)).cell? ((⟨w.heap.size,0,none⟩:Addr).add j)=some u:=by
 intro j u hu
 have h:=heap_top w (.cells #[.int .i64 (x:Int), .int .i64 (y:Int)] 119)
 rw[Go.WideShapes.add_plain,Nat.zero_add]
 generalize w.alloc (.cells #[.int .i64 (x:Int), .int .i64 (y:Int)] 119)=W at*
 generalize w.heap.size=b at*
 match j,hu with
 | 0,hu=>simp[cellsP] at hu;subst hu;simp[World.cell?,h]
 | 1,hu=>simp[cellsP] at hu;subst hu;simp[World.cell?,h]
 | j+2,hu=>simp[cellsP] at hu
theorem take_snocA{p:List A}{k:Nat}(h:k<p.length):p.take (k+1)=p.take k++[p.getD k A.zero]:=by
 rw[List.take_succ_eq_append_getElem h]
 simp[List.getD,List.getElem?_eq_getElem h]
set_option maxHeartbeats 1600000 in
theorem pairs_any(N:Int)(a:Option Addr)(l:List A)(cap:Nat)(w:World)(hl:l.length≤9223372036854775807)(hr:Arcs w a l):
  Calls Tryz.prog 80 #[.agg #[.int .i64 N, .slice a l.length cap]] w fun e w'=> ∃v c xs,e= .returned (.tuple #[.slice v xs.length c, .int .i64 (chkE N l)])∧OwnP w' w.heap.size v c xs∧xs=(if chkE N l=0 then prl l else [])∧Below w.heap.size w w':=by
 have hb0:Below w.heap.size w (w.alloc (.cells #[.int .i64 N, .slice a l.length cap] 24)):=(Below.refl _ _).alloc (Nat.le_refl _) _
 have hg:=heap_top w (.cells #[.int .i64 N, .slice a l.length cap] 24)
 have hr2:=hr.on hb0
 have hsz:w.heap.size≤(w.alloc (.cells #[.int .i64 N, .slice a l.length cap] 24)).heap.size:=hb0.size
 obtain⟨C,HC⟩:=named (chkE N l)
 obtain⟨AT,HAT⟩:=named (chkAt N l)
 rw[HC.out]
 have HAR:=hid hr
 generalize hp:w.heap.size=p at*
 go_enter Tryz.func80,Tryz.ntmps80
 go_wp2_with fail
 generalize hW:w.alloc (.cells #[.int .i64 N, .slice a l.length cap] 24)=W at*
 refine(check_any N a l cap W hl hr2).mono ?_
 rintro e w1 ⟨rfl,hb1⟩
 rw[HC.out,HAT.out]
 have hg1:=(hb1.block _ (lt_of_block hg)).trans hg
 have HB1:Hid (Below p w w1):=hb0.trans (hb1.mono hsz)
 obtain⟨⟨g0,g1⟩,_⟩:=two_cells hg1
 clear hb1 hg hb0 hr2 hW hsz
 by_cases he:C=0
 ·have he2:(C != 0)=false:=by simp[he]
  obtain⟨hN1,hN2,hlb,hpo⟩:=chk_zero (HC.out.trans he)
  have HPO:=hid hpo
  obtain⟨i0,hi,hz0,hz1,hz2⟩:=info_parts info41
  obtain⟨ba,oa,hab⟩: ∃b o,0<l.length→a=some ⟨b,o,none⟩∧b<w.heap.size∧∀j,j<l.length→(l.getD j A.zero).at w b (o+j*3):=by
   rcases HAR.out with rfl | ⟨b,o,h⟩
   ·exact⟨0,0,fun h=>absurd h (by simp)⟩
   ·exact⟨b,o,fun _=>h⟩
  have HAB:=hid hab
  have hpw1:p<w1.heap.size:=lt_of_block hg1
  clear hab hpo
  go_wp2_with fail
  go_loopw [6,20] (fun s6 i wr=> ∃ (k:Nat) (av:Option Addr) (cv len:Nat),k≤l.length∧i= .int .i64 k∧s6= .slice av len cv∧Hid ((pq (l.take k)).length=len)∧Hid (len=0→av=none∧cv=0)∧Hid (wr.ownsRow (p+1) 119 2 (.slice av len cv) len (cellsP (pq (l.take k))))∧Hid (Below (p+1) w1 wr)) (fun _ i _=>l.length - (intOf i).toNat)
  case atStart=>exact⟨0,none,0,0,Nat.zero_le _,rfl,rfl,rfl,fun _=>⟨rfl,rfl⟩,World.ownsRow_nil _ _ _ _,Below.refl _ _⟩
  case round=>
   obtain⟨k,av,cv,len,hk,rfl,rfl,HLN,HNL,HOW,HBR⟩:=hrel
   have hgr:=(HBR.out.block p (by omega)).trans hg1
   have HBW:Hid (Below p w wr):=HB1.out.trans (HBR.out.mono (by omega))
   have hwr:w1.heap.size≤wr.heap.size:=HBR.out.size
   by_cases hlt:k<l.length
   ·obtain⟨rfl,hbl,hat⟩:=HAB.out (by omega)
    have hlt':(k:Int)<l.length:=by omega
    obtain⟨x0,x1,x2⟩:=(hat k hlt).on (by rw[hp];exact HBW.out)
    have HTS:=hid (take_snocA hlt)
    have HME:=hid (HPO.out (l.getD k A.zero) (by simp[List.getD,List.getElem?_eq_getElem hlt]))
    have hlen:len≤8192:=by rw[←HLN.out];exact Nat.le_trans (pq_len _) (by rw[List.length_take];omega)
    clear hat
    generalize l.getD k A.zero=x at*
    obtain⟨⟨f0,f1⟩,t0,t1⟩:=HME.out
    have HPS:=hid (pq_snoc (l.take k) x)
    obtain⟨xf,xt,xw⟩:=x
    obtain⟨f,hf⟩: ∃f:Nat,xf=f:=⟨xf.toNat,by have:0≤xf:=f0;omega⟩
    obtain⟨t,ht⟩: ∃t:Nat,xt=t:=⟨xt.toNat,by have:0≤xt:=t0;omega⟩
    subst hf ht
    clear f0 f1 t0 t1 HME
    by_cases hft:f=t
    ·subst hft
     have hne:((f:Int) != (f:Int))=false:=by simp
     have HE2:Hid (pq (l.take (k+1))=pq (l.take k)):=by show _=_;rw[HTS.out,HPS.out,if_pos rfl]
     go_wp2_with fail
     refine⟨⟨k+1,av,cv,len,by omega,by simp,rfl,?_,HNL,?_,HBR.out.alloc (by omega) _⟩,by simp[intOf];omega⟩
     ·rw[HE2.out];exact HLN
     ·rw[HE2.out];exact HOW.out.alloc _
    ·have hne:((f:Int) != (t:Int))=true:=by simp;omega
     obtain⟨mn,hmn1,hmn2⟩: ∃mn:Nat,min (f:Int) (t:Int)=(mn:Int)∧mn=min f t:=⟨min f t,by omega,rfl⟩
     obtain⟨mx,hmx1,hmx2⟩: ∃mx:Nat,max (f:Int) (t:Int)=(mx:Int)∧mx=max f t:=⟨max f t,by omega,rfl⟩
     have HE2:Hid (pq (l.take (k+1))=pq (l.take k)++[⟨mn,mx⟩]):=by
      show _=_
      rw[HTS.out,HPS.out,if_neg (by show ¬(f:Int)=(t:Int);omega),hmn2,hmx2]
      congr 2
      exact pr_ext (by show(min (f:Int) t).toNat=min f t;omega) (by show(max (f:Int) t).toNat=max f t;omega)
     clear hmn2 hmx2
     have hrw:p+1≤wr.heap.size:=by omega
     have HNW:Hid (∀j u,(cellsP [⟨mn,mx⟩])[j]? =some u→((wr.alloc (.cells #[.int .i64 (f:Int), .int .i64 (t:Int), .int .u32 xw] 58)).alloc (.cells #[.int .i64 (mn:Int), .int .i64 (mx:Int)] 119)).cell? ((⟨wr.heap.size+1,0,none⟩:Addr).add j)=some u):=by
      have:=news1 (wr.alloc (.cells #[.int .i64 (f:Int), .int .i64 (t:Int), .int .u32 xw] 58)) mn mx
      rw[World.size_alloc] at this
      exact this
     have HOW2:Hid (((wr.alloc (.cells #[.int .i64 (f:Int), .int .i64 (t:Int), .int .u32 xw] 58)).alloc (.cells #[.int .i64 (mn:Int), .int .i64 (mx:Int)] 119)).ownsRow (p+1) 119 2 (.slice av len cv) len (cellsP (pq (l.take k)))):=(HOW.out.alloc _).alloc _
     have HBS:Hid (p+1≤((wr.alloc (.cells #[.int .i64 (f:Int), .int .i64 (t:Int), .int .u32 xw] 58)).alloc (.cells #[.int .i64 (mn:Int), .int .i64 (mx:Int)] 119)).heap.size):=by show _≤_;simp;omega
     have HBB:Hid (Below (p+1) w1 ((wr.alloc (.cells #[.int .i64 (f:Int), .int .i64 (t:Int), .int .u32 xw] 58)).alloc (.cells #[.int .i64 (mn:Int), .int .i64 (mx:Int)] 119))):=(HBR.out.alloc (by omega) _).alloc (by simp;omega) _
     have HOL:Hid (∀b,(Value.slice av len cv).ownBlock=some b→p+1≤b):=fun b hb=>(HOW.out.lt b hb).1
     have HCA:Hid (cellsP (pq (l.take k))++cellsP [⟨mn,mx⟩]=cellsP (pq (l.take (k+1)))):=by show _=_;rw[HE2.out,cellsP_append]
     have HL2:Hid ((pq (l.take (k+1))).length=len+1):=by show _=_;rw[HE2.out,List.length_append,HLN.out];rfl
     go_wp2_with (at_builtin;refine wpList_append_own _ rfl (.tmp 29) (.tmp 41) 96 rfl (p+1) 119 i0 _ 2 16 Tryz.underlying96 hi hz0 hz1 hz2 rfl (by decide) (.slice av len cv) len (cellsP (pq (l.take k))) rfl HOW2.out ⟨wr.heap.size+1,0,none⟩ 1 1 (cellsP [⟨mn,mx⟩]) rfl rfl HNW.out (cellsP_one _) (by unfold maxLen;omega) (by omega) HBS.out ?_;intro v6 w6 hown6 hgrow6 hnil6;obtain⟨g6,c6,hv6,_,_,_,_⟩:=own_shape hown6 (fun e=>by have:=hnil6.1 e;simp at this);subst hv6;rw[HCA.out] at hown6;have HO6:=hid hown6;have HB6:=hid (HBB.out.grown hgrow6 (by have:=HBS.out;omega) (by intro b hb;exact HOL.out b hb));clear hown6 hgrow6 hnil6)
     exact⟨⟨k+1,some ⟨g6,0,none⟩,c6,len+1,by omega,by simp,rfl,HL2,fun h=>by omega,HO6,HB6⟩,by simp[intOf];omega⟩
   ·have e0:l.take k=l:=List.take_of_length_le (by omega)
    have hlt': ¬(k:Int)<l.length:=by omega
    rw[e0] at HLN HOW
    clear e0
    by_cases h0:len=0
    ·obtain⟨rfl,rfl⟩:=HNL.out h0
     subst h0
     have HPR:Hid (prl l= []):=by
      show _=_
      have h1:pq l= []:=List.eq_nil_of_length_eq_zero HLN.out
      unfold prl
      rw[h1];simp[srtP,ddk]
     go_wp2_with fail
     refine(sortNone_any wr).mono ?_
     rintro e w3 ⟨rfl,rfl⟩
     go_wp2_with fail
     refine(compactNone_any w3).mono ?_
     rintro e w4 ⟨rfl,rfl⟩
     go_wp2_with fail
     go_ret2
     exact⟨none,0,[],rfl,World.ownsRow_nil _ _ _ _,by rw[HPR.out],HBW.out⟩
    ·obtain⟨g,c',hv,hgb,hlc,hgl,hcm⟩:=own_shape HOW.out (fun e=>by injection e with e1 e2 e3;exact h0 e2)
     injection hv with hv1 _ hv3
     subst hv1 hv3
     have HOP:Hid (OwnP wr (p+1) (some ⟨g,0,none⟩) cv (pq l)):=by show World.ownsRow _ _ _ _ _ _ _;rw[HLN.out];exact HOW.out
     have hpl:(pq l).length<4611686018427387904:=by have:=pq_len l;omega
     have HSO:=hid (sortP_any HOP.out hpl)
     rw[HLN.out] at HSO
     go_wp2_with fail
     refine HSO.out.mono ?_
     rintro e w3 ⟨rfl,d',hdl,hdm,hds,hown3,hf3⟩
     have HPR:=hid (prl_of hdm hds)
     have HCO:=hid (compact_any hown3)
     rw[hdl] at HCO
     have HF3:=hid hf3
     clear hown3 hf3 HSO hds hdm
     rw[←hdl,HPR.out,hdl] at HCO
     go_wp2_with fail
     refine HCO.out.mono ?_
     rintro e w4 ⟨rfl,hown4,hf4⟩
     have HO4:=hid hown4
     have HB4:Hid (Below p w w4):=HBW.out.trans (((HF3.out.trans hf4).below (B:=p) (by omega) (fun j e=>by have e:j=g:=e;omega)))
     clear hown4 hf4 HCO
     go_wp2_with fail
     go_ret2
     exact⟨some ⟨g,0,none⟩,cv,prl l,rfl,own_base HO4.out (by omega),by simp,HB4.out⟩
 ·have he2:(C != 0)=true:=by simp[he]
  go_wp2_with fail
  go_ret2
  exact⟨none,0,[],rfl,World.ownsRow_nil _ _ _ _,by simp,HB1.out⟩
theorem prl_lt{n:Nat}{l:List A}(hoa: ∀x,x∈l→(0≤x.f∧x.f<(n:Int))∧(0≤x.t∧x.t<(n:Int))){p:Pr}(hp:p∈prl l):p.a<n∧p.b<n:=by
 obtain⟨h1,h2⟩:=(prl_mem (fun x hx=>⟨(hoa x hx).1.1,(hoa x hx).2.1⟩)).1 hp
 unfold nr at h2
 rw[List.any_eq_true] at h2
 obtain⟨x,hx,h3⟩:=h2
 have h5:=hoa x hx
 simp only[Bool.or_eq_true,Bool.and_eq_true,beq_iff_eq] at h3
 omega
set_option maxHeartbeats 800000 in
theorem tidy_any(a:Option Addr)(xs:List Int)(cap:Nat)(w:World)(hl:xs.length≤9223372036854775807)(hr:Ints w a xs):
  Calls Tryz.prog 179 #[.slice a xs.length cap] w fun e w'=>e= .returned (.bool (tdy xs 0))∧w'=w:=by
 obtain⟨ix,ox,hix⟩:=hr.get
 have HIX:=hid hix
 clear hix hr
 go_enter Tryz.func179,Tryz.ntmps179
 go_wp2_with fail
 go_loopw [3,8] (fun s3 i wr=> ∃ (k nx:Nat),k≤xs.length∧i= .int .i64 k∧s3= .int .i64 nx∧nx≤k∧Hid (tdy xs 0=tdy (xs.drop k) nx)∧wr=w) (fun _ i _=>xs.length - (intOf i).toNat)
 case atStart=>exact⟨0,0,Nat.zero_le _,rfl,rfl,Nat.le_refl _,rfl,rfl⟩
 case round=>
  obtain⟨k,nx,hk,rfl,rfl,hnk,HT,rfl⟩:=hrel
  by_cases hlk:k<xs.length
  ·obtain⟨rfl,hbl,hat⟩:=HIX.out (by omega)
   have hlk':(k:Int)<xs.length:=by omega
   have cx:=hat k hlk
   have HDG:=hid (drop_getI hlk)
   clear hat
   generalize xs.getD k 0=x at*
   by_cases h0:x<0
   ·have HF:Hid (tdy xs 0=false):=by show _=_;rw[HT.out,HDG.out];simp only[tdy];rw[if_pos (.inl h0)]
    go_wp2_with fail
    go_ret
    exact⟨by rw[HF.out];rfl,rfl⟩
   ·by_cases h1:(nx:Int)<x
    ·have HF:Hid (tdy xs 0=false):=by show _=_;rw[HT.out,HDG.out];simp only[tdy];rw[if_pos (.inr h1)]
     go_wp2_with fail
     go_ret
     exact⟨by rw[HF.out];rfl,rfl⟩
    ·have HF:Hid (tdy xs 0=tdy (xs.drop (k+1)) (if x=(nx:Int) then (nx:Int)+1 else nx)):=by show _=_;rw[HT.out,HDG.out];simp only[tdy];rw[if_neg (by omega)]
     have hnk':(nx:Int)≤k:=by omega
     by_cases h2:x=(nx:Int)
     ·subst h2
      have e2:((nx:Int)==(nx:Int))=true:=by simp
      go_wp2_with fail
      refine⟨⟨k+1,nx+1,by omega,by simp,by simp,by omega,?_,trivial⟩,by simp[intOf];omega⟩
      show _=_
      rw[HF.out,if_pos rfl];rfl
     ·have e2:(x==(nx:Int))=false:=by simpa using h2
      go_wp2_with fail
      refine⟨⟨k+1,nx,by omega,by simp,rfl,by omega,?_,trivial⟩,by simp[intOf];omega⟩
      show _=_
      rw[HF.out,if_neg h2]
  ·have hlk': ¬(k:Int)<xs.length:=by omega
   have HF:Hid (tdy xs 0=true):=by show _=_;rw[HT.out,List.drop_eq_nil_of_le (by omega)];rfl
   go_wp2_with fail
   go_ret
   exact⟨by rw[HF.out];rfl,rfl⟩
theorem filter_snocP{ps:List Pr}{f:Pr→Bool}{k:Nat}(h:k<ps.length):(ps.take (k+1)).filter f=(ps.take k).filter f++(if f (ps.getD k Pr.zero) then [ps.getD k Pr.zero] else []):=by
 rw[take_snocP h,List.filter_append]
 congr 1
 simp only[List.filter_cons,List.filter_nil]
def cntB(xs:List Int)(ps:List Pr):Nat:=(ps.filter (fun p=> !(xs.getD p.a 0==xs.getD p.b 0))).length
def cntE(N:Int)(l:List A)(xs:List Int):Int:=if chkE N l≠0 then chkE N l else if (xs.length:Int)≠N∨tdy xs 0=false then 80 else 0
set_option maxHeartbeats 1600000 in
theorem natCount_any(N:Int)(a:Option Addr)(l:List A)(cap:Nat)(b:Option Addr)(xs:List Int)(bc:Nat)(w:World)(hl:l.length≤9223372036854775807)(hx:xs.length≤9223372036854775807)(hr:Arcs w a l)(hi:Ints w b xs):
  Calls Tryz.prog 154 #[.agg #[.int .i64 N, .slice a l.length cap], .slice b xs.length bc] w fun e w'=>e= .returned (.tuple #[.int .i64 (if cntE N l xs=0 then (cntB xs (prl l):Nat) else 0), .int .i64 (cntE N l xs)])∧Below w.heap.size w w':=by
 have hb0:Below w.heap.size w (w.alloc (.cells #[.int .i64 N, .slice a l.length cap] 24)):=(Below.refl _ _).alloc (Nat.le_refl _) _
 have hg:=heap_top w (.cells #[.int .i64 N, .slice a l.length cap] 24)
 have HR:=hid (hr.on hb0)
 have HI:=hid (hi.on hb0)
 have hwz:w.heap.size≤(w.alloc (.cells #[.int .i64 N, .slice a l.length cap] 24)).heap.size:=hb0.size
 have HB0:=hid hb0
 obtain⟨V,HV⟩:=named (if cntE N l xs=0 then ((cntB xs (prl l):Nat):Int) else 0)
 rw[HV.out]
 obtain⟨G,HG⟩:=named (cntE N l xs)
 rw[HG.out] at HV ⊢
 clear hb0 hr hi
 generalize hp:w.heap.size=p at*
 go_enter Tryz.func154,Tryz.ntmps154
 go_wp2_with fail
 generalize hW:w.alloc (.cells #[.int .i64 N, .slice a l.length cap] 24)=W at*
 clear hW
 refine(pairs_any N a l cap W hl HR.out).mono ?_
 rintro e w1 ⟨v1,c1,ps,rfl,hown1,hps,hb1⟩
 have hpz:p<W.heap.size:=lt_of_block hg
 have HB1:Hid (Below p w w1):=HB0.out.trans (hb1.mono hwz)
 have hg1:=(hb1.block p hpz).trans hg
 obtain⟨⟨c0,c1'⟩,_⟩:=two_cells hg1
 have HI1:=hid (HI.out.on hb1)
 have HO1:=hid hown1
 have hwz1:W.heap.size≤w1.heap.size:=hb1.size
 obtain⟨E,HE⟩:=named (chkE N l)
 rw[HE.out] at hps ⊢
 clear hb1 hown1 hg
 by_cases hE:E≠0
 ·have e1:(E != 0)=true:=by simpa using hE
  have e2:(E==0)=false:=by simpa using hE
  have HGE:Hid (G=E):=by show _=_;rw[←HG.out];unfold cntE;rw[if_pos (by rw[HE.out];exact hE),HE.out]
  go_wp2_with fail
  go_ret2
  refine⟨?_,HB1.out⟩
  rw[←HV.out,HGE.out,if_neg hE];rfl
 obtain rfl:E=0:=by omega
 rw[if_pos rfl] at hps
 obtain⟨n,hn⟩: ∃n:Nat,N=n:=⟨N.toNat,by have:=(chk_zero HE.out).1;omega⟩
 subst hn hps
 clear hE
 obtain⟨_,hn2,hlb,hoa⟩:=chk_zero HE.out
 have HND:Hid (∀p,p∈prl l→p.a<n∧p.b<n):=fun p hp=>prl_lt hoa hp
 have hpl:(prl l).length≤8192:=Nat.le_trans (prl_len l) hlb
 have HGE:Hid (G=if (xs.length:Int)≠(n:Int)∨tdy xs 0=false then 80 else 0):=by show _=_;rw[←HG.out];unfold cntE;rw[if_neg (by rw[HE.out];omega)]
 clear hoa
 by_cases hxn: ¬(xs.length:Int)=(n:Int)
 ·have e1:((xs.length:Int) != (n:Int))=true:=by simpa using hxn
  have e2:((xs.length:Int)==(n:Int))=false:=by simpa using hxn
  rw[if_pos (.inl hxn)] at HGE
  go_wp2_with fail
  go_ret2
  refine⟨?_,HB1.out⟩
  rw[←HV.out,HGE.out,if_neg (by decide)];rfl
 obtain rfl:n=xs.length:=by omega
 clear hxn
 have e1:((xs.length:Int) != (xs.length:Int))=false:=by simp
 have e2:((xs.length:Int)==(xs.length:Int))=true:=by simp
 go_wp2_with fail
 refine(tidy_any b xs bc w1 hx HI1.out).mono ?_
 rintro e w2 ⟨rfl,rfl⟩
 generalize htt:tdy xs 0=tt at*
 cases tt
 ·rw[if_pos (.inr rfl)] at HGE
  go_wp2_with fail
  go_ret2
  refine⟨?_,HB1.out⟩
  rw[←HV.out,HGE.out,if_neg (by decide)];rfl
 rw[if_neg (by rintro(h | h);exact h rfl;cases h)] at HGE
 obtain⟨ix,ox,hix⟩:=HI1.out.get
 have HIX:=hid hix
 obtain⟨iy,oy,hiy⟩:=HO1.out.prs.get
 have HIY:=hid hiy
 clear hix hiy hwz1 hpz hwz htt HI HR HI1
 generalize hB:w2.heap.size=B at*
 go_wp2_with fail
 go_loopw [8,31] (fun s8 i wr=> ∃ (k c:Nat),k≤(prl l).length∧i= .int .i64 k∧s8= .int .i64 c∧c≤k∧Hid (cntB xs ((prl l).take k)=c)∧Hid (Below B w2 wr)) (fun _ i _=>(prl l).length - (intOf i).toNat)
 case atStart=>exact⟨0,0,Nat.zero_le _,rfl,rfl,Nat.le_refl _,rfl,Below.refl _ _⟩
 case round=>
  obtain⟨k,c,hk,rfl,rfl,hck,HC,HBR⟩:=hrel
  have hpw:B≤wr.heap.size:=hB▸HBR.out.size
  by_cases hlk:k<(prl l).length
  ·obtain⟨rfl,hbl,hat⟩:=HIY.out (by omega)
   have hlk':(k:Int)<(prl l).length:=by omega
   have hck':(c:Int)≤k:=by omega
   obtain⟨x0,x1⟩:=hat k hlk
   have y0:=(HBR.out.cell (p:=⟨iy,oy+k*2,none⟩) hbl).trans x0
   have y1:=(HBR.out.cell (p:=⟨iy,oy+k*2+1,none⟩) hbl).trans x1
   obtain⟨ha,hb⟩:=HND.out ((prl l).getD k Pr.zero) (getD_memP hlk)
   have HSN:=hid (filter_snocP (f:=fun p=> !(xs.getD p.a 0==xs.getD p.b 0)) hlk)
   clear hat x0 x1
   generalize (prl l).getD k Pr.zero=x at*
   obtain⟨rfl,hbx,hax⟩:=HIX.out (by omega)
   have hbB:Below B w2 (wr.alloc (.cells #[.int .i64 (x.a:Int), .int .i64 (x.b:Int)] 119)):=HBR.out.alloc hpw _
   have da:=(hbB.cell (p:=⟨ix,ox+x.a,none⟩) hbx).trans (hax x.a ha)
   have db:=(hbB.cell (p:=⟨ix,ox+x.b,none⟩) hbx).trans (hax x.b hb)
   have ha':(x.a:Int)<xs.length:=by omega
   have hb':(x.b:Int)<xs.length:=by omega
   have hbt:=heap_top wr (.cells #[.int .i64 (x.a:Int), .int .i64 (x.b:Int)] 119)
   obtain⟨⟨b0,b1⟩,_⟩:=two_cells hbt
   have HBA:=hid hbB
   clear hbB hax hbt
   generalize xs.getD x.a 0=ta at*
   generalize xs.getD x.b 0=tb at*
   go_wp2_with fail
   generalize hU:wr.alloc (.cells #[.int .i64 (x.a:Int), .int .i64 (x.b:Int)] 119)=U at*
   go_quiet (fail)
   have HBN:Hid (Below B w2 (U.drewN nq)):=⟨HBA.out.os,HBA.out.tape,HBA.out.output,HBA.out.size,HBA.out.block⟩
   generalize hUN:U.drewN nq=UN at*
   by_cases hab:ta=tb
   ·have hne:(ta != tb)=false:=by simpa using hab
    have HC2:Hid (cntB xs ((prl l).take (k+1))=c):=by
     show _=_
     rw[←HC.out]
     unfold cntB
     rw[HSN.out,if_neg (by simp[hab]),List.append_nil]
    clear hab
    go_wp2_with fail
    exact⟨⟨k+1,c,by omega,by simp,rfl,by omega,HC2,HBN⟩,by simp[intOf];omega⟩
   ·have hne:(ta != tb)=true:=by simpa using hab
    have HC2:Hid (cntB xs ((prl l).take (k+1))=c+1):=by
     show _=_
     rw[←HC.out]
     unfold cntB
     rw[HSN.out,if_pos (by simpa using hab),List.length_append]
     rfl
    clear hab
    go_wp2_with fail
    exact⟨⟨k+1,c+1,by omega,by simp,by simp,by omega,HC2,HBN⟩,by simp[intOf];omega⟩
  ·have e0:(prl l).take k=prl l:=List.take_of_length_le (by omega)
   have hlk': ¬(k:Int)<(prl l).length:=by omega
   rw[e0] at HC
   clear e0
   go_wp2_with fail
   go_ret2
   refine⟨?_,HB1.out.trans (HBR.out.mono (hp▸hB▸HB1.out.size))⟩
   rw[←HV.out,HGE.out,if_pos rfl,HC.out];rfl
end Go.Proofs.YtmenajiceaicpaaGreat
