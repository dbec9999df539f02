import Derived.Test.YtmenajiceaicpaaGreatZAD
import Derived.Maps.OwnSet
import Derived.DeepKeys4
import Derived.Test.YtmenajiceaicpaaGreatZAE
import Derived.Maps.AppendAt
import Derived.Test.YtmenajiceaicpaaGreatZAW
import Derived.Deep.RegionHeld3
import Derived.Test.YtmenajiceaicpaaGreatZFI
open Go.Lib (hid)
set_option maxRecDepth 100000
namespace Go.Proofs.YtmenajiceaicpaaGreat
open Go.RowKit
theorem own_take{w:World}{base n k c:Nat}{a:Option Addr}{xs:List Value}(h:w.ownsRow base 3 1 (.slice a n c) n xs)(hk:k≤n)(hk0:0<n∨k=0):w.ownsRow base 3 1 (.slice a k c) k (xs.take k):=by
 have hl:=h.1
 refine⟨by rw[List.length_take];omega,?_⟩
 rcases h.2 with ⟨e,h0⟩ | ⟨g,c',cur,e,h2,h3,h4,h5,h6,h7⟩
 ·injection e with e1 e2 e3
  subst e1;subst e3
  obtain rfl:k=0:=by omega
  exact .inl ⟨rfl,rfl⟩
 ·injection e with e1 e2 e3
  subst e1;subst e3
  refine .inr ⟨g,c,cur,rfl,h2,h3,Nat.le_trans hk h4,h5,h6,?_⟩
  rw[←h7,List.take_take]
  congr 1
  omega
def core(N:Nat)(l:List A)(c m:Nat):List Nat:=(reg N l c m).take (((reg N l c m).length+3) / 4)
theorem reg_len(N:Nat)(l:List A)(c m:Nat):(reg N l c m).length≤m:=by unfold reg;rw[List.length_take];omega
theorem cells_take(xs:List Nat)(k:Nat):(cellsI (ints xs)).take k=cellsI (ints (xs.take k)):=by simp[cellsI,ints,List.map_take]
set_option maxHeartbeats 800000 in
theorem core_any(N c m:Int)(a:Option Addr)(l:List A)(cap:Nat)(w:World)(hl:l.length≤9223372036854775807)(hr:Arcs w a l):
  Calls Tryz.prog 115 #[.agg #[.int .i64 N, .slice a l.length cap], .int .i64 c, .int .i64 m] w fun e w'=> ∃v xs,e= .returned (.tuple #[v, .int .i64 (gchk N c m l)])∧w'.ownsRow w.heap.size 3 1 v xs.length (cellsI (ints xs))∧xs=(if gchk N c m l=0 then core N.toNat l c.toNat m.toNat else [])∧Below w.heap.size w w':=by
 have hb0:Below w.heap.size w (w.alloc (.cells #[.int .i64 N, .slice a l.length cap] 24)):=(Below.refl _ _).alloc (Nat.le_refl _) _
 have hr2:=hr.on hb0
 have hsz:w.heap.size≤(w.alloc (.cells #[.int .i64 N, .slice a l.length cap] 24)).heap.size:=hb0.size
 obtain⟨E,HE⟩:=named (gchk N c m l)
 rw[HE.out]
 generalize hp:w.heap.size=p at*
 go_enter Tryz.func115,Tryz.ntmps115
 go_wp2_with fail
 generalize hW:w.alloc (.cells #[.int .i64 N, .slice a l.length cap] 24)=W at*
 refine(region_any N c m a l cap W hl hr2).mono ?_
 rintro e w1 ⟨v,xs,rfl,hown,hxs,hb1⟩
 rw[HE.out] at hxs ⊢
 have HB1:Hid (Below p w w1):=hb0.trans (hb1.mono hsz)
 have hown2:=own_base hown hsz
 obtain⟨av,cv,rfl⟩:=own_slice hown
 have hcap:xs.length≤cv:=by
  rcases hown.2 with ⟨e,h0⟩ | ⟨g,c',cur,e,_,_,h4,_⟩
  ·injection e with e1 e2 e3;omega
  ·injection e with e1 e2 e3;subst e3;exact h4
 have hcm:cv≤9223372036854775807:=by
  rcases hown.2 with ⟨e,h0⟩ | ⟨g,c',cur,e,_,_,h4,h5,_⟩
  ·injection e with e1 e2 e3;omega
  ·injection e with e1 e2 e3;subst e3;exact h5
 have HOW:=hid hown2
 clear hown hown2 hb1 hb0 hr2
 by_cases he:E=0
 ·subst he
  obtain⟨_,_,hm1,hm2⟩:=gchk_zero HE.out
  have hxl:xs.length≤1024:=by
   rw[if_pos rfl] at hxs
   rw[hxs]
   exact Nat.le_trans (reg_len _ _ _ _) (by omega)
  have hq:((xs.length+3) / 4:Nat)≤xs.length:=by omega
  have hx0:0<xs.length∨(xs.length+3) / 4=0:=by omega
  have HT:Hid (w1.ownsRow p 3 1 (.slice av ((xs.length+3) / 4) cv) ((xs.length+3) / 4) (cellsI (ints (xs.take ((xs.length+3) / 4))))):=by
   have:=own_take HOW.out hq hx0
   rwa [cells_take] at this
  have e1:((xs.length:Int)+3) / 4=(((xs.length+3) / 4:Nat):Int):=by omega
  have HX:=hid hxs
  clear hxs
  generalize hqq:(xs.length+3) / 4=qq at*
  go_wp2_with fail
  go_ret2
  refine⟨.slice av qq cv,rfl,xs.take qq,?_,?_,HB1.out⟩
  ·rw[List.length_take,Nat.min_eq_left hq];exact HT.out
  ·have hx:=HX.out
   simp only[if_true] at hx
   unfold core
   rw[←hx,hqq]
 ·have he2:(E != 0)=true:=by simp[he]
  go_wp2_with fail
  go_ret2
  exact⟨.slice none 0 0,rfl,[],World.ownsRow_nil _ _ _ _,by simp,HB1.out⟩
end Go.Proofs.YtmenajiceaicpaaGreat
namespace Go.Proofs.YtmenajiceaicpaaGreat
open Go.RowKit Go.Maps
theorem laidTM:laidOutB Tryz.prog=true:=by kernel_rfl
theorem row41:(119:TypeId)<Tryz.prog.types.size:=of_decide_eq_true (by kernel_rfl)
theorem wide41:(match Tryz.prog.underlying 119 with | some (.array _ _) | some (.struct _)=>true | _=>false)=true:=by rw[Tryz.underlying119]
theorem lawP:Keyed Tryz.prog 119:=Keyed.of_law (deep_law_laid laidTM (m:=2) (by omega) row41 (by kernel_rfl) wide41)
def kP(p:Pr):Lit:= .string (keyBytes [.int .i64 (p.a:Int), .int .i64 (p.b:Int)])
theorem keyType41:Tryz.prog.keyType 119=true:=by kernel_rfl
theorem cells41:Tryz.prog.cellsOf 119=2:=by kernel_rfl
theorem cells3M:Tryz.prog.cellsOf 3=1:=by kernel_rfl
theorem size_typesM: ∃k,Tryz.prog.types.size+1=k+2:=by
 have h:(119:Nat)<Tryz.prog.types.size:=row41
 exact⟨Tryz.prog.types.size - 1,by omega⟩
theorem formedP(x y:Value):(Value.agg #[x,y]).formed Tryz.prog 119=true:=by simp[Value.formed,Tryz.underlying119,cells41]
theorem wf64{x:Int}(h0:0≤x)(h:x≤9223372036854775807):(Lit.int .i64 x).wf=true:=WalkArith.wf_i64 (by omega)
theorem keyOfP(p:Pr)(ha:p.a≤9223372036854775807)(hb:p.b≤9223372036854775807):keyOf Tryz.prog 119 (.agg #[.int .i64 (p.a:Int), .int .i64 (p.b:Int)])=some (kP p):=by
 obtain⟨k,hk⟩:=size_typesM
 have w1:=wf64 (x:=(p.a:Int)) (by omega) (by omega)
 have w2:=wf64 (x:=(p.b:Int)) (by omega) (by omega)
 unfold keyOf
 rw[Tryz.underlying119,hk]
 simp only[keyType41,formedP,Bool.and_self,if_true]
 simp[Program.keyLits,Tryz.underlying119,Tryz.underlying3,cells41,cells3M,Value.cells,w1,w2,kP]
theorem kP_inj{p q:Pr}(hpa:p.a≤9223372036854775807)(hpb:p.b≤9223372036854775807)(hqa:q.a≤9223372036854775807)(hqb:q.b≤9223372036854775807)(h:kP p=kP q):p=q:=by
 have h1:=lawP.inj (keyOfP p hpa hpb) (h▸keyOfP q hqa hqb)
 simp only[Value.agg.injEq,Array.mk.injEq,List.cons.injEq,Value.int.injEq,and_true,true_and] at h1
 cases p;cases q
 simp only[Pr.mk.injEq] at*
 omega
theorem zero85(w:World):(zeroValue 166).run Tryz.prog w= .ok (.agg #[]) w:=by kernel_rfl
def Sm(p:Pr):Prop:=p.a<1024∧p.b<1024
theorem Sm.key{p:Pr}(h:Sm p):keyOf Tryz.prog 119 (.agg #[.int .i64 (p.a:Int), .int .i64 (p.b:Int)])=some (kP p):=keyOfP p (by have:=h.1;omega) (by have:=h.2;omega)
theorem Sm.ne{p q:Pr}(hp:Sm p)(hq:Sm q)(h:p≠q):kP p≠kP q:=fun e=>h (kP_inj (by have:=hp.1;omega) (by have:=hp.2;omega) (by have:=hq.1;omega) (by have:=hq.2;omega) e)
theorem Sm.lit{p:Pr}(h:Sm p):WideAt.IsKeyLit (kP p):=lawP.key h.key
def MapS(w:World)(b n:Nat)(S:List Pr):Prop:= ∃D:DataW Unit,w.ownsMap Tryz.prog 119 (unitElem (H:=Unit)) b n D∧∀p,Sm p→Maps.has D (kP p)=decide (p∈S)
theorem MapS.made(w:World):MapS (w.alloc (.map #[] 0)) w.heap.size 0 []:=⟨_,World.ownsMap_made _ _ _ _,fun p _=>by simp[Maps.has]⟩
theorem MapS.put{D:DataW Unit}{S:List Pr}{q:Pr}(hD:IsMap D)(h: ∀p,Sm p→Maps.has D (kP p)=decide (p∈S))(hq:Sm q): ∀p,Sm p→Maps.has (D.put (kP q) (.agg [])) (kP p)=decide (p∈S++[q]):=fun p hp=>by
 by_cases e:p=q
 ·subst e
  rw[has_put_same hD hp.lit]
  simp
 ·rw[has_put_other (hp.ne hq e),h p hp]
  simp[e]
theorem gby_refl(w:World)(row:Option Nat):w.grownBy w row:=⟨rfl,rfl,rfl,Nat.le_refl _,fun _ _ _=>rfl⟩
def PrsN(w:World)(a:Option Addr)(l:List Pr)(b:Nat):Prop:=l= []∨∃g o,a=some ⟨g,o,none⟩∧g<w.heap.size∧g≠b∧∀j,j<l.length→(l.getD j Pr.zero).at w g (o+j*2)
theorem PrsN.get{w:World}{a:Option Addr}{l:List Pr}{b:Nat}(h:PrsN w a l b): ∃g o,0<l.length→a=some ⟨g,o,none⟩∧g<w.heap.size∧g≠b∧∀j,j<l.length→(l.getD j Pr.zero).at w g (o+j*2):=by
 rcases h with rfl | ⟨g,o,h⟩
 ·exact⟨0,0,fun h=>absurd h (by simp)⟩
 ·exact⟨g,o,fun _=>h⟩
theorem Prs.off{w0 w:World}{a:Option Addr}{l:List Pr}{b:Nat}(h:Prs w0 a l)(hw:Below w0.heap.size w0 w)(hb:w0.heap.size≤b):PrsN w a l b:=by
 rcases h.on hw with h1 | ⟨g,o,rfl,hl,hc⟩
 ·exact .inl h1
 ·rcases h with h1 | ⟨g',o',e,hl',_⟩
  ·exact .inl h1
  ·injection e with e
   injection e with e1 e2
   subst e1
   exact .inr ⟨g,o,rfl,hl,by omega,hc⟩
theorem Pr.at.grown{x:Pr}{w w':World}{g o b:Nat}(h:x.at w g o)(hg:w.grownBy w' (some b))(hl:g<w.heap.size)(hb:g≠b):x.at w' g o:=by
 have e:=hg.block g hl (by simpa using hb)
 exact⟨(World.cell?_of_block (a:=⟨g,o,none⟩) e).trans h.1,(World.cell?_of_block (a:=⟨g,o+1,none⟩) e).trans h.2⟩
set_option maxHeartbeats 800000 in
theorem add_any(w:World)(b n:Nat)(S ms:List Pr)(a:Option Addr)(c:Nat)(hml:ms.length≤16384)(hn:n≤1000000000000)(hsm: ∀p,p∈ms→Sm p)(hps:PrsN w a ms b)(hm:MapS w b n S):
  Calls Tryz.prog 83 #[.map (some b), .slice a ms.length c] w fun e w'=>e= .returned (.tuple #[])∧MapS w' b (n+ms.length) (S++ms)∧w.grownBy w' (some b):=by
 obtain⟨ix,ox,hix⟩:=hps.get
 have HIX:=hid hix
 have HSM:=hid hsm
 have HM:=hid hm
 clear hix hps hsm hm
 go_enter Tryz.func83,Tryz.ntmps83
 go_wp2_with fail
 go_loopw [8] (fun i wr=> ∃ (k:Nat),k≤ms.length∧i= .int .i64 k∧Hid (MapS wr b (n+k) (S++ms.take k))∧Hid (w.grownBy wr (some b))) (fun i _=>ms.length - (intOf i).toNat)
 case atStart=>exact⟨0,Nat.zero_le _,rfl,by rw[List.take_zero,List.append_nil];exact HM,gby_refl _ _⟩
 case round=>
  obtain⟨k,hk,rfl,HMR,HBR⟩:=hrel
  by_cases hlk:k<ms.length
  ·obtain⟨rfl,hbl,hbn,hat⟩:=HIX.out (by omega)
   have hlk':(k:Int)<ms.length:=by omega
   obtain⟨y0,y1⟩:=(hat k hlk).grown HBR.out hbl hbn
   have HTS:=hid (take_snocP hlk)
   have HSX:=hid (HSM.out _ (getD_memP hlk))
   clear hat
   generalize ms.getD k Pr.zero=x at*
   obtain⟨⟨b0,b1⟩,_⟩:=two_cells (heap_top wr (.cells #[.int .i64 (x.a:Int), .int .i64 (x.b:Int)] 119))
   obtain⟨D,hown,hhas⟩:=HMR.out
   have HOW:=hid (hown.alloc (.cells #[.int .i64 (x.a:Int), .int .i64 (x.b:Int)] 119))
   have HPU:=hid (MapS.put hown.isMap hhas HSX.out)
   have HBA:Hid (w.grownBy (wr.alloc (.cells #[.int .i64 (x.a:Int), .int .i64 (x.b:Int)] 119)) (some b)):=HBR.out.trans (World.grownBy_alloc _ _ _)
   have HKX:=hid HSX.out.key
   clear hown hhas
   go_wp2_with (at_mapUpdate;refine wpList_mapUpdate_own _ rfl _ _ _ 112 rfl 119 166 lawP Tryz.underlying112 (unitElem (H:=Unit)) b (n+k) D rfl HOW.out (by unfold maxLen;omega) _ _ (kP x) rfl rfl HKX.out (.agg []) [] unitElem_mk ?_;intro w1 hown1 hgrow1;have HO1:=hid hown1;have HB1:=hid (HBA.out.trans hgrow1);clear hown1 hgrow1)
   refine⟨⟨k+1,by omega,by simp,?_,HB1⟩,by simp[intOf];omega⟩
   rw[HTS.out,←List.append_assoc]
   exact⟨_,HO1.out,HPU.out⟩
  ·obtain rfl:k=ms.length:=by omega
   have hlk': ¬(ms.length:Int)<ms.length:=by omega
   rw[List.take_length] at HMR
   go_wp2_with fail
   go_end0
   exact⟨rfl,HMR.out,HBR.out⟩
end Go.Proofs.YtmenajiceaicpaaGreat
namespace Go.Proofs.YtmenajiceaicpaaGreat.F6
open Go.RowKit
def cellsE:List A→List Value
 | []=> []
 | x::r=> .int .i64 x.f:: .int .i64 x.t:: .int .u32 x.w::cellsE r
theorem cellsE_append: ∀l m:List A,cellsE (l++m)=cellsE l++cellsE m
 | [],_=>rfl
 | x::r,m=>by simp only[cellsE,List.cons_append,cellsE_append r m]
theorem cellsE_at: ∀ (l:List A) (j:Nat),j<l.length→(cellsE l)[j*3]? =some (.int .i64 (l.getD j A.zero).f)∧(cellsE l)[j*3+1]? =some (.int .i64 (l.getD j A.zero).t)∧(cellsE l)[j*3+2]? =some (.int .u32 (l.getD j A.zero).w)
 | [],_,h=>absurd h (by simp)
 | x::r,0,_=>⟨rfl,rfl,rfl⟩
 | x::r,j+1,h=>by
   have:=cellsE_at r j (by simpa using h)
   rw[show(j+1)*3=j*3+3 by omega]
   exact this
theorem cellsE_one: ∀ (l:List A),∀u∈cellsE l,u.oneCell'=true
 | [],u,h=>by cases h
 | x::r,u,h=>by
   simp only[cellsE,List.mem_cons] at h
   rcases h with rfl | rfl | rfl | h
   ·rfl
   ·rfl
   ·rfl
   ·exact cellsE_one r u h
def OwnE(w:World)(B:Nat)(a:Option Addr)(c:Nat)(l:List A):Prop:=w.ownsRow B 184 3 (.slice a l.length c) l.length (cellsE l)
theorem OwnE.some{w:World}{B:Nat}{a:Option Addr}{c:Nat}{l:List A}(h:OwnE w B a c l)(h0:0<l.length): ∃g,a=some ⟨g,0,none⟩∧B≤g∧g<w.heap.size:=by
 rcases h.2 with ⟨_,h'⟩ | ⟨g,c',cur,h',hb,hg,_⟩
 ·omega
 ·injection h' with e1 e2 e3
  exact⟨g,e1,hb,lt_of_block hg⟩
theorem OwnE.at{w:World}{B g c:Nat}{l:List A}(h:OwnE w B (.some ⟨g,0,none⟩) c l)(j:Nat)(hj:j<l.length):(l.getD j A.zero).at w g (j*3):=by
 obtain⟨h1,h2,h3⟩:=cellsE_at l j hj
 exact⟨(World.ownsRow.cellAt h (j*3) (by omega)).trans h1,(World.ownsRow.cellAt h (j*3+1) (by omega)).trans h2,(World.ownsRow.cellAt h (j*3+2) (by omega)).trans h3⟩
theorem OwnE.arcs{w:World}{B:Nat}{a:Option Addr}{c:Nat}{l:List A}(h:OwnE w B a c l):Arcs w a l:=by
 by_cases h0:0<l.length
 ·obtain⟨g,rfl,_,hg⟩:=h.some h0
  exact Or.inr ⟨g,0,rfl,hg,fun j hj=>by rw[Nat.zero_add];exact h.at j hj⟩
 ·exact Or.inl (List.eq_nil_of_length_eq_zero (by omega))
theorem OwnE.alloc{w:World}{B:Nat}{a:Option Addr}{c:Nat}{l:List A}(h:OwnE w B a c l)(o:Obj):OwnE (w.alloc o) B a c l:=World.ownsRow.alloc h o
end Go.Proofs.YtmenajiceaicpaaGreat.F6
namespace Go.Proofs.YtmenajiceaicpaaGreat
open Go.RowKit
theorem info94:(Tryz.prog.info? 184).map (fun i=>(i.zero,i.size,i.bytes))=some (some (.agg #[.int .i64 0, .int .i64 0, .int .u32 0]),3,24):=by kernel_rfl
def ndk(q:List Nat)(cr:Nat):Nat→Nat→Nat
 | 0,_=>1
 | k+1,v=>if v=q.getD k 0 then (if k<cr then 0 else 2+k - cr) else ndk q cr k v
def nd(q:List Nat)(cr:Nat):Nat→Nat:=ndk q cr q.length
set_option maxHeartbeats 1600000 in
theorem nodes_any(n:Nat)(s:Value)(a:Option Addr)(q:List Nat)(cr c:Nat)(w:World)(hn:n≤1024)(hql:q.length≤1024)(hqn: ∀u,u∈q→u<n)(hr:Ints w a (ints q)):
  Calls Tryz.prog 116 #[.agg #[.int .i64 n,s], .slice a q.length c, .int .i64 cr] w fun e w'=> ∃b,e= .returned (.slice (some ⟨b,0,none⟩) n n)∧w.heap.size≤b∧TbV w' b n 3 (fun v=> .int .i64 (nd q cr v:Nat))∧Below w.heap.size w w':=by
 have hb0:Below w.heap.size w (w.alloc (.cells #[.int .i64 n,s] 24)):=(Below.refl _ _).alloc (Nat.le_refl _) _
 have hg:=heap_top w (.cells #[.int .i64 n,s] 24)
 obtain⟨i3,hi3,hz3,hs3,hb3⟩:=info_parts info3
 have hmk: ∀w,(Instr.makeSlice 25 (.int .i64 n) (.int .i64 n)).run Tryz.prog w= .ok (.slice (some ⟨w.heap.size,0,none⟩) n n) (w.alloc (.cells ((List.range n).map (fun _=>Value.int .i64 0)).toArray 3)):=fun w=>by
  have:=run_make (P:=Tryz.prog) w 25 3 i3 (.int .i64 0) Tryz.underlying25 hi3 hz3 .i64 .i64 n n (by omega) (by omega) (by rw[hb3];omega) (by omega)
  rw[this,Int.toNat_natCast,hs3,made_int]
 clear hi3 hz3 hs3 hb3
 clear i3
 obtain⟨ix,ox,hix⟩:=hr.get
 have HIX:=hid hix
 have HQN:=hid hqn
 clear hix hr hqn
 generalize hp:w.heap.size=p at*
 have hgv:=(Below.heap_alloc (w.alloc (.cells #[.int .i64 n,s] 24)) (.cells ((List.range n).map (fun _=>Value.int .i64 0)).toArray 3) p (lt_of_block hg)).trans hg
 have HT0:Hid (TbV ((w.alloc (.cells #[.int .i64 n,s] 24)).alloc (.cells ((List.range n).map (fun _=>Value.int .i64 0)).toArray 3)) (p+1) n 3 (fun _=> .int .i64 0)):=by
  have:=heap_top (w.alloc (.cells #[.int .i64 n,s] 24)) (.cells ((List.range n).map (fun _=>Value.int .i64 0)).toArray 3)
  rw[World.size_alloc,hp] at this
  exact this
 have HBV:Hid (Below p w ((w.alloc (.cells #[.int .i64 n,s] 24)).alloc (.cells ((List.range n).map (fun _=>Value.int .i64 0)).toArray 3))):=hb0.alloc (by simp;omega) _
 go_enter Tryz.func116,Tryz.ntmps116
 go_wp2_with fail
 generalize hV:(w.alloc (.cells #[.int .i64 n,s] 24)).alloc (.cells ((List.range n).map (fun _=>Value.int .i64 0)).toArray 3)=V at*
 clear hV hmk hg hb0
 go_loopw [16] (fun i wr=> ∃k:Nat,k≤n∧i= .int .i64 k∧TbV wr (p+1) n 3 (fun v=> .int .i64 (if v<k then 1 else 0))∧Hid (Fr (fun j=>j=p+1) V wr)) (fun i _=>n - (intOf i).toNat)
 case atStart=>exact⟨0,Nat.zero_le _,rfl,HT0.out.congr (fun v _=>by simp),Fr.refl _ _⟩
 case round=>
  obtain⟨k,hk,rfl,htb,HF⟩:=hrel
  by_cases hlt:k<n
  ·have hlt':(k:Int)<n:=by omega
   have d1:=htb.cell hlt
   have d2:=htb.free k
   generalize (if k<k then (1:Int) else 0)=old at d1
   go_wp2_with fail
   refine⟨⟨k+1,by omega,by simp,(htb.set k (.int .i64 1)).congr (fun v _=> ?_),HF.out.setCell ⟨p+1,k,none⟩ _ rfl⟩,by simp[intOf];omega⟩
   by_cases e:v=k
   ·subst e;rw[updV_self,if_pos (by omega)]
   ·rw[updV_ne _ _ e]
    by_cases h:v<k
    ·rw[if_pos h,if_pos (by omega)]
    ·rw[if_neg h,if_neg (by omega)]
  ·obtain rfl:k=n:=by omega
   have hlt': ¬(k:Int)<k:=by omega
   have HT1:Hid (TbV wr (p+1) k 3 (fun v=> .int .i64 (ndk q cr 0 v:Nat))):=htb.congr (fun v hv=>by rw[if_pos hv];rfl)
   have HF1:=HF
   clear htb HF hlt hk
   go_wp2_with fail
   generalize wr=w2 at*
   go_loopw [25] (fun i wr=> ∃j:Nat,j≤q.length∧i= .int .i64 j∧TbV wr (p+1) k 3 (fun v=> .int .i64 (ndk q cr j v:Nat))∧Hid (Fr (fun j=>j=p+1) V wr)) (fun i _=>q.length - (intOf i).toNat)
   case atStart=>exact⟨0,Nat.zero_le _,rfl,HT1.out,HF1⟩
   case round=>
    obtain⟨j,hj,rfl,htb,HF⟩:=hrel
    have HBR:Hid (Below p w wr):=HBV.out.trans (HF.out.below (B:=p) (hp▸HBV.out.size) (fun k e=>by have e:k=p+1:=e;omega))
    by_cases hlj:j<q.length
    ·obtain⟨rfl,hbl,hat⟩:=HIX.out (by rw[ints_len];omega)
     have hlj':(j:Int)<q.length:=by omega
     have cx:=(HBR.out.cell (p:=⟨ix,ox+j,none⟩) (hp▸hbl)).trans (hat j (by rw[ints_len];exact hlj))
     rw[ints_getD hlj] at cx
     have hun:q.getD j 0<k:=HQN.out _ (by simp[List.getD,List.getElem?_eq_getElem hlj])
     have HST:Hid (∀v,ndk q cr (j+1) v=if v=q.getD j 0 then (if j<cr then 0 else 2+j - cr) else ndk q cr j v):=fun v=>rfl
     clear hat
     generalize q.getD j 0=u at*
     have hun':(u:Int)<k:=by omega
     have d1:=htb.cell hun
     have d2:=htb.free u
     generalize ((ndk q cr j u:Nat):Int)=old at d1
     by_cases hjc:j<cr
     ·have hjc':(j:Int)<cr:=by omega
      go_wp2_with fail
      refine⟨⟨j+1,by omega,by simp,(htb.set u (.int .i64 0)).congr (fun v _=> ?_),HF.out.setCell ⟨p+1,u,none⟩ _ rfl⟩,by simp[intOf];omega⟩
      rw[HST.out v]
      by_cases e:v=u
      ·subst e;rw[updV_self,if_pos rfl,if_pos hjc];rfl
      ·rw[updV_ne _ _ e,if_neg e]
     ·have hjc': ¬(j:Int)<cr:=by omega
      have hs1:(2:Int)+j - cr=((2+j - cr:Nat):Int):=by omega
      go_wp2_with fail
      refine⟨⟨j+1,by omega,by simp,(htb.set u (.int .i64 ((2+j - cr:Nat):Int))).congr (fun v _=> ?_),HF.out.setCell ⟨p+1,u,none⟩ _ rfl⟩,by simp[intOf];omega⟩
      rw[HST.out v]
      by_cases e:v=u
      ·subst e;rw[updV_self,if_pos rfl,if_neg hjc]
      ·rw[updV_ne _ _ e,if_neg e]
    ·obtain rfl:j=q.length:=by omega
     have hlj': ¬(q.length:Int)<q.length:=by omega
     have HTB:=hid htb
     clear htb
     go_wp2_with fail
     go_ret
     exact⟨p+1,rfl,by omega,HTB.out,HBR.out⟩
end Go.Proofs.YtmenajiceaicpaaGreat
namespace Go.Proofs.YtmenajiceaicpaaGreat
open Go.RowKit
def ed2(D:Nat→Nat)(p:Pr):List F6.A:=if D p.a=D p.b then [] else [⟨(D p.a:Nat),(D p.b:Nat),1⟩,⟨(D p.b:Nat),(D p.a:Nat),1⟩]
def eds(ps:List Pr)(D:Nat→Nat):List F6.A:=ps.flatMap (ed2 D)
theorem eds_snoc(q:List Pr)(p:Pr)(D:Nat→Nat):eds (q++[p]) D=eds q D++ed2 D p:=by simp[eds,List.flatMap_append]
theorem ed2_len(D:Nat→Nat)(p:Pr):(ed2 D p).length≤2:=by unfold ed2;split <;> simp
theorem eds_len(D:Nat→Nat): ∀ps:List Pr,(eds ps D).length≤2*ps.length
 | []=>by simp[eds]
 | p::r=>by
   have h1:=eds_len D r
   have h2:=ed2_len D p
   have:eds (p::r) D=ed2 D p++eds r D:=by simp[eds]
   rw[this,List.length_append,List.length_cons]
   omega
theorem news2(w:World)(x y:Nat): ∀j u,(F6.cellsE [⟨(x:Int),(y:Int),1⟩,⟨(y:Int),(x:Int),1⟩])[j]? =some u→(w.alloc (.cells #[.int .i64 (x:Int), .int .i64 (y:Int), .int .u32 1, .int .i64 (y:Int), .int .i64 (x:Int), .int .u32 1] 184)).cell? ((⟨w.heap.size,0,none⟩:Addr).add j)=some u:=by
 intro j u hu
 have h:=heap_top w (.cells #[.int .i64 (x:Int), .int .i64 (y:Int), .int .u32 1, .int .i64 (y:Int), .int .i64 (x:Int), .int .u32 1] 184)
 rw[Go.WideShapes.add_plain,Nat.zero_add]
 generalize w.alloc (.cells #[.int .i64 (x:Int), .int .i64 (y:Int), .int .u32 1, .int .i64 (y:Int), .int .i64 (x:Int), .int .u32 1] 184)=W at*
 generalize w.heap.size=b at*
 match j,hu with
 | 0,hu=>simp[F6.cellsE] at hu;subst hu;simp[World.cell?,h]
 | 1,hu=>simp[F6.cellsE] at hu;subst hu;simp[World.cell?,h]
 | 2,hu=>simp[F6.cellsE] at hu;subst hu;simp[World.cell?,h]
 | 3,hu=>simp[F6.cellsE] at hu;subst hu;simp[World.cell?,h]
 | 4,hu=>simp[F6.cellsE] at hu;subst hu;simp[World.cell?,h]
 | 5,hu=>simp[F6.cellsE] at hu;subst hu;simp[World.cell?,h]
 | j+6,hu=>simp[F6.cellsE] at hu
set_option maxHeartbeats 1600000 in
theorem edges_any(ps:List Pr)(a:Option Addr)(c b n:Nat)(D:Nat→Nat)(w:World)(hpl:ps.length≤8192)(hps:Prs w a ps)(hlt: ∀p,p∈ps→p.a<n∧p.b<n)(ht:TbV w b n 3 (fun v=> .int .i64 (D v:Nat))):
  Calls Tryz.prog 117 #[.slice a ps.length c, .slice (some ⟨b,0,none⟩) n n] w fun e w'=> ∃v c',e= .returned (.slice v (eds ps D).length c')∧F6.OwnE w' w.heap.size v c' (eds ps D)∧Below w.heap.size w w':=by
 obtain⟨i0,hi,hz0,hz1,hz2⟩:=info_parts info94
 obtain⟨ix,ox,hix⟩:=hps.get
 have HIX:=hid hix
 have HLT:=hid hlt
 have HTB:=hid ht
 clear hix hps hlt ht
 obtain⟨z0,hz0'⟩: ∃z0:Array Value,(madeCells (Value.agg #[.int .i64 0, .int .i64 0, .int .u32 0]).cells (2*ps.length*3))=z0∧z0.size=2*ps.length*3:=⟨_,rfl,by simp[madeCells]⟩
 have hmk: ∀w,(Instr.makeSlice 159 (.int .i64 0) (.int .i64 (2*(ps.length:Int)))).run Tryz.prog w= .ok (.slice (some ⟨w.heap.size,0,none⟩) 0 (2*ps.length)) (w.alloc (.cells z0 184)):=fun w=>by
  have:=run_make (P:=Tryz.prog) w 159 184 i0 _ Tryz.underlying159 hi hz0 .i64 .i64 0 (2*(ps.length:Int)) (by omega) (by omega) (by rw[hz2];omega) (by omega)
  rw[hz1] at this
  rw[this,show(2*(ps.length:Int)).toNat=2*ps.length by omega,hz0'.1]
  rfl
 have HO0:Hid ((w.alloc (.cells z0 184)).ownsRow w.heap.size 184 3 (.slice (some ⟨w.heap.size,0,none⟩) 0 (2*ps.length)) 0 []):=⟨rfl, .inr ⟨w.heap.size,2*ps.length,z0,rfl,Nat.le_refl _,heap_top w _,by omega,by unfold maxLen;omega,hz0'.2,by simp⟩⟩
 have HB0:Hid (Below w.heap.size w (w.alloc (.cells z0 184))):=(Below.refl _ _).alloc (Nat.le_refl _) _
 clear hz0'
 generalize hp:w.heap.size=p at*
 go_enter Tryz.func117,Tryz.ntmps117
 go_wp2_with fail
 generalize hV:w.alloc (.cells z0 184)=V at*
 clear hV hmk
 go_loopw [5,16] (fun s5 i wr=> ∃ (k:Nat) (av:Option Addr) (cv len:Nat),k≤ps.length∧i= .int .i64 k∧s5= .slice av len cv∧Hid ((eds (ps.take k) D).length=len)∧Hid (wr.ownsRow p 184 3 (.slice av len cv) len (F6.cellsE (eds (ps.take k) D)))∧Hid (Below p w wr)) (fun _ i _=>ps.length - (intOf i).toNat)
 case atStart=>exact⟨0,some ⟨p,0,none⟩,2*ps.length,0,Nat.zero_le _,rfl,rfl,rfl,HO0,HB0⟩
 case round=>
  obtain⟨k,av,cv,len,hk,rfl,rfl,HLN,HOW,HBR⟩:=hrel
  have hpw:p≤wr.heap.size:=hp▸HBR.out.size
  by_cases hlk:k<ps.length
  ·obtain⟨rfl,hbl,hat⟩:=HIX.out (by omega)
   have hlk':(k:Int)<ps.length:=by omega
   obtain⟨x0,x1⟩:=hat k hlk
   have y0:=(HBR.out.cell (p:=⟨ix,ox+k*2,none⟩) (hp▸hbl)).trans x0
   have y1:=(HBR.out.cell (p:=⟨ix,ox+k*2+1,none⟩) (hp▸hbl)).trans x1
   have HTS:=hid (take_snocP hlk)
   obtain⟨ha,hb⟩:=HLT.out (ps.getD k Pr.zero) (getD_memP hlk)
   have hlen:len≤16384:=by
    rw[←HLN.out]
    have:=eds_len D (ps.take k)
    rw[List.length_take] at this
    omega
   clear hat x0 x1
   generalize ps.getD k Pr.zero=x at*
   have htr:TbV (wr.alloc (.cells #[.int .i64 (x.a:Int), .int .i64 (x.b:Int)] 119)) b n 3 (fun v=> .int .i64 (D v:Nat)):=HTB.out.same (((HBR.out.alloc (by omega) _).block b (hp▸HTB.out.lt)))
   have ha':(x.a:Int)<n:=by omega
   have hb':(x.b:Int)<n:=by omega
   have da:=htr.cell ha
   have db:=htr.cell hb
   have HSN:=hid (eds_snoc (ps.take k) x D)
   have hbx:=heap_top wr (.cells #[.int .i64 (x.a:Int), .int .i64 (x.b:Int)] 119)
   obtain⟨⟨b0,b1⟩,_⟩:=two_cells hbx
   have HOA:=hid (HOW.out.alloc (.cells #[.int .i64 (x.a:Int), .int .i64 (x.b:Int)] 119))
   have HBA:Hid (Below p w (wr.alloc (.cells #[.int .i64 (x.a:Int), .int .i64 (x.b:Int)] 119))):=HBR.out.alloc (by omega) _
   have hzA:(wr.alloc (.cells #[.int .i64 (x.a:Int), .int .i64 (x.b:Int)] 119)).heap.size=wr.heap.size+1:=by simp
   clear htr hbx
   unfold ed2 at HSN
   go_wp2_with fail
   generalize hU:wr.alloc (.cells #[.int .i64 (x.a:Int), .int .i64 (x.b:Int)] 119)=U at*
   go_quiet (fail)
   have HON:Hid ((U.drewN nq).ownsRow p 184 3 (.slice av len cv) len (F6.cellsE (eds (ps.take k) D))):=HOA.out
   have HBN:Hid (Below p w (U.drewN nq)):=⟨HBA.out.os,HBA.out.tape,HBA.out.output,HBA.out.size,HBA.out.block⟩
   have hzN:(U.drewN nq).heap.size=wr.heap.size+1:=hzA
   generalize hUN:U.drewN nq=UN at*
   generalize hda:D x.a=na at*
   generalize hdb:D x.b=nb at*
   by_cases hab:na=nb
   ·subst hab
    have hne:((na:Int) != (na:Int))=false:=by simp
    have HE2:Hid (eds (ps.take (k+1)) D=eds (ps.take k) D):=by show _=_;rw[HTS.out,HSN.out,if_pos rfl,List.append_nil]
    go_wp2_with fail
    refine⟨⟨k+1,av,cv,len,by omega,by simp,rfl,?_,?_,HBN⟩,by simp[intOf];omega⟩
    ·rw[HE2.out];exact HLN
    ·rw[HE2.out];exact HON
   ·have hne:((na:Int) != (nb:Int))=true:=by simp;omega
    have HE2:Hid (eds (ps.take (k+1)) D=eds (ps.take k) D++[⟨(na:Int),(nb:Int),1⟩,⟨(nb:Int),(na:Int),1⟩]):=by show _=_;rw[HTS.out,HSN.out,if_neg hab]
    have hnw:=news2 UN na nb
    rw[hzN] at hnw
    have HNW:=hid hnw
    clear hnw
    have HOW2:=hid (HON.out.alloc (.cells #[.int .i64 (na:Int), .int .i64 (nb:Int), .int .u32 1, .int .i64 (nb:Int), .int .i64 (na:Int), .int .u32 1] 184))
    have HBS:Hid (p≤(UN.alloc (.cells #[.int .i64 (na:Int), .int .i64 (nb:Int), .int .u32 1, .int .i64 (nb:Int), .int .i64 (na:Int), .int .u32 1] 184)).heap.size):=by show _≤_;simp;omega
    have HBB:Hid (Below p w (UN.alloc (.cells #[.int .i64 (na:Int), .int .i64 (nb:Int), .int .u32 1, .int .i64 (nb:Int), .int .i64 (na:Int), .int .u32 1] 184))):=HBN.out.alloc (by omega) _
    have HOL:Hid (∀b,(Value.slice av len cv).ownBlock=some b→p≤b):=fun b hb=>(HOW.out.lt b hb).1
    have HCA:Hid (F6.cellsE (eds (ps.take k) D)++F6.cellsE [⟨(na:Int),(nb:Int),1⟩,⟨(nb:Int),(na:Int),1⟩]=F6.cellsE (eds (ps.take (k+1)) D)):=by show _=_;rw[HE2.out,F6.cellsE_append]
    have HL2:Hid ((eds (ps.take (k+1)) D).length=len+2):=by show _=_;rw[HE2.out,List.length_append,HLN.out];rfl
    go_wp2_with (at_builtin;refine wpList_append_own _ rfl (.tmp 33) (.tmp 40) 159 rfl p 184 i0 _ 3 24 Tryz.underlying159 hi hz0 hz1 hz2 rfl (by decide) (.slice av len cv) len (F6.cellsE (eds (ps.take k) D)) rfl HOW2.out ⟨wr.heap.size+1,0,none⟩ 2 2 (F6.cellsE [⟨(na:Int),(nb:Int),1⟩,⟨(nb:Int),(na:Int),1⟩]) rfl rfl HNW.out (F6.cellsE_one _) (by unfold maxLen;omega) (by omega) HBS.out ?_;intro v6 w6 hown6 hgrow6 hnil6;obtain⟨g6,c6,hv6,_,_,_,_⟩:=own_shape hown6 (fun e=>by have:=hnil6.1 e;simp at this);subst hv6;rw[HCA.out] at hown6;have HO6:=hid hown6;have HB6:=hid (HBB.out.grown hgrow6 HBS.out (by intro b hb;exact HOL.out b hb));clear hown6 hgrow6 hnil6)
    exact⟨⟨k+1,some ⟨g6,0,none⟩,c6,len+2,by omega,by simp,rfl,HL2,HO6,HB6⟩,by simp[intOf];omega⟩
  ·have e0:ps.take k=ps:=List.take_of_length_le (by omega)
   have hlk': ¬(k:Int)<ps.length:=by omega
   rw[e0] at HLN HOW
   clear e0
   go_wp2_with fail
   go_ret
   refine⟨av,cv,by rw[HLN.out];rfl,?_,HBR.out⟩
   show World.ownsRow _ _ _ _ _ _ _
   rw[HLN.out];exact HOW.out
theorem ndk_lt{q:List Nat}{cr:Nat}(hc:cr≤q.length): ∀k,k≤q.length→∀v,ndk q cr k v<2+q.length - cr
 | 0,_,v=>by simp only[ndk];omega
 | k+1,hk,v=>by
   simp only[ndk]
   split
   ·split <;> omega
   ·exact ndk_lt hc k (by omega) v
theorem nd_lt{q:List Nat}{cr:Nat}(hc:cr≤q.length)(v:Nat):nd q cr v<2+q.length - cr:=ndk_lt hc _ (Nat.le_refl _) v
theorem eds_mem{ps:List Pr}{D:Nat→Nat}{x:F6.A}(h:x∈eds ps D): ∃i j,x=⟨(D i:Nat),(D j:Nat),1⟩:=by
 obtain⟨p,_,hp⟩:=List.mem_flatMap.1 h
 unfold ed2 at hp
 split at hp
 ·cases hp
 ·simp only[List.mem_cons,List.not_mem_nil,or_false] at hp
  rcases hp with h | h
  ·exact⟨_,_,h⟩
  ·exact⟨_,_,h⟩
theorem prl_ltM{n:Nat}{l:List A}(hoa: ∀x,x∈l→(0≤x.f∧x.f<(n:Int))∧(0≤x.t∧x.t<(n:Int))){p:Pr}(hp:p∈prl l):p.a<n∧p.b<n:=by
 obtain⟨_,h⟩:=(prl_mem (fun x hx=>⟨(hoa x hx).1.1,(hoa x hx).2.1⟩)).1 hp
 unfold nr at h
 obtain⟨x,hx,h⟩:=List.any_eq_true.1 h
 have:=hoa x hx
 simp only[Bool.or_eq_true,Bool.and_eq_true,beq_iff_eq] at h
 omega
theorem reg_lt{N:Nat}{l:List A}{c m:Nat}(hc:c<N): ∀u,u∈reg N l c m→u<N:=fun u hu=>(gro_inv (E:=edl l) (M:=2*l.length) (S:=fun _=>false) hc N).lt u (List.mem_of_mem_take hu)
theorem reg_nodup{N:Nat}{l:List A}{c m:Nat}(hc:c<N):(reg N l c m).Nodup:=((gro_inv (E:=edl l) (M:=2*l.length) (S:=fun _=>false) hc N).nd).sublist (List.take_sublist _ _)
theorem reg_short{N:Nat}{l:List A}{c m:Nat}(hc:c<N):(reg N l c m).length≤N:=nodup_short (reg_nodup hc) (reg_lt hc)
theorem whole_some(E:List Ed)(M N:Nat)(S:Nat→Bool)(c:Nat):1≤(whole E M N S c).length:=by
 have h:=(gro_pre (E:=E) (M:=M) (N:=N) (S:=S) (c:=c) (k:=0) N).length_le
 rw[Nat.zero_add] at h
 exact h
theorem reg_some(N:Nat)(l:List A)(c:Nat){m:Nat}(hm:1≤m):1≤(reg N l c m).length:=by
 unfold reg
 rw[List.length_take]
 have:=whole_some (edl l) (2*l.length) N (fun _=>false) c
 omega
theorem core_len(N:Nat)(l:List A)(c m:Nat):(core N l c m).length=((reg N l c m).length+3) / 4:=by
 unfold core
 rw[List.length_take]
 omega
def dN(n:Nat)(l:List A)(c m:Nat):Nat→Nat:=nd (reg n l c m) (core n l c m).length
def nN(n:Nat)(l:List A)(c m:Nat):Nat:=2+(reg n l c m).length - (core n l c m).length
def eN(n:Nat)(l:List A)(c m:Nat):List F6.A:=eds (prl l) (dN n l c m)
theorem core_le(n:Nat)(l:List A)(c m:Nat):(core n l c m).length≤(reg n l c m).length:=by rw[core_len];omega
theorem dN_lt(n:Nat)(l:List A)(c m v:Nat):dN n l c m v<nN n l c m:=nd_lt (core_le n l c m) v
theorem nN_two(n:Nat)(l:List A)(c m:Nat):2≤nN n l c m:=by have:=core_le n l c m;unfold nN;omega
theorem eN_ok{n:Nat}{l:List A}{c m:Nat}(hn:n≤1024)(hl:l.length≤8192)(hc:c<n)(hm:1≤m):F6.flE (nN n l c m:Nat) (eN n l c m) 0 1=0∧F6.Ok (nN n l c m:Nat) (eN n l c m) ((0:Nat):Int) ((1:Nat):Int) (nN n l c m) 0 1:=by
 have h1:=reg_some n l c hm
 have h2:=reg_short (l:=l) (m:=m) hc
 have h3:=core_len n l c m
 have h4:=core_le n l c m
 have h5:nN n l c m≤1024:=by unfold nN;omega
 have h6:=nN_two n l c m
 have h7:(eN n l c m).length≤16384:=Nat.le_trans (eds_len _ _) (by have:=prl_len l;omega)
 have h8: ∀x,x∈eN n l c m→∃i j:Nat,i<nN n l c m∧j<nN n l c m∧x=⟨(i:Int),(j:Int),1⟩:=fun x hx=>by
  obtain⟨i,j,h⟩:=eds_mem hx
  exact⟨_,_,dN_lt n l c m i,dN_lt n l c m j,h⟩
 have h9:F6.chkE (nN n l c m:Nat) (eN n l c m)=0:=by
  unfold F6.chkE
  rw[if_neg (by omega),if_neg (by omega),if_pos]
  rw[List.all_eq_true]
  intro x hx
  obtain⟨i,j,hi,hj,rfl⟩:=h8 x hx
  simp[F6.okA,F6.okV,hi,hj]
 refine⟨?_,rfl,rfl,rfl,⟨by omega,h5,by rw[F6.edl_len];exact h7,?_,?_⟩,?_,by omega,by omega,by omega⟩
 ·unfold F6.flE
  rw[if_pos h9,if_pos (by simp[F6.okV];omega),if_pos (by simp[F6.okV];omega),if_neg (by omega)]
 ·intro j hj
  rw[F6.edl_len] at hj
  rw[F6.edl_at hj]
  obtain⟨i,k,hi,hk,e⟩:=h8 ((eN n l c m).getD j F6.A.zero) (by simp[List.getD,List.getElem?_eq_getElem hj])
  rw[e]
  exact⟨by simpa using hi,by simpa using hk⟩
 ·intro j hj
  rw[F6.edl_len] at hj
  rw[F6.edl_at hj]
  obtain⟨i,k,hi,hk,e⟩:=h8 ((eN n l c m).getD j F6.A.zero) (by simp[List.getD,List.getElem?_eq_getElem hj])
  rw[e]
  exact⟨show(0:Int)≤1 by decide,show(1:Int)<4294967296 by decide⟩
 ·intro x hx
  obtain⟨i,j,hi,hj,rfl⟩:=h8 x hx
  exact⟨by simp,by simp⟩
structure Cf(n:Nat)(l:List A)(c m:Nat)(fl rk:Nat→Int):Prop where
 flow:F6.Flow (nN n l c m) (F6.edl (eN n l c m)) 0 1 fl
 rank:F6.Rk (nN n l c m) (eN n l c m).length (F6.edl (eN n l c m)) fl 1 0 1 rk
 far:rk 1= -1
def cutP(n:Nat)(l:List A)(c m:Nat)(rk:Nat→Int):List Pr:=(prl l).filter (fun p=>F6.side rk (dN n l c m p.a) != F6.side rk (dN n l c m p.b))
def CutIs(n:Nat)(l:List A)(c m:Nat)(xs:List Pr):Prop:=if (reg n l c m).length=n then xs= [] else ∃fl rk,Cf n l c m fl rk∧xs=cutP n l c m rk
theorem Cf.one{n:Nat}{l:List A}{c m:Nat}{f1 r1 f2 r2:Nat→Int}(hn:n≤1024)(hl:l.length≤8192)(hc:c<n)(hm:1≤m)(h1:Cf n l c m f1 r1)(h2:Cf n l c m f2 r2):cutP n l c m r1=cutP n l c m r2:=by
 obtain⟨_,ok⟩:=eN_ok (m:=m) hn hl hc hm
 have hE: ∀k,k<2*(eN n l c m).length→F6.frm (F6.edl (eN n l c m)) k<nN n l c m∧F6.tto (F6.edl (eN n l c m)) k<nN n l c m:=fun k hk=>by
  have:=ok.g.ends (k / 2) (by rw[F6.edl_len];omega)
  unfold F6.frm F6.tto
  split
  ·exact this
  ·exact⟨this.2,this.1⟩
 have key:=F6.Rk.both ok.g (by have:=nN_two n l c m;omega) (F6.edl_len _) hE h1.rank h2.rank h1.flow h2.flow h1.far h2.far
 unfold cutP
 refine List.filter_congr (fun p _=> ?_)
 rw[key _ (dN_lt n l c m p.a),key _ (dN_lt n l c m p.b)]
theorem CutIs.one{n:Nat}{l:List A}{c m:Nat}{xs ys:List Pr}(hn:n≤1024)(hl:l.length≤8192)(hc:c<n)(hm:1≤m)(h1:CutIs n l c m xs)(h2:CutIs n l c m ys):xs=ys:=by
 unfold CutIs at h1 h2
 by_cases h:(reg n l c m).length=n
 ·rw[if_pos h] at h1 h2;rw[h1,h2]
 ·rw[if_neg h] at h1 h2
  obtain⟨f1,r1,a1,b1⟩:=h1
  obtain⟨f2,r2,a2,b2⟩:=h2
  rw[b1,b2]
  exact a1.one hn hl hc hm a2
end Go.Proofs.YtmenajiceaicpaaGreat
