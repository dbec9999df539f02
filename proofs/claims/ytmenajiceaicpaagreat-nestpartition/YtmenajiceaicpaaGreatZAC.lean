import Derived.Deep.DeepCutAuto
import Derived.Test.YtmenajiceaicpaaGreatZAA
import Derived.Test.YtmenajiceaicpaaGreatZAB
import Derived.RangeFuncNested
import Derived.RangeFuncBound
import Derived.Shelf.RegionOpen
import Derived.WalkKit
import Derived.OwnWalkIn
import Derived.LoopNIn
import Derived.LoopIn
open Go.Lib (hid)
set_option maxRecDepth 100000
namespace Go.Proofs.YtmenajiceaicpaaGreat
open Go.RowKit
structure Gr(w:World)(f b1 b2 bs N:Nat)(a:Option Addr)(cap:Nat)(l:List A)(S:Nat→Bool):Prop where
 gw:Gw w f b1 b2 bs N l.length a cap
 ar:Arcs w a l
 fi:TbV w b1 N 3 (fun v=> .int .i64 (lst (edl l) v (2*l.length)))
 nx:TbV w b2 (2*l.length) 3 (fun k=> .int .i64 (lst (edl l) (frm (edl l) k) k))
 sn:TbV w bs N 4 (fun u=> .bool (S u))
def abl(a:Option Addr)(l:List A)(j:Nat):Prop:=l≠ []∧∃x,a=some x∧x.block=j
structure Gf(B f b1 b2 bs N:Nat)(a:Option Addr)(l:List A):Prop where
 ne:f≠b1∧f≠b2∧f≠bs∧b1≠b2∧b1≠bs∧b2≠bs
 lt:f<B∧b1<B∧b2<B∧bs<B
 av: ∀j,abl a l j→j<B∧j≠bs
 nb:N≤1024
 mb:l.length≤16384
 po: ∀x,x∈l→0≤x.f∧x.f<N∧0≤x.t∧x.t<N
theorem Gf.tto{B f b1 b2 bs N:Nat}{a:Option Addr}{l:List A}(g:Gf B f b1 b2 bs N a l){k:Nat}(hk:k<2*l.length):tto (edl l) k<N:=by
 have hj:k / 2<l.length:=by omega
 have:=g.po (l.getD (k / 2) A.zero) (by simp[List.getD,List.getElem?_eq_getElem hj])
 unfold YtmenajiceaicpaaGreat.tto
 rw[edl_at hj]
 generalize l.getD (k / 2) A.zero=x at*
 show(if k % 2=0 then x.t.toNat else x.f.toNat)<N
 split <;> omega
theorem Arcs.fr{D:Nat→Prop}{w w':World}{a:Option Addr}{l:List A}(h:Arcs w a l)(hf:Fr D w w')(hd: ∀j,abl a l j→¬D j):Arcs w' a l:=by
 rcases h with h | ⟨b,o,rfl,hb,hat⟩
 ·exact .inl h
 ·by_cases hl:l= []
  ·exact .inl hl
  ·have e:=hf.block b hb (hd _ ⟨hl,_,rfl,rfl⟩)
   refine .inr ⟨b,o,rfl,Nat.lt_of_lt_of_le hb hf.size,fun j hj=> ?_⟩
   obtain⟨h1,h2,h3⟩:=hat j hj
   exact⟨(World.cell?_of_block (a:=⟨b,_,none⟩) e).trans h1,(World.cell?_of_block (a:=⟨b,_,none⟩) e).trans h2,(World.cell?_of_block (a:=⟨b,_,none⟩) e).trans h3⟩
theorem Gr.fr{D:Nat→Prop}{w w':World}{B f b1 b2 bs N:Nat}{a:Option Addr}{cap:Nat}{l:List A}{S:Nat→Bool}(h:Gr w f b1 b2 bs N a cap l S)(g:Gf B f b1 b2 bs N a l)(hf:Fr D w w')(hd: ∀j,j<B→¬D j):Gr w' f b1 b2 bs N a cap l S:=
 ⟨h.gw.fr hf (hd _ g.lt.1),h.ar.fr hf (fun j hj=>hd _ (g.av j hj).1),h.fi.fr hf (hd _ g.lt.2.1),h.nx.fr hf (hd _ g.lt.2.2.1),h.sn.fr hf (hd _ g.lt.2.2.2)⟩
theorem Gr.mark{w:World}{B f b1 b2 bs N:Nat}{a:Option Addr}{cap:Nat}{l:List A}{S S':Nat→Bool}(h:Gr w f b1 b2 bs N a cap l S)(g:Gf B f b1 b2 bs N a l){u:Nat}(hS: ∀x,S' x=(S x||decide (x=u))):Gr (w.setCell ⟨bs,u,none⟩ (.bool true)) f b1 b2 bs N a cap l S':=by
 have f1:Fr (fun j=>j=bs) w (w.setCell ⟨bs,u,none⟩ (.bool true)):=(Fr.refl _ w).setCell ⟨bs,u,none⟩ _ rfl
 refine⟨h.gw.fr f1 g.ne.2.2.1,h.ar.fr f1 (fun j hj=>(g.av j hj).2),h.fi.fr f1 g.ne.2.2.2.2.1,h.nx.fr f1 g.ne.2.2.2.2.2,(h.sn.set u (.bool true)).congr (fun x _=> ?_)⟩
 by_cases e:x=u
 ·subst e;rw[updV_self,hS];simp
 ·rw[updV_ne _ _ e,hS];simp[e]
theorem Gr.congr{w:World}{f b1 b2 bs N:Nat}{a:Option Addr}{cap:Nat}{l:List A}{S S':Nat→Bool}(h:Gr w f b1 b2 bs N a cap l S)(hS: ∀x,S x=S' x):Gr w f b1 b2 bs N a cap l S':=
 ⟨h.gw,h.ar,h.fi,h.nx,h.sn.congr (fun x _=>by rw[hS])⟩
structure Ex(w wr:World)(B f b1 b2 bs N:Nat)(a:Option Addr)(cap:Nat)(l:List A)(S:Nat→Bool)(v b:Nat)(xs q:List Nat)(g0 g c:Nat):Prop where
 bl:b≤2*l.length
 xq:Xs (edl l) (2*l.length) N S v b q
 gr:Gr wr f b1 b2 bs N a cap l (fun u=>S u||adjF (edl l) (2*l.length) v b u)
 ow:wr.ownsRow B 3 1 (.slice (some ⟨g,0,none⟩) (xs.length+q.length) c) (xs.length+q.length) (cellsI (ints xs++ints q))
 fr:Fr (fun j=>j=bs∨j=g0) w wr
 ge:g=g0∨w.heap.size≤g
theorem Ex.skip{w wr:World}{B f b1 b2 bs N:Nat}{a:Option Addr}{cap:Nat}{l:List A}{S:Nat→Bool}{v b k:Nat}{xs q:List Nat}{g0 g c:Nat}(h:Ex w wr B f b1 b2 bs N a cap l S v b xs q g0 g c)
  (hk:k<b) (hf:frm (edl l) k=v) (hn: ∀j,k<j→j<b→frm (edl l) j≠v) (hs:(S (tto (edl l) k)||adjF (edl l) (2*l.length) v b (tto (edl l) k))=true):Ex w wr B f b1 b2 bs N a cap l S v k xs q g0 g c:=by
 refine⟨Nat.le_trans (Nat.le_of_lt hk) h.bl,h.xq.skip hk h.bl hf hn hs,h.gr.congr (fun x=> ?_),h.ow,h.fr,h.ge⟩
 rw[adjF_step hk h.bl hf hn]
 by_cases e:x=tto (edl l) k
 ·subst e;rw[hs];simp only[decide_true,Bool.or_true]
 ·simp[e]
theorem Ex.add{w wr w6:World}{B f b1 b2 bs N:Nat}{a:Option Addr}{cap:Nat}{l:List A}{S:Nat→Bool}{v b k:Nat}{xs q:List Nat}{g0 g c g6 c6:Nat}{o:Obj}(h:Ex w wr B f b1 b2 bs N a cap l S v b xs q g0 g c)(gf:Gf B f b1 b2 bs N a l)(hg0:B≤g0)(hwB:B≤w.heap.size)
  (hk:k<b) (hf:frm (edl l) k=v) (hn: ∀j,k<j→j<b→frm (edl l) j≠v) (ht:tto (edl l) k<N) (hs:(S (tto (edl l) k)||adjF (edl l) (2*l.length) v b (tto (edl l) k))=false)
  (hown:w6.ownsRow B 3 1 (.slice (some ⟨g6,0,none⟩) (xs.length+q.length+1) c6) (xs.length+q.length+1) (cellsI (ints xs++ints q)++[.int .i64 ((tto (edl l) k:Nat):Int)])) (hgr:((wr.setCell ⟨bs,tto (edl l) k,none⟩ (.bool true)).alloc o).grownBy w6 (some g)) (hb:g6=g∨g6=((wr.setCell ⟨bs,tto (edl l) k,none⟩ (.bool true)).alloc o).heap.size):
  Ex w w6 B f b1 b2 bs N a cap l S v k xs (q++[tto (edl l) k]) g0 g6 c6:=by
 have f1:Fr (fun j=>j=bs) wr (wr.setCell ⟨bs,tto (edl l) k,none⟩ (.bool true)):=(Fr.refl _ wr).setCell ⟨bs,tto (edl l) k,none⟩ _ rfl
 have f2:Fr (fun j=>j=g) (wr.setCell ⟨bs,tto (edl l) k,none⟩ (.bool true)) w6:=((Fr.refl _ _).alloc o).trans ⟨hgr.os,hgr.tape,hgr.output,hgr.size,fun j hj hn=>hgr.block j hj (fun e=>hn (Option.some.inj e))⟩
 have hgB:B≤g:=h.ge.elim (fun e=>e▸hg0) (fun e=>Nat.le_trans hwB e)
 refine⟨Nat.le_trans (Nat.le_of_lt hk) h.bl,h.xq.add hk h.bl hf hn ht hs,?_,?_,?_,?_⟩
 ·refine(h.gr.mark gf (S':=fun u=>S u||adjF (edl l) (2*l.length) v k u) (u:=tto (edl l) k) (fun x=> ?_)).fr gf f2 (fun j hj e=>by omega)
  rw[adjF_step hk h.bl hf hn,Bool.or_assoc]
 ·rw[ints_snoc,←List.append_assoc,←cellsI_snoc,show xs.length+(q++[tto (edl l) k]).length=xs.length+q.length+1 by simp;omega]
  exact hown
 ·refine⟨f2.os.trans (f1.os.trans h.fr.os),f2.tape.trans (f1.tape.trans h.fr.tape),f2.output.trans (f1.output.trans h.fr.output),Nat.le_trans h.fr.size (Nat.le_trans f1.size f2.size),fun j hj hn=> ?_⟩
  have hj1:=Nat.lt_of_lt_of_le hj h.fr.size
  have n1:j≠bs:=fun e=>hn (.inl e)
  have n2:j≠g:=fun e=>h.ge.elim (fun e2=>hn (.inr (e.trans e2))) (fun e2=>by omega)
  exact(f2.block j (Nat.lt_of_lt_of_le hj1 f1.size) n2).trans ((f1.block j hj1 n1).trans (h.fr.block j hj hn))
 ·rcases hb with rfl | rfl
  ·exact h.ge
  ·right
   have:=h.fr.size
   have:=f1.size
   simp only[World.size_alloc]
   omega
structure Exd(w w':World)(B f b1 b2 bs N:Nat)(a:Option Addr)(cap:Nat)(l:List A)(S:Nat→Bool)(v:Nat)(ys:List Nat)(g0 g c:Nat):Prop where
 ow:w'.ownsRow B 3 1 (.slice (some ⟨g,0,none⟩) ys.length c) ys.length (cellsI (ints ys))
 gr:Gr w' f b1 b2 bs N a cap l (fun u=>S u||adjF (edl l) (2*l.length) v 0 u)
 fr:Fr (fun j=>j=bs∨j=g0) w w'
 ge:g=g0∨w.heap.size≤g
theorem ints_app(p q:List Nat):ints (p++q)=ints p++ints q:=by simp[ints]
theorem Ex.ends{w wr w5:World}{B f b1 b2 bs N:Nat}{a:Option Addr}{cap:Nat}{l:List A}{S:Nat→Bool}{v b:Nat}{xs q:List Nat}{g0 g c:Nat}(h:Ex w wr B f b1 b2 bs N a cap l S v b xs q g0 g c)(gf:Gf B f b1 b2 bs N a l)(hg0:B≤g0)(hwB:B≤w.heap.size)
  (hn: ∀k,k<b→frm (edl l) k≠v) (how:w5.ownsRow B 3 1 (.slice (some ⟨g,0,none⟩) (xs.length+q.length) c) (xs.length+q.length) (cellsI (ints xs++srt (ints q)))) (hf:Fr (fun j=>j=g) wr w5):
  (xs++ext (edl l) (2*l.length) N S v).length=xs.length+q.length∧Exd w w5 B f b1 b2 bs N a cap l S v (xs++ext (edl l) (2*l.length) N S v) g0 g c:=by
 have hR:=h.xq.done hn
 have hlen:(xs++ext (edl l) (2*l.length) N S v).length=xs.length+q.length:=by
  have:=congrArg List.length hR
  rw[srt_len,ints_len,ints_len] at this
  rw[List.length_append,this]
 have hgB:B≤g:=h.ge.elim (fun e=>e▸hg0) (fun e=>Nat.le_trans hwB e)
 refine⟨hlen,?_,?_,?_,h.ge⟩
 ·rw[hlen,ints_app,←hR];exact how
 ·refine(h.gr.congr (fun x=> ?_)).fr gf hf (fun j hj e=>by omega)
  rw[adjF_end hn]
 ·refine⟨hf.os.trans h.fr.os,hf.tape.trans h.fr.tape,hf.output.trans h.fr.output,Nat.le_trans h.fr.size hf.size,fun j hj hn=> ?_⟩
  have n2:j≠g:=fun e=>h.ge.elim (fun e2=>hn (.inr (e.trans e2))) (fun e2=>by omega)
  exact(hf.block j (Nat.lt_of_lt_of_le hj h.fr.size) n2).trans (h.fr.block j hj hn)
set_option maxHeartbeats 1600000 in
theorem extend_any{w:World}{B f b1 b2 bs N:Nat}{a:Option Addr}{cap:Nat}{l:List A}{S:Nat→Bool}(gf:Gf B f b1 b2 bs N a l)(gr:Gr w f b1 b2 bs N a cap l S){v g0 c0:Nat}{xs:List Nat}(hv:v<N)(hxs:xs.length≤1024)(hg0:B≤g0)(hwB:B≤w.heap.size)
  (hown:w.ownsRow B 3 1 (.slice (some ⟨g0,0,none⟩) xs.length c0) xs.length (cellsI (ints xs))):
  Calls Tryz.prog 172 #[.pointer (some ⟨f,0,none⟩), .slice (some ⟨g0,0,none⟩) xs.length c0, .int .i64 v] w fun e w'=> ∃g c,e= .returned (.slice (some ⟨g,0,none⟩) (xs++ext (edl l) (2*l.length) N S v).length c)∧Exd w w' B f b1 b2 bs N a cap l S v (xs++ext (edl l) (2*l.length) N S v) g0 g c:=by
 obtain⟨i3,hi3,hz3,hs3,hby3⟩:=info_parts info3
 have HGF:=hid gf
 have nb:=gf.nb
 have mb:=gf.mb
 have HX:Hid (Ex w w B f b1 b2 bs N a cap l S v (2*l.length) xs [] g0 g0 c0):=by
  refine⟨Nat.le_refl _,Xs.start _ _ _ _ _,gr.congr (fun x=>by rw[adjF_top];simp),?_,Fr.refl _ _, .inl rfl⟩
  simpa[ints] using hown
 obtain⟨h0,h1,h2,h3⟩:=four_cells gr.gw.hd
 have d1:=gr.fi.cell hv
 have hv':(v:Int)<N:=by omega
 obtain⟨E,HE⟩:=named (edl l)
 obtain⟨e0,HE0⟩:=named (lst E v (2*l.length))
 rw[HE.out,HE0.out] at d1
 obtain⟨R,HR⟩:=named (xs++ext (edl l) (2*l.length) N S v)
 rw[HR.out]
 clear gr gf hown
 go_enter Tryz.func172,Tryz.ntmps172
 go_wp2_with fail
 go_loopw [1,8] (fun s1 s8 wr=> ∃ (b:Nat) (q:List Nat) (g c:Nat) (e:Int),s1= .slice (some ⟨g,0,none⟩) (xs.length+q.length) c∧s8= .int .i64 e∧Hid (lst E v b=e)∧Hid (Ex w wr B f b1 b2 bs N a cap l S v b xs q g0 g c)) (fun _ s8 _=>(intOf s8+1).toNat)
 case atStart=>exact⟨2*l.length,[],g0,c0,e0,rfl,rfl,HE0,HX⟩
 case round=>
  obtain⟨b,q,g,c,e,rfl,rfl,HL,HXr⟩:=hrel
  clear h0 h1 h2 h3 d1 HX HE0
  obtain⟨h0,h1,h2,h3⟩:=four_cells HXr.out.gr.gw.hd
  have hql:=HXr.out.xq.short
  rcases lst_cases E v b with ⟨he,hn⟩ | ⟨k,hk,he,hf,hn⟩
  ·rw[HL.out] at he
   subst he
   rw[←HE.out] at hn
   have HOW:=hid HXr.out.ow
   have hgc:g<wr.heap.size∧xs.length+q.length≤c∧c≤9223372036854775807:=by
    obtain⟨g',c',he,_,h5,h6,h7⟩:=own_shape HOW.out (by intro e;cases e)
    injection he with e1 _ e3
    injection e1 with e1
    injection e1 with e1
    subst e1;subst e3
    exact⟨h6,h5,h7⟩
   obtain⟨hgl,hgc,hcm⟩:=hgc
   have HN:=hid hn
   clear hn
   by_cases hcx:c=xs.length
   ·obtain rfl:q= []:=List.eq_nil_of_length_eq_zero (by omega)
    subst hcx
    go_wp2_with fail
    all_goals first
    | (exfalso;omega)
    | (refine(sort_none (g:=g) (c:=0) hgl).mono ?_
       rintro e w5 ⟨rfl,hb5⟩
       obtain⟨hl5,hd5⟩:=HXr.out.ends HGF.out hg0 hwB HN.out (w5:=w5) (by have:=own_on HOW.out hb5;simpa[srt,ints] using this) ⟨hb5.os,hb5.tape,hb5.output,hb5.size,fun k hk _=>hb5.block k hk⟩
       rw[HR.out] at hl5 hd5
       have HD5:=hid hd5
       have HL5:=hid hl5
       clear hd5 hl5
       go_wp2_with fail
       refine bodyPost_ret (v:= .slice (some ⟨g,0,none⟩) xs.length xs.length) (by simp[results,Tryz.results172,go_sem]) rfl ⟨g,_,?_,HD5.out⟩
       rw[HL5.out]
       simp)
   ·have hcx':xs.length<c:=by omega
    go_wp2_with fail
    refine(sort_any HOW.out (ints_len xs) (ints_len q).symm (by rw[ints_len];omega)).mono ?_
    rintro e w5 ⟨rfl,hown5,hfr5⟩
    obtain⟨hl5,hd5⟩:=HXr.out.ends HGF.out hg0 hwB HN.out hown5 hfr5
    rw[HR.out] at hl5 hd5
    have HD5:=hid hd5
    have HL5:=hid hl5
    clear hd5 hl5 hown5 hfr5
    go_wp2_with fail
    refine bodyPost_ret (v:= .slice (some ⟨g,0,none⟩) (xs.length+q.length) c) (by simp[results,Tryz.results172,go_sem]) rfl ⟨g,_,?_,HD5.out⟩
    rw[HL5.out]
  ·rw[HL.out] at he
   subst he
   rw[←HE.out] at hf hn
   have hk2:k<2*l.length:=Nat.lt_of_lt_of_le hk HXr.out.bl
   have hk2':(k:Int)<((2*l.length:Nat):Int):=by omega
   have hkn:((k:Int) != -1)=true:=by simp
   have HT:=hid (HGF.out.tto hk2)
   have HF:=hid hf
   have HN:=hid hn
   obtain⟨u,HU⟩:=named (tto (edl l) k)
   have hu:u<N:=by rw[←HU.out];exact HT.out
   have hu':(u:Int)<N:=by omega
   have dn:=HXr.out.gr.nx.cell hk2
   rw[hf] at dn
   obtain⟨e1,HE1⟩:=named (lst (edl l) v k)
   rw[HE1.out] at dn
   have ds:=HXr.out.gr.sn.cell hu
   have dsf:=HXr.out.gr.sn.free u
   obtain⟨sb,HSB⟩:=named (S u||adjF (edl l) (2*l.length) v b u)
   have hsb:(fun u=>Value.bool (S u||adjF (edl l) (2*l.length) v b u)) u= .bool sb:=by show Value.bool _=_;rw[HSB.out]
   rw[show(Value.bool (S u||adjF (edl l) (2*l.length) v b u))= .bool sb from hsb] at ds
   clear hsb hf hn
   go_wp2_with fail
   refine(across_any (cap:=cap) (a:=a) (bs:=bs) (b1:=b1) (b2:=b2) (n:=N) HXr.out.gr.gw HXr.out.gr.ar (fun x hx=>⟨(HGF.out.po x hx).1,(HGF.out.po x hx).2.2.1⟩) mb hk2).mono ?_
   rintro e w1 ⟨rfl,rfl⟩
   rw[HU.out]
   cases sb
   ·have hz:(w1.setCell ⟨bs,u,none⟩ (.bool true)).heap.size=w1.heap.size:=by simp[World.setCell]
    have hnw:=one_new (w1.setCell ⟨bs,u,none⟩ (.bool true)) (u:Int)
    rw[hz] at hnw
    have HNW:=hid hnw
    have HOW3:=hid ((own_set HXr.out.ow ⟨bs,u,none⟩ (.bool true) HGF.out.lt.2.2.2).alloc (.cells #[.int .i64 (u:Int)] 3))
    have HBZ:Hid (B≤((w1.setCell ⟨bs,u,none⟩ (.bool true)).alloc (.cells #[.int .i64 (u:Int)] 3)).heap.size):=by
     show _≤_
     rw[World.size_alloc,hz]
     exact Nat.le_trans hwB (Nat.le_trans HXr.out.fr.size (Nat.le_succ _))
    have hfb:f≠bs:=HGF.out.ne.2.2.1
    have hfb':=hfb.symm
    have h2b:b2≠bs:=HGF.out.ne.2.2.2.2.2
    have h2b':=h2b.symm
    clear hz hnw
    go_wp2_with (at_builtin;refine wpList_append_new rfl (.tmp 45) (.tmp 47) 25 rfl B 3 i3 (.int .i64 0) 1 8 Tryz.underlying25 hi3 hz3 hs3 hby3 rfl (by decide) (.slice (some ⟨g,0,none⟩) (xs.length+q.length) c) (xs.length+q.length) (cellsI (ints xs++ints q)) rfl HOW3.out ⟨w1.heap.size,0,none⟩ 1 1 [.int .i64 (u:Int)] rfl rfl HNW.out (one_i64 _) (by unfold maxLen;omega) (by omega) HBZ.out (by omega) ?_;intro v6 w6 hown6 hgrow6 hb6;obtain⟨g6,c6,hv6,_,_,_,_⟩:=own_shape hown6 (by rintro rfl;simp[Value.ownBlock] at hb6);subst hv6;have hb7:g6=g∨g6=((w1.setCell ⟨bs,u,none⟩ (.bool true)).alloc (.cells #[.int .i64 (u:Int)] 3)).heap.size:=(hb6.imp (fun e=>Option.some.inj e) (fun e=>Option.some.inj e));have HX6:=hid (HXr.out.add (w6:=w6) (g6:=g6) (c6:=c6) (o:= .cells #[.int .i64 (u:Int)] 3) HGF.out hg0 hwB hk HF.out HN.out HT.out (by rw[HU.out];exact HSB.out) (by rw[HU.out];exact hown6) (by rw[HU.out];exact hgrow6) (by rw[HU.out];exact hb7));obtain⟨y0,y1,y2,y3⟩:=four_cells HX6.out.gr.gw.hd;have yn:=HX6.out.gr.nx.cell hk2;rw[HF.out,HE1.out] at yn;clear hown6 hgrow6 hb6 hb7)
    have hlt:=lst_lt (edl l) v k
    rw[HE1.out] at hlt
    rw[HU.out] at HX6
    exact⟨⟨k,q++[u],g6,c6,e1,by simp[Nat.add_assoc],rfl,HE.out▸HE1,HX6⟩,by simp only[intOf];omega⟩
   ·go_wp2_with fail
    have hlt:=lst_lt (edl l) v k
    rw[HE1.out] at hlt
    exact⟨⟨k,q,g,c,e1,rfl,rfl,HE.out▸HE1,hid (HXr.out.skip hk HF.out HN.out (by rw[HU.out];exact HSB.out))⟩,by simp only[intOf];omega⟩
def gro(E:List Ed)(M N:Nat)(S:Nat→Bool)(c:Nat):Nat→List Nat × (Nat→Bool)
 | 0=>([c],fun u=>S u||decide (u=c))
 | k+1=>if k<(gro E M N S c k).1.length then ((gro E M N S c k).1++ext E M N (gro E M N S c k).2 ((gro E M N S c k).1.getD k 0),fun u=>(gro E M N S c k).2 u||adjF E M ((gro E M N S c k).1.getD k 0) 0 u) else gro E M N S c k
def whole(E:List Ed)(M N:Nat)(S:Nat→Bool)(c:Nat):List Nat:=(gro E M N S c N).1
theorem gro_go{E:List Ed}{M N:Nat}{S:Nat→Bool}{c k:Nat}(h:k<(gro E M N S c k).1.length):gro E M N S c (k+1)=((gro E M N S c k).1++ext E M N (gro E M N S c k).2 ((gro E M N S c k).1.getD k 0),fun u=>(gro E M N S c k).2 u||adjF E M ((gro E M N S c k).1.getD k 0) 0 u):=by
 simp only[gro]
 rw[if_pos h]
theorem gro_end{E:List Ed}{M N:Nat}{S:Nat→Bool}{c k:Nat}(h:(gro E M N S c k).1.length≤k): ∀j,gro E M N S c (k+j)=gro E M N S c k
 | 0=>rfl
 | j+1=>by
   have ih:=gro_end h j
   show gro E M N S c (k+j+1)=_
   simp only[gro]
   rw[if_neg (by rw[ih];omega),ih]
theorem gro_pre{E:List Ed}{M N:Nat}{S:Nat→Bool}{c k:Nat}: ∀j,(gro E M N S c k).1<+:(gro E M N S c (k+j)).1
 | 0=>List.prefix_refl _
 | j+1=>by
   refine(gro_pre j).trans ?_
   show _<+:(gro E M N S c (k+j+1)).1
   simp only[gro]
   split
   ·exact List.prefix_append _ _
   ·exact List.prefix_refl _
structure Gi(N:Nat)(S:Nat→Bool)(p:List Nat × (Nat→Bool)):Prop where
 nd:p.1.Nodup
 lt: ∀u,u∈p.1→u<N
 sn: ∀u,u∈p.1→p.2 u=true
theorem gro_inv{E:List Ed}{M N:Nat}{S:Nat→Bool}{c:Nat}(hc:c<N): ∀k,Gi N S (gro E M N S c k)
 | 0=>⟨by simp[gro],fun u hu=>by simp[gro] at hu;omega,fun u hu=>by simp[gro] at hu ⊢;exact .inr hu⟩
 | k+1=>by
   have ih:=gro_inv hc k (E:=E) (M:=M) (S:=S)
   by_cases h:k<(gro E M N S c k).1.length
   ·rw[gro_go h]
    refine⟨?_,?_,?_⟩
    ·rw[List.nodup_append]
     refine⟨ih.nd,ext_nodup _ _ _ _ _,fun a ha b hb=> ?_⟩
     rintro rfl
     have h1:=ih.sn a ha
     have h2:=(mem_ext.1 hb).2.1
     rw[h1] at h2
     cases h2
    ·intro u hu
     rcases List.mem_append.1 hu with hu | hu
     ·exact ih.lt u hu
     ·exact(mem_ext.1 hu).1
    ·intro u hu
     rcases List.mem_append.1 hu with hu | hu
     ·simp[ih.sn u hu]
     ·show(_||_)=true
      rw[(mem_ext.1 hu).2.2,Bool.or_true]
   ·have:gro E M N S c (k+1)=gro E M N S c k:=by simp only[gro];rw[if_neg h]
    rw[this];exact ih
theorem gro_short{E:List Ed}{M N:Nat}{S:Nat→Bool}{c:Nat}(hc:c<N)(k:Nat):(gro E M N S c k).1.length≤N:=nodup_short (gro_inv hc k).nd (gro_inv hc k).lt
theorem gro_at{E:List Ed}{M N:Nat}{S:Nat→Bool}{c k:Nat}(hc:c<N)(h:k<(gro E M N S c k).1.length):(gro E M N S c k).1.getD k 0<N:=(gro_inv (E:=E) (M:=M) (S:=S) hc k).lt _ (by simp[List.getD,List.getElem?_eq_getElem h])
def came(E:List Ed)(M N:Nat)(S:Nat→Bool)(c k:Nat):List Nat:=(gro E M N S c k).1.take k
theorem came_zero(E:List Ed)(M N:Nat)(S:Nat→Bool)(c:Nat):came E M N S c 0= []:=by simp[came]
theorem take_snoc{p:List Nat}{k:Nat}(h:k<p.length):p.take (k+1)=p.take k++[p.getD k 0]:=by
 rw[List.take_succ_eq_append_getElem h]
 simp[List.getD,List.getElem?_eq_getElem h]
theorem came_succ{E:List Ed}{M N:Nat}{S:Nat→Bool}{c k:Nat}(h:k<(gro E M N S c k).1.length):came E M N S c (k+1)=came E M N S c k++[(gro E M N S c k).1.getD k 0]:=by
 unfold came
 rw[gro_go h,←take_snoc h]
 exact List.take_append_of_le_length h
theorem came_pre{E:List Ed}{M N:Nat}{S:Nat→Bool}{c k:Nat}(hc:c<N)(h:k<(gro E M N S c k).1.length):came E M N S c k++[(gro E M N S c k).1.getD k 0]<+:whole E M N S c:=by
 have hk:k<N:=Nat.lt_of_lt_of_le h (gro_short hc k)
 unfold came
 rw[←take_snoc h]
 refine(List.take_prefix _ _).trans ?_
 have:=gro_pre (E:=E) (M:=M) (N:=N) (S:=S) (c:=c) (k:=k) (N - k)
 rwa [show k+(N - k)=N by omega] at this
theorem came_all{E:List Ed}{M N:Nat}{S:Nat→Bool}{c k:Nat}(hc:c<N)(hk:k≤(gro E M N S c k).1.length)(h: ¬k<(gro E M N S c k).1.length):came E M N S c k=whole E M N S c∧gro E M N S c k=gro E M N S c N:=by
 have hn:(gro E M N S c k).1.length≤k:=by omega
 have hkN:k≤N:=Nat.le_trans hk (gro_short hc k)
 have:=gro_end hn (N - k)
 rw[show k+(N - k)=N by omega] at this
 refine⟨?_,this.symm⟩
 unfold came whole
 rw[this]
 exact List.take_of_length_le hn
end Go.Proofs.YtmenajiceaicpaaGreat
namespace Go.Proofs.YtmenajiceaicpaaGreat
open Go.RowKit Go.Shelf
attribute [local go_sem] Oper.semAt_some
def Ib(f b1 b2 bs p1 p2:Nat)(a:Option Addr)(l:List A)(j:Nat):Prop:=j=f∨j=b1∨j=b2∨j=bs∨j=p1∨j=p2∨abl a l j
theorem Gr.frI{D:Nat→Prop}{w w':World}{f b1 b2 bs N p1 p2:Nat}{a:Option Addr}{cap:Nat}{l:List A}{S:Nat→Bool}(h:Gr w f b1 b2 bs N a cap l S)(hf:Fr D w w')(hd: ∀j,Ib f b1 b2 bs p1 p2 a l j→¬D j):Gr w' f b1 b2 bs N a cap l S:=
 ⟨h.gw.fr hf (hd _ (.inl rfl)),h.ar.fr hf (fun _ hj=>hd _ (.inr (.inr (.inr (.inr (.inr (.inr hj))))))),h.fi.fr hf (hd _ (.inr (.inl rfl))),h.nx.fr hf (hd _ (.inr (.inr (.inl rfl)))),h.sn.fr hf (hd _ (.inr (.inr (.inr (.inl rfl)))))⟩
theorem cell_fr{D:Nat→Prop}{w w':World}{p:Addr}{v:Value}(h:w.cell? p=some v)(hf:Fr D w w')(hn: ¬D p.block):w'.cell? p=some v:=
 (World.cell?_of_block (hf.block p.block (World.block_lt_of_cell? w _ h) hn)).trans h
theorem own_fr{D:Nat→Prop}{w w':World}{base g n c:Nat}{xs:List Value}(h:w.ownsRow base 3 1 (.slice (some ⟨g,0,none⟩) n c) n xs)(hf:Fr D w w')(hn: ¬D g):w'.ownsRow base 3 1 (.slice (some ⟨g,0,none⟩) n c) n xs:=by
 refine⟨h.1,?_⟩
 rcases h.2 with h' | ⟨g',c',cur,h1,h2,h3,h4⟩
 ·exact Or.inl h'
 ·injection h1 with e1 e2 e3
  injection e1 with e1
  injection e1 with e1
  subst e1;subst e3
  exact Or.inr ⟨g,c,cur,rfl,h2,(hf.block g (lt_of_block h3) hn).trans h3,h4⟩
theorem own_lt{w:World}{base g n c:Nat}{xs:List Value}(h:w.ownsRow base 3 1 (.slice (some ⟨g,0,none⟩) n c) n xs):base≤g∧g<w.heap.size:=by
 rcases h.2 with ⟨h',_⟩ | ⟨g',c',cur,h1,h2,h3,h4⟩
 ·cases h'
 ·injection h1 with e1 e2 e3
  injection e1 with e1
  injection e1 with e1
  subst e1
  exact⟨h2,lt_of_block h3⟩
structure Ar(wr:World)(B f b1 b2 bs N p1 p2:Nat)(a:Option Addr)(cap:Nat)(l:List A)(S:Nat→Bool)(c:Nat)(J:List Nat→Option Nat→World→Prop)(k:Nat)(g cc:Nat)(ρ:Option Nat):Prop where
 le:k≤(gro (edl l) (2*l.length) N S c k).1.length
 ow:wr.ownsRow B 3 1 (.slice (some ⟨g,0,none⟩) (gro (edl l) (2*l.length) N S c k).1.length cc) (gro (edl l) (2*l.length) N S c k).1.length (cellsI (ints (gro (edl l) (2*l.length) N S c k).1))
 gr:Gr wr f b1 b2 bs N a cap l (gro (edl l) (2*l.length) N S c k).2
 j:J (came (edl l) (2*l.length) N S c k) ρ wr
 ne:ρ≠some g
 c1:wr.cell? ⟨p1,0,none⟩=some (.pointer (some ⟨f,0,none⟩))
 c2:wr.cell? ⟨p2,0,none⟩=some (.int .i64 c)
 wb:B≤wr.heap.size
set_option maxHeartbeats 2000000 in
theorem around1_in{B f b1 b2 bs N p1 p2:Nat}{a:Option Addr}{cap:Nat}{l:List A}{S:Nat→Bool}(gf:Gf B f b1 b2 bs N a l){c:Nat}(hc:c<N)(hp:p1<B∧p2<B∧p1≠bs∧p2≠bs)(L n:Nat)(hn:1≤n)(Kf:Nat→Prop)(hKf: ∀j,Kf j→j<B∧¬Ib f b1 b2 bs p1 p2 a l j)
  (J:List Nat→Option Nat→World→Prop) (Jx:List Nat→World→Prop)
  (hJ: ∀pre ρ W W' g,J pre ρ W→B≤g→ρ≠some g→Fr (fun j=>j=bs∨j=g) W W'→J pre ρ W')
  (hρ: ∀pre ρ W b,J pre ρ W→ρ=some b→b<W.heap.size∧¬Ib f b1 b2 bs p1 p2 a l b)
  (hY: ∀pre ρ (x:Nat) W,J pre ρ W→pre++[x]<+:whole (edl l) (2*l.length) N S c→YieldAt Fence.wide (n - 1) Tryz.prog L #[.int .i64 (x:Int)] W fun e W'=>
    (e= .returned (.bool true)∧∃ρ',J (pre++[x]) ρ' W'∧Fr (fun j=>Kf j∨some j=ρ) W W'∧(ρ'=ρ∨∃b,ρ'=some b∧W.heap.size≤b))∨(e= .returned (.bool false)∧Jx (pre++[x]) W'))
  (W:World) (ρ0:Option Nat) (gr:Gr W f b1 b2 bs N a cap l S) (hWB:B≤W.heap.size) (hc1:W.cell? ⟨p1,0,none⟩=some (.pointer (some ⟨f,0,none⟩))) (hc2:W.cell? ⟨p2,0,none⟩=some (.int .i64 c)) (h0:J [] ρ0 W):
  CallsIn Fence.wide n Tryz.prog 171 #[.func (.yield L) #[] #[], .pointer (some ⟨p1,0,none⟩), .pointer (some ⟨p2,0,none⟩)] W fun e W'=>(∃v,e= .returned v)∧
   ((∃ρ,J (whole (edl l) (2*l.length) N S c) ρ W'∧Gr W' f b1 b2 bs N a cap l (gro (edl l) (2*l.length) N S c N).2)∨(∃pre,pre<+:whole (edl l) (2*l.length) N S c∧Jx pre W')):=by
 have HGF:=hid gf
 have HGR:=hid gr
 have hc':(c:Int)<N:=by omega
 obtain⟨d0,d1,d2,d3⟩:=four_cells gr.gw.hd
 have ds:=gr.sn.cell hc
 have dsf:=gr.sn.free c
 have q1:p1≠bs:=hp.2.2.1
 have q2:p2≠bs:=hp.2.2.2
 have q3:f≠bs:=gf.ne.2.2.1
 have q1':=q1.symm
 have q2':=q2.symm
 have q3':=q3.symm
 have HJ:=hid hJ
 have HRO:=hid hρ
 have HY:=hid hY
 have HK:=hid hKf
 have H0:=hid h0
 generalize hsv:(S c)=sv at ds
 clear gr gf hJ hρ hY hKf h0 hsv
 refine callsIn_of_wp Tryz.func171 rfl trivial ?_ rfl
 simp only[Tryz.ntmps171,List.size_toArray,List.length_cons,List.length_nil,Nat.reduceAdd,Nat.reduceSub,Array.replicate_succ,Array.replicate_zero,List.push_toArray,List.append_toArray,List.nil_append,List.cons_append]
 gi_wp2
 gi_region
 gi_wp2
 have HA:Hid (Ar ((W.setCell ⟨bs,c,none⟩ (.bool true)).alloc (.cells #[.int .i64 (c:Int)] 3)).drew B f b1 b2 bs N p1 p2 a cap l S c J 0 W.heap.size 1 ρ0):=by
  have hz:(W.setCell ⟨bs,c,none⟩ (.bool true)).heap.size=W.heap.size:=by simp[World.setCell]
  have f1:Fr (fun j=>j=bs∨j=W.heap.size) W ((W.setCell ⟨bs,c,none⟩ (.bool true)).alloc (.cells #[.int .i64 (c:Int)] 3)).drew:=(((Fr.refl _ W).setCell ⟨bs,c,none⟩ _ (.inl rfl)).alloc _).drew
  have f2:Fr (fun _=>False) (W.setCell ⟨bs,c,none⟩ (.bool true)) ((W.setCell ⟨bs,c,none⟩ (.bool true)).alloc (.cells #[.int .i64 (c:Int)] 3)).drew:=((Fr.refl _ _).alloc _).drew
  have hne:ρ0≠some W.heap.size:=fun e=>Nat.lt_irrefl _ (HRO.out _ _ _ _ H0.out e).1
  refine⟨Nat.zero_le _,?_,(HGR.out.mark HGF.out (S':=fun u=>S u||decide (u=c)) (u:=c) (fun x=>rfl)).fr HGF.out f2 (fun _ _ h=>h),?_,hne,cell_fr hc1 f1 (fun e=>e.elim q1 (fun e=>by have:=hp.1;simp at e;omega)),cell_fr hc2 f1 (fun e=>e.elim q2 (fun e=>by have:=hp.2.1;simp at e;omega)),Nat.le_trans hWB f1.size⟩
  ·have:=World.ownsRow_lit (base:=B) (e:=3) (size:=1) (W.setCell ⟨bs,c,none⟩ (.bool true)) #[.int .i64 (c:Int)] 1 (by rw[hz];exact hWB) (by unfold maxLen;omega) rfl
   rw[hz] at this
   exact this
  ·rw[came_zero]
   exact HJ.out _ _ _ _ _ H0.out hWB hne f1
 clear d0 d1 d2 d3 ds dsf
 gi_loopw [4,5] (fun s4 s5 wr=> ∃ (k g cc m:Nat) (ρ:Option Nat),s4= .slice (some ⟨g,0,none⟩) m cc∧s5= .int .i64 k∧Hid ((gro (edl l) (2*l.length) N S c k).1.length=m)∧Hid (Ar wr B f b1 b2 bs N p1 p2 a cap l S c J k g cc ρ)) (fun _ s5 _=>N - (intOf s5).toNat)
 case atStart=>exact⟨0,W.heap.size,1,1,ρ0,rfl,rfl,rfl,HA⟩
 case round=>
  obtain⟨k,g,cc,m,ρ,rfl,rfl,HM,HR⟩:=hrel
  have hmN:m≤N:=by rw[←HM.out];exact gro_short hc k
  have hnb:=HGF.out.nb
  by_cases hk:k<m
  ·have hk':(k:Int)<m:=by omega
   have hkg:k<(gro (edl l) (2*l.length) N S c k).1.length:=by rw[HM.out];exact hk
   obtain⟨x,HX⟩:=named ((gro (edl l) (2*l.length) N S c k).1.getD k 0)
   have hxN:x<N:=by rw[←HX.out];exact gro_at hc hkg
   have hpre:=came_pre hc hkg
   rw[HX.out] at hpre
   have HS:=hid (came_succ hkg)
   have HGO:=hid (gro_go hkg)
   rw[HX.out] at HS HGO
   obtain⟨hgB,hgl⟩:=own_lt HR.out.ow
   have hcell:wr.cell? ⟨g,k,none⟩=some (.int .i64 (x:Int)):=by
    rw[HR.out.ow.cellAt k (by rw[Nat.mul_one];exact hkg),cellsI_getD _ _ (by rw[ints_len];exact hkg),ints_getD hkg,HX.out]
   obtain⟨fn,tmps,assign,body,hy,hRd⟩:=HY.out (came (edl l) (2*l.length) N S c k) ρ x wr HR.out.j hpre
   have HPRE:=hid hpre
   clear hpre hkg
   gi_wp2
   refine hRd.mono ?_
   rintro e W3 (⟨rfl,ρ',hJ3,hf3,hr3⟩ | ⟨rfl,hJx3⟩)
   ·have nIb: ∀j,Ib f b1 b2 bs p1 p2 a l j→¬(Kf j∨some j=ρ):=fun j hj e=>e.elim (fun e=>(HK.out j e).2 hj) (fun e=>(HRO.out _ _ _ j HR.out.j e.symm).2 hj)
    have ng: ¬(Kf g∨some g=ρ):=fun e=>e.elim (fun e=>by have:=(HK.out g e).1;omega) (fun e=>HR.out.ne e.symm)
    have gr4:Gr W3.drew f b1 b2 bs N a cap l (gro (edl l) (2*l.length) N S c k).2:=HR.out.gr.frI (hf3.drew) nIb
    have ow4:=own_fr HR.out.ow hf3.drew ng
    have x1:=cell_fr HR.out.c1 hf3 (nIb p1 (.inr (.inr (.inr (.inr (.inl rfl))))))
    have x2:=cell_fr HR.out.c2 hf3 (nIb p2 (.inr (.inr (.inr (.inr (.inr (.inl rfl)))))))
    have x3:=cell_fr hcell hf3 ng
    have hng:ρ'≠some g:=fun e=>hr3.elim (fun e2=>HR.out.ne (e2▸e)) (fun⟨b,e2,h2⟩=>by rw[e2] at e;injection e with e;omega)
    have hxl:(gro (edl l) (2*l.length) N S c k).1.length≤1024:=Nat.le_trans (gro_short hc k) hnb
    have HEX:=hid (extend_any HGF.out gr4 (v:=x) (g0:=g) (c0:=cc) hxN hxl hgB (Nat.le_trans HR.out.wb hf3.size) ow4)
    rw[HM.out] at HEX
    have HF3:=hid hf3
    have HJ3:=hid hJ3
    have HNG:=hid hng
    clear gr4 ow4 hf3 hJ3 hng nIb ng hcell hr3
    gi_wp2
    gi_region_with (refine⟨trivial,?_⟩;gi_at_call 172;refine(callsIn_wide.2 HEX.out).mono ?_;rintro e w5 ⟨g5,c5,rfl,hd5⟩;have HD5:=hid hd5;clear hd5)
    all_goals
     gi_wp2
     have f5:Fr (fun j=>j=bs∨j=g) W3 w5:=((Fr.refl _ W3).drew).trans HD5.out.fr
     have hge:g5=g∨W3.heap.size≤g5:=HD5.out.ge
     have hm:=HM.out
     refine⟨⟨k+1,g5,c5,_,ρ',rfl,by simp,?_,?_⟩,by simp[intOf];omega⟩
     ·show _=_
      rw[HGO.out]
      simp
     ·refine⟨?_,?_,?_,?_,?_,?_,?_,?_⟩
      ·rw[HGO.out,List.length_append];omega
      ·rw[HGO.out];exact HD5.out.ow
      ·rw[HGO.out];exact HD5.out.gr
      ·rw[HS.out];exact HJ.out _ _ _ _ g HJ3.out hgB HNG.out f5
      ·intro e
       rcases hge with e2 | e2
       ·exact HNG.out (e2▸e)
       ·have:=(HRO.out _ _ _ _ HJ3.out e).1
        omega
      ·exact cell_fr x1 f5 (fun e=>e.elim q1 (fun e=>by have:=hp.1;simp at e;omega))
      ·exact cell_fr x2 f5 (fun e=>e.elim q2 (fun e=>by have:=hp.2.1;simp at e;omega))
      ·exact Nat.le_trans (Nat.le_trans HR.out.wb HF3.out.size) f5.size
   ·gi_wp2
    refine bodyPost_ret (results_none rfl _ _ _) rfl ?_
    exact⟨⟨_,rfl⟩, .inr ⟨_,HPRE.out,hJx3⟩⟩
  ·have hk': ¬(k:Int)<m:=by omega
   gi_wp2
   go_end0
   obtain⟨hw,hg⟩:=came_all (E:=edl l) (M:=2*l.length) (S:=S) hc HR.out.le (by rw[HM.out];exact hk)
   refine⟨⟨_,rfl⟩, .inl ⟨⟨ρ,?_⟩,?_⟩⟩
   ·rw[←hw];exact HR.out.j
   ·rw[←hg];exact HR.out.gr
end Go.Proofs.YtmenajiceaicpaaGreat
