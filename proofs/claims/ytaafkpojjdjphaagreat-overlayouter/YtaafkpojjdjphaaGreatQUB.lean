import Derived.Test.YtaafkpojjdjphaaGreatQUA
open Go.Lib (hid)
set_option maxRecDepth 100000
namespace Go.Proofs.YtaafkpojjdjphaaGreat
open Go.RowKit
structure RdR (w : World) (g n : Nat) (rv : Nat → Value) (r : List A) : Prop where
 ce : ∀ v, v < n → w.cell? ⟨g, v, none⟩ = some (rv v)
 sl : ∀ v, v < n → ∃ a c, rv v = .slice a (rof r v).length c ∧ (0 < (rof r v).length → ∃ b, a = some ⟨b, 0, none⟩ ∧ RB g n rv b ∧ ∀ k, k < (rof r v).length → w.cell? ⟨b, k * 2, none⟩ = some (.int .i64 ((rof r v).getD k A.zero).t) ∧ w.cell? ⟨b, k * 2 + 1, none⟩ = some (.int .u64 ((rof r v).getD k A.zero).w))
theorem Rds.rdr {w : World} {B g n : Nat} {rv : Nat → Value} {r : List A} (h : Rds w B g n rv r) : RdR w g n rv r := by
 refine ⟨fun v hv => h.tb.cell hv, fun v hv => ?_⟩
 have ho := h.ro v hv
 obtain ⟨a, c, e⟩ := own_slice ho
 refine ⟨a, c, e, fun h0 => ?_⟩
 obtain ⟨b, c2, e2, _, _⟩ := World.ownsRow.form ho h0
 have e3 : a = some ⟨b, 0, none⟩ := by rw [e] at e2; injection e2
 refine ⟨b, e3, Or.inr ⟨v, hv, by rw [e2]; rfl⟩, fun k hk => ?_⟩
 rw [e2] at ho
 obtain ⟨c0, c1⟩ := cellsR_at (rof r v) k hk
 have hl := cellsR_len (rof r v)
 rw [World.ownsRow.cellAt ho (k * 2) (by omega), World.ownsRow.cellAt ho (k * 2 + 1) (by omega)]
 exact ⟨c0, c1⟩
theorem RdR.fr {w w' : World} {g n : Nat} {rv : Nat → Value} {r : List A} {D : Nat → Prop} (h : RdR w g n rv r) (hf : Fr D w w') (hD : ∀ b, RB g n rv b → ¬ D b) : RdR w' g n rv r := by
 have key : ∀ (p : Addr) (u : Value), RB g n rv p.block → w.cell? p = some u → w'.cell? p = some u := fun p u hb hc => (World.cell?_of_block (hf.block p.block (World.block_lt_of_cell? w _ hc) (hD _ hb))).trans hc
 refine ⟨fun v hv => key _ _ (Or.inl rfl) (h.ce v hv), fun v hv => ?_⟩
 obtain ⟨a, c, e, hs⟩ := h.sl v hv
 refine ⟨a, c, e, fun h0 => ?_⟩
 obtain ⟨b, e1, hb, hc⟩ := hs h0
 exact ⟨b, e1, hb, fun k hk => ⟨key _ _ hb (hc k hk).1, key _ _ hb (hc k hk).2⟩⟩
def SD0 (fb B0 b : Nat) : Prop := b = fb ∨ B0 ≤ b
theorem Fr.cell {D : Nat → Prop} {w w' : World} (h : Fr D w w') {p : Addr} {u : Value} (hc : w.cell? p = some u) (hn : ¬ D p.block) : w'.cell? p = some u := (World.cell?_of_block (h.block p.block (World.block_lt_of_cell? w _ hc) hn)).trans hc
theorem Fr.ofBelow {D : Nat → Prop} {w w' : World} (h : Below w.heap.size w w') : Fr D w w' := ⟨h.os, h.tape, h.output, h.size, fun k hk _ => h.block k hk⟩
theorem Fr.grown {D : Nat → Prop} {w w1 w' : World} (h : Fr D w w1) {o : Option Nat} (hg : w1.grownBy w' o) (ho : ∀ k, o = some k → D k) : Fr D w w' :=
 ⟨hg.os.trans h.os, hg.tape.trans h.tape, hg.output.trans h.output, Nat.le_trans h.size hg.size, fun k hk hn => (hg.block k (Nat.lt_of_lt_of_le hk h.size) (fun e => hn (ho k e.symm))).trans (h.block k hk hn)⟩
theorem take_map_succ (P : List A) {k : Nat} (h : k < P.length) : (P.map toN).take (k + 1) = (P.map toN).take k ++ [toN (P.getD k A.zero)] := by
 rw [List.take_add_one, List.getElem?_eq_getElem (by simpa using h), List.getElem_map]
 have e : P.getD k A.zero = P[k] := by rw [List.getD_eq_getElem?_getD, List.getElem?_eq_getElem h]; rfl
 rw [e]
 rfl
theorem rdS_skip {d : Int} {S : (Nat → Int) × List Nat} {x : N5.A} (h : S.1 (N5.dst x) ≤ N5.sat d x.w) : rdS d S x = S := if_pos h
theorem rdS_new {d : Int} {S : (Nat → Int) × List Nat} {x : N5.A} (h : ¬ S.1 (N5.dst x) ≤ N5.sat d x.w) (h2 : S.1 (N5.dst x) = N5.Inf) : rdS d S x = (N5.updI S.1 (N5.dst x) (N5.sat d x.w), S.2 ++ [N5.dst x]) := by unfold rdS; rw [if_neg h, if_pos h2]
theorem rdS_old {d : Int} {S : (Nat → Int) × List Nat} {x : N5.A} (h : ¬ S.1 (N5.dst x) ≤ N5.sat d x.w) (h2 : S.1 (N5.dst x) ≠ N5.Inf) : rdS d S x = (N5.updI S.1 (N5.dst x) (N5.sat d x.w), S.2) := by unfold rdS; rw [if_neg h, if_neg h2]
theorem sat_lo {a b : Int} (ha : 0 ≤ a) (hb : 0 ≤ b) : 0 ≤ N5.sat a b := by unfold N5.sat N5.Inf; split <;> omega
theorem updU (F : Nat → Int) (x : Nat) (d : Int) : ∀ v, updV (fun v => Value.int .u64 (F v)) x (.int .u64 d) v = .int .u64 (N5.updI F x d v) := fun v => by
 by_cases e : v = x
 ·subst e; rw [updV_self, N5.updI_self]
 ·rw [updV_ne _ _ e, N5.updI_ne _ _ e]
set_option maxHeartbeats 3200000 in
theorem step_any (bf br fb g n B0 : Nat) (rv : Nat → Value) (r : List A) (F : Nat → Int) (o : List Nat) (oa : Option Addr) (oc v : Nat) (w : World) (hbf : w.cell? ⟨bf, 0, none⟩ = some (.slice (some ⟨fb, 0, none⟩) n n)) (hbr : w.cell? ⟨br, 0, none⟩ = some (.slice (some ⟨g, 0, none⟩) n n)) (hT : TbV w fb n 48 (fun u => .int .u64 (F u))) (hR : RdR w g n rv r) (hRB : ∀ b, RB g n rv b → ¬ SD0 fb B0 b) (hbf0 : ¬ SD0 fb B0 bf) (hfb : fb < B0) (ho : w.ownsRow B0 3 1 (.slice oa o.length oc) o.length (cellsI (ints o))) (hB0 : B0 ≤ w.heap.size) (hv : v < n) (hF : ∀ u, 0 ≤ F u ∧ F u ≤ N5.Inf) (hrr : ∀ x ∈ r, 0 ≤ x.t ∧ x.t.toNat < n ∧ 0 ≤ x.w ∧ x.w ≤ N5.Inf) (hol : o.length ≤ 1024) (hrl : r.length ≤ 1099511627776) :
  Calls Tryz.prog 192 #[.int .i64 v, .slice oa o.length oc, .pointer (some ⟨bf, 0, none⟩), .pointer (some ⟨br, 0, none⟩)] w fun e w' => ∃ oa' oc', e = .returned (.slice oa' (rdL (F v) ((rof r v).map toN) (F, o)).2.length oc') ∧ w'.ownsRow B0 3 1 (.slice oa' (rdL (F v) ((rof r v).map toN) (F, o)).2.length oc') (rdL (F v) ((rof r v).map toN) (F, o)).2.length (cellsI (ints (rdL (F v) ((rof r v).map toN) (F, o)).2)) ∧ TbV w' fb n 48 (fun u => .int .u64 ((rdL (F v) ((rof r v).map toN) (F, o)).1 u)) ∧ Fr (SD0 fb B0) w w' := by
 obtain ⟨i3, hi3, hz3, hs3, hby3⟩ := info_parts info3
 have hv' : (v : Int) < n := by omega
 have f0 := hT.cell hv
 have r0 := hR.ce v hv
 obtain ⟨ra, rc, er, hrs⟩ := hR.sl v hv
 rw [er] at r0
 have hpl := Nat.le_trans (rof_len r v) hrl
 have HPM : Hid (∀ k, k < (rof r v).length → (rof r v).getD k A.zero ∈ r) := fun k hk => by
  rw [List.getD_eq_getElem?_getD, List.getElem?_eq_getElem hk]
  exact (rof_mem.1 (List.getElem_mem hk)).1
 have HRS : Hid (0 < (rof r v).length → ∃ b, ra = some ⟨b, 0, none⟩ ∧ ¬ SD0 fb B0 b ∧ ∀ k, k < (rof r v).length → w.cell? ⟨b, k * 2, none⟩ = some (.int .i64 ((rof r v).getD k A.zero).t) ∧ w.cell? ⟨b, k * 2 + 1, none⟩ = some (.int .u64 ((rof r v).getD k A.zero).w)) := fun h0 => by
  obtain ⟨b, h1, h2, h3⟩ := hrs h0
  exact ⟨b, h1, hRB b h2, h3⟩
 have HRR := hid hrr
 have HBF := hid hbf
 have HN0 := hid hbf0
 have HFF : Hid (∀ u, 0 ≤ F u ∧ F u ≤ N5.Inf) := hF
 have HT0 := hid hT
 have HO0 := hid ho
 have hd0 := (hF v).1
 have hd1 := (hF v).2
 obtain ⟨d, HD⟩ := named (F v)
 rw [HD.out] at f0 hd0 hd1
 rw [HD.out]
 obtain ⟨P, HP⟩ := named (rof r v)
 rw [HP.out] at r0 HPM HRS hpl
 rw [HP.out]
 clear er hrs hrr hbf0 hF hT ho hR hRB
 have HD0 : Hid (0 ≤ d ∧ d ≤ N5.Inf) := ⟨hd0, hd1⟩
 clear hd0 hd1
 generalize hp : w.heap.size = p at *
 go_enter Tryz.func192, Tryz.ntmps192
 go_wp2_with fail
 go_loopw [1, 20] (fun s i wr => ∃ (k : Nat) (G : Nat → Int) (q : List Nat) (qa : Option Addr) (qc : Nat), k ≤ P.length ∧ i = .int .i64 k ∧ s = .slice qa q.length qc ∧ Hid (rdL d ((P.map toN).take k) (F, o) = (G, q)) ∧ q.length ≤ 1024 + k ∧ Hid (∀ u, 0 ≤ G u ∧ G u ≤ N5.Inf) ∧ Hid (wr.ownsRow B0 3 1 (.slice qa q.length qc) q.length (cellsI (ints q))) ∧ Hid (TbV wr fb n 48 (fun u => .int .u64 (G u))) ∧ Hid (Fr (SD0 fb B0) w wr)) (fun _ i _ => P.length - (intOf i).toNat)
 case atStart => exact ⟨0, F, o, oa, oc, Nat.zero_le _, rfl, rfl, rfl, by omega, HFF, HO0, HT0, Fr.refl _ _⟩
 case round =>
  clear HO0 HT0 HFF f0 r0 hbf hbr hol
  obtain ⟨k, G, q, qa, qc, hk, rfl, rfl, HS, hql, HG, HO, HT, HFR⟩ := hrel
  have hwz : B0 ≤ wr.heap.size := by have := HFR.out.size; omega
  by_cases hlk : k < P.length
  ·have hlk' : (k : Int) < P.length := by omega
   obtain ⟨rb, rfl, hnb, hcs⟩ := HRS.out (by omega)
   have y0 := Fr.cell HFR.out (hcs k hlk).1 hnb
   have y1 := Fr.cell HFR.out (hcs k hlk).2 hnb
   obtain ⟨x0, x1, x2, x3⟩ := HRR.out _ (HPM.out k hlk)
   have HTS : Hid (rdL d ((P.map toN).take (k + 1)) (F, o) = rdS d (G, q) (toN (P.getD k A.zero))) := by
    show _ = _
    rw [take_map_succ P hlk, rdL_snoc, HS.out]
   clear hcs
   generalize P.getD k A.zero = x at *
   obtain ⟨xf, xt, xw⟩ := x
   simp only at x0 x1 x2 x3 y0 y1
   obtain ⟨t, rfl⟩ : ∃ t : Nat, xt = t := ⟨xt.toNat, by omega⟩
   have htn : t < n := by simpa using x1
   have ht' : (t : Int) < n := by omega
   have HTT : Hid (N5.dst (toN ⟨xf, t, xw⟩) = t) := by show (t : Int).toNat = t; omega
   have HTW : Hid ((toN ⟨xf, t, xw⟩).w = xw) := rfl
   have HSK := hid (fun (h : G t ≤ N5.sat d xw) => rdS_skip (d := d) (S := (G, q)) (x := toN ⟨xf, t, xw⟩) (by rw [HTT.out, HTW.out]; exact h))
   have HSN := hid (fun (h : N5.sat d xw < G t) (h2 : G t = N5.Inf) => rdS_new (d := d) (S := (G, q)) (x := toN ⟨xf, t, xw⟩) (by rw [HTT.out, HTW.out]; exact Int.not_le.2 h) (by rw [HTT.out]; exact h2))
   have HSO := hid (fun (h : N5.sat d xw < G t) (h2 : G t ≠ N5.Inf) => rdS_old (d := d) (S := (G, q)) (x := toN ⟨xf, t, xw⟩) (by rw [HTT.out, HTW.out]; exact Int.not_le.2 h) (by rw [HTT.out]; exact h2))
   rw [HTT.out, HTW.out] at HSN HSO
   have HAD := hid (fun W2 => N5.add_any d xw HD0.out ⟨x2, x3⟩ W2)
   have HSL : Hid (0 ≤ N5.sat d xw ∧ N5.sat d xw ≤ N5.Inf) := ⟨sat_lo HD0.out.1 x2, N5.sat_inf _ _⟩
   have hgl := (HG.out t).1
   have hgh := (HG.out t).2
   obtain ⟨ss, HSS⟩ := named (N5.sat d xw)
   rw [HSS.out] at HSK HSN HSO HSL
   have HAD : Hid (∀ W2, Calls Tryz.prog 66 #[.int .u64 d, .int .u64 xw] W2 fun e w' => e = .returned (.int .u64 ss) ∧ w' = W2) := fun W2 => by
    have := HAD.out W2
    rw [HSS.out] at this
    exact this
   obtain ⟨gt, HGT⟩ := named (G t)
   have HTG : Hid (∀ W2, TbV W2 fb n 48 (fun u => .int .u64 (G u)) → W2.cell? ⟨fb, t, none⟩ = some (.int .u64 gt)) := fun W2 h => by rw [← HGT.out]; exact h.cell htn
   rw [HGT.out] at HSK HSN HSO hgl hgh
   have hb1 : Below wr.heap.size wr (wr.alloc (.cells #[.int .i64 t, .int .u64 xw] 256)) := (Below.refl _ _).alloc (Nat.le_refl _) _
   have HG2 := hid (heap_top wr (.cells #[.int .i64 t, .int .u64 xw] 256))
   have HF2 : Hid (Fr (SD0 fb B0) w (wr.alloc (.cells #[.int .i64 t, .int .u64 xw] 256))) := HFR.out.alloc _
   have HT2 : Hid (TbV (wr.alloc (.cells #[.int .i64 t, .int .u64 xw] 256)) fb n 48 (fun u => .int .u64 (G u))) := HT.out.same (hb1.block fb HT.out.lt)
   have HO2 := hid (own_on HO.out hb1)
   have hz2 : (wr.alloc (.cells #[.int .i64 t, .int .u64 xw] 256)).heap.size = wr.heap.size + 1 := World.size_alloc _ _
   clear hb1 HT HO HFR x1
   have hss0 := HSL.out.1
   have hss1 := HSL.out.2
   unfold N5.Inf at hss1 hgh
   have HGB : Hid (∀ u, 0 ≤ N5.updI G t ss u ∧ N5.updI G t ss u ≤ N5.Inf) := fun u => by
    by_cases e : u = t
    ·subst e; rw [N5.updI_self]; exact HSL.out
    ·rw [N5.updI_ne _ _ e]; exact HG.out u
   go_wp2_with fail
   refine (HAD.out _).mono ?_
   rintro e w2 ⟨rfl, hw2⟩
   generalize hW2 : wr.alloc (.cells #[.int .i64 t, .int .u64 xw] 256) = W2 at *
   subst hw2
   clear hW2
   generalize wr.heap.size = a at *
   have z0 : w2.cell? ⟨a, 0, none⟩ = some (.int .i64 t) := by simp [World.cell?, HG2.out]
   have b0 := Fr.cell HF2.out HBF.out HN0.out
   have f0 := HTG.out _ HT2.out
   have f1 := HT2.out.free t
   have hlt := HT2.out.lt
   by_cases hc : gt ≤ ss
   ·have HE : Hid (rdL d ((P.map toN).take (k + 1)) (F, o) = (G, q)) := HTS.out.trans (HSK.out hc)
    go_wp2_with fail
    exact ⟨⟨k + 1, G, q, qa, qc, hlk, by simp, rfl, HE, by omega, HG, HO2, HT2, HF2⟩, by simp [intOf]; omega⟩
   ·by_cases hi : gt = 18446744073709551615
    ·have HE : Hid (rdL d ((P.map toN).take (k + 1)) (F, o) = (N5.updI G t ss, q ++ [t])) := HTS.out.trans (HSN.out (Int.not_le.1 hc) hi)
     have hb3 : Below w2.heap.size w2 (w2.alloc (.cells #[.int .i64 t] 3)) := (Below.refl _ _).alloc (Nat.le_refl _) _
     have HNW : Hid (∀ (j : Nat) (z : Value), (cellsI [(t : Int)])[j]? = some z → (w2.alloc (.cells #[.int .i64 t] 3)).cell? ((⟨a + 1, 0, none⟩ : Addr).add j) = some z) := World.news_of_block (cs := #[.int .i64 (t : Int)]) (t := 3) (fr := (0, 0)) (by rw [← hz2]; exact heap_top w2 _)
     have HO3 := hid (own_on HO2.out hb3)
     have HT3 : Hid (TbV (w2.alloc (.cells #[.int .i64 t] 3)) fb n 48 (fun u => .int .u64 (G u))) := HT2.out.same (hb3.block fb hlt)
     have HF3 : Hid (Fr (SD0 fb B0) w (w2.alloc (.cells #[.int .i64 t] 3))) := HF2.out.alloc _
     have HZ3 : Hid ((w2.alloc (.cells #[.int .i64 t] 3)).heap.size = a + 2) := by show _ = _; rw [World.size_alloc, hz2]
     have HC3 : Hid (cellsI (ints q) ++ cellsI [(t : Int)] = cellsI (ints (q ++ [t]))) := by show _ = _; simp [cellsI, ints]
     have HOB : Hid (∀ k, (Value.slice qa q.length qc).ownBlock = some k → B0 ≤ k) := fun k hk => (own_lt HO3.out hk).1
     have HZB : Hid ((w2.alloc (.cells #[.int .i64 t] 3)).cell? ⟨a, 0, none⟩ = some (.int .i64 t)) := (hb3.cell (p := ⟨a, 0, none⟩) (by show a < w2.heap.size; omega)).trans z0
     have HBB : Hid ((w2.alloc (.cells #[.int .i64 t] 3)).cell? ⟨bf, 0, none⟩ = some (.slice (some ⟨fb, 0, none⟩) n n)) := Fr.cell HF3.out HBF.out HN0.out
     have hnz : (Value.slice qa q.length qc).ownBlock ≠ some a := fun e => by
      obtain ⟨cs, fz, h1⟩ := Lib.ownsRow_kind HO2.out a e
      rw [HG2.out] at h1
      injection h1 with h1
      injection h1 with _ h1 _
      exact absurd h1 (by decide)
     have HNZ := hid hnz
     have HBL : Hid (bf < (w2.alloc (.cells #[.int .i64 t] 3)).heap.size) := World.block_lt_of_cell? _ _ HBB.out
     clear hb3 hnz
     have hi2 : ¬ ss ≥ 18446744073709551615 ∨ True := Or.inr trivial
     go_wp2_with (at_builtin; go_must (refine wpList_append_lies _ rfl (.tmp 41) (.tmp 44) 25 rfl B0 3 i3 _ 1 8 Tryz.underlying25 hi3 hz3 hs3 hby3 rfl (by decide) (.slice qa q.length qc) q.length (cellsI (ints q)) rfl HO3.out ⟨a + 1, 0, none⟩ 1 1 (cellsI [(t : Int)]) rfl rfl HNW.out (by intro u hu; simp [cellsI] at hu; subst hu; rfl) (by decide) (by unfold maxLen; omega) (by omega) (by rw [HZ3.out]; omega) (a + 2) HZ3.out ?_; intro gg cap w7 hown7 hgrow7 hat7 hlt7; rw [HC3.out] at hown7; have HW7 := hid hown7; have HT7 : Hid (TbV w7 fb n 48 (fun u => .int .u64 (G u))) := HT3.out.same (hgrow7.block fb HT3.out.lt (fun e => by have := HOB.out fb e.symm; omega)); have HF7 : Hid (Fr (SD0 fb B0) w w7) := HF3.out.grown hgrow7 (fun k hk => Or.inr (HOB.out k hk)); have z7 := (hgrow7.cell_far ⟨a, 0, none⟩ (by rw [HZ3.out]; show a < a + 2; omega) (fun e => HNZ.out e.symm)).trans HZB.out; have b7 := Fr.cell HF7.out HBF.out HN0.out; have g7 := HTG.out _ HT7.out; have g8 := HT7.out.free t; clear hown7 hgrow7 hat7 hlt7))
     have hown8 : w7.ownsRow B0 3 1 (.slice (some ⟨gg, 0, none⟩) (q ++ [t]).length cap) (q ++ [t]).length (cellsI (ints (q ++ [t]))) := by rw [List.length_append]; exact HW7.out
     have HO8 : Hid ((w7.setCell ⟨fb, t, none⟩ (.int .u64 ss)).ownsRow B0 3 1 (.slice (some ⟨gg, 0, none⟩) (q ++ [t]).length cap) (q ++ [t]).length (cellsI (ints (q ++ [t])))) := own_set hown8 ⟨fb, t, none⟩ _ hfb
     have HT8 : Hid (TbV (w7.setCell ⟨fb, t, none⟩ (.int .u64 ss)) fb n 48 (fun u => .int .u64 (N5.updI G t ss u))) := (HT7.out.set t (.int .u64 ss)).congr (fun u _ => updU G t ss u)
     have HF8 : Hid (Fr (SD0 fb B0) w (w7.setCell ⟨fb, t, none⟩ (.int .u64 ss))) := HF7.out.setCell ⟨fb, t, none⟩ _ (Or.inl rfl)
     exact ⟨⟨k + 1, N5.updI G t ss, q ++ [t], some ⟨gg, 0, none⟩, cap, hlk, by simp, by simp, HE, by simp; omega, HGB, HO8, HT8, HF8⟩, by simp [intOf]; omega⟩
    ·have HE : Hid (rdL d ((P.map toN).take (k + 1)) (F, o) = (N5.updI G t ss, q)) := HTS.out.trans (HSO.out (Int.not_le.1 hc) hi)
     have HO8 : Hid ((w2.setCell ⟨fb, t, none⟩ (.int .u64 ss)).ownsRow B0 3 1 (.slice qa q.length qc) q.length (cellsI (ints q))) := own_set HO2.out ⟨fb, t, none⟩ _ hfb
     have HT8 : Hid (TbV (w2.setCell ⟨fb, t, none⟩ (.int .u64 ss)) fb n 48 (fun u => .int .u64 (N5.updI G t ss u))) := (HT2.out.set t (.int .u64 ss)).congr (fun u _ => updU G t ss u)
     have HF8 : Hid (Fr (SD0 fb B0) w (w2.setCell ⟨fb, t, none⟩ (.int .u64 ss))) := HF2.out.setCell ⟨fb, t, none⟩ _ (Or.inl rfl)
     have hi' : (gt == 18446744073709551615) = false := by simpa using hi
     go_wp2_with fail
     exact ⟨⟨k + 1, N5.updI G t ss, q, qa, qc, hlk, by simp, rfl, HE, by omega, HGB, HO8, HT8, HF8⟩, by simp [intOf]; omega⟩
  ·have hlk' : ¬ (k : Int) < P.length := by omega
   have HE : Hid (rdL d (P.map toN) (F, o) = (G, q)) := by
    have h := HS.out
    rw [List.take_of_length_le (by rw [List.length_map]; omega)] at h
    exact h
   go_wp2_with fail
   go_ret
   rw [HE.out]
   exact ⟨qa, qc, rfl, HO.out, HT.out, HFR.out⟩
def FarT (w : World) (b n : Nat) (F : Nat → Int) : Prop := ∀ v, v < n → w.cell? ⟨b, v, none⟩ = some (.int .u64 (F v))
theorem tk_own {w : World} {B g c : Nat} {o : List Nat} (h : w.ownsRow B 3 1 (.slice (some ⟨g, 0, none⟩) o.length c) o.length (cellsI (ints o))) (i : Nat) (h0 : 0 < o.length) : (w.setCell ⟨g, i, none⟩ (.int .i64 (o.getD (o.length - 1) 0 : Nat))).ownsRow B 3 1 (.slice (some ⟨g, 0, none⟩) (tkO o i).length c) (tkO o i).length (cellsI (ints (tkO o i))) := by
 have h1 := own_setI h i (o.getD (o.length - 1) 0)
 obtain ⟨e1, h2⟩ := h1
 refine ⟨by simp [cellsI, ints], Or.inr ?_⟩
 rcases h2 with ⟨e, _⟩ | ⟨g2, cap, cur, e, hb, hg, hn, hc, hs, ht⟩
 ·cases e
 ·obtain ⟨rfl, rfl⟩ : g2 = g ∧ cap = c := by cases e; exact ⟨rfl, rfl⟩
  rw [List.length_set] at hn ht
  refine ⟨g2, cap, cur, rfl, hb, hg, by rw [tkO_length]; omega, hc, hs, ?_⟩
  rw [tkO_length, Nat.mul_one]
  rw [Nat.mul_one] at ht
  have e3 : cur.toList.take (o.length - 1) = (cur.toList.take o.length).take (o.length - 1) := by rw [List.take_take]; congr 1; omega
  rw [e3, ht]
  unfold tkO cellsI ints
  rw [List.map_take, List.map_take]
set_option maxHeartbeats 1600000 in
theorem takeNearest_any (B g c : Nat) (o : List Nat) (fb n fc : Nat) (F : Nat → Int) (w : World) (h0 : 0 < o.length) (hol : o.length ≤ 1024) (hgb : g < w.heap.size) (hfb : fb < w.heap.size) (ho : ∀ j, j < o.length → o.getD j 0 < n) (hown : w.ownsRow B 3 1 (.slice (some ⟨g, 0, none⟩) o.length c) o.length (cellsI (ints o))) (hF : FarT w fb n F) :
  Calls Tryz.prog 220 #[.slice (some ⟨g, 0, none⟩) o.length c, .slice (some ⟨fb, 0, none⟩) n fc] w fun e w' => ∃ W, e = .returned (.tuple #[.int .i64 (o.getD (nrI F o o.length) 0 : Nat), .slice (some ⟨g, 0, none⟩) (o.length - 1 : Nat) c]) ∧ Below w.heap.size w W ∧ w' = (W.setCell ⟨g, nrI F o o.length, none⟩ (.int .i64 (o.getD (o.length - 1) 0 : Nat))).drew := by
 have HC : Hid (∀ k, k < o.length → w.cell? ⟨g, k, none⟩ = some (.int .i64 ((o.getD k 0 : Nat) : Int))) := fun k hk => own_cellI hown hk
 have hcap : o.length ≤ c := by
  rcases hown.2 with ⟨e, _⟩ | ⟨g2, cap, cur, e, hb, hg, hn, _⟩
  ·cases e
  ·cases e; exact hn
 have hfree : ∀ k, w.frozen? ⟨g, k, none⟩ = false := fun k => by
  rcases hown.2 with ⟨e, _⟩ | ⟨g2, cap, cur, e, hb, hg, hn, _⟩
  ·cases e
  ·cases e; simp [World.frozen?, hg]
 have HF := hid hF
 have HO := hid ho
 clear hF ho hown
 have HNL := hid (nrI_lt F o o.length h0)
 obtain ⟨m, HM⟩ := named o.length
 rw [HM.out] at HC hcap h0 hol HO HNL ⊢
 obtain ⟨q, HQ⟩ : ∃ q, Hid (m - 1 = q) := ⟨_, rfl⟩
 rw [HQ.out]
 have hq : q < m := by have := HQ.out; omega
 have em : (m : Int) - 1 = q := by have := HQ.out; omega
 have HB0 : Hid (Below w.heap.size w w) := Below.refl _ _
 have HFZ : Hid (∀ W, Below w.heap.size w W → ∀ k, W.frozen? ⟨g, k, none⟩ = false) := fun W hb k => by
  have := hfree k
  unfold World.frozen? at this ⊢
  rw [hb.block g hgb]
  exact this
 clear hfree
 generalize hp : w.heap.size = p at *
 go_enter Tryz.func220, Tryz.ntmps220
 go_wp2_with fail
 go_loopw [6, 15] (fun s i wr => ∃ (k : Nat) (j : Nat), k ≤ m ∧ i = .int .i64 k ∧ s = .int .i64 j ∧ Hid (nrI F o k = j) ∧ j < m ∧ Hid (Below p w wr)) (fun _ i _ => m - (intOf i).toNat)
 case atStart => exact ⟨0, 0, Nat.zero_le _, rfl, rfl, rfl, by omega, HB0⟩
 case round =>
  obtain ⟨k, j, hk, rfl, rfl, HJ, hj, HBR⟩ := hrel
  have hj' : (j : Int) < m := by omega
  by_cases hlk : k < m
  ·have hlk' : (k : Int) < m := by omega
   have y0 := (HBR.out.cell (p := ⟨g, k, none⟩) hgb).trans (HC.out k hlk)
   have y1 := (HBR.out.cell (p := ⟨g, j, none⟩) hgb).trans (HC.out j hj)
   have HBN : Hid (Below p w wr.drew) := HBR.out.drew
   have b0 := HO.out k hlk
   have b1 := HO.out j hj
   have f0 := (HBR.out.cell (p := ⟨fb, o.getD k 0, none⟩) hfb).trans (HF.out _ b0)
   have f1 := (HBR.out.cell (p := ⟨fb, o.getD j 0, none⟩) hfb).trans (HF.out _ b1)
   have HS : Hid (nrI F o (k + 1) = if F (o.getD k 0) < F (o.getD j 0) then k else j) := by
    show nrI F o (k + 1) = _
    rw [← HJ.out]
    rfl
   generalize o.getD k 0 = a at *
   generalize o.getD j 0 = b at *
   have b0' : (a : Int) < n := by omega
   have b1' : (b : Int) < n := by omega
   by_cases hc : F a < F b
   ·rw [if_pos hc] at HS
    go_wp2_with fail
    go_region
    go_wp2_with fail
    exact ⟨⟨k + 1, k, by omega, by simp, rfl, HS, hlk, HBN⟩, by simp [intOf]; omega⟩
   ·rw [if_neg hc] at HS
    go_wp2_with fail
    go_region
    go_wp2_with fail
    exact ⟨⟨k + 1, j, by omega, by simp, rfl, HS, hj, HBN⟩, by simp [intOf]; omega⟩
  ·have hlk' : ¬ (k : Int) < m := by omega
   have ek : k = m := by omega
   have HK : Hid (nrI F o m = j) := by rw [← ek]; exact HJ
   have y0 := (HBR.out.cell (p := ⟨g, j, none⟩) hgb).trans (HC.out j hj)
   have y1 := (HBR.out.cell (p := ⟨g, q, none⟩) hgb).trans (HC.out q hq)
   have hq' : (q : Int) < m := by omega
   have p0 := HFZ.out _ HBR.out j
   clear HC HO HF HNL HFZ
   obtain ⟨a, HA⟩ := named (o.getD j 0)
   obtain ⟨b, HBB⟩ := named (o.getD q 0)
   rw [HA.out] at y0
   rw [HBB.out] at y1
   go_wp2_with fail
   go_region
   go_wp2_with fail
   go_ret2
   exact ⟨wr, by rw [HK.out, HA.out]; rfl, HBR.out, by rw [HK.out, HBB.out]⟩
theorem rdS_mem {d : Int} {S : (Nat → Int) × List Nat} {x : N5.A} {u : Nat} (h : u ∈ (rdS d S x).2) : u ∈ S.2 ∨ u = N5.dst x := by
 unfold rdS at h
 split at h
 ·exact Or.inl h
 ·dsimp only at h
  split at h
  ·rw [List.mem_append, List.mem_singleton] at h
   exact h
  ·exact Or.inl h
theorem rdL_mem {d : Int} {u : Nat} : ∀ (r : List N5.A) (S : (Nat → Int) × List Nat), u ∈ (rdL d r S).2 → u ∈ S.2 ∨ ∃ x ∈ r, u = N5.dst x
 | [], S, h => Or.inl h
 | x :: r, S, h => by
   rcases rdL_mem r (rdS d S x) h with h1 | ⟨y, hy, e⟩
   ·rcases rdS_mem h1 with h2 | h2
    ·exact Or.inl h2
    ·exact Or.inr ⟨x, by simp, h2⟩
   ·exact Or.inr ⟨y, by simp [hy], e⟩
def RdOk (n : Nat) (r : List A) : Prop := ∀ x ∈ r, x.f = (x.f.toNat : Nat) ∧ x.f.toNat < n ∧ 0 ≤ x.t ∧ x.t.toNat < n ∧ 0 ≤ x.w ∧ x.w ≤ N5.Inf
theorem niF_begin {n s : Nat} (hs : s < n) : niF n (N5.updI (fun _ => N5.Inf) s 0) + 1 = n := by
 have h := niF_upd n (fun _ => N5.Inf) s 0 (by unfold N5.Inf; omega)
 rw [if_pos ⟨hs, rfl⟩] at h
 have e : niF n (fun _ => N5.Inf) = n := by
  unfold niF
  rw [List.filter_eq_self.2 (fun _ _ => by simp), List.length_range]
 omega
theorem onc_lt {o : List Nat} {n : Nat} (h : ∀ u ∈ o, u < n) : ∀ j, j < o.length → o.getD j 0 < n := fun j hj => h _ (mem_getD.2 ⟨j, hj, rfl⟩)
structure SeA (w : World) (B0 fb n s : Nat) (r : List A) (F : Nat → Int) (o : List Nat) : Prop where
 sr : Srh (r.map toN) s F (fun u => u ∈ o) (fun _ => False)
 on : Onc o
 lt : ∀ u ∈ o, u < n
 tb : TbV w fb n 48 (fun u => .int .u64 (F u))
theorem SeA.next {w w' : World} {B0 fb n s : Nat} {r : List A} {F : Nat → Int} {o : List Nat} (h : SeA w B0 fb n s r F o) (hr : RdOk n r) (h0 : 0 < o.length) (hT : TbV w' fb n 48 (fun u => .int .u64 ((rdL (F (o.getD (nrI F o o.length) 0)) ((rof r (o.getD (nrI F o o.length) 0)).map toN) (F, tkO o (nrI F o o.length))).1 u))) : SeA w' B0 fb n s r (rdL (F (o.getD (nrI F o o.length) 0)) ((rof r (o.getD (nrI F o o.length) 0)).map toN) (F, tkO o (nrI F o o.length))).1 (rdL (F (o.getD (nrI F o o.length) 0)) ((rof r (o.getD (nrI F o o.length) 0)).map toN) (F, tkO o (nrI F o o.length))).2 ∧ niF n (rdL (F (o.getD (nrI F o o.length) 0)) ((rof r (o.getD (nrI F o o.length) 0)).map toN) (F, tkO o (nrI F o o.length))).1 + (rdL (F (o.getD (nrI F o o.length) 0)) ((rof r (o.getD (nrI F o o.length) 0)).map toN) (F, tkO o (nrI F o o.length))).2.length + 1 = niF n F + o.length := by
 have hi := nrI_lt F o o.length h0
 have hm := h.sr.near h.on h0
 generalize hv : o.getD (nrI F o o.length) 0 = v at *
 have hsrc : ∀ x ∈ r, N5.src (toN x) = x.f.toNat := fun x _ => rfl
 have hq := SrM.round (S := (F, tkO o (nrI F o o.length))) hm (tkO_onc h.on hi) ((rof r v).map toN) (fun x hx => by
  obtain ⟨y, hy, rfl⟩ := List.mem_map.1 hx
  obtain ⟨h1, h2⟩ := rof_mem.1 hy
  exact ⟨List.mem_map.2 ⟨y, h1, rfl⟩, (hr y h1).2.2.2.2.1, h2⟩) (fun x hx e => by
  obtain ⟨y, hy, rfl⟩ := List.mem_map.1 hx
  exact List.mem_map.2 ⟨y, rof_mem.2 ⟨hy, e⟩, rfl⟩) n (fun x hx => by
  obtain ⟨y, hy, rfl⟩ := List.mem_map.1 hx
  exact (hr y hy).2.2.2.1)
 refine ⟨⟨hq.1, hq.2.1, fun u hu => ?_, hT⟩, ?_⟩
 ·rcases rdL_mem _ _ hu with h1 | ⟨x, hx, e⟩
  ·exact h.lt u ((tkO_mem h.on hi u).1 h1).1
  ·obtain ⟨y, hy, rfl⟩ := List.mem_map.1 hx
   rw [e]
   exact (hr y (rof_mem.1 hy).1).2.2.2.1
 ·have h1 := hq.2.2
  have h2 := tkO_length o (nrI F o o.length)
  simp only at h1
  omega
set_option maxHeartbeats 3200000 in
theorem search_any (bf br fb g n s : Nat) (rv : Nat → Value) (r : List A) (w : World) (hbf : w.cell? ⟨bf, 0, none⟩ = some (.slice (some ⟨fb, 0, none⟩) n n)) (hbr : w.cell? ⟨br, 0, none⟩ = some (.slice (some ⟨g, 0, none⟩) n n)) (hT : TbV w fb n 48 (fun u => .int .u64 (N5.updI (fun _ => N5.Inf) s 0 u))) (hR : RdR w g n rv r) (hRB : ∀ b, RB g n rv b → b < w.heap.size ∧ b ≠ fb) (hbf0 : bf ≠ fb) (hbr0 : br ≠ fb) (hs : s < n) (hn : n ≤ 1024) (hrr : RdOk n r) (hrl : r.length ≤ 1099511627776) :
  Calls Tryz.prog 191 #[.int .i64 s, .slice (some ⟨fb, 0, none⟩) n n, .func (.func 192) #[] #[.pointer (some ⟨bf, 0, none⟩), .pointer (some ⟨br, 0, none⟩)]] w fun e w' => e = .returned (.tuple #[]) ∧ ∃ F, TbV w' fb n 48 (fun u => .int .u64 (F u)) ∧ N5.IsD (r.map toN) (fun _ => true) s F ∧ Fr (SD0 fb w.heap.size) w w' := by
 have hfl := hT.lt
 have hbfl := World.block_lt_of_cell? w _ hbf
 have hbrl := World.block_lt_of_cell? w _ hbr
 have HBF := hid hbf
 have HBR := hid hbr
 have HNF : Hid (¬ SD0 fb w.heap.size bf) := fun h => h.elim hbf0 (fun h => by have : bf < w.heap.size := hbfl; omega)
 have HNR : Hid (¬ SD0 fb w.heap.size br) := fun h => h.elim hbr0 (fun h => by have : br < w.heap.size := hbrl; omega)
 have HNB : Hid (∀ b, RB g n rv b → ¬ SD0 fb w.heap.size b) := fun b hb h => h.elim (hRB b hb).2 (fun h => by have := (hRB b hb).1; omega)
 have HRR := hid hrr
 have HR := hid hR
 have hb1 : Below w.heap.size w (w.alloc (.cells #[.int .i64 s] 3)) := (Below.refl _ _).alloc (Nat.le_refl _) _
 have HW1 : Hid (niF n (N5.updI (fun _ => N5.Inf) s 0) + 1 = n) := niF_begin hs
 have HS1 : Hid (SeA (w.alloc (.cells #[.int .i64 s] 3)) w.heap.size fb n s r (N5.updI (fun _ => N5.Inf) s 0) [s]) := by
  refine ⟨?_, onc_one s, fun u hu => by simp at hu; omega, hT.same (hb1.block fb hfl)⟩
  have h := Srh.begin (r.map toN) s
  have e : (fun u => u = s) = (fun u => u ∈ [s]) := funext fun u => propext (by simp)
  rw [e] at h
  exact h
 have HO1 : Hid ((w.alloc (.cells #[.int .i64 s] 3)).ownsRow w.heap.size 3 1 (.slice (some ⟨w.heap.size, 0, none⟩) [s].length 1) [s].length (cellsI (ints [s]))) := by
  refine ⟨by simp [cellsI, ints], Or.inr ⟨w.heap.size, 1, #[.int .i64 s], rfl, Nat.le_refl _, heap_top w _, by simp, by simp [maxLen], by simp, by simp [cellsI, ints]⟩⟩
 have HF1 : Hid (Fr (SD0 fb w.heap.size) w (w.alloc (.cells #[.int .i64 s] 3))) := Fr.ofBelow hb1
 clear hT hR hRB hrr hbf hbr hb1 hbf0 hbr0 hbfl hbrl
 generalize hp : w.heap.size = p at *
 go_enter Tryz.func191, Tryz.ntmps191
 go_wp2_with fail
 go_loopg [6] n (fun gk s6 wr => ∃ (F : Nat → Int) (o : List Nat) (oa : Option Addr) (oc : Nat), s6 = .slice oa o.length oc ∧ Hid (niF n F + o.length = gk) ∧ gk ≤ n ∧ Hid (SeA wr p fb n s r F o) ∧ Hid (wr.ownsRow p 3 1 (.slice oa o.length oc) o.length (cellsI (ints o))) ∧ Hid (Fr (SD0 fb p) w wr))
 case atStart => exact ⟨_, [s], some ⟨p, 0, none⟩, 1, rfl, HW1, Nat.le_refl _, HS1, HO1, HF1⟩
 case round =>
  clear HW1 HS1 HO1 HF1
  obtain ⟨F, o, oa, oc, rfl, HGK, hgk, HSE, HO, HFR⟩ := hrel
  have hwz : p ≤ wr.heap.size := by have := HFR.out.size; omega
  have hfw := HSE.out.tb.lt
  by_cases h0 : 0 < o.length
  ·have h0' : (0 : Int) < o.length := by omega
   have hol : o.length ≤ 1024 := by have := HGK.out; omega
   obtain ⟨og, c2, e, hog, hol2⟩ := World.ownsRow.form HO.out h0
   cases e
   have HTN := hid (takeNearest_any p og oc o fb n n F wr h0 hol hol2 hfw (onc_lt HSE.out.lt) HO.out (fun v hv => HSE.out.tb.cell hv))
   have HV : Hid (o.getD (nrI F o o.length) 0 < n) := onc_lt HSE.out.lt _ (nrI_lt F o o.length h0)
   have HNX := hid (fun (w' : World) => HSE.out.next (w' := w') HRR.out h0)
   have HTO : Hid (∀ W, Below wr.heap.size wr W → ((W.setCell ⟨og, nrI F o o.length, none⟩ (.int .i64 (o.getD (o.length - 1) 0 : Nat))).drew).ownsRow p 3 1 (.slice (some ⟨og, 0, none⟩) (tkO o (nrI F o o.length)).length oc) (tkO o (nrI F o o.length)).length (cellsI (ints (tkO o (nrI F o o.length)))) ∧ TbV ((W.setCell ⟨og, nrI F o o.length, none⟩ (.int .i64 (o.getD (o.length - 1) 0 : Nat))).drew) fb n 48 (fun u => .int .u64 (F u)) ∧ Fr (SD0 fb p) w ((W.setCell ⟨og, nrI F o o.length, none⟩ (.int .i64 (o.getD (o.length - 1) 0 : Nat))).drew) ∧ p ≤ ((W.setCell ⟨og, nrI F o o.length, none⟩ (.int .i64 (o.getD (o.length - 1) 0 : Nat))).drew).heap.size) := fun W hb => by
    have h1 := tk_own (own_on HO.out hb) (nrI F o o.length) h0
    have h2 : Fr (SD0 fb p) w (W.setCell ⟨og, nrI F o o.length, none⟩ (.int .i64 (o.getD (o.length - 1) 0 : Nat))) := (HFR.out.trans (Fr.ofBelow hb)).setCell _ _ (Or.inr hog)
    have hne : fb ≠ og := fun e => by
     have := hfl
     omega
    have h3 : TbV (W.setCell ⟨og, nrI F o o.length, none⟩ (.int .i64 (o.getD (o.length - 1) 0 : Nat))) fb n 48 (fun u => .int .u64 (F u)) := HSE.out.tb.same ((Below.heap_setCell _ _ _ _ hne).trans (hb.block fb hfw))
    refine ⟨h1, h3, h2.drew, ?_⟩
    have := h2.drew.size
    omega
   have hlo := HSE.out.sr.lo
   have hhi := HSE.out.sr.hi
   have HLH : Hid (∀ u, 0 ≤ F u ∧ F u ≤ N5.Inf) := fun u => ⟨hlo u, hhi u⟩
   have HTL : Hid ((tkO o (nrI F o o.length)).length = o.length - 1) := tkO_length _ _
   clear hlo hhi
   obtain ⟨v, HVV⟩ := named (o.getD (nrI F o o.length) 0)
   rw [HVV.out] at HTN HV HNX
   obtain ⟨la, HLA⟩ := named (o.getD (o.length - 1) 0)
   rw [HLA.out] at HTN HTO
   obtain ⟨ot, HOT⟩ := named (tkO o (nrI F o o.length))
   rw [HOT.out] at HNX HTO HTL
   obtain ⟨ol, HOL⟩ := named (o.length - 1)
   rw [HOL.out] at HTN HTL
   have HST : Hid (∀ W, W.ownsRow p 3 1 (.slice (some ⟨og, 0, none⟩) ot.length oc) ot.length (cellsI (ints ot)) → TbV W fb n 48 (fun u => .int .u64 (F u)) → Fr (SD0 fb p) w W → p ≤ W.heap.size → Calls Tryz.prog 192 #[.int .i64 v, .slice (some ⟨og, 0, none⟩) ol oc, .pointer (some ⟨bf, 0, none⟩), .pointer (some ⟨br, 0, none⟩)] W fun e w' => ∃ oa' oc', e = .returned (.slice oa' (rdL (F v) ((rof r v).map toN) (F, ot)).2.length oc') ∧ w'.ownsRow p 3 1 (.slice oa' (rdL (F v) ((rof r v).map toN) (F, ot)).2.length oc') (rdL (F v) ((rof r v).map toN) (F, ot)).2.length (cellsI (ints (rdL (F v) ((rof r v).map toN) (F, ot)).2)) ∧ TbV w' fb n 48 (fun u => .int .u64 ((rdL (F v) ((rof r v).map toN) (F, ot)).1 u)) ∧ Fr (SD0 fb p) W w') := fun W h1 h2 h3 h4 => by
    have h := step_any bf br fb g n p rv r F ot (some ⟨og, 0, none⟩) oc v W (Fr.cell h3 HBF.out HNF.out) (Fr.cell h3 HBR.out HNR.out) h2 (HR.out.fr h3 HNB.out) HNB.out HNF.out hfl h1 h4 HV.out HLH.out (fun x hx => (HRR.out x hx).2.2) (by have := HTL.out; have := HOL.out; omega) hrl
    rw [HTL.out] at h
    exact h
   rw [← HGK.out] at hgk
   obtain ⟨RS, HRS⟩ := named (rdL (F v) ((rof r v).map toN) (F, ot))
   rw [HRS.out] at HNX HST
   go_wp2_with fail
   refine HTN.out.mono ?_
   rintro e w2 ⟨W, rfl, hbW, rfl⟩
   obtain ⟨k1, k2, k3, k4⟩ := HTO.out W hbW
   have HCL := hid (HST.out _ k1 k2 k3 k4)
   have HF2 := hid k3
   clear HTN HTO HST k1 k2 k3 k4 hbW
   generalize (W.setCell ⟨og, nrI F o o.length, none⟩ (.int .i64 (la : Nat))).drew = w2 at *
   go_wp2_with fail
   refine HCL.out.mono ?_
   rintro e w3 ⟨oa', oc', rfl, hown3, hT3, hF3⟩
   have HN3 := hid (HNX.out w3 hT3)
   have HO3 := hid hown3
   have HF3 : Hid (Fr (SD0 fb p) w w3) := HF2.out.trans hF3
   clear hown3 hT3 hF3 HNX HCL HF2
   go_wp2_with fail
   go_roundg (niF n RS.1 + RS.2.length)
   case measure =>
    have := HN3.out.2
    have := HGK.out
    omega
   case rel =>
    have := HN3.out.2
    exact ⟨RS.1, RS.2, oa', oc', rfl, rfl, by omega, HN3.out.1, HO3, HF3⟩
  ·have h0' : ¬ (0 : Int) < o.length := by omega
   have e : o = [] := List.eq_nil_of_length_eq_zero (by omega)
   have HE : Hid (∃ F, TbV wr fb n 48 (fun u => .int .u64 (F u)) ∧ N5.IsD (r.map toN) (fun _ => true) s F ∧ Fr (SD0 fb p) w wr) := ⟨F, HSE.out.tb, HSE.out.sr.isD (fun x hx => by
    obtain ⟨y, hy, rfl⟩ := List.mem_map.1 hx
    exact (HRR.out y hy).2.2.2.2.1) (fun u hu => by rw [e] at hu; cases hu), HFR.out⟩
   clear e HSE HO HFR HGK
   go_wp2_with fail
   first | (go_end0; exact ⟨rfl, HE.out⟩) | (refine bodyPost_ret (v := .tuple #[]) (by first | rfl | simp [results, Tryz.results191, go_sem]) rfl ?_; exact ⟨rfl, HE.out⟩)
end Go.Proofs.YtaafkpojjdjphaaGreat
