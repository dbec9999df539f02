/-
  The contract of natcut.Marks. The contract of natcut.Fragments. The contract of natcut.checkCentres.
-/
import Derived.Test.YtpgadcacimjlaabZH
import Derived.Test.YtpgadcacimjlaabZT
namespace Go.Proofs.Ytpgadcacimjlaab
open Go.RowKit Go.Maps
theorem info49 : (Try.prog.info? 40).map (fun i => (i.zero, i.size, i.bytes)) = some (some (.agg #[.int .i64 0, .int .i64 0, .int .u32 0]), 3, 24) := by kernel_rfl
/-- Arcs of pairs, as cells. -/
def cellsQ : List Pr → List Value
  | [] => []
  | p :: r => .int .i64 (p.a : Int) :: .int .i64 (p.b : Int) :: .int .u32 0 :: cellsQ r
theorem cellsQ_len : ∀ l : List Pr, (cellsQ l).length = l.length * 3
  | [] => rfl
  | x :: r => by simp only [cellsQ, List.length_cons, cellsQ_len r]; omega
theorem cellsQ_append : ∀ l m : List Pr, cellsQ (l ++ m) = cellsQ l ++ cellsQ m
  | [], _ => rfl
  | x :: r, m => by simp only [cellsQ, List.cons_append, cellsQ_append r m]
theorem cellsQ_at : ∀ (l : List Pr) (j : Nat), j < l.length → (cellsQ l)[j * 3]? = some (.int .i64 ((l.getD j Pr.zero).a : Int)) ∧ (cellsQ l)[j * 3 + 1]? = some (.int .i64 ((l.getD j Pr.zero).b : Int)) ∧ (cellsQ l)[j * 3 + 2]? = some (.int .u32 0)
  | [], _, h => absurd h (by simp)
  | x :: r, 0, _ => ⟨rfl, rfl, rfl⟩
  | x :: r, j + 1, h => by
    have := cellsQ_at r j (by simpa using h)
    rw [show (j + 1) * 3 = j * 3 + 3 by omega]
    exact this
theorem cellsQ_one : ∀ (l : List Pr), ∀ u ∈ cellsQ l, u.oneCell' = true
  | [], u, h => by cases h
  | x :: r, u, h => by
    simp only [cellsQ, List.mem_cons] at h
    rcases h with rfl | rfl | rfl | h
    · rfl
    · rfl
    · rfl
    · exact cellsQ_one r u h
def arQ (l : List Pr) : List T3.A := l.map (fun p => ⟨(p.a : Int), (p.b : Int), 0⟩)
theorem arQ_len (l : List Pr) : (arQ l).length = l.length := by simp [arQ]
theorem own_arQ {w : World} {B c : Nat} {a : Option Addr} {l : List Pr} (h : w.ownsRow B 40 3 (.slice a l.length c) l.length (cellsQ l)) : T3.Arcs w a (arQ l) := by
  rcases h.2 with ⟨_, h0⟩ | ⟨g, c', cur, h', hb, hg, _⟩
  · exact .inl (List.eq_nil_of_length_eq_zero (by rw [arQ_len]; exact h0))
  · injection h' with e1 e2 e3
    subst e1
    refine .inr ⟨g, 0, rfl, lt_of_block hg, fun j hj => ?_⟩
    rw [arQ_len] at hj
    obtain ⟨h1, h2, h3⟩ := cellsQ_at l j hj
    have e : (arQ l).getD j T3.A.zero = ⟨((l.getD j Pr.zero).a : Int), ((l.getD j Pr.zero).b : Int), 0⟩ := by simp [arQ, List.getD, hj]
    rw [e, Nat.zero_add]
    exact ⟨(World.ownsRow.cellAt h (j * 3) (by omega)).trans h1, (World.ownsRow.cellAt h (j * 3 + 1) (by omega)).trans h2, (World.ownsRow.cellAt h (j * 3 + 2) (by omega)).trans h3⟩
theorem newsQ (w : World) (x y : Nat) : ∀ j u, (cellsQ [⟨x, y⟩])[j]? = some u → (w.alloc (.cells #[.int .i64 (x : Int), .int .i64 (y : Int), .int .u32 0] 40)).cell? ((⟨w.heap.size, 0, none⟩ : Addr).add j) = some u := by
  intro j u hu
  have h := heap_top w (.cells #[.int .i64 (x : Int), .int .i64 (y : Int), .int .u32 0] 40)
  rw [Go.WideShapes.add_plain, Nat.zero_add]
  generalize w.alloc (.cells #[.int .i64 (x : Int), .int .i64 (y : Int), .int .u32 0] 40) = W at *
  generalize w.heap.size = b at *
  match j, hu with
  | 0, hu => simp [cellsQ] at hu; subst hu; simp [World.cell?, h]
  | 1, hu => simp [cellsQ] at hu; subst hu; simp [World.cell?, h]
  | 2, hu => simp [cellsQ] at hu; subst hu; simp [World.cell?, h]
  | j + 3, hu => simp [cellsQ] at hu
/-- The pairs that are not marked. -/
def others (l : List A) (ms : List Pi2) : List Pr := (prl l).filter (fun p => !decide (p ∈ ms.map Pi2.nat))
theorem others_ok {n : Nat} {l : List A} (h : chkE n l = 0) (ms : List Pi2) : T3.chkE n (arQ (others l ms)) = 0 := by
  obtain ⟨h1, h2, h3, h4⟩ := chk_zero h
  unfold T3.chkE
  rw [if_neg (by omega), if_neg, if_pos]
  · rw [List.all_eq_true]
    intro x hx
    obtain ⟨p, hp, rfl⟩ := List.mem_map.1 hx
    have := prl_lt h4 (List.mem_filter.1 hp).1
    simp [T3.okA, T3.okV, this]
  · rw [arQ_len]
    have := prl_len l
    have h5 : (others l ms).length ≤ (prl l).length := List.length_filter_le _ _
    omega
/-- What Fragments tells. -/
def frE (N : Int) (l : List A) (ms : List Pi2) : Int := if chkE N l ≠ 0 then chkE N l else mkE N ms
/-- The labels that it answers. -/
def frL (N : Int) (l : List A) (ms : List Pi2) : List Int := if frE N l ms = 0 then T3.partsL N (arQ (others l ms)) else []
theorem own_cap {w : World} {B : Nat} {a : Option Addr} {c : Nat} {d : List Pr} (h : OwnP w B a c d) : d.length ≤ c ∧ c ≤ 9223372036854775807 := by
  rcases h.2 with ⟨e, h0⟩ | ⟨g, c', cur, e, _, _, h4, h5, _⟩
  · injection e with e1 e2 e3; omega
  · injection e with e1 e2 e3; subst e3; exact ⟨h4, h5⟩
theorem prl_nodup (l : List A) : (prl l).Nodup := by
  refine (prl_sorted l).imp (fun {x y} h e => ?_)
  subst e
  unfold ltP at h
  omega
set_option maxRecDepth 100000 in
set_option maxHeartbeats 3200000 in
theorem frag_any (N : Int) (a : Option Addr) (l : List A) (cap : Nat) (b : Option Addr) (ms : List Pi2) (bc : Nat) (w : World) (hl : l.length ≤ 9223372036854775807) (hml : ms.length ≤ 9223372036854775807) (hr : Arcs w a l) (hm : PrI w b ms) :
    Calls Try.prog 9 #[.agg #[.int .i64 N, .slice a l.length cap], .slice b ms.length bc] w fun e w' => T3.Made w w' e (frL N l ms) (frE N l ms) := by
  have hb0 : Below w.heap.size w (w.alloc (.cells #[.int .i64 N, .slice a l.length cap] 24)) := (Below.refl _ _).alloc (Nat.le_refl _) _
  have hg := heap_top w (.cells #[.int .i64 N, .slice a l.length cap] 24)
  have HR := Lib.hid (hr.on hb0)
  have HM := Lib.hid (hm.on hb0)
  have hwz : w.heap.size ≤ (w.alloc (.cells #[.int .i64 N, .slice a l.length cap] 24)).heap.size := hb0.size
  have HB0 := Lib.hid hb0
  obtain ⟨L, HL⟩ := named (frL N l ms)
  obtain ⟨G, HG⟩ := named (frE N l ms)
  rw [HL.out, HG.out]
  clear hb0 hr hm
  generalize hp : w.heap.size = p at *
  go_enter Try.func9, Try.ntmps9
  go_wp2_with fail
  generalize hW : w.alloc (.cells #[.int .i64 N, .slice a l.length cap] 24) = W at *
  clear hW
  refine (pairs_any N a l cap W hl HR.out).mono ?_
  rintro e w1 ⟨v1, c1, ps, rfl, hown1, hps, hb1⟩
  have hpz : p < W.heap.size := lt_of_block hg
  have HB1 : Hid (Below p w w1) := HB0.out.trans (hb1.mono hwz)
  have hg1 := (hb1.block p hpz).trans hg
  obtain ⟨⟨c0, c1'⟩, _⟩ := two_cells hg1
  have HM1 := Lib.hid (HM.out.on hb1)
  have HO1 := Lib.hid hown1
  have hwz1 : W.heap.size ≤ w1.heap.size := hb1.size
  obtain ⟨E, HE⟩ := named (chkE N l)
  rw [HE.out] at hps ⊢
  clear hb1 hown1 hg
  by_cases hE : E ≠ 0
  · have e1 : (E != 0) = true := by simpa using hE
    have e2 : (E == 0) = false := by simpa using hE
    have HGE : Hid (G = E ∧ L = []) := by
      have h1 : frE N l ms = E := by unfold frE; rw [if_pos (by rw [HE.out]; exact hE), HE.out]
      refine ⟨HG.out.symm.trans h1, ?_⟩
      rw [← HL.out]; unfold frL; rw [if_neg (by rw [h1]; exact hE)]
    go_wp2_with fail
    go_ret2
    rw [HGE.out.1, HGE.out.2]
    exact ⟨none, 0, rfl, World.ownsRow_nil _ _ _ _, hp ▸ HB1.out⟩
  obtain rfl : E = 0 := by omega
  rw [if_pos rfl] at hps
  obtain ⟨n, hn⟩ : ∃ n : Nat, N = n := ⟨N.toNat, by have := (chk_zero HE.out).1; omega⟩
  subst hn hps
  clear hE
  have hpz1 : p < w1.heap.size := by omega
  have HGM : Hid (G = mkE n ms) := by show _ = _; rw [← HG.out]; unfold frE; rw [if_neg (by rw [HE.out]; omega)]
  go_wp2_with fail
  refine (checkMarks_any n a l.length cap ms b bc w1 hml HM1.out).mono ?_
  rintro e w2 ⟨rfl, hb2⟩
  have HB2 : Hid (Below p w w2) := HB1.out.trans (hb2.mono (by omega))
  have hg2 := (hb2.block p hpz1).trans hg1
  obtain ⟨⟨d0, d1'⟩, _⟩ := two_cells hg2
  have HM2 := Lib.hid (HM1.out.on hb2)
  have HO2 : Hid (OwnP w2 W.heap.size v1 c1 (prl l)) := own_on HO1.out hb2
  have hwz2 : w1.heap.size ≤ w2.heap.size := hb2.size
  rw [← HGM.out]
  clear hb2 c0 c1' hg1
  by_cases hG : G ≠ 0
  · have e1 : (G != 0) = true := by simpa using hG
    have e2 : (G == 0) = false := by simpa using hG
    have HGE : Hid (L = []) := by show _ = _; rw [← HL.out]; unfold frL; rw [if_neg (by rw [HG.out]; exact hG)]
    go_wp2_with fail
    go_ret2
    rw [HGE.out]
    exact ⟨none, 0, rfl, World.ownsRow_nil _ _ _ _, hp ▸ HB2.out⟩
  obtain rfl : G = 0 := by omega
  clear hG
  have hm0 := HGM.out
  unfold mkE at hm0
  by_cases hlong : 16384 < ms.length
  · rw [if_pos hlong] at hm0; cases hm0
  rw [if_neg hlong] at hm0
  have HMZ := Lib.hid (mk1_zero hm0.symm)
  have hn2 : n ≤ 1024 := by have := (chk_zero HE.out).2.1; omega
  have HPM : Hid (Prs w2 b (ms.map Pi2.nat)) := HM2.out.nat (fun q hq => ⟨(HMZ.out q hq).1.1, (HMZ.out q hq).2.1.1⟩)
  have HSM : Hid (∀ q, q ∈ ms.map Pi2.nat → Sm q) := fun q hq => by
    obtain ⟨r, hr, rfl⟩ := List.mem_map.1 hq
    have := HMZ.out r hr
    refine ⟨?_, ?_⟩
    · show r.a.toNat < 1024; omega
    · show r.b.toNat < 1024; omega
  have HSP : Hid (∀ q, q ∈ prl l → Sm q) := fun q hq => by
    have := prl_lt (chk_zero HE.out).2.2.2 hq
    exact ⟨by omega, by omega⟩
  have hpl : (prl l).length ≤ 8192 := Nat.le_trans (prl_len l) (chk_zero HE.out).2.2.1
  have HLP : Hid (L = T3.partsL n (arQ (others l ms))) := by show _ = _; rw [← HL.out]; unfold frL; rw [if_pos HG.out]
  clear hm0
  have hmm := @run_makeMap Try.prog
  go_wp2_with fail
  have HAD := Lib.hid (add_any (w2.alloc (.map #[] 0)) w2.heap.size 0 [] (ms.map Pi2.nat) b bc (by rw [List.length_map]; omega) (by omega) HSM.out (HPM.out.off ((Below.refl _ _).alloc (Nat.le_refl _) _) (Nat.le_refl _)) (MapS.made w2))
  rw [List.length_map, List.nil_append] at HAD
  refine HAD.out.mono ?_
  rintro e w3 ⟨rfl, hm3, hg3'⟩
  have hb3 : Below w2.heap.size w2 w3 := ((Below.refl _ _).alloc (Nat.le_refl _) _).grown hg3' (by simp) (fun j hj => by cases hj; exact Nat.le_refl _)
  clear hg3'
  have HM3 := Lib.hid hm3
  have HB3 := Lib.hid hb3
  have hwz3 : w2.heap.size ≤ w3.heap.size := hb3.size
  have hpz2 : p < w2.heap.size := by omega
  have hg3 := (hb3.block p hpz2).trans hg2
  obtain ⟨⟨f0, f1'⟩, _⟩ := two_cells hg3
  clear hm3 hb3 HAD d0 d1' hmm
  obtain ⟨mb, hmb⟩ : ∃ mb, w2.heap.size = mb := ⟨_, rfl⟩
  rw [hmb] at HM3 HB3 ⊢
  have HCP := Lib.hid (own_cap HO2.out)
  go_wp2_with fail
  refine (takeFrom_any w3 mb _ (ms.map Pi2.nat) (prl l) v1 c1 hpl HCP.out.1 HCP.out.2 (prl_nodup l) HSP.out (HO2.out.prs.off (hmb ▸ HB3.out) (by omega)) HM3.out).mono ?_
  rintro e w4 ⟨vt, ct, vo, co, rfl, _, hot, hg4'⟩
  have hb4 : Below mb w2 w4 := HB3.out.grown hg4' (by omega) (fun j hj => by cases hj; exact Nat.le_refl _)
  clear hg4'
  obtain ⟨OT, HOT⟩ := named (others l ms)
  have hot' : OwnP w4 w3.heap.size vo co OT := by rw [← HOT.out]; exact hot
  have HON : Hid ((prl l).filter (fun p => !decide (p ∈ ms.map Pi2.nat)) = OT) := HOT.out
  rw [HON.out]
  obtain ⟨tl, htl⟩ : ∃ tl, ((prl l).filter (fun p => decide (p ∈ ms.map Pi2.nat))).length = tl := ⟨_, rfl⟩
  rw [htl]
  have HB4 : Hid (Below p w w4) := HB2.out.trans (hb4.mono (by omega))
  have hg4 := (hb4.block p (by omega)).trans hg2
  obtain ⟨⟨k0, k1'⟩, _⟩ := two_cells hg4
  have hOl : OT.length ≤ 8192 := by rw [← HOT.out]; exact Nat.le_trans (List.length_filter_le _ _) hpl
  have HSO : Hid (∀ q, q ∈ OT → Sm q) := fun q hq => HSP.out q (by rw [← HOT.out] at hq; exact (List.mem_filter.1 hq).1)
  obtain ⟨ix, ox, hix⟩ := hot'.prs.get
  have HIX := Lib.hid hix
  obtain ⟨q, hq⟩ : ∃ q, w4.heap.size = q := ⟨_, rfl⟩
  have hpq : p < q := by have := hb4.size; omega
  have hq5 : (w4.alloc (.cells #[.int .i64 n, .slice none 0 0] 24)).heap[q]? = some (.cells #[.int .i64 n, .slice none 0 0] 24) := hq ▸ heap_top w4 _
  have hz5 : (w4.alloc (.cells #[.int .i64 n, .slice none 0 0] 24)).heap.size = q + 1 := by simp [hq]
  have HB5 : Hid (Below q w4 (w4.alloc (.cells #[.int .i64 n, .slice none 0 0] 24))) := (Below.refl _ _).alloc (by omega) _
  obtain ⟨i0, hi, hz0, hz1, hz2⟩ := info_parts info49
  clear hix hot hot' hb4 hg2 hg3 f0 f1' HO2 HO1 HM3 HB3 HPM HSM HMZ hg4 htl
  go_wp2_with fail
  generalize hU : w4.alloc (.cells #[.int .i64 n, .slice none 0 0] 24) = U at *
  clear hU
  go_loopw [44] (fun i wr => ∃ (k : Nat) (av : Option Addr) (cv : Nat), k ≤ OT.length ∧ i = .int .i64 k ∧ Hid (wr.heap[q]? = some (.cells #[.int .i64 n, .slice av k cv] 24)) ∧ Hid (wr.ownsRow (q + 1) 40 3 (.slice av k cv) k (cellsQ (OT.take k))) ∧ Hid (Below q w4 wr)) (fun i _ => OT.length - (intOf i).toNat)
  case atStart => exact ⟨0, none, 0, Nat.zero_le _, rfl, Lib.hid hq5, World.ownsRow_nil _ _ _ _, HB5⟩
  case round =>
    obtain ⟨k, av, cv, hk, rfl, HQ, HOW, HBR⟩ := hrel
    have hqw : q < wr.heap.size := lt_of_block HQ.out
    by_cases hlk : k < OT.length
    · obtain ⟨rfl, hbl, hat⟩ := HIX.out (by omega)
      have hlk' : (k : Int) < OT.length := by omega
      obtain ⟨x0, x1⟩ := hat k hlk
      have y0 := (HBR.out.cell (p := ⟨ix, ox + k * 2, none⟩) (hq ▸ hbl)).trans x0
      have y1 := (HBR.out.cell (p := ⟨ix, ox + k * 2 + 1, none⟩) (hq ▸ hbl)).trans x1
      have HTS := Lib.hid (take_snocP hlk)
      clear hat x0 x1
      generalize OT.getD k Pr.zero = x at *
      have hz6 := heap_top wr (.cells #[.int .i64 (x.a : Int), .int .i64 (x.b : Int)] 36)
      obtain ⟨⟨b0, b1⟩, _⟩ := two_cells hz6
      have hq6 := (Below.heap_alloc wr (.cells #[.int .i64 (x.a : Int), .int .i64 (x.b : Int)] 36) q hqw).trans HQ.out
      obtain ⟨⟨q0, q1⟩, _⟩ := two_cells hq6
      have hq7 := (Below.heap_alloc (wr.alloc (.cells #[.int .i64 (x.a : Int), .int .i64 (x.b : Int)] 36)) (.cells #[.int .i64 (x.a : Int), .int .i64 (x.b : Int), .int .u32 0] 40) q (by simp; omega)).trans hq6
      have HQ7 := Lib.hid hq7
      have hnw := newsQ (wr.alloc (.cells #[.int .i64 (x.a : Int), .int .i64 (x.b : Int)] 36)) x.a x.b
      rw [World.size_alloc] at hnw
      have HNW := Lib.hid hnw
      have HOW2 := Lib.hid ((HOW.out.alloc (.cells #[.int .i64 (x.a : Int), .int .i64 (x.b : Int)] 36)).alloc (.cells #[.int .i64 (x.a : Int), .int .i64 (x.b : Int), .int .u32 0] 40))
      have HBB : Hid (Below q w4 ((wr.alloc (.cells #[.int .i64 (x.a : Int), .int .i64 (x.b : Int)] 36)).alloc (.cells #[.int .i64 (x.a : Int), .int .i64 (x.b : Int), .int .u32 0] 40))) := (HBR.out.alloc (by omega) _).alloc (by simp; omega) _
      have HSZ : Hid (q + 1 ≤ ((wr.alloc (.cells #[.int .i64 (x.a : Int), .int .i64 (x.b : Int)] 36)).alloc (.cells #[.int .i64 (x.a : Int), .int .i64 (x.b : Int), .int .u32 0] 40)).heap.size) := by show _ ≤ _; simp; omega
      have HOL : Hid (∀ b, (Value.slice av k cv).ownBlock = some b → q + 1 ≤ b) := fun b hb => (HOW.out.lt b hb).1
      have HCA : Hid (cellsQ (OT.take k) ++ cellsQ [⟨x.a, x.b⟩] = cellsQ (OT.take (k + 1))) := by show _ = _; rw [HTS.out, cellsQ_append]
      clear hnw hq6 hq7
      go_wp2_with (at_builtin; refine wpList_append_own _ rfl (.tmp 49) (.tmp 55) 22 rfl (q + 1) 40 i0 _ 3 24 Try.underlying22 hi hz0 hz1 hz2 rfl (by decide) (.slice av k cv) k (cellsQ (OT.take k)) rfl HOW2.out ⟨wr.heap.size + 1, 0, none⟩ 1 1 (cellsQ [⟨x.a, x.b⟩]) rfl rfl HNW.out (cellsQ_one _) (by unfold maxLen; omega) (by omega) HSZ.out ?_; intro v7 w7 hown7 hgrow7 hnil7; obtain ⟨g7, c7, hv7, _, _, _, _⟩ := own_shape hown7 (fun e => by have := hnil7.1 e; simp at this); subst hv7; rw [HCA.out] at hown7; have HO7 := Lib.hid hown7; have HB7 := Lib.hid (HBB.out.grown hgrow7 (by have := HSZ.out; omega) (by intro b hb; have := HOL.out b hb; omega)); have h7 := (hgrow7.block q (by have := HSZ.out; omega) (fun e => by have := HOL.out q e.symm; omega)).trans HQ7.out; have H7 := Lib.hid h7; obtain ⟨⟨_, _⟩, _, fz7⟩ := two_cells h7; obtain ⟨⟨_, fc7⟩, _⟩ := two_cells h7; clear hown7 hgrow7 hnil7 h7)
      refine ⟨⟨k + 1, some ⟨g7, 0, none⟩, c7, by omega, by simp, Lib.hid ?_, Lib.hid (own_set HO7.out ⟨q, 1, none⟩ _ (by simp)), Lib.hid (HB7.out.setCell (Nat.le_refl _) _)⟩, by simp [intOf]; omega⟩
      have := heap_setCell_same w7 q 1 _ _ (.slice (some ⟨g7, 0, none⟩) (k + 1) c7) H7.out
      simpa using this
    · obtain rfl : k = OT.length := by omega
      have hlk' : ¬ (OT.length : Int) < OT.length := by omega
      rw [List.take_length] at HOW
      obtain ⟨⟨q0, q1⟩, _⟩ := two_cells HQ.out
      have HPC := Lib.hid (T3.parts_any n av (arQ OT) cv wr (by rw [arQ_len]; omega) (own_arQ HOW.out))
      rw [arQ_len, show T3.chkE n (arQ OT) = 0 by rw [← HOT.out]; exact others_ok HE.out ms] at HPC
      have HLQ : Hid (L = T3.partsL n (arQ OT)) := by show _ = _; rw [HLP.out, HOT.out]
      have hwq : q ≤ wr.heap.size := by omega
      go_wp2_with fail
      refine HPC.out.mono ?_
      rintro e w9 ⟨a9, c9, rfl, hown9, hb9⟩
      rw [← HLQ.out] at hown9 ⊢
      have HO9 := Lib.hid hown9
      have HB9 : Hid (Below p w w9) := (HB4.out.trans (HBR.out.mono (by omega))).trans (hb9.mono (by omega))
      clear hown9 hb9
      go_wp2_with fail
      go_ret2
      exact ⟨a9, c9, rfl, own_base HO9.out (by omega), hp ▸ HB9.out⟩
end Go.Proofs.Ytpgadcacimjlaab
namespace Go.Proofs.Ytpgadcacimjlaab
open Go.RowKit
/-- What checkCentres tells. -/
def ceE (N m : Int) (cs : List Int) : Int := if 16384 < cs.length then 2 else if m < 1 ∨ 1024 < m then 1 else if cs.all (okV N) then 0 else 5
theorem ceE_zero {N m : Int} {cs : List Int} (h : ceE N m cs = 0) : cs.length ≤ 16384 ∧ 1 ≤ m ∧ m ≤ 1024 ∧ ∀ c, c ∈ cs → 0 ≤ c ∧ c < N := by
  unfold ceE at h
  split at h
  · cases h
  · split at h
    · cases h
    · split at h
      · rename_i h3
        rw [List.all_eq_true] at h3
        exact ⟨by omega, by omega, by omega, fun c hc => okV_t (h3 c hc)⟩
      · cases h
set_option maxRecDepth 100000 in
set_option maxHeartbeats 1600000 in
theorem checkCentres_any (N m : Int) (a : Option Addr) (n cap : Nat) (cs : List Int) (b : Option Addr) (bc : Nat) (w : World) (hml : cs.length ≤ 9223372036854775807) (hr : Ints w b cs) :
    Calls Try.prog 13 #[.agg #[.int .i64 N, .slice a n cap], .slice b cs.length bc, .int .i64 m] w fun e w' => e = .returned (.int .i64 (ceE N m cs)) ∧ Below w.heap.size w w' := by
  have hb0 : Below w.heap.size w (w.alloc (.cells #[.int .i64 N, .slice a n cap] 24)) := (Below.refl _ _).alloc (Nat.le_refl _) _
  have hg := heap_top w (.cells #[.int .i64 N, .slice a n cap] 24)
  obtain ⟨V, HV⟩ := named (ceE N m cs)
  rw [HV.out]
  obtain ⟨ix, ox, hix⟩ := hr.get
  have HIX := Lib.hid hix
  have HB0 := Lib.hid hb0
  clear hix hr hb0
  generalize hp : w.heap.size = p at *
  by_cases hlong : 16384 < cs.length
  · have hl' : (16384 : Int) < cs.length := by omega
    have HF : Hid (V = 2) := by show _ = _; rw [← HV.out]; unfold ceE; rw [if_pos hlong]
    go_enter Try.func13, Try.ntmps13
    go_wp2_with fail
    go_ret
    exact ⟨by rw [HF.out]; rfl, HB0.out⟩
  have hl' : ¬ (16384 : Int) < cs.length := by omega
  by_cases hm1 : m < 1
  · have HF : Hid (V = 1) := by show _ = _; rw [← HV.out]; unfold ceE; rw [if_neg hlong, if_pos (.inl hm1)]
    go_enter Try.func13, Try.ntmps13
    go_wp2_with fail
    go_ret
    exact ⟨by rw [HF.out]; rfl, HB0.out⟩
  by_cases hm2 : 1024 < m
  · have HF : Hid (V = 1) := by show _ = _; rw [← HV.out]; unfold ceE; rw [if_neg hlong, if_pos (.inr hm2)]
    go_enter Try.func13, Try.ntmps13
    go_wp2_with fail
    go_ret
    exact ⟨by rw [HF.out]; rfl, HB0.out⟩
  have HVA : Hid (V = if cs.all (okV N) then 0 else 5) := by show _ = _; rw [← HV.out]; unfold ceE; rw [if_neg hlong, if_neg (by omega)]
  go_enter Try.func13, Try.ntmps13
  go_wp2_with fail
  generalize hW : w.alloc (.cells #[.int .i64 N, .slice a n cap] 24) = W at *
  clear hW
  go_loopw [20] (fun i wr => ∃ (k : Nat), k ≤ cs.length ∧ i = .int .i64 k ∧ Hid ((cs.take k).all (okV N) = true) ∧ Hid (wr.heap[p]? = some (.cells #[.int .i64 N, .slice a n cap] 24)) ∧ Hid (Below p w wr)) (fun i _ => cs.length - (intOf i).toNat)
  case atStart => exact ⟨0, Nat.zero_le _, rfl, rfl, Lib.hid hg, HB0⟩
  case round =>
    obtain ⟨k, hk, rfl, HK, HG, HBR⟩ := hrel
    have hpw : p < wr.heap.size := lt_of_block HG.out
    by_cases hlk : k < cs.length
    · obtain ⟨rfl, hbl, hat⟩ := HIX.out (by omega)
      have hlk' : (k : Int) < cs.length := by omega
      have y0 := (HBR.out.cell (p := ⟨ix, ox + k, none⟩) hbl).trans (hat k hlk)
      have HTK : Hid (cs.take (k + 1) = cs.take k ++ [cs.getD k 0]) := by
        show _ = _
        rw [List.take_succ_eq_append_getElem hlk]
        simp [List.getD, List.getElem?_eq_getElem hlk]
      have HME : Hid (cs.getD k 0 ∈ cs) := by show _ ∈ _; simp [List.getD, List.getElem?_eq_getElem hlk]
      clear hat
      generalize cs.getD k 0 = x at *
      obtain ⟨⟨g0, g1⟩, _⟩ := two_cells HG.out
      go_wp2_with fail
      refine (nvert_any N x a n cap wr).mono ?_
      rintro e u2 ⟨rfl, hb2⟩
      have HG2 := Lib.hid ((hb2.block p hpw).trans HG.out)
      have HB2 : Hid (Below p w u2) := HBR.out.trans (hb2.mono (by omega))
      clear g0 g1 hb2
      cases hox : okV N x
      · have HF : Hid (V = 5) := by
          show _ = _
          rw [HVA.out, if_neg]
          intro h
          rw [List.all_eq_true] at h
          have := h x HME.out
          rw [hox] at this
          cases this
        go_wp2_with fail
        go_ret
        exact ⟨by rw [HF.out]; rfl, HB2.out⟩
      · go_wp2_with fail
        refine ⟨⟨k + 1, by omega, by simp, Lib.hid ?_, HG2, HB2⟩, by simp [intOf]; omega⟩
        rw [HTK.out, List.all_append, HK.out]
        simp [hox]
    · have e0 : cs.take k = cs := List.take_of_length_le (by omega)
      have hlk' : ¬ (k : Int) < cs.length := by omega
      rw [e0] at HK
      have HF : Hid (V = 0) := by show _ = _; rw [HVA.out, if_pos HK.out]
      clear e0
      go_wp2_with fail
      go_ret
      exact ⟨by rw [HF.out]; rfl, HBR.out⟩
end Go.Proofs.Ytpgadcacimjlaab
namespace Go.Proofs.Ytpgadcacimjlaab
open Go.RowKit Go.Maps
theorem OwnP.offN {w : World} {B : Nat} {a : Option Addr} {c b : Nat} {l : List Pr} (h : OwnP w B a c l) (hb : b < B) : PrsN w a l b := by
  rcases h.prs with h1 | ⟨g, o, e, hl, hc⟩
  · exact .inl h1
  · by_cases h0 : l = []
    · exact .inl h0
    · refine .inr ⟨g, o, e, hl, ?_, hc⟩
      rcases h.2 with ⟨e1, e2⟩ | ⟨g', c', cur, e1, hB, _⟩
      · exact absurd (List.eq_nil_of_length_eq_zero e2) h0
      · subst e
        injection e1 with e1 _ _
        injection e1 with e1
        injection e1 with e1 _ _
        omega
/-- What Marks answers. -/
def MarksIs (n : Nat) (l : List A) (cs : List Nat) (m : Nat) (xs : List Pr) : Prop := ∃ cf : Nat → List Pr, (∀ c, c ∈ cs → CutIs n l c m (cf c)) ∧ xs = (prl l).filter (fun p => decide (∃ c ∈ cs, p ∈ cf c))
/-- What Marks tells. -/
def maE (N m : Int) (l : List A) (cs : List Int) : Int := if chkE N l ≠ 0 then chkE N l else ceE N m cs
theorem CutIs.sub {n : Nat} {l : List A} {c m : Nat} {xs : List Pr} (h : CutIs n l c m xs) : ∀ p, p ∈ xs → p ∈ prl l := by
  unfold CutIs at h
  split at h
  · subst h; intro p hp; cases hp
  · obtain ⟨_, rk, _, rfl⟩ := h
    intro p hp
    exact (List.mem_filter.1 hp).1
theorem gby_below {w w' : World} {row : Option Nat} (h : Below w.heap.size w w') : w.grownBy w' row := ⟨h.os, h.tape, h.output, h.size, fun k hk _ => h.block k hk⟩
theorem below_drew {B : Nat} {w w' : World} (h : Below B w w') : Below B w w'.drew := ⟨h.os, h.tape, h.output, h.size, h.block⟩
theorem MapS.kept {w w' : World} {b n : Nat} {S : List Pr} {row : Option Nat} (h : MapS w b n S) (hg : w.grownBy w' row) (hne : some b ≠ row) : MapS w' b n S := by
  obtain ⟨D, h1, h2⟩ := h
  exact ⟨D, h1.kept hg hne, h2⟩
theorem MapS.set {w : World} {b n : Nat} {S : List Pr} (h : MapS w b n S) {p : Addr} (hp : b ≠ p.block) (u : Value) : MapS (w.setCell p u) b n S := by
  obtain ⟨D, h1, h2⟩ := h
  exact ⟨D, h1.setCell hp u, h2⟩
theorem MapS.lt {w : World} {b n : Nat} {S : List Pr} (h : MapS w b n S) : b < w.heap.size := by
  obtain ⟨D, h1, _⟩ := h
  exact h1.lt
theorem CutIs.len {n : Nat} {l : List A} {c m : Nat} {xs : List Pr} (h : CutIs n l c m xs) : xs.length ≤ (prl l).length := by
  unfold CutIs at h
  split at h
  · subst h; simp
  · obtain ⟨_, rk, _, rfl⟩ := h
    exact List.length_filter_le _ _
theorem gchk_ok {n c : Nat} {m : Int} {l : List A} (h : chkE n l = 0) (hc : c < n) (h1 : 1 ≤ m) (h2 : m ≤ 1024) : gchk n c m l = 0 := by
  unfold gchk
  rw [if_neg (by rw [h]; omega), if_neg (by omega), if_neg (by omega)]
def updL (cf : Nat → List Pr) (c : Nat) (xs : List Pr) : Nat → List Pr := fun d => if d = c then xs else cf d
theorem updL_self (cf : Nat → List Pr) (c : Nat) (xs : List Pr) : updL cf c xs c = xs := if_pos rfl
theorem updL_ne (cf : Nat → List Pr) {c d : Nat} (xs : List Pr) (h : d ≠ c) : updL cf c xs d = cf d := if_neg h
/-- What the map holds when the centres of a list have been gone around. -/
def Held (n : Nat) (l : List A) (m : Nat) (q : List Nat) (S : List Pr) (cf : Nat → List Pr) : Prop := (∀ c, c ∈ q → CutIs n l c m (cf c)) ∧ ∀ p, p ∈ S ↔ ∃ c, c ∈ q ∧ p ∈ cf c
theorem Held.again {n : Nat} {l : List A} {m : Nat} {q : List Nat} {S : List Pr} {cf : Nat → List Pr} (h : Held n l m q S cf) {c : Nat} (hc : c ∈ q) : Held n l m (q ++ [c]) S cf := by
  have e : ∀ d, d ∈ q ++ [c] ↔ d ∈ q := fun d => by
    simp only [List.mem_append, List.mem_singleton]
    exact ⟨fun h => h.elim id (fun e => e ▸ hc), .inl⟩
  exact ⟨fun d hd => h.1 d ((e d).1 hd), fun p => (h.2 p).trans ⟨fun ⟨d, h1, h2⟩ => ⟨d, (e d).2 h1, h2⟩, fun ⟨d, h1, h2⟩ => ⟨d, (e d).1 h1, h2⟩⟩⟩
theorem Held.more {n : Nat} {l : List A} {m : Nat} {q : List Nat} {S : List Pr} {cf : Nat → List Pr} (h : Held n l m q S cf) {c : Nat} (hc : c ∉ q) {xs : List Pr} (hx : CutIs n l c m xs) : Held n l m (q ++ [c]) (S ++ xs) (updL cf c xs) := by
  refine ⟨fun d hd => ?_, fun p => ?_⟩
  · by_cases e : d = c
    · subst e; rw [updL_self]; exact hx
    · rw [updL_ne _ _ e]
      rcases List.mem_append.1 hd with hd | hd
      · exact h.1 d hd
      · exact absurd (List.mem_singleton.1 hd) e
  · rw [List.mem_append, h.2 p]
    constructor
    · rintro (⟨d, h1, h2⟩ | h1)
      · exact ⟨d, List.mem_append.2 (.inl h1), by rw [updL_ne _ _ (fun e : d = c => hc (e ▸ h1))]; exact h2⟩
      · exact ⟨c, by simp, by rw [updL_self]; exact h1⟩
    · rintro ⟨d, h1, h2⟩
      by_cases e : d = c
      · subst e; rw [updL_self] at h2; exact .inr h2
      · rw [updL_ne _ _ e] at h2
        rcases List.mem_append.1 h1 with h1 | h1
        · exact .inl ⟨d, h1, h2⟩
        · exact absurd (List.mem_singleton.1 h1) e
set_option maxRecDepth 100000 in
set_option maxHeartbeats 3200000 in
theorem marks_any (N m : Int) (a : Option Addr) (l : List A) (cap : Nat) (b : Option Addr) (cs : List Int) (bc : Nat) (w : World) (hl : l.length ≤ 9223372036854775807) (hml : cs.length ≤ 9223372036854775807) (hr : Arcs w a l) (hm : Ints w b cs) :
    Calls Try.prog 6 #[.agg #[.int .i64 N, .slice a l.length cap], .slice b cs.length bc, .int .i64 m] w fun e w' => ∃ v c xs, e = .returned (.tuple #[.slice v xs.length c, .int .i64 (maE N m l cs)]) ∧ OwnP w' w.heap.size v c xs ∧ Hid (maE N m l cs = 0 → MarksIs N.toNat l (cs.map Int.toNat) m.toNat xs) ∧ Hid (maE N m l cs ≠ 0 → xs = []) ∧ Below w.heap.size w w' := by
  have hb0 : Below w.heap.size w (w.alloc (.cells #[.int .i64 N, .slice a l.length cap] 24)) := (Below.refl _ _).alloc (Nat.le_refl _) _
  have hg := heap_top w (.cells #[.int .i64 N, .slice a l.length cap] 24)
  have HR := Lib.hid (hr.on hb0)
  have HM := Lib.hid (hm.on hb0)
  have hwz : w.heap.size ≤ (w.alloc (.cells #[.int .i64 N, .slice a l.length cap] 24)).heap.size := hb0.size
  have HB0 := Lib.hid hb0
  obtain ⟨G, HG⟩ := named (maE N m l cs)
  rw [HG.out]
  clear hb0 hr hm
  generalize hp : w.heap.size = p at *
  go_enter Try.func6, Try.ntmps6
  go_wp2_with fail
  generalize hW : w.alloc (.cells #[.int .i64 N, .slice a l.length cap] 24) = W at *
  clear hW
  refine (pairs_any N a l cap W hl HR.out).mono ?_
  rintro e w1 ⟨v1, c1, ps, rfl, hown1, hps, hb1⟩
  have hpz : p < W.heap.size := lt_of_block hg
  have HB1 : Hid (Below p w w1) := HB0.out.trans (hb1.mono hwz)
  have hg1 := (hb1.block p hpz).trans hg
  obtain ⟨⟨c0, c1'⟩, _⟩ := two_cells hg1
  have HM1 := Lib.hid (HM.out.on hb1)
  have HR1 := Lib.hid (HR.out.on hb1)
  have HO1 := Lib.hid hown1
  have hwz1 : W.heap.size ≤ w1.heap.size := hb1.size
  obtain ⟨E, HE⟩ := named (chkE N l)
  rw [HE.out] at hps ⊢
  clear hb1 hown1 hg
  by_cases hE : E ≠ 0
  · have e1 : (E != 0) = true := by simpa using hE
    have e2 : (E == 0) = false := by simpa using hE
    have HGE : Hid (G = E) := by show _ = _; rw [← HG.out]; unfold maE; rw [if_pos (by rw [HE.out]; exact hE), HE.out]
    go_wp2_with fail
    go_ret2
    exact ⟨none, 0, [], by rw [HGE.out]; rfl, ⟨rfl, .inl ⟨rfl, rfl⟩⟩, fun h => absurd (HGE.out.symm.trans h) hE, fun _ => rfl, HB1.out⟩
  obtain rfl : E = 0 := by omega
  rw [if_pos rfl] at hps
  obtain ⟨n, hn⟩ : ∃ n : Nat, N = n := ⟨N.toNat, by have := (chk_zero HE.out).1; omega⟩
  subst hn hps
  clear hE
  have hpz1 : p < w1.heap.size := by omega
  have HGM : Hid (G = ceE n m cs) := by show _ = _; rw [← HG.out]; unfold maE; rw [if_neg (by rw [HE.out]; omega)]
  go_wp2_with fail
  refine (checkCentres_any n m a l.length cap cs b bc w1 hml HM1.out).mono ?_
  rintro e w2 ⟨rfl, hb2⟩
  have HB2 : Hid (Below p w w2) := HB1.out.trans (hb2.mono (by omega))
  have hg2 := (hb2.block p hpz1).trans hg1
  obtain ⟨⟨d0, d1'⟩, _⟩ := two_cells hg2
  have HM2 := Lib.hid (HM1.out.on hb2)
  have HR2 := Lib.hid (HR1.out.on hb2)
  have HO2 : Hid (OwnP w2 W.heap.size v1 c1 (prl l)) := own_on HO1.out hb2
  have hwz2 : w1.heap.size ≤ w2.heap.size := hb2.size
  rw [← HGM.out]
  clear hb2 c0 c1' hg1
  by_cases hG : G ≠ 0
  · have e1 : (G != 0) = true := by simpa using hG
    have e2 : (G == 0) = false := by simpa using hG
    go_wp2_with fail
    go_ret2
    exact ⟨none, 0, [], rfl, ⟨rfl, .inl ⟨rfl, rfl⟩⟩, fun h => absurd h hG, fun _ => rfl, HB2.out⟩
  obtain rfl : G = 0 := by omega
  clear hG
  obtain ⟨hcl, hm1, hm2, hcs⟩ := ceE_zero HGM.out.symm
  have HCS := Lib.hid hcs
  have hn2 : n ≤ 1024 := by have := (chk_zero HE.out).2.1; omega
  have HSP : Hid (∀ q, q ∈ prl l → Sm q) := fun q hq => by
    have := prl_lt (chk_zero HE.out).2.2.2 hq
    exact ⟨by omega, by omega⟩
  have hpl : (prl l).length ≤ 8192 := Nat.le_trans (prl_len l) (chk_zero HE.out).2.2.1
  have hmm := @run_makeMap Try.prog
  obtain ⟨i4, hi4, hz4, hs4, hb4⟩ := info_parts info4
  have hmk : ∀ w, (Instr.makeSlice 50 (.int .i64 n) (.int .i64 n)).run Try.prog w = .ok (.slice (some ⟨w.heap.size, 0, none⟩) n n) (w.alloc (.cells ((List.range n).map (fun _ => Value.bool false)).toArray 4)) := fun w => by
    have := run_make (P := Try.prog) w 50 4 i4 (.bool false) Try.underlying50 hi4 hz4 .i64 .i64 n n (by omega) (by omega) (by rw [hb4]; omega) (by omega)
    rw [this, Int.toNat_natCast, hs4, made_bool]
  clear hcs hi4 hz4 hs4 hb4
  clear i4
  go_wp2_with fail
  have d0m : (w2.alloc (.map #[] 0)).cell? ⟨p, 0, none⟩ = some (.int .i64 n) := (World.cell?_of_block (a := ⟨p, 0, none⟩) (Below.heap_alloc w2 (.map #[] 0) p (lt_of_block hg2))).trans d0
  obtain ⟨ix, ox, hix⟩ := HM2.out.get
  have HIX := Lib.hid hix
  clear hix
  have hpw2 : p < w2.heap.size := lt_of_block hg2
  go_region
  · have HMU : Hid (MapS ((w2.alloc (.map #[] 0)).alloc (.cells ((List.range n).map (fun _ => Value.bool false)).toArray 4)).drew w2.heap.size 0 []) := by
      have h : MapS ((w2.alloc (.map #[] 0)).alloc (.cells ((List.range n).map (fun _ => Value.bool false)).toArray 4)) w2.heap.size 0 [] := (MapS.made w2).kept (row := none) (World.grownBy_alloc _ _ none) (by simp)
      exact h
    have HTU : Hid (TbV ((w2.alloc (.map #[] 0)).alloc (.cells ((List.range n).map (fun _ => Value.bool false)).toArray 4)).drew (w2.heap.size + 1) n 4 (fun v => .bool (decide (v ∈ (cs.take 0).map Int.toNat)))) := by
      have := heap_top (w2.alloc (.map #[] 0)) (.cells ((List.range n).map (fun _ => Value.bool false)).toArray 4)
      rw [World.size_alloc] at this
      exact this
    have HBU : Hid (Below w2.heap.size w2 ((w2.alloc (.map #[] 0)).alloc (.cells ((List.range n).map (fun _ => Value.bool false)).toArray 4)).drew) := below_drew (((Below.refl _ _).alloc (Nat.le_refl _) _).alloc (by simp) _)
    generalize ((w2.alloc (.map #[] 0)).alloc (.cells ((List.range n).map (fun _ => Value.bool false)).toArray 4)).drew = U at *
    clear hmm hmk d0m d0 d1'
    generalize hdb : w2.heap.size + 1 = db at *
    generalize hq2 : w2.heap.size = mb at *
    have hmd : mb ≠ db := by omega
    go_wp2_with fail
    go_loopw [40] (fun i wr => ∃ (k nn : Nat) (S : List Pr) (cf : Nat → List Pr), k ≤ cs.length ∧ i = .int .i64 k ∧ Hid (nn ≤ k * 8192) ∧ Hid (MapS wr mb nn S) ∧ Hid (TbV wr db n 4 (fun v => .bool (decide (v ∈ (cs.take k).map Int.toNat)))) ∧ Hid (Below mb w2 wr) ∧ Hid (Held n l m.toNat ((cs.take k).map Int.toNat) S cf)) (fun i _ => cs.length - (intOf i).toNat)
    case atStart => exact ⟨0, 0, [], fun _ => [], Nat.zero_le _, rfl, Nat.zero_le _, HMU, HTU, HBU, ⟨fun c hc => (by cases hc), fun p => ⟨fun h => (by cases h), fun ⟨c, h, _⟩ => (by cases h)⟩⟩⟩
    case round =>
      obtain ⟨k, nn, S, cf, hk, rfl, HNN, HMR, HTR, HBR, HHD⟩ := hrel
      by_cases hlk : k < cs.length
      · obtain ⟨rfl, hbl, hat⟩ := HIX.out (by omega)
        have hlk' : (k : Int) < cs.length := by omega
        have y0 := (HBR.out.cell (p := ⟨ix, ox + k, none⟩) (by omega)).trans (hat k hlk)
        have HTK : Hid (cs.take (k + 1) = cs.take k ++ [cs.getD k 0]) := by
          show _ = _
          rw [List.take_succ_eq_append_getElem hlk]
          simp [List.getD, List.getElem?_eq_getElem hlk]
        have HME := Lib.hid (HCS.out (cs.getD k 0) (by simp [List.getD, List.getElem?_eq_getElem hlk]))
        clear hat
        generalize cs.getD k 0 = x at *
        obtain ⟨c, hxc⟩ : ∃ c : Nat, x = c := ⟨x.toNat, by have := HME.out.1; omega⟩
        subst hxc
        have hcn : c < n := by have := HME.out.2; omega
        have hcn' : (c : Int) < n := by omega
        have t1 := HTR.out.cell hcn
        have t2 := HTR.out.free c
        have HTM : Hid ((cs.take (k + 1)).map Int.toNat = (cs.take k).map Int.toNat ++ [c]) := by show _ = _; rw [HTK.out, List.map_append]; rfl
        have HDT : Hid (∀ v, decide (v ∈ (cs.take (k + 1)).map Int.toNat) = (decide (v ∈ (cs.take k).map Int.toNat) || decide (v = c))) := fun v => by rw [HTM.out, Bool.eq_iff_iff]; simp
        obtain ⟨ql, HQL⟩ := named ((cs.take k).map Int.toNat)
        rw [HQL.out] at HTM HDT HTR HHD
        rw [HQL.out] at t1
        by_cases hcq : c ∈ ql
        · have hd1 : decide (c ∈ ql) = true := decide_eq_true hcq
          rw [hd1] at t1
          have HC2 := Lib.hid (HHD.out.again hcq)
          clear hd1
          go_wp2_with fail
          refine ⟨⟨k + 1, nn, S, cf, by omega, by simp, Lib.hid (by have := HNN.out; omega), HMR, Lib.hid ?_, HBR, Lib.hid (by rw [HTM.out]; exact HC2.out)⟩, by simp [intOf]; omega⟩
          refine HTR.out.congr (fun v _ => ?_)
          rw [HDT.out v]
          by_cases e : v = c
          · subst e; simp [hcq]
          · simp [e]
        · have hd1 : decide (c ∈ ql) = false := decide_eq_false hcq
          rw [hd1] at t1
          clear hd1
          have HT2 : Hid (TbV (wr.setCell ⟨db, c, none⟩ (.bool true)) db n 4 (fun v => .bool (decide (v ∈ (cs.take (k + 1)).map Int.toNat)))) := (HTR.out.set c (.bool true)).congr (fun v _ => by
            by_cases e : v = c
            · subst e; rw [updV_self, HDT.out v]; simp
            · rw [updV_ne _ _ e, HDT.out v]; simp [e])
          have HM2' : Hid (MapS (wr.setCell ⟨db, c, none⟩ (.bool true)) mb nn S) := HMR.out.set hmd _
          have HB2' : Hid (Below mb w2 (wr.setCell ⟨db, c, none⟩ (.bool true))) := HBR.out.setCell (by show mb ≤ db; omega) _
          have hg3 : (wr.setCell ⟨db, c, none⟩ (.bool true)).heap[p]? = some (.cells #[.int .i64 n, .slice a l.length cap] 24) := (HB2'.out.block p (by omega)).trans hg2
          obtain ⟨⟨r0, r1⟩, _⟩ := two_cells hg3
          go_wp2_with fail
          generalize hV : wr.setCell ⟨db, c, none⟩ (.bool true) = V at *
          clear hV
          refine (cutAround_any n c m a l cap v1 c1 V HE.out (HR2.out.on (hq2 ▸ HB2'.out)) (HO2.out.prs.on (hq2 ▸ HB2'.out))).mono ?_
          rintro e u3 ⟨v3, c3, xs, rfl, hown3, hci, _, hb3⟩
          have hgc := gchk_ok (m := m) HE.out hcn hm1 hm2
          rw [hgc] at hci ⊢
          have HCI := Lib.hid (hci rfl)
          rw [Int.toNat_natCast] at HCI
          have hmV : mb < V.heap.size := HM2'.out.lt
          have HM3 : Hid (MapS u3 mb nn S) := HM2'.out.kept (row := none) (gby_below hb3) (by simp)
          have HT3 := Lib.hid (HT2.out.same (hb3.block db HT2.out.lt))
          have HB3 : Hid (Below mb w2 u3) := HB2'.out.trans (hb3.mono (by have := HB2'.out.size; omega))
          have HPN := Lib.hid (hown3.offN hmV)
          have hxl : xs.length ≤ 8192 := Nat.le_trans HCI.out.len hpl
          have HSX : Hid (∀ q, q ∈ xs → Sm q) := fun q hq => HSP.out q (HCI.out.sub q hq)
          have HMO := Lib.hid (HHD.out.more hcq HCI.out)
          have hnn : nn ≤ 1000000000000 := by have := HNN.out; omega
          clear hown3 hci hb3 hgc t1 t2 r0 r1 hg3
          go_wp2_with fail
          refine (add_any u3 mb nn S xs v3 c3 (by omega) hnn HSX.out HPN.out HM3.out).mono ?_
          rintro e u4 ⟨rfl, hm4, hg4⟩
          have HM4 := Lib.hid hm4
          have HT4 := Lib.hid (HT3.out.same (hg4.block db HT3.out.lt (by intro e; injection e with e; exact hmd e.symm)))
          have HB4 : Hid (Below mb w2 u4) := HB3.out.grown hg4 (by have := HB3.out.size; omega) (fun j hj => by cases hj; omega)
          clear hm4 hg4
          go_wp2_with fail
          exact ⟨⟨k + 1, nn + xs.length, S ++ xs, _, by omega, by simp, Lib.hid (by have := HNN.out; omega), HM4, HT4, HB4, Lib.hid (by rw [HTM.out]; exact HMO.out)⟩, by simp [intOf]; omega⟩
      · have e0 : cs.take k = cs := List.take_of_length_le (by omega)
        have hlk' : ¬ (k : Int) < cs.length := by omega
        rw [e0] at HHD
        clear e0
        have HCP := Lib.hid (own_cap HO2.out)
        have HPO : Hid (PrsN wr v1 (prl l) mb) := HO2.out.prs.off (hq2 ▸ HBR.out) (by omega)
        go_wp2_with fail
        refine (takeFrom_any wr mb nn S (prl l) v1 c1 hpl HCP.out.1 HCP.out.2 (prl_nodup l) HSP.out HPO.out HMR.out).mono ?_
        rintro e w9 ⟨vt, ct, vo, co, rfl, hta, _, hg9⟩
        have HB9 : Hid (Below mb w2 w9) := HBR.out.grown hg9 (by have := HBR.out.size; omega) (fun j hj => by cases hj; omega)
        obtain ⟨TA, HTA⟩ := named ((prl l).filter (fun p => decide (p ∈ S)))
        obtain ⟨ol, hol⟩ : ∃ ol, ((prl l).filter (fun p => !decide (p ∈ S))).length = ol := ⟨_, rfl⟩
        rw [HTA.out] at hta ⊢
        rw [hol]
        have HOA : Hid (OwnP w9 p vt ct TA) := own_base hta (by have := HBR.out.size; omega)
        have HMI : Hid (MarksIs n l (cs.map Int.toNat) m.toNat TA) := ⟨cf, HHD.out.1, by
          rw [← HTA.out]
          refine List.filter_congr (fun p _ => ?_)
          rw [Bool.eq_iff_iff]
          simp only [decide_eq_true_eq]
          exact HHD.out.2 p⟩
        clear hta hg9 hol
        go_wp2_with fail
        go_ret2
        exact ⟨vt, ct, TA, rfl, HOA.out, HMI, trivial, HB2.out.trans (HB9.out.mono (by omega))⟩
  · have HMU : Hid (MapS ((w2.alloc (.cells ((List.range n).map (fun _ => Value.bool false)).toArray 4)).alloc (.map #[] 0)).drew (w2.heap.size + 1) 0 []) := by
      have := MapS.made (w2.alloc (.cells ((List.range n).map (fun _ => Value.bool false)).toArray 4))
      rw [World.size_alloc] at this
      exact this
    have HTU : Hid (TbV ((w2.alloc (.cells ((List.range n).map (fun _ => Value.bool false)).toArray 4)).alloc (.map #[] 0)).drew w2.heap.size n 4 (fun v => .bool (decide (v ∈ (cs.take 0).map Int.toNat)))) := (Below.heap_alloc _ _ _ (by simp)).trans (heap_top w2 _)
    have HBU : Hid (Below w2.heap.size w2 ((w2.alloc (.cells ((List.range n).map (fun _ => Value.bool false)).toArray 4)).alloc (.map #[] 0)).drew) := below_drew (((Below.refl _ _).alloc (Nat.le_refl _) _).alloc (by simp) _)
    generalize ((w2.alloc (.cells ((List.range n).map (fun _ => Value.bool false)).toArray 4)).alloc (.map #[] 0)).drew = U at *
    clear hmm hmk d0m d0 d1'
    generalize hdb : w2.heap.size + 1 = mb at *
    generalize hq2 : w2.heap.size = db at *
    have hmd : mb ≠ db := by omega
    go_wp2_with fail
    go_loopw [40] (fun i wr => ∃ (k nn : Nat) (S : List Pr) (cf : Nat → List Pr), k ≤ cs.length ∧ i = .int .i64 k ∧ Hid (nn ≤ k * 8192) ∧ Hid (MapS wr mb nn S) ∧ Hid (TbV wr db n 4 (fun v => .bool (decide (v ∈ (cs.take k).map Int.toNat)))) ∧ Hid (Below db w2 wr) ∧ Hid (Held n l m.toNat ((cs.take k).map Int.toNat) S cf)) (fun i _ => cs.length - (intOf i).toNat)
    case atStart => exact ⟨0, 0, [], fun _ => [], Nat.zero_le _, rfl, Nat.zero_le _, HMU, HTU, HBU, ⟨fun c hc => (by cases hc), fun p => ⟨fun h => (by cases h), fun ⟨c, h, _⟩ => (by cases h)⟩⟩⟩
    case round =>
      obtain ⟨k, nn, S, cf, hk, rfl, HNN, HMR, HTR, HBR, HHD⟩ := hrel
      by_cases hlk : k < cs.length
      · obtain ⟨rfl, hbl, hat⟩ := HIX.out (by omega)
        have hlk' : (k : Int) < cs.length := by omega
        have y0 := (HBR.out.cell (p := ⟨ix, ox + k, none⟩) (by omega)).trans (hat k hlk)
        have HTK : Hid (cs.take (k + 1) = cs.take k ++ [cs.getD k 0]) := by
          show _ = _
          rw [List.take_succ_eq_append_getElem hlk]
          simp [List.getD, List.getElem?_eq_getElem hlk]
        have HME := Lib.hid (HCS.out (cs.getD k 0) (by simp [List.getD, List.getElem?_eq_getElem hlk]))
        clear hat
        generalize cs.getD k 0 = x at *
        obtain ⟨c, hxc⟩ : ∃ c : Nat, x = c := ⟨x.toNat, by have := HME.out.1; omega⟩
        subst hxc
        have hcn : c < n := by have := HME.out.2; omega
        have hcn' : (c : Int) < n := by omega
        have t1 := HTR.out.cell hcn
        have t2 := HTR.out.free c
        have HTM : Hid ((cs.take (k + 1)).map Int.toNat = (cs.take k).map Int.toNat ++ [c]) := by show _ = _; rw [HTK.out, List.map_append]; rfl
        have HDT : Hid (∀ v, decide (v ∈ (cs.take (k + 1)).map Int.toNat) = (decide (v ∈ (cs.take k).map Int.toNat) || decide (v = c))) := fun v => by rw [HTM.out, Bool.eq_iff_iff]; simp
        obtain ⟨ql, HQL⟩ := named ((cs.take k).map Int.toNat)
        rw [HQL.out] at HTM HDT HTR HHD
        rw [HQL.out] at t1
        by_cases hcq : c ∈ ql
        · have hd1 : decide (c ∈ ql) = true := decide_eq_true hcq
          rw [hd1] at t1
          have HC2 := Lib.hid (HHD.out.again hcq)
          clear hd1
          go_wp2_with fail
          refine ⟨⟨k + 1, nn, S, cf, by omega, by simp, Lib.hid (by have := HNN.out; omega), HMR, Lib.hid ?_, HBR, Lib.hid (by rw [HTM.out]; exact HC2.out)⟩, by simp [intOf]; omega⟩
          refine HTR.out.congr (fun v _ => ?_)
          rw [HDT.out v]
          by_cases e : v = c
          · subst e; simp [hcq]
          · simp [e]
        · have hd1 : decide (c ∈ ql) = false := decide_eq_false hcq
          rw [hd1] at t1
          clear hd1
          have HT2 : Hid (TbV (wr.setCell ⟨db, c, none⟩ (.bool true)) db n 4 (fun v => .bool (decide (v ∈ (cs.take (k + 1)).map Int.toNat)))) := (HTR.out.set c (.bool true)).congr (fun v _ => by
            by_cases e : v = c
            · subst e; rw [updV_self, HDT.out v]; simp
            · rw [updV_ne _ _ e, HDT.out v]; simp [e])
          have HM2' : Hid (MapS (wr.setCell ⟨db, c, none⟩ (.bool true)) mb nn S) := HMR.out.set hmd _
          have HB2' : Hid (Below db w2 (wr.setCell ⟨db, c, none⟩ (.bool true))) := HBR.out.setCell (by show db ≤ db; omega) _
          have hg3 : (wr.setCell ⟨db, c, none⟩ (.bool true)).heap[p]? = some (.cells #[.int .i64 n, .slice a l.length cap] 24) := (HB2'.out.block p (by omega)).trans hg2
          obtain ⟨⟨r0, r1⟩, _⟩ := two_cells hg3
          go_wp2_with fail
          generalize hV : wr.setCell ⟨db, c, none⟩ (.bool true) = V at *
          clear hV
          refine (cutAround_any n c m a l cap v1 c1 V HE.out (HR2.out.on (hq2 ▸ HB2'.out)) (HO2.out.prs.on (hq2 ▸ HB2'.out))).mono ?_
          rintro e u3 ⟨v3, c3, xs, rfl, hown3, hci, _, hb3⟩
          have hgc := gchk_ok (m := m) HE.out hcn hm1 hm2
          rw [hgc] at hci ⊢
          have HCI := Lib.hid (hci rfl)
          rw [Int.toNat_natCast] at HCI
          have hmV : mb < V.heap.size := HM2'.out.lt
          have HM3 : Hid (MapS u3 mb nn S) := HM2'.out.kept (row := none) (gby_below hb3) (by simp)
          have HT3 := Lib.hid (HT2.out.same (hb3.block db HT2.out.lt))
          have HB3 : Hid (Below db w2 u3) := HB2'.out.trans (hb3.mono (by have := HB2'.out.size; omega))
          have HPN := Lib.hid (hown3.offN hmV)
          have hxl : xs.length ≤ 8192 := Nat.le_trans HCI.out.len hpl
          have HSX : Hid (∀ q, q ∈ xs → Sm q) := fun q hq => HSP.out q (HCI.out.sub q hq)
          have HMO := Lib.hid (HHD.out.more hcq HCI.out)
          have hnn : nn ≤ 1000000000000 := by have := HNN.out; omega
          clear hown3 hci hb3 hgc t1 t2 r0 r1 hg3
          go_wp2_with fail
          refine (add_any u3 mb nn S xs v3 c3 (by omega) hnn HSX.out HPN.out HM3.out).mono ?_
          rintro e u4 ⟨rfl, hm4, hg4⟩
          have HM4 := Lib.hid hm4
          have HT4 := Lib.hid (HT3.out.same (hg4.block db HT3.out.lt (by intro e; injection e with e; exact hmd e.symm)))
          have HB4 : Hid (Below db w2 u4) := HB3.out.grown hg4 (by have := HB3.out.size; omega) (fun j hj => by cases hj; omega)
          clear hm4 hg4
          go_wp2_with fail
          exact ⟨⟨k + 1, nn + xs.length, S ++ xs, _, by omega, by simp, Lib.hid (by have := HNN.out; omega), HM4, HT4, HB4, Lib.hid (by rw [HTM.out]; exact HMO.out)⟩, by simp [intOf]; omega⟩
      · have e0 : cs.take k = cs := List.take_of_length_le (by omega)
        have hlk' : ¬ (k : Int) < cs.length := by omega
        rw [e0] at HHD
        clear e0
        have HCP := Lib.hid (own_cap HO2.out)
        have HPO : Hid (PrsN wr v1 (prl l) mb) := HO2.out.prs.off (hq2 ▸ HBR.out) (by omega)
        go_wp2_with fail
        refine (takeFrom_any wr mb nn S (prl l) v1 c1 hpl HCP.out.1 HCP.out.2 (prl_nodup l) HSP.out HPO.out HMR.out).mono ?_
        rintro e w9 ⟨vt, ct, vo, co, rfl, hta, _, hg9⟩
        have HB9 : Hid (Below db w2 w9) := HBR.out.grown hg9 (by have := HBR.out.size; omega) (fun j hj => by cases hj; omega)
        obtain ⟨TA, HTA⟩ := named ((prl l).filter (fun p => decide (p ∈ S)))
        obtain ⟨ol, hol⟩ : ∃ ol, ((prl l).filter (fun p => !decide (p ∈ S))).length = ol := ⟨_, rfl⟩
        rw [HTA.out] at hta ⊢
        rw [hol]
        have HOA : Hid (OwnP w9 p vt ct TA) := own_base hta (by have := HBR.out.size; omega)
        have HMI : Hid (MarksIs n l (cs.map Int.toNat) m.toNat TA) := ⟨cf, HHD.out.1, by
          rw [← HTA.out]
          refine List.filter_congr (fun p _ => ?_)
          rw [Bool.eq_iff_iff]
          simp only [decide_eq_true_eq]
          exact HHD.out.2 p⟩
        clear hta hg9 hol
        go_wp2_with fail
        go_ret2
        exact ⟨vt, ct, TA, rfl, HOA.out, HMI, trivial, HB2.out.trans (HB9.out.mono (by omega))⟩
end Go.Proofs.Ytpgadcacimjlaab
