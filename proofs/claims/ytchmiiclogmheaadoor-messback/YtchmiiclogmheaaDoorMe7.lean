/-
  Matrices as items: the call.
-/
import Derived.Test.YtchmiiclogmheaaDoorMe6
namespace Go.Proofs.YtchmiiclogmheaaDoor.C2
open Go.RowKit
/-- All numbers of matrices are within their bounds. -/
def MxOk (l : List MX) : Prop := ∀ j, j < l.length → ((0 ≤ (mat l j).lv ∧ (mat l j).lv ≤ 9223372036854775807) ∧ (0 ≤ (mat l j).ce ∧ (mat l j).ce ≤ 9223372036854775807) ∧ (0 ≤ (mat l j).ep ∧ (mat l j).ep ≤ 9223372036854775807)) ∧ (mat l j).ds.length ≤ 16384 ∧ ∀ i, i < (mat l j).ds.length → 0 ≤ (mat l j).ds.getD i 0 ∧ (mat l j).ds.getD i 0 ≤ 18446744073709551615
/-- The first matrices are items that are filled in. -/
structure MsR (p n k : Nat) (w wr : World) (X : Nat → T) (l : List MX) : Prop where
  tb : TbV wr (p + 1) (n * 4) 54 (iF X k)
  im : ∀ j, j < k → IsMx (X j) (mat l j)
  is : ∀ j, j < k → ∀ f, InS (fun b => p + 1 < b ∧ b < wr.heap.size) wr f (X j)
  rs : wr.heap[p]? = some (.cells #[.int .i64 0, .int .u64 0, .string ⟨#[]⟩, .slice none 0 0] 54)
  be : Below p w wr
theorem MsR.step {p n k : Nat} {w wr w1 w' : World} {X : Nat → T} {l : List MX} (h : MsR p n k w wr X l) (h1 : Below wr.heap.size wr w1) (o : MxO (p + 1) (n * 4) k w1 w' (iF X k) (mat l k)) : ∃ X', MsR p n (k + 1) w w' X' l := by
  obtain ⟨⟨t, ht, hI, hT⟩, ho, hb⟩ := o
  have hp : p + 1 < wr.heap.size := h.tb.lt
  have hs1 := h1.size
  have hlt : ∀ b, b < wr.heap.size → b ≠ p + 1 → w'.heap[b]? = wr.heap[b]? := fun b hb hn => (ho b (by omega) hn).trans (h1.block b hb)
  have hsz : ∀ b, b < wr.heap.size → b ≠ p + 1 → b < w'.heap.size := fun b hb hn => by
    have h4 : wr.heap[b]? = some wr.heap[b] := Array.getElem?_eq_getElem hb
    rw [← hlt b hb hn] at h4
    exact lt_of_block h4
  refine ⟨fun j => if j = k then t else X j, ?_, fun j hj => ?_, fun j hj f => ?_, (hlt p (by omega) (by omega)).trans h.rs, h.be.trans ((h1.mono (by omega)).trans (hb.mono (by omega)))⟩
  · refine hT.congr (fun v _ => ?_)
    have e := iF_step (fun j => if j = k then t else X j) k v
    rw [← e]
    simp only [if_pos]
    unfold updV iF
    by_cases h3 : v = k * 4 + 3
    · rw [if_pos h3, if_pos h3]
    · rw [if_neg h3, if_neg h3]
      by_cases h2 : v = k * 4 + 2
      · rw [if_pos h2, if_pos h2]
      · rw [if_neg h2, if_neg h2]
        by_cases h1 : v = k * 4 + 1
        · rw [if_pos h1, if_pos h1]
        · rw [if_neg h1, if_neg h1]
          by_cases h0 : v = k * 4
          · rw [if_pos h0, if_pos h0]
          · rw [if_neg h0, if_neg h0]
            by_cases hv : v / 4 < k
            · rw [if_pos hv, if_pos hv]
              show _ = (if v / 4 = k then t else X (v / 4)).c4 (v % 4)
              rw [if_neg (by omega)]
            · rw [if_neg hv, if_neg hv]
  · by_cases e : j = k
    · subst e
      simp only [if_pos]
      exact ht
    · simp only [if_neg e]
      exact h.im j (by omega)
  · by_cases e : j = k
    · subst e
      simp only [if_pos]
      exact (hI f).same (fun b hb => ⟨⟨by omega, hb.2⟩, rfl⟩)
    · simp only [if_neg e]
      exact (h.is j (by omega) f).same (fun b hb => ⟨⟨hb.1, hsz b hb.2 (by omega)⟩, hlt b hb.2 (by omega)⟩)
/-- Matrices as items. -/
def IsMs (t : T) (l : List MX) : Prop := ∃ a c u, t = lT a c u ∧ u.length = l.length ∧ ∀ j, j < l.length → IsMx (u.getD j T.zero) (mat l j)
theorem MsR.fin {p n : Nat} {w wr : World} {X : Nat → T} {l : List MX} (h : MsR p n n w wr X l) (hn : l.length = n) (h8 : n ≤ 16384) : IsMs (lT (some ⟨p + 1, 0, none⟩) n ((List.range n).map X)) l ∧ ∀ f, InS (fun b => p < b ∧ b < wr.heap.size) wr f (lT (some ⟨p + 1, 0, none⟩) n ((List.range n).map X)) := by
  have hlen : ((List.range n).map X).length = n := by simp
  refine ⟨⟨_, _, _, rfl, by rw [hlen, hn], fun j hj => ?_⟩, fun f => inS_list h.tb ⟨by omega, h.tb.lt⟩ (by omega) hlen (fun j hj => by simp [List.getD, hj]) (fun j hj f => ?_) f⟩
  · rw [show ((List.range n).map X).getD j T.zero = X j by simp [List.getD, show j < n by omega]]
    exact h.im j (by omega)
  · rw [hlen] at hj
    rw [show ((List.range n).map X)[j]'(by rw [hlen]; exact hj) = X j by simp]
    exact (h.is j hj f).same (fun b hb => ⟨⟨by omega, hb.2⟩, rfl⟩)
theorem four_far {w : World} {p q k o : Nat} {a' b' c' d' : Value} (h : q ≠ p) : ((((w.setCell ⟨p, k * 4, none⟩ a').setCell ⟨p, k * 4 + 1, none⟩ b').setCell ⟨p, k * 4 + 2, none⟩ c').setCell ⟨p, k * 4 + 3, none⟩ d').cell? ⟨q, o, none⟩ = w.cell? ⟨q, o, none⟩ := World.cell?_of_block (w := w) (a := ⟨q, o, none⟩) (four_at h)
theorem far4 {w : World} {p q k o : Nat} {a' b' c' d' v : Value} (h : q ≠ p) (e : w.cell? ⟨q, o, none⟩ = some v) : ((((w.setCell ⟨p, k * 4, none⟩ a').setCell ⟨p, k * 4 + 1, none⟩ b').setCell ⟨p, k * 4 + 2, none⟩ c').setCell ⟨p, k * 4 + 3, none⟩ d').cell? ⟨q, o, none⟩ = some v := (four_far h).trans e
theorem alc {w : World} {o : Obj} {q i : Nat} {v : Value} (h : w.cell? ⟨q, i, none⟩ = some v) : (w.alloc o).cell? ⟨q, i, none⟩ = some v :=
  (World.cell?_of_block (w := w) (a := ⟨q, i, none⟩) (Below.heap_alloc _ _ _ (World.block_lt_of_cell? w _ h))).trans h
theorem insW {W0 W wD : World} {t : T} (h : Below W0.heap.size W0 W) (hI : ∀ f, InS (fun b => W.heap.size ≤ b ∧ b < wD.heap.size) wD f t) : ∀ f, InS (fun b => W0.heap.size ≤ b ∧ b < wD.heap.size) wD f t :=
  fun f => (hI f).same (fun _ hb => ⟨⟨Nat.le_trans h.size hb.1, hb.2⟩, rfl⟩)
set_option maxRecDepth 100000 in
set_option maxHeartbeats 51200000 in
theorem matrices_any (a : Option Addr) (l : List MX) (c : Nat) (w : World) (hl : l.length ≤ 16384) (hx : MxOk l) (h : Mts w a l) : Calls Tryd.prog 85 #[.slice a l.length c] w fun e w' => ∃ t : T, e = .returned t.val ∧ IsMs t l ∧ (∀ f, InS (fun b => w.heap.size ≤ b ∧ b < w'.heap.size) w' f t) ∧ Below w.heap.size w w' := by
  obtain ⟨b, o, hab⟩ := h.get
  have HA := Lib.hid hab
  have HX := Lib.hid hx
  have HFN := Lib.hid (fun wr X (hm : MsR w.heap.size l.length l.length w wr X l) => hm.fin rfl hl)
  obtain ⟨i54, hi54, hz54, hs54, hby54⟩ := info_parts info54
  obtain ⟨X0, HX0⟩ : ∃ X : Nat → T, Hid (∀ j, X j = T.zero) := ⟨fun _ => T.zero, Lib.hid (fun _ => rfl)⟩
  have hmk : ∀ w, (Instr.makeSlice 52 (.int .i64 l.length) (.int .i64 l.length)).run Tryd.prog w = .ok (.slice (some ⟨w.heap.size, 0, none⟩) l.length l.length) (w.alloc (.cells ((List.range (l.length * 4)).map (iF X0 0)).toArray 54)) := fun w => by
    have := run_make (P := Tryd.prog) w 52 54 i54 (.agg #[.int .i64 0, .int .u64 0, .string ⟨#[]⟩, .slice none 0 0]) Tryd.underlying52 hi54 hz54 .i64 .i64 l.length l.length (by omega) (by omega) (by rw [hby54]; omega) (by omega)
    rw [hs54] at this
    rw [this, Int.toNat_natCast, made_items X0]
  obtain ⟨L, HL⟩ := named l.length
  rw [HL.out] at HA HFN hl hmk ⊢
  clear h hab hx
  generalize hp : w.heap.size = p at *
  go_enter Tryd.func85, Tryd.ntmps85
  go_wp2_with fail
  have hW : ∀ o, (w.alloc o).heap.size = p + 1 := fun o => by rw [World.size_alloc, hp]
  have HB0 : Hid (Below p w (w.alloc (.cells #[.int .i64 0, .int .u64 0, .string ⟨#[]⟩, .slice none 0 0] 54))) := Lib.hid ((Below.refl _ _).alloc (by omega) _)
  have HR0 := Lib.hid (heap_top w (.cells #[.int .i64 0, .int .u64 0, .string ⟨#[]⟩, .slice none 0 0] 54))
  have hw1 := hW (.cells #[.int .i64 0, .int .u64 0, .string ⟨#[]⟩, .slice none 0 0] 54)
  rw [hp] at HR0
  generalize w.alloc (.cells #[.int .i64 0, .int .u64 0, .string ⟨#[]⟩, .slice none 0 0] 54) = W at *
  have HT0 : Hid (TbV (W.alloc (.cells ((List.range (L * 4)).map (iF X0 0)).toArray 54)) (p + 1) (L * 4) 54 (iF X0 0)) := by
    have h := heap_top W (.cells ((List.range (L * 4)).map (iF X0 0)).toArray 54)
    rw [hw1] at h
    exact h
  have HB1 : Hid (Below p w (W.alloc (.cells ((List.range (L * 4)).map (iF X0 0)).toArray 54))) := Lib.hid (HB0.out.alloc (by omega) _)
  have HR1 : Hid ((W.alloc (.cells ((List.range (L * 4)).map (iF X0 0)).toArray 54)).heap[p]? = some (.cells #[.int .i64 0, .int .u64 0, .string ⟨#[]⟩, .slice none 0 0] 54)) := Lib.hid ((Below.heap_alloc _ _ _ (by omega)).trans HR0.out)
  generalize W.alloc (.cells ((List.range (L * 4)).map (iF X0 0)).toArray 54) = V at *
  clear HB0 HR0 hw1 hmk hW
  have HM0 : Hid (∃ X, MsR p L 0 w V X l) := Lib.hid ⟨X0, HT0.out, fun j hj => by omega, fun j hj => by omega, HR1.out, HB1.out⟩
  clear HT0 HB1 HR1
  go_wp2_with fail
  go_loopw [11] (fun i wr => ∃ k : Nat, k ≤ L ∧ i = .int .i64 k ∧ Hid (∃ X, MsR p L k w wr X l)) (fun i _ => L - (intOf i).toNat)
  case atStart => exact ⟨0, Nat.zero_le _, rfl, HM0⟩
  case round =>
    clear HM0
    obtain ⟨k, hk, rfl, HMR⟩ := hrel
    obtain ⟨X, hMR⟩ := HMR.out
    have HM := Lib.hid hMR
    have hpw : p + 1 < wr.heap.size := hMR.tb.lt
    have HBR := Lib.hid hMR.be
    have HRR := Lib.hid hMR.rs
    have HTR := Lib.hid hMR.tb
    clear HMR hMR
    by_cases hlt : k < L
    · have hlt' : (k : Int) < (L : Int) := by omega
      obtain ⟨rfl, hb, hat⟩ := HA.out (by omega)
      obtain ⟨xa, xc, hD, p0, p1, p2, p3⟩ := hat k hlt
      have q0 := (HBR.out.cell (p := ⟨b, o + k * 4, none⟩) (by show b < p; omega)).trans p0
      have q1 := (HBR.out.cell (p := ⟨b, o + k * 4 + 1, none⟩) (by show b < p; omega)).trans p1
      have q2 := (HBR.out.cell (p := ⟨b, o + k * 4 + 2, none⟩) (by show b < p; omega)).trans p2
      have q3 := (HBR.out.cell (p := ⟨b, o + k * 4 + 3, none⟩) (by show b < p; omega)).trans p3
      obtain ⟨hnum, hdl, hdb⟩ := HX.out k (by rw [HL.out]; exact hlt)
      have HDW : Hid (Nms .u64 wr xa (mat l k).ds) := Lib.hid (by have := HBR.out; rw [← hp] at this; exact hD.on this)
      have HST := Lib.hid (fun (w1 w' : World) (h1 : Below wr.heap.size wr w1) (ho : MxO (p + 1) (L * 4) k w1 w' (iF X k) (mat l k)) => HM.out.step h1 ho)
      generalize hY : mat l k = Y at *
      obtain ⟨lv, ce, ep, ds⟩ := Y
      have hnum2 : (0 ≤ lv ∧ lv ≤ 9223372036854775807) ∧ (0 ≤ ce ∧ ce ≤ 9223372036854775807) ∧ (0 ≤ ep ∧ ep ≤ 9223372036854775807) := hnum
      have hdl2 : ds.length ≤ 16384 := hdl
      clear hnum hdl
      rename ds.length ≤ 16384 => hdl
      obtain ⟨⟨n0, n1⟩, ⟨n2, n3⟩, n4, n5⟩ := hnum2
      have HNUM := Lib.hid (And.intro (And.intro n0 n1) (And.intro (And.intro n2 n3) (And.intro n4 n5)))
      have hw0 : IntKind.u64.wrap lv = lv := by rw [IntKind.wrap_u64]; omega
      have hw1 : IntKind.u64.wrap ce = ce := by rw [IntKind.wrap_u64]; omega
      have hw2 : IntKind.u64.wrap ep = ep := by rw [IntKind.wrap_u64]; omega
      clear p0 p1 p2 p3 hat HA HX HFN hD
      go_wp2_with fail
      have hb0 : Below wr.heap.size wr (wr.alloc (.cells #[.int .i64 lv, .int .i64 ce, .int .i64 ep, .slice xa ds.length xc] 44)) := (Below.refl _ _).alloc (Nat.le_refl _) _
      have HQ := Lib.hid (heap_top wr (.cells #[.int .i64 lv, .int .i64 ce, .int .i64 ep, .slice xa ds.length xc] 44))
      have HB0 := Lib.hid hb0
      have hq : p + 1 < wr.heap.size ∧ wr.heap.size < (wr.alloc (.cells #[.int .i64 lv, .int .i64 ce, .int .i64 ep, .slice xa ds.length xc] 44)).heap.size := ⟨hpw, by simp⟩
      have HNB : Hid (∀ W, Below (wr.alloc (.cells #[.int .i64 lv, .int .i64 ce, .int .i64 ep, .slice xa ds.length xc] 44)).heap.size (wr.alloc (.cells #[.int .i64 lv, .int .i64 ce, .int .i64 ep, .slice xa ds.length xc] 44)) W → Calls Tryd.prog 86 #[.slice xa ds.length xc] W fun e w' => ∃ g, e = .returned (.agg #[.int .i64 3, .int .u64 0, .string ⟨#[]⟩, .slice (some ⟨g, 0, none⟩) ds.length ds.length]) ∧ (∀ f, InS (fun b => W.heap.size ≤ b ∧ b < w'.heap.size) w' f (lT (some ⟨g, 0, none⟩) ds.length (ds.map nT))) ∧ Below W.heap.size W w') := Lib.hid (fun W hW => by
        refine (numbers86_any xa ds xc W hdl hdb (HDW.out.on (bstep hb0 hW))).mono ?_
        rintro e w' ⟨g, rfl, h1, h2⟩
        refine ⟨g, ?_, h1, h2⟩
        unfold T.val
        rw [show (lT (some ⟨g, 0, none⟩) ds.length (ds.map nT)).l.length = ds.length from List.length_map ..]
        rfl)
      generalize hqq : wr.heap.size = q at *
      generalize hW0 : wr.alloc (.cells #[.int .i64 lv, .int .i64 ce, .int .i64 ep, .slice xa ds.length xc] 44) = W0 at *
      have HS : Hid (∀ W, Below W0.heap.size W0 W → MxS (p + 1) q k (iF X k) lv ce ep (.slice xa ds.length xc) W) := Lib.hid (fun W hW => tbv_mxs ((HTR.out.same ((HB0.out.block _ (by omega)))).same (hW.block _ (by omega))) (by omega) ((hW.block _ (by omega)).trans HQ.out))
      have HT00 : Hid (TbV W0 (p + 1) (L * 4) 54 (iF X k)) := Lib.hid (HTR.out.same (HB0.out.block _ (by omega)))
      have hne : q ≠ p + 1 := by omega
      clear q0 q1 q2 q3 hb0 HDW hdb
      unfold MxS at HS
      obtain ⟨y0, y1, y2, y3, y4, y5, y6, y7, y8, y9, y10, y11⟩ := HS.out _ (Below.refl _ _)
      have HBz : Hid (Below W0.heap.size W0 W0.drew) := Lib.hid (Below.refl _ _).drew
      clear HRR HBR HTR HM
      go_region_held3 (fun w => w.cell? ⟨q, 0, none⟩ = some (.int .i64 lv) ∧ w.cell? ⟨q, 1, none⟩ = some (.int .i64 ce) ∧ w.cell? ⟨q, 2, none⟩ = some (.int .i64 ep) ∧ w.cell? ⟨q, 3, none⟩ = some (.slice xa ds.length xc)) (first | (with_reducible exact ⟨z0, z1, z2, z3⟩) | (with_reducible exact ⟨alc z0, alc z1, alc z2, alc z3⟩) | (with_reducible exact ⟨far4 hne z0, far4 hne z1, far4 hne z2, far4 hne z3⟩) | (with_reducible exact ⟨y0, y1, y2, y3⟩) | go_keep) (first
        | (go_at_call 52; refine (num_any _ _).mono ?_; rintro e wz ⟨rfl, hbz⟩; have HEz := Lib.hid (bstep HEz.out hbz); have HBz := Lib.hid (bstep HBz.out hbz); clear hbz; (try clear z0 z1 z2 z3 z4 z5 z6 z7 z8 z9 z10 z11); obtain ⟨z0, z1, z2, z3, z4, z5, z6, z7, z8, z9, z10, z11⟩ := HS.out wz HBz.out)
        | (go_at_call 52; refine (num_any _ _).mono ?_; rintro e wz ⟨rfl, hbz⟩; have HBz := Lib.hid (bstep HBz.out hbz); clear hbz; (try clear z0 z1 z2 z3 z4 z5 z6 z7 z8 z9 z10 z11); obtain ⟨z0, z1, z2, z3, z4, z5, z6, z7, z8, z9, z10, z11⟩ := HS.out wz HBz.out)
        | (go_at_call 86; refine (HNB.out _ HBz.out).mono ?_; rintro e wz ⟨g, rfl, hI, hbz⟩; have HIz := Lib.hid (insW HBz.out hI); have HBz := Lib.hid (bstep HBz.out hbz); have HDz := HBz; have HEz : Hid (Below wz.heap.size wz wz) := Lib.hid (Below.refl _ _); clear hI hbz; (try clear z0 z1 z2 z3 z4 z5 z6 z7 z8 z9 z10 z11); obtain ⟨z0, z1, z2, z3, z4, z5, z6, z7, z8, z9, z10, z11⟩ := HS.out wz HBz.out)
        | (go_at_call 54; refine (list_any _ _ _ _).mono ?_; rintro e wz ⟨rfl, hbz⟩; have HLz := Lib.hid hbz; (try clear z0 z1 z2 z3 z4 z5 z6 z7 z8 z9 z10 z11); obtain ⟨z0, z1, z2, z3, z4, z5, z6, z7, z8, z9, z10, z11⟩ := HS.out wz (bstep (balloc HBz.out) hbz); clear hbz))
      all_goals
        go_wp2_with fail
        exact ⟨⟨k + 1, by omega, by go_num, Lib.hid (HST.out W0 _ HB0.out (mxo_of HT00.out (by omega) HDz.out HIz.out HNUM.out HEz.out rfl HLz.out))⟩, by simp [intOf]; omega⟩
    · have hlt' : ¬ (k : Int) < (L : Int) := by omega
      obtain rfl : k = L := by omega
      have HLI := Lib.hid (list_any (some ⟨p + 1, 0, none⟩) k k wr)
      obtain ⟨⟨z0, z1, z2, z3⟩, f0, f1, f2, f3⟩ := cells4 HRR.out
      have hpw2 : p < wr.heap.size := lt_of_block HRR.out
      have HF2 := Lib.hid (HFN.out wr X HM.out)
      clear HA HX HFN
      go_wp2_with fail
      refine HLI.out.mono ?_
      rintro e w2 ⟨rfl, hb2⟩
      have HB2 : Hid (Below p w w2) := Lib.hid (HBR.out.trans (hb2.mono (by have := HBR.out.size; omega)))
      have hr2 := (hb2.block _ hpw2).trans HRR.out
      have HR2 := Lib.hid hr2
      have HBL := Lib.hid hb2
      clear hb2 z0 z1 z2 z3 f0 f1 f2 f3 HLI
      obtain ⟨⟨z0, z1, z2, z3⟩, f0, f1, f2, f3⟩ := cells4 hr2
      clear hr2
      go_wp2_with fail
      have hfin := four_set (a' := .int .i64 3) (b' := .int .u64 0) (c' := .string ⟨#[]⟩) (d' := .slice (some ⟨p + 1, 0, none⟩) k k) HR2.out
      have hbel := four_below (q := p) (a' := .int .i64 3) (b' := .int .u64 0) (c' := .string ⟨#[]⟩) (d' := .slice (some ⟨p + 1, 0, none⟩) k k) HB2.out (Nat.le_refl _)
      have hoth := fun b (h : b ≠ p) => four_oth (w := w2) (a' := .int .i64 3) (b' := .int .u64 0) (c' := .string ⟨#[]⟩) (d' := .slice (some ⟨p + 1, 0, none⟩) k k) h
      generalize ((((w2.setCell ⟨p, 0, none⟩ (.int .i64 3)).setCell ⟨p, 1, none⟩ (.int .u64 0)).setCell ⟨p, 2, none⟩ (.string ⟨#[]⟩)).setCell ⟨p, 3, none⟩ (.slice (some ⟨p + 1, 0, none⟩) k k)) = W4 at *
      obtain ⟨⟨y0, y1, y2, y3⟩, _⟩ := cells4 hfin
      refine bodyPost_ret (v := .agg #[.int .i64 3, .int .u64 0, .string ⟨#[]⟩, .slice (some ⟨p + 1, 0, none⟩) k k]) (by simp [results, Tryd.results85, go_sem, y0, y1, y2, y3]) rfl ⟨_, ?_, HF2.out.1, fun f => InS.same (fun b hb => ?_) (HF2.out.2 f), hbel⟩
      · unfold T.val
        rw [show (lT (some ⟨p + 1, 0, none⟩) k ((List.range k).map X)).l.length = k by show ((List.range k).map X).length = k; simp]
        rfl
      have h1 := HBL.out.size
      have h2 := hoth b (by omega)
      have h3 : b < w2.heap.size := by omega
      refine ⟨⟨by omega, ?_⟩, h2.trans (HBL.out.block b hb.2)⟩
      have h4 : w2.heap[b]? = some w2.heap[b] := Array.getElem?_eq_getElem h3
      rw [← h2] at h4
      exact lt_of_block h4
end Go.Proofs.YtchmiiclogmheaaDoor.C2
