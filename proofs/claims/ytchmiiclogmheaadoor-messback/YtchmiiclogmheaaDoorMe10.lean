/-
  A message as an item: the call.
-/
import Derived.Test.YtchmiiclogmheaaDoorMe9
namespace Go.Proofs.YtchmiiclogmheaaDoor.C2
open Go.RowKit
/-- So many fields are there. -/
def Pre (m : MM) (j : Nat) (l : List T) : Prop := ∃ u, l = nT m.kd :: u ∧ u.length = j ∧ ∀ i, i < j → IsF m ((fK m).getD i 0).toNat (u.getD i T.zero)
theorem Pre.len {m : MM} {j : Nat} {l : List T} (h : Pre m j l) : l.length = j + 1 := by
  obtain ⟨u, rfl, h, _⟩ := h
  simp [h]
theorem Pre.step {m : MM} {j : Nat} {l : List T} {t : T} (h : Pre m j l) (ht : IsF m ((fK m).getD j 0).toNat t) : Pre m (j + 1) (l ++ [t]) := by
  obtain ⟨u, rfl, h1, h2⟩ := h
  refine ⟨u ++ [t], rfl, by simp [h1], fun i hi => ?_⟩
  by_cases e : i = j
  · subst e
    rw [show (u ++ [t]).getD i T.zero = t by simp [List.getD, ← h1]]
    exact ht
  · rw [show (u ++ [t]).getD i T.zero = u.getD i T.zero by simp [List.getD, List.getElem?_append_left (show i < u.length by omega)]]
    exact h2 i (by omega)
set_option maxRecDepth 100000 in
set_option maxHeartbeats 12800000 in
theorem itemOf_any (m : MM) (p : Ad) (w : World) (hF : Flds w) (hm : MsIn w m p) (hk : Fine m) :
    Calls Tryd.prog 31 #[.agg (msC m p)] w fun e w' => ∃ t : T, e = .returned t.val ∧ IsMsg m t ∧ (∀ g, InS (fun b => w.heap.size ≤ b ∧ b < w'.heap.size) w' g t) ∧ Below w.heap.size w w' := by
  obtain ⟨q1, q2, hb0, hsz⟩ : ((w.alloc (.cells (msC m p) 26)).alloc (.cells #[.int .i64 0, .int .u64 0, .string ⟨#[]⟩, .slice none 0 0] 54)).heap[w.heap.size]? = some (.cells (msC m p) 26) ∧ ((w.alloc (.cells (msC m p) 26)).alloc (.cells #[.int .i64 0, .int .u64 0, .string ⟨#[]⟩, .slice none 0 0] 54)).heap[w.heap.size + 1]? = some (.cells #[.int .i64 0, .int .u64 0, .string ⟨#[]⟩, .slice none 0 0] 54) ∧ Below w.heap.size w ((w.alloc (.cells (msC m p) 26)).alloc (.cells #[.int .i64 0, .int .u64 0, .string ⟨#[]⟩, .slice none 0 0] 54)) ∧ ((w.alloc (.cells (msC m p) 26)).alloc (.cells #[.int .i64 0, .int .u64 0, .string ⟨#[]⟩, .slice none 0 0] 54)).heap.size = w.heap.size + 2 := by
    refine ⟨?_, ?_, ((Below.refl _ _).alloc (Nat.le_refl _) _).alloc (by simp) _, by simp⟩
    · rw [Below.heap_alloc _ _ _ (by simp), heap_top]
    · have := heap_top (w.alloc (.cells (msC m p) 26)) (.cells #[.int .i64 0, .int .u64 0, .string ⟨#[]⟩, .slice none 0 0] 54)
      rw [World.size_alloc] at this
      exact this
  have HB0 := Lib.hid hb0
  have HX0 := Lib.hid q1
  have HR0 := Lib.hid q2
  have HSZ := Lib.hid hsz
  obtain ⟨hk1, hk4⟩ := hk.kd
  obtain ⟨K, hK⟩ := Int.eq_ofNat_of_zero_le (a := m.kd) (by omega)
  obtain ⟨fb, fo, fc, hc, hcc⟩ := hF.2 K (by omega) (by omega)
  have hfk : fK m = fl K := by unfold fK; rw [hK]; rfl
  have HN := Lib.hid (num_any m.kd ((w.alloc (.cells (msC m p) 26)).alloc (.cells #[.int .i64 0, .int .u64 0, .string ⟨#[]⟩, .slice none 0 0] 54)))
  have HIF : Hid (∀ j, j < (fK m).length → ∃ f : Nat, (fK m).getD j 0 = (f : Int) ∧ ∀ W, Below w.heap.size w W → Calls Tryd.prog 53 #[.agg (msC m p), .int .i64 f] W fun e w' => ∃ t : T, e = .returned t.val ∧ IsF m ((fK m).getD j 0).toNat t ∧ (∀ g, InS (fun b => W.heap.size ≤ b ∧ b < w'.heap.size) w' g t) ∧ Below W.heap.size W w') := Lib.hid (fun j hj => by
    obtain ⟨f, e1, e2, e3, e4⟩ := hk.fs j hj
    refine ⟨f, e1, fun W hW => ?_⟩
    rw [e1]
    exact itemOfField_any m p f e2 W (hm.on hW) hk.ok e3 e4)
  have HT : Hid (∀ W, Below w.heap.size w W → W.cell? ⟨0, K, none⟩ = some (.slice (some ⟨fb, fo, none⟩) (fK m).length fc) ∧ ∀ j, j < (fK m).length → W.cell? ⟨fb, fo + j, none⟩ = some (.int .i64 ((fK m).getD j 0))) := Lib.hid (fun W hW => by
    rw [hfk]
    refine ⟨(hW.cell (p := ⟨0, K, none⟩) hF.size).trans hc, fun j hj => (hW.cell (p := ⟨fb, fo + j, none⟩) (World.block_lt_of_cell? w _ (hcc j hj))).trans (hcc j hj)⟩)
  have HI1 : Hid (∀ W : World, w.heap.size + 2 ≤ W.heap.size → Its (w.heap.size + 2) (W.alloc (.cells #[.int .i64 1, .int .u64 m.kd, .string ⟨#[]⟩, .slice none 0 0] 54)) (.slice (some ⟨W.heap.size, 0, none⟩) 1 1) [nT m.kd]) := Lib.hid (fun W hW => its_one hW (by omega) (by omega))
  have hlen := fK_len m
  obtain ⟨n, HNN⟩ := named (fK m).length
  rw [HNN.out] at HIF HT hlen
  obtain ⟨i0, hi, hz0, hz1, hzb⟩ := info_parts info25
  have hwx : IntKind.u64.wrap m.kd = m.kd := by rw [IntKind.wrap_u64]; omega
  clear hb0 q1 q2 hm hk hsz hc hcc hF hfk
  unfold msC at *
  rw [hK] at HN HB0 HX0 HR0 HSZ HIF HI1 hwx ⊢
  have hK5 : (K : Int) < 5 := by omega
  have hmK : Hid (m.kd = K) := Lib.hid hK
  clear hK
  go_enter Tryd.func31, Tryd.ntmps31
  go_wp2_with fail
  refine HN.out.mono ?_
  rintro e w2 ⟨rfl, hb2⟩
  have HBW2 := Lib.hid (HB0.out.trans (hb2.mono HB0.out.size))
  have hs2 : w.heap.size + 2 ≤ w2.heap.size := by have := HSZ.out; have := hb2.size; omega
  have hx2 := (hb2.block _ (by have := HSZ.out; omega)).trans HX0.out
  have HX2 := Lib.hid hx2
  have HR2 := Lib.hid ((hb2.block _ (by have := HSZ.out; omega)).trans HR0.out)
  have HIT := Lib.hid (HI1.out w2 hs2)
  obtain ⟨t0, _⟩ := HT.out (w2.alloc (.cells #[.int .i64 1, .int .u64 (K : Int), .string ⟨#[]⟩, .slice none 0 0] 54)) (balloc HBW2.out)
  have HW3 := Lib.hid (balloc (o := .cells #[.int .i64 1, .int .u64 (K : Int), .string ⟨#[]⟩, .slice none 0 0] 54) HBW2.out)
  have HX3 := Lib.hid ((Below.heap_alloc w2 (.cells #[.int .i64 1, .int .u64 (K : Int), .string ⟨#[]⟩, .slice none 0 0] 54) _ (by omega : w.heap.size < w2.heap.size)).trans HX2.out)
  have HR3 := Lib.hid ((Below.heap_alloc w2 (.cells #[.int .i64 1, .int .u64 (K : Int), .string ⟨#[]⟩, .slice none 0 0] 54) _ (by omega : w.heap.size + 1 < w2.heap.size)).trans HR2.out)
  obtain ⟨z0, z1, z2, z3, z4, z5, z6, z7, z8, z9, z10⟩ := cells11 HX3.out
  clear hb2 hx2 HN HX0 HR0 HB0 HI1
  go_wp2_with fail
  have HPR : Hid (Pre m 0 [nT (K : Int)]) := Lib.hid ⟨[], by rw [hmK.out], rfl, fun i hi => by omega⟩
  clear HX2 HR2 HBW2 t0 z0 z1 z2 z3 z4 z5 z6 z7 z8 z9 z10
  go_loopw [16, 3] (fun i s wr => ∃ (j : Nat) (l : List T), j ≤ n ∧ i = .int .i64 j ∧ l.length = j + 1 ∧ Hid (Its (w.heap.size + 2) wr s l) ∧ Hid (Pre m j l) ∧ Hid (wr.heap[w.heap.size]? = some (.cells #[.int .i64 (K : Int), .int .i64 m.ep, .int .i64 m.lv, .int .i64 m.ce, .int .i64 m.qu, .int .i64 m.ve, .int .i64 m.ot, .int .i64 m.bk, .slice p.wa m.ws.length p.wc, .slice p.ma m.ms.length p.mc, .slice p.da m.ds.length p.dc] 26)) ∧ Hid (wr.heap[w.heap.size + 1]? = some (.cells #[.int .i64 0, .int .u64 0, .string ⟨#[]⟩, .slice none 0 0] 54)) ∧ Hid (Below w.heap.size w wr)) (fun i _ _ => n - (intOf i).toNat)
  case atStart => exact ⟨0, [nT (K : Int)], by omega, rfl, rfl, HIT, HPR, HX3, HR3, HW3⟩
  case round =>
    clear HIT HPR HX3 HR3 HW3
    obtain ⟨j, l, hj, rfl, hll, HIT, HPR, HXR, HRR, HBR⟩ := hrel
    have hwr : w.heap.size + 1 < wr.heap.size := lt_of_block HRR.out
    by_cases hlt : j < n
    · have hlt' : (j : Int) < (n : Int) := by omega
      obtain ⟨f, hf, hcall⟩ := HIF.out j hlt
      have HC := Lib.hid (hcall wr HBR.out)
      have t1 := (HT.out wr HBR.out).2 j hlt
      rw [hf] at t1
      obtain ⟨z0, z1, z2, z3, z4, z5, z6, z7, z8, z9, z10⟩ := cells11 HXR.out
      have hHF := Lib.hid hf
      clear hcall hf HIF HT
      go_wp2_with fail
      refine HC.out.mono ?_
      rintro e w3 ⟨t, rfl, hft, hin, hb3⟩
      have HFT := Lib.hid hft
      have HIN := Lib.hid hin
      have HB3 := Lib.hid hb3
      have HIO := Lib.hid (HIT.out.on hb3)
      have hs3 := hb3.size
      clear hft hin hb3 HC z0 z1 z2 z3 z4 z5 z6 z7 z8 z9 z10 t1
      unfold T.val
      have HNEW := Lib.hid (new_cells w3 t)
      have HONE := Lib.hid (cells_one t)
      have HX4 := Lib.hid ((HB3.out.block _ (by omega)).trans HXR.out)
      have HR4 := Lib.hid ((HB3.out.block _ (by omega)).trans HRR.out)
      have HBW := Lib.hid (HBR.out.trans (HB3.out.mono HBR.out.size))
      have hsl : w.heap.size + 2 ≤ wr.heap.size := by
        have h1 := HIT.out.own.lt
        have h2 := HSZ.out
        omega
      go_wp2_with (at_builtin; refine wpList_append_own_at _ rfl (.tmp 20) (.tmp 24) 52 rfl (w.heap.size + 2) 54 i0 (.agg #[.int .i64 0, .int .u64 0, .string ⟨#[]⟩, .slice none 0 0]) 4 56 Tryd.underlying52 hi hz0 hz1 hzb rfl (by decide) u3 l.length (cellsC l) rfl (HIO.out.own.alloc _) ⟨w3.heap.size, 0, none⟩ 1 1 t.cells rfl rfl HNEW.out HONE.out (by unfold maxLen; omega) (by omega) (by simp; omega) ?_; intro v4 w4 hown4 hgrow4 hnil4 hblk4; clear hnil4; have hb4 : Below w3.heap.size w3 (w3.alloc (.cells #[.int .i64 t.k, .int .u64 t.n, .string t.s, .slice t.a t.l.length t.cap] 54)) := (Below.refl _ _).alloc (Nat.le_refl _) _; have HI4 := Lib.hid (HIT.out.step hsl HB3.out HIN.out hb4 hown4 hgrow4 hblk4); have hsm4 : ∀ b, b < w.heap.size + 2 → w4.heap[b]? = w3.heap[b]? := fun b hb => (hgrow4.block b (by simp; omega) (fun e => by have := HIT.out.own.lt b e.symm; omega)).trans (hb4.block b (by omega)); have HX5 := Lib.hid ((hsm4 _ (by omega)).trans HX4.out); have HR5 := Lib.hid ((hsm4 _ (by omega)).trans HR4.out); have HB5 : Hid (Below w.heap.size w w4) := Lib.hid (HBW.out.trans ⟨hgrow4.os.trans hb4.os, hgrow4.tape.trans hb4.tape, hgrow4.output.trans hb4.output, Nat.le_trans hb4.size hgrow4.size, fun i hi => hsm4 i (by omega)⟩); clear hown4 hgrow4 hblk4 hb4 hsm4)
      exact ⟨⟨j + 1, l ++ [t], by omega, by go_num, by simp [hll], HI4, Lib.hid (HPR.out.step HFT.out), HX5, HR5, HB5⟩, by simp [intOf]; omega⟩
    · have hlt' : ¬ (j : Int) < (n : Int) := by omega
      obtain rfl : j = n := by omega
      clear HIF HT
      obtain ⟨pp, cap, rfl, _⟩ := HIT.out.out (Below.refl _ _) (by omega)
      have HL := Lib.hid (list_any pp l.length cap wr)
      rw [hll] at HL
      rw [hll]
      go_wp2_with fail
      refine HL.out.mono ?_
      rintro e w2 ⟨rfl, hb2⟩
      have HB2 := Lib.hid (HBR.out.trans (hb2.mono HBR.out.size))
      have hr2 := (hb2.block _ hwr).trans HRR.out
      have HR2 := Lib.hid hr2
      have HI2 : Hid (∀ f, InS (fun b => w.heap.size + 1 < b ∧ b < w2.heap.size) w2 f (lT pp cap l)) := Lib.hid (by
        obtain ⟨pp', cap', e, h⟩ := HIT.out.out hb2 (by omega)
        injection e with e1 e2 e3
        subst e1 e3
        exact fun f => (h f).same (fun b hb => ⟨⟨by omega, hb.2⟩, rfl⟩))
      clear hb2 HL
      obtain ⟨⟨z0, z1, z2, z3⟩, f0, f1, f2, f3⟩ := cells4 hr2
      clear hr2
      go_wp2_with fail
      obtain ⟨⟨y0, y1, y2, y3⟩, hI4, hb4⟩ := fin_item (w := w) (B := w.heap.size) (t := lT pp cap l) (by omega) HR2.out HB2.out HI2.out
      have hv : (lT pp cap l).l.length = j + 1 := hll
      rw [hv] at y0 y1 y2 y3 hI4 hb4
      change World.cell? ((((w2.setCell ⟨w.heap.size + 1, 0, none⟩ (.int .i64 3)).setCell ⟨w.heap.size + 1, 1, none⟩ (.int .u64 0)).setCell ⟨w.heap.size + 1, 2, none⟩ (.string ⟨#[]⟩)).setCell ⟨w.heap.size + 1, 3, none⟩ (.slice pp (j + 1) cap)) _ = some (.int .i64 3) at y0
      change World.cell? ((((w2.setCell ⟨w.heap.size + 1, 0, none⟩ (.int .i64 3)).setCell ⟨w.heap.size + 1, 1, none⟩ (.int .u64 0)).setCell ⟨w.heap.size + 1, 2, none⟩ (.string ⟨#[]⟩)).setCell ⟨w.heap.size + 1, 3, none⟩ (.slice pp (j + 1) cap)) _ = some (.int .u64 0) at y1
      change World.cell? ((((w2.setCell ⟨w.heap.size + 1, 0, none⟩ (.int .i64 3)).setCell ⟨w.heap.size + 1, 1, none⟩ (.int .u64 0)).setCell ⟨w.heap.size + 1, 2, none⟩ (.string ⟨#[]⟩)).setCell ⟨w.heap.size + 1, 3, none⟩ (.slice pp (j + 1) cap)) _ = some (.string ⟨#[]⟩) at y2
      change World.cell? ((((w2.setCell ⟨w.heap.size + 1, 0, none⟩ (.int .i64 3)).setCell ⟨w.heap.size + 1, 1, none⟩ (.int .u64 0)).setCell ⟨w.heap.size + 1, 2, none⟩ (.string ⟨#[]⟩)).setCell ⟨w.heap.size + 1, 3, none⟩ (.slice pp (j + 1) cap)) _ = some (.slice pp (j + 1) cap) at y3
      change ∀ f, InS (fun b => w.heap.size + 1 ≤ b ∧ b < ((((w2.setCell ⟨w.heap.size + 1, 0, none⟩ (.int .i64 3)).setCell ⟨w.heap.size + 1, 1, none⟩ (.int .u64 0)).setCell ⟨w.heap.size + 1, 2, none⟩ (.string ⟨#[]⟩)).setCell ⟨w.heap.size + 1, 3, none⟩ (.slice pp (j + 1) cap)).heap.size) ((((w2.setCell ⟨w.heap.size + 1, 0, none⟩ (.int .i64 3)).setCell ⟨w.heap.size + 1, 1, none⟩ (.int .u64 0)).setCell ⟨w.heap.size + 1, 2, none⟩ (.string ⟨#[]⟩)).setCell ⟨w.heap.size + 1, 3, none⟩ (.slice pp (j + 1) cap)) f _ at hI4
      change Below _ w ((((w2.setCell ⟨w.heap.size + 1, 0, none⟩ (.int .i64 3)).setCell ⟨w.heap.size + 1, 1, none⟩ (.int .u64 0)).setCell ⟨w.heap.size + 1, 2, none⟩ (.string ⟨#[]⟩)).setCell ⟨w.heap.size + 1, 3, none⟩ (.slice pp (j + 1) cap)) at hb4
      generalize ((((w2.setCell ⟨w.heap.size + 1, 0, none⟩ (.int .i64 3)).setCell ⟨w.heap.size + 1, 1, none⟩ (.int .u64 0)).setCell ⟨w.heap.size + 1, 2, none⟩ (.string ⟨#[]⟩)).setCell ⟨w.heap.size + 1, 3, none⟩ (.slice pp (j + 1) cap)) = W4 at *
      refine bodyPost_ret (v := .agg #[.int .i64 3, .int .u64 0, .string ⟨#[]⟩, .slice pp (j + 1) cap]) (by simp [results, Tryd.results31, go_sem, y0, y1, y2, y3]) rfl ⟨lT pp cap l, ?_, ?_, fun g => (hI4 g).same (fun b hb => ⟨⟨by omega, hb.2⟩, rfl⟩), hb4⟩
      · unfold T.val
        rw [hv]
        rfl
      · obtain ⟨u, rfl, h1, h2⟩ := HPR.out
        exact ⟨_, _, u, rfl, by rw [h1, HNN.out], fun i hi => h2 i (by rw [← HNN.out]; exact hi)⟩
end Go.Proofs.YtchmiiclogmheaaDoor.C2
