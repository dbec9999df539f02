/-
  Contract of mess.Decode: the call.
-/
import Derived.Test.YtchmiiclogmheaaDoorRd8
import Derived.BigRegion
namespace Go.Proofs.YtchmiiclogmheaaDoor.C2
open Go.RowKit
/-- Both results are stored. -/
theorem fin14 {w w2 W5 : World} {B p : Nat} {a0 a1 a2 a3 a4 a5 a6 a7 a8 a9 a10 b0 b1 b2 b3 b4 b5 b6 b7 b8 b9 b10 x y x' y' : Value} {t1 t2 : TypeId} (hp : B ≤ p) (hr : w2.heap[p]? = some (.cells #[a0, a1, a2, a3, a4, a5, a6, a7, a8, a9, a10] t1 (0, 0))) (he : w2.heap[p + 1]? = some (.cells #[x, y] t2 (0, 0))) (hb : Below B w w2) (h5 : Below (((((((((((((w2.setCell ⟨p, 0, none⟩ b0).setCell ⟨p, 1, none⟩ b1).setCell ⟨p, 2, none⟩ b2).setCell ⟨p, 3, none⟩ b3).setCell ⟨p, 4, none⟩ b4).setCell ⟨p, 5, none⟩ b5).setCell ⟨p, 6, none⟩ b6).setCell ⟨p, 7, none⟩ b7).setCell ⟨p, 8, none⟩ b8).setCell ⟨p, 9, none⟩ b9).setCell ⟨p, 10, none⟩ b10).setCell ⟨p + 1, 0, none⟩ x').setCell ⟨p + 1, 1, none⟩ y').heap.size (((((((((((((w2.setCell ⟨p, 0, none⟩ b0).setCell ⟨p, 1, none⟩ b1).setCell ⟨p, 2, none⟩ b2).setCell ⟨p, 3, none⟩ b3).setCell ⟨p, 4, none⟩ b4).setCell ⟨p, 5, none⟩ b5).setCell ⟨p, 6, none⟩ b6).setCell ⟨p, 7, none⟩ b7).setCell ⟨p, 8, none⟩ b8).setCell ⟨p, 9, none⟩ b9).setCell ⟨p, 10, none⟩ b10).setCell ⟨p + 1, 0, none⟩ x').setCell ⟨p + 1, 1, none⟩ y') W5) :
    W5.heap[p]? = some (.cells #[b0, b1, b2, b3, b4, b5, b6, b7, b8, b9, b10] t1 (0, 0)) ∧ W5.heap[p + 1]? = some (.cells #[x', y'] t2 (0, 0)) ∧ Below B w W5 ∧ (∀ c, c < w2.heap.size → c ≠ p → c ≠ p + 1 → W5.heap[c]? = w2.heap[c]?) ∧ w2.heap.size ≤ W5.heap.size := by
  have h1 := set11 (b0 := b0) (b1 := b1) (b2 := b2) (b3 := b3) (b4 := b4) (b5 := b5) (b6 := b6) (b7 := b7) (b8 := b8) (b9 := b9) (b10 := b10) hr
  have h2 := (set11_oth (w := w2) (b0 := b0) (b1 := b1) (b2 := b2) (b3 := b3) (b4 := b4) (b5 := b5) (b6 := b6) (b7 := b7) (b8 := b8) (b9 := b9) (b10 := b10) (by omega : p + 1 ≠ p)).trans he
  have h3 := set11_below (b0 := b0) (b1 := b1) (b2 := b2) (b3 := b3) (b4 := b4) (b5 := b5) (b6 := b6) (b7 := b7) (b8 := b8) (b9 := b9) (b10 := b10) hb hp
  have h4 := fun c (hc : c ≠ p) => set11_oth (w := w2) (b0 := b0) (b1 := b1) (b2 := b2) (b3 := b3) (b4 := b4) (b5 := b5) (b6 := b6) (b7 := b7) (b8 := b8) (b9 := b9) (b10 := b10) hc
  have hz : (((((((((((w2.setCell ⟨p, 0, none⟩ b0).setCell ⟨p, 1, none⟩ b1).setCell ⟨p, 2, none⟩ b2).setCell ⟨p, 3, none⟩ b3).setCell ⟨p, 4, none⟩ b4).setCell ⟨p, 5, none⟩ b5).setCell ⟨p, 6, none⟩ b6).setCell ⟨p, 7, none⟩ b7).setCell ⟨p, 8, none⟩ b8).setCell ⟨p, 9, none⟩ b9).setCell ⟨p, 10, none⟩ b10).heap.size = w2.heap.size := by simp
  generalize (((((((((((w2.setCell ⟨p, 0, none⟩ b0).setCell ⟨p, 1, none⟩ b1).setCell ⟨p, 2, none⟩ b2).setCell ⟨p, 3, none⟩ b3).setCell ⟨p, 4, none⟩ b4).setCell ⟨p, 5, none⟩ b5).setCell ⟨p, 6, none⟩ b6).setCell ⟨p, 7, none⟩ b7).setCell ⟨p, 8, none⟩ b8).setCell ⟨p, 9, none⟩ b9).setCell ⟨p, 10, none⟩ b10) = W at *
  have g1 : ((W.setCell ⟨p + 1, 0, none⟩ x').setCell ⟨p + 1, 1, none⟩ y').heap[p + 1]? = some (.cells #[x', y'] t2 (0, 0)) := heap_setCell_same _ (p + 1) 1 _ _ y' (heap_setCell_same _ (p + 1) 0 _ _ x' h2)
  have g2 : ∀ c, c ≠ p + 1 → ((W.setCell ⟨p + 1, 0, none⟩ x').setCell ⟨p + 1, 1, none⟩ y').heap[c]? = W.heap[c]? := fun c hc => (Below.heap_setCell _ _ _ _ hc).trans (Below.heap_setCell _ _ _ _ hc)
  have g3 : Below B w ((W.setCell ⟨p + 1, 0, none⟩ x').setCell ⟨p + 1, 1, none⟩ y') := (h3.setCell (p := ⟨p + 1, 0, none⟩) (by show B ≤ p + 1; omega) _).setCell (p := ⟨p + 1, 1, none⟩) (by show B ≤ p + 1; omega) _
  have gz : ((W.setCell ⟨p + 1, 0, none⟩ x').setCell ⟨p + 1, 1, none⟩ y').heap.size = w2.heap.size := by simp [hz]
  generalize ((W.setCell ⟨p + 1, 0, none⟩ x').setCell ⟨p + 1, 1, none⟩ y') = X at *
  have l1 : p + 1 < X.heap.size := lt_of_block g1
  have s5 := h5.size
  have sb := hb.size
  refine ⟨(h5.block p (by omega)).trans ((g2 p (by omega)).trans h1), (h5.block _ l1).trans g1, ⟨h5.os.trans g3.os, h5.tape.trans g3.tape, h5.output.trans g3.output, by have := g3.size; omega, fun k hk => (h5.block k ?_).trans (g3.block k hk)⟩, fun c hc hn hn2 => (h5.block c (by omega)).trans ((g2 c hn2).trans (h4 c hn)), by omega⟩
  omega
set_option maxRecDepth 100000 in
set_option maxHeartbeats 6400000 in
theorem decodeM_any (s : ByteArray) (hs2 : s.size ≤ 9223372036854775807) (w : World) (hF : Flds w) : Calls Tryd.prog 14 #[.string s] w fun e w' => DcO s e w' ∧ Below w.heap.size w w' := by
  have hh : ((w.alloc (.cells #[.int .i64 0, .int .i64 0, .int .i64 0, .int .i64 0, .int .i64 0, .int .i64 0, .int .i64 0, .int .i64 0, .slice none 0 0, .slice none 0 0, .slice none 0 0] 26)).alloc (.cells #[.int .i64 0, .int .i64 0] 35)).heap[w.heap.size]? = some (.cells #[.int .i64 0, .int .i64 0, .int .i64 0, .int .i64 0, .int .i64 0, .int .i64 0, .int .i64 0, .int .i64 0, .slice none 0 0, .slice none 0 0, .slice none 0 0] 26) ∧ ((w.alloc (.cells #[.int .i64 0, .int .i64 0, .int .i64 0, .int .i64 0, .int .i64 0, .int .i64 0, .int .i64 0, .int .i64 0, .slice none 0 0, .slice none 0 0, .slice none 0 0] 26)).alloc (.cells #[.int .i64 0, .int .i64 0] 35)).heap[w.heap.size + 1]? = some (.cells #[.int .i64 0, .int .i64 0] 35) ∧ Below w.heap.size w ((w.alloc (.cells #[.int .i64 0, .int .i64 0, .int .i64 0, .int .i64 0, .int .i64 0, .int .i64 0, .int .i64 0, .int .i64 0, .slice none 0 0, .slice none 0 0, .slice none 0 0] 26)).alloc (.cells #[.int .i64 0, .int .i64 0] 35)) := by
    refine ⟨?_, ?_, ((Below.refl _ _).alloc (Nat.le_refl _) _).alloc (by simp) _⟩
    · rw [Below.heap_alloc _ _ _ (by simp), heap_top]
    · have := heap_top (w.alloc (.cells #[.int .i64 0, .int .i64 0, .int .i64 0, .int .i64 0, .int .i64 0, .int .i64 0, .int .i64 0, .int .i64 0, .slice none 0 0, .slice none 0 0, .slice none 0 0] 26)) (.cells #[.int .i64 0, .int .i64 0] 35)
      rw [World.size_alloc] at this
      exact this
  have HR0 := Lib.hid hh.1
  have HE0 := Lib.hid hh.2.1
  have HB0 := Lib.hid hh.2.2
  have hsz0 : w.heap.size + 1 < ((w.alloc (.cells #[.int .i64 0, .int .i64 0, .int .i64 0, .int .i64 0, .int .i64 0, .int .i64 0, .int .i64 0, .int .i64 0, .slice none 0 0, .slice none 0 0, .slice none 0 0] 26)).alloc (.cells #[.int .i64 0, .int .i64 0] 35)).heap.size := by simp
  have HC := Lib.hid (codeDecode_any s hs2 ((w.alloc (.cells #[.int .i64 0, .int .i64 0, .int .i64 0, .int .i64 0, .int .i64 0, .int .i64 0, .int .i64 0, .int .i64 0, .slice none 0 0, .slice none 0 0, .slice none 0 0] 26)).alloc (.cells #[.int .i64 0, .int .i64 0] 35)))
  have HFL := Lib.hid (fun W (hW : Below w.heap.size w W) => hF.on hW (Nat.le_refl _))
  clear hh hF
  generalize hW1 : ((w.alloc (.cells #[.int .i64 0, .int .i64 0, .int .i64 0, .int .i64 0, .int .i64 0, .int .i64 0, .int .i64 0, .int .i64 0, .slice none 0 0, .slice none 0 0, .slice none 0 0] 26)).alloc (.cells #[.int .i64 0, .int .i64 0] 35)) = W1 at *
  go_enter Tryd.func14, Tryd.ntmps14
  go_wp2_with fail
  refine HC.out.mono ?_
  rintro e w2 ⟨⟨t, a, c, rfl, hp⟩, hb2⟩
  have HP := Lib.hid hp
  have HB2 := Lib.hid (HB0.out.trans (hb2.mono HB0.out.size))
  have hr2 := (hb2.block _ (by omega)).trans HR0.out
  have he2 := (hb2.block _ hsz0).trans HE0.out
  have hsz2 : w.heap.size + 1 < w2.heap.size := lt_of_block he2
  have hsz3 : w.heap.size < w2.heap.size := by omega
  have HR2 := Lib.hid hr2
  have HE2 := Lib.hid he2
  clear hp hb2 HC HR0 HE0 HB0 hW1 hsz0
  by_cases hc : c = 0
  · subst hc
    have hq : a = 0 ∧ InF w2 8 t ∧ Okk 8 t ∧ s.data.toList = encF 8 t ∧ s.size ≤ 262144 := by
      rcases HP.out with ⟨_, h⟩ | ⟨h, _⟩
      · exact h
      · exact absurd rfl h
    obtain ⟨rfl, hi, hk, hby, hsz⟩ := hq
    have HQ := Lib.hid (And.intro hk (And.intro hby hsz))
    have HI := Lib.hid hi
    clear hi hk hby hsz HP
    have hbx : Below w2.heap.size w2 ((w2.alloc (.cells #[.int .i64 t.k, .int .u64 t.n, .string t.s, .slice t.a t.l.length t.cap] 54)).alloc (.cells #[.int .i64 0, .int .i64 0] 35)) := ((Below.refl _ _).alloc (Nat.le_refl _) _).alloc (by simp) _
    have hsx : w2.heap.size < ((w2.alloc (.cells #[.int .i64 t.k, .int .u64 t.n, .string t.s, .slice t.a t.l.length t.cap] 54)).alloc (.cells #[.int .i64 0, .int .i64 0] 35)).heap.size := by simp; omega
    have HM := Lib.hid (messageOf_any t ((w2.alloc (.cells #[.int .i64 t.k, .int .u64 t.n, .string t.s, .slice t.a t.l.length t.cap] 54)).alloc (.cells #[.int .i64 0, .int .i64 0] 35)) (HFL.out _ (HB2.out.trans (hbx.mono HB2.out.size))) HQ.out.1 (HI.out.on hbx))
    have HBX := Lib.hid hbx
    unfold T.val at HM
    clear hr2 he2 HFL HI hbx
    go_wp2_with fail
    generalize hWX : ((w2.alloc (.cells #[.int .i64 t.k, .int .u64 t.n, .string t.s, .slice t.a t.l.length t.cap] 54)).alloc (.cells #[.int .i64 0, .int .i64 0] 35)) = WX at *
    refine HM.out.mono ?_
    rintro e w3 ⟨⟨hy, hn⟩, hb3⟩
    have hr3 := (hb3.block _ (by omega)).trans ((HBX.out.block _ hsz3).trans HR2.out)
    have he3 := (hb3.block _ (by omega)).trans ((HBX.out.block _ hsz2).trans HE2.out)
    have HR3 := Lib.hid hr3
    have HE3 := Lib.hid he3
    have HB3 : Hid (Below w.heap.size w w3) := Lib.hid (HB2.out.trans ((bstep HBX.out hb3).mono HB2.out.size))
    have hsz4 : w.heap.size + 1 < w3.heap.size := lt_of_block he3
    have hsz5 : w.heap.size < w3.heap.size := by omega
    have hszx : w.heap.size + 1 < WX.heap.size := by omega
    obtain ⟨z0, z1, z2, z3, z4, z5, z6, z7, z8, z9, z10⟩ := cells11 hr3
    obtain ⟨f0, f1, f2, f3, f4, f5, f6, f7, f8, f9, f10⟩ := cells11f hr3
    obtain ⟨⟨e0, e1⟩, ef0, ef1⟩ := two_cells he3
    clear HM HBX hb3 hr3 he3 HR2 HE2 HB2 hWX
    by_cases hO : okM t = true
    · obtain ⟨q, rfl, hL⟩ := hy hO
      have HL := Lib.hid hL
      have HRM := Lib.hid (rm_ok HQ.out.1 hO)
      have HBY : Hid (bytesM (RM t) = s.data.toList) := Lib.hid (by
        rw [HQ.out.2.1]
        exact (encF_sm 8 HRM.out.2.2.2).symm)
      clear hy hn hL hO
      generalize RM t = M at *
      unfold msC
      go_wp2_with fail
      obtain ⟨g1, g2, g3, g4, g5⟩ := fin14 (w := w) (w2 := w3) (B := w.heap.size) (p := w.heap.size) (b0 := (.int .i64 M.kd)) (b1 := (.int .i64 M.ep)) (b2 := (.int .i64 M.lv)) (b3 := (.int .i64 M.ce)) (b4 := (.int .i64 M.qu)) (b5 := (.int .i64 M.ve)) (b6 := (.int .i64 M.ot)) (b7 := (.int .i64 M.bk)) (b8 := (.slice q.wa M.ws.length q.wc)) (b9 := (.slice q.ma M.ms.length q.mc)) (b10 := (.slice q.da M.ds.length q.dc)) (x' := (.int .i64 0)) (y' := (.int .i64 0)) (W5 := (((((((((((((((w3.setCell ⟨w.heap.size, 0, none⟩ (.int .i64 M.kd)).setCell ⟨w.heap.size, 1, none⟩ (.int .i64 M.ep)).setCell ⟨w.heap.size, 2, none⟩ (.int .i64 M.lv)).setCell ⟨w.heap.size, 3, none⟩ (.int .i64 M.ce)).setCell ⟨w.heap.size, 4, none⟩ (.int .i64 M.qu)).setCell ⟨w.heap.size, 5, none⟩ (.int .i64 M.ve)).setCell ⟨w.heap.size, 6, none⟩ (.int .i64 M.ot)).setCell ⟨w.heap.size, 7, none⟩ (.int .i64 M.bk)).setCell ⟨w.heap.size, 8, none⟩ (.slice q.wa M.ws.length q.wc)).setCell ⟨w.heap.size, 9, none⟩ (.slice q.ma M.ms.length q.mc)).setCell ⟨w.heap.size, 10, none⟩ (.slice q.da M.ds.length q.dc)).setCell ⟨w.heap.size + 1, 0, none⟩ (.int .i64 0)).setCell ⟨w.heap.size + 1, 1, none⟩ (.int .i64 0))).alloc (.cells #[.int .i64 M.kd, .int .i64 M.ep, .int .i64 M.lv, .int .i64 M.ce, .int .i64 M.qu, .int .i64 M.ve, .int .i64 M.ot, .int .i64 M.bk, .slice q.wa M.ws.length q.wc, .slice q.ma M.ms.length q.mc, .slice q.da M.ds.length q.dc] 26))) (Nat.le_refl _) HR3.out HE3.out HB3.out ((Below.refl _ _).alloc (Nat.le_refl _) _)
      generalize (((((((((((((((w3.setCell ⟨w.heap.size, 0, none⟩ (.int .i64 M.kd)).setCell ⟨w.heap.size, 1, none⟩ (.int .i64 M.ep)).setCell ⟨w.heap.size, 2, none⟩ (.int .i64 M.lv)).setCell ⟨w.heap.size, 3, none⟩ (.int .i64 M.ce)).setCell ⟨w.heap.size, 4, none⟩ (.int .i64 M.qu)).setCell ⟨w.heap.size, 5, none⟩ (.int .i64 M.ve)).setCell ⟨w.heap.size, 6, none⟩ (.int .i64 M.ot)).setCell ⟨w.heap.size, 7, none⟩ (.int .i64 M.bk)).setCell ⟨w.heap.size, 8, none⟩ (.slice q.wa M.ws.length q.wc)).setCell ⟨w.heap.size, 9, none⟩ (.slice q.ma M.ms.length q.mc)).setCell ⟨w.heap.size, 10, none⟩ (.slice q.da M.ds.length q.dc)).setCell ⟨w.heap.size + 1, 0, none⟩ (.int .i64 0)).setCell ⟨w.heap.size + 1, 1, none⟩ (.int .i64 0))).alloc (.cells #[.int .i64 M.kd, .int .i64 M.ep, .int .i64 M.lv, .int .i64 M.ce, .int .i64 M.qu, .int .i64 M.ve, .int .i64 M.ot, .int .i64 M.bk, .slice q.wa M.ws.length q.wc, .slice q.ma M.ms.length q.mc, .slice q.da M.ds.length q.dc] 26)) = W5 at *
      obtain ⟨y0, y1, y2, y3, y4, y5, y6, y7, y8, y9, y10⟩ := cells11 g1
      obtain ⟨⟨u0, u1⟩, _⟩ := two_cells g2
      have hMI : MsIn W5 M q := (HL.out.same (B' := 0) (fun c hc hc2 => ⟨Nat.zero_le _, by omega, g4 c hc2 (by omega) (by omega)⟩)).ins
      exact bodyPost_ret (v := .tuple #[.agg (msC M q), .agg #[.int .i64 0, .int .i64 0]]) (by simp [results, Tryd.results14, go_sem, y0, y1, y2, y3, y4, y5, y6, y7, y8, y9, y10, u0, u1, msC]) rfl ⟨Or.inr ⟨M, q, rfl, hMI, HRM.out.1, HRM.out.2.1, HRM.out.2.2.1, HBY.out, HQ.out.2.2⟩, g3⟩
    · obtain rfl := hn (by simpa using hO)
      have HN : Hid (∀ u, Okk 8 u → (encF 8 u).length ≤ 262144 → encF 8 u = s.data.toList → (0 : Int) = 0 ∧ (200 : Int) = 200 ∧ okM u = false) := Lib.hid (fun u h1 _ h3 => ⟨rfl, rfl, by
        have hs : Sm 8 t u := (encF_inj 8 t u [] [] HQ.out.1 h1 (by rw [List.append_nil, List.append_nil, ← HQ.out.2.1]; exact h3.symm)).1
        cases hu : okM u with
        | false => rfl
        | true =>
          obtain ⟨k1, k2, k3, k4⟩ := rm_ok h1 hu
          exact absurd (rm_back HQ.out.1 (hs.trans k4) k1 k3).1 hO⟩)
      clear hy hn hO
      unfold noV msC mz adz
      go_wp2_with fail
      obtain ⟨g1, g2, g3, g4, g5⟩ := fin14 (w := w) (w2 := w3) (B := w.heap.size) (p := w.heap.size) (b0 := (.int .i64 0)) (b1 := (.int .i64 0)) (b2 := (.int .i64 0)) (b3 := (.int .i64 0)) (b4 := (.int .i64 0)) (b5 := (.int .i64 0)) (b6 := (.int .i64 0)) (b7 := (.int .i64 0)) (b8 := (.slice none 0 0)) (b9 := (.slice none 0 0)) (b10 := (.slice none 0 0)) (x' := (.int .i64 0)) (y' := (.int .i64 200)) (W5 := (((((((((((((((w3.setCell ⟨w.heap.size, 0, none⟩ (.int .i64 0)).setCell ⟨w.heap.size, 1, none⟩ (.int .i64 0)).setCell ⟨w.heap.size, 2, none⟩ (.int .i64 0)).setCell ⟨w.heap.size, 3, none⟩ (.int .i64 0)).setCell ⟨w.heap.size, 4, none⟩ (.int .i64 0)).setCell ⟨w.heap.size, 5, none⟩ (.int .i64 0)).setCell ⟨w.heap.size, 6, none⟩ (.int .i64 0)).setCell ⟨w.heap.size, 7, none⟩ (.int .i64 0)).setCell ⟨w.heap.size, 8, none⟩ (.slice none 0 0)).setCell ⟨w.heap.size, 9, none⟩ (.slice none 0 0)).setCell ⟨w.heap.size, 10, none⟩ (.slice none 0 0)).setCell ⟨w.heap.size + 1, 0, none⟩ (.int .i64 0)).setCell ⟨w.heap.size + 1, 1, none⟩ (.int .i64 200))).alloc (.cells #[.int .i64 0, .int .i64 0, .int .i64 0, .int .i64 0, .int .i64 0, .int .i64 0, .int .i64 0, .int .i64 0, .slice none 0 0, .slice none 0 0, .slice none 0 0] 26))) (Nat.le_refl _) HR3.out HE3.out HB3.out ((Below.refl _ _).alloc (Nat.le_refl _) _)
      generalize (((((((((((((((w3.setCell ⟨w.heap.size, 0, none⟩ (.int .i64 0)).setCell ⟨w.heap.size, 1, none⟩ (.int .i64 0)).setCell ⟨w.heap.size, 2, none⟩ (.int .i64 0)).setCell ⟨w.heap.size, 3, none⟩ (.int .i64 0)).setCell ⟨w.heap.size, 4, none⟩ (.int .i64 0)).setCell ⟨w.heap.size, 5, none⟩ (.int .i64 0)).setCell ⟨w.heap.size, 6, none⟩ (.int .i64 0)).setCell ⟨w.heap.size, 7, none⟩ (.int .i64 0)).setCell ⟨w.heap.size, 8, none⟩ (.slice none 0 0)).setCell ⟨w.heap.size, 9, none⟩ (.slice none 0 0)).setCell ⟨w.heap.size, 10, none⟩ (.slice none 0 0)).setCell ⟨w.heap.size + 1, 0, none⟩ (.int .i64 0)).setCell ⟨w.heap.size + 1, 1, none⟩ (.int .i64 200))).alloc (.cells #[.int .i64 0, .int .i64 0, .int .i64 0, .int .i64 0, .int .i64 0, .int .i64 0, .int .i64 0, .int .i64 0, .slice none 0 0, .slice none 0 0, .slice none 0 0] 26)) = W5 at *
      obtain ⟨y0, y1, y2, y3, y4, y5, y6, y7, y8, y9, y10⟩ := cells11 g1
      obtain ⟨⟨u0, u1⟩, _⟩ := two_cells g2
      exact bodyPost_ret (v := .tuple #[.agg (msC (mz 0) adz), .agg #[.int .i64 0, .int .i64 200]]) (by simp [results, Tryd.results14, go_sem, y0, y1, y2, y3, y4, y5, y6, y7, y8, y9, y10, u0, u1, msC, mz, adz]) rfl ⟨Or.inl ⟨0, 200, by decide, rfl, fun u h1 h2 h3 => ⟨rfl, rfl, (HN.out u h1 h2 h3).2.2⟩⟩, g3⟩
  · have hcb : (c != 0) = true := by simp [hc]
    have HN : Hid (∀ t, Okk 8 t → (encF 8 t).length ≤ 262144 → encF 8 t = s.data.toList → a = 0 ∧ c = 200 ∧ okM t = false) := Lib.hid (by
      rcases HP.out with ⟨h, _⟩ | ⟨_, h⟩
      · exact absurd h hc
      · exact fun t h1 h2 h3 => absurd h3 (h t h1 h2))
    obtain ⟨z0, z1, z2, z3, z4, z5, z6, z7, z8, z9, z10⟩ := cells11 hr2
    obtain ⟨f0, f1, f2, f3, f4, f5, f6, f7, f8, f9, f10⟩ := cells11f hr2
    obtain ⟨⟨e0, e1⟩, ef0, ef1⟩ := two_cells he2
    clear HP hr2 he2 HFL
    go_wp2_with fail
    go_region
    all_goals
      go_wp2_with fail
      obtain ⟨g1, g2, g3, g4, g5⟩ := fin14 (w := w) (w2 := w2) (B := w.heap.size) (p := w.heap.size) (b0 := (.int .i64 0)) (b1 := (.int .i64 0)) (b2 := (.int .i64 0)) (b3 := (.int .i64 0)) (b4 := (.int .i64 0)) (b5 := (.int .i64 0)) (b6 := (.int .i64 0)) (b7 := (.int .i64 0)) (b8 := (.slice none 0 0)) (b9 := (.slice none 0 0)) (b10 := (.slice none 0 0)) (x' := (.int .i64 a)) (y' := (.int .i64 c)) (W5 := ((((((((((((((((w2.setCell ⟨w.heap.size, 0, none⟩ (.int .i64 0)).setCell ⟨w.heap.size, 1, none⟩ (.int .i64 0)).setCell ⟨w.heap.size, 2, none⟩ (.int .i64 0)).setCell ⟨w.heap.size, 3, none⟩ (.int .i64 0)).setCell ⟨w.heap.size, 4, none⟩ (.int .i64 0)).setCell ⟨w.heap.size, 5, none⟩ (.int .i64 0)).setCell ⟨w.heap.size, 6, none⟩ (.int .i64 0)).setCell ⟨w.heap.size, 7, none⟩ (.int .i64 0)).setCell ⟨w.heap.size, 8, none⟩ (.slice none 0 0)).setCell ⟨w.heap.size, 9, none⟩ (.slice none 0 0)).setCell ⟨w.heap.size, 10, none⟩ (.slice none 0 0)).setCell ⟨w.heap.size + 1, 0, none⟩ (.int .i64 a)).setCell ⟨w.heap.size + 1, 1, none⟩ (.int .i64 c))).alloc (.cells #[.int .i64 t.k, .int .u64 t.n, .string t.s, .slice t.a t.l.length t.cap] 54)).alloc (.cells #[.int .i64 a, .int .i64 c] 35)).drew) (Nat.le_refl _) HR2.out HE2.out HB2.out (((Below.refl _ _).alloc (Nat.le_refl _) _).alloc (by rw [World.size_alloc]; omega) _).drew
      generalize ((((((((((((((((w2.setCell ⟨w.heap.size, 0, none⟩ (.int .i64 0)).setCell ⟨w.heap.size, 1, none⟩ (.int .i64 0)).setCell ⟨w.heap.size, 2, none⟩ (.int .i64 0)).setCell ⟨w.heap.size, 3, none⟩ (.int .i64 0)).setCell ⟨w.heap.size, 4, none⟩ (.int .i64 0)).setCell ⟨w.heap.size, 5, none⟩ (.int .i64 0)).setCell ⟨w.heap.size, 6, none⟩ (.int .i64 0)).setCell ⟨w.heap.size, 7, none⟩ (.int .i64 0)).setCell ⟨w.heap.size, 8, none⟩ (.slice none 0 0)).setCell ⟨w.heap.size, 9, none⟩ (.slice none 0 0)).setCell ⟨w.heap.size, 10, none⟩ (.slice none 0 0)).setCell ⟨w.heap.size + 1, 0, none⟩ (.int .i64 a)).setCell ⟨w.heap.size + 1, 1, none⟩ (.int .i64 c))).alloc (.cells #[.int .i64 t.k, .int .u64 t.n, .string t.s, .slice t.a t.l.length t.cap] 54)).alloc (.cells #[.int .i64 a, .int .i64 c] 35)).drew = W5 at *
      obtain ⟨y0, y1, y2, y3, y4, y5, y6, y7, y8, y9, y10⟩ := cells11 g1
      obtain ⟨⟨u0, u1⟩, _⟩ := two_cells g2
      exact bodyPost_ret (v := .tuple #[.agg (msC (mz 0) adz), .agg #[.int .i64 a, .int .i64 c]]) (by simp [results, Tryd.results14, go_sem, y0, y1, y2, y3, y4, y5, y6, y7, y8, y9, y10, u0, u1, msC, mz, adz]) rfl ⟨Or.inl ⟨a, c, hc, rfl, HN.out⟩, g3⟩
end Go.Proofs.YtchmiiclogmheaaDoor.C2
