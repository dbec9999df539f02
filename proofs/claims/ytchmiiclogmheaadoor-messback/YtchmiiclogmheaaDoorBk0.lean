/-
  What is written of a message is read as it; what is read is written as just those bytes.
-/
import Derived.Test.YtchmiiclogmheaaDoorUn0
namespace Go.Proofs.YtchmiiclogmheaaDoor.C2
open Go.RowKit
theorem two_box (w : World) (X F : Array Value) (t u : TypeId) : Below w.heap.size w ((w.alloc (.cells X t)).alloc (.cells F u)) ∧ ((w.alloc (.cells X t)).alloc (.cells F u)).heap[w.heap.size]? = some (.cells X t) ∧ ((w.alloc (.cells X t)).alloc (.cells F u)).heap[w.heap.size + 1]? = some (.cells F u) := by
  refine ⟨((Below.refl _ _).alloc (Nat.le_refl _) _).alloc (by simp) _, (Below.heap_alloc _ _ _ (by simp)).trans (heap_top w _), ?_⟩
  have := heap_top (w.alloc (.cells X t)) (.cells F u)
  rw [World.size_alloc] at this
  exact this
set_option maxRecDepth 100000 in
set_option maxHeartbeats 6400000 in
theorem law_back (m : MM) (p : Ad) (b : ByteArray) (hb : b.size ≤ 9223372036854775807) (w : World) (hF : Flds w) (hm : MsIn w m p) (hr : Rng m) (fm : Fit m) :
    Calls Tryd.prog 6 #[.agg (msC m p), .string b] w fun e w' => e = .returned (.bool true) ∧ Below w.heap.size w w' := by
  have HW := Lib.hid (fun W (hW : Below w.heap.size w W) => works_any W (hF.on hW (Nat.le_refl _)))
  have HE := Lib.hid (fun W (hW : Below w.heap.size w W) => encodeM_any m p W (hF.on hW (Nat.le_refl _)) (hm.on hW) hr fm.ml)
  have HSM := Lib.hid (fun W (q : Ad) (hW : Below w.heap.size w W) (hq : MsIn W m q) => sameMsg_any m m q p W hq (hm.on hW) fm fm)
  have HFL := Lib.hid (fun W (hW : Below w.heap.size w W) => hF.on hW (Nat.le_refl _))
  have HDB := Lib.hid (fun W (hW : Below w.heap.size w W) => decodeM_any b hb W (hF.on hW (Nat.le_refl _)))
  rw [sameM_iff.2 rfl] at HSM
  have hb0 : Below w.heap.size w (w.alloc (.cells #[.int .i64 m.kd, .int .i64 m.ep, .int .i64 m.lv, .int .i64 m.ce, .int .i64 m.qu, .int .i64 m.ve, .int .i64 m.ot, .int .i64 m.bk, .slice p.wa m.ws.length p.wc, .slice p.ma m.ms.length p.mc, .slice p.da m.ds.length p.dc] 26)) := (Below.refl _ _).alloc (Nat.le_refl _) _
  have HB0 := Lib.hid hb0
  have HX0 := Lib.hid (heap_top w (.cells #[.int .i64 m.kd, .int .i64 m.ep, .int .i64 m.lv, .int .i64 m.ce, .int .i64 m.qu, .int .i64 m.ve, .int .i64 m.ot, .int .i64 m.bk, .slice p.wa m.ws.length p.wc, .slice p.ma m.ms.length p.mc, .slice p.da m.ds.length p.dc] 26))
  have HRM := Lib.hid hr
  clear hb0 hF hm hr fm hb
  unfold encV at *
  unfold msC at HE HSM ⊢
  by_cases hE : (mE m).2 = 0
  · obtain ⟨a1, a2, a3, a4⟩ := me_ok hE
    rw [a4] at HE
    obtain ⟨SA, HSA⟩ := named (⟨(bytesM m).toArray⟩ : ByteArray)
    have hsa : bytesM m = SA.data.toList := by rw [← HSA.out]
    simp only [HSA.out] at HE
    have h9 : SA.data.toList.length = SA.size := by rw [Array.length_toList]; rfl
    have hsz : SA.size ≤ 262144 := by rw [← h9, ← hsa]; exact a3
    have HGA := Lib.hid (And.intro a1 (And.intro a2 (And.intro a3 (And.intro hsa hsz))))
    clear a1 a2 a3 a4 hE hsa hsz HSA h9
    go_enter Tryd.func6, Tryd.ntmps6
    go_wp2_with fail
    refine (HW.out _ HB0.out).mono ?_
    rintro e w1 ⟨rfl, hb1⟩
    have HB1 := Lib.hid (HB0.out.trans (hb1.mono HB0.out.size))
    have hx1 := (hb1.block _ (lt_of_block HX0.out)).trans HX0.out
    have HX1 := Lib.hid hx1
    obtain ⟨z0, z1, z2, z3, z4, z5, z6, z7, z8, z9, z10⟩ := cells11 hx1
    clear hb1 hx1 HW HX0 HB0
    go_wp2_with fail
    refine (HE.out _ HB1.out).mono ?_
    rintro e w2 ⟨rfl, hb2⟩
    have HB2 := Lib.hid (HB1.out.trans (hb2.mono HB1.out.size))
    have HX2 := Lib.hid ((hb2.block _ (lt_of_block HX1.out)).trans HX1.out)
    clear z0 z1 z2 z3 z4 z5 z6 z7 z8 z9 z10 hb2 HE HX1 HB1
    have HD := Lib.hid (decodeM_any SA (by have := HGA.out.2.2.2.2; omega) w2 (HFL.out _ HB2.out))
    go_wp2_with fail
    refine HD.out.mono ?_
    rintro e w3 ⟨hd, hb3⟩
    obtain ⟨q, rfl, hin⟩ := hd.msg HGA.out.1 HGA.out.2.1 HRM.out HGA.out.2.2.1 HGA.out.2.2.2.1
    have HI := Lib.hid hin
    have HB3 := Lib.hid (HB2.out.trans (hb3.mono HB2.out.size))
    have HX3 := Lib.hid ((hb3.block _ (lt_of_block HX2.out)).trans HX2.out)
    clear hd hin hb3 HD HX2 HB2
    unfold msC
    go_wp2_with fail
    obtain ⟨hb4, hx4, hf4⟩ := two_box w3 #[.int .i64 m.kd, .int .i64 m.ep, .int .i64 m.lv, .int .i64 m.ce, .int .i64 m.qu, .int .i64 m.ve, .int .i64 m.ot, .int .i64 m.bk, .slice q.wa m.ws.length q.wc, .slice q.ma m.ms.length q.mc, .slice q.da m.ds.length q.dc] #[.int .i64 0, .int .i64 0] 26 35
    have HB4 := Lib.hid (HB3.out.trans (hb4.mono HB3.out.size))
    have HX4 := Lib.hid ((hb4.block _ (lt_of_block HX3.out)).trans HX3.out)
    have HI4 := Lib.hid (HI.out.on hb4)
    have HA4 := Lib.hid hx4
    have HF4 := Lib.hid hf4
    clear hb4 hx4 hf4 HX3 HI HB3
    generalize ((w3.alloc (.cells #[.int .i64 m.kd, .int .i64 m.ep, .int .i64 m.lv, .int .i64 m.ce, .int .i64 m.qu, .int .i64 m.ve, .int .i64 m.ot, .int .i64 m.bk, .slice q.wa m.ws.length q.wc, .slice q.ma m.ms.length q.mc, .slice q.da m.ds.length q.dc] 26)).alloc (.cells #[.int .i64 0, .int .i64 0] 35)) = W4 at *
    generalize w3.heap.size = xb at *
    refine (codeDecode_any SA (by have := HGA.out.2.2.2.2; omega) W4).mono ?_
    rintro e w5 ⟨⟨t, a, c, rfl, hor⟩, hb5⟩
    obtain ⟨rfl, rfl⟩ : c = 0 ∧ a = 0 := by
      rcases hor with ⟨h1, h2, _⟩ | ⟨_, h⟩
      · exact ⟨h1, h2⟩
      · exact absurd HGA.out.2.2.2.1 (h (pT m) (okk_msg (fine_of HRM.out HGA.out.2.1 HGA.out.1) (pT_is m)) HGA.out.2.2.1)
    have HB5 := Lib.hid (HB4.out.trans (hb5.mono HB4.out.size))
    have HX5 := Lib.hid ((hb5.block _ (lt_of_block HX4.out)).trans HX4.out)
    have HA5 := Lib.hid ((hb5.block _ (lt_of_block HA4.out)).trans HA4.out)
    have HF5 := Lib.hid ((hb5.block _ (lt_of_block HF4.out)).trans HF4.out)
    have HI5 := Lib.hid (HI4.out.on hb5)
    clear hor hb5 HX4 HA4 HF4 HI4 HB4
    obtain ⟨hb6, hx6, hf6⟩ := two_box w5 #[.int .i64 t.k, .int .u64 t.n, .string t.s, .slice t.a t.l.length t.cap] #[.int .i64 0, .int .i64 0] 54 35
    have HB6 := Lib.hid (HB5.out.trans (hb6.mono HB5.out.size))
    have hm6 := (hb6.block _ (lt_of_block HX5.out)).trans HX5.out
    have ha6 := (hb6.block _ (lt_of_block HA5.out)).trans HA5.out
    have hg6 := (hb6.block _ (lt_of_block HF5.out)).trans HF5.out
    have HS6 := Lib.hid (HSM.out _ q HB6.out (HI5.out.on hb6))
    obtain ⟨m0, m1, m2, m3, m4, m5, m6, m7, m8, m9, m10⟩ := cells11 hm6
    obtain ⟨a0, a1, a2, a3, a4, a5, a6, a7, a8, a9, a10⟩ := cells11 ha6
    obtain ⟨⟨g0, g1⟩, _⟩ := two_cells hg6
    obtain ⟨⟨f0, f1⟩, _⟩ := two_cells hf6
    clear hb6 hx6 hf6 hm6 ha6 hg6 HX5 HA5 HF5 HI5 HB5 HSM HGA HRM
    go_wp2_with fail
    refine HS6.out.mono ?_
    rintro e w7 ⟨rfl, hb7⟩
    have HB7 := Lib.hid (HB6.out.trans (hb7.mono HB6.out.size))
    clear hb7 HS6 HB6 m0 m1 m2 m3 m4 m5 m6 m7 m8 m9 m10 a0 a1 a2 a3 a4 a5 a6 a7 a8 a9 a10 g0 g1 f0 f1
    go_wp2_with fail
    refine (HDB.out _ HB7.out).mono ?_
    rintro e w8 ⟨hd, hb8⟩
    have HB8 := Lib.hid (HB7.out.trans (hb8.mono HB7.out.size))
    clear hb8 HDB HB7 
    rcases hd with ⟨a, c, hc, rfl, _⟩ | ⟨M, r, rfl, h1, h2, h3, h4, h5, h6⟩
    · have hcc : (c == 0) = false := beq_eq_false_iff_ne.2 hc
      obtain ⟨hb9, hx9, hf9⟩ := two_box w8 #[.int .i64 0, .int .i64 0, .int .i64 0, .int .i64 0, .int .i64 0, .int .i64 0, .int .i64 0, .int .i64 0, .slice none 0 0, .slice none 0 0, .slice none 0 0] #[.int .i64 a, .int .i64 c] 26 35
      have HB9 := Lib.hid (HB8.out.trans (hb9.mono HB8.out.size))
      obtain ⟨x0, x1, x2, x3, x4, x5, x6, x7, x8, x9, x10⟩ := cells11 hx9
      obtain ⟨⟨f0, f1⟩, _⟩ := two_cells hf9
      clear hc hb9 hx9 hf9 HFL
      unfold msC mz adz
      go_wp2_with fail
      go_ret
      exact ⟨rfl, HB9.out⟩
    · have hEq : mE M = (bytesM M, 0) := by
        unfold mE
        rw [h3, h2, if_neg (by decide), if_neg (by decide), if_neg]
        rw [h5, Array.length_toList]
        show ¬ 262144 < b.size
        omega
      have hbs : (⟨(bytesM M).toArray⟩ : ByteArray) = b := ByteArray.ext (by show (bytesM M).toArray = b.data; rw [h5])
      have hml := (fine_of h4 h3 h2).ok.ml
      obtain ⟨hb9, hx9, hf9⟩ := two_box w8 #[.int .i64 M.kd, .int .i64 M.ep, .int .i64 M.lv, .int .i64 M.ce, .int .i64 M.qu, .int .i64 M.ve, .int .i64 M.ot, .int .i64 M.bk, .slice r.wa M.ws.length r.wc, .slice r.ma M.ms.length r.mc, .slice r.da M.ds.length r.dc] #[.int .i64 0, .int .i64 0] 26 35
      have HB9 := Lib.hid (HB8.out.trans (hb9.mono HB8.out.size))
      obtain ⟨x0, x1, x2, x3, x4, x5, x6, x7, x8, x9, x10⟩ := cells11 hx9
      obtain ⟨⟨f0, f1⟩, _⟩ := two_cells hf9
      have HEM := Lib.hid (encodeM_any M r _ (HFL.out _ HB9.out) (h1.on hb9) h4 (by omega))
      unfold encV at HEM
      rw [hEq] at HEM
      simp only [hbs] at HEM
      have hbb : (b.toList == b.toList) = true := by simp
      clear hb9 hx9 hf9 HFL hEq hbs hml h1 h2 h3 h4 h5 h6
      unfold msC at HEM ⊢
      go_wp2_with fail
      refine HEM.out.mono ?_
      rintro e w10 ⟨rfl, hb10⟩
      have HB10 := Lib.hid (HB9.out.trans (hb10.mono HB9.out.size))
      clear hb10 HEM HB9 x0 x1 x2 x3 x4 x5 x6 x7 x8 x9 x10 f0 f1
      go_wp2_with fail
      go_ret
      exact ⟨rfl, HB10.out⟩
  · have hE' : ((mE m).2 == 0) = false := beq_eq_false_iff_ne.2 hE
    have hY := me_no hE
    rw [hY] at HE
    generalize (mE m).2 = EA at *
    clear hE hY HSM HRM
    go_enter Tryd.func6, Tryd.ntmps6
    go_wp2_with fail
    refine (HW.out _ HB0.out).mono ?_
    rintro e w1 ⟨rfl, hb1⟩
    have HB1 := Lib.hid (HB0.out.trans (hb1.mono HB0.out.size))
    have hx1 := (hb1.block _ (lt_of_block HX0.out)).trans HX0.out
    have HX1 := Lib.hid hx1
    obtain ⟨z0, z1, z2, z3, z4, z5, z6, z7, z8, z9, z10⟩ := cells11 hx1
    clear hb1 hx1 HW HX0 HB0
    go_wp2_with fail
    refine (HE.out _ HB1.out).mono ?_
    rintro e w2 ⟨rfl, hb2⟩
    have HB2 := Lib.hid (HB1.out.trans (hb2.mono HB1.out.size))
    have HX2 := Lib.hid ((hb2.block _ (lt_of_block HX1.out)).trans HX1.out)
    clear z0 z1 z2 z3 z4 z5 z6 z7 z8 z9 z10 hb2 HE HX1 HB1
    go_wp2_with fail
    refine (HDB.out _ HB2.out).mono ?_
    rintro e w8 ⟨hd, hb8⟩
    have HB8 := Lib.hid (HB2.out.trans (hb8.mono HB2.out.size))
    clear hb8 HDB HB2 HX2
    rcases hd with ⟨a, c, hc, rfl, _⟩ | ⟨M, r, rfl, h1, h2, h3, h4, h5, h6⟩
    · have hcc : (c == 0) = false := beq_eq_false_iff_ne.2 hc
      obtain ⟨hb9, hx9, hf9⟩ := two_box w8 #[.int .i64 0, .int .i64 0, .int .i64 0, .int .i64 0, .int .i64 0, .int .i64 0, .int .i64 0, .int .i64 0, .slice none 0 0, .slice none 0 0, .slice none 0 0] #[.int .i64 a, .int .i64 c] 26 35
      have HB9 := Lib.hid (HB8.out.trans (hb9.mono HB8.out.size))
      obtain ⟨x0, x1, x2, x3, x4, x5, x6, x7, x8, x9, x10⟩ := cells11 hx9
      obtain ⟨⟨f0, f1⟩, _⟩ := two_cells hf9
      clear hc hb9 hx9 hf9 HFL
      unfold msC mz adz
      go_wp2_with fail
      go_ret
      exact ⟨rfl, HB9.out⟩
    · have hEq : mE M = (bytesM M, 0) := by
        unfold mE
        rw [h3, h2, if_neg (by decide), if_neg (by decide), if_neg]
        rw [h5, Array.length_toList]
        show ¬ 262144 < b.size
        omega
      have hbs : (⟨(bytesM M).toArray⟩ : ByteArray) = b := ByteArray.ext (by show (bytesM M).toArray = b.data; rw [h5])
      have hml := (fine_of h4 h3 h2).ok.ml
      obtain ⟨hb9, hx9, hf9⟩ := two_box w8 #[.int .i64 M.kd, .int .i64 M.ep, .int .i64 M.lv, .int .i64 M.ce, .int .i64 M.qu, .int .i64 M.ve, .int .i64 M.ot, .int .i64 M.bk, .slice r.wa M.ws.length r.wc, .slice r.ma M.ms.length r.mc, .slice r.da M.ds.length r.dc] #[.int .i64 0, .int .i64 0] 26 35
      have HB9 := Lib.hid (HB8.out.trans (hb9.mono HB8.out.size))
      obtain ⟨x0, x1, x2, x3, x4, x5, x6, x7, x8, x9, x10⟩ := cells11 hx9
      obtain ⟨⟨f0, f1⟩, _⟩ := two_cells hf9
      have HEM := Lib.hid (encodeM_any M r _ (HFL.out _ HB9.out) (h1.on hb9) h4 (by omega))
      unfold encV at HEM
      rw [hEq] at HEM
      simp only [hbs] at HEM
      have hbb : (b.toList == b.toList) = true := by simp
      clear hb9 hx9 hf9 HFL hEq hbs hml h1 h2 h3 h4 h5 h6
      unfold msC at HEM ⊢
      go_wp2_with fail
      refine HEM.out.mono ?_
      rintro e w10 ⟨rfl, hb10⟩
      have HB10 := Lib.hid (HB9.out.trans (hb10.mono HB9.out.size))
      clear hb10 HEM HB9 x0 x1 x2 x3 x4 x5 x6 x7 x8 x9 x10 f0 f1
      go_wp2_with fail
      go_ret
      exact ⟨rfl, HB10.out⟩
end Go.Proofs.YtchmiiclogmheaaDoor.C2
