/-
  Reading an item as a matrix.
-/
import Derived.Test.YtchmiiclogmheaaDoorRd0
namespace Go.Proofs.YtchmiiclogmheaaDoor.C2
open Go.RowKit
def okX (t : T) : Bool := decide (t.l.length = 4) && (okS (t.m 0) 1073741824 && okS (t.m 1) 1073741824 && okS (t.m 2) 1073741824 && okN (t.m 3) 18446744073709551615)
def xX (t : T) : MX := ⟨(t.m 0).n, (t.m 1).n, (t.m 2).n, xN (t.m 3)⟩
/-- What matrixOf answers. -/
def MxR (B : Nat) (t : T) (e : Ending) (w' : World) : Prop := (okX t = true → ∃ a c, e = .returned (.tuple #[.agg #[.int .i64 (xX t).lv, .int .i64 (xX t).ce, .int .i64 (xX t).ep, .slice a (xX t).ds.length c], .bool true]) ∧ NmsS B .u64 w' a (xX t).ds) ∧ (okX t = false → ∃ y0 y1 y2, e = .returned (.tuple #[.agg #[.int .i64 y0, .int .i64 y1, .int .i64 y2, .slice none 0 0], .bool false]))
theorem at_cells {t : T} {w : World} {b o : Nat} (h : t.at w b o) : w.cell? ⟨b, o, none⟩ = some (.int .i64 t.k) ∧ w.cell? ⟨b, o + 1, none⟩ = some (.int .u64 t.n) ∧ w.cell? ⟨b, o + 2, none⟩ = some (.string t.s) ∧ w.cell? ⟨b, o + 3, none⟩ = some (.slice t.a t.l.length t.cap) := h
set_option maxRecDepth 100000 in
set_option maxHeartbeats 12800000 in
theorem matrixOf_no (t : T) (w : World) (hn : t.l.length ≠ 4) : Calls Tryd.prog 93 #[t.val] w fun e w' => MxR w.heap.size t e w' ∧ Below w.heap.size w w' := by
  have HO : Hid (okX t = false) := Lib.hid (by unfold okX; rw [decide_eq_false hn]; rfl)
  have hne : ((t.l.length : Int) != 4) = true := by simp; omega
  unfold MxR
  rw [HO.out]
  unfold T.val
  generalize t.l.length = n at *
  obtain ⟨h1, h2, hb0, hsz⟩ : ((w.alloc (.cells #[.int .i64 t.k, .int .u64 t.n, .string t.s, .slice t.a n t.cap] 54)).alloc (.cells #[.int .i64 0, .int .i64 0, .int .i64 0, .slice none 0 0] 44)).heap[w.heap.size]? = some (.cells #[.int .i64 t.k, .int .u64 t.n, .string t.s, .slice t.a n t.cap] 54) ∧ ((w.alloc (.cells #[.int .i64 t.k, .int .u64 t.n, .string t.s, .slice t.a n t.cap] 54)).alloc (.cells #[.int .i64 0, .int .i64 0, .int .i64 0, .slice none 0 0] 44)).heap[w.heap.size + 1]? = some (.cells #[.int .i64 0, .int .i64 0, .int .i64 0, .slice none 0 0] 44) ∧ Below w.heap.size w ((w.alloc (.cells #[.int .i64 t.k, .int .u64 t.n, .string t.s, .slice t.a n t.cap] 54)).alloc (.cells #[.int .i64 0, .int .i64 0, .int .i64 0, .slice none 0 0] 44)) ∧ True := by
    refine ⟨?_, ?_, ((Below.refl _ _).alloc (Nat.le_refl _) _).alloc (by simp) _, trivial⟩
    · rw [Below.heap_alloc _ _ _ (by simp), heap_top]
    · have := heap_top (w.alloc (.cells #[.int .i64 t.k, .int .u64 t.n, .string t.s, .slice t.a n t.cap] 54)) (.cells #[.int .i64 0, .int .i64 0, .int .i64 0, .slice none 0 0] 44)
      rw [World.size_alloc] at this
      exact this
  have HB0 := Lib.hid hb0
  have HR0 := Lib.hid h2
  clear h1 hb0 hsz HO hn
  go_enter Tryd.func93, Tryd.ntmps93
  go_wp2_with fail
  have hr := HR0.out
  generalize ((w.alloc (.cells #[.int .i64 t.k, .int .u64 t.n, .string t.s, .slice t.a n t.cap] 54)).alloc (.cells #[.int .i64 0, .int .i64 0, .int .i64 0, .slice none 0 0] 44)) = W at *
  obtain ⟨⟨z0, z1, z2, z3⟩, _⟩ := cells4 hr
  exact bodyPost_ret (v := .tuple #[.agg #[.int .i64 0, .int .i64 0, .int .i64 0, .slice none 0 0], .bool false]) (by simp [results, Tryd.results93, go_sem, z0, z1, z2, z3]) rfl ⟨⟨(fun h => by cases h), fun _ => ⟨0, 0, 0, rfl⟩⟩, HB0.out⟩
theorem cellsP {w : World} {g : Nat} {a b c : Value} {t : TypeId} (h : w.heap[g]? = some (.cells #[a, b, c] t (0, 0))) : w.cell? ⟨g, 0, none⟩ = some a ∧ w.cell? ⟨g, 1, none⟩ = some b ∧ w.cell? ⟨g, 2, none⟩ = some c := by
  simp [World.cell?, h]
/-- The matrix, as far as it is read. -/
def mC (x0 x1 x2 : Int) (k : Nat) : Array Value := #[.int .i64 (if 0 < k then x0 else 0), .int .i64 (if 1 < k then x1 else 0), .int .i64 (if 2 < k then x2 else 0), .slice none 0 0]
set_option maxRecDepth 100000 in
set_option maxHeartbeats 25600000 in
theorem matrixOf_yes (k n : Int) (s : ByteArray) (a : Option Addr) (cap : Nat) (x0 x1 x2 x3 : T) (w : World) (h : ∀ f, InF w f (.mk k n s a cap [x0, x1, x2, x3])) (h3 : x3.l.length ≤ 16384) : Calls Tryd.prog 93 #[(T.mk k n s a cap [x0, x1, x2, x3]).val] w fun e w' => MxR w.heap.size (.mk k n s a cap [x0, x1, x2, x3]) e w' ∧ Below w.heap.size w w' := by
  have HO : Hid (okX (.mk k n s a cap [x0, x1, x2, x3]) = ((okS x0 1073741824 && okS x1 1073741824 && okS x2 1073741824 && okN x3 18446744073709551615))) := Lib.hid rfl
  have HXX : Hid (xX (.mk k n s a cap [x0, x1, x2, x3]) = ⟨x0.n, x1.n, x2.n, xN x3⟩) := Lib.hid rfl
  obtain ⟨b, o, ha, hat⟩ := (h 1).2.1 (by show 0 < 4; omega)
  have hb : b < w.heap.size := World.block_lt_of_cell? w _ (hat 0 (by show 0 < 4; omega)).1
  have HA : Hid (∀ W, Below w.heap.size w W → (x0.at W b o ∧ x1.at W b (o + 4) ∧ x2.at W b (o + 8) ∧ x3.at W b (o + 12))) := Lib.hid (fun W hW => ⟨(hat 0 (by show 0 < 4; omega)).on hW, (hat 1 (by show 1 < 4; omega)).on hW, (hat 2 (by show 2 < 4; omega)).on hW, (hat 3 (by show 3 < 4; omega)).on hW⟩)
  have hbd : ∀ j (hj : j < 4), 0 ≤ ([x0, x1, x2, x3][j]).n ∧ ([x0, x1, x2, x3][j]).n ≤ 18446744073709551615 := fun j hj => by
    have := ((h 2).2.2 j hj).1
    exact ⟨this.1, this.2.1⟩
  have b0 : 0 ≤ x0.n ∧ x0.n ≤ 18446744073709551615 := hbd 0 (by omega)
  have b1 : 0 ≤ x1.n ∧ x1.n ≤ 18446744073709551615 := hbd 1 (by omega)
  have b2 : 0 ≤ x2.n ∧ x2.n ≤ 18446744073709551615 := hbd 2 (by omega)
  have HS : Hid (∀ W, (Calls Tryd.prog 64 #[.agg #[.int .i64 x0.k, .int .u64 x0.n, .string x0.s, .slice x0.a x0.l.length x0.cap], .int .i64 1073741824] W fun e w' => e = .returned (.tuple #[.int .i64 (if okS x0 1073741824 = true then x0.n else 0), .bool (okS x0 1073741824)]) ∧ Below W.heap.size W w') ∧ (Calls Tryd.prog 64 #[.agg #[.int .i64 x1.k, .int .u64 x1.n, .string x1.s, .slice x1.a x1.l.length x1.cap], .int .i64 1073741824] W fun e w' => e = .returned (.tuple #[.int .i64 (if okS x1 1073741824 = true then x1.n else 0), .bool (okS x1 1073741824)]) ∧ Below W.heap.size W w') ∧ (Calls Tryd.prog 64 #[.agg #[.int .i64 x2.k, .int .u64 x2.n, .string x2.s, .slice x2.a x2.l.length x2.cap], .int .i64 1073741824] W fun e w' => e = .returned (.tuple #[.int .i64 (if okS x2 1073741824 = true then x2.n else 0), .bool (okS x2 1073741824)]) ∧ Below W.heap.size W w')) := Lib.hid (fun W => ⟨small_any x0 _ W b0.1 b0.2 (by omega) (by omega), small_any x1 _ W b1.1 b1.2 (by omega) (by omega), small_any x2 _ W b2.1 b2.2 (by omega) (by omega)⟩)
  have HD : Hid (∀ W, Below w.heap.size w W → Calls Tryd.prog 90 #[.agg #[.int .i64 x3.k, .int .u64 x3.n, .string x3.s, .slice x3.a x3.l.length x3.cap], .int .u64 18446744073709551615] W fun e w' => (okN x3 18446744073709551615 = true → ∃ a c, e = .returned (.tuple #[.slice a (xN x3).length c, .bool true]) ∧ NmsS W.heap.size .u64 w' a (xN x3)) ∧ (okN x3 18446744073709551615 = false → e = .returned (.tuple #[.slice none 0 0, .bool false])) ∧ Below W.heap.size W w') := Lib.hid (fun W hW => rdn90_any x3 W (fun f => ((h (f + 1)).2.2 3 (by show 3 < 4; omega)).on hW) h3)
  subst ha
  clear h hat hbd b0 b1 b2 h3
  unfold MxR
  rw [HO.out, HXX.out]
  show Calls Tryd.prog 93 #[.agg #[.int .i64 k, .int .u64 n, .string s, .slice (some ⟨b, o, none⟩) 4 cap]] w _
  simp only []
  obtain ⟨O0, e0⟩ := named (okS x0 1073741824)
  obtain ⟨O1, e1⟩ := named (okS x1 1073741824)
  obtain ⟨O2, e2⟩ := named (okS x2 1073741824)
  obtain ⟨O3, e3⟩ := named (okN x3 18446744073709551615)
  rw [e0.out, e1.out, e2.out] at HS
  rw [e3.out] at HD
  rw [e0.out, e1.out, e2.out, e3.out]
  clear HO HXX
  generalize hp : w.heap.size = p at *
  go_enter Tryd.func93, Tryd.ntmps93
  go_wp2_with fail
  have hh : (((w.alloc (.cells #[.int .i64 k, .int .u64 n, .string s, .slice (some ⟨b, o, none⟩) 4 cap] 54)).alloc (.cells #[.int .i64 0, .int .i64 0, .int .i64 0, .slice none 0 0] 44)).alloc (.cells #[.pointer (some ⟨p + 1, 0, none⟩), .pointer (some ⟨p + 1, 1, none⟩), .pointer (some ⟨p + 1, 2, none⟩)] 111)).heap[p]? = some (.cells #[.int .i64 k, .int .u64 n, .string s, .slice (some ⟨b, o, none⟩) 4 cap] 54) ∧ (((w.alloc (.cells #[.int .i64 k, .int .u64 n, .string s, .slice (some ⟨b, o, none⟩) 4 cap] 54)).alloc (.cells #[.int .i64 0, .int .i64 0, .int .i64 0, .slice none 0 0] 44)).alloc (.cells #[.pointer (some ⟨p + 1, 0, none⟩), .pointer (some ⟨p + 1, 1, none⟩), .pointer (some ⟨p + 1, 2, none⟩)] 111)).heap[p + 1]? = some (.cells #[.int .i64 0, .int .i64 0, .int .i64 0, .slice none 0 0] 44) ∧ (((w.alloc (.cells #[.int .i64 k, .int .u64 n, .string s, .slice (some ⟨b, o, none⟩) 4 cap] 54)).alloc (.cells #[.int .i64 0, .int .i64 0, .int .i64 0, .slice none 0 0] 44)).alloc (.cells #[.pointer (some ⟨p + 1, 0, none⟩), .pointer (some ⟨p + 1, 1, none⟩), .pointer (some ⟨p + 1, 2, none⟩)] 111)).heap[p + 2]? = some (.cells #[.pointer (some ⟨p + 1, 0, none⟩), .pointer (some ⟨p + 1, 1, none⟩), .pointer (some ⟨p + 1, 2, none⟩)] 111) ∧ Below p w (((w.alloc (.cells #[.int .i64 k, .int .u64 n, .string s, .slice (some ⟨b, o, none⟩) 4 cap] 54)).alloc (.cells #[.int .i64 0, .int .i64 0, .int .i64 0, .slice none 0 0] 44)).alloc (.cells #[.pointer (some ⟨p + 1, 0, none⟩), .pointer (some ⟨p + 1, 1, none⟩), .pointer (some ⟨p + 1, 2, none⟩)] 111)) := by
    have s1 : (w.alloc (.cells #[.int .i64 k, .int .u64 n, .string s, .slice (some ⟨b, o, none⟩) 4 cap] 54)).heap.size = p + 1 := by rw [World.size_alloc, hp]
    have s2 : ((w.alloc (.cells #[.int .i64 k, .int .u64 n, .string s, .slice (some ⟨b, o, none⟩) 4 cap] 54)).alloc (.cells #[.int .i64 0, .int .i64 0, .int .i64 0, .slice none 0 0] 44)).heap.size = p + 2 := by rw [World.size_alloc, s1]
    have t1 := heap_top w (.cells #[.int .i64 k, .int .u64 n, .string s, .slice (some ⟨b, o, none⟩) 4 cap] 54)
    have t2 := heap_top (w.alloc (.cells #[.int .i64 k, .int .u64 n, .string s, .slice (some ⟨b, o, none⟩) 4 cap] 54)) (.cells #[.int .i64 0, .int .i64 0, .int .i64 0, .slice none 0 0] 44)
    have t3 := heap_top ((w.alloc (.cells #[.int .i64 k, .int .u64 n, .string s, .slice (some ⟨b, o, none⟩) 4 cap] 54)).alloc (.cells #[.int .i64 0, .int .i64 0, .int .i64 0, .slice none 0 0] 44)) (.cells #[.pointer (some ⟨p + 1, 0, none⟩), .pointer (some ⟨p + 1, 1, none⟩), .pointer (some ⟨p + 1, 2, none⟩)] 111)
    rw [hp] at t1
    rw [s1] at t2
    rw [s2] at t3
    refine ⟨?_, ?_, t3, (((Below.refl _ _).alloc (by omega) _).alloc (by omega) _).alloc (by omega) _⟩
    · rw [Below.heap_alloc _ _ _ (by omega), Below.heap_alloc _ _ _ (by omega)]
      exact t1
    · rw [Below.heap_alloc _ _ _ (by omega)]
      exact t2
  have HX0 := Lib.hid hh.1
  have HM0 : Hid ((((w.alloc (.cells #[.int .i64 k, .int .u64 n, .string s, .slice (some ⟨b, o, none⟩) 4 cap] 54)).alloc (.cells #[.int .i64 0, .int .i64 0, .int .i64 0, .slice none 0 0] 44)).alloc (.cells #[.pointer (some ⟨p + 1, 0, none⟩), .pointer (some ⟨p + 1, 1, none⟩), .pointer (some ⟨p + 1, 2, none⟩)] 111)).heap[p + 1]? = some (.cells (mC x0.n x1.n x2.n 0) 44)) := Lib.hid hh.2.1
  have HP0 := Lib.hid hh.2.2.1
  have HB0 := Lib.hid hh.2.2.2
  clear hh
  go_loopw [16] (fun i wr => ∃ j : Nat, j ≤ 3 ∧ i = .int .i64 j ∧ Hid (wr.heap[p]? = some (.cells #[.int .i64 k, .int .u64 n, .string s, .slice (some ⟨b, o, none⟩) 4 cap] 54)) ∧ Hid (wr.heap[p + 1]? = some (.cells (mC x0.n x1.n x2.n j) 44)) ∧ Hid (wr.heap[p + 2]? = some (.cells #[.pointer (some ⟨p + 1, 0, none⟩), .pointer (some ⟨p + 1, 1, none⟩), .pointer (some ⟨p + 1, 2, none⟩)] 111)) ∧ Hid (Below p w wr) ∧ Hid ((0 < j → O0 = true) ∧ (1 < j → O1 = true) ∧ (2 < j → O2 = true))) (fun i _ => 3 - (intOf i).toNat)
  case atStart => exact ⟨0, by omega, rfl, HX0, HM0, HP0, HB0, Lib.hid ⟨fun h => by omega, fun h => by omega, fun h => by omega⟩⟩
  case round =>
    clear HX0 HM0 HP0 HB0
    obtain ⟨j, hj, rfl, HX, HM, HP, HBR, HO⟩ := hrel
    have hjj : j = 0 ∨ j = 1 ∨ j = 2 ∨ j = 3 := by omega
    rcases hjj with rfl | rfl | rfl | rfl
    · have hM : wr.heap[p + 1]? = some (.cells #[.int .i64 0, .int .i64 0, .int .i64 0, .slice none 0 0] 44) := HM.out
      have HC := Lib.hid (HS.out wr)
      obtain ⟨c0, c1, c2, c3⟩ := at_cells (HA.out wr HBR.out).1
      obtain ⟨⟨k0, k1, k2, k3⟩, _⟩ := cells4 HX.out
      obtain ⟨pp0, pp1, pp2⟩ := cellsP HP.out
      have hpl : p + 1 < wr.heap.size := lt_of_block hM
      have hpl2 : p + 2 < wr.heap.size := lt_of_block HP.out
      go_wp2_with fail
      refine HC.out.1.mono ?_
      rintro e w2 ⟨rfl, hb2⟩
      have hM2 := (hb2.block _ hpl).trans hM
      have HX2 := Lib.hid ((hb2.block _ (by omega)).trans HX.out)
      have HP2 := Lib.hid ((hb2.block _ hpl2).trans HP.out)
      have HB2 : Hid (Below p w w2) := Lib.hid (HBR.out.trans (hb2.mono (by have := HBR.out.size; omega)))
      have HM2 := Lib.hid hM2
      clear hb2 HC k0 k1 k2 k3 pp0 pp1 pp2 c0 c1 c2 c3
      obtain ⟨⟨m0, m1, m2, m3⟩, f0, f1, f2, f3⟩ := cells4 hM2
      clear hM2 hM
      cases O0
      · have hs := heap_setCell_same w2 (p + 1) 0 _ _ (.int .i64 0) HM2.out
        have hs2 : (w2.setCell ⟨p + 1, 0, none⟩ (.int .i64 0)).heap[p + 1]? = some (.cells #[.int .i64 0, .int .i64 0, .int .i64 0, .slice none 0 0] 44) := hs
        have hb3 : Below p w (w2.setCell ⟨p + 1, 0, none⟩ (.int .i64 0)) := HB2.out.setCell (p := ⟨p + 1, 0, none⟩) (by show p ≤ p + 1; omega) _
        have HS2 := Lib.hid hs2
        have HB3 := Lib.hid hb3
        obtain ⟨⟨v0, v1, v2, v3⟩, g0, g1, g2, g3⟩ := cells4 hs2
        clear hs hs2 hb3
        go_wp2_with fail
        have hfin := four_set (a' := (.int .i64 0)) (b' := (.int .i64 0)) (c' := (.int .i64 0)) (d' := (.slice none 0 0)) HS2.out
        have hbel := four_below (p := p) (q := p + 1) (a' := (.int .i64 0)) (b' := (.int .i64 0)) (c' := (.int .i64 0)) (d' := (.slice none 0 0)) HB3.out (by omega)
        clear v0 v1 v2 v3 g0 g1 g2 g3
        generalize (((((w2.setCell ⟨p + 1, 0, none⟩ (.int .i64 0)).setCell ⟨p + 1, 0, none⟩ (.int .i64 0)).setCell ⟨p + 1, 1, none⟩ (.int .i64 0)).setCell ⟨p + 1, 2, none⟩ (.int .i64 0)).setCell ⟨p + 1, 3, none⟩ (.slice none 0 0)) = W4 at *
        obtain ⟨⟨y0, y1, y2, y3⟩, _⟩ := cells4 hfin
        exact bodyPost_ret (v := .tuple #[.agg #[.int .i64 0, .int .i64 0, .int .i64 0, .slice none 0 0], .bool false]) (by simp [results, Tryd.results93, go_sem, y0, y1, y2, y3]) rfl ⟨⟨(fun h => by simp at h), fun _ => ⟨_, _, _, rfl⟩⟩, hbel⟩
      · have hs := heap_setCell_same w2 (p + 1) 0 _ _ (.int .i64 x0.n) HM2.out
        have HS2 : Hid ((w2.setCell ⟨p + 1, 0, none⟩ (.int .i64 x0.n)).heap[p + 1]? = some (.cells (mC x0.n x1.n x2.n 1) 44)) := Lib.hid hs
        have HB3 : Hid (Below p w (w2.setCell ⟨p + 1, 0, none⟩ (.int .i64 x0.n))) := Lib.hid (HB2.out.setCell (p := ⟨p + 1, 0, none⟩) (by show p ≤ p + 1; omega) _)
        have HX3 := Lib.hid ((Below.heap_setCell w2 ⟨p + 1, 0, none⟩ (.int .i64 x0.n) p (by show p ≠ p + 1; omega)).trans HX2.out)
        have HP3 := Lib.hid ((Below.heap_setCell w2 ⟨p + 1, 0, none⟩ (.int .i64 x0.n) (p + 2) (by show p + 2 ≠ p + 1; omega)).trans HP2.out)
        clear hs
        go_wp2_with fail
        exact ⟨⟨1, by omega, by go_num, HX3, HS2, HP3, HB3, Lib.hid ⟨fun _ => (by first | rfl | trivial), fun h => by omega, fun h => by omega⟩⟩, by simp [intOf]⟩
    · have hM : wr.heap[p + 1]? = some (.cells #[.int .i64 x0.n, .int .i64 0, .int .i64 0, .slice none 0 0] 44) := HM.out
      have HC := Lib.hid (HS.out wr)
      obtain ⟨c0, c1, c2, c3⟩ := at_cells (HA.out wr HBR.out).2.1
      obtain ⟨⟨k0, k1, k2, k3⟩, _⟩ := cells4 HX.out
      obtain ⟨pp0, pp1, pp2⟩ := cellsP HP.out
      have hpl : p + 1 < wr.heap.size := lt_of_block hM
      have hpl2 : p + 2 < wr.heap.size := lt_of_block HP.out
      go_wp2_with fail
      refine HC.out.2.1.mono ?_
      rintro e w2 ⟨rfl, hb2⟩
      have hM2 := (hb2.block _ hpl).trans hM
      have HX2 := Lib.hid ((hb2.block _ (by omega)).trans HX.out)
      have HP2 := Lib.hid ((hb2.block _ hpl2).trans HP.out)
      have HB2 : Hid (Below p w w2) := Lib.hid (HBR.out.trans (hb2.mono (by have := HBR.out.size; omega)))
      have HM2 := Lib.hid hM2
      clear hb2 HC k0 k1 k2 k3 pp0 pp1 pp2 c0 c1 c2 c3
      obtain ⟨⟨m0, m1, m2, m3⟩, f0, f1, f2, f3⟩ := cells4 hM2
      clear hM2 hM
      cases O1
      · have hs := heap_setCell_same w2 (p + 1) 1 _ _ (.int .i64 0) HM2.out
        have hs2 : (w2.setCell ⟨p + 1, 1, none⟩ (.int .i64 0)).heap[p + 1]? = some (.cells #[.int .i64 x0.n, .int .i64 0, .int .i64 0, .slice none 0 0] 44) := hs
        have hb3 : Below p w (w2.setCell ⟨p + 1, 1, none⟩ (.int .i64 0)) := HB2.out.setCell (p := ⟨p + 1, 1, none⟩) (by show p ≤ p + 1; omega) _
        have HS2 := Lib.hid hs2
        have HB3 := Lib.hid hb3
        obtain ⟨⟨v0, v1, v2, v3⟩, g0, g1, g2, g3⟩ := cells4 hs2
        clear hs hs2 hb3
        go_wp2_with fail
        have hfin := four_set (a' := (.int .i64 x0.n)) (b' := (.int .i64 0)) (c' := (.int .i64 0)) (d' := (.slice none 0 0)) HS2.out
        have hbel := four_below (p := p) (q := p + 1) (a' := (.int .i64 x0.n)) (b' := (.int .i64 0)) (c' := (.int .i64 0)) (d' := (.slice none 0 0)) HB3.out (by omega)
        clear v0 v1 v2 v3 g0 g1 g2 g3
        generalize (((((w2.setCell ⟨p + 1, 1, none⟩ (.int .i64 0)).setCell ⟨p + 1, 0, none⟩ (.int .i64 x0.n)).setCell ⟨p + 1, 1, none⟩ (.int .i64 0)).setCell ⟨p + 1, 2, none⟩ (.int .i64 0)).setCell ⟨p + 1, 3, none⟩ (.slice none 0 0)) = W4 at *
        obtain ⟨⟨y0, y1, y2, y3⟩, _⟩ := cells4 hfin
        exact bodyPost_ret (v := .tuple #[.agg #[.int .i64 x0.n, .int .i64 0, .int .i64 0, .slice none 0 0], .bool false]) (by simp [results, Tryd.results93, go_sem, y0, y1, y2, y3]) rfl ⟨⟨(fun h => by simp at h), fun _ => ⟨_, _, _, rfl⟩⟩, hbel⟩
      · have hs := heap_setCell_same w2 (p + 1) 1 _ _ (.int .i64 x1.n) HM2.out
        have HS2 : Hid ((w2.setCell ⟨p + 1, 1, none⟩ (.int .i64 x1.n)).heap[p + 1]? = some (.cells (mC x0.n x1.n x2.n 2) 44)) := Lib.hid hs
        have HB3 : Hid (Below p w (w2.setCell ⟨p + 1, 1, none⟩ (.int .i64 x1.n))) := Lib.hid (HB2.out.setCell (p := ⟨p + 1, 1, none⟩) (by show p ≤ p + 1; omega) _)
        have HX3 := Lib.hid ((Below.heap_setCell w2 ⟨p + 1, 1, none⟩ (.int .i64 x1.n) p (by show p ≠ p + 1; omega)).trans HX2.out)
        have HP3 := Lib.hid ((Below.heap_setCell w2 ⟨p + 1, 1, none⟩ (.int .i64 x1.n) (p + 2) (by show p + 2 ≠ p + 1; omega)).trans HP2.out)
        clear hs
        go_wp2_with fail
        exact ⟨⟨2, by omega, by go_num, HX3, HS2, HP3, HB3, Lib.hid ⟨fun _ => (HO.out.1 (by omega)), fun _ => (by first | rfl | trivial), fun h => by omega⟩⟩, by simp [intOf]⟩
    · have hM : wr.heap[p + 1]? = some (.cells #[.int .i64 x0.n, .int .i64 x1.n, .int .i64 0, .slice none 0 0] 44) := HM.out
      have HC := Lib.hid (HS.out wr)
      obtain ⟨c0, c1, c2, c3⟩ := at_cells (HA.out wr HBR.out).2.2.1
      obtain ⟨⟨k0, k1, k2, k3⟩, _⟩ := cells4 HX.out
      obtain ⟨pp0, pp1, pp2⟩ := cellsP HP.out
      have hpl : p + 1 < wr.heap.size := lt_of_block hM
      have hpl2 : p + 2 < wr.heap.size := lt_of_block HP.out
      go_wp2_with fail
      refine HC.out.2.2.mono ?_
      rintro e w2 ⟨rfl, hb2⟩
      have hM2 := (hb2.block _ hpl).trans hM
      have HX2 := Lib.hid ((hb2.block _ (by omega)).trans HX.out)
      have HP2 := Lib.hid ((hb2.block _ hpl2).trans HP.out)
      have HB2 : Hid (Below p w w2) := Lib.hid (HBR.out.trans (hb2.mono (by have := HBR.out.size; omega)))
      have HM2 := Lib.hid hM2
      clear hb2 HC k0 k1 k2 k3 pp0 pp1 pp2 c0 c1 c2 c3
      obtain ⟨⟨m0, m1, m2, m3⟩, f0, f1, f2, f3⟩ := cells4 hM2
      clear hM2 hM
      cases O2
      · have hs := heap_setCell_same w2 (p + 1) 2 _ _ (.int .i64 0) HM2.out
        have hs2 : (w2.setCell ⟨p + 1, 2, none⟩ (.int .i64 0)).heap[p + 1]? = some (.cells #[.int .i64 x0.n, .int .i64 x1.n, .int .i64 0, .slice none 0 0] 44) := hs
        have hb3 : Below p w (w2.setCell ⟨p + 1, 2, none⟩ (.int .i64 0)) := HB2.out.setCell (p := ⟨p + 1, 2, none⟩) (by show p ≤ p + 1; omega) _
        have HS2 := Lib.hid hs2
        have HB3 := Lib.hid hb3
        obtain ⟨⟨v0, v1, v2, v3⟩, g0, g1, g2, g3⟩ := cells4 hs2
        clear hs hs2 hb3
        go_wp2_with fail
        have hfin := four_set (a' := (.int .i64 x0.n)) (b' := (.int .i64 x1.n)) (c' := (.int .i64 0)) (d' := (.slice none 0 0)) HS2.out
        have hbel := four_below (p := p) (q := p + 1) (a' := (.int .i64 x0.n)) (b' := (.int .i64 x1.n)) (c' := (.int .i64 0)) (d' := (.slice none 0 0)) HB3.out (by omega)
        clear v0 v1 v2 v3 g0 g1 g2 g3
        generalize (((((w2.setCell ⟨p + 1, 2, none⟩ (.int .i64 0)).setCell ⟨p + 1, 0, none⟩ (.int .i64 x0.n)).setCell ⟨p + 1, 1, none⟩ (.int .i64 x1.n)).setCell ⟨p + 1, 2, none⟩ (.int .i64 0)).setCell ⟨p + 1, 3, none⟩ (.slice none 0 0)) = W4 at *
        obtain ⟨⟨y0, y1, y2, y3⟩, _⟩ := cells4 hfin
        exact bodyPost_ret (v := .tuple #[.agg #[.int .i64 x0.n, .int .i64 x1.n, .int .i64 0, .slice none 0 0], .bool false]) (by simp [results, Tryd.results93, go_sem, y0, y1, y2, y3]) rfl ⟨⟨(fun h => by simp at h), fun _ => ⟨_, _, _, rfl⟩⟩, hbel⟩
      · have hs := heap_setCell_same w2 (p + 1) 2 _ _ (.int .i64 x2.n) HM2.out
        have HS2 : Hid ((w2.setCell ⟨p + 1, 2, none⟩ (.int .i64 x2.n)).heap[p + 1]? = some (.cells (mC x0.n x1.n x2.n 3) 44)) := Lib.hid hs
        have HB3 : Hid (Below p w (w2.setCell ⟨p + 1, 2, none⟩ (.int .i64 x2.n))) := Lib.hid (HB2.out.setCell (p := ⟨p + 1, 2, none⟩) (by show p ≤ p + 1; omega) _)
        have HX3 := Lib.hid ((Below.heap_setCell w2 ⟨p + 1, 2, none⟩ (.int .i64 x2.n) p (by show p ≠ p + 1; omega)).trans HX2.out)
        have HP3 := Lib.hid ((Below.heap_setCell w2 ⟨p + 1, 2, none⟩ (.int .i64 x2.n) (p + 2) (by show p + 2 ≠ p + 1; omega)).trans HP2.out)
        clear hs
        go_wp2_with fail
        exact ⟨⟨3, by omega, by go_num, HX3, HS2, HP3, HB3, Lib.hid ⟨fun _ => (HO.out.1 (by omega)), fun _ => (HO.out.2.1 (by omega)), fun _ => (by first | rfl | trivial)⟩⟩, by simp [intOf]⟩
    · have hlast : wr.heap[p + 1]? = some (.cells #[.int .i64 x0.n, .int .i64 x1.n, .int .i64 x2.n, .slice none 0 0] 44) := HM.out
      have hO0 := HO.out.1 (by omega)
      have hO1 := HO.out.2.1 (by omega)
      have hO2 := HO.out.2.2 (by omega)
      subst hO0 hO1 hO2
      have HC := Lib.hid (HD.out wr HBR.out)
      obtain ⟨c0, c1, c2, c3⟩ := at_cells (HA.out wr HBR.out).2.2.2
      obtain ⟨⟨k0, k1, k2, k3⟩, _⟩ := cells4 HX.out
      have hpl : p + 1 < wr.heap.size := lt_of_block hlast
      clear HS HD
      go_wp2_with fail
      refine HC.out.mono ?_
      rintro e w2 ⟨hy, hn, hb2⟩
      have hM2 := (hb2.block _ hpl).trans hlast
      have HB2 : Hid (Below p w w2) := Lib.hid (HBR.out.trans (hb2.mono (by have := HBR.out.size; omega)))
      have HM2 := Lib.hid hM2
      have hpl2 : p + 1 < w2.heap.size := lt_of_block hM2
      have hwr := HBR.out.size
      clear hb2 HC k0 k1 k2 k3 c0 c1 c2 c3 hlast
      obtain ⟨⟨m0, m1, m2, m3⟩, f0, f1, f2, f3⟩ := cells4 hM2
      clear hM2
      cases O3
      · obtain rfl := hn rfl
        clear hy hn
        have hs := heap_setCell_same w2 (p + 1) 3 _ _ (.slice none 0 0) HM2.out
        have hs2 : (w2.setCell ⟨p + 1, 3, none⟩ (.slice none 0 0)).heap[p + 1]? = some (.cells #[.int .i64 x0.n, .int .i64 x1.n, .int .i64 x2.n, .slice none 0 0] 44) := hs
        have HB3 := Lib.hid (HB2.out.setCell (p := ⟨p + 1, 3, none⟩) (by show p ≤ p + 1; omega) (.slice none 0 0))
        have HS2 := Lib.hid hs2
        obtain ⟨⟨v0, v1, v2, v3⟩, g0, g1, g2, g3⟩ := cells4 hs2
        clear hs hs2
        go_wp2_with fail
        have hfin := four_set (a' := (.int .i64 x0.n)) (b' := (.int .i64 x1.n)) (c' := (.int .i64 x2.n)) (d' := (.slice none 0 0)) HS2.out
        have hbel := four_below (p := p) (q := p + 1) (a' := (.int .i64 x0.n)) (b' := (.int .i64 x1.n)) (c' := (.int .i64 x2.n)) (d' := (.slice none 0 0)) HB3.out (by omega)
        have hoth : ∀ b, b ≠ p + 1 → (((((w2.setCell ⟨p + 1, 3, none⟩ (.slice none 0 0)).setCell ⟨p + 1, 0, none⟩ (.int .i64 x0.n)).setCell ⟨p + 1, 1, none⟩ (.int .i64 x1.n)).setCell ⟨p + 1, 2, none⟩ (.int .i64 x2.n)).setCell ⟨p + 1, 3, none⟩ (.slice none 0 0)).heap[b]? = w2.heap[b]? := fun b hb => (four_oth (w := (w2.setCell ⟨p + 1, 3, none⟩ (.slice none 0 0))) (a' := (.int .i64 x0.n)) (b' := (.int .i64 x1.n)) (c' := (.int .i64 x2.n)) (d' := (.slice none 0 0)) hb).trans (Below.heap_setCell _ _ _ _ hb)
        clear v0 v1 v2 v3 g0 g1 g2 g3 m0 m1 m2 m3 f0 f1 f2 f3
        generalize (((((w2.setCell ⟨p + 1, 3, none⟩ (.slice none 0 0)).setCell ⟨p + 1, 0, none⟩ (.int .i64 x0.n)).setCell ⟨p + 1, 1, none⟩ (.int .i64 x1.n)).setCell ⟨p + 1, 2, none⟩ (.int .i64 x2.n)).setCell ⟨p + 1, 3, none⟩ (.slice none 0 0)) = W4 at *
        obtain ⟨⟨y0, y1, y2, y3⟩, _⟩ := cells4 hfin
        exact bodyPost_ret (v := .tuple #[.agg #[.int .i64 x0.n, .int .i64 x1.n, .int .i64 x2.n, .slice none 0 0], .bool false]) (by simp [results, Tryd.results93, go_sem, y0, y1, y2, y3]) rfl ⟨⟨(fun h => by simp at h), fun _ => ⟨_, _, _, rfl⟩⟩, hbel⟩
      · obtain ⟨ra, rc, rfl, hN⟩ := hy rfl
        have HN := Lib.hid hN
        clear hy hn hN
        have hs := heap_setCell_same w2 (p + 1) 3 _ _ (.slice ra (xN x3).length rc) HM2.out
        have hs2 : (w2.setCell ⟨p + 1, 3, none⟩ (.slice ra (xN x3).length rc)).heap[p + 1]? = some (.cells #[.int .i64 x0.n, .int .i64 x1.n, .int .i64 x2.n, .slice ra (xN x3).length rc] 44) := hs
        have HB3 := Lib.hid (HB2.out.setCell (p := ⟨p + 1, 3, none⟩) (by show p ≤ p + 1; omega) (.slice ra (xN x3).length rc))
        have HS2 := Lib.hid hs2
        obtain ⟨⟨v0, v1, v2, v3⟩, g0, g1, g2, g3⟩ := cells4 hs2
        clear hs hs2
        go_wp2_with fail
        have hfin := four_set (a' := (.int .i64 x0.n)) (b' := (.int .i64 x1.n)) (c' := (.int .i64 x2.n)) (d' := (.slice ra (xN x3).length rc)) HS2.out
        have hbel := four_below (p := p) (q := p + 1) (a' := (.int .i64 x0.n)) (b' := (.int .i64 x1.n)) (c' := (.int .i64 x2.n)) (d' := (.slice ra (xN x3).length rc)) HB3.out (by omega)
        have hoth : ∀ b, b ≠ p + 1 → (((((w2.setCell ⟨p + 1, 3, none⟩ (.slice ra (xN x3).length rc)).setCell ⟨p + 1, 0, none⟩ (.int .i64 x0.n)).setCell ⟨p + 1, 1, none⟩ (.int .i64 x1.n)).setCell ⟨p + 1, 2, none⟩ (.int .i64 x2.n)).setCell ⟨p + 1, 3, none⟩ (.slice ra (xN x3).length rc)).heap[b]? = w2.heap[b]? := fun b hb => (four_oth (w := (w2.setCell ⟨p + 1, 3, none⟩ (.slice ra (xN x3).length rc))) (a' := (.int .i64 x0.n)) (b' := (.int .i64 x1.n)) (c' := (.int .i64 x2.n)) (d' := (.slice ra (xN x3).length rc)) hb).trans (Below.heap_setCell _ _ _ _ hb)
        clear v0 v1 v2 v3 g0 g1 g2 g3 m0 m1 m2 m3 f0 f1 f2 f3
        generalize (((((w2.setCell ⟨p + 1, 3, none⟩ (.slice ra (xN x3).length rc)).setCell ⟨p + 1, 0, none⟩ (.int .i64 x0.n)).setCell ⟨p + 1, 1, none⟩ (.int .i64 x1.n)).setCell ⟨p + 1, 2, none⟩ (.int .i64 x2.n)).setCell ⟨p + 1, 3, none⟩ (.slice ra (xN x3).length rc)) = W4 at *
        obtain ⟨⟨y0, y1, y2, y3⟩, _⟩ := cells4 hfin
        refine bodyPost_ret (v := .tuple #[.agg #[.int .i64 x0.n, .int .i64 x1.n, .int .i64 x2.n, .slice ra (xN x3).length rc], .bool true]) (by simp [results, Tryd.results93, go_sem, y0, y1, y2, y3]) rfl ⟨⟨fun _ => ⟨ra, rc, rfl, HN.out.same (fun b hb hb2 => ?_)⟩, (fun h => by simp at h)⟩, hbel⟩
        have h2 := hoth b (by omega)
        refine ⟨by omega, ?_, h2⟩
        have h4 : w2.heap[b]? = some w2.heap[b] := Array.getElem?_eq_getElem hb2
        rw [← h2] at h4
        exact lt_of_block h4
end Go.Proofs.YtchmiiclogmheaaDoor.C2
