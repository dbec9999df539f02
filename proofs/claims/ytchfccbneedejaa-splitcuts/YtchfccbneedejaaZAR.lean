/-
  A list of numbers that came in, as the walks want it. The contract of the book's SpoilInts: rows keep their shape. SplitCuts holds. A graph that came in, as the walks want it.
-/
import Derived.Test.YtchfccbneedejaaZAQ
import Derived.Test.YtchfccbneedejaaZAN
import Derived.Test.YtchfccbneedejaaZAA
import Derived.OpenShut
import Derived.ChangeArms
import Derived.Deep.Slices
import Derived.SizedLaws
import Derived.ProofKit
import Derived.ChangeOld
namespace Go.Proofs.Ytchfccbneedejaa
open Go.RowKit
theorem own_shape_set {w : World} {base : Nat} {e : TypeId} {size : Nat} {v : Value} {n : Nat} {xs : List Value} (h : w.ownsRow base e size v n xs) (g i : Nat) (u : Value) : ∃ ys, (w.setCell ⟨g, i, none⟩ u).ownsRow base e size v n ys := by
  rcases h.2 with ⟨rfl, rfl⟩ | ⟨g', c, cur, rfl, h2, h3, h4, h5, h6, h7⟩
  · exact ⟨[], World.ownsRow_nil _ _ _ _⟩
  · by_cases hg : g' = g
    · subst hg
      refine ⟨((cur.setIfInBounds i u).toList.take (n * size)), ?_, Or.inr ⟨g', c, cur.setIfInBounds i u, rfl, h2, heap_setCell_same w g' i cur e u h3, h4, h5, by simpa using h6, rfl⟩⟩
      have := h.1
      rw [List.length_take, Array.length_toList, Array.size_setIfInBounds, h6]
      have : n * size ≤ c * size := Nat.mul_le_mul_right _ h4
      omega
    · exact ⟨xs, h.1, Or.inr ⟨g', c, cur, rfl, h2, (heap_setCell_other w _ g' _ hg).trans h3, h4, h5, h6, h7⟩⟩
/-- Rows stay rows. -/
def Rowed (w w' : World) : Prop := ∀ (base : Nat) (e : TypeId) (size : Nat) (v : Value) (n : Nat) (xs : List Value), w.ownsRow base e size v n xs → ∃ ys, w'.ownsRow base e size v n ys
set_option maxHeartbeats 400000 in
theorem spoilInts_row (g n m B : Nat) (x : Int) (xs : List Value) (w : World) (hn : n ≤ 9223372036854775807) (hown : w.ownsRow B 3 1 (.slice (some ⟨g, 0, none⟩) n n) n xs) :
    Calls Try.prog 17 #[.slice (some ⟨g, 0, none⟩) m n, .int .i64 x] w fun e w' => e = .returned (.tuple #[]) ∧ Below B w w' ∧ Rowed w w' := by
  have hgB : B ≤ g := (hown.lt g rfl).1
  go_enter Try.func17, Try.ntmps17
  go_wp2_with fail
  go_loopw [4] (fun i wr => ∃ (k : Nat) (xs : List Value), k ≤ n ∧ i = .int .i64 k ∧ wr.ownsRow B 3 1 (.slice (some ⟨g, 0, none⟩) n n) n xs ∧ Below B w wr ∧ Rowed w wr) (fun i _ => n - (intOf i).toNat)
  case atStart => exact ⟨0, xs, Nat.zero_le _, rfl, hown, Below.refl _ _, fun _ _ _ _ _ xs h => ⟨xs, h⟩⟩
  case round =>
    obtain ⟨k, ys, hk, rfl, ho, hbel, hrow⟩ := hrel
    have HR := Lib.hid hrow
    clear hrow
    by_cases hlt : k < n
    · have hyl : k < ys.length := by have := ho.1; omega
      have c2 : wr.cell? ⟨g, k, none⟩ = some ys[k] := (ho.cellAt k (by omega)).trans (List.getElem?_eq_getElem hyl)
      have f2 : wr.frozen? ⟨g, k, none⟩ = false := ho.frozenAt k
      generalize ys[k] = y at c2
      have HS := Lib.hid (ho.stored k (.int .i64 x))
      go_wp2_with fail
      exact ⟨⟨k + 1, _, by omega, by go_num, HS.out.1, hbel.setCell hgB _, fun base e size v n xs h => by obtain ⟨zs, hz⟩ := HR.out base e size v n xs h; exact own_shape_set hz g k _⟩, by simp [intOf]; omega⟩
    · go_wp2_with fail
      go_end0
      exact ⟨rfl, hbel, HR.out⟩
theorem spoilInts_gen (a : Option Addr) (n c B : Nat) (x : Int) (xs : List Value) (w : World) (hown : w.ownsRow B 3 1 (.slice a n c) n xs) :
    Calls Try.prog 17 #[.slice a n c, .int .i64 x] w fun e w' => e = .returned (.tuple #[]) ∧ Below B w w' ∧ Rowed w w' := by
  rcases hown.2 with ⟨h', h0⟩ | ⟨g, c', cur, h', hb, hg, hnc, hm, _⟩
  · injection h' with e1 e2 e3
    subst e1 e3
    rw [h0]
    refine (spoilInts_none x w).mono ?_
    rintro e w' ⟨rfl, rfl⟩
    exact ⟨rfl, Below.refl _ _, fun _ _ _ _ _ xs h => ⟨xs, h⟩⟩
  · injection h' with e1 e2 e3
    subst e1 e3
    obtain ⟨ys, hy⟩ := own_wide hown
    exact spoilInts_row g c n B x ys w (by unfold maxLen at hm; omega) hy
end Go.Proofs.Ytchfccbneedejaa
namespace Go.Proofs.Ytchfccbneedejaa
open Go.RowKit
theorem below_tr {p : Nat} {w w1 w2 : World} (h : Below p w w1) (hp : w.heap.size = p) (h2 : Below w1.heap.size w1 w2) : Below p w w2 := h.trans (h2.mono (hp ▸ h.size))
theorem own_small {w : World} {B : Nat} {e : TypeId} {size : Nat} {a : Option Addr} {n c : Nat} {xs : List Value} (h : w.ownsRow B e size (.slice a n c) n xs) : n ≤ 9223372036854775807 := by
  rcases h.2 with ⟨_, h0⟩ | ⟨g, c', cur, h', hb, hg, hnc, hm, _⟩
  · omega
  · unfold maxLen at hm; omega
theorem sameN_any (a a' : Option Addr) (cap cap' : Nat) (xs : List Nat) (w : World) (hlen : xs.length ≤ 9223372036854775807) (hr : Ints w a (ints xs)) (hr' : Ints w a' (ints xs)) :
    Calls Try.prog 16 #[.slice a xs.length cap, .slice a' xs.length cap'] w fun e w' => e = .returned (.bool true) ∧ Below w.heap.size w w' := by
  have h := sameInts_any a a' cap cap' (ints xs) w (by rw [ints_len]; exact hlen) hr hr'
  rw [ints_len] at h
  exact h
set_option maxRecDepth 100000 in
set_option maxHeartbeats 3200000 in
theorem cuts_any (N : Int) (a : Option Addr) (l : List A) (cap : Nat) (ax : Option Addr) (xs : List Int) (cx : Nat) (bd : Int) (w : World) (hlen : l.length * 24 ≤ 140737488351232) (hna : a = none → l = [] ∧ cap = 0) (hr : Arcs w a l) (hlx : xs.length * 8 ≤ 140737488351232) (hnx : ax = none → xs = [] ∧ cx = 0) (hrx : Ints w ax xs) :
    Calls Try.prog 3 #[.agg #[.int .i64 N, .slice a l.length cap], .slice ax xs.length cx, .int .i64 bd] w fun e w' => e = .returned (.bool true) ∧ Below w.heap.size w w' := by
  have HIX := Lib.hid hrx
  have HNX := Lib.hid hnx
  clear hrx hnx
  have hl : l.length ≤ 9223372036854775807 := by omega
  have hml : xs.length ≤ 9223372036854775807 := by omega
  have hb0 : Below w.heap.size w (w.alloc (.cells #[.int .i64 N, .slice a l.length cap] 24)) := (Below.refl _ _).alloc (Nat.le_refl _) _
  have hg := heap_top w (.cells #[.int .i64 N, .slice a l.length cap] 24)
  have HAR := Lib.hid hr
  have HNA := Lib.hid hna
  clear hna
  have HA0 := Lib.hid (hr.on hb0)
  clear hr
  generalize hp : w.heap.size = p at *
  go_enter Try.func3, Try.ntmps3
  go_wp2_with fail
  generalize hW : w.alloc (.cells #[.int .i64 N, .slice a l.length cap] 24) = W at *
  refine (large_any N a l cap W hl HA0.out).mono ?_
  rintro e w1 ⟨rfl, hb1⟩
  have hg1 := (hb1.block _ (lt_of_block hg)).trans hg
  have HB1 := Lib.hid (below_tr hb0 hp hb1)
  obtain ⟨⟨g0, g1⟩, _⟩ := two_cells hg1
  clear hb1 hg hb0 hW HA0
  obtain ⟨V, HV⟩ := named (lgB N l)
  rw [HV.out]
  cases V
  · have HA1 : Hid (Arcs w1 a l) := HAR.out.on (by rw [hp]; exact HB1.out)
    go_wp2_with fail
    refine (lend_any N a l cap w1 hlen HNA.out HA1.out).mono ?_
    rintro e w2 ⟨g, cg, rfl, hcg1, hcg2, hown, hb2⟩
    have HST := Lib.hid (still_own hown)
    have HB2 := Lib.hid (below_tr HB1.out hp hb2)
    have hg2 := (hb2.block _ (lt_of_block hg1)).trans hg1
    clear hown hb2 g0 g1
    obtain ⟨⟨g0, g1⟩, _⟩ := two_cells hg2
    go_wp2_with fail
    refine (lendI_any ax xs cx w2 hlx HNX.out (HIX.out.on (by rw [hp]; exact HB2.out))).mono ?_
    rintro e w2b ⟨gi, ci, rfl, hci1, hci2, howni, hb2b⟩
    have HSI := Lib.hid (stillI_own howni)
    have HSTb := Lib.hid (HST.out.on hb2b)
    have HB2b := Lib.hid (below_tr HB2.out hp hb2b)
    have hg2b := (hb2b.block _ (lt_of_block hg2)).trans hg2
    have hb23 : Below w2b.heap.size w2b (w2b.alloc (.cells #[.int .i64 N, .slice (some ⟨g, 0, none⟩) l.length cg] 24)) := (Below.refl _ _).alloc (Nat.le_refl _) _
    have hi3 := heap_top w2b (.cells #[.int .i64 N, .slice (some ⟨g, 0, none⟩) l.length cg] 24)
    have HB3 := Lib.hid (below_tr HB2b.out hp hb23)
    have HS3 := Lib.hid (HSTb.out.on hb23)
    have HSI3 := Lib.hid (HSI.out.on hb23)
    have hg3 := (hb23.block _ (lt_of_block hg2b)).trans hg2b
    obtain ⟨⟨y0, y1⟩, _⟩ := two_cells hi3
    clear howni hb2b g0 g1 hb23
    go_wp2_with fail
    generalize hw3 : w2b.alloc (.cells #[.int .i64 N, .slice (some ⟨g, 0, none⟩) l.length cg] 24) = w3 at *
    generalize hri : w2b.heap.size = r at *
    clear hw3
    refine (cutUp_any N (some ⟨g, 0, none⟩) l cg (some ⟨gi, 0, none⟩) xs ci bd w3 hl hml HS3.out.arcs HSI3.out.ints).mono ?_
    rintro e w4 ⟨a1, c1, xs1, rfl, hown1, hx1, hb4⟩
    have HB4 := Lib.hid (below_tr HB3.out hp hb4)
    have hg4 := (hb4.block _ (lt_of_block hg3)).trans hg3
    have hi4 := (hb4.block _ (lt_of_block hi3)).trans hi3
    obtain ⟨⟨z0, z1⟩, _⟩ := two_cells hg4
    have HO1 := Lib.hid hown1
    have HS4 := Lib.hid (HS3.out.on hb4)
    have HT4 := Lib.hid (HSI3.out.on hb4)
    have HL3 : Hid (Below w3.heap.size w3 w4) := hb4
    have HX1 := Lib.hid hx1
    obtain ⟨E, HE⟩ := named (ckE N l xs bd)
    rw [HE.out] at HX1 ⊢
    clear hown1 hb4 y0 y1 hx1
    go_wp2_with fail
    refine (rcutUp_any N a l cap ax xs cx bd w4 hl hml (HAR.out.on (by rw [hp]; exact HB4.out)) (HIX.out.on (by rw [hp]; exact HB4.out))).mono ?_
    rintro e w5 ⟨a2, c2, xs2, rfl, hown2, hx2, hb5⟩
    have HB5 := Lib.hid (below_tr HB4.out hp hb5)
    have hg5 := (hb5.block _ (lt_of_block hg4)).trans hg4
    have hi5 := (hb5.block _ (lt_of_block hi4)).trans hi4
    obtain ⟨⟨y0, y1⟩, _⟩ := two_cells hi5
    rw [HE.out] at hx2 ⊢
    obtain rfl : xs2 = xs1 := hx2.trans HX1.out.symm
    have HO1b := Lib.hid (own_on HO1.out hb5)
    have HI2 := Lib.hid (own_ints hown2 rfl)
    have HS5 := Lib.hid (HS4.out.on hb5)
    have HT5 := Lib.hid (HT4.out.on hb5)
    have HL5 : Hid (Below w3.heap.size w3 w5) := HL3.out.trans (hb5.mono HL3.out.size)
    clear hown2 hb5 z0 z1 hx2
    go_wp2_with fail
    refine (sizes_any N (some ⟨g, 0, none⟩) l cg (some ⟨gi, 0, none⟩) xs ci w5 hl hml HS5.out.arcs HT5.out.ints).mono ?_
    rintro e w6 ⟨a3, c3, xs3, rfl, hown3, hx3, hb6⟩
    have HB6 := Lib.hid (below_tr HB5.out hp hb6)
    have hg6 := (hb6.block _ (lt_of_block hg5)).trans hg5
    have hi6 := (hb6.block _ (lt_of_block hi5)).trans hi5
    obtain ⟨⟨z0, z1⟩, _⟩ := two_cells hg6
    obtain ⟨C, HC⟩ := named (siE N l xs)
    rw [HC.out] at hx3 ⊢
    have HX3 := Lib.hid hx3
    have HO1c := Lib.hid (own_on HO1b.out hb6)
    have HI2b := Lib.hid (HI2.out.on hb6)
    have HO3 := Lib.hid hown3
    have HL6 : Hid (Below w3.heap.size w3 w6) := HL5.out.trans (hb6.mono HL5.out.size)
    have hz5 : w3.heap.size ≤ w5.heap.size := HL5.out.size
    clear hown3 hb6 y0 y1 hx3
    go_wp2_with fail
    refine (rsizes_any N a l cap ax xs cx w6 hl hml (HAR.out.on (by rw [hp]; exact HB6.out)) (HIX.out.on (by rw [hp]; exact HB6.out))).mono ?_
    rintro e w7 ⟨a4, c4, xs4, rfl, hown4, hx4, hb7⟩
    have HB7 := Lib.hid (below_tr HB6.out hp hb7)
    have hg7 := (hb7.block _ (lt_of_block hg6)).trans hg6
    have hi7 := (hb7.block _ (lt_of_block hi6)).trans hi6
    rw [HC.out] at hx4 ⊢
    obtain rfl : xs4 = xs3 := hx4.trans HX3.out.symm
    have HO1d := Lib.hid (own_on HO1c.out hb7)
    have HO3b := Lib.hid (own_on HO3.out hb7)
    have HI2c := Lib.hid (HI2b.out.on hb7)
    have HI4 := Lib.hid (own_ints hown4 rfl)
    have HL7 : Hid (Below w3.heap.size w3 w7) := HL6.out.trans (hb7.mono HL6.out.size)
    have hEE : (E != E) = false := by simp
    have hCC : (C != C) = false := by simp
    clear hown4 hb7 z0 z1 hx4
    go_wp2_with fail
    refine (sameN_any a1 a2 c1 c2 xs2 w7 (own_small HO1d.out) (own_ints HO1d.out rfl) HI2c.out).mono ?_
    rintro e w8 ⟨rfl, hb8⟩
    have HB8 := Lib.hid (below_tr HB7.out hp hb8)
    have HO1e := Lib.hid (own_on HO1d.out hb8)
    have HO3c := Lib.hid (own_on HO3b.out hb8)
    have HI4b := Lib.hid (HI4.out.on hb8)
    have HL8 : Hid (Below w3.heap.size w3 w8) := HL7.out.trans (hb8.mono HL7.out.size)
    clear hb8
    go_wp2_with fail
    refine (sameN_any a3 a4 c3 c4 xs4 w8 (own_small HO3c.out) (own_ints HO3c.out rfl) HI4b.out).mono ?_
    rintro e w9 ⟨rfl, hb9⟩
    have HO1f := Lib.hid (own_on HO1e.out hb9)
    have HO3d := Lib.hid (own_base (own_on HO3c.out hb9) hz5)
    have HL9 : Hid (Below w3.heap.size w3 w9) := HL8.out.trans (hb9.mono HL8.out.size)
    clear hb9
    go_wp2_with fail
    refine (spoilInts_gen a1 xs2.length c1 w3.heap.size (-7) _ w9 HO1f.out).mono ?_
    rintro e w10 ⟨rfl, hb10, hrow⟩
    obtain ⟨ys, hy⟩ := hrow _ _ _ _ _ _ HO3d.out
    have HYS := Lib.hid hy
    have HL10 : Hid (Below w3.heap.size w3 w10) := HL9.out.trans hb10
    clear hb10 hrow hy
    go_wp2_with fail
    refine (spoilInts_gen a3 xs4.length c3 w3.heap.size (-8) ys w10 HYS.out).mono ?_
    rintro e w11 ⟨rfl, hb11, _⟩
    have HL11 : Hid (Below w3.heap.size w3 w11) := HL10.out.trans hb11
    have HB11 : Hid (Below p w w11) := HB3.out.trans (HL11.out.mono (hp ▸ HB3.out.size))
    have hg11 := (HL11.out.block _ (lt_of_block hg3)).trans hg3
    have hi11 := (HL11.out.block _ (lt_of_block hi3)).trans hi3
    obtain ⟨⟨z0, z1⟩, _⟩ := two_cells hg11
    obtain ⟨⟨y0, y1⟩, _⟩ := two_cells hi11
    clear hb11
    go_wp2_with fail
    refine (kept_any N g cg a l cap w11 hlen hcg1 hcg2 (HS3.out.on HL11.out) (HAR.out.on (by rw [hp]; exact HB11.out))).mono ?_
    rintro e w12 ⟨rfl, hb12⟩
    have HB12 := Lib.hid (below_tr HB11.out hp hb12)
    have HI12 := Lib.hid (HIX.out.on (show Below w.heap.size w w12 by rw [hp]; exact HB12.out))
    have HSI12 := Lib.hid ((HSI3.out.on HL11.out).on hb12)
    clear hb12
    go_wp2_with fail
    refine (keptI_any gi ci ax xs cx w12 hlx hci1 HSI12.out HI12.out).mono ?_
    rintro e w12b ⟨rfl, hb12b⟩
    have HB12b := Lib.hid (below_tr HB12.out hp hb12b)
    clear hb12b
    go_wp2_with fail
    refine (works_any w12b).mono ?_
    rintro e w13 ⟨rfl, hb13⟩
    have HB13 := Lib.hid (below_tr HB12b.out hp hb13)
    clear hb13
    go_wp2_with fail
    go_ret
    exact ⟨rfl, HB13.out⟩
  · go_wp2_with fail
    refine (works_any w1).mono ?_
    rintro e w2 ⟨rfl, hb2⟩
    have HB2 := Lib.hid (below_tr HB1.out hp hb2)
    clear hb2
    go_wp2_with fail
    go_ret
    exact ⟨rfl, HB2.out⟩
end Go.Proofs.Ytchfccbneedejaa
namespace Go.Proofs.Ytchfccbneedejaa
open Go.RowKit
open Go.Deep (open_slice choose_lt)
theorem cells24 : Try.prog.cellsOf 24 = 2 := by kernel_rfl
theorem cellsI3 : Try.prog.cellsOf 3 = 1 := by kernel_rfl
theorem cells22 : Try.prog.cellsOf 22 = 1 := by kernel_rfl
theorem cells47 : Try.prog.cellsOf 47 = 1 := by kernel_rfl
theorem cells49 : Try.prog.cellsOf 49 = 3 := by kernel_rfl
theorem bytes49 : Try.prog.bytesOf 49 = 24 := by kernel_rfl
/-- What the walks are told of a graph that came in. -/
def GivenG (W : World) (v : Value) (N : Int) (a : Option Addr) (cap : Nat) (l : List A) : Prop :=
  v = .agg #[.int .i64 N, .slice a l.length cap] ∧ Arcs W a l ∧ (a = none → l = [] ∧ cap = 0) ∧ l.length * 24 ≤ 140737488351232 ∧ ∀ x ∈ l, 0 ≤ x.w ∧ x.w < 4294967296
section
variable {H : Type} {enc : TypeId × Value → H} {W : World} {spare : Nat → Bool} {held : Bool}
set_option maxRecDepth 100000 in
theorem trod_arc {fuel : Nat} {cs : List Value} {x : DataW H × List MemPlace} (h : DataW.trod enc Try.prog W 0 spare held fuel 49 cs = some x) :
    ∃ y : A, cs = [.int .i64 y.f, .int .i64 y.t, .int .u32 y.w] ∧ 0 ≤ y.w ∧ y.w < 4294967296 := by
  obtain ⟨xs, n, _, rfl, hl, hlen, hf⟩ := DataW.trod_struct Try.underlying49 h
  rw [cells49] at hl
  match cs, hl with
  | [c0, c1, c2], _ =>
    match xs, hlen with
    | [y0, y1, y2], _ =>
      have f0 := hf 0 _ rfl
      have f1 := hf 1 _ rfl
      have f2 := hf 2 _ rfl
      simp [cellsI3, cells47] at f0 f1 f2
      obtain ⟨k, e0, _⟩ := DataW.trod_int Try.underlying3 f0
      obtain ⟨u, e1, _⟩ := DataW.trod_int Try.underlying3 f1
      obtain ⟨s, e2, _, hwf⟩ := DataW.trod_int Try.underlying47 f2
      simp at e0 e1 e2
      subst e0 e1 e2
      have h1 : IntKind.u32.min ≤ s ∧ s ≤ IntKind.u32.max := by simpa [Lit.wf] using hwf
      have m1 : IntKind.u32.min = 0 := by decide
      have m2 : IntKind.u32.max = 4294967295 := by decide
      exact ⟨⟨k, u, s⟩, rfl, by show 0 ≤ s; omega, by show s < _; omega⟩
set_option maxRecDepth 100000 in
theorem trod_graph {fuel : Nat} {cs : List Value} {x : DataW H × List MemPlace} (h : DataW.trod enc Try.prog W 0 spare held fuel 24 cs = some x) :
    ∃ (N : Int) (v : Value) (y : DataW H × List MemPlace) (m : Nat), cs = [.int .i64 N, v] ∧ x.1 = .agg [.lit (.int .i64 N), y.1] ∧ DataW.trod enc Try.prog W 0 spare held m 22 [v] = some y := by
  obtain ⟨xs, n, _, rfl, hl, hlen, hf⟩ := DataW.trod_struct Try.underlying24 h
  rw [cells24] at hl
  match cs, hl with
  | [c0, c1], _ =>
    match xs, hlen with
    | [y0, y1], _ =>
      have f0 := hf 0 _ rfl
      have f1 := hf 1 _ rfl
      simp [cellsI3, cells22] at f0 f1
      obtain ⟨k, e0, g0, _⟩ := DataW.trod_int Try.underlying3 f0
      simp at e0
      subst e0 g0
      exact ⟨k, c1, y1, n, rfl, rfl, f1⟩
theorem agg_weights (k : Int) (d : DataW H) : (DataW.agg [.lit (.int .i64 k), d]).weights Try.prog 24 = d.weights Try.prog 22 ++ [] := by
  rw [DataW.weights.eq_def]
  simp only [Try.underlying24]
  rfl
set_option maxRecDepth 100000 in
theorem arcs_in {fuel : Nat} {v : Value} {y : DataW H × List MemPlace} (hy : DataW.trod enc Try.prog W 0 spare held fuel 22 [v] = some y) (hw : ∀ q ∈ y.1.weights Try.prog 22, q ≤ reachBytes) :
    ∃ a cap l, v = .slice a l.length cap ∧ Arcs W a l ∧ (a = none → l = [] ∧ cap = 0) ∧ l.length * 24 ≤ 140737488351232 ∧ ∀ x ∈ l, 0 ≤ x.w ∧ x.w < 4294967296 := by
  rcases open_slice Try.underlying22 hy with ⟨hv, _⟩ | ⟨a, len, cap, mm, nn, D, Pl, hv, hba, hlc, hcm, hmm, hyx, hel⟩
  · simp at hv
    subst hv
    exact ⟨none, 0, [], rfl, Or.inl rfl, fun _ => ⟨rfl, rfl⟩, by simp, by simp⟩
  · simp at hv
    subst hv
    have hlm : len ≤ mm := by rw [hmm]; split <;> omega
    rw [cells49] at hel
    rw [hyx] at hw
    rw [DataW.weights.eq_def] at hw
    simp only [Try.underlying22] at hw
    have hlen : len * 24 ≤ 140737488351232 := by
      have := hw _ List.mem_cons_self
      rw [bytes49] at this
      simp only [List.length_map, List.length_range, reachBytes] at this
      omega
    obtain ⟨V, hV⟩ := choose_lt (α := A) (n := len) (p := fun i t => W.cells? 0 (a.add (i * 3)) 3 = some [.int .i64 t.f, .int .i64 t.t, .int .u32 t.w] ∧ 0 ≤ t.w ∧ t.w < 4294967296) (fun i hi => by
      obtain ⟨cs', hc, ht⟩ := hel i (by omega)
      obtain ⟨t, rfl, ht2⟩ := trod_arc ht
      exact ⟨t, hc, ht2⟩)
    refine ⟨some a, cap, (List.range len).map V, by simp, ?_, (fun h => by cases h), by simpa using hlen, fun x hx => ?_⟩
    rotate_left
    · obtain ⟨i, hi, rfl⟩ := List.mem_map.1 hx
      exact (hV i (by simpa using hi)).2
    by_cases h0 : 0 < len
    · obtain ⟨b, off, spot⟩ := a
      have hc0 := (World.cells?_some (hV 0 h0).1).2.2 0 (by decide)
      have hspot : spot = none := by
        have e : W.cell? ((((⟨b, off, spot⟩ : Addr).add (0 * 3))).add 0) = some (.int .i64 (V 0).f) := hc0
        simpa [Addr.add] using World.cell?_spot e
      subst hspot
      have hat : ∀ j, j < len → (V j).at W b (off + j * 3) := by
        intro j hj
        have hcj := (World.cells?_some (hV j hj).1).2.2
        have e0 := hcj 0 (by decide)
        have e1 := hcj 1 (by decide)
        have e2 := hcj 2 (by decide)
        rw [Go.WideShapes.add_plain, Go.WideShapes.add_plain] at e0 e1 e2
        exact ⟨e0, e1, e2⟩
      refine Or.inr ⟨b, off, rfl, World.block_lt_of_cell? W _ (hat 0 h0).1, fun j hj => ?_⟩
      have hj' : j < len := by simpa using hj
      have e : ((List.range len).map V).getD j A.zero = V j := by simp [List.getD, hj']
      rw [e]
      exact hat j hj'
    · have : len = 0 := by omega
      subst this
      exact Or.inl rfl
set_option maxRecDepth 100000 in
theorem graph_in {ts : List TypeId} {ds : List (DataW H)} {j : Nat} {v : Value} {d : DataW H} {p : List MemPlace} {base : Nat} (hval : Value.okWide Try.prog W .any base 24 v) (hd : DataW.Trod enc Try.prog W 0 spare held 24 v d p)
    (hsz : (DataW.weightsEach Try.prog ts ds).all (· ≤ reachBytes) = true) (ht : ts[j]? = some 24) (hj : ds[j]? = some d) : ∃ N a cap l, GivenG W v N a cap l := by
  obtain ⟨cs, rfl, _⟩ := Go.WideShapes.okWide_struct Try.underlying24 hval
  obtain ⟨fuel, hf⟩ := hd
  obtain ⟨N, v, y, m, hcs, hx, hy⟩ := trod_graph hf
  have hx' : d = .agg [.lit (.int .i64 N), y.1] := hx
  have hw : ∀ q ∈ y.1.weights Try.prog 22, q ≤ reachBytes := fun q hq => by
    have := List.all_eq_true.1 hsz _ (DataW.weights_mem_each ht hj q (by rw [hx', agg_weights, List.append_nil]; exact hq))
    simpa using this
  obtain ⟨a, cap, l, rfl, h1, h2, h3, h4⟩ := arcs_in hy hw
  refine ⟨N, a, cap, l, ?_, h1, h2, h3, h4⟩
  have : cs.toList = [.int .i64 N, .slice a l.length cap] := hcs
  rw [← Array.toArray_toList (xs := cs), this]
end
end Go.Proofs.Ytchfccbneedejaa
namespace Go.Proofs.Ytchfccbneedejaa
open Go.RowKit
open Go.Deep (open_slice choose_lt)
theorem bytesInt : Try.prog.bytesOf 3 = 8 := by kernel_rfl
/-- What the walks are told of a list of numbers that came in. -/
def GivenI (W : World) (v : Value) (a : Option Addr) (cap : Nat) (xs : List Int) : Prop :=
  v = .slice a xs.length cap ∧ Ints W a xs ∧ (a = none → xs = [] ∧ cap = 0) ∧ xs.length * 8 ≤ 140737488351232
section
variable {H : Type} {enc : TypeId × Value → H} {W : World} {spare : Nat → Bool} {held : Bool}
set_option maxRecDepth 100000 in
theorem intl_in {ts : List TypeId} {ds : List (DataW H)} {j : Nat} {v : Value} {d : DataW H} {p : List MemPlace} {base : Nat} (hval : Value.okWide Try.prog W .any base 25 v) (hd : DataW.Trod enc Try.prog W 0 spare held 25 v d p)
    (hsz : (DataW.weightsEach Try.prog ts ds).all (· ≤ reachBytes) = true) (ht : ts[j]? = some 25) (hj : ds[j]? = some d) : ∃ a cap l, GivenI W v a cap l := by
  obtain ⟨a0, len0, cap0, rfl⟩ := Go.WideShapes.okWide_slice Try.underlying25 hval
  obtain ⟨fuel, hf⟩ := hd
  rcases open_slice Try.underlying25 hf with ⟨hv, _⟩ | ⟨a, len, cap, mm, nn, D, Pl, hv, hba, hlc, hcm, hmm, hyx, hel⟩
  · simp [Value.cells] at hv
    obtain ⟨rfl, rfl, rfl⟩ := hv
    exact ⟨none, 0, [], rfl, Or.inl rfl, fun _ => ⟨rfl, rfl⟩, by simp⟩
  · simp [Value.cells] at hv
    obtain ⟨rfl, rfl, rfl⟩ := hv
    have hlm : len0 ≤ mm := by rw [hmm]; split <;> omega
    rw [cellsI3] at hel
    have hyx' := (Prod.mk.inj hyx).1
    subst hyx'
    have hw := sized_slice hsz ht hj Try.underlying25
    rw [bytesInt] at hw
    simp only [List.length_map, List.length_range, reachBytes] at hw
    obtain ⟨V, hV⟩ := choose_lt (α := Int) (n := len0) (p := fun i t => W.cells? 0 (a.add (i * 1)) 1 = some [.int .i64 t]) (fun i hi => by
      obtain ⟨cs', hc, ht'⟩ := hel i (by omega)
      obtain ⟨t, e, _⟩ := DataW.trod_int Try.underlying3 ht'
      subst e
      exact ⟨t, hc⟩)
    refine ⟨some a, cap0, (List.range len0).map V, by simp, ?_, (fun h => by cases h), by simp; omega⟩
    by_cases h0 : 0 < len0
    · obtain ⟨b, off, spot⟩ := a
      have hc0 := (World.cells?_some (hV 0 h0)).2.2 0 (by decide)
      have hspot : spot = none := by
        have e : W.cell? ((((⟨b, off, spot⟩ : Addr).add (0 * 1))).add 0) = some (.int .i64 (V 0)) := hc0
        simpa [Addr.add] using World.cell?_spot e
      subst hspot
      have hat : ∀ j, j < len0 → W.cell? ⟨b, off + j, none⟩ = some (.int .i64 (V j)) := by
        intro j hj
        have e0 := (World.cells?_some (hV j hj)).2.2 0 (by decide)
        rw [Go.WideShapes.add_plain, Go.WideShapes.add_plain] at e0
        simpa using e0
      refine Or.inr ⟨b, off, rfl, World.block_lt_of_cell? W _ (hat 0 h0), fun j hj => ?_⟩
      have hj' : j < len0 := by simpa using hj
      have e : ((List.range len0).map V).getD j 0 = V j := by simp [List.getD, hj']
      rw [e]
      exact hat j hj'
    · have : len0 = 0 := by omega
      subst this
      exact Or.inl rfl
end
end Go.Proofs.Ytchfccbneedejaa
