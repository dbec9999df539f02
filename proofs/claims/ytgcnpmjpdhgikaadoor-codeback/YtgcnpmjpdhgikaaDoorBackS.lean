/-
  Contract of the book's SameItem, at items that are the same.
-/
import Derived.Test.YtgcnpmjpdhgikaaDoorBackD
import Derived.Deep.RegionHeld3
namespace Go.Proofs.YtgcnpmjpdhgikaaDoor
open Go.RowKit
theorem box_two {w w1 : World} {A B : Obj} {n : Nat} (hb : Below n ((w.alloc A).alloc B) w1) (hn : w.heap.size + 2 ≤ n) : w1.heap[w.heap.size]? = some A ∧ w1.heap[w.heap.size + 1]? = some B := by
  have e2 := heap_top (w.alloc A) B
  rw [World.size_alloc] at e2
  have e1 : ((w.alloc A).alloc B).heap[w.heap.size]? = some A := by rw [Below.heap_alloc _ _ _ (by simp)]; exact heap_top w A
  exact ⟨(hb.block _ (by omega)).trans e1, (hb.block _ (by omega)).trans e2⟩
set_option maxHeartbeats 1600000 in
set_option maxRecDepth 100000 in
theorem same_step (k n : Int) (s : ByteArray) (m : Nat) (hm : m ≤ 16384) (a b : Option Addr) (p q o r ca cb : Nat) (ha : 0 < m → a = some ⟨p, o, none⟩) (hb : 0 < m → b = some ⟨q, r, none⟩) (t u : Nat → T) (w : World)
    (hA : ∀ j, j < m → p < w.heap.size ∧ (t j).at w p (o + j * 4)) (hB : ∀ j, j < m → q < w.heap.size ∧ (u j).at w q (r + j * 4))
    (H : ∀ j, j < m → ∀ w', Below w.heap.size w w' → Calls Tryd.prog 15 #[(t j).val, (u j).val] w' fun e w'' => e = .returned (.bool true) ∧ Below w'.heap.size w' w'') :
    Calls Tryd.prog 15 #[.agg #[.int .i64 k, .int .u64 n, .string s, .slice a m ca], .agg #[.int .i64 k, .int .u64 n, .string s, .slice b m cb]] w fun e w' => e = .returned (.bool true) ∧ Below w.heap.size w w' := by
  have HH := Lib.hid H
  have HA := Lib.hid hA
  have HB := Lib.hid hB
  clear H hA hB
  go_enter Tryd.func15, Tryd.ntmps15
  go_wp2_with fail
  go_loopw [5] (fun i wr => ∃ j : Nat, j ≤ m ∧ i = .int .i64 j ∧ Below (w.heap.size + 2) ((w.alloc (.cells #[.int .i64 k, .int .u64 n, .string s, .slice a m ca] 25)).alloc (.cells #[.int .i64 k, .int .u64 n, .string s, .slice b m cb] 25)) wr) (fun i _ => m - (intOf i).toNat)
  case atStart => exact ⟨0, Nat.zero_le _, rfl, Below.refl _ _⟩
  case round =>
    obtain ⟨j, hj, rfl, hbr⟩ := hrel
    obtain ⟨hb1, hb2⟩ := box_two hbr (Nat.le_refl _)
    obtain ⟨⟨x0, x1, x2, x3⟩, -⟩ := four_cells hb1
    obtain ⟨⟨y0, y1, y2, y3⟩, -⟩ := four_cells hb2
    have hbw : Below w.heap.size w wr := (((Below.refl _ _).alloc (Nat.le_refl _) _).alloc (by simp) _).trans (hbr.mono (by omega))
    have hsz := lt_of_block hb2
    clear hb1 hb2
    by_cases hjm : j < m
    · have hjm' : (j : Int) < m := by omega
      obtain rfl := ha (by omega)
      obtain rfl := hb (by omega)
      obtain ⟨hp1, hp2⟩ := HA.out j hjm
      obtain ⟨hq1, hq2⟩ := HB.out j hjm
      obtain ⟨a0, a1, a2, a3⟩ := hp2.on hbw
      obtain ⟨b0, b1, b2, b3⟩ := hq2.on hbw
      have HC := Lib.hid (HH.out j hjm)
      unfold T.val at HC
      clear hp2 hq2
      go_wp2_with fail
      have hpr : p < wr.heap.size := Nat.lt_of_lt_of_le hp1 hbw.size
      have hqr : q < wr.heap.size := Nat.lt_of_lt_of_le hq1 hbw.size
      have HBR := Lib.hid hbr
      have HBW := Lib.hid hbw
      have HLT : Hid (w.heap.size + 1 < wr.heap.size ∧ w.heap.size < wr.heap.size ∧ p < wr.heap.size ∧ q < wr.heap.size) := ⟨hsz, by omega, hpr, hqr⟩
      obtain ⟨X, HX⟩ := named (t j)
      obtain ⟨Y, HY⟩ := named (u j)
      rw [HX.out] at a0 a1 a2 a3 HC
      rw [HY.out] at b0 b1 b2 b3 HC
      have Hx3 := Lib.hid x3
      have Hy3 := Lib.hid y3
      have Ha0 := Lib.hid a0
      have Hb0 := Lib.hid b0
      have Ha1 := Lib.hid a1
      have Hb1 := Lib.hid b1
      have Ha2 := Lib.hid a2
      have Hb2 := Lib.hid b2
      have Ha3 := Lib.hid a3
      have Hb3 := Lib.hid b3
      clear hbr hbw x0 x1 x2 y0 y1 y2 hp1 hq1 hpr hqr hsz
      go_region_held3 (fun w' => w'.cell? ⟨w.heap.size, 3, none⟩ = some (.slice (some ⟨p, o, none⟩) m ca) ∧ w'.cell? ⟨w.heap.size + 1, 3, none⟩ = some (.slice (some ⟨q, r, none⟩) m cb) ∧ w'.cell? ⟨p, o + j * 4, none⟩ = some (.int .i64 X.k) ∧ w'.cell? ⟨q, r + j * 4, none⟩ = some (.int .i64 Y.k) ∧ w'.cell? ⟨p, o + j * 4 + 1, none⟩ = some (.int .u64 X.n) ∧ w'.cell? ⟨q, r + j * 4 + 1, none⟩ = some (.int .u64 Y.n) ∧ w'.cell? ⟨p, o + j * 4 + 2, none⟩ = some (.string X.s) ∧ w'.cell? ⟨q, r + j * 4 + 2, none⟩ = some (.string Y.s) ∧ w'.cell? ⟨p, o + j * 4 + 3, none⟩ = some (.slice X.a X.l.length X.cap) ∧ w'.cell? ⟨q, r + j * 4 + 3, none⟩ = some (.slice Y.a Y.l.length Y.cap)) (go_keep) ((go_at_call 15; refine (HC.out _ (HBW.out.trans (Below.mono (by first | exact Below.refl _ _ | exact (Below.refl _ _).drew | exact below_drewN _ _ _) HBW.out.size))).mono ?_; rintro e w2 ⟨rfl, hb2⟩; have v0 : w2.cell? ⟨w.heap.size, 3, none⟩ = some (.slice (some ⟨p, o, none⟩) m ca) := (hb2.cell (p := ⟨w.heap.size, 3, none⟩) (HLT.out.2.1)).trans Hx3.out; have v1 : w2.cell? ⟨w.heap.size + 1, 3, none⟩ = some (.slice (some ⟨q, r, none⟩) m cb) := (hb2.cell (p := ⟨w.heap.size + 1, 3, none⟩) (HLT.out.1)).trans Hy3.out; have v2 : w2.cell? ⟨p, o + j * 4, none⟩ = some (.int .i64 X.k) := (hb2.cell (p := ⟨p, o + j * 4, none⟩) (HLT.out.2.2.1)).trans Ha0.out; have v3 : w2.cell? ⟨q, r + j * 4, none⟩ = some (.int .i64 Y.k) := (hb2.cell (p := ⟨q, r + j * 4, none⟩) (HLT.out.2.2.2)).trans Hb0.out; have v4 : w2.cell? ⟨p, o + j * 4 + 1, none⟩ = some (.int .u64 X.n) := (hb2.cell (p := ⟨p, o + j * 4 + 1, none⟩) (HLT.out.2.2.1)).trans Ha1.out; have v5 : w2.cell? ⟨q, r + j * 4 + 1, none⟩ = some (.int .u64 Y.n) := (hb2.cell (p := ⟨q, r + j * 4 + 1, none⟩) (HLT.out.2.2.2)).trans Hb1.out; have v6 : w2.cell? ⟨p, o + j * 4 + 2, none⟩ = some (.string X.s) := (hb2.cell (p := ⟨p, o + j * 4 + 2, none⟩) (HLT.out.2.2.1)).trans Ha2.out; have v7 : w2.cell? ⟨q, r + j * 4 + 2, none⟩ = some (.string Y.s) := (hb2.cell (p := ⟨q, r + j * 4 + 2, none⟩) (HLT.out.2.2.2)).trans Hb2.out; have v8 : w2.cell? ⟨p, o + j * 4 + 3, none⟩ = some (.slice X.a X.l.length X.cap) := (hb2.cell (p := ⟨p, o + j * 4 + 3, none⟩) (HLT.out.2.2.1)).trans Ha3.out; have v9 : w2.cell? ⟨q, r + j * 4 + 3, none⟩ = some (.slice Y.a Y.l.length Y.cap) := (hb2.cell (p := ⟨q, r + j * 4 + 3, none⟩) (HLT.out.2.2.2)).trans Hb3.out))
      go_wp2_with fail
      exact ⟨⟨j + 1, by omega, by go_num, Below.trans (Below.trans HBR.out (by first | exact Below.refl _ _ | exact (Below.refl _ _).drew | exact below_drewN _ _ _)) (hb2.mono HLT.out.1)⟩, by simp [intOf]; omega⟩
    · have hjm' : ¬ (j : Int) < m := by omega
      go_wp2_with fail
      go_ret
      exact ⟨rfl, hbw⟩
end Go.Proofs.YtgcnpmjpdhgikaaDoor
