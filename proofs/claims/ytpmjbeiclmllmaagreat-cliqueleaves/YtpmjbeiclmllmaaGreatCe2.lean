/-
  Contracts of cell's crossed and touched.
-/
import Derived.Test.YtpmjbeiclmllmaaGreatCe1
namespace Go.Proofs.YtpmjbeiclmllmaaGreat
open Go.RowKit
/-- Truths, one for each number. -/
def boV (P : Nat → Bool) : Nat → Value := fun v => .bool (P v)
theorem boV_set (P : Nat → Bool) (x : Nat) (b : Bool) : updV (boV P) x (.bool b) = boV (fun v => if v = x then b else P v) := by
  funext v
  unfold updV boV
  by_cases h : v = x <;> simp [h]
theorem Arcs.get {w : World} {a : Option Addr} {l : List A} (h : Arcs w a l) : ∃ b o, 0 < l.length → a = some ⟨b, o, none⟩ ∧ b < w.heap.size ∧ ∀ j, j < l.length → (l.getD j A.zero).at w b (o + j * 3) := by
  rcases h with rfl | ⟨b, o, h⟩
  · exact ⟨0, 0, fun h => absurd h (by simp)⟩
  · exact ⟨b, o, fun _ => h⟩
theorem chk_in {n : Nat} {l : List A} (h : chkE n l = 0) {j : Nat} (hj : j < l.length) : inA n (l.getD j A.zero) := (chk_zero h).2.2.2 _ (by rw [show l.getD j A.zero = l[j] by simp [List.getD, List.getElem?_eq_getElem hj]]; exact List.getElem_mem hj)
set_option maxRecDepth 100000 in
set_option maxHeartbeats 1600000 in
/-- crossed: a table of truths of our own. -/
theorem crossed_any (b : Option Addr) (L : List Int) (bc : Nat) (a : Option Addr) (l : List A) (cap : Nat) (w : World) (hC : chkE L.length l = 0) (hr : Arcs w a l) (hi : Ints w b L) :
    Calls Tryz.prog 113 #[.slice b L.length bc, .agg #[.int .i64 L.length, .slice a l.length cap]] w fun e w' => ∃ g, e = .returned (.slice (some ⟨g, 0, none⟩) L.length L.length) ∧ w.heap.size ≤ g ∧ TbV w' g L.length 4 (boV (crs L l l.length)) ∧ Below w.heap.size w w' := by
  have hb0 : Below w.heap.size w (w.alloc (.cells #[.int .i64 L.length, .slice a l.length cap] 24)) := (Below.refl _ _).alloc (Nat.le_refl _) _
  have hg := heap_top w (.cells #[.int .i64 L.length, .slice a l.length cap] 24)
  obtain ⟨⟨c0, c1⟩, _⟩ := two_cells hg
  have hL : L.length ≤ 1024 := by have := (chk_zero hC).2.1; omega
  have hl8 : l.length ≤ 8192 := (chk_zero hC).2.2.1
  obtain ⟨i4, hi4, hz4, hs4, hby4⟩ := info_parts info4
  have hmk : ∀ w, (Instr.makeSlice 113 (.int .i64 L.length) (.int .i64 L.length)).run Tryz.prog w = .ok (.slice (some ⟨w.heap.size, 0, none⟩) L.length L.length) (w.alloc (.cells ((List.range L.length).map (fun _ => Value.bool false)).toArray 4)) := fun w => by
    have := run_make (P := Tryz.prog) w 113 4 i4 (.bool false) Tryz.underlying113 hi4 hz4 .i64 .i64 L.length L.length (by omega) (by omega) (by rw [hby4]; omega) (by omega)
    rw [hs4] at this
    rw [this, Int.toNat_natCast, made_bool]
  obtain ⟨ix, ox, hix⟩ := hr.get
  have HIX := Lib.hid hix
  have HIN : Hid (∀ j, j < l.length → inA L.length (l.getD j A.zero)) := fun j hj => chk_in hC hj
  have HI := Lib.hid hi
  have HB0 := Lib.hid hb0
  clear hr hi hix hC hb0
  obtain ⟨n, HN⟩ := named L.length
  rw [HN.out] at hmk HB0 c0 c1 hg HIN hL
  rw [HN.out]
  generalize hp : w.heap.size = p at *
  go_enter Tryz.func113, Tryz.ntmps113
  go_wp2_with fail
  have hw1 : (w.alloc (.cells #[.int .i64 n, .slice a l.length cap] 24)).heap.size = p + 1 := by simp [hp]
  generalize hW : (w.alloc (.cells #[.int .i64 n, .slice a l.length cap] 24)) = W at *
  clear hW hg
  have HT0 : Hid (TbV (W.alloc (.cells ((List.range n).map (fun _ => Value.bool false)).toArray 4)) (p + 1) n 4 (boV (crs L l 0))) := by
    have h := heap_top W (.cells ((List.range n).map (fun _ => Value.bool false)).toArray 4)
    rw [hw1] at h
    show TbV _ _ _ _ _
    unfold TbV
    rw [h]
    congr 3
  have HB1 : Hid (Below p w (W.alloc (.cells ((List.range n).map (fun _ => Value.bool false)).toArray 4))) := HB0.out.alloc (by omega) _
  generalize W.alloc (.cells ((List.range n).map (fun _ => Value.bool false)).toArray 4) = V at *
  clear c0 c1 HB0 hw1 hmk
  go_loopw [14] (fun i wr => ∃ (k : Nat), k ≤ l.length ∧ i = .int .i64 k ∧ Hid (TbV wr (p + 1) n 4 (boV (crs L l k))) ∧ Hid (Below p w wr)) (fun i _ => l.length - (intOf i).toNat)
  case atStart => exact ⟨0, Nat.zero_le _, rfl, HT0, HB1⟩
  case round =>
    obtain ⟨k, hk, rfl, HT, HBR⟩ := hrel
    have hwr : p + 1 < wr.heap.size := HT.out.lt
    by_cases hlk : k < l.length
    · obtain ⟨rfl, hbl, hat⟩ := HIX.out (by omega)
      have hlk' : (k : Int) < l.length := by omega
      obtain ⟨x0, x1, x2⟩ := hat k hlk
      have y0 := (HBR.out.cell (p := ⟨ix, ox + k * 3, none⟩) (hp ▸ hbl)).trans x0
      have y1 := (HBR.out.cell (p := ⟨ix, ox + k * 3 + 1, none⟩) (hp ▸ hbl)).trans x1
      have y2 := (HBR.out.cell (p := ⟨ix, ox + k * 3 + 2, none⟩) (hp ▸ hbl)).trans x2
      have hin := HIN.out k hlk
      have HCT := Lib.hid (crs_t (L := L) hlk)
      have HCF := Lib.hid (crs_f (L := L) hlk)
      generalize l.getD k A.zero = x at *
      obtain ⟨xf, xt, xw⟩ := x
      obtain ⟨⟨f0, f1⟩, t0, t1⟩ := hin
      simp only at f0 f1 t0 t1 y0 y1 y2
      obtain ⟨u, rfl⟩ : ∃ u : Nat, xf = u := ⟨xf.toNat, by omega⟩
      obtain ⟨v, rfl⟩ : ∃ v : Nat, xt = v := ⟨xt.toNat, by omega⟩
      have HPT := Lib.hid (fun W2 (hb : Below p w W2) => cePart_any b L bc ⟨u, v, xw⟩ W2 (by rw [HN.out]; exact ⟨⟨f0, f1⟩, t0, t1⟩) (by rw [HN.out]; exact hL) (HI.out.on (hp ▸ hb)))
      rw [HN.out] at HPT
      obtain ⟨P, HP⟩ := named (prt L ⟨u, v, xw⟩)
      have HPT : Hid (∀ W2, Below p w W2 → Calls Tryz.prog 59 #[.slice b n bc, .agg #[.int .i64 u, .int .i64 v, .int .u32 xw]] W2 fun e w' => e = .returned (.bool P) ∧ Below W2.heap.size W2 w') := by
        intro W2 hb
        have := HPT.out W2 hb
        rw [HP.out] at this
        exact this
      clear x0 x1 x2 hat
      have HB2 : Hid (Below p w (wr.alloc (.cells #[.int .i64 u, .int .i64 v, .int .u32 xw] 68))) := HBR.out.alloc (by omega) _
      have HG2 := Lib.hid (heap_top wr (.cells #[.int .i64 u, .int .i64 v, .int .u32 xw] 68))
      have HT2 : Hid (TbV (wr.alloc (.cells #[.int .i64 u, .int .i64 v, .int .u32 xw] 68)) (p + 1) n 4 (boV (crs L l k))) := HT.out.same (Below.heap_alloc _ _ _ hwr)
      go_wp2_with fail
      refine (HPT.out _ HB2.out).mono ?_
      rintro e w2 ⟨rfl, hb2⟩
      have HT3 : Hid (TbV w2 (p + 1) n 4 (boV (crs L l k))) := HT2.out.same (hb2.block _ HT2.out.lt)
      have hG3 := (hb2.block _ (lt_of_block HG2.out)).trans HG2.out
      obtain ⟨z0, z1, z2⟩ := three_cells hG3
      have HB3 : Hid (Below p w w2) := HB2.out.trans (hb2.mono (by simp; omega))
      have hq : p + 1 < wr.heap.size := hwr
      clear HG2 HT2 HB2 hb2 y0 y1 y2
      generalize wr.heap.size = q at *
      rcases P with _ | _
      · have HTN : Hid (TbV w2 (p + 1) n 4 (boV (crs L l (k + 1)))) := HT3.out.congr (fun v _ => by show Value.bool _ = Value.bool _; rw [HCF.out HP.out])
        go_wp2_with fail
        exact ⟨⟨k + 1, by omega, by simp, HTN, HB3⟩, by simp [intOf]; omega⟩
      · have q0 := HT3.out.free u
        have r0 := HT3.out.cell (v := u) (by omega)
        have HTS := Lib.hid (HT3.out.set u (.bool true))
        have q1 := HTS.out.free v
        have r1 := HTS.out.cell (v := v) (by omega)
        have HTN : Hid (TbV ((w2.setCell ⟨p + 1, u, none⟩ (.bool true)).setCell ⟨p + 1, v, none⟩ (.bool true)) (p + 1) n 4 (boV (crs L l (k + 1)))) := (HTS.out.set v (.bool true)).congr (fun y _ => by
          rw [boV_set, boV_set]
          show Value.bool _ = Value.bool _
          rw [HCT.out HP.out]
          simp only [Int.toNat_natCast])
        have HBN : Hid (Below p w ((w2.setCell ⟨p + 1, u, none⟩ (.bool true)).setCell ⟨p + 1, v, none⟩ (.bool true))) := (HB3.out.setCell (p := ⟨p + 1, u, none⟩) (by simp) _).setCell (p := ⟨p + 1, v, none⟩) (by simp) _
        go_wp2_with fail
        go_region
        go_wp2_with fail
        exact ⟨⟨k + 1, by omega, by simp, HTN.out.same rfl, HBN.out.drew⟩, by simp [intOf]; omega⟩
    · have hlk' : ¬ (k : Int) < l.length := by omega
      obtain rfl : k = l.length := by omega
      go_wp2_with fail
      go_ret
      exact ⟨p + 1, rfl, by omega, HT.out, HBR.out⟩
end Go.Proofs.YtpmjbeiclmllmaaGreat
