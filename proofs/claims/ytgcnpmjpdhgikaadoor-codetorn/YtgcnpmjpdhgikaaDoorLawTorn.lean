/-
  The statement on torn frames answers true at every input; nothing that was there is turned.
-/
import Derived.Test.YtgcnpmjpdhgikaaDoorTorn
import Derived.Test.YtgcnpmjpdhgikaaDoorWorks
namespace Go.Proofs.YtgcnpmjpdhgikaaDoor
open Go.RowKit
set_option maxHeartbeats 400000 in
theorem torn_long (s : ByteArray) (h : 262144 < s.size) (hs : s.size ≤ 9223372036854775807) (a y : Int) (w : World) (hh : Halves w) :
    Calls Tryd.prog 8 #[.string s, .int .i64 a, .int .u8 y] w fun e w' => e = .returned (.bool true) ∧ Below w.heap.size w w' := by
  have e0 : (⟨#[]⟩ : ByteArray).toList = [] := by rw [ByteArray.toList_eq]
  go_enter Tryd.func8, Tryd.ntmps8
  go_wp2_with fail
  refine (works_any _ hh).mono ?_
  rintro e w1 ⟨rfl, hb1⟩
  go_wp2_with fail
  refine (frame_long s h hs _).mono ?_
  rintro e w2 ⟨rfl, rfl⟩
  go_wp2_with fail
  go_ret
  exact ⟨rfl, hb1⟩
theorem addr_add (b i : Nat) : (⟨b, 0, none⟩ : Addr).add i = ⟨b, i, none⟩ := by
  simp [Addr.add]
  intro h; exact h.symm
theorem wrap64_small (n : Int) (h : -9223372036854775808 ≤ n ∧ n ≤ 9223372036854775807) : wrap64 n = n := by unfold wrap64; omega
theorem conv_bytes (W : World) (F : ByteArray) : ∃ W4 cap, (convert 9 50 (.string F)).run Tryd.prog W = .ok (.slice (some ⟨W.heap.size, 0, none⟩) F.size cap) W4 ∧ (∀ j, (h : j < F.size) → W4.cell? ⟨W.heap.size, j, none⟩ = some (.int .u8 F[j].toNat)) ∧ (∀ j, j < F.size → W4.frozen? ⟨W.heap.size, j, none⟩ = false) ∧ Below W.heap.size W W4 ∧ W.heap.size < W4.heap.size := by
  have h := run_bytes_of_string (P := Tryd.prog) W 9 50 5 F Tryd.underlying9 Tryd.underlying50 Tryd.underlying5
  generalize grownCap W F.size 0 5 = cap at h
  have ht := heap_top W.drew (.cells (bytesRow F cap) 5 ((bytesRow F cap).size, (bytesRow F cap).size + 1))
  have ht' : (W.drew.alloc (.cells (bytesRow F cap) 5 ((bytesRow F cap).size, (bytesRow F cap).size + 1))).heap[W.heap.size]? = some (.cells (bytesRow F cap) 5 ((bytesRow F cap).size, (bytesRow F cap).size + 1)) := ht
  refine ⟨_, cap, h, ?_, ?_, ((Below.refl _ _).drew).alloc (Nat.le_refl _) _, lt_of_block ht'⟩
  · intro j hj
    simp only [World.cell?, ht']
    unfold bytesRow
    have hj' : j < F.data.size := hj
    simp [Array.getElem?_append]
    rw [if_pos hj, Array.getElem?_eq_getElem hj']
    rfl
  · intro j hj
    have hz : F.size ≤ (bytesRow F cap).size := by unfold bytesRow; simp
    simp only [World.frozen?, ht']
    simp
    omega
/-- The row with one byte changed, read as a text. -/
theorem conv_set {W : World} {b cap : Nat} {F : ByteArray} {p : Nat} (hp : p < F.size) (c : UInt8) (h : ∀ j, (h : j < F.size) → W.cell? ⟨b, j, none⟩ = some (.int .u8 F[j].toNat)) :
    (convert 50 9 (.slice (some ⟨b, 0, none⟩) F.size cap)).run Tryd.prog (W.setCell ⟨b, p, none⟩ (.int .u8 c.toNat)) = .ok (.string ⟨(F.data.toList.set p c).toArray⟩) (W.setCell ⟨b, p, none⟩ (.int .u8 c.toNat)) := by
  have hl : (F.data.toList.set p c).length = F.size := by simp
  have e := run_convert_bytes_back (P := Tryd.prog) (W.setCell ⟨b, p, none⟩ (.int .u8 c.toNat)) 50 9 5 ⟨b, 0, none⟩ cap (F.data.toList.set p c) Tryd.underlying50 Tryd.underlying5 Tryd.underlying9 (fun j hj => by
    rw [addr_add]
    have hj' : j < F.size := by rw [← hl]; exact hj
    by_cases e : j = p
    · subst e
      rw [World.cell?_setCell_same _ _ _ (h j hj')]
      simp
    · rw [World.cell?_setCell_other _ _ _ _ (by intro x; injection x with x1 x2; exact e x2.symm), h j hj']
      rw [List.getElem_set_ne (fun x => e x.symm)]
      rfl)
  rw [hl] at e
  exact e
set_option maxHeartbeats 1000000 in
theorem torn_any (s : ByteArray) (h : s.size ≤ 262144) (a y : Int) (hy0 : 0 ≤ y) (hy1 : y ≤ 255) (w : World) (hh : Halves w) :
    Calls Tryd.prog 8 #[.string s, .int .i64 a, .int .u8 y] w fun e w' => e = .returned (.bool true) ∧ Below w.heap.size w w' := by
  have hlen : (frameD s.data.toList).length = s.size + 8 := by rw [frameD_len]; simp
  obtain ⟨F, HF⟩ := named (⟨(frameD s.data.toList).toArray⟩ : ByteArray)
  have HFS : Hid (F.size = s.size + 8) := by
    show _ = _
    rw [← HF.out]; exact hlen
  have hF1 : F.size ≤ 262152 := by rw [HFS.out]; omega
  have hF2 : 8 ≤ F.size := by rw [HFS.out]; omega
  have hF3 : (1 : Int) ≤ F.size := by omega
  have HU1 : Hid (unD (F.extract 0 (F.size - 1)).data.toList 0 = .tuple #[.string ⟨#[]⟩, .int .i64 0, .agg #[.int .i64 0, .int .i64 23]]) := by
    show _ = _
    have e : (F.extract 0 (F.size - 1)).data.toList = (frameD s.data.toList).take (s.data.toList.length + 7) := by
      rw [extract_list, HFS.out, ← HF.out, List.drop_zero, Nat.sub_zero]
      simp
    have hb := body_cut s.data.toList (by simpa using h)
    unfold unD
    rw [e, if_neg (by omega), show (0 : Int).toNat = 0 from rfl, List.drop_zero, hb, if_neg (by decide)]
  go_enter Tryd.func8, Tryd.ntmps8
  go_wp2_with fail
  refine (works_any _ hh).mono ?_
  rintro e w1 ⟨rfl, hb1⟩
  have hh1 := hh.on hb1 hh.size
  go_wp2_with fail
  refine (frame_any s h _ hh1).mono ?_
  rintro e w2 ⟨rfl, hb2⟩
  have hh2 := hh1.on hb2 hh1.size
  have hbw := hb1.trans (hb2.mono hb1.size)
  clear hb1 hb2 hh1
  rw [HF.out]
  go_wp2_with fail
  refine (unframe_any _ 0 (by rw [extract_size]; omega) _ hh2).mono ?_
  rintro e w3 ⟨rfl, hb3⟩
  rw [HU1.out]
  have hh3 := hh2.on hb3 hh2.size
  have hbw3 := hbw.trans (hb3.mono hbw.size)
  clear hb3 hbw hh2
  obtain ⟨z, HZ⟩ : ∃ z : Nat, Hid ((z : Int) = if y = 0 then 1 else y) := ⟨(if y = 0 then 1 else y).toNat, by show _ = _; split <;> omega⟩
  have hz0 : 0 < z := by have := HZ.out; split at this <;> omega
  have hz1 : z < 256 := by have := HZ.out; split at this <;> omega
  obtain ⟨q, hq, hq2⟩ : ∃ q : Nat, wrap64 ((IntKind.u64.wrap a).tmod ((F.size : Int) - 4)) = (q : Int) ∧ 4 + q < F.size := by
    have h1 : IntKind.u64.wrap a = a % 18446744073709551616 := IntKind.wrap_u64 ..
    have h2 : (a % 18446744073709551616).tmod ((F.size : Int) - 4) = (a % 18446744073709551616) % ((F.size : Int) - 4) := Int.tmod_eq_emod_of_nonneg (by omega)
    have h3 := Int.emod_nonneg (a % 18446744073709551616) (show (F.size : Int) - 4 ≠ 0 by omega)
    have h4 := Int.emod_lt_of_pos (a % 18446744073709551616) (show (0 : Int) < (F.size : Int) - 4 by omega)
    refine ⟨((a % 18446744073709551616) % ((F.size : Int) - 4)).toNat, ?_, by omega⟩
    rw [h1, h2, wrap64_small _ (by omega)]
    omega
  have hq3 : wrap64 (4 + (q : Int)) = ((4 + q : Nat) : Int) := by rw [wrap64_small _ (by omega)]; omega
  have hbF : (F.data.toList.set (4 + q) (F[4 + q] ^^^ UInt8.ofNat z)) = (frameD s.data.toList).set (4 + q) (F[4 + q] ^^^ UInt8.ofNat z) := by
    have e : F.data.toList = frameD s.data.toList := by rw [← HF.out]
    rw [e]
  have hne : (frameD s.data.toList).getD (4 + q) 0 ≠ F[4 + q] ^^^ UInt8.ofNat z := by
    have e : F.data.toList = frameD s.data.toList := by rw [← HF.out]
    rw [← e, getD_at F (4 + q) (by omega)]
    intro e2
    have e3 := congrArg UInt8.toNat e2
    rw [UInt8.toNat_xor, toNat_of z hz1] at e3
    have e4 := xor_twice F[4 + q].toNat z
    rw [← e3, Nat.xor_self] at e4
    omega
  have hbt := body_torn s.data.toList (by simpa using h) (4 + q) (by omega) (by have := HFS.out; simp; omega) _ hne
  have HU2 : Hid (unD (⟨(F.data.toList.set (4 + q) (F[4 + q] ^^^ UInt8.ofNat z)).toArray⟩ : ByteArray).data.toList 0 = .tuple #[.string ⟨#[]⟩, .int .i64 0, .agg #[.int .i64 0, .int .i64 25]]) := by
    show unD (F.data.toList.set (4 + q) (F[4 + q] ^^^ UInt8.ofNat z)) 0 = _
    rw [hbF]
    unfold unD
    rw [if_neg (by omega), show (0 : Int).toNat = 0 from rfl, List.drop_zero, hbt, if_neg (by decide)]
  clear hbF hne hbt
  obtain ⟨W4, cap, hcv, hcell, hfro, hb4, hlt4⟩ := conv_bytes (w3.alloc (.cells #[.int .i64 0, .int .i64 23] 32)) F
  have hfc := heap_top w3 (.cells #[.int .i64 0, .int .i64 23] 32)
  have hfc4 := (hb4.block w3.heap.size (by simp)).trans hfc
  rw [World.size_alloc] at hcv hcell hfro hb4 hlt4
  have hc4 := hcell (4 + q) (by omega)
  have hf4 := hfro (4 + q) (by omega)
  have hback := conv_set (cap := cap) (show 4 + q < F.size by omega) (F[4 + q] ^^^ UInt8.ofNat z) hcell
  have hxor := u8_xor_nat F[4 + q].toNat z (UInt8.toNat_lt _) hz1
  rw [show F[4 + q].toNat ^^^ z = (F[4 + q] ^^^ UInt8.ofNat z).toNat by rw [UInt8.toNat_xor, toNat_of z hz1]] at hxor
  obtain ⟨G, HG⟩ := named (⟨(F.data.toList.set (4 + q) (F[4 + q] ^^^ UInt8.ofNat z)).toArray⟩ : ByteArray)
  have hGs : G.size ≤ 262152 := by
    have e : G.size = F.size := by rw [← HG.out]; show (F.data.toList.set _ _).length = _; simp
    omega
  rw [HG.out] at hback HU2
  have HFC4 := Lib.hid hfc4
  have HCELL := Lib.hid hcell
  clear hcell hfro hfc hfc4
  have hbw5 : Below w.heap.size w W4 := (hbw3.alloc hbw3.size _).trans (hb4.mono (by have := hbw3.size; omega))
  have hq5 : ((4 + q : Nat) : Int) < F.size := by omega
  generalize hcc : (F[4 + q] ^^^ UInt8.ofNat z).toNat = cc at *
  generalize hgg : F[4 + q].toNat = gg at *
  by_cases hy : y = 0
  all_goals
    have hzy : (z : Int) = if y = 0 then 1 else y := HZ.out
    first | rw [if_pos hy] at hzy | rw [if_neg hy] at hzy
    rw [hzy] at hxor
    have hyb : (y == 0) = decide (y = 0) := by rw [Bool.eq_iff_iff]; simp
    first | rw [decide_eq_true hy] at hyb | rw [decide_eq_false hy] at hyb
    clear hzy
    try clear hy
    go_wp2_with fail
    have hsz4 := hbw5.size
    refine (unframe_any G 0 (by omega) _ ((hh.on hbw5 hh.size).on ((Below.refl 1 _).setCell (by simp) _) (by decide))).mono ?_
    rintro e w6 ⟨rfl, hb6⟩
    rw [HU2.out]
    have hsz3 := hbw3.size
    have hfc6 := ((hb6.block w3.heap.size (by simp; omega)).trans (Below.heap_setCell W4 _ _ _ (by simp))).trans HFC4.out
    have hbw6 : Below w.heap.size w w6 := (hbw5.setCell (p := ⟨w3.heap.size + 1, 4 + q, none⟩) (by simp; omega) _).trans (hb6.mono (by simp; omega))
    obtain ⟨hg1, hg2⟩ := two_cells hfc6
    have hlt6 := lt_of_block hfc6
    clear hb6 hcv hback hc4 hf4 hfc6
    go_wp2_with fail
    go_ret
    exact ⟨rfl, (hbw6.setCell (by simp; omega) _).setCell (by simp; omega) _⟩
theorem law_torn (s : ByteArray) (hs : s.size ≤ 9223372036854775807) (a y : Int) (hy0 : 0 ≤ y) (hy1 : y ≤ 255) (w : World) (hh : Halves w) :
    Calls Tryd.prog 8 #[.string s, .int .i64 a, .int .u8 y] w fun e w' => e = .returned (.bool true) ∧ Below w.heap.size w w' := by
  by_cases h : 262144 < s.size
  · exact torn_long s h hs a y w hh
  · exact torn_any s (by omega) a y hy0 hy1 w hh
end Go.Proofs.YtgcnpmjpdhgikaaDoor
