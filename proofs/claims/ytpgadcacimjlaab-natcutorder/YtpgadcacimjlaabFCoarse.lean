/-
  The contract of (*pipes).coarsest.
-/
import Derived.Test.YtpgadcacimjlaabFSearch
import Derived.Test.YtpgadcacimjlaabShelf
namespace Go.Proofs.Ytpgadcacimjlaab.F6
open Go.RowKit
theorem six_agg {w : World} {bl m : Nat} {E : List Ed} {fl nx : Nat → Int} (hl : TbV w bl (m * 6) 118 (lv E fl nx)) {k : Nat} (hk : k < m) :
    w.cell? ⟨bl, k * 6, none⟩ = some (.int .i64 (ed E k).f) ∧ w.cell? ⟨bl, k * 6 + 1, none⟩ = some (.int .i64 (ed E k).t) ∧ w.cell? ⟨bl, k * 6 + 2, none⟩ = some (.int .u32 ((ed E k).c - fl k)) ∧ w.cell? ⟨bl, k * 6 + 3, none⟩ = some (.int .u32 (fl k)) ∧ w.cell? ⟨bl, k * 6 + 4, none⟩ = some (.int .i64 (nx (2 * k))) ∧ w.cell? ⟨bl, k * 6 + 5, none⟩ = some (.int .i64 (nx (2 * k + 1))) := by
  have h : ∀ j, j < 6 → w.cell? ⟨bl, k * 6 + j, none⟩ = some (lv E fl nx (k * 6 + j)) := fun j hj => hl.cell (by omega)
  have e : ∀ j, j < 6 → (k * 6 + j) / 6 = k ∧ (k * 6 + j) % 6 = j := fun j hj => by omega
  refine ⟨?_, ?_, ?_, ?_, ?_, ?_⟩
  · rw [show k * 6 = k * 6 + 0 from rfl, h 0 (by decide)]; unfold lv; rw [(e 0 (by decide)).1, (e 0 (by decide)).2]; rfl
  · rw [h 1 (by decide)]; unfold lv; rw [(e 1 (by decide)).1, (e 1 (by decide)).2]; rfl
  · rw [h 2 (by decide)]; unfold lv; rw [(e 2 (by decide)).1, (e 2 (by decide)).2]; rfl
  · rw [h 3 (by decide)]; unfold lv; rw [(e 3 (by decide)).1, (e 3 (by decide)).2]; rfl
  · rw [h 4 (by decide)]; unfold lv; rw [(e 4 (by decide)).1, (e 4 (by decide)).2]; rfl
  · rw [h 5 (by decide)]; unfold lv; rw [(e 5 (by decide)).1, (e 5 (by decide)).2]; rfl
theorem pow32 : ∀ j : Fin 32, 1 ≤ (2 : Int) ^ j.val % 4294967296 ∧ (2 : Int) ^ j.val % 4294967296 < 4294967296 := by decide +kernel
theorem bitLen_pos {x : Nat} (h : x ≠ 0) (hx : x < 18446744073709551616) : 1 ≤ Lib.bitLen x := by
  rw [Lib.bitLen_half x h hx]; omega
theorem bitLen_le : ∀ (k x : Nat), k ≤ 64 → x < 2 ^ k → Lib.bitLen x ≤ k
  | 0, x, _, h => by
    have : x = 0 := by simpa using h
    subst this
    decide
  | k + 1, x, hk, h => by
    by_cases e : x = 0
    · subst e
      have : Lib.bitLen 0 = 0 := by decide
      omega
    · have h64 : x < 2 ^ 64 := Nat.lt_of_lt_of_le h (Nat.pow_le_pow_right (by decide) hk)
      rw [Lib.bitLen_half x e h64]
      have := bitLen_le k (x / 2) (by omega) (by rw [Nat.pow_succ] at h; omega)
      omega
set_option maxRecDepth 100000 in
set_option maxHeartbeats 1600000 in
theorem coarsest_any {w : World} {f bl b1 b2 b3 bq bp n m : Nat} {gr : Int} {E : List Ed} {fl nx : Nat → Int} (hp : Pp w f bl b1 b2 b3 bq bp n m gr) (hl : TbV w bl (m * 6) 118 (lv E fl nx)) (hm : m ≤ 16384) (hr : ∀ j, j < m → 0 ≤ (ed E j).c - fl j ∧ (ed E j).c - fl j < 4294967296) :
    Calls Try.prog 63 #[.pointer (some ⟨f, 0, none⟩)] w fun e w' => ∃ g : Int, e = .returned (.int .u32 g) ∧ 1 ≤ g ∧ g < 4294967296 ∧ Below w.heap.size w w' := by
  obtain ⟨c0, c1, c2, c3, c4, c5, c6⟩ := seven_cells hp.hd
  have HL := Lib.hid hl
  have HR := Lib.hid hr
  clear hl hr
  go_enter Try.func63, Try.ntmps63
  go_wp2_with fail
  go_loopw [3, 11] (fun x i wr => ∃ (k : Nat) (y : Int), k ≤ m ∧ i = .int .i64 k ∧ x = .int .u32 y ∧ 1 ≤ y ∧ y < 4294967296 ∧ Hid (Below w.heap.size w wr)) (fun _ i _ => m - (intOf i).toNat)
  case atStart => exact ⟨0, 1, Nat.zero_le _, rfl, rfl, by decide, by decide, Below.refl _ _⟩
  case round =>
    obtain ⟨k, y, hk, rfl, rfl, hy1, hy2, HB⟩ := hrel
    by_cases hlt : k < m
    · have hlt' : (k : Int) < m := by omega
      have hlx := HL.out.same (HB.out.block bl HL.out.lt)
      obtain ⟨e0, e1, e2, e3, e4, e5⟩ := six_agg hlx hlt
      have hrk := HR.out k hlt
      generalize (ed E k).c - fl k = r at *
      obtain ⟨y', HY⟩ := named (if y < r then r else y)
      have hmax := HY.out
      have hy' : 1 ≤ y' ∧ y' < 4294967296 := by rw [← hmax]; split <;> omega
      clear hlx
      go_wp2_with fail
      exact ⟨⟨k + 1, max y r, by omega, by go_num, rfl, by omega, by omega, HB.out.alloc HB.out.size _⟩, by simp [intOf]; omega⟩
    · have hlt' : ¬ (k : Int) < m := by omega
      have HC := Lib.hid (Try.bits_Len32 y wr (by omega) (by omega))
      obtain ⟨L, HLN⟩ := named (Lib.bitLen y.toNat)
      have hL1 : 1 ≤ L := by rw [← HLN.out]; exact bitLen_pos (by omega) (by omega)
      have hL2 : L ≤ 32 := by rw [← HLN.out]; exact bitLen_le 32 _ (by decide) (by omega)
      rw [HLN.out] at HC
      clear c0 c1 c2 c3 c4 c5 c6
      go_wp2_with fail
      refine HC.out.mono ?_
      rintro e w3 ⟨rfl, rfl⟩
      go_wp2_with fail
      go_ret
      have hpw := pow32 ⟨L - 1, by omega⟩
      exact ⟨_, rfl, hpw.1, hpw.2, HB.out⟩
end Go.Proofs.Ytpgadcacimjlaab.F6
