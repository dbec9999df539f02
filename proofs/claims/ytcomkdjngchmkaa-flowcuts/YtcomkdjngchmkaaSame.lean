/-
  Contracts of what the laws use to compare.
-/
import Derived.Test.YtcomkdjngchmkaaLent
namespace Go.Proofs.Ytcomkdjngchmkaa
open Go.RowKit
set_option maxHeartbeats 1600000 in
set_option maxRecDepth 100000 in
theorem sameNet_any (N : Int) (a a2 : Option Addr) (l : List A) (cap c2 : Nat) (w : World) (hl : l.length ≤ 9223372036854775806) (hr : Arcs w a l) (hr2 : Arcs w a2 l) :
    Calls Try.prog 20 #[.agg #[.int .i64 N, .slice a2 l.length c2], .agg #[.int .i64 N, .slice a l.length cap]] w fun e w' => e = .returned (.bool true) ∧ Below w.heap.size w w' := by
  have hb0 : Below w.heap.size w ((w.alloc (.cells #[.int .i64 N, .slice a2 l.length c2] 24)).alloc (.cells #[.int .i64 N, .slice a l.length cap] 24)) := ((Below.refl _ _).alloc (Nat.le_refl _) _).alloc (by simp) _
  have hg : ((w.alloc (.cells #[.int .i64 N, .slice a2 l.length c2] 24)).alloc (.cells #[.int .i64 N, .slice a l.length cap] 24)).heap[w.heap.size]? = some (.cells #[.int .i64 N, .slice a2 l.length c2] 24) := (Below.heap_alloc _ _ _ (by simp)).trans (heap_top w _)
  have h1 := heap_top (w.alloc (.cells #[.int .i64 N, .slice a2 l.length c2] 24)) (.cells #[.int .i64 N, .slice a l.length cap] 24)
  rw [show (w.alloc (.cells #[.int .i64 N, .slice a2 l.length c2] 24)).heap.size = w.heap.size + 1 by simp] at h1
  obtain ⟨b, o, hab⟩ : ∃ b o, 0 < l.length → a = some ⟨b, o, none⟩ ∧ b < w.heap.size ∧ ∀ j, j < l.length → (l.getD j A.zero).at w b (o + j * 3) := by
    rcases hr with rfl | ⟨b, o, h⟩
    · exact ⟨0, 0, fun h => absurd h (by simp)⟩
    · exact ⟨b, o, fun _ => h⟩
  obtain ⟨b2, o2, hab2⟩ : ∃ b o, 0 < l.length → a2 = some ⟨b, o, none⟩ ∧ b < w.heap.size ∧ ∀ j, j < l.length → (l.getD j A.zero).at w b (o + j * 3) := by
    rcases hr2 with rfl | ⟨b, o, h⟩
    · exact ⟨0, 0, fun h => absurd h (by simp)⟩
    · exact ⟨b, o, fun _ => h⟩
  have HAB := Lib.hid hab
  have HAB2 := Lib.hid hab2
  have hn1 : (N != N) = false := by simp
  have hm1 : ((l.length : Int) != l.length) = false := by simp
  clear hr hr2 hab hab2
  go_enter Try.func20, Try.ntmps20
  generalize hW : (w.alloc (.cells #[.int .i64 N, .slice a2 l.length c2] 24)).alloc (.cells #[.int .i64 N, .slice a l.length cap] 24) = W at *
  subst hW
  obtain ⟨⟨g0, g1⟩, gf0, gf1⟩ := two_cells hg
  obtain ⟨⟨k0, k1⟩, kf0, kf1⟩ := two_cells h1
  go_wp2_with fail
  generalize (w.alloc (.cells #[.int .i64 N, .slice a2 l.length c2] 24)).alloc (.cells #[.int .i64 N, .slice a l.length cap] 24) = W at *
  go_loopw [5] (fun i wr => ∃ k : Nat, k ≤ l.length ∧ i = .int .i64 k ∧ Hid (Below W.heap.size W wr)) (fun i _ => l.length - (intOf i).toNat)
  case atStart => exact ⟨0, Nat.zero_le _, rfl, Below.refl _ _⟩
  case round =>
    obtain ⟨k, hk, rfl, HB⟩ := hrel
    clear g0 g1 gf0 gf1 k0 k1 kf0 kf1
    obtain ⟨⟨g0, g1⟩, gf0, gf1⟩ := two_cells ((HB.out.block _ (lt_of_block hg)).trans hg)
    obtain ⟨⟨k0, k1⟩, kf0, kf1⟩ := two_cells ((HB.out.block _ (lt_of_block h1)).trans h1)
    by_cases hlt : k < l.length
    · obtain ⟨rfl, hbl, hat⟩ := HAB.out (by omega)
      obtain ⟨rfl, hbl2, hat2⟩ := HAB2.out (by omega)
      have hsW : w.heap.size < W.heap.size := lt_of_block hg
      obtain ⟨x0, x1, x2⟩ := (hat k hlt).on hb0
      obtain ⟨y0, y1, y2⟩ := (hat2 k hlt).on hb0
      have x0 := (HB.out.cell (p := ⟨b, o + k * 3, none⟩) (by show b < _; omega)).trans x0
      have x1 := (HB.out.cell (p := ⟨b, o + k * 3 + 1, none⟩) (by show b < _; omega)).trans x1
      have x2 := (HB.out.cell (p := ⟨b, o + k * 3 + 2, none⟩) (by show b < _; omega)).trans x2
      have y0 := (HB.out.cell (p := ⟨b2, o2 + k * 3, none⟩) (by show b2 < _; omega)).trans y0
      have y1 := (HB.out.cell (p := ⟨b2, o2 + k * 3 + 1, none⟩) (by show b2 < _; omega)).trans y1
      have y2 := (HB.out.cell (p := ⟨b2, o2 + k * 3 + 2, none⟩) (by show b2 < _; omega)).trans y2
      generalize l.getD k A.zero = x at *
      have hlt' : (k : Int) < l.length := by omega
      have q0 : (x.f == x.f) = true := by simp
      have q1 : (x.t == x.t) = true := by simp
      have q2 : (x.w == x.w) = true := by simp
      go_wp2_with fail
      go_quiet (fail)
      go_wp2_with fail
      exact ⟨⟨k + 1, hlt, by go_num, HB.out.trans ⟨rfl, rfl, rfl, Nat.le_refl _, fun _ _ => rfl⟩⟩, by simp [intOf]; omega⟩
    · have hge : ¬ (k : Int) < l.length := by omega
      go_wp2_with fail
      go_ret
      exact ⟨rfl, hb0.trans (HB.out.mono hb0.size)⟩
end Go.Proofs.Ytcomkdjngchmkaa
