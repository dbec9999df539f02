/-
  The contract of flyoverref03.Check.
-/
import Derived.Test.YtpmjbeiclmllmaaKeptP
namespace Go.Proofs.Ytpmjbeiclmllmaa
open Go.RowKit
set_option maxHeartbeats 800000 in
theorem rcheck_any (N : Int) (a : Option Addr) (l : List A) (cap : Nat) (w : World) (hl : l.length ≤ 9223372036854775807) (hr : Arcs w a l) :
    Calls Try.prog 45 #[.agg #[.int .i64 N, .slice a l.length cap]] w fun e w' => e = .returned (.tuple #[.int .i64 (chkAt N l), .int .i64 (chkE N l)]) ∧ Below w.heap.size w w' := by
  by_cases h1 : N < 1
  · rw [(chk_range (l := l) (Or.inl h1)).1, (chk_range (l := l) (Or.inl h1)).2]
    go_enter Try.func45, Try.ntmps45
    go_wp2_with fail
    go_ret2
    exact ⟨rfl, (Below.refl _ _).alloc (Nat.le_refl _) _⟩
  by_cases h2 : 1024 < N
  · rw [(chk_range (l := l) (Or.inr h2)).1, (chk_range (l := l) (Or.inr h2)).2]
    go_enter Try.func45, Try.ntmps45
    go_wp2_with fail
    go_ret2
    exact ⟨rfl, (Below.refl _ _).alloc (Nat.le_refl _) _⟩
  have hN : ¬ (N < 1 ∨ 1024 < N) := by omega
  by_cases h3 : 8192 < l.length
  · have h3' : (8192 : Int) < l.length := by omega
    rw [(chk_long hN h3).1, (chk_long hN h3).2]
    clear hN
    go_enter Try.func45, Try.ntmps45
    go_wp2_with fail
    go_ret2
    exact ⟨rfl, (Below.refl _ _).alloc (Nat.le_refl _) _⟩
  have h3' : ¬ (8192 : Int) < l.length := by omega
  have HN := Lib.hid hN
  clear hN
  obtain ⟨E, HE⟩ := named (chkE N l)
  obtain ⟨T, HAT⟩ := named (chkAt N l)
  rw [HE.out, HAT.out]
  have hb0 : Below w.heap.size w (w.alloc (.cells #[.int .i64 N, .slice a l.length cap] 24)) := (Below.refl _ _).alloc (Nat.le_refl _) _
  obtain ⟨b, o, hab⟩ := hr.b.get
  go_enter Try.func45, Try.ntmps45
  go_wp2_with fail
  go_loopw [4] (fun i wr => ∃ k : Nat, k ≤ l.length ∧ i = .int .i64 k ∧ Hid ((l.take k).all (okA N) = true) ∧ wr.heap[w.heap.size]? = some (.cells #[.int .i64 N, .slice a l.length cap] 24) ∧ Below w.heap.size w wr) (fun i _ => l.length - (intOf i).toNat)
  case atStart => exact ⟨0, Nat.zero_le _, rfl, by show _ = _; simp, heap_top w _, hb0⟩
  case round =>
    obtain ⟨k, hk, rfl, hall, hg, hb⟩ := hrel
    obtain ⟨⟨g0, g1⟩, gf0, gf1⟩ := two_cells hg
    have hsz : w.heap.size < wr.heap.size := lt_of_block hg
    by_cases hlt : k < l.length
    · obtain ⟨rfl, hbl, hat⟩ := hab (by omega)
      obtain ⟨c0, c1, c2⟩ := (hat k hlt).onB hbl hb
      have HT := Lib.hid (fun (h : okA N (l.getD k A.zero) = true) => all_take hlt hall.out h)
      have HF := Lib.hid (fun (h : okA N (l.getD k A.zero) = false) => chk_bad HN.out h3 (find_at hlt hall.out h))
      generalize l.getD k A.zero = x at *
      have b3 : Below w.heap.size w (wr.alloc (.cells #[.int .i64 x.f, .int .i64 x.t, .int .u32 x.w] 56)) := hb.alloc (by omega) _
      have hg3 := (Below.heap_alloc wr (.cells #[.int .i64 x.f, .int .i64 x.t, .int .u32 x.w] 56) _ hsz).trans hg
      by_cases q1 : 0 ≤ x.f
      · by_cases q2 : x.f < N
        · by_cases q3 : 0 ≤ x.t
          · by_cases q4 : x.t < N
            · have hA : okA N x = true := by simp [okA, okV, q1, q2, q3, q4]
              go_wp2_with fail
              exact ⟨⟨k + 1, by omega, by go_num, HT.out hA, hg3, b3⟩, by simp [intOf]; omega⟩
            · have hE := HF.out (by simp [okA, okV, q4])
              rw [HE.out, HAT.out] at hE
              obtain ⟨rfl, rfl⟩ := hE
              go_wp2_with fail
              go_ret2
              exact ⟨rfl, b3⟩
          · have hE := HF.out (by simp [okA, okV, q3])
            rw [HE.out, HAT.out] at hE
            obtain ⟨rfl, rfl⟩ := hE
            go_wp2_with fail
            go_ret2
            exact ⟨rfl, b3⟩
        · have hE := HF.out (by simp [okA, okV, q2])
          rw [HE.out, HAT.out] at hE
          obtain ⟨rfl, rfl⟩ := hE
          go_wp2_with fail
          go_ret2
          exact ⟨rfl, b3⟩
      · have hE := HF.out (by simp [okA, okV, q1])
        rw [HE.out, HAT.out] at hE
        obtain ⟨rfl, rfl⟩ := hE
        go_wp2_with fail
        go_ret2
        exact ⟨rfl, b3⟩
    · have hE := chk_ok HN.out h3 (by have := hall.out; rw [List.take_of_length_le (by omega)] at this; exact this)
      rw [HE.out, HAT.out] at hE
      obtain ⟨rfl, rfl⟩ := hE
      go_wp2_with fail
      go_ret2
      exact ⟨rfl, hb⟩
end Go.Proofs.Ytpmjbeiclmllmaa
