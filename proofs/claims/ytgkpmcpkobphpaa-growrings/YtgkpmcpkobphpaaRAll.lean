/-
  The contract of flyoverref03.All.
-/
import Derived.Test.YtgkpmcpkobphpaaMem
import Derived.LoopN
namespace Go.Proofs.Ytgkpmcpkobphpaa
open Go.RowKit
/-- The numbers below k that are marked. -/
def allk (F : Nat → Bool) (k : Nat) : List Nat := (List.range k).filter F
theorem allk_succ (F : Nat → Bool) (k : Nat) : allk F (k + 1) = if F k = true then allk F k ++ [k] else allk F k := by
  unfold allk
  rw [List.range_succ, List.filter_append]
  by_cases h : F k = true
  · rw [if_pos h]; simp [h]
  · rw [if_neg h]; simp [h]
theorem allk_len (F : Nat → Bool) (k : Nat) : (allk F k).length ≤ k := Nat.le_trans (List.length_filter_le _ _) (by simp)
set_option maxHeartbeats 800000 in
theorem rall_any {w : World} {b n : Nat} {F : Nat → Bool} (hn : n ≤ 1024) (ht : TbV w b n 4 (fun u => .bool (F u))) :
    Calls Try.prog 55 #[.slice (some ⟨b, 0, none⟩) n n] w fun e w' => ∃ v, e = .returned v ∧ w'.ownsRow w.heap.size 3 1 v (allk F n).length (cellsI (ints (allk F n))) ∧ Below w.heap.size w w' := by
  obtain ⟨i3, hi3, hz3, hs3, hby3⟩ := info_parts info3
  have HT := Lib.hid ht
  clear ht
  generalize hX : w = X at *
  clear hX
  go_enter Try.func55, Try.ntmps55
  go_wp2_with fail
  go_loopw [3, 4] (fun s3 i wr => ∃ (k : Nat) (av : Option Addr) (cv len : Nat), k ≤ n ∧ s3 = .slice av len cv ∧ i = .int .i64 k ∧ Hid ((allk F k).length = len) ∧ Hid (wr.ownsRow X.heap.size 3 1 (.slice av len cv) len (cellsI (ints (allk F k)))) ∧ Hid (Below X.heap.size X wr)) (fun _ i _ => n - (intOf i).toNat)
  case atStart => exact ⟨0, none, 0, 0, Nat.zero_le _, rfl, rfl, rfl, World.ownsRow_nil _ _ _ _, Below.refl _ _⟩
  case round =>
    obtain ⟨k, av, cv, len, hkn, rfl, rfl, HLEN, HOW, HBX⟩ := hrel
    have hlenk : len ≤ k := by rw [← HLEN.out]; exact allk_len _ _
    by_cases hlt : k < n
    · have hlt2 : (k : Int) < n := by omega
      have d1 := (HBX.out.cell (p := ⟨b, k, none⟩) HT.out.lt).trans (HT.out.cell hlt)
      obtain ⟨be, HBE⟩ := named (F k)
      rw [HBE.out] at d1
      have HRS := Lib.hid (allk_succ F k)
      rw [HBE.out] at HRS
      cases be
      · have e := HRS.out
        rw [if_neg (by simp)] at e
        have HEE := Lib.hid e
        clear e
        go_wp2_with fail
        exact ⟨⟨k + 1, av, cv, len, by omega, rfl, by simp, by show _ = _; rw [HEE.out]; exact HLEN.out, by rw [HEE.out]; exact HOW, HBX⟩, by simp [intOf]; omega⟩
      · have HNW := Lib.hid (one_new wr (k : Int))
        have HO2 := Lib.hid (HOW.out.alloc (.cells #[.int .i64 (k : Int)] 3))
        have HBZ : Hid (X.heap.size ≤ (wr.alloc (.cells #[.int .i64 (k : Int)] 3)).heap.size) := by
          show _ ≤ _
          rw [World.size_alloc]
          exact Nat.le_succ_of_le HBX.out.size
        go_wp2_with (at_builtin; refine wpList_append_own _ rfl (.tmp 15) (.tmp 17) 28 rfl X.heap.size 3 i3 (.int .i64 0) 1 8 Try.underlying28 hi3 hz3 hs3 hby3 rfl (by decide) (.slice av len cv) len (cellsI (ints (allk F k))) rfl HO2.out ⟨wr.heap.size, 0, none⟩ 1 1 [.int .i64 (k : Int)] rfl rfl HNW.out (one_i64 _) (by unfold maxLen; omega) (by omega) HBZ.out ?_; intro v6 w6 hown6 hgrow6 hnil6; obtain ⟨g6, c6, hv6, _, _, _, _⟩ := own_shape hown6 (fun e => by have := hnil6.1 e; simp at this); subst hv6; have HOB6 : Hid (∀ b, (Value.slice av len cv).ownBlock = some b → X.heap.size ≤ b) := fun b hb => (HO2.out.lt b hb).1; have HB6 : Hid (Below X.heap.size X w6) := (HBX.out.alloc HBX.out.size _).grown hgrow6 (HBX.out.alloc HBX.out.size _).size (fun j hj => HOB6.out j hj); have HO6 := Lib.hid hown6; clear hown6 hgrow6 hnil6)
        have e := HRS.out
        rw [if_pos (by rfl)] at e
        refine ⟨⟨k + 1, some ⟨g6, 0, none⟩, c6, len + 1, by omega, rfl, by simp, ?_, ?_, HB6⟩, by simp [intOf]; omega⟩
        · show _ = _
          rw [e, List.length_append, HLEN.out]; rfl
        · rw [e, ints_snoc, ← cellsI_snoc]; exact HO6
    · obtain rfl : k = n := by omega
      have hlt2 : ¬ (k : Int) < k := by omega
      go_wp2_with fail
      go_ret
      exact ⟨.slice av len cv, rfl, by rw [HLEN.out]; exact HOW.out, HBX.out⟩
end Go.Proofs.Ytgkpmcpkobphpaa
