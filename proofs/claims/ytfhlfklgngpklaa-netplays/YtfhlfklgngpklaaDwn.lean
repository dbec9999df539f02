/-
  Contract of (*Net).Down: slices.DeleteFunc, slices.IndexFunc over timers.
-/
import Derived.Test.YtfhlfklgngpklaaTim
import Derived.Deep.DeepCutAuto
import Derived.Deep.CutBlock
import Derived.Deep.CutRange
namespace Go.Proofs.Ytfhlfklgngpklaa
open Go.RowKit Go.Maps
theorem boxedT (w : World) (a b c : Value) : (w.alloc (.cells #[a, b, c] 53)).cell? ⟨w.heap.size, 0, none⟩ = some a ∧ (w.alloc (.cells #[a, b, c] 53)).cell? ⟨w.heap.size, 1, none⟩ = some b ∧ (w.alloc (.cells #[a, b, c] 53)).cell? ⟨w.heap.size, 2, none⟩ = some c := by
  refine ⟨?_, ?_, ?_⟩ <;> rw [cell_of_row _ _ _ _ _ _ (heap_top w _)] <;> rfl
def tz : Tm := ⟨0, 0, 0⟩
theorem getT {l : List Tm} {i : Nat} (h : i < l.length) : l.getD i tz = l[i] := by simp [List.getD, List.getElem?_eq_getElem h]
/-- What DeleteFunc asks: a timer of that node? -/
theorem downf_any (w : World) (t : Tm) {bx : Nat} {a : Int} (hb : w.cell? ⟨bx, 0, none⟩ = some (.int .i64 a)) :
    Calls Try.prog 45 #[.agg #[.int .i64 t.nd, .int .i64 t.at_, .int .i64 t.tg], .pointer (some ⟨bx, 0, none⟩)] w fun e w' => e = .returned (.bool (decide (t.nd = a))) ∧ Below w.heap.size w w' := by
  obtain ⟨x, y, z⟩ := t
  have hbx : bx < w.heap.size := World.block_lt_of_cell? w _ hb
  have HB : Hid (Below w.heap.size w (w.alloc (.cells #[.int .i64 x, .int .i64 y, .int .i64 z] 53))) := Lib.hid ((Below.refl _ _).alloc (Nat.le_refl _) _)
  by_cases h : x = a
  · subst h
    rw [show decide (x = x) = true by simp]
    go_enter Try.func45, Try.ntmps45
    go_wp2_with fail
    go_ret
    exact ⟨by simp, HB.out⟩
  · rw [show decide (x = a) = false by simp [h]]
    go_enter Try.func45, Try.ntmps45
    go_wp2_with fail
    go_ret
    exact ⟨by simp [h], HB.out⟩
set_option maxRecDepth 100000 in
set_option maxHeartbeats 1600000 in
theorem index_any {w : World} {v : Value} {l : List Tm} (h : w.ownsRow 0 53 3 v l.length (tmC l)) (hl : l.length ≤ 16384) {bx : Nat} {a : Int} (hb : w.cell? ⟨bx, 0, none⟩ = some (.int .i64 a)) :
    Calls Try.prog 64 #[v, .func (.func 45) #[] #[.pointer (some ⟨bx, 0, none⟩)]] w fun e w' => (∃ r : Int, e = .returned (.int .i64 r) ∧ ((r = -1 ∧ ∀ k, k < l.length → (l.getD k tz).nd ≠ a) ∨ ∃ i : Nat, r = i ∧ i < l.length ∧ (∀ k, k < i → (l.getD k tz).nd ≠ a) ∧ (l.getD i tz).nd = a)) ∧ Below w.heap.size w w' := by
  have H := Lib.hid h
  obtain ⟨va, vc, rfl⟩ := own_slice h
  have HBX := Lib.hid hb
  obtain ⟨N, HN⟩ := named l.length
  rw [HN.out] at hl H ⊢
  clear h hb
  go_enter Try.func64, Try.ntmps64
  go_wp2_with fail
  go_loopw [8] (fun i wr => ∃ j : Nat, j ≤ N ∧ i = .int .i64 j ∧ Hid (∀ k, k < j → (l.getD k tz).nd ≠ a) ∧ Hid (Below w.heap.size w wr)) (fun i _ => N - (intOf i).toNat)
  case atStart => exact ⟨0, Nat.zero_le _, rfl, Lib.hid (fun k h => by omega), Lib.hid (Below.refl _ _)⟩
  case round =>
    obtain ⟨j, hj, rfl, HQ, HB⟩ := hrel
    by_cases hlt : j < N
    · have hjl : j < l.length := by rw [HN.out]; exact hlt
      have hr : wr.ownsRow 0 53 3 (.slice va l.length vc) l.length (tmC l) := by rw [HN.out]; exact own_below H.out HB.out
      obtain ⟨g, c, e, h1, h2, h3, q0, q1, q2⟩ := tm_at hr j hjl
      injection e with e1 _ e3
      subst e1 e3
      have HF := Lib.hid (downf_any wr (l[j]) ((HB.out.cell (p := ⟨bx, 0, none⟩) (World.block_lt_of_cell? w _ HBX.out)).trans HBX.out))
      have HG := Lib.hid (getT hjl)
      have HE : ∃ t, Hid (l[j] = t) := ⟨_, rfl⟩
      obtain ⟨t, HE⟩ := HE
      rw [HE.out] at HF q0 q1 q2 HG
      clear hr h1 h3
      unfold maxLen at h2
      by_cases hd : t.nd = a
      · rw [show decide (t.nd = a) = true by simp [hd]] at HF
        have HD := Lib.hid hd
        clear hd
        go_wp2_with fail
        refine HF.out.mono ?_
        rintro e w2 ⟨rfl, hb2⟩
        have HB2 := Lib.hid (bthen HB.out hb2 HB.out.size)
        clear hb2
        go_wp2_with fail
        go_ret
        exact ⟨⟨j, rfl, Or.inr ⟨j, rfl, hlt, HQ.out, by rw [HG.out]; exact HD.out⟩⟩, HB2.out⟩
      · rw [show decide (t.nd = a) = false by simp [hd]] at HF
        have HD := Lib.hid hd
        clear hd
        go_wp2_with fail
        refine HF.out.mono ?_
        rintro e w2 ⟨rfl, hb2⟩
        have HB2 := Lib.hid (bthen HB.out hb2 HB.out.size)
        clear hb2
        go_wp2_with fail
        exact ⟨⟨j + 1, by omega, by go_num, Lib.hid (fun k hkj => by
          rcases Nat.lt_or_ge k j with h' | h'
          · exact HQ.out k h'
          · have e : k = j := by omega
            rw [e, HG.out]
            exact HD.out), HB2⟩, by simp [intOf]; omega⟩
    · have e : j = N := by omega
      subst e
      go_wp2_with fail
      go_ret
      exact ⟨⟨-1, rfl, Or.inl ⟨rfl, HQ.out⟩⟩, HB.out⟩
end Go.Proofs.Ytfhlfklgngpklaa
