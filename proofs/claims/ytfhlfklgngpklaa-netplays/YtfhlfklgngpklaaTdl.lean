/-
  Contract of slices.Delete of the first timers.
-/
import Derived.Test.YtfhlfklgngpklaaDow
namespace Go.Proofs.Ytfhlfklgngpklaa
open Go.RowKit Go.Maps
set_option maxRecDepth 100000 in
set_option maxHeartbeats 3200000 in
theorem del3_any {w : World} {v : Value} {l : List Tm} (h : w.ownsRow 0 53 3 v l.length (tmC l)) (hl : l.length ≤ 16384) (d : Nat) (hd : d ≤ l.length) :
    Calls Try.prog 56 #[v, .int .i64 0, .int .i64 (d : Int)] w fun e w' => ∃ v', e = .returned v' ∧ Kept w w' v v' (l.drop d) := by
  by_cases hd0 : d = 0
  · subst hd0
    rw [List.drop_zero]
    have HK : Hid (Kept w w v v l) := Lib.hid ⟨h, Or.inl rfl, Fr.refl _ _⟩
    rcases tm_form h with ⟨rfl, h0⟩ | ⟨g, c, cur, rfl, hc1, hc2, hc3, hc4, hc5⟩
    · clear h
      go_enter Try.func56, Try.ntmps56
      go_wp2_with fail
      go_ret
      exact ⟨_, rfl, HK.out⟩
    · unfold maxLen at hc2
      generalize l.length = n at *
      clear h hc3 hc4 hc5
      go_enter Try.func56, Try.ntmps56
      go_wp2_with fail
      all_goals
        go_ret
        exact ⟨_, rfl, HK.out⟩
  · rcases tm_form h with ⟨rfl, h0⟩ | ⟨g, c, cur, rfl, hc1, hc2, hc3, hc4, hc5⟩
    · omega
    · obtain ⟨m, hm⟩ : ∃ m, l.length = m + d := ⟨l.length - d, by omega⟩
      have hlen : (tmC (l.drop d)).length = m * 3 := by rw [tmC_len, List.length_drop]; omega
      have hsrc : ∀ j u, (tmC (l.drop d))[j]? = some u → w.cell? ⟨g, d * 3 + j, none⟩ = some u := fun j u hu => by
        have hj : j < (tmC (l.drop d)).length := (List.getElem?_eq_some_iff.1 hu).1
        rw [← tmC_drop, List.getElem?_drop] at hu
        rw [cell_of_row w g _ cur 53 (0, 0) hc3, ← Array.getElem?_toList, hc5, List.getElem?_append_left (by rw [tmC_len, hm]; omega)]
        exact hu
      obtain ⟨A, hA, hAs⟩ : ∃ A : Addr, (if c = d then (some (⟨g, 0, none⟩ : Addr)) else some ⟨g, d * 3, none⟩) = some A ∧ ∀ j u, (tmC (l.drop d))[j]? = some u → w.drew.cell? (A.add j) = some u := by
        by_cases hcd : c = d
        · refine ⟨⟨g, 0, none⟩, by rw [if_pos hcd], fun j u hu => ?_⟩
          have hj : j < (tmC (l.drop d)).length := (List.getElem?_eq_some_iff.1 hu).1
          omega
        · refine ⟨⟨g, d * 3, none⟩, by rw [if_neg hcd], fun j u hu => ?_⟩
          rw [Go.WideShapes.add_plain]
          exact hsrc j u hu
      obtain ⟨i0, hi0, hz0, hzs, hzb⟩ := info53
      obtain ⟨cur1, hcur1⟩ : ∃ cur1 : Array Value, cur1 = (cur.toList.take (0 * i0.size) ++ tmC (l.drop d) ++ cur.toList.drop (0 * i0.size + (tmC (l.drop d)).length)).toArray := ⟨_, rfl⟩
      have hap : ∀ sc ty, (Builtin.append_ #[48, 48] ty #[.slice (some ⟨g, 0, none⟩) 0 c, .slice (some A) m sc]).run Try.prog w.drew = .ok (.slice (some ⟨g, 0, none⟩) m c) (w.drew.setRow g cur1) := fun sc ty => by
        have := run_append_room (P := Try.prog) w.drew 48 ty 53 i0 Try.underlying48 hi0 g 0 c cur hc3 A m sc (tmC (l.drop d)) (by rw [hlen, hzs]) hAs (tmC_one _) (by omega) (by rw [hlen, hc4]; omega)
        rw [← hcur1, Nat.zero_add] at this
        exact this
      have hs1 : cur1.size = c * 3 := by
        rw [hcur1]
        simp only [List.size_toArray, List.length_append, List.length_take, List.length_drop, Array.length_toList, hlen, hc4]
        omega
      have ht1 : cur1.toList.take (m * 3) = tmC (l.drop d) := by
        rw [hcur1]
        show (cur.toList.take (0 * i0.size) ++ tmC (l.drop d) ++ _).take (m * 3) = _
        rw [Nat.zero_mul, List.take_zero, List.nil_append, List.take_append, hlen, Nat.sub_self, List.take_zero, List.append_nil, List.take_of_length_le (by rw [hlen]; exact Nat.le_refl _)]
      have hg1 : (w.drew.setRow g cur1).heap[g]? = some (.cells cur1 53 (0, 0)) := setRow_heap w.drew g cur _ 53 (0, 0) hc3
      obtain ⟨cur2, q1, q2, hcl⟩ := run_clear3 (w.drew.setRow g cur1) g (m * 3) d (c - m) cur1 hg1 (by omega) (by rw [hs1]; omega)
      have HK : Hid (Kept w ((w.drew.setRow g cur1).setRow g cur2) (.slice (some ⟨g, 0, none⟩) l.length c) (.slice (some ⟨g, 0, none⟩) m c) (l.drop d)) := by
        have hll : (l.drop d).length = m := by rw [List.length_drop]; omega
        refine ⟨?_, Or.inl rfl, rfl, rfl, rfl, by simp, fun j hj hn => ?_⟩
        · rw [hll]
          exact ⟨hlen, Or.inr ⟨g, c, cur2, rfl, Nat.zero_le _, setRow_heap _ g _ _ 53 (0, 0) hg1, by omega, hc2, by rw [q1, hs1], by rw [q2, ht1]⟩⟩
        · have hjg : j ≠ g := fun e => hn (by rw [e]; rfl)
          rw [setRow_other _ _ _ _ hjg, setRow_other _ _ _ _ hjg]
          rfl
      rw [hm] at HK hl hc1 ⊢
      unfold maxLen at hc2
      have hz : ¬ ((d : Int) = 0) := by omega
      have hz' : ¬ ((0 : Int) = (d : Int)) := by omega
      have hcm : ¬ (c = m) := by omega
      have hdp : 0 < d := by omega
      have hdm : (d : Int) ≤ (m : Int) + d := by omega
      clear h hc3 hc4 hc5 hsrc hAs hi0 hz0 hzs hzb hcur1 hs1 ht1 hg1 q1 q2 hlen hm hd hd0
      go_enter Try.func56, Try.ntmps56
      go_wp2_with fail
      go_region_law (rw [if_pos (by rfl)]; refine Lib.wp_append_run _ (.tmp 22) (.tmp 25) 48 48 rfl (.slice (some ⟨g, 0, none⟩) 0 c) (.slice (some A) m (c - d)) (by simp [Act.eval, Act.put]) (by simp [Act.eval, Act.put]) _ _ (hap _ _) ?_)
      all_goals
        go_wp2_with (at_builtin; refine wpList_clr rfl _ rfl _ rfl (fun ty => hcl ty) ?_)
        go_ret
        exact ⟨_, rfl, HK.out⟩
end Go.Proofs.Ytfhlfklgngpklaa
