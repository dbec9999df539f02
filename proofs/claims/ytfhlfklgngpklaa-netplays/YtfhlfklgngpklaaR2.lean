/-
  The reference's net: contracts of none, nolink, bag, find.
-/
import Derived.Test.YtfhlfklgngpklaaR1
namespace Go.Proofs.Ytfhlfklgngpklaa
open Go.RowKit Go.Maps
/-- The places of a link's letters. -/
def pls (p : Pr) : List Lt → Nat → List Nat
  | [], _ => []
  | x :: r, i => if x.p = p then i :: pls p r (i + 1) else pls p r (i + 1)
theorem pls_append (p : Pr) : ∀ (l m : List Lt) (i : Nat), pls p (l ++ m) i = pls p l i ++ pls p m (i + l.length)
  | [], m, i => by simp [pls]
  | x :: r, m, i => by
    simp only [List.cons_append, pls]
    rw [pls_append p r m (i + 1), show i + 1 + r.length = i + (x :: r).length by simp; omega]
    split <;> rfl
theorem pls_len (p : Pr) : ∀ (l : List Lt) (i : Nat), (pls p l i).length ≤ l.length
  | [], _ => by simp [pls]
  | x :: r, i => by
    simp only [pls]
    have := pls_len p r (i + 1)
    split <;> simp <;> omega
theorem pls_lt (p : Pr) : ∀ (l : List Lt) (i : Nat), ∀ k ∈ pls p l i, i ≤ k ∧ k < i + l.length
  | [], _, k, h => by simp [pls] at h
  | x :: r, i, k, h => by
    simp only [pls] at h
    have hr := pls_lt p r (i + 1) k
    simp only [List.length_cons]
    split at h
    · rcases List.mem_cons.1 h with rfl | h
      · omega
      · have := hr h; omega
    · have := hr h; omega
theorem pls_more (p : Pr) (l : List Lt) (j : Nat) (hj : j < l.length) : pls p (l.take (j + 1)) 0 = pls p (l.take j) 0 ++ (if (l[j]).p = p then [j] else []) := by
  rw [List.take_succ_eq_append_getElem hj, pls_append]
  simp only [pls, List.length_take, Nat.min_eq_left (Nat.le_of_lt hj), Nat.zero_add]
def natC (l : List Nat) : List Value := l.map fun (i : Nat) => Value.int .i64 (i : Int)
theorem natC_append (l m : List Nat) : natC (l ++ m) = natC l ++ natC m := by unfold natC; simp
theorem natC_len (l : List Nat) : (natC l).length = l.length := by unfold natC; simp
theorem natC_at (l : List Nat) (j : Nat) (h : j < l.length) : (natC l)[j]? = some (.int .i64 ((l[j] : Nat) : Int)) := by unfold natC; simp [h]
theorem info3 : ∃ i, Try.prog.info? 3 = some i ∧ i.zero = some (.int .i64 0) ∧ i.size = 1 ∧ i.bytes = 8 := by
  have h : (Try.prog.info? 3).map (fun i => (i.zero, i.size, i.bytes)) = some (some (.int .i64 0), 1, 8) := by kernel_rfl
  cases hi : Try.prog.info? 3 with
  | none => rw [hi] at h; cases h
  | some i => rw [hi] at h; simp at h; exact ⟨i, rfl, h.1, h.2.1, h.2.2⟩
section
variable {w w' : World} {r : Nat} {uv lv tv : Value} {R : RS} {D : Nat → Prop}
theorem none_any (h : RM w r uv lv tv R) (a : Int) :
    Calls Try.prog 61 #[.pointer (some ⟨r, 0, none⟩), .int .i64 a] w fun e w' => e = .returned (.bool (!ndB R.up.length a)) ∧ w' = w := by
  obtain ⟨c0, -, -, -⟩ := (cells4 h.hd).1
  obtain ⟨ua, uc, hu⟩ := own_slice h.uo
  subst hu
  generalize R.up.length = N at *
  clear h
  by_cases h1 : 0 ≤ a
  · have h1' : ¬ a < 0 := by omega
    by_cases h2 : a < N
    · have h2' : ¬ (N : Int) ≤ a := by omega
      rw [show (!ndB N a) = false by simp [ndB, h1, h2]]
      go_enter Try.func61, Try.ntmps61
      go_wp2_with fail
      go_ret
      exact ⟨rfl, rfl⟩
    · have h2' : (N : Int) ≤ a := by omega
      rw [show (!ndB N a) = true by simp [ndB, h2]]
      go_enter Try.func61, Try.ntmps61
      go_wp2_with fail
      go_ret
      exact ⟨rfl, rfl⟩
  · have h1' : a < 0 := by omega
    rw [show (!ndB N a) = true by simp [ndB, h1]]
    go_enter Try.func61, Try.ntmps61
    go_wp2_with fail
    go_ret
    exact ⟨rfl, rfl⟩
theorem nolink_any (h : RM w r uv lv tv R) (p : Pr) :
    Calls Try.prog 57 #[.pointer (some ⟨r, 0, none⟩), .int .i64 p.a, .int .i64 p.b] w fun e w' => e = .returned (.bool (!lkB R.up.length p)) ∧ w' = w := by
  obtain ⟨a, b⟩ := p
  have HA := Lib.hid (none_any h a)
  have HB := Lib.hid (none_any h b)
  have HL := Lib.hid (lkB_of R.up.length ⟨a, b⟩)
  generalize R.up.length = N at *
  clear h
  cases ha : ndB N a
  · rw [ha] at HA
    have HX : lkB N ⟨a, b⟩ = false := by rw [HL.out]; simp [ha]
    rw [HX]
    clear HB HX
    go_enter Try.func57, Try.ntmps57
    go_wp2_with fail
    refine HA.out.mono ?_
    rintro e w2 ⟨rfl, rfl⟩
    go_wp2_with fail
    go_ret
    exact ⟨rfl, rfl⟩
  · rw [ha] at HA
    cases hb : ndB N b
    · rw [hb] at HB
      have HX : lkB N ⟨a, b⟩ = false := by rw [HL.out]; simp [hb]
      rw [HX]
      clear HX
      go_enter Try.func57, Try.ntmps57
      go_wp2_with fail
      refine HA.out.mono ?_
      rintro e w2 ⟨rfl, rfl⟩
      go_wp2_with fail
      refine HB.out.mono ?_
      rintro e w2 ⟨rfl, rfl⟩
      go_wp2_with fail
      go_ret
      exact ⟨rfl, rfl⟩
    · rw [hb] at HB
      by_cases hab : a = b
      · have HX : lkB N ⟨a, b⟩ = false := by rw [HL.out]; simp [hab]
        rw [HX]
        clear HX HL
        subst hab
        go_enter Try.func57, Try.ntmps57
        go_wp2_with fail
        refine HA.out.mono ?_
        rintro e w2 ⟨rfl, rfl⟩
        go_wp2_with fail
        refine HB.out.mono ?_
        rintro e w2 ⟨rfl, rfl⟩
        go_wp2_with fail
        go_ret
        exact ⟨rfl, rfl⟩
      · have HX : lkB N ⟨a, b⟩ = true := by rw [HL.out]; simp [ha, hb, hab]
        rw [HX]
        have hab' : (a == b) = false := by simp [hab]
        clear HX HL
        go_enter Try.func57, Try.ntmps57
        go_wp2_with fail
        refine HA.out.mono ?_
        rintro e w2 ⟨rfl, rfl⟩
        go_wp2_with fail
        refine HB.out.mono ?_
        rintro e w2 ⟨rfl, rfl⟩
        go_wp2_with fail
        go_ret
        exact ⟨rfl, rfl⟩
set_option maxRecDepth 100000 in
set_option maxHeartbeats 3200000 in
theorem bag_any (h : RM w r uv lv tv R) (hl : R.ls.length ≤ 1000000) (p : Pr) :
    Calls Try.prog 58 #[.pointer (some ⟨r, 0, none⟩), .int .i64 p.a, .int .i64 p.b] w fun e w' => ∃ v, e = .returned v ∧ w'.ownsRow w.heap.size 3 1 v (pls p R.ls 0).length (natC (pls p R.ls 0)) ∧ Below w.heap.size w w' := by
  obtain ⟨i0, hi, hz0, hz1, hz2⟩ := info3
  obtain ⟨-, c1, -, -⟩ := (cells4 h.hd).1
  obtain ⟨la, lc, hv⟩ := own_slice h.lo
  subst hv
  obtain ⟨x, y⟩ := p
  have hrl := lt_of_block h.hd
  have H := Lib.hid h
  obtain ⟨N, HN⟩ := named R.ls.length
  rw [HN.out] at c1 hl
  clear h
  go_enter Try.func58, Try.ntmps58
  go_wp2_with fail
  go_loopw [7, 8] (fun ov i wr => ∃ j : Nat, j ≤ N ∧ i = .int .i64 j ∧ Hid (wr.ownsRow w.heap.size 3 1 ov (pls ⟨x, y⟩ (R.ls.take j) 0).length (natC (pls ⟨x, y⟩ (R.ls.take j) 0))) ∧ Hid (Below w.heap.size w wr)) (fun _ i _ => N - (intOf i).toNat)
  case atStart => exact ⟨0, Nat.zero_le _, rfl, ⟨rfl, Or.inl ⟨rfl, rfl⟩⟩, Below.refl _ _⟩
  case round =>
    obtain ⟨j, hj, rfl, HO, HB⟩ := hrel
    have d1 := (HB.out.cell (p := ⟨r, 1, none⟩) hrl).trans c1
    obtain ⟨oa, oc, hvo⟩ := own_slice HO.out
    subst hvo
    by_cases hlt : j < N
    · have hjl : j < R.ls.length := by rw [HN.out]; exact hlt
      obtain ⟨g, c, hv, p0, p1, -⟩ := (H.out.on HB.out).letter j hjl
      injection hv with hv1 _ hv3
      subst hv1 hv3
      have HM := Lib.hid (pls_more ⟨x, y⟩ R.ls j hjl)
      have hcnt := pls_len ⟨x, y⟩ (R.ls.take j) 0
      rw [List.length_take] at hcnt
      generalize pls ⟨x, y⟩ (R.ls.take j) 0 = q at *
      have hpp : ∀ u v : Int, (R.ls[j]).p.a = u → (R.ls[j]).p.b = v → ((R.ls[j]).p = ⟨x, y⟩ ↔ (u = x ∧ v = y)) := by
        intro u v hu hv
        rw [← hu, ← hv]
        cases (R.ls[j]).p
        simp
      have HPP := Lib.hid (hpp _ _ rfl rfl)
      clear hpp
      generalize (R.ls[j]).p.a = u at *
      generalize (R.ls[j]).p.b = v at *
      by_cases hu : u = x
      · by_cases hv : v = y
        · have HM2 : Hid (pls ⟨x, y⟩ (R.ls.take (j + 1)) 0 = q ++ [j]) := by
            show _ = _
            rw [HM.out, if_pos (HPP.out.2 ⟨hu, hv⟩)]
          subst hu hv
          clear HM HPP
          go_wp2_with (at_builtin; refine wpList_append_own _ rfl (.tmp 40) (.tmp 42) 79 rfl w.heap.size 3 i0 (.int .i64 0) 1 8 Try.underlying79 hi hz0 hz1 hz2 rfl (by decide) (.slice oa q.length oc) q.length (natC q) rfl (HO.out.alloc _) ⟨wr.heap.size, 0, none⟩ 1 1 [.int .i64 (j : Int)] rfl rfl (World.news_of_block (heap_top _ _)) (by intro u hu; simp at hu; subst hu; rfl) (by unfold maxLen; omega) (by omega) (by have := HB.out.size; simp; omega) ?_; intro v2 w2 hown2 hgr2 hnil2; clear hnil2; have HB2 : Hid (Below w.heap.size w w2) := (HB.out.alloc HB.out.size _).grown hgr2 (by have := HB.out.size; simp; omega) (fun k hk => (HO.out.lt k hk).1); have HO2 : Hid (w2.ownsRow w.heap.size 3 1 v2 (q.length + 1) (natC q ++ [.int .i64 (j : Int)])) := hown2; clear hown2 hgr2)
          exact ⟨⟨j + 1, by omega, by go_num, by show World.ownsRow _ _ _ _ _ _ _; rw [HM2.out, natC_append, List.length_append]; exact HO2.out, HB2⟩, by simp [intOf]; omega⟩
        · have hvb : (v == y) = false := by simp [hv]
          have HM2 : Hid (pls ⟨x, y⟩ (R.ls.take (j + 1)) 0 = q) := by
            show _ = _
            rw [HM.out, if_neg (fun e => hv (HPP.out.1 e).2), List.append_nil]
          subst hu
          clear HM HPP
          go_wp2_with fail
          exact ⟨⟨j + 1, by omega, by go_num, by show World.ownsRow _ _ _ _ _ _ _; rw [HM2.out]; exact HO.out, HB⟩, by simp [intOf]; omega⟩
      · have hub : (u == x) = false := by simp [hu]
        have HM2 : Hid (pls ⟨x, y⟩ (R.ls.take (j + 1)) 0 = q) := by
          show _ = _
          rw [HM.out, if_neg (fun e => hu (HPP.out.1 e).1), List.append_nil]
        clear HM HPP
        go_wp2_with fail
        exact ⟨⟨j + 1, by omega, by go_num, by show World.ownsRow _ _ _ _ _ _ _; rw [HM2.out]; exact HO.out, HB⟩, by simp [intOf]; omega⟩
    · have HT : Hid (R.ls.take j = R.ls) := List.take_of_length_le (by have := HN.out; omega)
      go_wp2_with fail
      go_ret
      refine ⟨_, rfl, ?_, HB.out⟩
      have HO2 := HO.out
      show World.ownsRow _ _ _ _ (.slice oa (pls ⟨x, y⟩ (R.ls.take j) 0).length oc) _ _
      rw [HT.out] at HO2 ⊢
      exact HO2
end
end Go.Proofs.Ytfhlfklgngpklaa
