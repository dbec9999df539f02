/-
  Contracts of the law's all and alike: what each file has.
-/
import Derived.Test.YtlbkmhlpgpfafaaLawSwap
namespace Go.Proofs.Ytlbkmhlpgpfafaa
open Go.RowKit Go.Maps Go.Joins
theorem info9 : (Try.prog.info? 9).map (fun i => (i.zero, i.size, i.bytes)) = some (some (.string ⟨#[]⟩), 1, 16) := by kernel_rfl
theorem str_one (l : List (List UInt8)) : ∀ u ∈ namesC l, u.oneCell' = true := by
  intro u hu
  unfold namesC at hu
  obtain ⟨x, _, rfl⟩ := List.mem_map.1 hu
  rfl
theorem namesC_append (l m : List (List UInt8)) : namesC (l ++ m) = namesC l ++ namesC m := by unfold namesC; simp
def allT (l : List PF) : List (List UInt8) := l.flatMap fun f => [f.nm, f.has]
theorem allT_len (l : List PF) : (allT l).length = l.length * 2 := by
  induction l with
  | nil => rfl
  | cons f r ih =>
    have : allT (f :: r) = [f.nm, f.has] ++ allT r := rfl
    rw [this, List.length_append, ih]
    simp
    omega
theorem allT_succ (l : List PF) (j : Nat) (hj : j < l.length) : allT (l.take (j + 1)) = allT (l.take j) ++ [(l[j]).nm, (l[j]).has] := by
  rw [List.take_succ_eq_append_getElem hj]
  unfold allT
  rw [List.flatMap_append]
  rfl
section
variable {w : World} {d : Nat} {ow : Nat → Option Nat} {S : PS}
theorem DK.at (h : DK w d ow S) (j : Nat) (hj : j < S.fs.length) : knE S (S.fs[j]).nm = 0 ∧ rdT S (S.fs[j]).nm = (S.fs[j]).has ∧ (S.fs[j]).nm.length ≤ 64 ∧ (S.fs[j]).has.length ≤ 262144 := by
  obtain ⟨mb, L, fu, n, h⟩ := h.dp
  have hf : fnd S (S.fs[j]).nm = some S.fs[j] := fndK_mem h.sfs (List.getElem_mem hj)
  have hm : S.fs[j] ∈ L.map Fl.pf := by
    have := h.fs
    rw [← this]
    exact List.getElem_mem hj
  obtain ⟨f, hf1, e⟩ := List.mem_map.1 hm
  have hmy : mayN (S.fs[j]).nm = true := by rw [← e]; exact h.dm.may f hf1
  have hk : knE S (S.fs[j]).nm = 0 := by
    unfold knE
    rw [hmy, hf]
    rfl
  refine ⟨hk, ?_, mayN_len hmy, ?_⟩
  · unfold rdT
    rw [hk, hf]
    rfl
  · obtain ⟨hv, sv, gh, gs, hc, _⟩ := (h.fa f hf1).fc
    rw [← e]
    exact hc.hl
theorem names_k (h : DK w d ow S) :
    Calls Try.prog 35 #[.pointer (some ⟨d, 0, none⟩)] w fun e w' => ∃ v, e = .returned v ∧ w'.ownsRow w.heap.size 9 1 v S.fs.length (namesC (S.fs.map PF.nm)) ∧ Below w.heap.size w w' := by
  obtain ⟨mb, L, fu, n, h⟩ := h.dp
  refine (names_any h.dm).mono ?_
  rintro e w1 ⟨v, rfl, hr, hb⟩
  refine ⟨v, rfl, ?_, hb⟩
  rw [h.fs, List.length_map, List.map_map]
  exact hr
theorem DK.len (h : DK w d ow S) : S.fs.length ≤ 64 := by
  obtain ⟨mb, L, fu, n, h⟩ := h.dp
  rw [h.fs, List.length_map]
  exact h.dm.len
set_option maxRecDepth 100000 in
set_option maxHeartbeats 3200000 in
theorem all_any (h : DK w d ow S) :
    Calls Try.prog 21 #[.pointer (some ⟨d, 0, none⟩)] w fun e w' => ∃ v, e = .returned v ∧ w'.ownsRow w.heap.size 9 1 v (allT S.fs).length (namesC (allT S.fs)) ∧ Below w.heap.size w w' := by
  obtain ⟨i9, hi, hz0, hz1, hz2⟩ := info_parts info9
  have HN := Lib.hid (names_k h)
  have H := Lib.hid h
  have hlen := h.len
  obtain ⟨P, HP⟩ := named S.fs
  have HAT : Hid (∀ j (hj : j < P.length), knE S (P[j]).nm = 0 ∧ rdT S (P[j]).nm = (P[j]).has ∧ (P[j]).nm.length ≤ 64 ∧ (P[j]).has.length ≤ 262144) := by
    show ∀ _ _, _
    rw [← HP.out]
    exact h.at
  rw [HP.out] at HN hlen ⊢
  obtain ⟨N, HNN⟩ := named P.length
  rw [HNN.out] at HN hlen
  clear h
  go_enter Try.func21, Try.ntmps21
  go_wp2_with fail
  refine HN.out.mono ?_
  rintro e w1 ⟨v, rfl, hr, hb⟩
  obtain ⟨av, c, hv⟩ : ∃ av c, v = .slice av N c := by
    rcases hr.2 with ⟨rfl, hh⟩ | ⟨g, c, cur, rfl, _⟩
    · exact ⟨none, 0, by rw [hh]⟩
    · exact ⟨_, c, rfl⟩
  subst hv
  have HR := Lib.hid hr
  have HB := Lib.hid hb
  clear hr hb HN
  go_wp2_with fail
  go_loopw [3, 11] (fun ov i wr => ∃ j : Nat, j ≤ N ∧ i = .int .i64 j ∧ Hid (wr.ownsRow w1.heap.size 9 1 ov (allT (P.take j)).length (namesC (allT (P.take j)))) ∧ Hid (Below w1.heap.size w1 wr)) (fun _ i _ => N - (intOf i).toNat)
  case atStart => exact ⟨0, Nat.zero_le _, rfl, ⟨rfl, Or.inl ⟨rfl, rfl⟩⟩, Below.refl _ _⟩
  case round =>
    obtain ⟨j, hj, rfl, HO, HBW⟩ := hrel
    by_cases hlt : j < N
    · have hjP : j < P.length := by rw [HNN.out]; exact hlt
      obtain ⟨ga, c', hv⟩ := ownsRow_form HR.out (show 0 < N by omega)
      injection hv with hv1 _ hv3
      subst hv1 hv3
      have hgl := (HR.out.lt ga rfl).2
      have q0 : wr.cell? ⟨ga, j, none⟩ = some (.string ⟨(P[j]).nm.toArray⟩) := by
        have h0 := (HR.out.cellAt j (by omega)).trans (namesC_at (P.map PF.nm) j (by rw [List.length_map]; exact hjP))
        rw [List.getElem_map] at h0
        exact (HBW.out.cell (p := ⟨ga, j, none⟩) hgl).trans h0
      obtain ⟨e1, e2, e3, e4⟩ := HAT.out j hjP
      have hsn : (⟨(P[j]).nm.toArray⟩ : ByteArray).size ≤ 64 := by simpa [ByteArray.size] using e3
      have HRD := Lib.hid (Read_any ((H.out.on HB.out).on HBW.out) ⟨(P[j]).nm.toArray⟩ (by unfold maxLen; omega))
      rw [show (⟨(P[j]).nm.toArray⟩ : ByteArray).data.toList = (P[j]).nm by simp, e1, e2] at HRD
      have HSU := Lib.hid (allT_succ P j hjP)
      obtain ⟨sn, HSN⟩ : ∃ s, Hid ((⟨(P[j]'hjP).nm.toArray⟩ : ByteArray) = s) := ⟨_, rfl⟩
      obtain ⟨sh, HSH⟩ : ∃ s, Hid ((⟨(P[j]'hjP).has.toArray⟩ : ByteArray) = s) := ⟨_, rfl⟩
      rw [HSN.out] at q0 HRD
      rw [HSH.out] at HRD
      clear e1 e2 e3 e4 hsn
      obtain ⟨aT, HT⟩ := named (allT (P.take j))
      have hT : aT.length ≤ 128 := by
        rw [← HT.out, allT_len, List.length_take]
        omega
      rw [HT.out] at HO HSU
      have HNC : Hid (namesC [(P[j]'hjP).nm, (P[j]'hjP).has] = [.string sn, .string sh]) := by
        show _ = _
        rw [← HSN.out, ← HSH.out]
        rfl
      go_wp2_with fail
      refine HRD.out.mono ?_
      rintro e w3 ⟨rfl, rfl⟩
      have hsz1 := HBW.out.size
      go_wp2_with (at_builtin; refine wpList_append_own _ rfl (.tmp 21) (.tmp 24) 40 rfl w1.heap.size 9 i9 (.string ⟨#[]⟩) 1 16 Try.underlying40 hi hz0 hz1 hz2 rfl (by decide) _ aT.length (namesC aT) rfl (HO.out.alloc _) ⟨w3.heap.size, 0, none⟩ 2 2 [.string sn, .string sh] rfl rfl (World.news_of_block (heap_top _ _)) (by intro u hu; simp at hu; rcases hu with rfl | rfl <;> rfl) (by unfold maxLen; omega) (by omega) (by simp; omega) ?_; intro v4 w4 hown4 hgr4 hnil4; clear hnil4)
      have hown5 : w4.ownsRow w1.heap.size 9 1 v4 (allT (P.take (j + 1))).length (namesC (allT (P.take (j + 1)))) := by
        rw [HSU.out, namesC_append, HNC.out, List.length_append]
        exact hown4
      exact ⟨⟨j + 1, by omega, by go_num, hown5, (HBW.out.alloc hsz1 _).grown hgr4 (by simp; omega) (fun k hk => (HO.out.lt k hk).1)⟩, by simp [intOf]; omega⟩
    · go_wp2_with fail
      go_ret
      have e : P.take j = P := List.take_of_length_le (by have := HNN.out; omega)
      have HO2 := HO.out
      rw [e] at HO2
      exact ⟨_, rfl, ownsRow_le HO2 HB.out.size, bthen HB.out HBW.out HB.out.size⟩
set_option maxHeartbeats 1600000 in
theorem alike_any {w : World} {B1 B2 : Nat} {v1 v2 : Value} (T : List (List UInt8)) (h1 : w.ownsRow B1 9 1 v1 T.length (namesC T)) (h2 : w.ownsRow B2 9 1 v2 T.length (namesC T)) (hT : T.length ≤ 1000) :
    Calls Try.prog 22 #[v1, v2] w fun e w' => e = .returned (.bool true) ∧ Below w.heap.size w w' := by
  obtain ⟨a1, c1, e1⟩ : ∃ a c, v1 = .slice a T.length c := by
    rcases h1.2 with ⟨rfl, hh⟩ | ⟨g, c, cur, rfl, _⟩
    · exact ⟨none, 0, by rw [hh]⟩
    · exact ⟨_, c, rfl⟩
  obtain ⟨a2, c2, e2⟩ : ∃ a c, v2 = .slice a T.length c := by
    rcases h2.2 with ⟨rfl, hh⟩ | ⟨g, c, cur, rfl, _⟩
    · exact ⟨none, 0, by rw [hh]⟩
    · exact ⟨_, c, rfl⟩
  have H1 := Lib.hid h1
  have H2 := Lib.hid h2
  obtain ⟨N, HN⟩ := named T.length
  rw [HN.out] at H1 H2 e1 e2 hT
  subst e1 e2
  clear h1 h2
  go_enter Try.func22, Try.ntmps22
  go_wp2_with fail
  go_loopw [13] (fun i wr => ∃ j n : Nat, j ≤ N ∧ i = .int .i64 j ∧ wr = w.drewN n) (fun i _ => N - (intOf i).toNat)
  case atStart => exact ⟨0, 0, Nat.zero_le _, rfl, rfl⟩
  case round =>
    obtain ⟨j, n, hj, rfl, rfl⟩ := hrel
    by_cases hlt : j < N
    · have hjT : j < T.length := by rw [HN.out]; exact hlt
      obtain ⟨g1, k1, e1⟩ := ownsRow_form H1.out (show 0 < N by omega)
      obtain ⟨g2, k2, e2⟩ := ownsRow_form H2.out (show 0 < N by omega)
      injection e1 with e11 _ e13
      injection e2 with e21 _ e23
      subst e11 e13 e21 e23
      have q1 : (w.drewN n).cell? ⟨g1, j, none⟩ = some (.string ⟨(T[j]).toArray⟩) := (H1.out.cellAt j (by omega)).trans (namesC_at T j hjT)
      have q2 : (w.drewN n).cell? ⟨g2, j, none⟩ = some (.string ⟨(T[j]).toArray⟩) := (H2.out.cellAt j (by omega)).trans (namesC_at T j hjT)
      generalize (⟨(T[j]).toArray⟩ : ByteArray) = s at *
      generalize hW : w.drewN n = W at *
      have HW := Lib.hid hW
      clear hW
      go_wp2_with fail
      go_quiet (fail)
      go_wp2_with fail
      exact ⟨⟨j + 1, _, by omega, by go_num, by rw [← HW.out]; exact World.drewN_drewN _ _ _⟩, by simp [intOf]; omega⟩
    · go_wp2_with fail
      go_ret
      exact ⟨rfl, below_drewN (Below.refl _ _) _⟩
end
end Go.Proofs.Ytlbkmhlpgpfafaa
