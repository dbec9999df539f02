/-
  Contract of (*Net).Set.
-/
import Derived.Test.YtfhlfklgngpklaaTim
import Derived.Deep.DeepCutAuto
import Derived.Deep.CutBlock
import Derived.Deep.CutRange
namespace Go.Proofs.Ytfhlfklgngpklaa
open Go.RowKit Go.Maps
/-- What Set answers and leaves. -/
def seE (S : NS) (a at_ : Int) : Int := if ndB S.N a = true then (if isDn S a = true then 191 else if at_ ≤ S.now ∨ 1073741824 < at_ then 1 else if S.tm.length = 16384 then 2 else 0) else 190
def seS (S : NS) (a at_ tg : Int) : NS := if seE S a at_ = 0 then S.timed (insT ⟨a, at_, tg⟩ S.tm) else S
section
variable {w : World} {n : Nat} {P : Nat → Prop} {S : NS} {db mb : Nat} {tv : Value} {sv : Pr → Value} {D : DataW Unit} {k : Nat}
theorem Fr.cell {E : Nat → Prop} {W w5 : World} (hf : Fr E W w5) {p : Addr} {u : Value} (hc : W.cell? p = some u) (hne : ¬ E p.block) : w5.cell? p = some u := by
  have hp := World.block_lt_of_cell? W p hc
  have e := hf.block p.block hp hne
  rw [← hc]
  simp only [World.cell?, e]
theorem Fr.frozen {E : Nat → Prop} {W w5 : World} (hf : Fr E W w5) {p : Addr} (hp : p.block < W.heap.size) (hne : ¬ E p.block) : w5.frozen? p = W.frozen? p := by
  have e := hf.block p.block hp hne
  simp only [World.frozen?, e]
theorem boxedN (w : World) (v : Value) (t : TypeId) : (w.alloc (.cells #[v] t)).cell? ⟨w.heap.size, 0, none⟩ = some v := by
  rw [cell_of_row _ _ 0 _ _ _ (heap_top w _)]; rfl
/-- What Search asks of a place. -/
def ahAt (t : Tm) (l : List Tm) (i : Nat) : Bool := if h : i < l.length then ahT t l[i] else true
theorem ahAt_in {t : Tm} {l : List Tm} {i : Nat} (h : i < l.length) : ahAt t l i = ahT t l[i] := by unfold ahAt; rw [dif_pos h]
/-- Where Search stops, a timer is put in. -/
theorem stop_at {l : List Tm} {t : Tm} {j : Nat} (hj : j ≤ l.length) (h1 : ∀ i, i < j → ahAt t l i = false) (h2 : ∀ i, j ≤ i → i < l.length → ahAt t l i = true) : l.take j ++ t :: l.drop j = insT t l :=
  insT_at t l j hj (fun i h hi => by rw [← ahAt_in h]; exact h1 i hi) (fun i h hi => by rw [← ahAt_in h]; exact h2 i hi h)
theorem mono_at {l : List Tm} {t : Tm} (hs : Rising l) : ∀ i j, i ≤ j → j < l.length → ahAt t l i = true → ahAt t l j = true := by
  intro i j hij hj h
  rw [ahAt_in (by omega)] at h
  rw [ahAt_in hj]
  rcases Nat.lt_or_ge i j with h' | h'
  · exact ah_mono (List.pairwise_iff_getElem.1 hs i j (by omega) hj h') h
  · have e : i = j := by omega
    subst e
    exact h
set_option maxRecDepth 100000 in
set_option maxHeartbeats 3200000 in
theorem Set_any (h : NTx w n P S db mb tv sv D k) (hs : Rising S.tm) (a at_ tg : Int) :
    Calls Try.prog 23 #[.pointer (some ⟨n, 0, none⟩), .int .i64 a, .int .i64 at_, .int .i64 tg] w fun e w' => e = .returned (.int .i64 (seE S a at_)) ∧ To w w' n P (seS S a at_ tg) := by
  have hb1 : Below w.heap.size w (w.alloc (.cells #[.pointer (some ⟨n, 0, none⟩)] 23)) := (Below.refl _ _).alloc (Nat.le_refl _) _
  have h1 := h.on_ hb1
  have HK := Lib.hid (isNode_any (cells4 h1.hn).1.1 a)
  have HN := Lib.hid h.nt
  have HB1 := Lib.hid hb1
  have H1 := Lib.hid h1
  have hb := boxedN w (.pointer (some ⟨n, 0, none⟩)) 23
  obtain ⟨⟨c0, c1, c2, c3⟩, -⟩ := cells4 h1.hn
  unfold seS
  by_cases hI : ndB S.N a = true
  · rw [hI] at HK
    have hI2 : 0 ≤ a ∧ a < S.N := by simpa [ndB] using hI
    obtain ⟨i, rfl⟩ := Int.eq_ofNat_of_zero_le hI2.1
    have hi : i < S.N := by omega
    have hiI : (i : Int) < S.N := by omega
    have z := h1.dnc i hi
    by_cases hd : isDn S (i : Int) = true
    · have e1 : seE S i at_ = 191 := by unfold seE; rw [if_pos hI, if_pos hd]
      rw [e1, if_neg (by decide)]
      rw [hd] at z
      clear h h1 hb1 hI hd e1 hI2 c1 c2 c3 hs
      go_enter Try.func23, Try.ntmps23
      go_wp2_with fail
      refine HK.out.mono ?_
      rintro e w1 ⟨rfl, rfl⟩
      go_wp2_with fail
      go_ret
      exact ⟨rfl, HN.out.to HB1.out⟩
    · have hd0 : isDn S (i : Int) = false := by simpa using hd
      rw [hd0] at z
      by_cases hr : at_ ≤ S.now ∨ 1073741824 < at_
      · have e1 : seE S i at_ = 1 := by unfold seE; rw [if_pos hI, if_neg hd, if_pos hr]
        rw [e1, if_neg (by decide)]
        clear h h1 hb1 hI hd hd0 e1 hI2 c1 c2 hs
        by_cases hr1 : at_ ≤ S.now
        · clear hr
          go_enter Try.func23, Try.ntmps23
          go_wp2_with fail
          refine HK.out.mono ?_
          rintro e w1 ⟨rfl, rfl⟩
          go_wp2_with fail
          go_ret
          exact ⟨rfl, HN.out.to HB1.out⟩
        · have hr2 : 1073741824 < at_ := by omega
          clear hr
          go_enter Try.func23, Try.ntmps23
          go_wp2_with fail
          refine HK.out.mono ?_
          rintro e w1 ⟨rfl, rfl⟩
          go_wp2_with fail
          go_ret
          exact ⟨rfl, HN.out.to HB1.out⟩
      · have hr1 : ¬ at_ ≤ S.now := by omega
        have hr2 : ¬ 1073741824 < at_ := by omega
        obtain ⟨va, vc, hv⟩ := own_slice h1.ht
        by_cases hf : S.tm.length = 16384
        · have e1 : seE S i at_ = 2 := by unfold seE; rw [if_pos hI, if_neg hd, if_neg hr, if_pos hf]
          rw [e1, if_neg (by decide)]
          rw [hv, hf] at c2
          clear h h1 hb1 hI hd hd0 e1 hI2 c1 hs hr hv
          go_enter Try.func23, Try.ntmps23
          go_wp2_with fail
          refine HK.out.mono ?_
          rintro e w1 ⟨rfl, rfl⟩
          go_wp2_with fail
          go_ret
          exact ⟨rfl, HN.out.to HB1.out⟩
        · have e1 : seE S i at_ = 0 := by unfold seE; rw [if_pos hI, if_neg hd, if_neg hr, if_neg hf]
          rw [e1, if_pos rfl]
          have HFE := Lib.hid h.few
          have HMO := Lib.hid (mono_at (t := ⟨i, at_, tg⟩) hs)
          have hT : S.tm.length < 16384 := by have := h.few; omega
          have HT := Lib.hid hT
          have hnl : n < w.heap.size := lt_of_block h.hn
          have hnl1 : n < w.heap.size + 1 := by omega
          have hf' : ¬ ((S.tm.length : Int) = 16384) := by omega
          subst hv
          have hb2 : Below w.heap.size w ((w.alloc (.cells #[.pointer (some ⟨n, 0, none⟩)] 23)).alloc (.cells #[.int .i64 (i : Int), .int .i64 at_, .int .i64 tg] 53)) := hb1.alloc (by simp) _
          have h2 := h.on_ hb2
          have hs1 : (w.alloc (.cells #[.pointer (some ⟨n, 0, none⟩)] 23)).heap.size = w.heap.size + 1 := by simp
          have hs2 : ((w.alloc (.cells #[.pointer (some ⟨n, 0, none⟩)] 23)).alloc (.cells #[.int .i64 (i : Int), .int .i64 at_, .int .i64 tg] 53)).heap.size = w.heap.size + 1 + 1 := by simp
          have ht2 : ((w.alloc (.cells #[.pointer (some ⟨n, 0, none⟩)] 23)).alloc (.cells #[.int .i64 (i : Int), .int .i64 at_, .int .i64 tg] 53)).heap[w.heap.size + 1]? = some (.cells (tmV ⟨i, at_, tg⟩).toArray 53 (0, 0)) := by
            rw [← hs1]
            exact heap_top _ _
          have hn2 : ((w.alloc (.cells #[.pointer (some ⟨n, 0, none⟩)] 23)).alloc (.cells #[.int .i64 (i : Int), .int .i64 at_, .int .i64 tg] 53)).cell? ⟨w.heap.size, 0, none⟩ = some (.pointer (some ⟨n, 0, none⟩)) := by
            have hbb : Below (w.alloc (.cells #[.pointer (some ⟨n, 0, none⟩)] 23)).heap.size (w.alloc (.cells #[.pointer (some ⟨n, 0, none⟩)] 23)) ((w.alloc (.cells #[.pointer (some ⟨n, 0, none⟩)] 23)).alloc (.cells #[.int .i64 (i : Int), .int .i64 at_, .int .i64 tg] 53)) := (Below.refl _ _).alloc (Nat.le_refl _) _
            exact (hbb.cell (p := ⟨w.heap.size, 0, none⟩) (by rw [hs1]; show w.heap.size < _; omega)).trans hb
          have HSE := Lib.hid (search_any (w := ((w.alloc (.cells #[.pointer (some ⟨n, 0, none⟩)] 23)).alloc (.cells #[.int .i64 (i : Int), .int .i64 at_, .int .i64 tg] 53))) (n := S.tm.length) (by omega) (.pointer (some ⟨w.heap.size + 1, 0, none⟩)) (.pointer (some ⟨w.heap.size, 0, none⟩))
            (ahAt ⟨i, at_, tg⟩ S.tm) HMO.out (fun W i' hi' hbW => by
              have hq := setf_any (h2.on_ hbW) ⟨i, at_, tg⟩ (tb := w.heap.size + 1) (nb := w.heap.size) ((hbW.block _ (by rw [hs2]; omega)).trans ht2) ((hbW.cell (p := ⟨w.heap.size, 0, none⟩) (by rw [hs2]; show w.heap.size < _; omega)).trans hn2) i' hi'
              rw [ahAt_in hi']
              exact hq))
          have HST := Lib.hid (fun (j : Nat) hj h1 h2 => stop_at (l := S.tm) (t := ⟨i, at_, tg⟩) (j := j) hj h1 h2)
          have HINS := Lib.hid (fun (W : World) (hW : NTx W n P S db mb (.slice va S.tm.length vc) sv D k) (j : Nat) (hj : j ≤ S.tm.length) (vb : Nat) hvb hne => ins_any hW.ht (by omega) j hj ⟨i, at_, tg⟩ (vb := vb) hvb hne)
          have H2 := Lib.hid h2
          have HB2 := Lib.hid hb2
          have HT2 := Lib.hid ht2
          have HN2 := Lib.hid hn2
          have HTV : Hid ((Value.slice va S.tm.length vc).ownBlock ≠ some w.heap.size) := Lib.hid (fun e => by have := h.lt _ (h.ot _ e); omega)
          have HTN := Lib.hid h.tvn
          have HLT : Hid (∀ j, (Value.slice va S.tm.length vc).ownBlock = some j → j < w.heap.size) := Lib.hid (fun j e => h.lt _ (h.ot _ e))
          have HS2 := Lib.hid hs2
          have HF := Lib.hid (fun (W w4 : World) (hW : NTx W n P S db mb (.slice va S.tm.length vc) sv D k) (v' : Value) (l' : List Tm) hk hl => NTx.timed_to (W := W) (w4 := w4) (v' := v') (l' := l') hW hk hl)
          obtain ⟨L, HL⟩ := named S.tm.length
          rw [HL.out] at c2 hf' hT HSE HINS H2 HTV HTN HF HT HST HLT
          clear h h1 hI hd hd0 e1 hI2 c1 hs hr hf hb1 H1 hb2 h2 hs1 hs2 ht2 hn2 HMO HN HB1 HFE
          go_enter Try.func23, Try.ntmps23
          go_wp2_with fail
          refine HK.out.mono ?_
          rintro e w1 ⟨rfl, rfl⟩
          go_wp2_with fail
          refine HSE.out.mono ?_
          rintro e w3 ⟨j, rfl, hj, hj1, hj2, hb3⟩
          have HQ := Lib.hid (HST.out j hj hj1 hj2)
          have k3 := H2.out.on_ hb3
          have hsz3 : w.heap.size + 1 < w3.heap.size := by have := hb3.size; have := HS2.out; omega
          have hnl3 : n < w3.heap.size := by omega
          have hwl3 : w.heap.size < w3.heap.size := by omega
          obtain ⟨⟨d0, d1, d2, d3⟩, f0, f1, f2, f3⟩ := cells4 k3.hn
          have y0 := (hb3.cell (p := ⟨w.heap.size, 0, none⟩) (by have := HS2.out; show w.heap.size < _; omega)).trans HN2.out
          have ht3 := (hb3.block (w.heap.size + 1) (by have := HS2.out; omega)).trans HT2.out
          have t0 : w3.cell? ⟨w.heap.size + 1, 0, none⟩ = some (.int .i64 (i : Int)) := by rw [cell_of_row w3 _ 0 _ 53 (0, 0) ht3]; rfl
          have t1 : w3.cell? ⟨w.heap.size + 1, 1, none⟩ = some (.int .i64 at_) := by rw [cell_of_row w3 _ 1 _ 53 (0, 0) ht3]; rfl
          have t2 : w3.cell? ⟨w.heap.size + 1, 2, none⟩ = some (.int .i64 tg) := by rw [cell_of_row w3 _ 2 _ 53 (0, 0) ht3]; rfl
          have hb4 : Below w3.heap.size w3 ((w3.alloc (.cells #[.int .i64 (i : Int), .int .i64 at_, .int .i64 tg] 53)).drew) := ((Below.refl _ _).alloc (Nat.le_refl _) _).drew
          have K4 := Lib.hid (k3.on_ hb4)
          have HI4 := Lib.hid (HINS.out _ K4.out j hj w3.heap.size (heap_top w3 _) (fun e => by have := HLT.out _ e; omega))
          have HB4 := Lib.hid (HB2.out.trans ((hb3.mono (by have := HB2.out.size; exact this)).trans (hb4.mono (by omega))))
          have Y4 := Lib.hid ((hb4.cell (p := ⟨w.heap.size, 0, none⟩) hwl3).trans y0)
          have D4 := Lib.hid (cells4 K4.out.hn)
          clear k3 hb3 hj1 hj2 ht3 hb4 d0 d1 d3 f0 f1 f3 HSE HST HINS H2 HB2 HT2 HN2 HLT HS2 z hiI hi c0 c2 c3 hr1 hr2 hf' hnl hnl1 hb
          go_wp2_with fail
          generalize hBQ : w.heap.size = B at *
          have HBQ := Lib.hid hBQ
          clear hBQ
          go_region_law (rw [if_pos (by rfl)]; go_simp; go_at_call 55; refine (HI4.out).mono ?_; rintro e w5 ⟨v', rfl, hk⟩; rw [HQ.out] at hk; obtain ⟨va', vc', rfl⟩ := own_slice hk.1; have HKP := Lib.hid hk; have x0 := hk.2.2.cell D4.out.1.2.2.1 HTN.out; have x1 := (hk.2.2.frozen (p := ⟨n, 2, none⟩) (lt_of_block K4.out.hn) HTN.out).trans D4.out.2.2.2.1; have x2 := hk.2.2.cell Y4.out HTV.out; clear hk)
          all_goals
            go_wp2_with fail
            go_ret
            refine ⟨rfl, ?_⟩
            exact (HF.out _ _ K4.out _ _ HKP.out (by rw [insT_len, HL.out]; have := HT.out; omega)).before (by rw [HBQ.out]; exact HB4.out)
  · have hI0 : ndB S.N a = false := by simpa using hI
    rw [hI0] at HK
    have e1 : seE S a at_ = 190 := by unfold seE; rw [if_neg hI]
    rw [e1, if_neg (by decide)]
    clear h h1 hb1 hI hI0 e1 hs c0 c1 c2 c3
    go_enter Try.func23, Try.ntmps23
    go_wp2_with fail
    refine HK.out.mono ?_
    rintro e w1 ⟨rfl, rfl⟩
    go_wp2_with fail
    go_ret
    exact ⟨rfl, HN.out.to HB1.out⟩
end
end Go.Proofs.Ytfhlfklgngpklaa
