/-
  The reference's disk: contracts of Append and Sync.
-/
import Derived.Test.YtlbkmhlpgpfafaaRe
namespace Go.Proofs.Ytlbkmhlpgpfafaa
open Go.RowKit Go.Maps Go.Joins
theorem sB_app (l : List UInt8) (m : ByteArray) : sB (l ++ m.data.toList) = sB l ++ m := by
  apply ByteArray.ext
  simp [sB, ByteArray.data_append]
theorem cellsF_has (l : List PF) : ∀ k (hk : k < l.length) (y : List UInt8), (cellsF l).set (k * 4 + 1) (.string (sB y)) = cellsF (l.set k { l[k] with has := y }) := by
  induction l with
  | nil => intro k hk; simp at hk
  | cons f r ih =>
    intro k hk y
    match k with
    | 0 => simp [cellsF, cF]
    | k + 1 =>
      have := ih k (by simpa using hk) y
      rw [show (k + 1) * 4 + 1 = k * 4 + 1 + 1 + 1 + 1 + 1 by omega]
      simpa [cellsF, cF] using this
theorem cellsF_sy (l : List PF) : ∀ k (hk : k < l.length) (y : List UInt8), ((cellsF l).set (k * 4 + 2) (.string (sB y))).set (k * 4 + 3) (.bool true) = cellsF (l.set k { l[k] with safe := y, kept := true }) := by
  induction l with
  | nil => intro k hk; simp at hk
  | cons f r ih =>
    intro k hk y
    match k with
    | 0 => simp [cellsF, cF]
    | k + 1 =>
      have := ih k (by simpa using hk) y
      rw [show (k + 1) * 4 + 2 = k * 4 + 2 + 1 + 1 + 1 + 1 by omega, show (k + 1) * 4 + 3 = k * 4 + 3 + 1 + 1 + 1 + 1 by omega]
      simpa [cellsF, cF] using this
section
variable {w w' : World} {r : Nat} {v : Value} {S : PS} {D : Nat → Prop}
theorem RP.setHas {g c n : Nat} (h : RP w r (.slice (some ⟨g, 0, none⟩) n c) S) (hn : S.fs.length = n) (j : Nat) (F : PF) (hj : j < S.fs.length) (e : S.fs[j] = F) (y : List UInt8) :
    RTo w (w.setCell ⟨g, j * 4 + 1, none⟩ (.string (sB y))) r { S with fs := S.fs.set j { F with has := y } } (Dv r (.slice (some ⟨g, 0, none⟩) n c)) := by
  subst hn e
  have hgr : g ≠ r := fun e => h.vr (by rw [← e]; rfl)
  obtain ⟨o1, _⟩ := h.own.stored (j * 4 + 1) (.string (sB y))
  rw [cellsF_has S.fs j hj] at o1
  refine ⟨Dv r (.slice (some ⟨g, 0, none⟩) S.fs.length c), ⟨_, ⟨?_, ?_⟩, rfl⟩, fun _ hk => Or.inl hk, (Fr.refl _ w).setCell ⟨g, j * 4 + 1, none⟩ _ (Or.inl (Or.inr rfl))⟩
  · rw [heap_setCell_other _ _ r _ hgr.symm]
    exact h.hd
  · show World.ownsRow _ 0 60 4 _ (S.fs.set j _).length _
    rw [List.length_set]
    exact o1
theorem RP.setSy {g c n : Nat} (h : RP w r (.slice (some ⟨g, 0, none⟩) n c) S) (hn : S.fs.length = n) (j : Nat) (F : PF) (hj : j < S.fs.length) (e : S.fs[j] = F) (y : List UInt8) :
    RTo w ((w.setCell ⟨g, j * 4 + 2, none⟩ (.string (sB y))).setCell ⟨g, j * 4 + 3, none⟩ (.bool true)) r { S with fs := S.fs.set j { F with safe := y, kept := true } } (Dv r (.slice (some ⟨g, 0, none⟩) n c)) := by
  subst hn e
  have hgr : g ≠ r := fun e => h.vr (by rw [← e]; rfl)
  obtain ⟨o1, _⟩ := h.own.stored (j * 4 + 2) (.string (sB y))
  obtain ⟨o2, _⟩ := o1.stored (j * 4 + 3) (.bool true)
  rw [cellsF_sy S.fs j hj] at o2
  have hg : Dv r (.slice (some ⟨g, 0, none⟩) S.fs.length c) g := Or.inr rfl
  refine ⟨Dv r (.slice (some ⟨g, 0, none⟩) S.fs.length c), ⟨_, ⟨?_, ?_⟩, rfl⟩, fun _ hk => Or.inl hk, ((Fr.refl _ w).setCell ⟨g, j * 4 + 2, none⟩ _ (Or.inl hg)).setCell ⟨g, j * 4 + 3, none⟩ _ (Or.inl hg)⟩
  · rw [heap_setCell_other _ _ r _ hgr.symm, heap_setCell_other _ _ r _ hgr.symm]
    exact h.hd
  · show World.ownsRow _ 0 60 4 _ (S.fs.set j _).length _
    rw [List.length_set]
    exact o2
theorem set_find {s : List UInt8} {F : PF} (hs : SOK S) (j : Nat) (hj : j < S.fs.length) (e : S.fs[j] = F) (hn : F.nm = s) (u : PF → PF) : setK PF.nm s u S.fs = S.fs.set j (u F) := by
  subst e hn
  exact set_at u hs.srt hj
theorem kn_cases (S : PS) (s : List UInt8) : (mayN s = false ∧ knE S s = 170) ∨ (mayN s = true ∧ plc s S.fs < 0 ∧ knE S s = 5 ∧ fnd S s = none) ∨ (mayN s = true ∧ ¬ plc s S.fs < 0 ∧ knE S s = 0) := by
  cases hm : mayN s with
  | false => exact Or.inl ⟨rfl, by unfold knE; rw [if_pos hm]⟩
  | true =>
    by_cases hp : plc s S.fs < 0
    · have := (plc_neg S s).1 hp
      exact Or.inr (Or.inl ⟨rfl, hp, by unfold knE; rw [hm, this]; rfl, by simpa using this⟩)
    · refine Or.inr (Or.inr ⟨rfl, hp, ?_⟩)
      unfold knE
      rw [hm]
      cases hq : (fnd S s).isNone with
      | true => exact absurd ((plc_neg S s).2 hq) hp
      | false => rfl
set_option maxRecDepth 100000 in
set_option maxHeartbeats 6400000 in
theorem RAppend_any (h : RK w r S D) (hs : SOK S) (s m : ByteArray) (hm : m.size ≤ 140737488351232) :
    Calls Try.prog 25 #[.pointer (some ⟨r, 0, none⟩), .string s, .string m] w fun e w' => e = .returned (.int .i64 (apE S s.data.toList m.data.toList)) ∧ RTo w w' r (apS S s.data.toList m.data.toList) D := by
  have HD := Lib.hid h.self
  obtain ⟨v, h, rfl⟩ := h
  obtain ⟨⟨c0, c1, c2⟩, f0, f1, f2⟩ := cells3 h.hd
  have HM := Lib.hid (rmay_any s w)
  have HF := Lib.hid (rfind_any h hs.len s)
  rcases kn_cases S s.data.toList with ⟨hmy, hk⟩ | ⟨hmy, hp, hk, _⟩ | ⟨hmy, hp, hk⟩
  · rw [hmy] at HM
    rw [show apE S s.data.toList m.data.toList = 170 by unfold apE; rw [hk]; rfl, show apS S s.data.toList m.data.toList = S by unfold apS; rw [hk]; rfl]
    clear h hs hk hmy
    go_enter Try.func25, Try.ntmps25
    go_wp2_with fail
    refine HM.out.mono ?_
    rintro e w1 ⟨rfl, rfl⟩
    go_wp2_with fail
    go_ret
    exact ⟨rfl, HD.out⟩
  · rw [hmy] at HM
    rw [show apE S s.data.toList m.data.toList = 5 by unfold apE; rw [hk]; rfl, show apS S s.data.toList m.data.toList = S by unfold apS; rw [hk]; rfl]
    obtain ⟨p, HP⟩ := named (plc s.data.toList S.fs)
    rw [HP.out] at HF hp
    clear h hs hk hmy
    go_enter Try.func25, Try.ntmps25
    go_wp2_with fail
    refine HM.out.mono ?_
    rintro e w1 ⟨rfl, rfl⟩
    go_wp2_with fail
    refine HF.out.mono ?_
    rintro e w1 ⟨rfl, rfl⟩
    go_wp2_with fail
    go_ret
    exact ⟨rfl, HD.out⟩
  · rw [hmy] at HM
    obtain ⟨j, F, hj, hpj, hFj, hnm, hfn⟩ := plc_some rfl hp
    rw [hpj] at HF
    have hal : apLong S s.data.toList m.data.toList = decide (262144 < F.has.length + m.size) := by
      unfold apLong
      rw [hfn]
      have : m.data.toList.length = m.size := by rw [Array.length_toList]; rfl
      show decide (262144 < F.has.length + m.data.toList.length) = _
      rw [this]
    rw [show apE S s.data.toList m.data.toList = if decide (262144 < F.has.length + m.size) then 2 else if chgOk S then 0 else 191 by unfold apE; rw [hk, if_neg (by simp), hal],
      show apS S s.data.toList m.data.toList = if decide (262144 < F.has.length + m.size) then S else if chgOk S then { chgUp S with fs := S.fs.set j { F with has := F.has ++ m.data.toList } } else chgDown S by
        unfold apS; rw [hk, if_neg (by simp), hal, set_find hs j hj hFj hnm (fun f => { f with has := f.has ++ m.data.toList })]]
    have hFl : F.has.length ≤ 262144 := hs.has F (hFj ▸ List.getElem_mem hj)
    obtain ⟨g, c, hv, hg, hcc⟩ := h.form (by omega)
    subst hv
    obtain ⟨⟨p0, p1, p2, p3⟩, pf⟩ := h.fileF rfl j hj F hFj
    have HC := Lib.hid (rchange_up h hs)
    have HC2 := Lib.hid (rchange_no h hs)
    have HJ : Hid (∃ hj : j < S.fs.length, S.fs[j] = F) := ⟨hj, hFj⟩
    obtain ⟨N, HN⟩ := named S.fs.length
    have hjN : j < N := by rw [← HN.out]; exact hj
    rw [HN.out] at c0
    have hl64 := hs.len
    rw [HN.out] at hl64
    obtain ⟨L, HL⟩ := named F.has.length
    have hsz : (sB F.has).size = L := by rw [sB_size]; exact HL.out
    rw [HL.out] at hFl ⊢
    have HAP := sB_app F.has m
    obtain ⟨sh, HSH⟩ := named (sB F.has)
    rw [HSH.out] at p1 hsz HAP
    clear h hk hmy hp hpj hal hfn hnm hs p0 p2 p3 hcc
    have hw : IntKind.i64.wrap ((sh.size : Int) + (m.size : Int)) = (sh.size : Int) + (m.size : Int) := by rw [IntKind.wrap_i64] <;> omega
    rw [← hsz]
    clear HL
    subst hsz
    by_cases g1 : 262144 < sh.size + m.size
    · rw [show decide (262144 < sh.size + m.size) = true by simp [g1]]
      simp only [↓reduceIte]
      have g1' : (262144 : Int) < (sh.size : Int) + (m.size : Int) := by omega
      clear hj hFj
      go_enter Try.func25, Try.ntmps25
      go_wp2_with fail
      refine HM.out.mono ?_
      rintro e w1 ⟨rfl, rfl⟩
      go_wp2_with fail
      refine HF.out.mono ?_
      rintro e w1 ⟨rfl, rfl⟩
      go_wp2_with fail
      go_ret
      exact ⟨rfl, HD.out⟩
    · rw [show decide (262144 < sh.size + m.size) = false by simp [g1]]
      simp only [Bool.false_eq_true, ↓reduceIte]
      have g1' : ¬ (262144 : Int) < (sh.size : Int) + (m.size : Int) := by omega
      clear hj hFj g1
      cases hc : chgOk S with
      | false =>
        have HC := Lib.hid (HC2.out hc)
        simp only [Bool.false_eq_true, ↓reduceIte]
        go_enter Try.func25, Try.ntmps25
        go_wp2_with fail
        refine HM.out.mono ?_
        rintro e w1 ⟨rfl, rfl⟩
        go_wp2_with fail
        refine HF.out.mono ?_
        rintro e w1 ⟨rfl, rfl⟩
        go_wp2_with fail
        refine HC.out.mono ?_
        rintro e w2 ⟨rfl, h2⟩
        go_wp2_with fail
        go_ret
        exact ⟨rfl, h2⟩
      | true =>
        have HC := Lib.hid (HC.out hc)
        simp only [↓reduceIte]
        go_enter Try.func25, Try.ntmps25
        go_wp2_with fail
        refine HM.out.mono ?_
        rintro e w1 ⟨rfl, rfl⟩
        go_wp2_with fail
        refine HF.out.mono ?_
        rintro e w1 ⟨rfl, rfl⟩
        go_wp2_with fail
        refine HC.out.mono ?_
        rintro e w2 ⟨rfl, h2, f2'⟩
        have HF2 := Lib.hid f2'
        obtain ⟨hj, hFj⟩ := HJ.out
        have HST := Lib.hid (h2.setHas rfl j F hj hFj (F.has ++ m.data.toList))
        rw [HAP] at HST
        clear c0 c1 c2 f0 f1 f2 p1 pf
        obtain ⟨⟨c0, c1, c2⟩, f0, f1, f2⟩ := cells3 h2.hd
        obtain ⟨⟨p0, p1, p2, p3⟩, pf⟩ := h2.fileF rfl j hj F hFj
        have z1 := pf (j * 4 + 1)
        rw [HSH.out] at p1
        rw [HN.out] at c0
        clear h2 f2' hj hFj p0 p2 p3 pf
        go_wp2_with fail
        go_ret
        exact ⟨rfl, HST.out.after (fun k hk => Or.inl hk) HF2.out⟩
set_option maxRecDepth 100000 in
set_option maxHeartbeats 6400000 in
theorem RSync_any (h : RK w r S D) (hs : SOK S) (s : ByteArray) :
    Calls Try.prog 26 #[.pointer (some ⟨r, 0, none⟩), .string s] w fun e w' => e = .returned (.int .i64 (syE S s.data.toList)) ∧ RTo w w' r (syS S s.data.toList) D := by
  have HD := Lib.hid h.self
  obtain ⟨v, h, rfl⟩ := h
  have HK := Lib.hid (known_any h hs.len s)
  by_cases hk : knE S s.data.toList = 0
  · obtain ⟨j, hj, hp, hnm, hfn⟩ := kn_at hk
    rw [show knP S s.data.toList = j by unfold knP; rw [hk, hp]; rfl, hk] at HK
    obtain ⟨F, hFj⟩ : ∃ F, S.fs[j] = F := ⟨_, rfl⟩
    rw [hFj] at hnm
    rw [show syE S s.data.toList = if chgOk S then 0 else 191 by unfold syE; rw [hk, if_neg (by simp)],
      show syS S s.data.toList = if chgOk S then { chgUp S with fs := S.fs.set j { F with safe := F.has, kept := true } } else chgDown S by
        unfold syS; rw [hk, if_neg (by simp), set_find hs j hj hFj hnm (fun f => { f with safe := f.has, kept := true })]]
    obtain ⟨g, c, hv, hg, hcc⟩ := h.form (by omega)
    subst hv
    have HC := Lib.hid (rchange_up h hs)
    have HC2 := Lib.hid (rchange_no h hs)
    have HJ : Hid (∃ hj : j < S.fs.length, S.fs[j] = F) := ⟨hj, hFj⟩
    obtain ⟨N, HN⟩ := named S.fs.length
    have hjN : j < N := by rw [← HN.out]; exact hj
    have hl64 := hs.len
    rw [HN.out] at hl64
    clear h hk hp hfn hnm hs hcc hj hFj
    cases hc : chgOk S with
    | false =>
      have HC := Lib.hid (HC2.out hc)
      simp only [Bool.false_eq_true, ↓reduceIte]
      go_enter Try.func26, Try.ntmps26
      go_wp2_with fail
      refine HK.out.mono ?_
      rintro e w1 ⟨rfl, rfl⟩
      go_wp2_with fail
      refine HC.out.mono ?_
      rintro e w2 ⟨rfl, h2⟩
      go_wp2_with fail
      go_ret
      exact ⟨rfl, h2⟩
    | true =>
      have HC := Lib.hid (HC.out hc)
      simp only [↓reduceIte]
      go_enter Try.func26, Try.ntmps26
      go_wp2_with fail
      refine HK.out.mono ?_
      rintro e w1 ⟨rfl, rfl⟩
      go_wp2_with fail
      refine HC.out.mono ?_
      rintro e w2 ⟨rfl, h2, f2'⟩
      have HF2 := Lib.hid f2'
      obtain ⟨hj, hFj⟩ := HJ.out
      have HST := Lib.hid (fun n : Nat => RP.setSy (w := w2.drewN n) (h2.same (fun _ _ => rfl)) rfl j F hj hFj F.has)
      obtain ⟨⟨c0, c1, c2⟩, f0, f1, f2⟩ := cells3 h2.hd
      obtain ⟨⟨p0, p1, p2, p3⟩, pf⟩ := h2.fileF rfl j hj F hFj
      have z1 := pf (j * 4 + 1)
      have z2 := pf (j * 4 + 2)
      have z3 := pf (j * 4 + 3)
      obtain ⟨sh, HSH⟩ := named (sB F.has)
      rw [HSH.out] at p1 HST
      rw [HN.out] at c0
      clear h2 f2' hj hFj p0 pf
      go_wp2_with fail
      go_region
      go_wp2_with fail
      go_ret
      exact ⟨rfl, (HST.out _).after (fun k hk => Or.inl hk) ⟨HF2.out.os, HF2.out.tape, HF2.out.output, HF2.out.size, fun x hx hd => HF2.out.block x hx hd⟩⟩
  · obtain ⟨k, HKK⟩ := named (knE S s.data.toList)
    rw [show syE S s.data.toList = k by unfold syE; rw [if_pos hk, HKK.out], show syS S s.data.toList = S by unfold syS; rw [if_pos hk]]
    rw [HKK.out] at hk HK
    have hk' : (k == 0) = false := beq_eq_false_iff_ne.2 hk
    generalize knP S s.data.toList = p at *
    clear h hs
    go_enter Try.func26, Try.ntmps26
    go_wp2_with fail
    refine HK.out.mono ?_
    rintro e w1 ⟨rfl, rfl⟩
    go_wp2_with fail
    go_ret
    exact ⟨rfl, HD.out⟩
end
end Go.Proofs.Ytlbkmhlpgpfafaa
