/-
  The reference's disk: its list of files in memory; contracts of its may, find, change, known, New, Fuse and Read.
-/
import Derived.Test.YtlbkmhlpgpfafaaAll
import Derived.BigRegion
namespace Go.Proofs.Ytlbkmhlpgpfafaa
open Go.RowKit Go.Maps Go.Joins
def sB (l : List UInt8) : ByteArray := ⟨l.toArray⟩
theorem sB_list (l : List UInt8) : (sB l).data.toList = l := by simp [sB]
theorem sB_size (l : List UInt8) : (sB l).size = l.length := by simp [sB, ByteArray.size]
theorem sB_of (s : ByteArray) : sB s.data.toList = s := by simp [sB]
def cF (f : PF) : List Value := [.string (sB f.nm), .string (sB f.has), .string (sB f.safe), .bool f.kept]
def cellsF : List PF → List Value
  | [] => []
  | f :: r => cF f ++ cellsF r
theorem cellsF_len (l : List PF) : (cellsF l).length = l.length * 4 := by
  induction l with
  | nil => rfl
  | cons f r ih => simp [cellsF, cF, ih]; omega
theorem cellsF_app (l r : List PF) : cellsF (l ++ r) = cellsF l ++ cellsF r := by
  induction l with
  | nil => rfl
  | cons f l ih => simp [cellsF, ih]
theorem cellsF_get (l : List PF) : ∀ k (hk : k < l.length), (cellsF l)[k * 4]? = some (.string (sB (l[k]).nm)) ∧ (cellsF l)[k * 4 + 1]? = some (.string (sB (l[k]).has)) ∧ (cellsF l)[k * 4 + 2]? = some (.string (sB (l[k]).safe)) ∧ (cellsF l)[k * 4 + 3]? = some (.bool (l[k]).kept) := by
  induction l with
  | nil => intro k hk; simp at hk
  | cons f r ih =>
    intro k hk
    match k with
    | 0 => simp [cellsF, cF]
    | k + 1 =>
      have := ih k (by simpa using hk)
      rw [show (k + 1) * 4 = k * 4 + 1 + 1 + 1 + 1 by omega]
      simpa [cellsF, cF] using this
theorem cellsF_one (l : List PF) : ∀ u ∈ cellsF l, u.oneCell' = true := by
  induction l with
  | nil => intro u hu; cases hu
  | cons f r ih =>
    intro u hu
    unfold cellsF at hu
    rcases List.mem_append.1 hu with h | h
    · unfold cF at h
      simp at h
      rcases h with rfl | rfl | rfl | rfl <;> rfl
    · exact ih u h
theorem cellsF_take (l : List PF) (k : Nat) : (cellsF l).take (k * 4) = cellsF (l.take k) := by
  induction l generalizing k with
  | nil => simp [cellsF]
  | cons f r ih =>
    match k with
    | 0 => simp [cellsF]
    | k + 1 => rw [show (k + 1) * 4 = k * 4 + 1 + 1 + 1 + 1 by omega]; simp [cellsF, cF, ih]
theorem cellsF_drop (l : List PF) (k : Nat) : (cellsF l).drop (k * 4) = cellsF (l.drop k) := by
  induction l generalizing k with
  | nil => simp [cellsF]
  | cons f r ih =>
    match k with
    | 0 => simp
    | k + 1 => rw [show (k + 1) * 4 = k * 4 + 1 + 1 + 1 + 1 by omega]; simp [cellsF, cF, ih]
/-- What is known of a disk's files. -/
structure SOK (S : PS) : Prop where
  srt : Srt PF.nm S.fs
  len : S.fs.length ≤ 64
  nm : ∀ f ∈ S.fs, f.nm.length ≤ 64
  has : ∀ f ∈ S.fs, f.has.length ≤ 262144
  safe : ∀ f ∈ S.fs, f.safe.length ≤ 262144
  kept : ∀ f ∈ S.fs, f.kept = false → f.safe = []
  l0 : -1 ≤ S.left
  l1 : S.left ≤ 9223372036854775807
theorem DK.sok {w : World} {d : Nat} {ow : Nat → Option Nat} {S : PS} (h : DK w d ow S) : SOK S := by
  obtain ⟨mb, L, fu, n, h⟩ := h.dp
  have hm : ∀ p ∈ S.fs, ∃ f ∈ L, f.pf = p := fun p hp => by
    rw [h.fs] at hp
    obtain ⟨f, hf, e⟩ := List.mem_map.1 hp
    exact ⟨f, hf, e⟩
  have h0 := h.dm.n0
  have h1 := h.dm.n1
  refine ⟨h.sfs, by rw [h.fs, List.length_map]; exact h.dm.len, ?_, ?_, ?_, ?_, ?_, ?_⟩
  · intro p hp
    obtain ⟨f, hf, rfl⟩ := hm p hp
    exact mayN_len (h.dm.may f hf)
  · intro p hp
    obtain ⟨f, hf, rfl⟩ := hm p hp
    obtain ⟨hv, sv, gh, gs, hc, _⟩ := (h.fa f hf).fc
    exact hc.hl
  · intro p hp
    obtain ⟨f, hf, rfl⟩ := hm p hp
    obtain ⟨hv, sv, gh, gs, hc, _⟩ := (h.fa f hf).fc
    obtain ⟨_, _, _, _, h3⟩ := hc.sin
    exact h3
  · intro p hp hk
    obtain ⟨f, hf, rfl⟩ := hm p hp
    obtain ⟨hv, sv, gh, gs, hc, _⟩ := (h.fa f hf).fc
    rcases hc.safe with ⟨_, _, _, h3⟩ | ⟨_, _, h3, _⟩
    · exact h3
    · rw [hk] at h3; cases h3
  · rw [h.left]; split <;> omega
  · rw [h.left]; split <;> omega
/-- The reference's disk in memory. -/
structure RP (w : World) (r : Nat) (v : Value) (S : PS) : Prop where
  hd : w.heap[r]? = some (.cells #[v, .int .i64 S.left, .bool S.dn] 55 (0, 0))
  own : w.ownsRow 0 60 4 v S.fs.length (cellsF S.fs)
def Dv (r : Nat) (v : Value) (k : Nat) : Prop := k = r ∨ v.ownBlock = some k
def RK (w : World) (r : Nat) (S : PS) (D : Nat → Prop) : Prop := ∃ v, RP w r v S ∧ D = Dv r v
def RTo (w w' : World) (r : Nat) (S : PS) (D : Nat → Prop) : Prop := ∃ D', RK w' r S D' ∧ (∀ k, D' k → D k ∨ w.heap.size ≤ k) ∧ Fr D w w'
section
variable {w w' : World} {r : Nat} {v : Value} {S : PS} {D : Nat → Prop}
theorem RP.vr (h : RP w r v S) : v.ownBlock ≠ some r := by
  intro e
  rcases h.own.2 with ⟨rfl, _⟩ | ⟨g, c, cur, rfl, _, hb, _⟩
  · cases e
  · injection e with e
    have : g = r := e
    rw [this, h.hd] at hb
    cases hb
theorem RP.lt (h : RP w r v S) : ∀ k, Dv r v k → k < w.heap.size := by
  rintro k (rfl | hk)
  · exact lt_of_block h.hd
  · exact (h.own.lt k hk).2
theorem RP.same (h : RP w r v S) (hs : ∀ k, Dv r v k → w'.heap[k]? = w.heap[k]?) : RP w' r v S :=
  ⟨(hs r (Or.inl rfl)).trans h.hd, own_same h.own (fun k hk => hs k (Or.inr hk))⟩
theorem RP.on (h : RP w r v S) (hb : Below w.heap.size w w') : RP w' r v S := h.same (fun k hk => hb.block k (h.lt k hk))
theorem RK.lt (h : RK w r S D) : ∀ k, D k → k < w.heap.size := by
  obtain ⟨v, h, rfl⟩ := h
  exact h.lt
theorem RK.same (h : RK w r S D) (hs : ∀ k, D k → w'.heap[k]? = w.heap[k]?) : RK w' r S D := by
  obtain ⟨v, h, rfl⟩ := h
  exact ⟨v, h.same hs, rfl⟩
theorem RK.on (h : RK w r S D) (hb : Below w.heap.size w w') : RK w' r S D := h.same (fun k hk => hb.block k (h.lt k hk))
theorem RK.fr {D' : Nat → Prop} (h : RK w r S D) (f : Fr D' w w') (hd : ∀ k, D k → ¬ D' k) : RK w' r S D := h.same (fun k hk => f.block k (h.lt k hk) (hd k hk))
theorem RK.self (h : RK w r S D) : RTo w w r S D := ⟨D, h, fun _ hk => Or.inl hk, Fr.refl _ _⟩
theorem RK.to (h : RK w r S D) (hb : Below w.heap.size w w') : RTo w w' r S D := ⟨D, h.on hb, fun _ hk => Or.inl hk, Fr.of hb⟩
theorem RTo.after {w1 : World} {S' : PS} {D1 : Nat → Prop} (h : RTo w1 w' r S' D1) (h1 : ∀ k, D1 k → D k ∨ w.heap.size ≤ k) (f : Fr D w w1) : RTo w w' r S' D := by
  obtain ⟨D', a, b, c⟩ := h
  refine ⟨D', a, fun k hk => ?_, f.trans c h1⟩
  rcases b k hk with h' | h'
  · exact h1 k h'
  · exact Or.inr (Nat.le_trans f.size h')
theorem RP.form (h : RP w r v S) (hn : 0 < S.fs.length) : ∃ g c, v = .slice (some ⟨g, 0, none⟩) S.fs.length c ∧ g < w.heap.size ∧ S.fs.length ≤ c := by
  rcases h.own.2 with ⟨_, e⟩ | ⟨g, c, cur, rfl, _, hb, hc, _⟩
  · omega
  · exact ⟨g, c, rfl, lt_of_block hb, hc⟩
theorem RP.shape (h : RP w r v S) : ∃ a c, v = .slice a S.fs.length c := by
  rcases h.own.2 with ⟨rfl, e⟩ | ⟨g, c, cur, rfl, _⟩
  · exact ⟨none, 0, by rw [e]⟩
  · exact ⟨_, c, rfl⟩
theorem RP.file {g c : Nat} (h : RP w r (.slice (some ⟨g, 0, none⟩) S.fs.length c) S) (k : Nat) (hk : k < S.fs.length) :
    (w.cell? ⟨g, k * 4, none⟩ = some (.string (sB (S.fs[k]).nm)) ∧ w.cell? ⟨g, k * 4 + 1, none⟩ = some (.string (sB (S.fs[k]).has)) ∧ w.cell? ⟨g, k * 4 + 2, none⟩ = some (.string (sB (S.fs[k]).safe)) ∧ w.cell? ⟨g, k * 4 + 3, none⟩ = some (.bool (S.fs[k]).kept)) ∧ (∀ j, w.frozen? ⟨g, j, none⟩ = false) := by
  obtain ⟨c0, c1, c2, c3⟩ := cellsF_get S.fs k hk
  exact ⟨⟨(h.own.cellAt (k * 4) (by omega)).trans c0, (h.own.cellAt (k * 4 + 1) (by omega)).trans c1, (h.own.cellAt (k * 4 + 2) (by omega)).trans c2, (h.own.cellAt (k * 4 + 3) (by omega)).trans c3⟩, fun j => h.own.frozenAt j⟩
set_option maxHeartbeats 1600000 in
theorem rmay_any (s : ByteArray) (w : World) :
    Calls Try.prog 45 #[.string s] w fun e w' => e = .returned (.bool (mayN s.data.toList)) ∧ w' = w := by
  have hsz : s.data.toList.length = s.size := by rw [Array.length_toList]; rfl
  by_cases h1 : s.size < 1
  · rw [show mayN s.data.toList = false by simp [mayN]; intro h; have : s.data.size = s.size := rfl; omega]
    have he : s = ⟨#[]⟩ := by
      apply ByteArray.ext
      apply Array.eq_empty_of_size_eq_zero
      show s.size = 0
      omega
    subst he
    go_enter Try.func45, Try.ntmps45
    go_wp2_with fail
    go_ret
    exact ⟨rfl, rfl⟩
  · have hne : (s.toList == []) = false := by
      rw [beq_eq_false_iff_ne]
      intro e
      have h2 : s.toList.length = 0 := by rw [e]; rfl
      have h3 : s.toList = s.data.toList := Lib.toList_data s
      rw [h3] at h2
      omega
    by_cases h2 : 64 < s.size
    · rw [show mayN s.data.toList = false by simp [mayN]; intro h h'; have : s.data.size = s.size := rfl; omega]
      have h2' : (64 : Int) < s.size := by omega
      go_enter Try.func45, Try.ntmps45
      go_wp2_with fail
      go_ret
      exact ⟨rfl, rfl⟩
    · have HM : Hid (mayN s.data.toList = s.data.toList.all okB) := by
        show _ = _
        unfold mayN
        rw [hsz]
        simp [show 1 ≤ s.size by omega, show s.size ≤ 64 by omega]
      have HSZ := Lib.hid hsz
      clear hsz
      have h2' : ¬ (64 : Int) < s.size := by omega
      go_enter Try.func45, Try.ntmps45
      go_wp2_with fail
      go_loop [3] (fun i => ∃ j : Nat, j ≤ s.size ∧ i = .int .i64 j ∧ Hid ((s.data.toList.take j).all okB = true)) (fun i => s.size - (intOf i).toNat)
      case atStart => exact ⟨0, Nat.zero_le _, rfl, by simp [Hid]⟩
      case round =>
        obtain ⟨j, hj, rfl, HP⟩ := hrel
        by_cases hlt : j < s.size
        · have HT : Hid ((s.data.toList.take (j + 1)).all okB = okB s[j] ∧ (okB s[j] = false → s.data.toList.all okB = false)) := by
            have hl : j < s.data.toList.length := by have := HSZ.out; omega
            have e : s.data.toList[j] = s[j] := by simp [ByteArray.getElem_eq_getElem_data]
            refine ⟨?_, fun h => ?_⟩
            · rw [List.take_succ_eq_append_getElem hl, List.all_append, HP.out, e]
              simp
            · rw [List.all_eq_false]
              exact ⟨s[j], by rw [← e]; exact List.getElem_mem hl, by rw [h]; simp⟩
          have hcase : (97 ≤ s[j].toNat ∧ s[j].toNat ≤ 122) ∨ (¬ 97 ≤ s[j].toNat ∧ 48 ≤ s[j].toNat ∧ s[j].toNat ≤ 57) ∨ (97 ≤ s[j].toNat ∧ ¬ s[j].toNat ≤ 122) ∨ (¬ 97 ≤ s[j].toNat ∧ ¬ 48 ≤ s[j].toNat) ∨ (¬ 97 ≤ s[j].toNat ∧ 48 ≤ s[j].toNat ∧ ¬ s[j].toNat ≤ 57) := by omega
          rcases hcase with ⟨a1, a2⟩ | ⟨a1, a2, a3⟩ | ⟨a1, a2⟩ | ⟨a1, a2⟩ | ⟨a1, a2, a3⟩
          all_goals have i1 : ((97 : Int) ≤ (s[j].toNat : Int)) ↔ 97 ≤ s[j].toNat := by omega
          all_goals have i2 : ((s[j].toNat : Int) ≤ 122) ↔ s[j].toNat ≤ 122 := by omega
          all_goals have i3 : ((48 : Int) ≤ (s[j].toNat : Int)) ↔ 48 ≤ s[j].toNat := by omega
          all_goals have i4 : ((s[j].toNat : Int) ≤ 57) ↔ s[j].toNat ≤ 57 := by omega
          · have HT2 : Hid (okB s[j] = true) := by show _ = _; unfold okB; simp [a1, a2]
            have a5 := i1.2 a1
            have a6 := i2.2 a2
            clear i1 i2 i3 i4
            go_wp2_with fail
            exact ⟨⟨j + 1, by omega, by go_num, by show _ = _; rw [HT.out.1, HT2.out]⟩, by simp [intOf]; omega⟩
          · have HT2 : Hid (okB s[j] = true) := by show _ = _; unfold okB; simp [a1, a2, a3]
            have a5 := mt i1.1 a1
            have a6 := i3.2 a2
            have a7 := i4.2 a3
            clear i1 i2 i3 i4
            go_wp2_with fail
            exact ⟨⟨j + 1, by omega, by go_num, by show _ = _; rw [HT.out.1, HT2.out]⟩, by simp [intOf]; omega⟩
          · have HT2 : Hid (okB s[j] = false) := by show _ = _; unfold okB; simp [a1, a2]; omega
            have a3 : ¬ s[j].toNat ≤ 57 := by omega
            have a4 : 48 ≤ s[j].toNat := by omega
            have a5 := i1.2 a1
            have a6 := mt i2.1 a2
            have a7 := i3.2 a4
            have a8 := mt i4.1 a3
            clear i1 i2 i3 i4
            go_wp2_with fail
            go_ret
            exact ⟨by rw [HM.out, HT.out.2 HT2.out]; rfl, rfl⟩
          · have HT2 : Hid (okB s[j] = false) := by show _ = _; unfold okB; simp [a1, a2]
            have a5 := mt i1.1 a1
            have a6 := mt i3.1 a2
            clear i1 i2 i3 i4
            go_wp2_with fail
            go_ret
            exact ⟨by rw [HM.out, HT.out.2 HT2.out]; rfl, rfl⟩
          · have HT2 : Hid (okB s[j] = false) := by show _ = _; unfold okB; simp [a1, a3]
            have a5 := mt i1.1 a1
            have a6 := i3.2 a2
            have a7 := mt i4.1 a3
            clear i1 i2 i3 i4
            go_wp2_with fail
            go_ret
            exact ⟨by rw [HM.out, HT.out.2 HT2.out]; rfl, rfl⟩
        · go_wp2_with fail
          go_ret
          rw [HM.out]
          have e : s.data.toList.take j = s.data.toList := List.take_of_length_le (by have := HSZ.out; omega)
          have := HP.out
          rw [e] at this
          exact ⟨by rw [this]; rfl, rfl⟩
/-- Where a name stands: its place, or -1. -/
def plc (n : List UInt8) : List PF → Int
  | [] => -1
  | f :: r => if f.nm = n then 0 else if plc n r < 0 then -1 else plc n r + 1
theorem plc_spec (n : List UInt8) (l : List PF) : (fndK PF.nm n l = none ∧ plc n l = -1) ∨ ∃ k, ∃ hk : k < l.length, plc n l = k ∧ (l[k]).nm = n ∧ fndK PF.nm n l = some l[k] := by
  induction l with
  | nil => exact Or.inl ⟨rfl, rfl⟩
  | cons f r ih =>
    by_cases h : f.nm = n
    · exact Or.inr ⟨0, by simp, by simp [plc, h], h, by simp [fndK, h]⟩
    · have e : fndK PF.nm n (f :: r) = fndK PF.nm n r := by simp [fndK, h]
      rcases ih with ⟨a, b⟩ | ⟨k, hk, a, b, c⟩
      · exact Or.inl ⟨by rw [e, a], by simp [plc, h, b]⟩
      · refine Or.inr ⟨k + 1, by simp; omega, ?_, by simpa using b, by rw [e, c]; simp⟩
        have : ¬ ((k : Int) < 0) := by omega
        simp [plc, h, a, this]
theorem plc_take (n : List UInt8) (l : List PF) (j : Nat) (h : ∀ i (hi : i < l.length), i < j → (l[i]).nm ≠ n) (hj : j < l.length) (he : (l[j]).nm = n) : plc n l = j := by
  induction l generalizing j with
  | nil => simp at hj
  | cons f r ih =>
    match j with
    | 0 =>
      have : f.nm = n := he
      simp [plc, this]
    | j + 1 =>
      have h0 : f.nm ≠ n := h 0 (by simp) (by omega)
      have := ih j (fun i hi hij => by have := h (i + 1) (by simp; omega) (by omega); simpa using this) (by simpa using hj) (by simpa using he)
      have h1 : ¬ ((j : Int) < 0) := by omega
      simp [plc, h0, this, h1]
theorem plc_none (n : List UInt8) (l : List PF) (h : ∀ i (hi : i < l.length), (l[i]).nm ≠ n) : plc n l = -1 := by
  rcases plc_spec n l with ⟨_, b⟩ | ⟨k, hk, _, b, _⟩
  · exact b
  · exact absurd b (h k hk)
set_option maxHeartbeats 1600000 in
theorem rfind_any (h : RP w r v S) (hl : S.fs.length ≤ 64) (s : ByteArray) :
    Calls Try.prog 46 #[.pointer (some ⟨r, 0, none⟩), .string s] w fun e w' => e = .returned (.int .i64 (plc s.data.toList S.fs)) ∧ w' = w := by
  obtain ⟨⟨c0, c1, c2⟩, f0, f1, f2⟩ := cells3 h.hd
  obtain ⟨a, c, hv⟩ := h.shape
  subst hv
  have H := Lib.hid h
  obtain ⟨N, HN⟩ := named S.fs.length
  rw [HN.out] at c0 hl
  clear h
  go_enter Try.func46, Try.ntmps46
  go_wp2_with fail
  go_loop [5] (fun i => ∃ j : Nat, j ≤ N ∧ i = .int .i64 j ∧ Hid (∀ i (hi : i < S.fs.length), i < j → (S.fs[i]).nm ≠ s.data.toList)) (fun i => N - (intOf i).toNat)
  case atStart => exact ⟨0, Nat.zero_le _, rfl, fun i _ hi => absurd hi (by omega)⟩
  case round =>
    obtain ⟨j, hj, rfl, HP⟩ := hrel
    by_cases hlt : j < N
    · have hjl : j < S.fs.length := by rw [HN.out]; exact hlt
      have hown : RP w r (.slice a S.fs.length c) S := H.out
      obtain ⟨g, c', hv, hg, hc'⟩ := hown.form (by omega)
      injection hv with hv1 _ hv3
      subst hv1 hv3
      obtain ⟨⟨q0, q1, q2, q3⟩, _⟩ := hown.file j hjl
      by_cases he : (S.fs[j]'hjl).nm = s.data.toList
      · have hq : ((sB (S.fs[j]'hjl).nm).toList == s.toList) = true := by
          rw [he, sB_of]; simp
        have HPL := Lib.hid (plc_take s.data.toList S.fs j HP.out hjl he)
        generalize sB (S.fs[j]'hjl).nm = sn at *
        clear he hown q1 q2 q3
        go_wp2_with fail
        go_ret
        exact ⟨by rw [HPL.out]; rfl, rfl⟩
      · have hq : ((sB (S.fs[j]'hjl).nm).toList == s.toList) = false := by
          rw [beq_eq_false_iff_ne]
          intro e
          rw [Lib.toList_data, Lib.toList_data, sB_list] at e
          exact he e
        have HP2 : Hid (∀ i (hi : i < S.fs.length), i < j + 1 → (S.fs[i]).nm ≠ s.data.toList) := fun i hi hij => by
          by_cases e : i = j
          · subst e; exact he
          · exact HP.out i hi (by omega)
        generalize sB (S.fs[j]'hjl).nm = sn at *
        clear he hown q1 q2 q3
        go_wp2_with fail
        exact ⟨⟨j + 1, by omega, by go_num, HP2⟩, by simp [intOf]; omega⟩
    · have HPL := Lib.hid (plc_none s.data.toList S.fs (fun i hi => HP.out i hi (by have := HN.out; omega)))
      go_wp2_with fail
      go_ret
      exact ⟨by rw [HPL.out]; rfl, rfl⟩
end
end Go.Proofs.Ytlbkmhlpgpfafaa
