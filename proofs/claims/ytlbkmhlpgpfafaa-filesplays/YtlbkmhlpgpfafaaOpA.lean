/-
  Contracts of New, and of (*Disk).Read, Fuse and Sync.
-/
import Derived.Test.YtlbkmhlpgpfafaaNames
import Derived.Deep.DeepCutAuto
namespace Go.Proofs.Ytlbkmhlpgpfafaa
open Go.RowKit Go.Maps Go.Joins
/-- A disk's parts. -/
structure DP (w : World) (d : Nat) (ow : Nat → Option Nat) (mb : Option Nat) (L : List Fl) (fu : Bool) (n : Int) (S : PS) : Prop where
  dm : DM w d ow mb L S.dn fu n
  fa : ∀ f ∈ L, FA w ow f
  fs : S.fs = L.map Fl.pf
  left : S.left = if fu then n else -1
section
variable {w : World} {d : Nat} {ow : Nat → Option Nat} {mb : Option Nat} {L : List Fl} {fu : Bool} {n : Int} {S : PS}
theorem DK.dp (h : DK w d ow S) : ∃ mb L fu n, DP w d ow mb L fu n S := by
  obtain ⟨mb, L, fu, n, h1, h2, h3, h4⟩ := h
  exact ⟨mb, L, fu, n, h1, h2, h3, h4⟩
theorem DP.dk (h : DP w d ow mb L fu n S) : DK w d ow S := ⟨mb, L, fu, n, h.dm, h.fa, h.fs, h.left⟩
theorem DP.fd (h : DP w d ow mb L fu n S) (s : List UInt8) : fnd S s = (fndK fk s L).map Fl.pf := by
  unfold fnd
  rw [h.fs]
  exact fndK_map Fl.pf (fun _ => rfl) s L
theorem DP.fie (h : DP w d ow mb L fu n S) (s : List UInt8) : fiE L s = knE S s := by
  unfold fiE knE
  rw [h.fd, Option.isNone_map]
theorem knE_zero {S : PS} {s : List UInt8} (h : knE S s = 0) : mayN s = true ∧ ∃ f, fnd S s = some f := by
  unfold knE at h
  split at h
  · cases h
  · rename_i hm
    split at h
    · cases h
    · rename_i hf
      refine ⟨by simpa using hm, ?_⟩
      cases hq : fnd S s with
      | none => rw [hq] at hf; simp at hf
      | some f => exact ⟨f, rfl⟩
theorem knE_or (S : PS) (s : List UInt8) : knE S s = 0 ∨ knE S s = 5 ∨ knE S s = 170 := by
  unfold knE
  split
  · exact Or.inr (Or.inr rfl)
  · split
    · exact Or.inr (Or.inl rfl)
    · exact Or.inl rfl
/-- find's answer where there is a file. -/
theorem DP.at (h : DP w d ow mb L fu n S) {s : List UInt8} (hk : knE S s = 0) : ∃ f, fndK fk s L = some f ∧ f ∈ L ∧ f.pf.nm = s ∧ fnd S s = some f.pf ∧ fiP L s = .pointer (some ⟨f.blk, 0, none⟩) := by
  obtain ⟨hm, p, hp⟩ := knE_zero hk
  rw [h.fd] at hp
  cases hf : fndK fk s L with
  | none => rw [hf] at hp; cases hp
  | some f =>
    obtain ⟨h1, h2⟩ := fndK_some hf
    refine ⟨f, rfl, h1, h2, by rw [h.fd, hf]; rfl, ?_⟩
    unfold fiP
    rw [hf, hm]
    rfl
theorem DP.cg (h : DP w d ow mb L fu n S) : cgOk S.dn fu n = chgOk S := by
  unfold cgOk chgOk
  rw [h.left]
  cases fu <;> simp
theorem change_dk (h : DP w d ow mb L fu n S) :
    Calls Try.prog 39 #[.pointer (some ⟨d, 0, none⟩)] w fun e w' => e = .returned (.int .i64 (if chgOk S then 0 else 191)) ∧ ∃ n', DP w' d ow mb L fu n' (if chgOk S then chgUp S else chgDown S) ∧ Fr (Ow ow) w w' ∧ w'.heap.size = w.heap.size := by
  refine (change_any h.dm.hd h.dm.n0 h.dm.n1).mono ?_
  rintro e w1 ⟨rfl, hc⟩
  rw [h.cg] at hc ⊢
  refine ⟨rfl, (if chgOk S && fu then n - 1 else n), ⟨?_, ?_, ?_, ?_⟩, ?_, hc.size⟩
  · have h0 := h.dm.n0
    have h1 := h.dm.n1
    have hb : 0 ≤ (if chgOk S && fu then n - 1 else n) ∧ (if chgOk S && fu then n - 1 else n) ≤ 9223372036854775807 := by
      split
      · rename_i e
        simp only [Bool.and_eq_true] at e
        have hl := h.left
        rw [e.2, if_pos rfl] at hl
        have := e.1
        unfold chgOk at this
        simp only [Bool.and_eq_true, Bool.not_eq_true', decide_eq_false_iff_not] at this
        omega
      · omega
    have e : (if chgOk S then chgUp S else chgDown S).dn = !chgOk S := by
      cases hq : chgOk S with
      | false => rfl
      | true =>
        unfold chgOk at hq
        simp only [Bool.and_eq_true, Bool.not_eq_true'] at hq
        exact hq.1
    rw [e]
    exact h.dm.head hc.hd hc.other hc.size hb.1 hb.2
  · exact fun f hf => (h.fa f hf).head h.dm hf hc.other
  · rw [← h.fs]
    split <;> rfl
  · have hl := h.left
    have h0 := h.dm.n0
    cases hq : chgOk S with
    | false => exact hl
    | true =>
      show (chgUp S).left = _
      unfold chgUp
      show (if 0 < S.left then S.left - 1 else S.left) = _
      cases fu with
      | false =>
        have hl' : S.left = -1 := hl
        rw [hl']
        rfl
      | true =>
        have hl' : S.left = n := hl
        rw [hl']
        unfold chgOk at hq
        simp only [Bool.and_eq_true, Bool.not_eq_true', decide_eq_false_iff_not] at hq
        rw [hl'] at hq
        rw [if_pos (by omega)]
        rfl
  · exact ⟨hc.os, hc.tape, hc.output, by rw [hc.size]; exact Nat.le_refl _, fun k _ hk => hc.other k (fun e => hk (by rw [e]; unfold Ow; rw [h.dm.od]; simp))⟩
/-- What Read tells. -/
def rdT (S : PS) (s : List UInt8) : List UInt8 := if knE S s ≠ 0 then [] else match fnd S s with | some f => f.has | none => []
set_option maxHeartbeats 800000 in
theorem Read_any (h : DK w d ow S) (s : ByteArray) (hs : s.size ≤ maxLen) :
    Calls Try.prog 23 #[.pointer (some ⟨d, 0, none⟩), .string s] w fun e w' => e = .returned (.tuple #[.string ⟨(rdT S s.data.toList).toArray⟩, .int .i64 (knE S s.data.toList)]) ∧ w' = w := by
  obtain ⟨mb, L, fu, n, h⟩ := h.dp
  have HF := Lib.hid (find_any h.dm s hs)
  rw [h.fie] at HF
  by_cases hk : knE S s.data.toList = 0
  · obtain ⟨f, _, hf, _, hfn, hfp⟩ := h.at hk
    obtain ⟨hv, sv, gh, gs, hc, _⟩ := (h.fa f hf).fc
    obtain ⟨⟨c0, c1, c2⟩, f0, f1, f2⟩ := cells3 hc.hd
    have HT := hc.has.text
    rw [hfp, hk] at HF
    rw [show rdT S s.data.toList = f.pf.has by unfold rdT; rw [hk, hfn]; rfl, hk]
    obtain ⟨c, hhv, _, _⟩ := hc.has.shape
    generalize f.pf.has = l at *
    subst hhv
    clear hc h hk hf hfn
    generalize l.length = N at *
    go_enter Try.func23, Try.ntmps23
    go_wp2_with fail
    refine HF.out.mono ?_
    rintro e w1 ⟨rfl, rfl⟩
    go_wp2_with fail
    go_ret2
    exact ⟨rfl, rfl⟩
  · rw [show rdT S s.data.toList = [] by unfold rdT; rw [if_pos hk]]
    obtain ⟨k, HK⟩ := named (knE S s.data.toList)
    rw [HK.out] at hk HF ⊢
    have hk' : (k == 0) = false := beq_eq_false_iff_ne.2 hk
    generalize fiP L s.data.toList = v at *
    clear h
    go_enter Try.func23, Try.ntmps23
    go_wp2_with fail
    refine HF.out.mono ?_
    rintro e w1 ⟨rfl, rfl⟩
    go_wp2_with fail
    go_ret2
    exact ⟨rfl, rfl⟩
theorem DP.to {w' : World} (h : DP w' d ow mb L fu n S) (f : Fr (Ow ow) w w') : To w w' d ow S := ⟨ow, h.dk, fun _ _ => rfl, f⟩
set_option maxHeartbeats 800000 in
theorem Fuse_any (h : DK w d ow S) (k : Int) (hk : k ≤ 9223372036854775807) :
    Calls Try.prog 19 #[.pointer (some ⟨d, 0, none⟩), .int .i64 k] w fun e w' => e = .returned (.int .i64 (fuE k)) ∧ To w w' d ow (fuS S k) := by
  obtain ⟨mb, L, fu, n, h⟩ := h.dp
  obtain ⟨⟨c0, c1, c2, c3⟩, f0, f1, f2, f3⟩ := cells4 h.dm.hd
  by_cases h0 : k < 0
  · rw [show fuE k = 1 by simp [fuE, h0], show fuS S k = S by simp [fuS, h0]]
    have HD := Lib.hid h.dk.self
    clear h
    go_enter Try.func19, Try.ntmps19
    go_wp2_with fail
    go_ret
    exact ⟨rfl, HD.out⟩
  · rw [show fuE k = 0 by simp [fuE, h0], show fuS S k = { S with left := k } by simp [fuS, h0]]
    have e1 := setD h.dm.hd (i := 2) (.bool true)
    have e2 := setD e1 (i := 3) (.int .i64 k)
    have eo : ∀ x, x ≠ d → ((w.setCell ⟨d, 2, none⟩ (.bool true)).setCell ⟨d, 3, none⟩ (.int .i64 k)).heap[x]? = w.heap[x]? := fun x hx => by rw [setO _ _ hx, setO _ _ hx]
    have HP := Lib.hid (show DP ((w.setCell ⟨d, 2, none⟩ (.bool true)).setCell ⟨d, 3, none⟩ (.int .i64 k)) d ow mb L true k { S with left := k } from
      ⟨h.dm.head (by rw [e2]; simp) eo (by simp) (by omega) hk, fun f hf => (h.fa f hf).head h.dm hf eo, h.fs, rfl⟩)
    have HFr := Lib.hid (((Fr.refl (Ow ow) w).setCell ⟨d, 2, none⟩ (.bool true) (Or.inl (by unfold Ow; rw [h.dm.od]; simp))).setCell ⟨d, 3, none⟩ (.int .i64 k) (Or.inl (by unfold Ow; rw [h.dm.od]; simp)))
    clear h e1 e2 eo
    go_enter Try.func19, Try.ntmps19
    go_wp2_with fail
    go_ret
    exact ⟨rfl, HP.out.to HFr.out⟩
def S0 : PS := ⟨[], false, -1⟩
theorem New_any (w : World) :
    Calls Try.prog 8 #[] w fun e w' => ∃ d ow, e = .returned (.pointer (some ⟨d, 0, none⟩)) ∧ DK w' d ow S0 ∧ (∀ k, Ow ow k → w.heap.size ≤ k) ∧ Below w.heap.size w w' := by
  have HD := Lib.hid (show DP (w.alloc (.cells #[.map none, .bool false, .bool false, .int .i64 0] 52)) w.heap.size (fun k => if k = w.heap.size then some w.heap.size else none) none [] false 0 S0 from
    ⟨⟨heap_top _ _, by simp, fun b hb => by rw [if_neg]; simp at hb; omega, Or.inl ⟨rfl, rfl⟩, fun m hm => (by cases hm), List.Pairwise.nil, fun f hf => (by cases hf), fun f hf => (by cases hf), by simp, fun f hf => (by cases hf), by omega, by omega⟩, fun f hf => (by cases hf), rfl, rfl⟩)
  go_enter Try.func8, Try.ntmps8
  go_wp2_with fail
  go_ret
  refine ⟨w.heap.size, _, rfl, HD.out.dk, fun k hk => ?_, (Below.refl _ _).alloc (Nat.le_refl _) _⟩
  by_cases e : k = w.heap.size
  · omega
  · exact absurd (if_neg e) hk
end
end Go.Proofs.Ytlbkmhlpgpfafaa
