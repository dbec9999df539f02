/-
  A disk of the call's own: each call once more, told by what the disk comes to. The chapter's first example: works answers true.
-/
import Derived.Test.YtlbkmhlpgpfafaaOpG
namespace Go.Proofs.Ytlbkmhlpgpfafaa
open Go.RowKit Go.Maps Go.Joins
/-- A disk that comes to S, all of whose blocks lie from B on. -/
def Dsk (B : Nat) (w : World) (d : Nat) (S : PS) : Prop := B ≤ w.heap.size ∧ ∃ ow, DK w d ow S ∧ ∀ k, Ow ow k → B ≤ k
section
variable {B : Nat} {w w' : World} {d : Nat} {ow : Nat → Option Nat} {S S' : PS}
theorem DK.out (h : DK w d ow S) {k : Nat} (hk : w.heap.size ≤ k) : ow k = none := by
  obtain ⟨mb, L, fu, n, h1, _⟩ := h
  exact h1.out k hk
theorem To.dsk (h : To w w' d ow S') (hB : B ≤ w.heap.size) (ho : ∀ k, Ow ow k → B ≤ k) : Dsk B w' d S' ∧ Below B w w' := by
  obtain ⟨ow', h1, h2, h3⟩ := h
  refine ⟨⟨Nat.le_trans hB h3.size, ow', h1, fun k hk => ?_⟩, h3.below hB ho⟩
  by_cases hkw : k < w.heap.size
  · exact ho k (by unfold Ow at hk ⊢; rw [h2 k hkw] at hk; exact hk)
  · omega
theorem Dsk.on (h : Dsk B w d S) (hb : Below w.heap.size w w') : Dsk B w' d S := by
  obtain ⟨hB, ow, h1, h2⟩ := h
  exact ⟨Nat.le_trans hB hb.size, ow, h1.on hb, h2⟩
theorem New_d (w : World) : Calls Try.prog 8 #[] w fun e w' => ∃ d, e = .returned (.pointer (some ⟨d, 0, none⟩)) ∧ Dsk w.heap.size w' d S0 ∧ Below w.heap.size w w' := by
  refine (New_any w).mono ?_
  rintro e w1 ⟨d, ow, rfl, h, ho, hb⟩
  exact ⟨d, rfl, ⟨hb.size, ow, h, ho⟩, hb⟩
theorem Write_d (h : Dsk B w d S) (s m : ByteArray) (hs : s.size ≤ 140737488351232) (hm : m.size ≤ 140737488351232) :
    Calls Try.prog 15 #[.pointer (some ⟨d, 0, none⟩), .string s, .string m] w fun e w' => e = .returned (.int .i64 (wrE S s.data.toList m.data.toList)) ∧ Dsk B w' d (wrS S s.data.toList m.data.toList) ∧ Below B w w' := by
  obtain ⟨hB, ow, h1, h2⟩ := h
  exact (Write_any h1 s m hs hm).mono fun e w' ⟨a, b⟩ => ⟨a, b.dsk hB h2⟩
theorem Append_d (h : Dsk B w d S) (s m : ByteArray) (hs : s.size ≤ 140737488351232) (hm : m.size ≤ 140737488351232) :
    Calls Try.prog 16 #[.pointer (some ⟨d, 0, none⟩), .string s, .string m] w fun e w' => e = .returned (.int .i64 (apE S s.data.toList m.data.toList)) ∧ Dsk B w' d (apS S s.data.toList m.data.toList) ∧ Below B w w' := by
  obtain ⟨hB, ow, h1, h2⟩ := h
  exact (Append_any h1 s m hs hm).mono fun e w' ⟨a, b⟩ => ⟨a, b.dsk hB h2⟩
theorem Sync_d (h : Dsk B w d S) (s : ByteArray) (hs : s.size ≤ 140737488351232) :
    Calls Try.prog 17 #[.pointer (some ⟨d, 0, none⟩), .string s] w fun e w' => e = .returned (.int .i64 (syE S s.data.toList)) ∧ Dsk B w' d (syS S s.data.toList) ∧ Below B w w' := by
  obtain ⟨hB, ow, h1, h2⟩ := h
  exact (Sync_any h1 s (by unfold maxLen; omega)).mono fun e w' ⟨a, b⟩ => ⟨a, b.dsk hB h2⟩
theorem Rename_d (h : Dsk B w d S) (s t : ByteArray) (hs : s.size ≤ 140737488351232) :
    Calls Try.prog 18 #[.pointer (some ⟨d, 0, none⟩), .string s, .string t] w fun e w' => e = .returned (.int .i64 (reE S s.data.toList t.data.toList)) ∧ Dsk B w' d (reS S s.data.toList t.data.toList) ∧ Below B w w' := by
  obtain ⟨hB, ow, h1, h2⟩ := h
  exact (Rename_any h1 s t (by unfold maxLen; omega)).mono fun e w' ⟨a, b⟩ => ⟨a, b.dsk hB h2⟩
theorem Fuse_d (h : Dsk B w d S) (k : Int) (hk : k ≤ 9223372036854775807) :
    Calls Try.prog 19 #[.pointer (some ⟨d, 0, none⟩), .int .i64 k] w fun e w' => e = .returned (.int .i64 (fuE k)) ∧ Dsk B w' d (fuS S k) ∧ Below B w w' := by
  obtain ⟨hB, ow, h1, h2⟩ := h
  exact (Fuse_any h1 k hk).mono fun e w' ⟨a, b⟩ => ⟨a, b.dsk hB h2⟩
theorem Read_d (h : Dsk B w d S) (s : ByteArray) (hs : s.size ≤ 140737488351232) :
    Calls Try.prog 23 #[.pointer (some ⟨d, 0, none⟩), .string s] w fun e w' => e = .returned (.tuple #[.string ⟨(rdT S s.data.toList).toArray⟩, .int .i64 (knE S s.data.toList)]) ∧ w' = w := by
  obtain ⟨hB, ow, h1, h2⟩ := h
  exact Read_any h1 s (by unfold maxLen; omega)
/-- Numbers that came in. -/
def IntB (B : Nat) (w : World) (a : Option Addr) (xs : List Int) : Prop :=
  0 < xs.length → ∃ b o, a = some ⟨b, o, none⟩ ∧ b < B ∧ ∀ i (hi : i < xs.length), w.cell? ⟨b, o + i, none⟩ = some (.int .i64 xs[i])
theorem IntB.on {a : Option Addr} {xs : List Int} (h : IntB B w a xs) (hb : Below B w w') : IntB B w' a xs := by
  intro hx
  obtain ⟨b, o, e, h1, h2⟩ := h hx
  exact ⟨b, o, e, h1, fun i hi => (hb.cell (p := ⟨b, o + i, none⟩) h1).trans (h2 i hi)⟩
theorem Crash_d (h : Dsk B w d S) (a : Option Addr) (xs : List Int) (cap : Nat) (hx : xs.length ≤ 140737488351232) (hc : cap ≤ 9223372036854775807) (hxc : xs.length ≤ cap) (hi : IntB B w a xs) :
    Calls Try.prog 20 #[.pointer (some ⟨d, 0, none⟩), .slice a xs.length cap] w fun e w' => e = .returned (.int .i64 (crE xs)) ∧ Dsk B w' d (crS S xs) ∧ Below B w w' := by
  obtain ⟨hB, ow, h1, h2⟩ := h
  refine (Crash_any h1 a xs cap hx hc hxc ?_).mono fun e w' ⟨a, b⟩ => ⟨a, b.dsk hB h2⟩
  intro h0
  obtain ⟨b, o, e, hb, hcell⟩ := hi h0
  refine ⟨b, o, e, by omega, ?_, hcell⟩
  cases hq : ow b with
  | none => rfl
  | some x => exact absurd (h2 b (by unfold Ow; rw [hq]; simp)) (by omega)
theorem Crash1_d (h : Dsk B w d S) (x : Int) :
    Calls Try.prog 20 #[.pointer (some ⟨d, 0, none⟩), .slice (some ⟨w.heap.size, 0, none⟩) 1 1] (w.alloc (.cells #[.int .i64 x] 3)) fun e w' => e = .returned (.int .i64 0) ∧ Dsk B w' d (crS S [x]) ∧ Below B w w' := by
  have hb1 : Below w.heap.size w (w.alloc (.cells #[.int .i64 x] 3)) := (Below.refl _ _).alloc (Nat.le_refl _) _
  obtain ⟨hB, ow, h0, h2⟩ := h
  have h1 := h0.on hb1
  have hB1 : B ≤ (w.alloc (.cells #[.int .i64 x] 3)).heap.size := by simp; omega
  refine (Crash_any h1 (some ⟨w.heap.size, 0, none⟩) [x] 1 (by simp) (by omega) (by simp) ?_).mono fun e w' ⟨a, b⟩ => ⟨a, (b.dsk hB1 h2).1, (hb1.mono hB).trans (b.dsk hB1 h2).2⟩
  intro _
  refine ⟨w.heap.size, 0, rfl, by simp, h0.out (Nat.le_refl _), fun i hi => ?_⟩
  have : i = 0 := by simp at hi; omega
  subst this
  simp
end
set_option maxRecDepth 100000 in
set_option maxHeartbeats 3200000 in
theorem works_any (w : World) :
    Calls Try.prog 13 #[] w fun e w' => e = .returned (.bool true) ∧ Below w.heap.size w w' := by
  obtain ⟨S1, HS1⟩ := named (wrS S0 [97] [120])
  obtain ⟨S2, HS2⟩ := named (syS S1 [97])
  obtain ⟨S3, HS3⟩ := named (apS S2 [97] [121, 122])
  obtain ⟨S4, HS4⟩ := named (crS S3 [1])
  have E1 : Hid (wrE S0 [97] [120] = 0) := by show _ = _; rfl
  have E2 : Hid (syE S1 [97] = 0) := by show _ = _; rw [← HS1.out]; rfl
  have E3 : Hid (apE S2 [97] [121, 122] = 0) := by show _ = _; rw [← HS2.out, ← HS1.out]; rfl
  have E5 : Hid (knE S4 [97] = 0 ∧ rdT S4 [97] = [120, 121]) := by show _ ∧ _; rw [← HS4.out, ← HS3.out, ← HS2.out, ← HS1.out]; exact ⟨rfl, rfl⟩
  go_enter Try.func13, Try.ntmps13
  go_wp2_with fail
  refine (New_d w).mono ?_
  rintro e w0 ⟨d, rfl, h0, hb0⟩
  have HC1 := Lib.hid (Write_d h0 ⟨#[97]⟩ ⟨#[120]⟩ (by decide) (by decide))
  rw [show (⟨#[97]⟩ : ByteArray).data.toList = [97] from rfl, show (⟨#[120]⟩ : ByteArray).data.toList = [120] from rfl, E1.out, HS1.out] at HC1
  clear h0
  go_wp2_with fail
  refine HC1.out.mono ?_
  rintro e w1 ⟨rfl, h1, hb1⟩
  have b1 := hb0.trans hb1
  have HC2 := Lib.hid (Sync_d h1 ⟨#[97]⟩ (by decide))
  rw [show (⟨#[97]⟩ : ByteArray).data.toList = [97] from rfl, E2.out, HS2.out] at HC2
  clear h1 hb0 hb1
  go_wp2_with fail
  refine HC2.out.mono ?_
  rintro e w2 ⟨rfl, h2, hb2⟩
  have b2 := b1.trans hb2
  have HC3 := Lib.hid (Append_d h2 ⟨#[97]⟩ ⟨#[121, 122]⟩ (by decide) (by decide))
  rw [show (⟨#[97]⟩ : ByteArray).data.toList = [97] from rfl, show (⟨#[121, 122]⟩ : ByteArray).data.toList = [121, 122] from rfl, E3.out, HS3.out] at HC3
  clear h2 hb2 b1
  go_wp2_with fail
  refine HC3.out.mono ?_
  rintro e w3 ⟨rfl, h3, hb3⟩
  have b3 := b2.trans hb3
  have HC4 := Lib.hid (Crash1_d h3 1)
  rw [HS4.out] at HC4
  clear h3 hb3 b2
  go_wp2_with fail
  refine HC4.out.mono ?_
  rintro e w4 ⟨rfl, h4, hb4⟩
  have b4 := b3.trans hb4
  have HC5 := Lib.hid (Read_d h4 ⟨#[97]⟩ (by decide))
  rw [show (⟨#[97]⟩ : ByteArray).data.toList = [97] from rfl, E5.out.1, E5.out.2] at HC5
  clear h4 hb4 b3
  go_wp2_with fail
  refine HC5.out.mono ?_
  rintro e w5 ⟨rfl, rfl⟩
  go_wp2_with fail
  go_ret
  exact ⟨rfl, b4⟩
end Go.Proofs.Ytlbkmhlpgpfafaa
