/-
  Contract of code.Frame: the number of bytes, their sum, they; or ErrLong.
-/
import Derived.Test.YtgcnpmjpdhgikaaDoorBytes
namespace Go.Proofs.YtgcnpmjpdhgikaaDoor
open Go.RowKit
theorem own_slice {w : World} {base : Nat} {e : TypeId} {v : Value} {n : Nat} {xs : List Value} {k : Nat} (h : w.ownsRow base e k v n xs) (hn : 0 < n) : ∃ g c, v = .slice (some ⟨g, 0, none⟩) n c ∧ base ≤ g ∧ n ≤ c ∧ g < w.heap.size ∧ c ≤ 9223372036854775807 := by
  rcases h.2 with ⟨h', h0⟩ | ⟨g, c, cur, h', hb, hg, hnc, hm, _⟩
  · omega
  · exact ⟨g, c, h', hb, hnc, lt_of_block hg, hm⟩
theorem conv_own {w : World} {base : Nat} {v : Value} {l : List UInt8} (h : w.ownsRow base 5 1 v l.length (bytesC l)) : (convert 50 9 v).run Tryd.prog w = .ok (.string ⟨l.toArray⟩) w := by
  rcases h.2 with ⟨h', h0⟩ | ⟨g, c, cur, h', hb, hg, hnc, hm, _⟩
  · have e : l = [] := List.eq_nil_of_length_eq_zero h0
    subst e; subst h'
    rw [run_convert_bytes_string w 50 9 5 none 0 0 Tryd.underlying50 Tryd.underlying5 Tryd.underlying9]
    simp [Conv.bytesToString, go_sem]
    rfl
  · subst h'
    refine run_convert_bytes_back (P := Tryd.prog) w 50 9 5 ⟨g, 0, none⟩ c l Tryd.underlying50 Tryd.underlying5 Tryd.underlying9 (fun j hj => ?_)
    have h1 := h.cells (g := g) rfl j _ (bytesC_at l j hj)
    exact h1
theorem str_append (l : List UInt8) (s : ByteArray) : (⟨l.toArray⟩ : ByteArray) ++ s = ⟨(l ++ s.data.toList).toArray⟩ := by
  apply ByteArray.ext
  simp
/-- A frame of bytes. -/
def frameD (l : List UInt8) : List UInt8 := le4 l.length ++ le4 (crcD l) ++ l
theorem frameD_len (l : List UInt8) : (frameD l).length = l.length + 8 := by unfold frameD; simp [le4_len]; omega
set_option maxHeartbeats 400000 in
theorem frame_long (s : ByteArray) (h : 262144 < s.size) (hs : s.size ≤ 9223372036854775807) (w : World) :
    Calls Tryd.prog 17 #[.string s] w fun e w' => e = .returned (.tuple #[.string ⟨#[]⟩, .int .i64 2]) ∧ w' = w := by
  have hl : (262144 : Int) < s.size := by omega
  go_enter Tryd.func17, Tryd.ntmps17
  go_wp2_with fail
  go_ret2
  exact ⟨rfl, rfl⟩
theorem Halves.size {w : World} (h : Halves w) : 0 < w.heap.size := World.block_lt_of_cell? w _ (h.cell 0 (by decide))
theorem Halves.on {B : Nat} {w w' : World} (h : Halves w) (hb : Below B w w') (hB : 0 < B) : Halves w' := by
  unfold Halves Lib.TabIs World.var? at *
  rw [gHalves] at *
  simp only [Option.bind_some] at h ⊢
  rw [hb.block 0 hB]
  exact h
set_option maxHeartbeats 400000 in
theorem frame_any (s : ByteArray) (h : s.size ≤ 262144) (w : World) (hh : Halves w) :
    Calls Tryd.prog 17 #[.string s] w fun e w' => e = .returned (.tuple #[.string ⟨(frameD s.data.toList).toArray⟩, .int .i64 0]) ∧ Below w.heap.size w w' := by
  have hl : ¬ (262144 : Int) < s.size := by omega
  have hc := crcD_lt s.data.toList
  have HF : Hid (frameD s.data.toList = (le4 s.size ++ le4 (crcD s.data.toList)) ++ s.data.toList) := by
    show _ = _
    unfold frameD
    simp
  obtain ⟨C, HC⟩ : ∃ C, Hid (crcD s.data.toList = C) := ⟨_, rfl⟩
  rw [HC.out] at hc HF
  go_enter Tryd.func17, Tryd.ntmps17
  go_wp2_with fail
  refine (aword_any w.heap.size (.slice none 0 0) [] s.size (by omega) w (World.ownsRow_nil w _ _ _) (Nat.le_refl _) (by decide)).mono ?_
  rintro e w1 ⟨v1, rfl, hown1, hb1⟩
  have HO1 := Lib.hid hown1
  clear hown1
  go_wp2_with fail
  refine (crc_any s (by omega) _ (hh.on hb1 hh.size)).mono ?_
  rintro e w2 ⟨rfl, rfl⟩
  rw [HC.out]
  go_wp2_with fail
  refine (aword_any w.heap.size v1 _ C hc _ HO1.out hb1.size (by simp [le4_len])).mono ?_
  rintro e w2 ⟨v2, rfl, hown2, hb2⟩
  have hcv := conv_own hown2
  clear hown2
  obtain ⟨m, HM⟩ : ∃ m : ByteArray, Hid ((⟨((([] : List UInt8) ++ le4 s.size) ++ le4 C).toArray⟩ : ByteArray) = m) := ⟨_, rfl⟩
  have hms : m.size ≤ 8 := by rw [← HM.out]; exact Nat.le_refl 8
  rw [HM.out] at hcv
  go_wp2_with fail
  go_ret2
  refine ⟨?_, hb1.trans hb2⟩
  rw [HF.out, ← HM.out, str_append]
  rfl
end Go.Proofs.YtgcnpmjpdhgikaaDoor
