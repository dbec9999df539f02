/-
  Contracts of the reference's four, getFour, fault, Frame and Unframe.
-/
import Derived.Test.YtgcnpmjpdhgikaaDoorRefCrc
import Derived.Test.YtgcnpmjpdhgikaaDoorFrames
namespace Go.Proofs.YtgcnpmjpdhgikaaDoor
open Go.RowKit
set_option maxHeartbeats 400000 in
theorem rfour_any (x : Nat) (hx : x < 4294967296) (w : World) :
    Calls Tryd.prog 36 #[.int .u32 x] w fun e w' => ∃ v, e = .returned v ∧ OwnB w' w.heap.size v (le4 x) ∧ Below w.heap.size w w' := by
  go_enter Tryd.func36, Tryd.ntmps36
  go_wp2_with fail
  go_ret
  refine ⟨_, rfl, ?_, (Below.refl _ _).alloc (Nat.le_refl _) _⟩
  have h := World.ownsRow_lit (base := w.heap.size) (e := 5) (size := 1) w #[.int .u8 ((x : Int) % 256), .int .u8 ((x : Int) / 256 % 256), .int .u8 ((x : Int) / 65536 % 256), .int .u8 ((x : Int) / 16777216)] 4 (Nat.le_refl _) (by decide) rfl
  unfold OwnB
  rw [le4_cells hx]
  exact h
set_option maxHeartbeats 400000 in
theorem rgetfour_any (s : ByteArray) (h : 4 ≤ s.size) (w : World) :
    Calls Tryd.prog 39 #[.string s] w fun e w' => e = .returned (.int .u32 (wordL s.data.toList : Nat)) ∧ ∃ n, w' = w.drewN n := by
  have HW : Hid (wordL s.data.toList = word4 s[0].toNat s[1].toNat s[2].toNat s[3].toNat) := by
    show _ = _
    unfold wordL
    rw [getD_at s 0 (by omega), getD_at s 1 (by omega), getD_at s 2 (by omega), getD_at s 3 (by omega)]
  have h0 : s[0].toNat < 256 := s[0].toNat_lt
  have h1 : s[1].toNat < 256 := s[1].toNat_lt
  have h2 : s[2].toNat < 256 := s[2].toNat_lt
  have h3 : s[3].toNat < 256 := s[3].toNat_lt
  have i0 : (0 : Int) < s.size := by omega
  have i1 : (1 : Int) < s.size := by omega
  have i2 : (2 : Int) < s.size := by omega
  have i3 : (3 : Int) < s.size := by omega
  have b0 : 0 < s.size := by omega
  have b1 : 1 < s.size := by omega
  have b2 : 2 < s.size := by omega
  have b3 : 3 < s.size := by omega
  go_enter Tryd.func39, Tryd.ntmps39
  go_wp2_with fail
  go_quiet (fail)
  go_wp2_with fail
  go_ret
  exact ⟨ret_int (by rw [HW.out]; unfold word4; simp), nq, rfl⟩
set_option maxHeartbeats 400000 in
theorem rfault_any (a e : Int) (w : World) :
    Calls Tryd.prog 33 #[.int .i64 a, .int .i64 e] w fun r w' => r = .returned (.agg #[.int .i64 a, .int .i64 e]) ∧ Below w.heap.size w w' := by
  go_enter Tryd.func33, Tryd.ntmps33
  go_wp2_with fail
  exact bodyPost_ret (v := .agg #[.int .i64 a, .int .i64 e]) (by simp [results, Tryd.results33, go_sem]) rfl ⟨rfl, (Below.refl _ _).alloc (Nat.le_refl _) _⟩
set_option maxHeartbeats 400000 in
theorem rframe_long (s : ByteArray) (h : 262144 < s.size) (hs : s.size ≤ 9223372036854775807) (w : World) :
    Calls Tryd.prog 18 #[.string s] w fun e w' => e = .returned (.tuple #[.string ⟨#[]⟩, .int .i64 2]) ∧ w' = w := by
  have hl : (262144 : Int) < s.size := by omega
  go_enter Tryd.func18, Tryd.ntmps18
  go_wp2_with fail
  go_ret2
  exact ⟨rfl, rfl⟩
theorem own_news {w : World} {base : Nat} {v : Value} {l : List UInt8} (h : OwnB w base v l) (h0 : 0 < l.length) : ∃ g c, v = .slice (some ⟨g, 0, none⟩) l.length c ∧ ∀ j u, (bytesC l)[j]? = some u → w.cell? ((⟨g, 0, none⟩ : Addr).add j) = some u := by
  obtain ⟨g, c, hv, _⟩ := own_slice h h0
  exact ⟨g, c, hv, World.ownsRow.cells h (by rw [hv]; rfl)⟩
set_option maxHeartbeats 400000 in
theorem rframe_any (s : ByteArray) (h : s.size ≤ 262144) (w : World) :
    Calls Tryd.prog 18 #[.string s] w fun e w' => e = .returned (.tuple #[.string ⟨(frameD s.data.toList).toArray⟩, .int .i64 0]) ∧ Below w.heap.size w w' := by
  obtain ⟨i0, hi, hz0, hz1, hz2⟩ := info_parts info5
  have hl : ¬ (262144 : Int) < s.size := by omega
  have hc := crcD_lt s.data.toList
  have HF : Hid (frameD s.data.toList = (le4 s.size ++ le4 (crcD s.data.toList)) ++ s.data.toList) := by
    show _ = _
    unfold frameD
    simp
  obtain ⟨C, HC⟩ := named (crcD s.data.toList)
  rw [HC.out] at hc HF
  go_enter Tryd.func18, Tryd.ntmps18
  go_wp2_with fail
  refine (rfour_any s.size (by omega) w).mono ?_
  rintro e w1 ⟨v1, rfl, hown1, hb1⟩
  have HO1 := Lib.hid hown1
  clear hown1
  go_wp2_with fail
  refine (rcrc_any s (by omega) _).mono ?_
  rintro e w2 ⟨rfl, rfl⟩
  rw [HC.out]
  go_wp2_with fail
  refine (rfour_any C hc _).mono ?_
  rintro e w3 ⟨v3, rfl, hown3, hb3⟩
  have hown1 : w3.ownsRow w.heap.size 5 1 v1 (le4 s.size).length (bytesC (le4 s.size)) := HO1.out.on hb3
  obtain ⟨g, c, rfl, hnews⟩ := own_news hown3 (by rw [le4_len]; decide)
  have hsz1 := hb1.size
  have hsz3 := hb3.size
  have hbw : Below w.heap.size w w3 := hb1.trans (hb3.mono hsz1)
  clear hb3 HO1 hown3
  have hd : s.data.toList.length = s.size := by simp
  go_wp2_with (first
    | (at_builtin; refine wpList_append_own _ rfl (.tmp 11) (.tmp 14) 50 rfl w.heap.size 5 i0 (.int .u8 0) 1 1 Tryd.underlying50 hi hz0 hz1 hz2 rfl (by decide) v1 (le4 s.size).length (bytesC (le4 s.size)) rfl hown1 ⟨g, 0, none⟩ (le4 C).length c (bytesC (le4 C)) rfl (by rw [bytesC_len, Nat.mul_one]) hnews (bytesC_one _) (by rw [le4_len, le4_len]; decide) (by rw [le4_len, le4_len]; decide) (by omega) ?_; intro v4 w4 hown4 hgrow4 hnil4; clear hnil4; have hlt1 := hown1.lt; have hb4 : Below w.heap.size w w4 := hbw.grown hgrow4 (by omega) (fun k hk => (hlt1 k hk).1); have HO4 := Lib.hid (own_join hown4); clear hown4 hgrow4)
    | (at_builtin; refine Lib.wpList_append_own_string _ rfl (.tmp 16) (.tmp 17) 50 9 rfl w.heap.size 5 i0 Tryd.underlying50 Tryd.underlying9 hi hz0 hz1 hz2 v4 (le4 s.size ++ le4 C).length (bytesC (le4 s.size ++ le4 C)) rfl HO4.out s rfl (by unfold maxLen; rw [List.length_append, le4_len, le4_len]; omega) (by rw [List.length_append, le4_len, le4_len]; omega) (by have := hb4.size; omega) ?_; intro v5 w5 hown5 hgrow5 hnil5; clear hnil5; have hlt4 := HO4.out.lt; have hb5 : Below w.heap.size w w5 := hb4.grown hgrow5 (by have := hb4.size; omega) (fun k hk => (hlt4 k hk).1); have hcv := conv_own (l := (le4 s.size ++ le4 C) ++ s.data.toList) (own_join (m := s.data.toList) (by rw [hd]; exact hown5)); clear hown5 hgrow5 hd))
  go_ret2
  exact ⟨by rw [HF.out]; rfl, hb5⟩
end Go.Proofs.YtgcnpmjpdhgikaaDoor
