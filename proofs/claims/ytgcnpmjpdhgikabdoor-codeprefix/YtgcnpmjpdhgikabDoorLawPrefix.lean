/-
  No beginning of an item's bytes is an item, nor are they with a byte behind.
-/
import Derived.Test.YtgcnpmjpdhgikabDoorBackD
import Derived.Test.YtgcnpmjpdhgikabDoorWorks
import Derived.Laws.StructEq
namespace Go.Proofs.YtgcnpmjpdhgikabDoor
open Go.RowKit
theorem enc_ok {t : T} (h : (encD t).2 = 0) : wrongF 8 t = 0 ∧ (encF 8 t).length ≤ 262144 ∧ encD t = (encF 8 t, 0) := by
  rw [encD_eq] at h ⊢
  by_cases h1 : wrongF 8 t = 0
  · rw [if_neg (by simpa using h1)] at h ⊢
    by_cases h2 : 262144 < (encF 8 t).length
    · rw [if_pos h2] at h; cases h
    · rw [if_neg h2]
      exact ⟨h1, by omega, rfl⟩
  · rw [if_pos h1] at h
    exact absurd h h1
theorem take_data (s : ByteArray) (i : Nat) : (s.extract 0 i).data.toList = s.data.toList.take i := by
  rw [ByteArray.data_extract, Array.toList_extract]
  simp [List.extract]
theorem pre_no {t : T} (ho : Okk 8 t) {s : ByteArray} (hs : s.data.toList = encF 8 t) {i : Nat} (hi : i < s.size) {y : T} (hy : Okk 8 y) (e : (s.extract 0 i).data.toList = encF 8 y) : False := by
  rw [take_data] at e
  have h1 : encF 8 t ++ [] = encF 8 y ++ s.data.toList.drop i := by rw [← e, List.take_append_drop, List.append_nil, hs]
  have h2 := (encF_inj 8 t y [] _ ho hy h1).2
  have h3 := congrArg List.length h2
  rw [List.length_drop] at h3
  have h4 : s.data.toList.length = s.size := by rw [Array.length_toList]; rfl
  simp only [List.length_nil] at h3
  omega
theorem more_is {t : T} (ho : Okk 8 t) {s b : ByteArray} {x : UInt8} (hs : s.data.toList = encF 8 t) (hb : b.data.toList = s.data.toList ++ [x]) {w w' : World} {e : Ending} (h : DecOut b w e w') :
    ∃ (y : T), e = .returned (.tuple #[y.val, .agg #[.int .i64 s.size, .int .i64 24]]) ∧ Below w.heap.size w w' := by
  obtain ⟨y, a, c, rfl, hbw, h1, h2, h3⟩ := h
  rw [hb, hs] at h3
  rcases h3 with ⟨_, _, _, h5, h6⟩ | ⟨_, _, h5⟩ | ⟨rfl, _, u, r, h5, h6, h7, h8⟩
  · have := (encF_inj 8 t y [x] [] ho h5 (by rw [List.append_nil]; exact h6)).2
    cases this
  · exact (h5 t [x] ho rfl).elim
  · have h9 := (encF_inj 8 t u [x] r ho h5 h7).2
    subst h9
    have h10 := congrArg List.length h7
    simp only [List.length_append, List.length_cons, List.length_nil] at h10
    have h4 : s.data.toList.length = s.size := by rw [Array.length_toList]; rfl
    rw [hs] at h4
    have ha : a = (s.size : Int) := by rw [h8]; omega
    subst ha
    exact ⟨y, rfl, hbw⟩
set_option maxHeartbeats 1600000 in
set_option maxRecDepth 100000 in
theorem law_prefix_at (t : T) (k n : Int) (s : ByteArray) (a : Option Addr) (m cap : Nat) (hv : t.val = .agg #[.int .i64 k, .int .u64 n, .string s, .slice a m cap]) (x : Int) (hx0 : 0 ≤ x) (hx1 : x < 256) (w : World) (hin : InF w 8 t) (hh : Halves w) :
    Calls Tryd.prog 3 #[.agg #[.int .i64 k, .int .u64 n, .string s, .slice a m cap], .int .u8 x] w fun e w' => e = .returned (.bool true) ∧ Below w.heap.size w w' := by
  have H1 := Lib.hid (fun w h => encode_at t k n s a m cap hv w h)
  have HIN := Lib.hid hin
  have HH := Lib.hid hh
  clear hin hh hv
  have hb0 : Below w.heap.size w (w.alloc (.cells #[.int .i64 k, .int .u64 n, .string s, .slice a m cap] 25)) := (Below.refl _ _).alloc (Nat.le_refl _) _
  unfold encV at H1
  by_cases hE : (encD t).2 = 0
  · obtain ⟨e1, e2, e3⟩ := enc_ok hE
    rw [e3] at H1
    have HOK := Lib.hid (okk_of 8 t HIN.out e1)
    obtain ⟨bs, HBS⟩ := named (⟨(encF 8 t).toArray⟩ : ByteArray)
    have hbs : bs.data.toList = encF 8 t := by rw [← HBS.out]
    have hbz : bs.size ≤ 262144 := by rw [← HBS.out]; simpa [ByteArray.size] using e2
    have HL := Lib.hid hbs
    simp only [HBS.out] at H1
    clear hE e1 e2 e3 hbs
    go_enter Tryd.func3, Tryd.ntmps3
    go_wp2_with fail
    refine (works_any _ (HH.out.on hb0 HH.out.size)).mono ?_
    rintro e w1 ⟨rfl, hb1⟩
    obtain ⟨q0, q1, q2, q3⟩ := bcell4 hb1 (by simp)
    have b1 : Below w.heap.size w w1 := hb0.trans (hb1.mono hb0.size)
    clear hb1
    go_wp2_with fail
    refine (H1.out _ (HIN.out.on b1)).mono ?_
    rintro e w2 ⟨rfl, hb2⟩
    have b2 := b1.trans (hb2.mono b1.size)
    clear hb2 b1 q0 q1 q2 q3
    by_cases h2 : 2000 < bs.size
    · have h2' : (2000 : Int) < bs.size := by omega
      go_wp2_with fail
      go_ret
      exact ⟨rfl, b2⟩
    · have h2' : ¬ (2000 : Int) < bs.size := by omega
      go_wp2_with fail
      go_loopw [28] (fun i wr => ∃ j : Nat, j ≤ bs.size ∧ i = .int .i64 j ∧ Below w.heap.size w wr) (fun i _ => bs.size - (intOf i).toNat)
      case atStart => exact ⟨0, Nat.zero_le _, rfl, b2⟩
      case round =>
        obtain ⟨j, hj, rfl, hbr⟩ := hrel
        by_cases hlt : j < bs.size
        · have hlt' : (j : Int) < bs.size := by omega
          have hj' : (j : Int) ≤ bs.size := by omega
          have HDE := Lib.hid (fun w => decode_back (bs.extract 0 j) (by rw [ByteArray.size_extract]; omega) w)
          go_wp2_with fail
          refine (HDE.out _).mono ?_
          rintro e w3 ⟨y, a3, c3, rfl, hb3, -, -, hor⟩
          have hc3 : c3 ≠ 0 := by
            rcases hor with ⟨_, _, _, h5, h6⟩ | ⟨h, _⟩ | ⟨rfl, _⟩
            · exact (pre_no HOK.out HL.out hlt h5 h6).elim
            · exact h
            · decide
          have hcc : (c3 == 0) = false := beq_eq_false_iff_ne.2 hc3
          have HB3 := Lib.hid (hbr.trans (hb3.mono hbr.size))
          clear hor hb3 hc3
          unfold T.val
          go_wp2_with fail
          exact ⟨⟨j + 1, by omega, by go_num, HB3.out.trans (((Below.refl w3.heap.size w3).alloc (Nat.le_refl _) _).alloc (by simp) _ |>.mono HB3.out.size)⟩, by simp [intOf]; omega⟩
        · have hlt' : ¬ (j : Int) < bs.size := by omega
          obtain ⟨b, hb⟩ : ∃ b : UInt8, (b.toNat : Int) = x := ⟨x.toNat.toUInt8, by rw [UInt8.toNat_ofNat']; omega⟩
          subst hb
          have hcv : (convert 34 9 (.slice (some ⟨wr.heap.size, 0, none⟩) 1 1)).run Tryd.prog (wr.alloc (.cells #[.int .u8 b.toNat] 5)) = .ok (.string ⟨#[b]⟩) (wr.alloc (.cells #[.int .u8 b.toNat] 5)) :=
            conv_own (l := [b]) (World.ownsRow_lit (base := wr.heap.size) (e := 5) (size := 1) wr #[.int .u8 b.toNat] 1 (Nat.le_refl _) (by decide) rfl)
          have hsz : (bs ++ ⟨#[b]⟩ : ByteArray).size = bs.size + 1 := by rw [ByteArray.size_append]; rfl
          have HDE := Lib.hid (fun w => decode_back (bs ++ ⟨#[b]⟩) (by rw [hsz]; omega) w)
          have HMO := Lib.hid (fun (w w' : World) e h => more_is (w := w) (w' := w') (e := e) (b := bs ++ ⟨#[b]⟩) (x := b) HOK.out HL.out (by rw [ByteArray.data_append]; simp) h)
          go_wp2_with fail
          refine (HDE.out _).mono ?_
          intro e w3 hdo
          obtain ⟨y, rfl, hb3⟩ := HMO.out _ _ _ hdo
          have b3 : Below w.heap.size w w3 := (hbr.alloc hbr.size _).trans (hb3.mono (by have := hbr.size; simp; omega))
          have B3 := Lib.hid b3
          clear hdo hb3 b3 hcv
          unfold T.val
          go_wp2_with fail
          go_ret
          exact ⟨rfl, B3.out.trans (((Below.refl w3.heap.size w3).alloc (Nat.le_refl _) _).alloc (by simp) _ |>.mono B3.out.size)⟩
  · have hE' : ((encD t).2 == 0) = false := beq_eq_false_iff_ne.2 hE
    generalize (encD t).2 = E at *
    generalize (encD t).1 = Y at *
    go_enter Tryd.func3, Tryd.ntmps3
    go_wp2_with fail
    refine (works_any _ (HH.out.on hb0 HH.out.size)).mono ?_
    rintro e w1 ⟨rfl, hb1⟩
    obtain ⟨q0, q1, q2, q3⟩ := bcell4 hb1 (by simp)
    have b1 : Below w.heap.size w w1 := hb0.trans (hb1.mono hb0.size)
    clear hb1
    go_wp2_with fail
    refine (H1.out _ (HIN.out.on b1)).mono ?_
    rintro e w2 ⟨rfl, hb2⟩
    have b4 := b1.trans (hb2.mono b1.size)
    clear hb2 b1 q0 q1 q2 q3
    go_wp2_with fail
    go_ret
    exact ⟨rfl, b4⟩
theorem law_prefix (t : T) (x : Int) (hx0 : 0 ≤ x) (hx1 : x < 256) (w : World) (hin : InF w 8 t) (hh : Halves w) :
    Calls Tryd.prog 3 #[t.val, .int .u8 x] w fun e w' => e = .returned (.bool true) ∧ Below w.heap.size w w' := law_prefix_at t _ _ _ _ _ _ rfl x hx0 hx1 w hin hh
end Go.Proofs.YtgcnpmjpdhgikabDoor
