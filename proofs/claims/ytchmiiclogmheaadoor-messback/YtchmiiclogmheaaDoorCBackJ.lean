/-
  Contract of the reader's method item, in general.
-/
import Derived.Test.YtchmiiclogmheaaDoorCBackI
namespace Go.Proofs.YtchmiiclogmheaaDoor.C2
open Go.RowKit
set_option maxHeartbeats 1000000 in
set_option maxRecDepth 100000 in
theorem item_deep (s : ByteArray) (rb k : Nat) (hk : k ≤ s.size) (w : World) (hr : RS w rb s k) :
    Calls Tryd.prog 43 #[.pointer (some ⟨rb, 0, none⟩), .int .i64 9] w (ItOut s rb 0 k w) := by
  have HR := Lib.hid hr
  obtain ⟨hlt, c0, c1, f1⟩ := hr
  go_enter Tryd.func43, Tryd.ntmps43
  go_wp2_with fail
  obtain ⟨HR1, hx1, hf1, hrd1, hz1⟩ := start_on HR.out 0
  refine (fault_any k 21 _).mono ?_
  rintro e w2 ⟨rfl, hb2⟩
  have hX := (hb2.block _ (lt_of_block hx1)).trans hx1
  have hF := (hb2.block _ (lt_of_block hf1)).trans hf1
  have hrd2 : Rd rb w w2 := hrd1.trans (Rd.of hb2)
  have HRS2 := Lib.hid (HR1.on hb2)
  obtain ⟨⟨q0, q1, q2, q3⟩, p0, p1, p2, p3⟩ := four_cells hX
  obtain ⟨⟨g0, g1⟩, m0, m1⟩ := two_cells hF
  have hl1 := lt_of_block hX
  have hl2 := lt_of_block hF
  clear hb2 hX hF hx1 hf1 hrd1 hz1 HR1
  try clear c0 c1 f1
  go_wp2_with fail
  refine bodyPost_ret (v := .tuple #[.agg #[.int .i64 0, .int .u64 0, .string ⟨#[]⟩, .slice none 0 0], .agg #[.int .i64 k, .int .i64 21]]) (by simp [results, Tryd.results43, go_sem, q0, q1, q2, q3, g0, g1]) rfl ⟨T.zero, k, 21, k, rfl, ?_, ?_, by omega, by omega, by omega, Or.inr ⟨by omega, fun t r h _ => h⟩⟩
  · exact (((((hrd2.setNew (by simp) _).setNew (by simp) _).setNew (by simp) _).setNew (by simp) _).setNew (by simp) _).setNew (by simp) _
  · exact (((((HRS2.out.setOther (by simp; omega) _).setOther (by simp; omega) _).setOther (by simp; omega) _).setOther (by simp; omega) _).setOther (by simp; omega) _).setOther (by simp; omega) _
set_option maxHeartbeats 1000000 in
set_option maxRecDepth 100000 in
theorem item_end (s : ByteArray) (rb f : Nat) (d : Int) (hd : d ≤ 8) (w : World) (hr : RS w rb s s.size) :
    Calls Tryd.prog 43 #[.pointer (some ⟨rb, 0, none⟩), .int .i64 d] w (ItOut s rb f s.size w) := by
  have hd' : ¬ 8 < d := by omega
  have hke : ((s.size : Int) == (s.size : Int)) = true := by rw [beq_iff_eq]
  have HR := Lib.hid hr
  obtain ⟨hlt, c0, c1, f1⟩ := hr
  go_enter Tryd.func43, Tryd.ntmps43
  go_wp2_with fail
  go_quiet (fail)
  go_wp2_with fail
  obtain ⟨HR1, hx1, hf1, hrd1, hz1⟩ := start_on HR.out nq
  refine (fault_any s.size 23 _).mono ?_
  rintro e w2 ⟨rfl, hb2⟩
  have hX := (hb2.block _ (lt_of_block hx1)).trans hx1
  have hF := (hb2.block _ (lt_of_block hf1)).trans hf1
  have hrd2 : Rd rb w w2 := hrd1.trans (Rd.of hb2)
  have HRS2 := Lib.hid (HR1.on hb2)
  obtain ⟨⟨q0, q1, q2, q3⟩, p0, p1, p2, p3⟩ := four_cells hX
  obtain ⟨⟨g0, g1⟩, m0, m1⟩ := two_cells hF
  have hl1 := lt_of_block hX
  have hl2 := lt_of_block hF
  clear hb2 hX hF hx1 hf1 hrd1 hz1 HR1
  try clear c0 c1 f1
  go_wp2_with fail
  refine bodyPost_ret (v := .tuple #[.agg #[.int .i64 0, .int .u64 0, .string ⟨#[]⟩, .slice none 0 0], .agg #[.int .i64 s.size, .int .i64 23]]) (by simp [results, Tryd.results43, go_sem, q0, q1, q2, q3, g0, g1]) rfl ⟨T.zero, s.size, 23, s.size, rfl, ?_, ?_, by omega, by omega, by omega, Or.inr ⟨by omega, by rw [List.drop_eq_nil_of_le (by simp)]; exact noItem_end⟩⟩
  · exact (((((hrd2.setNew (by simp) _).setNew (by simp) _).setNew (by simp) _).setNew (by simp) _).setNew (by simp) _).setNew (by simp) _
  · exact (((((HRS2.out.setOther (by simp; omega) _).setOther (by simp; omega) _).setOther (by simp; omega) _).setOther (by simp; omega) _).setOther (by simp; omega) _).setOther (by simp; omega) _
set_option maxRecDepth 100000 in
theorem keeps_other {kd : Int} (h1 : kd ≠ 1) (h2 : kd ≠ 2) (h3 : kd ≠ 3) : keepsB kd 0 ⟨#[]⟩ 0 = false := by
  unfold keepsB
  rw [if_neg h1, if_neg h2, if_neg h3]
set_option maxHeartbeats 1000000 in
set_option maxRecDepth 100000 in
theorem item_kind (s : ByteArray) (rb f k : Nat) (hk : k < s.size) (d : Int) (hd : d ≤ 8) (h1 : s[k].toNat ≠ 1) (h2 : s[k].toNat ≠ 2) (h3 : s[k].toNat ≠ 3) (w : World) (hr : RS w rb s k) :
    Calls Tryd.prog 43 #[.pointer (some ⟨rb, 0, none⟩), .int .i64 d] w (ItOut s rb f k w) := by
  have hd' : ¬ 8 < d := by omega
  have hke : ((k : Int) == (s.size : Int)) = false := beq_eq_false_iff_ne.2 (by omega)
  have HR := Lib.hid hr
  obtain ⟨hlt, c0, c1, f1⟩ := hr
  have HK : Hid (keepsB (s[k].toNat : Int) 0 ⟨#[]⟩ 0 = false) := keeps_other (by omega) (by omega) (by omega)
  have HNI : Hid (NoItem f (s.data.toList.drop k)) := by
    show NoItem _ _
    rw [drop_at s hk]
    exact noItem_kind (fun e => h1 (by rw [e]; rfl)) (fun e => h2 (by rw [e]; rfl)) (fun e => h3 (by rw [e]; rfl))
  have hkd : (s[k].toNat : Int) < 256 := by have := UInt8.toNat_lt s[k]; omega
  clear h1 h2 h3
  go_enter Tryd.func43, Tryd.ntmps43
  go_wp2_with fail
  go_quiet (fail)
  go_wp2_with fail
  generalize hW : World.drewN _ nq = W1
  obtain ⟨HR1, hx1, hf1, hrd1, hz1⟩ := start_on HR.out nq
  rw [hW] at HR1 hx1 hf1 hrd1 hz1
  clear hW c0 c1 f1
  have HRX := Lib.hid HR1
  have HX1 := Lib.hid hx1
  have HF1 := Lib.hid hf1
  obtain ⟨rlt, r0, r1, rf⟩ := HR1
  clear hx1 hf1
  go_region
  go_wp2_with fail
  refine (keeps_at _ _ _ _ _ _ _).mono ?_
  rintro e w2 ⟨rfl, hb2⟩
  rw [HK.out]
  have hmid : Mid w w2 rb s k W1.heap.size s[k].toNat := mid_start HRX.out HX1.out HF1.out hz1 hrd1 hlt hb2
  clear hb2 HRX HX1 HF1 rlt r0 r1 rf hrd1
  have HM := Lib.hid hmid
  obtain ⟨⟨rlt, r0, r1, rf⟩, -, -, -, -, -, -⟩ := hmid
  go_wp2_with fail
  refine (fault_any k 20 _).mono ?_
  rintro e w3 ⟨rfl, hb3⟩
  have hX := (hb3.block _ (lt_of_block HM.out.hx)).trans HM.out.hx
  have hF := (hb3.block _ (lt_of_block HM.out.hf)).trans HM.out.hf
  have hrd3 : Rd rb w w3 := HM.out.rd.trans (Rd.of hb3)
  have HRS3 := Lib.hid (HM.out.rs.on hb3)
  obtain ⟨⟨q0, q1, q2, q3⟩, p0, p1, p2, p3⟩ := four_cells hX
  obtain ⟨⟨g0, g1⟩, m0, m1⟩ := two_cells hF
  have hl1 := lt_of_block hX
  have hl2 := lt_of_block hF
  clear hb3 hX hF HM rlt r0 r1 rf
  go_wp2_with fail
  refine bodyPost_ret (v := .tuple #[.agg #[.int .i64 0, .int .u64 0, .string ⟨#[]⟩, .slice none 0 0], .agg #[.int .i64 k, .int .i64 20]]) (by simp [results, Tryd.results43, go_sem, q0, q1, q2, q3, g0, g1]) rfl ⟨T.zero, k, 20, k, rfl, ?_, ?_, by omega, by omega, by omega, Or.inr ⟨by omega, HNI.out⟩⟩
  · exact (((((hrd3.setNew (by simp) _).setNew (by simp) _).setNew (by simp) _).setNew (by simp) _).setNew (by simp) _).setNew (by simp) _
  · exact (((((HRS3.out.setOther (by simp; omega) _).setOther (by simp; omega) _).setOther (by simp; omega) _).setOther (by simp; omega) _).setOther (by simp; omega) _).setOther (by simp; omega) _
set_option maxRecDepth 100000 in
theorem leaf_in {S : Nat → Prop} {w : World} {f : Nat} {k n : Int} {x : ByteArray} (h0 : 0 ≤ n) (h1 : n ≤ 18446744073709551615) (h2 : x.size ≤ 140737488355328) : InS S w (f + 1) (T.mk k n x none 0 []) :=
  ⟨⟨h0, h1, h2, show 0 ≤ _ by omega⟩, fun h => absurd (show 0 < 0 from h) (by decide), fun j h => absurd (show j < 0 from h) (by omega)⟩
theorem num_ok {f : Nat} {n : Int} (h0 : 0 ≤ n) (h1 : n ≤ 18446744073709551615) : Okk (f + 1) (T.mk 1 n ⟨#[]⟩ none 0 []) :=
  ⟨by simp [T.keeps, keepsB, T.k, T.s, T.l], show 0 ≤ 16384 by decide, ⟨h0, show n < _ by omega⟩, show 0 < _ by decide, fun j h => absurd (show j < 0 from h) (by omega)⟩
set_option maxRecDepth 100000 in
theorem text_ok {f : Nat} {x : ByteArray} (h : x.size < 18446744073709551616) : Okk (f + 1) (T.mk 2 0 x none 0 []) :=
  ⟨by simp [T.keeps, keepsB, T.k, T.n, T.l], show 0 ≤ 16384 by decide, ⟨show (0 : Int) ≤ 0 by decide, show (0 : Int) < _ by decide⟩, h, fun j h => absurd (show j < 0 from h) (by omega)⟩
theorem item_number (s : ByteArray) (hs : s.size ≤ 262144) (rb f k : Nat) (hk : k < s.size) (d : Int) (hd : d ≤ 8) (hc : s[k].toNat = 1) (w : World) (hr : RS w rb s k) :
    Calls Tryd.prog 43 #[.pointer (some ⟨rb, 0, none⟩), .int .i64 d] w (ItOut s rb (f + 1) k w) := by
  refine (item_num s hs rb k hk d hd hc (NumP s (k + 1)) w hr (fun w' h => num_back s hs rb (k + 1) (by omega) w' h)).mono ?_
  rintro e w' ⟨n, a, c, k', rfl, ⟨h0, h1, hk', ha0, ha1, hp⟩, hrd, hrs⟩
  refine ⟨T.mk 1 n ⟨#[]⟩ none 0 [], a, c, k', rfl, hrd, hrs, hk', ha0, ha1, ?_⟩
  have h3 : s[k] = 1 := u8_lit hc (by decide)
  rw [drop_at s hk, h3]
  rcases hp with ⟨e1, e2, e3, e4⟩ | ⟨e1, e2⟩
  · refine Or.inl ⟨e1, e2, by omega, leaf_in h0 h1 (by show 0 ≤ _; omega), num_ok h0 h1, ?_⟩
    rw [e4]
    show _ = (if (1 : Int) = 1 then 1 :: numD n.toNat else _) ++ _
    rw [if_pos rfl, List.cons_append]
  · exact Or.inr ⟨e1, noItem_num e2⟩
/-- What text answers: the text, or that there is none. -/
def TextP (s : ByteArray) (k : Nat) (x : ByteArray) (a c : Int) (k' : Nat) : Prop :=
  x.size ≤ s.size ∧ k' ≤ s.size ∧ 0 ≤ a ∧ a ≤ s.size ∧
  ((c = 0 ∧ a = 0 ∧ k ≤ k' ∧ s.data.toList.drop k = numD x.size ++ (x.data.toList ++ s.data.toList.drop k')) ∨ (c ≠ 0 ∧ ∀ x : ByteArray, ∀ r, x.size < 18446744073709551616 → s.data.toList.drop k = numD x.size ++ (x.data.toList ++ r) → False))
set_option maxRecDepth 100000 in
theorem text_back (s : ByteArray) (hs : s.size ≤ 262144) (rb k : Nat) (hk : k ≤ s.size) (w : World) (hr : RS w rb s k) :
    Calls Tryd.prog 76 #[.pointer (some ⟨rb, 0, none⟩)] w (StrOut s rb (TextP s k) w) := by
  refine (text_any s hs rb k (NumP s k) (fun n a c k' h => ⟨h.1, h.2.1, h.2.2.1⟩) w hr (fun w' h => num_back s hs rb k hk w' h)).mono ?_
  rintro e w' ⟨n, a, c, k', ⟨h0, h1, hk', ha0, ha1, hp⟩, hrd, h⟩
  have hlen : s.data.toList.length = s.size := by simp
  rcases h with ⟨hc, rfl, hrs⟩ | ⟨rfl, hn, rfl, hrs⟩ | ⟨rfl, hn, rfl, hrs⟩
  · refine ⟨⟨#[]⟩, a, c, k', rfl, ⟨by show 0 ≤ _; omega, hk', ha0, ha1, Or.inr ⟨hc, ?_⟩⟩, hrd, hrs⟩
    rcases hp with ⟨e1, _⟩ | ⟨_, e2⟩
    · exact absurd e1 hc
    · intro x r hx e
      exact e2 _ _ hx e
  · refine ⟨⟨#[]⟩, k', 23, k', rfl, ⟨by show 0 ≤ _; omega, hk', by omega, by omega, Or.inr ⟨by omega, ?_⟩⟩, hrd, hrs⟩
    rcases hp with ⟨_, _, _, e4⟩ | ⟨e1, _⟩
    · intro x r hx e
      rw [e4] at e
      obtain ⟨e5, e6⟩ := numD_inj (by omega) hx e
      have := congrArg List.length e6
      rw [List.length_drop, hlen, List.length_append] at this
      have hxl : x.data.toList.length = x.size := by simp
      omega
    · exact absurd rfl e1
  · rcases hp with ⟨_, _, e3, e4⟩ | ⟨e1, _⟩
    · have hsz : (s.extract k' (k' + n.toNat)).size = n.toNat := by rw [extract_size]; omega
      refine ⟨_, 0, 0, k' + n.toNat, rfl, ⟨by rw [hsz]; omega, by omega, by omega, by omega, Or.inl ⟨rfl, rfl, by omega, ?_⟩⟩, hrd, hrs⟩
      rw [hsz, e4, extract_list, show k' + n.toNat - k' = n.toNat by omega, ← List.drop_drop, List.take_append_drop]
    · exact absurd rfl e1
set_option maxRecDepth 100000 in
theorem item_str (s : ByteArray) (hs : s.size ≤ 262144) (rb f k : Nat) (hk : k < s.size) (d : Int) (hd : d ≤ 8) (hc : s[k].toNat = 2) (w : World) (hr : RS w rb s k) :
    Calls Tryd.prog 43 #[.pointer (some ⟨rb, 0, none⟩), .int .i64 d] w (ItOut s rb (f + 1) k w) := by
  refine (item_text s hs rb k hk d hd hc (TextP s (k + 1)) w hr (fun w' h => text_back s hs rb (k + 1) (by omega) w' h)).mono ?_
  rintro e w' ⟨x, a, c, k', rfl, ⟨h0, hk', ha0, ha1, hp⟩, hrd, hrs⟩
  refine ⟨T.mk 2 0 x none 0 [], a, c, k', rfl, hrd, hrs, hk', ha0, ha1, ?_⟩
  have h3 : s[k] = 2 := u8_lit hc (by decide)
  rw [drop_at s hk, h3]
  rcases hp with ⟨e1, e2, e3, e4⟩ | ⟨e1, e2⟩
  · refine Or.inl ⟨e1, e2, by omega, leaf_in (by decide) (by decide) (by omega), text_ok (by omega), ?_⟩
    rw [e4]
    show _ = (if (2 : Int) = 1 then _ else if (2 : Int) = 2 then 2 :: (numD x.size ++ x.data.toList) else _) ++ _
    rw [if_neg (by decide), if_pos rfl, List.cons_append, List.append_assoc]
  · exact Or.inr ⟨e1, noItem_text e2⟩
set_option maxRecDepth 100000 in
theorem item_back (s : ByteArray) (hs : s.size ≤ 262144) (rb : Nat) (f : Nat) : f ≤ 8 → ∀ (k : Nat), k ≤ s.size → ∀ (w : World), RS w rb s k →
    Calls Tryd.prog 43 #[.pointer (some ⟨rb, 0, none⟩), .int .i64 (9 - (f : Int))] w (ItOut s rb f k w) := by
  induction f with
  | zero => intro _ k hk w hr; exact item_deep s rb k hk w hr
  | succ f ih =>
    intro hf k hk w hr
    by_cases he : k = s.size
    · subst he; exact item_end s rb (f + 1) _ (by omega) w hr
    · have hks : k < s.size := by omega
      by_cases h1 : s[k].toNat = 1
      · exact item_number s hs rb f k hks _ (by omega) h1 w hr
      · by_cases h2 : s[k].toNat = 2
        · exact item_str s hs rb f k hks _ (by omega) h2 w hr
        · by_cases h3 : s[k].toNat = 3
          · refine item_list s hs rb f k hks _ (by omega) h3 w hr (fun w' h => list_back s hs rb f (k + 1) (by omega) _ (by omega) (by omega) w' h (fun w2 ki h2 hk2 => ?_))
            have e := ih (by omega) ki hk2 w2 h2
            rw [show (9 : Int) - ((f + 1 : Nat) : Int) + 1 = 9 - (f : Int) by omega]
            exact e
          · exact item_kind s rb (f + 1) k hks _ (by omega) h1 h2 h3 w hr
end Go.Proofs.YtchmiiclogmheaaDoor.C2
