/-
  Contracts of dist.Parse and of the reference's Parse at every string: they answer the same; nothing that was there is turned.
-/
import Derived.Test.YtcpbnmboeafloaaDoorNumber
namespace Go.Proofs.YtcpbnmboeafloaaDoor
open Go.RowKit
open Go.Lib (decDigits parseUintM parseUintB NumEnd)
theorem toList_beq (s : ByteArray) (l : List UInt8) : (s.toList == l) = decide (s.data.toList = l) := by
  rw [ByteArray.toList_eq, Bool.eq_iff_iff]; simp
theorem text_beq (l : List UInt8) (s : ByteArray) : ((⟨l.toArray⟩ : ByteArray).toList == s.toList) = decide (l = s.data.toList) := by
  rw [ByteArray.toList_eq, ByteArray.toList_eq, Bool.eq_iff_iff]; simp
theorem size_list (s : ByteArray) : s.data.toList.length = s.size := by simp
theorem eq_inf {s : ByteArray} (h : s.data.toList = [105, 110, 102]) : s = ⟨#[105, 110, 102]⟩ := by
  apply ByteArray.ext
  apply Array.toList_inj.1
  exact h
/-- The answers as values. -/
def parseV (s : ByteArray) : Value := .tuple #[.int .u64 ((parseD s.data.toList).1 : Int), .agg #[.int .i64 0, .int .i64 (parseD s.data.toList).2]]
theorem parseD_long {s : List UInt8} (h : 262144 < s.length) : parseD s = (0, 2) := by unfold parseD; rw [if_pos h]
theorem parseD_inf : parseD [105, 110, 102] = (18446744073709551615, 0) := by unfold parseD; rw [if_neg (by decide), if_pos rfl]
theorem parseD_ok {s : List UInt8} {u : Nat} (h : s.length ≤ 262144) (hi : s ≠ [105, 110, 102]) (hp : parseUintB 64 s = .ok u) : parseD s = if decDigits u = s ∧ u ≠ 18446744073709551615 then (u, 0) else (0, 10) := by
  unfold parseD; rw [if_neg (by omega), if_neg hi, hp]
theorem parseD_no {s : List UInt8} (h : s.length ≤ 262144) (hi : s ≠ [105, 110, 102]) (hp : ∀ u, parseUintB 64 s ≠ .ok u) : parseD s = (0, 10) := by
  unfold parseD; rw [if_neg (by omega), if_neg hi]
  cases hq : parseUintB 64 s
  · rename_i u; exact absurd hq (hp u)
  · rfl
  · rfl
theorem textD_iff {s : List UInt8} (hi : s ≠ [105, 110, 102]) (u : Nat) : textD u = s ↔ decDigits u = s ∧ u ≠ 18446744073709551615 := by
  unfold textD
  split
  · rename_i h; constructor
    · intro e; exact absurd e.symm hi
    · intro e; exact absurd h e.2
  · rename_i h; exact ⟨fun e => ⟨e, h⟩, fun e => e.1⟩
theorem parse_any (s : ByteArray) (hs : s.size ≤ 9223372036854775807) (w : World) (he : Errs w) (htab : Tab w) :
    Calls Tryd.prog 25 #[.string s] w fun e w' => e = .returned (parseV s) ∧ Below w.heap.size w w' := by
  by_cases hl : 262144 < s.size
  · have e : parseV s = .tuple #[.int .u64 0, .agg #[.int .i64 0, .int .i64 2]] := by unfold parseV; rw [parseD_long (by rw [size_list]; exact hl)]; rfl
    rw [e]; exact parse_long s hl hs w
  · by_cases hi : s.data.toList = [105, 110, 102]
    · have e : parseV s = .tuple #[.int .u64 18446744073709551615, .agg #[.int .i64 0, .int .i64 0]] := by unfold parseV; rw [hi, parseD_inf]; rfl
      rw [e, eq_inf hi]; exact parse_inf w
    · have hib : (s.toList == [105, 110, 102]) = false := by rw [toList_beq]; exact decide_eq_false hi
      by_cases hp : ∃ u, parseUintB 64 s.data.toList = .ok u
      · obtain ⟨u, hu⟩ := hp
        have hd := parseD_ok (s := s.data.toList) (by rw [size_list]; omega) hi hu
        have ht := text_beq (textD u) s
        refine (parse_ok s (by omega) hib u hu _ ht w he htab).mono ?_
        rintro e w1 ⟨rfl, hb⟩
        refine ⟨?_, hb⟩
        unfold parseV
        rw [hd]
        by_cases hc : textD u = s.data.toList
        · rw [if_pos ((textD_iff hi u).1 hc), decide_eq_true hc]; rfl
        · rw [if_neg (fun h => hc ((textD_iff hi u).2 h)), decide_eq_false hc]; rfl
      · have hn : ∀ u, parseUintB 64 s.data.toList ≠ .ok u := fun u hu => hp ⟨u, hu⟩
        have e : parseV s = .tuple #[.int .u64 0, .agg #[.int .i64 0, .int .i64 10]] := by unfold parseV; rw [parseD_no (by rw [size_list]; omega) hi hn]; rfl
        rw [e]; exact parse_none s (by omega) hib hn w he
set_option maxHeartbeats 400000 in
theorem rparse_long (s : ByteArray) (hs : 262144 < s.size) (hs' : s.size ≤ 9223372036854775807) (w : World) :
    Calls Tryd.prog 26 #[.string s] w fun e w' => e = .returned (.tuple #[.int .u64 0, .agg #[.int .i64 0, .int .i64 2]]) ∧ Below w.heap.size w w' := by
  have hi : (262144 : Int) < s.size := by omega
  go_enter Tryd.func26, Tryd.ntmps26
  go_wp2_with fail
  exact bodyPost_ret (v := .tuple #[.int .u64 0, .agg #[.int .i64 0, .int .i64 2]]) (by simp [results, Tryd.results26, go_sem]) rfl
    ⟨rfl, (Below.refl _ _).alloc (Nat.le_refl _) _⟩
set_option maxHeartbeats 400000 in
theorem rparse_inf (w : World) :
    Calls Tryd.prog 26 #[.string ⟨#[105, 110, 102]⟩] w fun e w' => e = .returned (.tuple #[.int .u64 18446744073709551615, .agg #[.int .i64 0, .int .i64 0]]) ∧ Below w.heap.size w w' := by
  go_enter Tryd.func26, Tryd.ntmps26
  go_wp2_with fail
  exact bodyPost_ret (v := .tuple #[.int .u64 18446744073709551615, .agg #[.int .i64 0, .int .i64 0]]) (by simp [results, Tryd.results26, go_sem]) rfl
    ⟨rfl, (Below.refl _ _).alloc (Nat.le_refl _) _⟩
set_option maxHeartbeats 400000 in
theorem rparse_no (s : ByteArray) (hs : s.size ≤ 262144) (hi : (s.toList == [105, 110, 102]) = false) (n : Int) (b : Bool) (hn : ∀ w, Calls Tryd.prog 31 #[.string s] w fun e w' => e = .returned (.tuple #[.int .u64 n, .bool b]) ∧ w' = w) (hb : b = false ∨ (n == 18446744073709551615) = true) (w : World) :
    Calls Tryd.prog 26 #[.string s] w fun e w' => e = .returned (.tuple #[.int .u64 0, .agg #[.int .i64 0, .int .i64 10]]) ∧ Below w.heap.size w w' := by
  have hl : ¬ (262144 : Int) < s.size := by omega
  have HN : Hid (∀ w, Calls Tryd.prog 31 #[.string s] w fun e w' => e = .returned (.tuple #[.int .u64 n, .bool b]) ∧ w' = w) := hn
  clear hn
  cases b
  · clear hb
    go_enter Tryd.func26, Tryd.ntmps26
    go_wp2_with fail
    refine (HN.out _).mono ?_
    rintro e w1 ⟨rfl, rfl⟩
    go_wp2_with fail
    exact bodyPost_ret (v := .tuple #[.int .u64 0, .agg #[.int .i64 0, .int .i64 10]]) (by simp [results, Tryd.results26, go_sem]) rfl
      ⟨rfl, (Below.refl _ _).alloc (Nat.le_refl _) _⟩
  · have hn : (n == 18446744073709551615) = true := by rcases hb with h | h; cases h; exact h
    clear hb
    go_enter Tryd.func26, Tryd.ntmps26
    go_wp2_with fail
    refine (HN.out _).mono ?_
    rintro e w1 ⟨rfl, rfl⟩
    go_wp2_with fail
    exact bodyPost_ret (v := .tuple #[.int .u64 0, .agg #[.int .i64 0, .int .i64 10]]) (by simp [results, Tryd.results26, go_sem]) rfl
      ⟨rfl, (Below.refl _ _).alloc (Nat.le_refl _) _⟩
set_option maxHeartbeats 400000 in
theorem rparse_yes (s : ByteArray) (hs : s.size ≤ 262144) (hi : (s.toList == [105, 110, 102]) = false) (n : Int) (hn : ∀ w, Calls Tryd.prog 31 #[.string s] w fun e w' => e = .returned (.tuple #[.int .u64 n, .bool true]) ∧ w' = w) (hb : (n == 18446744073709551615) = false) (w : World) :
    Calls Tryd.prog 26 #[.string s] w fun e w' => e = .returned (.tuple #[.int .u64 n, .agg #[.int .i64 0, .int .i64 0]]) ∧ Below w.heap.size w w' := by
  have hl : ¬ (262144 : Int) < s.size := by omega
  have HN : Hid (∀ w, Calls Tryd.prog 31 #[.string s] w fun e w' => e = .returned (.tuple #[.int .u64 n, .bool true]) ∧ w' = w) := hn
  clear hn
  go_enter Tryd.func26, Tryd.ntmps26
  go_wp2_with fail
  refine (HN.out _).mono ?_
  rintro e w1 ⟨rfl, rfl⟩
  go_wp2_with fail
  exact bodyPost_ret (v := .tuple #[.int .u64 n, .agg #[.int .i64 0, .int .i64 0]]) (by simp [results, Tryd.results26, go_sem]) rfl
    ⟨rfl, (Below.refl _ _).alloc (Nat.le_refl _) _⟩
theorem dec_le20 {u : Nat} (hu : u < 18446744073709551616) : (decDigits u).length ≤ 20 := by
  have h := digInv_start u
  rw [Lib.decDigits_length]
  by_cases h0 : u = 0
  · subst h0; rw [Lib.nDigits_small (by omega)]; omega
  · have := Lib.numDigits_eq u (by omega) hu
    split at this <;> omega
theorem rparse_any (s : ByteArray) (hs : s.size ≤ 9223372036854775807) (w : World) :
    Calls Tryd.prog 26 #[.string s] w fun e w' => e = .returned (parseV s) ∧ Below w.heap.size w w' := by
  by_cases hl : 262144 < s.size
  · have e : parseV s = .tuple #[.int .u64 0, .agg #[.int .i64 0, .int .i64 2]] := by unfold parseV; rw [parseD_long (by rw [size_list]; exact hl)]; rfl
    rw [e]; exact rparse_long s hl hs w
  · by_cases hi : s.data.toList = [105, 110, 102]
    · have e : parseV s = .tuple #[.int .u64 18446744073709551615, .agg #[.int .i64 0, .int .i64 0]] := by unfold parseV; rw [hi, parseD_inf]; rfl
      rw [e, eq_inf hi]; exact rparse_inf w
    · have hib : (s.toList == [105, 110, 102]) = false := by rw [toList_beq]; exact decide_eq_false hi
      have hl' : s.data.toList.length ≤ 262144 := by rw [size_list]; omega
      by_cases hz : s.size = 0 ∨ 20 < s.size
      · have hd : parseD s.data.toList = (0, 10) := by
          by_cases hp : ∃ u, parseUintB 64 s.data.toList = .ok u
          · obtain ⟨u, hu⟩ := hp
            rw [parseD_ok hl' hi hu, if_neg]
            rintro ⟨e, -⟩
            have h20 := dec_le20 (parseUintB_lt hu)
            rw [e, size_list] at h20
            rcases hz with h | h
            · have : s.data.toList = [] := by apply List.eq_nil_of_length_eq_zero; rw [size_list]; exact h
              rw [this] at hu
              cases hu
            · omega
          · exact parseD_no hl' hi (fun u hu => hp ⟨u, hu⟩)
        have e : parseV s = .tuple #[.int .u64 0, .agg #[.int .i64 0, .int .i64 10]] := by unfold parseV; rw [hd]; rfl
        rw [e]
        exact rparse_no s (by omega) hib 0 false (fun w => number_none s hs hz w) (Or.inl rfl) w
      · have hn := fun w => number_any s (by omega) (by omega) w
        have hB : parseUintB 64 s.data.toList = parseUintM 18446744073709551615 0 s.data.toList := by
          unfold parseUintB
          rw [if_neg]
          intro e; apply hz; left; rw [← size_list, e]; rfl
        rw [← hB] at hn
        cases hu : parseUintB 64 s.data.toList
        · rename_i u
          rw [hu] at hn
          have hd := parseD_ok hl' hi hu
          have hnu : numD (.ok u) s = ((u : Int), decide (decDigits u = s.data.toList)) := by show ((u : Int), _) = _; rw [text_beq]
          rw [hnu] at hn
          by_cases hc : decDigits u = s.data.toList ∧ u ≠ 18446744073709551615
          · have e : parseV s = .tuple #[.int .u64 u, .agg #[.int .i64 0, .int .i64 0]] := by unfold parseV; rw [hd, if_pos hc]
            rw [decide_eq_true hc.1] at hn
            rw [e]
            exact rparse_yes s (by omega) hib u hn (beq_eq_false_iff_ne.2 (by omega)) w
          · have e : parseV s = .tuple #[.int .u64 0, .agg #[.int .i64 0, .int .i64 10]] := by unfold parseV; rw [hd, if_neg hc]; rfl
            rw [e]
            refine rparse_no s (by omega) hib _ _ hn ?_ w
            by_cases h1 : decDigits u = s.data.toList
            · right
              have : u = 18446744073709551615 := by
                rcases Nat.decEq u 18446744073709551615 with h | h
                · exact absurd ⟨h1, h⟩ hc
                · exact h
              exact beq_iff_eq.2 (by omega)
            · left; exact decide_eq_false h1
        · rw [hu] at hn
          have e : parseV s = .tuple #[.int .u64 0, .agg #[.int .i64 0, .int .i64 10]] := by unfold parseV; rw [parseD_no hl' hi (by intro v hv; rw [hu] at hv; cases hv)]; rfl
          rw [e]
          exact rparse_no s (by omega) hib _ _ hn (Or.inl rfl) w
        · rw [hu] at hn
          have e : parseV s = .tuple #[.int .u64 0, .agg #[.int .i64 0, .int .i64 10]] := by unfold parseV; rw [parseD_no hl' hi (by intro v hv; rw [hu] at hv; cases hv)]; rfl
          rw [e]
          exact rparse_no s (by omega) hib _ _ hn (Or.inl rfl) w
end Go.Proofs.YtcpbnmboeafloaaDoor
