/-
  Contract of dist.Parse at every string: the distance that it spells, or what is wrong; nothing that was there is turned.
-/
import Derived.Test.YtcpbnmboeafloaaDoorText
namespace Go.Proofs.YtcpbnmboeafloaaDoor
open Go.RowKit Go.Sort Go.Lib
/-- The two errors of the library's hold an interface value. -/
def Errs (w : World) : Prop :=
  (∃ tp p, w.var? Tryd.prog "strconv.ErrSyntax" = some #[.iface tp p]) ∧ (∃ tp p, w.var? Tryd.prog "strconv.ErrRange" = some #[.iface tp p])
theorem var_lt {w : World} {n : String} {cs : Array Value} {g : Nat} (hg : Tryd.prog.globalNamed n = some g) (h : w.var? Tryd.prog n = some cs) : g < w.heap.size := by
  rcases Nat.lt_or_ge g w.heap.size with h' | h'
  · exact h'
  · unfold World.var? at h
    simp only [hg, Option.bind_some] at h
    rw [Array.getElem?_eq_none h'] at h; simp at h
theorem gSyn : Tryd.prog.globalNamed "strconv.ErrSyntax" = some 0 := by kernel_rfl
theorem gRan : Tryd.prog.globalNamed "strconv.ErrRange" = some 1 := by kernel_rfl
theorem var_on {w w' : World} {n : String} {cs : Array Value} {g : Nat} (hg : Tryd.prog.globalNamed n = some g) (hb : Below w.heap.size w w') (h : w.var? Tryd.prog n = some cs) : w'.var? Tryd.prog n = some cs := by
  have hlt := var_lt hg h
  unfold World.var? at h ⊢
  simp only [hg, Option.bind_some] at h ⊢
  rw [hb.block g hlt]
  exact h
theorem Errs.on {w w' : World} (h : Errs w) (hb : Below w.heap.size w w') : Errs w' := by
  obtain ⟨⟨tp, p, h1⟩, ⟨tq, q, h2⟩⟩ := h
  exact ⟨⟨tp, p, var_on gSyn hb h1⟩, ⟨tq, q, var_on gRan hb h2⟩⟩
/-- What Parse answers: the distance and the error's number. -/
def parseD (s : List UInt8) : Nat × Int :=
  if 262144 < s.length then (0, 2) else if s = [105, 110, 102] then (18446744073709551615, 0) else
  match parseUintB 64 s with
  | .ok u => if decDigits u = s ∧ u ≠ 18446744073709551615 then (u, 0) else (0, 10)
  | _ => (0, 10)
/-- strconv.ParseUint at every string of at most so many bytes. -/
theorem uint_any (s : ByteArray) (hs : s.size ≤ 262144) (w : World) (he : Errs w) :
    Calls Tryd.prog 30 #[.string s, .int .i64 10, .int .i64 64] w fun e w' => (∃ n r, e = .returned (.tuple #[.int .u64 n, r]) ∧ ((∃ u, parseUintB 64 s.data.toList = .ok u ∧ n = (u : Int) ∧ r = .nilIface) ∨ ((∀ u, parseUintB 64 s.data.toList ≠ .ok u) ∧ ∃ a, r = .iface 67 (.pointer (some a))))) ∧ Below w.heap.size w w' := by
  obtain ⟨⟨tp, p, h1⟩, ⟨tq, q, h2⟩⟩ := he
  cases h : parseUintB 64 s.data.toList
  · rename_i u
    refine (Tryd.strconv_ParseUint_10_at64_ok s (by omega) u h w).mono ?_
    rintro e w1 ⟨rfl, hw⟩
    refine ⟨⟨_, _, rfl, Or.inl ⟨u, rfl, rfl, rfl⟩⟩, ?_⟩
    rcases hw with hw | hw
    · subst hw; exact Below.refl _ _
    · subst hw; exact bytesWorld_below _ _ _
  · refine (Any.strconv_ParseUint_10_at64_syntax_var Tryd.laysPu14 s (by omega) h tp p w h1).mono ?_
    rintro e w1 ⟨N, rfl, -, -, hb⟩
    exact ⟨⟨_, _, rfl, Or.inr ⟨(by intro u hu; cases hu), _, rfl⟩⟩, hb⟩
  · refine (Any.strconv_ParseUint_10_at64_range_var Tryd.laysPu14 s (by omega) h tq q w h2).mono ?_
    rintro e w1 ⟨N, rfl, -, -, hb⟩
    exact ⟨⟨_, _, rfl, Or.inr ⟨(by intro u hu; cases hu), _, rfl⟩⟩, hb⟩
theorem parseUintM_lt (M : Nat) (hM : M < 18446744073709551616) : ∀ (l : List UInt8) (acc u : Nat), acc ≤ M → parseUintM M acc l = .ok u → u ≤ M
  | [], acc, u, ha, h => by simp [parseUintM] at h; omega
  | c :: r, acc, u, _, h => by
    unfold parseUintM at h
    split at h
    · split at h
      · cases h
      · split at h
        · cases h
        · exact parseUintM_lt M hM r _ u (by omega) h
    · cases h
theorem parseUintB_lt {l : List UInt8} {u : Nat} (h : parseUintB 64 l = .ok u) : u < 18446744073709551616 := by
  unfold parseUintB at h
  split at h
  · cases h
  · have := parseUintM_lt (2 ^ 64 - 1) (by decide) l 0 u (by omega) h
    omega
set_option maxHeartbeats 400000 in
theorem parse_long (s : ByteArray) (hs : 262144 < s.size) (hs' : s.size ≤ 9223372036854775807) (w : World) :
    Calls Tryd.prog 25 #[.string s] w fun e w' => e = .returned (.tuple #[.int .u64 0, .agg #[.int .i64 0, .int .i64 2]]) ∧ Below w.heap.size w w' := by
  have hi : (262144 : Int) < s.size := by omega
  go_enter Tryd.func25, Tryd.ntmps25
  go_wp2_with fail
  exact bodyPost_ret (v := .tuple #[.int .u64 0, .agg #[.int .i64 0, .int .i64 2]]) (by simp [results, Tryd.results25, go_sem]) rfl
    ⟨rfl, (Below.refl _ _).alloc (Nat.le_refl _) _⟩
set_option maxHeartbeats 400000 in
theorem parse_inf (w : World) :
    Calls Tryd.prog 25 #[.string ⟨#[105, 110, 102]⟩] w fun e w' => e = .returned (.tuple #[.int .u64 18446744073709551615, .agg #[.int .i64 0, .int .i64 0]]) ∧ Below w.heap.size w w' := by
  go_enter Tryd.func25, Tryd.ntmps25
  go_wp2_with fail
  exact bodyPost_ret (v := .tuple #[.int .u64 18446744073709551615, .agg #[.int .i64 0, .int .i64 0]]) (by simp [results, Tryd.results25, go_sem]) rfl
    ⟨rfl, (Below.refl _ _).alloc (Nat.le_refl _) _⟩
set_option maxHeartbeats 400000 in
theorem parse_none (s : ByteArray) (hs : s.size ≤ 262144) (hi : (s.toList == [105, 110, 102]) = false) (hn : ∀ u, parseUintB 64 s.data.toList ≠ .ok u) (w : World) (he : Errs w) :
    Calls Tryd.prog 25 #[.string s] w fun e w' => e = .returned (.tuple #[.int .u64 0, .agg #[.int .i64 0, .int .i64 10]]) ∧ Below w.heap.size w w' := by
  have hl : ¬ (262144 : Int) < s.size := by omega
  have HN : Hid (∀ u, parseUintB 64 s.data.toList ≠ .ok u) := hn
  clear hn
  go_enter Tryd.func25, Tryd.ntmps25
  go_wp2_with fail
  refine (uint_any s hs _ (he.on ((Below.refl _ _).alloc (Nat.le_refl _) _))).mono ?_
  rintro e w1 ⟨⟨n, r, rfl, h⟩, hb⟩
  obtain ⟨a, rfl⟩ : ∃ a, r = .iface 67 (.pointer (some a)) := by
    rcases h with ⟨u, hu, -, -⟩ | ⟨-, a, rfl⟩
    · exact absurd hu (HN.out u)
    · exact ⟨a, rfl⟩
  clear h
  obtain ⟨hc, hf⟩ := bcell hb
  have hz : w.heap.size + 1 ≤ w1.heap.size := by have := hb.size; simp at this; omega
  go_wp2_with fail
  exact bodyPost_ret (v := .tuple #[.int .u64 0, .agg #[.int .i64 0, .int .i64 10]]) (by simp [results, Tryd.results25, go_sem, hc]) rfl
    ⟨rfl, ((((Below.refl _ _).alloc (Nat.le_refl _) _).trans (hb.mono (by simp))).setCell (by simp) _).setCell (by simp) _⟩
/-- The text is the string. -/
def IsText (u : Nat) (s : ByteArray) : Prop := ((⟨(textD u).toArray⟩ : ByteArray).toList == s.toList) = true
set_option maxHeartbeats 400000 in
theorem parse_ok (s : ByteArray) (hs : s.size ≤ 262144) (hi : (s.toList == [105, 110, 102]) = false) (u : Nat) (hn : parseUintB 64 s.data.toList = .ok u) (b : Bool) (ht : ((⟨(textD u).toArray⟩ : ByteArray).toList == s.toList) = b) (w : World) (he : Errs w) (htab : Tab w) :
    Calls Tryd.prog 25 #[.string s] w fun e w' => e = .returned (.tuple #[.int .u64 (if b then u else 0), .agg #[.int .i64 0, .int .i64 (if b then 0 else 10)]]) ∧ Below w.heap.size w w' := by
  have hl : ¬ (262144 : Int) < s.size := by omega
  have hu := parseUintB_lt hn
  have HN : Hid (parseUintB 64 s.data.toList = .ok u) := hn
  have HT : Hid (((⟨(textD u).toArray⟩ : ByteArray).toList == s.toList) = b) := ht
  clear hn ht
  cases b
  all_goals
    go_enter Tryd.func25, Tryd.ntmps25
    go_wp2_with fail
    refine (uint_any s hs _ (he.on ((Below.refl _ _).alloc (Nat.le_refl _) _))).mono ?_
    rintro e w1 ⟨⟨n, r, rfl, h⟩, hb⟩
    obtain ⟨rfl, rfl⟩ : n = (u : Int) ∧ r = .nilIface := by
      rcases h with ⟨v, hv, rfl, rfl⟩ | ⟨h, -⟩
      · rw [HN.out] at hv; cases hv; exact ⟨rfl, rfl⟩
      · exact absurd HN.out (h u)
    clear h
    go_wp2_with fail
    refine (text_any u hu _ ((htab.on ((Below.refl _ _).alloc (Nat.le_refl _) _)).on hb)).mono ?_
    rintro e w2 ⟨rfl, hb2⟩
    have hb3 := hb.trans (hb2.mono hb.size)
    clear hb hb2
    obtain ⟨hc, hf⟩ := bcell hb3
    have hz : w.heap.size + 1 ≤ w2.heap.size := by have := hb3.size; simp at this; omega
    have ht := HT.out
    clear HT
    generalize (⟨(textD u).toArray⟩ : ByteArray) = t at *
    go_wp2_with fail
  · exact bodyPost_ret (v := .tuple #[.int .u64 0, .agg #[.int .i64 0, .int .i64 10]]) (by simp [results, Tryd.results25, go_sem, hc]) rfl
      ⟨rfl, ((((Below.refl _ _).alloc (Nat.le_refl _) _).trans (hb3.mono (by simp))).setCell (by simp) _).setCell (by simp) _⟩
  · exact bodyPost_ret (v := .tuple #[.int .u64 u, .agg #[.int .i64 0, .int .i64 0]]) (by simp [results, Tryd.results25, go_sem, hc]) rfl
      ⟨rfl, ((((Below.refl _ _).alloc (Nat.le_refl _) _).trans (hb3.mono (by simp))).setCell (by simp) _).setCell (by simp) _⟩
end Go.Proofs.YtcpbnmboeafloaaDoor
