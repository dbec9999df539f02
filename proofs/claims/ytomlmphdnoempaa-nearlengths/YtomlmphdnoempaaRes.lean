/-
  What the searches answer, right or refused. Contracts of flyoverbook.SameDists and SpoilDists.
-/
import Derived.Test.YtomlmphdnoempaaTabs
import Derived.Test.YtomlmphdnoempaaSame
import Derived.BigQuiet
import Derived.Deep.QuietTactic
import Derived.Test.YtomlmphdnoempaaRFrom
namespace Go.Proofs.Ytomlmphdnoempaa
open Go.RowKit
set_option maxHeartbeats 400000 in
theorem sameDists_any (b b' n : Nat) (F : Nat → Int) (w : World) (hn : n ≤ 8192) (hr : Tb w b n 34 .u64 F) (hr' : Tb w b' n 34 .u64 F) :
    Calls Try.prog 14 #[.slice (some ⟨b, 0, none⟩) n n, .slice (some ⟨b', 0, none⟩) n n] w fun e w' => e = .returned (.bool true) ∧ Below w.heap.size w w' := by
  have HT := Lib.hid hr
  have HT' := Lib.hid hr'
  clear hr hr'
  go_enter Try.func14, Try.ntmps14
  go_wp2_with fail
  go_loopw [5] (fun i wr => ∃ k m : Nat, k ≤ n ∧ i = .int .i64 k ∧ wr = w.drewN m) (fun i _ => n - (intOf i).toNat)
  case atStart => exact ⟨0, 0, Nat.zero_le _, rfl, rfl⟩
  case round =>
    obtain ⟨k, m, hk, rfl, rfl⟩ := hrel
    by_cases hlt : k < n
    · have c1 := HT.out.cell hlt
      have c2 := HT'.out.cell hlt
      have hlt' : (k : Int) < n := by omega
      generalize F k = x at *
      go_wp2_with fail
      go_quiet (fail)
      go_wp2_with fail
      exact ⟨⟨k + 1, _, by omega, by go_num, rfl⟩, by simp [intOf]; omega⟩
    · have hlt' : ¬ (k : Int) < n := by omega
      go_wp2_with fail
      go_ret
      exact ⟨rfl, below_drewN _ _ _⟩
set_option maxHeartbeats 400000 in
theorem sameDists_none (w : World) :
    Calls Try.prog 14 #[.slice none 0 0, .slice none 0 0] w fun e w' => e = .returned (.bool true) ∧ Below w.heap.size w w' := by
  go_enter Try.func14, Try.ntmps14
  go_wp2_with fail
  go_loopw [5] (fun i wr => i = .int .i64 0 ∧ wr = w) (fun _ _ => 0)
  case atStart => exact ⟨rfl, rfl⟩
  case round =>
    obtain ⟨rfl, rfl⟩ := hrel
    go_wp2_with fail
    go_ret
    exact ⟨rfl, Below.refl _ _⟩
set_option maxHeartbeats 400000 in
theorem spoilDists_none (x : Int) (w : World) : Calls Try.prog 19 #[.slice none 0 0, .int .u64 x] w fun e w' => e = .returned (.tuple #[]) ∧ w' = w := by
  go_enter Try.func19, Try.ntmps19
  go_wp2_with fail
  refine wp_loop_rounds 1 ?_
  rw [rounds_succ]
  go_wp2_with fail
  go_end0
  exact ⟨rfl, rfl⟩
set_option maxHeartbeats 400000 in
theorem spoilDists_any (b n : Nat) (x : Int) (F : Nat → Int) (w : World) (hn : n ≤ 8192) (h : Tb w b n 34 .u64 F) :
    Calls Try.prog 19 #[.slice (some ⟨b, 0, none⟩) n n, .int .u64 x] w fun e w' => e = .returned (.tuple #[]) ∧ Hp.Fr (fun k => k = b) w w' := by
  go_enter Try.func19, Try.ntmps19
  go_wp2_with fail
  go_loopw [4] (fun i wr => ∃ (k : Nat) (G : Nat → Int), k ≤ n ∧ i = .int .i64 k ∧ Tb wr b n 34 .u64 G ∧ Hp.Fr (fun k => k = b) w wr) (fun i _ => n - (intOf i).toNat)
  case atStart => exact ⟨0, F, Nat.zero_le _, rfl, h, Hp.Fr.refl _ _⟩
  case round =>
    obtain ⟨k, G, hk, rfl, ht, hf⟩ := hrel
    by_cases hlt : k < n
    · have hlt' : (k : Int) < n := by omega
      have c0 := ht.cell hlt
      have f0 := ht.free k
      generalize G k = y at c0
      have HS := Lib.hid (ht.set k x)
      go_wp2_with fail
      exact ⟨⟨k + 1, _, by omega, by go_num, HS.out, hf.setCell _ _ (Or.inl rfl)⟩, by simp [intOf]; omega⟩
    · have hlt' : ¬ (k : Int) < n := by omega
      go_wp2_with fail
      go_end0
      exact ⟨rfl, hf⟩
end Go.Proofs.Ytomlmphdnoempaa
namespace Go.Proofs.Ytomlmphdnoempaa
open Go.RowKit
theorem near_one {N : Int} {l : List A} {s : Int} (h : nearE N l [s] = 0) (hw : ∀ x ∈ l, 0 ≤ x.w ∧ x.w < 4294967296) : ∃ n s' : Nat, N = n ∧ s = s' ∧ s' < n ∧ RG n l := by
  have h1 := nearE_chk h
  obtain ⟨n, rfl, g⟩ := rg_of h1 hw
  unfold nearE at h
  rw [if_pos h1] at h
  by_cases e : okV n s = true
  · have := okV_t e
    exact ⟨n, s.toNat, rfl, by omega, by omega, g⟩
  · simp [e] at h
theorem near_both {N : Int} {l : List A} {s t : Int} (h : nearE N l [s, t] = 0) (hw : ∀ x ∈ l, 0 ≤ x.w ∧ x.w < 4294967296) : ∃ n s' t' : Nat, N = n ∧ s = s' ∧ t = t' ∧ s' < n ∧ t' < n ∧ RG n l := by
  have h1 := nearE_chk h
  obtain ⟨n, rfl, g⟩ := rg_of h1 hw
  unfold nearE at h
  rw [if_pos h1] at h
  by_cases e : okV n s = true
  · by_cases e2 : okV n t = true
    · have := okV_t e
      have := okV_t e2
      exact ⟨n, s.toNat, t.toNat, rfl, by omega, by omega, by omega, by omega, g⟩
    · simp [e2] at h
  · simp [e] at h
/-- A list of distances that was told, in blocks from lo to hi. -/
def Dv (lo hi : Nat) (w : World) (v : Value) (N : Int) (l : List A) (ok : Nat → Bool) (s : Int) (E : Int) : Prop :=
  E ≠ 0 ∧ v = .slice none 0 0 ∨ E = 0 ∧ ∃ n s' bf F, N = (n : Nat) ∧ s = (s' : Nat) ∧ n ≤ 1024 ∧ s' < n ∧ v = .slice (some ⟨bf, 0, none⟩) n n ∧ Tb w bf n 34 .u64 F ∧ IsD l ok s' F ∧ lo ≤ bf ∧ bf < hi
theorem Dv.on {lo hi : Nat} {w w' : World} {v : Value} {N : Int} {l : List A} {ok : Nat → Bool} {s E : Int} (h : Dv lo hi w v N l ok s E) (hb : Below w.heap.size w w') : Dv lo hi w' v N l ok s E := by
  rcases h with h | ⟨h0, n, s', bf, F, h1, h2, h3, h3', h4, h5, h6⟩
  · exact Or.inl h
  · exact Or.inr ⟨h0, n, s', bf, F, h1, h2, h3, h3', h4, h5.same (hb.block bf h5.lt), h6⟩
theorem Dv.fr {lo hi lo' hi' : Nat} {w w' : World} {v : Value} {N : Int} {l : List A} {ok : Nat → Bool} {s E : Int} (h : Dv lo hi w v N l ok s E) (hf : Hp.Fr (fun k => lo' ≤ k ∧ k < hi') w w') (hh : hi' ≤ lo) : Dv lo hi w' v N l ok s E := by
  rcases h with h | ⟨h0, n, s', bf, F, h1, h2, h3, h3', h4, h5, h6, h7, h8⟩
  · exact Or.inl h
  · exact Or.inr ⟨h0, n, s', bf, F, h1, h2, h3, h3', h4, h5.same (hf.block bf h5.lt (by omega)), h6, h7, h8⟩
theorem same_v {lo hi lo' hi' : Nat} {w : World} {v v' : Value} {N : Int} {l : List A} {ok : Nat → Bool} {s E : Int} (h : Dv lo hi w v N l ok s E) (h' : Dv lo' hi' w v' N l ok s E) :
    Calls Try.prog 14 #[v, v'] w fun e w' => e = .returned (.bool true) ∧ Below w.heap.size w w' := by
  rcases h with ⟨h0, rfl⟩ | ⟨h0, n, s', bf, F, h1, h2, h3, _, rfl, h5, h6, _⟩
  · rcases h' with ⟨_, rfl⟩ | ⟨e0, _⟩
    · exact sameDists_none w
    · exact absurd e0 h0
  · rcases h' with ⟨e0, _⟩ | ⟨_, n', s'', bf', F', e1, e2, e3, _, rfl, e5, e6, _⟩
    · exact absurd h0 e0
    · obtain rfl : n = n' := by omega
      obtain rfl : s' = s'' := by omega
      obtain rfl := h6.unique e6
      exact sameDists_any bf bf' n F w (by omega) h5 e5
theorem spoil_v {lo hi : Nat} {w : World} {v : Value} {N : Int} {l : List A} {ok : Nat → Bool} {s E : Int} (x : Int) (h : Dv lo hi w v N l ok s E) :
    Calls Try.prog 19 #[v, .int .u64 x] w fun e w' => e = .returned (.tuple #[]) ∧ Hp.Fr (fun k => lo ≤ k ∧ k < hi) w w' := by
  rcases h with ⟨h0, rfl⟩ | ⟨h0, n, s', bf, F, h1, h2, h3, _, rfl, h5, h6, h7, h8⟩
  · refine (spoilDists_none x w).mono ?_
    rintro e w' ⟨rfl, rfl⟩
    exact ⟨rfl, Hp.Fr.refl _ _⟩
  · refine (spoilDists_any bf n x F w (by omega) h5).mono ?_
    rintro e w' ⟨rfl, hf⟩
    exact ⟨rfl, hf.mono (fun k hk => by subst hk; exact ⟨h7, h8⟩)⟩
theorem from_v (N : Int) (a : Option Addr) (l : List A) (cap : Nat) (s : Int) (w : World) (hl : l.length ≤ 9223372036854775807) (hw : ∀ x ∈ l, 0 ≤ x.w ∧ x.w < 4294967296) (hr : Arcs w a l) :
    Calls Try.prog 12 #[.agg #[.int .i64 N, .slice a l.length cap], .int .i64 s] w fun e w' => ∃ v, e = .returned (.tuple #[v, .int .i64 (nearE N l [s])]) ∧ Dv w.heap.size w'.heap.size w' v N l Al s (nearE N l [s]) ∧ Below w.heap.size w w' := by
  by_cases hE : nearE N l [s] = 0
  · obtain ⟨n, s', rfl, rfl, hs, g⟩ := near_one hE hw
    refine (from_ok n a l cap s' w g hs hE hr).mono ?_
    rintro e w' ⟨bf, rfl, F, tf, hd, _, hbf, hb⟩
    rw [hE]
    exact ⟨_, rfl, Or.inr ⟨rfl, n, s', bf, F, rfl, rfl, g.nb, hs, rfl, tf, hd, hbf, tf.lt⟩, hb⟩
  · refine (from_no N a l cap s w hl hE hr).mono ?_
    rintro e w' ⟨rfl, hb⟩
    exact ⟨_, rfl, Or.inl ⟨hE, rfl⟩, hb⟩
theorem rfrom_v (N : Int) (a : Option Addr) (l : List A) (cap : Nat) (s : Int) (w : World) (hl : l.length ≤ 9223372036854775807) (hw : ∀ x ∈ l, 0 ≤ x.w ∧ x.w < 4294967296) (hr : Arcs w a l) :
    Calls Try.prog 13 #[.agg #[.int .i64 N, .slice a l.length cap], .int .i64 s] w fun e w' => ∃ v, e = .returned (.tuple #[v, .int .i64 (nearE N l [s])]) ∧ Dv w.heap.size w'.heap.size w' v N l Al s (nearE N l [s]) ∧ Below w.heap.size w w' := by
  by_cases hE : nearE N l [s] = 0
  · obtain ⟨n, s', rfl, rfl, hs, g⟩ := near_one hE hw
    refine (rfrom_ok n a l cap s' w g hs hE hr).mono ?_
    rintro e w' ⟨bf, rfl, F, tf, hd, hbf, hb⟩
    rw [hE]
    exact ⟨_, rfl, Or.inr ⟨rfl, n, s', bf, F, rfl, rfl, g.nb, hs, rfl, tf, hd, hbf, tf.lt⟩, hb⟩
  · refine (rfrom_no N a l cap s w hl hE hr).mono ?_
    rintro e w' ⟨rfl, hb⟩
    exact ⟨_, rfl, Or.inl ⟨hE, rfl⟩, hb⟩
theorem to_v (N : Int) (a : Option Addr) (l : List A) (cap : Nat) (t : Int) (w : World) (hlen : l.length * 24 ≤ 140737488351232) (hn : a = none → l = [] ∧ cap = 0) (hw : ∀ x ∈ l, 0 ≤ x.w ∧ x.w < 4294967296) (hr : Arcs w a l) :
    Calls Try.prog 15 #[.agg #[.int .i64 N, .slice a l.length cap], .int .i64 t] w fun e w' => ∃ v, e = .returned (.tuple #[v, .int .i64 (nearE N l [t])]) ∧ Dv w.heap.size w'.heap.size w' v N (turned l) Al t (nearE N l [t]) ∧ Below w.heap.size w w' := by
  by_cases hE : nearE N l [t] = 0
  · obtain ⟨n, s', rfl, rfl, hs, g⟩ := near_one hE hw
    refine (to_ok n a l cap s' w g hs hE hn hr).mono ?_
    rintro e w' ⟨bf, rfl, F, tf, hd, _, hbf, hb⟩
    rw [hE]
    exact ⟨_, rfl, Or.inr ⟨rfl, n, s', bf, F, rfl, rfl, g.nb, hs, rfl, tf, hd, hbf, tf.lt⟩, hb⟩
  · refine (to_no N a l cap t w hlen hE hn hr).mono ?_
    rintro e w' ⟨rfl, hb⟩
    exact ⟨_, rfl, Or.inl ⟨hE, rfl⟩, hb⟩
theorem rto_v (N : Int) (a : Option Addr) (l : List A) (cap : Nat) (t : Int) (w : World) (hlen : l.length * 24 ≤ 140737488351232) (hn : a = none → l = [] ∧ cap = 0) (hw : ∀ x ∈ l, 0 ≤ x.w ∧ x.w < 4294967296) (hr : Arcs w a l) :
    Calls Try.prog 16 #[.agg #[.int .i64 N, .slice a l.length cap], .int .i64 t] w fun e w' => ∃ v, e = .returned (.tuple #[v, .int .i64 (nearE N l [t])]) ∧ Dv w.heap.size w'.heap.size w' v N (turned l) Al t (nearE N l [t]) ∧ Below w.heap.size w w' := by
  by_cases hE : nearE N l [t] = 0
  · obtain ⟨n, s', rfl, rfl, hs, g⟩ := near_one hE hw
    refine (rto_ok n a l cap s' w g hs hE hn hr).mono ?_
    rintro e w' ⟨bf, rfl, F, tf, hd, hbf, hb⟩
    rw [hE]
    exact ⟨_, rfl, Or.inr ⟨rfl, n, s', bf, F, rfl, rfl, g.nb, hs, rfl, tf, hd, hbf, tf.lt⟩, hb⟩
  · refine (rto_no N a l cap t w (by omega) hE hr).mono ?_
    rintro e w' ⟨rfl, hb⟩
    exact ⟨_, rfl, Or.inl ⟨hE, rfl⟩, hb⟩
/-- A distance that was told. -/
def Dt (N : Int) (l : List A) (s t d E : Int) : Prop := E ≠ 0 ∧ d = 0 ∨ E = 0 ∧ ∃ n s' t' : Nat, N = n ∧ s = s' ∧ t = t' ∧ s' < n ∧ t' < n ∧ RG n l ∧ IsT l s' t' d
theorem Dt.unique {N : Int} {l : List A} {s t d d' E : Int} (h : Dt N l s t d E) (h' : Dt N l s t d' E) : d = d' := by
  rcases h with ⟨h0, rfl⟩ | ⟨h0, n, s', t', _, h2, h3, _, _, _, h4⟩
  · rcases h' with ⟨_, rfl⟩ | ⟨e0, _⟩
    · rfl
    · exact absurd e0 h0
  · rcases h' with ⟨e0, _⟩ | ⟨_, n2, s2, t2, _, e2, e3, _, _, _, e4⟩
    · exact absurd h0 e0
    · obtain rfl : s' = s2 := by omega
      obtain rfl : t' = t2 := by omega
      exact h4.unique e4
theorem between_v (N : Int) (a : Option Addr) (l : List A) (cap : Nat) (s t : Int) (w : World) (hl : l.length ≤ 9223372036854775807) (hn : a = none → l = [] ∧ cap = 0) (hw : ∀ x ∈ l, 0 ≤ x.w ∧ x.w < 4294967296) (hr : Arcs w a l) :
    Calls Try.prog 17 #[.agg #[.int .i64 N, .slice a l.length cap], .int .i64 s, .int .i64 t] w fun e w' => ∃ d, e = .returned (.tuple #[.int .u64 d, .int .i64 (nearE N l [s, t])]) ∧ Dt N l s t d (nearE N l [s, t]) ∧ Below w.heap.size w w' := by
  by_cases hE : nearE N l [s, t] = 0
  · obtain ⟨n, s', t', rfl, rfl, rfl, hs, ht, g⟩ := near_both hE hw
    refine (between_ok n a l cap s' t' w g hs ht hE hn hr).mono ?_
    rintro e w' ⟨d, rfl, hd, hb⟩
    rw [hE]
    exact ⟨_, rfl, Or.inr ⟨rfl, n, s', t', rfl, rfl, rfl, hs, ht, g, hd⟩, hb⟩
  · refine (between_no N a l cap s t w hl hE hr).mono ?_
    rintro e w' ⟨rfl, hb⟩
    exact ⟨_, rfl, Or.inl ⟨hE, rfl⟩, hb⟩
theorem rbetween_v (N : Int) (a : Option Addr) (l : List A) (cap : Nat) (s t : Int) (w : World) (hl : l.length ≤ 9223372036854775807) (hw : ∀ x ∈ l, 0 ≤ x.w ∧ x.w < 4294967296) (hr : Arcs w a l) :
    Calls Try.prog 18 #[.agg #[.int .i64 N, .slice a l.length cap], .int .i64 s, .int .i64 t] w fun e w' => ∃ d, e = .returned (.tuple #[.int .u64 d, .int .i64 (nearE N l [s, t])]) ∧ Dt N l s t d (nearE N l [s, t]) ∧ Below w.heap.size w w' := by
  by_cases hE : nearE N l [s, t] = 0
  · obtain ⟨n, s', t', rfl, rfl, rfl, hs, ht, g⟩ := near_both hE hw
    refine (rbetween_ok n a l cap s' t' w g hs ht hE hr).mono ?_
    rintro e w' ⟨d, rfl, hd, hb⟩
    rw [hE]
    exact ⟨_, rfl, Or.inr ⟨rfl, n, s', t', rfl, rfl, rfl, hs, ht, g, hd⟩, hb⟩
  · refine (rbetween_no N a l cap s t w hl hE hr).mono ?_
    rintro e w' ⟨rfl, hb⟩
    exact ⟨_, rfl, Or.inl ⟨hE, rfl⟩, hb⟩
/-- Whether a graph is large. -/
def big (N : Int) (n : Nat) : Bool := decide (200 < N ∧ 2000 < n)
set_option maxHeartbeats 400000 in
theorem large_any (N : Int) (a : Option Addr) (m cap : Nat) (w : World) :
    Calls Try.prog 9 #[.agg #[.int .i64 N, .slice a m cap]] w fun e w' => e = .returned (.bool (big N m)) ∧ Below w.heap.size w w' := by
  have hb0 : Below w.heap.size w (w.alloc (.cells #[.int .i64 N, .slice a m cap] 24)) := (Below.refl _ _).alloc (Nat.le_refl _) _
  by_cases h1 : 200 < N
  · by_cases h2 : (2000 : Int) < m
    · have HB : Hid (big N m = true) := by show _ = _; unfold big; simp; omega
      rw [HB.out]
      go_enter Try.func9, Try.ntmps9
      go_wp2_with fail
      go_ret
      exact ⟨rfl, hb0⟩
    · have HB : Hid (big N m = false) := by show _ = _; unfold big; simp; omega
      rw [HB.out]
      go_enter Try.func9, Try.ntmps9
      go_wp2_with fail
      go_ret
      exact ⟨rfl, hb0⟩
  · have HB : Hid (big N m = false) := by show _ = _; unfold big; simp; omega
    rw [HB.out]
    go_enter Try.func9, Try.ntmps9
    go_wp2_with fail
    go_ret
    exact ⟨rfl, hb0⟩
end Go.Proofs.Ytomlmphdnoempaa
