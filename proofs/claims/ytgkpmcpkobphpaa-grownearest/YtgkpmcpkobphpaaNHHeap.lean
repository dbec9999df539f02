/-
  Contracts of heap.New, and of (*Heap).Len, Top, Pop, Drop and Key.
-/
import Derived.Test.YtgkpmcpkobphpaaNHTake
namespace Go.Proofs.Ytgkpmcpkobphpaa.N5.Hp
open Go.RowKit
/-- What Top tells. -/
def TopIs (n : Nat) (T : Nat → Option Int) (x : Nat) (k e : Int) : Prop :=
  (e = 0 ∧ T x = some k ∧ x < n ∧ ∀ y k', T y = some k' → k < k' ∨ k = k' ∧ x ≤ y) ∨ (e = 5 ∧ x = 0 ∧ k = 0 ∧ ∀ y, T y = none)
theorem TopIs.unique {n : Nat} {T : Nat → Option Int} {x x' : Nat} {k k' e e' : Int} (h : TopIs n T x k e) (h' : TopIs n T x' k' e') : x = x' ∧ k = k' ∧ e = e' := by
  rcases h with ⟨rfl, a, _, b⟩ | ⟨rfl, rfl, rfl, a⟩ <;> rcases h' with ⟨rfl, a', _, b'⟩ | ⟨rfl, rfl, rfl, a'⟩
  · have p := b _ _ a'
    have q := b' _ _ a
    omega
  · rw [a' x] at a; cases a
  · rw [a x'] at a'; cases a'
  · exact ⟨rfl, rfl, rfl⟩
theorem WF.topIs {n : Nat} {ms : List M} {pl : List Int} {T : Nat → Option Int} (f : WF n ms pl T) (h : 0 < ms.length) : TopIs n T (gm ms 0).id (gm ms 0).key 0 := by
  obtain ⟨a, b, c⟩ := f.top h
  exact Or.inl ⟨rfl, a, b, c⟩
theorem WF.topNo {n : Nat} {ms : List M} {pl : List Int} {T : Nat → Option Int} (f : WF n ms pl T) (h : ms.length = 0) : TopIs n T 0 0 5 := by
  refine Or.inr ⟨rfl, rfl, rfl, fun y => ?_⟩
  by_cases hy : y < n
  · rcases f.find hy with ⟨_, a⟩ | ⟨i, a, _⟩
    · exact a
    · omega
  · exact f.out y (by omega)
set_option maxRecDepth 100000 in
set_option maxHeartbeats 400000 in
theorem Len_any {w : World} {h n : Nat} {T : Nat → Option Int} {D : Nat → Prop} (r : HR w h n T D) :
    Calls Try.prog 79 #[.pointer (some ⟨h, 0, none⟩)] w fun e w' => e = .returned (.int .i64 (cnt T n)) ∧ w' = w := by
  obtain ⟨p, v, ms, pl, r, f, rfl⟩ := r
  obtain ⟨⟨c0, c1, c2⟩, f0, f1, f2⟩ := cells3 r.hd
  rw [f.cnt]
  obtain ⟨a, c, hv⟩ := own_slice r.own
  generalize ms.length = N at *
  subst hv
  go_enter Try.func79, Try.ntmps79
  go_wp2_with fail
  go_ret
  exact ⟨rfl, rfl⟩
set_option maxRecDepth 100000 in
set_option maxHeartbeats 800000 in
theorem Top_any {w : World} {h n : Nat} {T : Nat → Option Int} {D : Nat → Prop} (r : HR w h n T D) :
    Calls Try.prog 72 #[.pointer (some ⟨h, 0, none⟩)] w fun e w' => ∃ (x : Nat) (k er : Int), e = .returned (.tuple #[.int .i64 x, .int .u64 k, .int .i64 er]) ∧ TopIs n T x k er ∧ Below w.heap.size w w' := by
  have HLEN := Lib.hid (Len_any r)
  obtain ⟨p, v, ms, pl, r, f, rfl⟩ := r
  rw [f.cnt] at HLEN
  obtain ⟨⟨c0, c1, c2⟩, f0, f1, f2⟩ := cells3 r.hd
  by_cases h0 : 0 < ms.length
  · have HT := Lib.hid (f.topIs h0)
    obtain ⟨b, c, hv, hc1, hg1, hc2⟩ := own_shape r.own h0
    subst hv
    obtain ⟨⟨d0, d1⟩, _, _⟩ := r.member 0 h0
    obtain ⟨X, HX⟩ := named (gm ms 0)
    rw [HX.out] at d0 d1 HT
    have hne : ((ms.length : Int) == 0) = false := by simp; intro e; rw [e] at h0; simp at h0
    have h0' : (0 : Int) < ms.length := by omega
    simp only [Nat.zero_mul, Nat.zero_add] at d0 d1
    generalize ms.length = N at *
    go_enter Try.func72, Try.ntmps72
    go_wp2_with fail
    refine HLEN.out.mono ?_
    rintro e w1 ⟨rfl, rfl⟩
    go_wp2_with fail
    go_quiet (fail)
    go_wp2_with fail
    go_ret3
    exact ⟨X.id, X.key, 0, rfl, HT.out, bthen ((Below.refl _ _).alloc (Nat.le_refl _) _) ⟨rfl, rfl, rfl, Nat.le_refl _, fun _ _ => rfl⟩ (by simp)⟩
  · have HT := Lib.hid (f.topNo (by omega))
    rw [show ms.length = 0 by omega] at HLEN
    go_enter Try.func72, Try.ntmps72
    go_wp2_with fail
    refine HLEN.out.mono ?_
    rintro e w1 ⟨rfl, rfl⟩
    go_wp2_with fail
    go_ret3
    exact ⟨0, 0, 5, rfl, HT.out, Below.refl _ _⟩
set_option maxRecDepth 100000 in
set_option maxHeartbeats 800000 in
theorem Pop_any {w : World} {h n : Nat} {T : Nat → Option Int} {D : Nat → Prop} (r : HR w h n T D) :
    Calls Try.prog 73 #[.pointer (some ⟨h, 0, none⟩)] w fun e w' => ∃ (x : Nat) (k er : Int), e = .returned (.tuple #[.int .i64 x, .int .u64 k, .int .i64 er]) ∧ TopIs n T x k er ∧ HRto w w' h n (if er = 0 then upd T x none else T) D := by
  have HTOP := Lib.hid (Top_any r)
  have r0 := r
  obtain ⟨p, v, ms, pl, r, f, rfl⟩ := r
  by_cases h0 : 0 < ms.length
  · have HT := Lib.hid (f.topIs h0)
    have HTK := Lib.hid (fun w' (hb : Below w.heap.size w w') => take_any (r.on hb) f 0 h0)
    obtain ⟨X, HX⟩ := named (gm ms 0)
    rw [HX.out] at HT HTK
    go_enter Try.func73, Try.ntmps73
    go_wp2_with fail
    refine HTOP.out.mono ?_
    rintro e w1 ⟨x, k, er, rfl, ht, hb1⟩
    obtain ⟨rfl, rfl, rfl⟩ := ht.unique HT.out
    go_wp2_with fail
    refine (HTK.out w1 hb1).mono ?_
    rintro e w2 ⟨rfl, ha⟩
    go_wp2_with fail
    go_ret3
    obtain ⟨D', h1, h2, h3⟩ := ha.to
    exact ⟨X.id, X.key, 0, rfl, HT.out, D', by rw [if_pos rfl]; exact h1, fun k hk => (h2 k hk).imp id (fun h' => Nat.le_trans hb1.size h'), (Fr.of hb1).then h3⟩
  · have HT := Lib.hid (f.topNo (by omega))
    go_enter Try.func73, Try.ntmps73
    go_wp2_with fail
    refine HTOP.out.mono ?_
    rintro e w1 ⟨x, k, er, rfl, ht, hb1⟩
    obtain ⟨rfl, rfl, rfl⟩ := ht.unique HT.out
    go_wp2_with fail
    go_ret3
    exact ⟨0, 0, 5, rfl, HT.out, by rw [if_neg (by decide)]; exact r0.to hb1⟩
/-- What Drop tells. -/
def dropB (n : Nat) (T : Nat → Option Int) (x : Int) : Bool := okI n x && (T x.toNat).isSome
def dropT (n : Nat) (T : Nat → Option Int) (x : Int) : Nat → Option Int := if okI n x then upd T x.toNat none else T
theorem upd_none {T : Nat → Option Int} {x : Nat} (h : T x = none) : upd T x none = T := by
  funext y
  unfold upd
  split
  · rename_i e; rw [e, h]
  · rfl
/-- What Key tells. -/
def keyK (n : Nat) (T : Nat → Option Int) (x : Int) : Int := if okI n x then (T x.toNat).getD 0 else 0
end Go.Proofs.Ytgkpmcpkobphpaa.N5.Hp
