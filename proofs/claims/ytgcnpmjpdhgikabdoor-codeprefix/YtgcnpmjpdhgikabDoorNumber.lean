/-
  Numbers in groups of seven bits, and the contract of code.appendNumber.
-/
import Derived.Test.YtgcnpmjpdhgikabDoorFrame
namespace Go.Proofs.YtgcnpmjpdhgikabDoor
open Go.RowKit
/-- A number's groups of seven bits, the lowest first; as many as f + 1 of them. -/
def numG : Nat → Nat → List UInt8
  | 0, n => [UInt8.ofNat n]
  | f + 1, n => if 128 ≤ n then UInt8.ofNat (n % 128 + 128) :: numG f (n / 128) else [UInt8.ofNat n]
/-- A number's bytes. -/
def numD (n : Nat) : List UInt8 := numG 9 n
theorem numG_len (f : Nat) : ∀ n, 1 ≤ (numG f n).length ∧ (numG f n).length ≤ f + 1 := by
  induction f with
  | zero => intro n; simp [numG]
  | succ f ih =>
    intro n
    unfold numG
    split
    · have := ih (n / 128); simp; omega
    · simp
theorem numD_len (n : Nat) : 1 ≤ (numD n).length ∧ (numD n).length ≤ 10 := numG_len 9 n
theorem numG_small {f n : Nat} (h : n < 128) : numG f n = [UInt8.ofNat n] := by
  cases f with
  | zero => rfl
  | succ f => unfold numG; rw [if_neg (by omega)]
theorem numG_big {f n : Nat} (h : 128 ≤ n) : numG (f + 1) n = UInt8.ofNat (n % 128 + 128) :: numG f (n / 128) := by
  conv => lhs; unfold numG
  rw [if_pos h]
theorem or_more : ∀ r : Fin 256, r.1 ||| 128 = r.1 % 128 + 128 := by decide +kernel
theorem bits_more (n : Nat) : bits .or .u8 ((n : Int) % 256) 128 = ((n % 128 + 128 : Nat) : Int) := by
  have e := u8_or_nat (n % 256) 128 (by omega) (by decide)
  have e2 := or_more ⟨n % 256, by omega⟩
  rw [show (n % 256 ||| 128) = n % 256 % 128 + 128 from e2] at e
  rw [show n % 128 = n % 256 % 128 by omega, ← e]
  rfl
theorem news_one (w : World) (x : Value) : ∀ j u, [x][j]? = some u → (w.alloc (.cells #[x] 5)).cell? ((⟨w.heap.size, 0, none⟩ : Addr).add j) = some u := by
  intro j u hu
  match j, hu with
  | 0, hu => simp at hu; subst hu; simp [Addr.add]
theorem one_u8 (x : Int) : ∀ u ∈ [Value.int .u8 x], u.oneCell' = true := by intro u hu; simp at hu; subst hu; rfl
theorem bytesC_of (x : Nat) (h : x < 256) : bytesC [UInt8.ofNat x] = [.int .u8 (x : Int)] := by
  unfold bytesC
  simp only [List.map_cons, List.map_nil]
  rw [toNat_of x h]
theorem own_join {w : World} {base : Nat} {v : Value} {l m : List UInt8} (h : w.ownsRow base 5 1 v (l.length + m.length) (bytesC l ++ bytesC m)) : w.ownsRow base 5 1 v (l ++ m).length (bytesC (l ++ m)) := by
  rw [List.length_append, bytesC_append]; exact h
/-- Below a block all is as it was; so is every block that is no row of bytes. -/
structure Fr (base : Nat) (w w' : World) : Prop where
  below : Below base w w'
  block : ∀ k, k < w.heap.size → (∀ cs fr, w.heap[k]? ≠ some (.cells cs 5 fr)) → w'.heap[k]? = w.heap[k]?
theorem Fr.refl (base : Nat) (w : World) : Fr base w w := ⟨Below.refl _ _, fun _ _ _ => rfl⟩
theorem Fr.trans {base : Nat} {a b c : World} (h : Fr base a b) (k : Fr base b c) : Fr base a c :=
  ⟨h.below.trans k.below, fun i hi hn => by
    have e := h.block i hi hn
    exact (k.block i (Nat.lt_of_lt_of_le hi h.below.size) (fun cs fr => by rw [e]; exact hn cs fr)).trans e⟩
theorem Fr.size {base : Nat} {a b : World} (h : Fr base a b) : a.heap.size ≤ b.heap.size := h.below.size
theorem Fr.of_below {base : Nat} {w w' : World} (h : Below w.heap.size w w') (hb : base ≤ w.heap.size) : Fr base w w' := ⟨h.mono hb, fun k hk _ => h.block k hk⟩
theorem Fr.alloc {base : Nat} {a w : World} (h : Fr base a w) (hB : base ≤ w.heap.size) (o : Obj) : Fr base a (w.alloc o) :=
  h.trans (Fr.of_below ((Below.refl _ _).alloc (Nat.le_refl _) _) hB)
theorem Fr.grown {base : Nat} {a w w' : World} {v : Value} {n : Nat} {xs : List Value} (h : Fr base a w) (hown : w.ownsRow base 5 1 v n xs) (hg : w.grownBy w' v.ownBlock) (hB : base ≤ w.heap.size) : Fr base a w' := by
  refine h.trans ⟨(Below.refl _ _).grown hg hB (fun k hk => (hown.lt k hk).1), fun k hk hn => hg.block k hk ?_⟩
  intro e
  rcases hown.2 with ⟨h', _⟩ | ⟨g, c, cur, h', hb, hgg, _⟩
  · rw [h'] at e; cases e
  · rw [h'] at e
    have e' : k = g := Option.some.inj e
    subst e'
    exact hn _ _ hgg
theorem Fr.cell {base : Nat} {w w' : World} (h : Fr base w w') {k : Nat} {cs : Array Value} {t : TypeId} {fr : Nat × Nat} (hk : w.heap[k]? = some (.cells cs t fr)) (ht : t ≠ 5) : w'.heap[k]? = some (.cells cs t fr) := by
  have hl : k < w.heap.size := lt_of_block hk
  rw [h.block k hl (fun cs' fr' e => by rw [hk] at e; injection e with e; injection e with _ e2 _; exact ht e2), hk]
set_option maxHeartbeats 400000 in
theorem anum_any (base : Nat) (v : Value) (l : List UInt8) (n : Nat) (hn : n < 18446744073709551616) (w : World) (hown : w.ownsRow base 5 1 v l.length (bytesC l)) (hb : base ≤ w.heap.size) (hl : l.length ≤ 1000000) :
    Calls Tryd.prog 14 #[v, .int .u64 n] w fun e w' => ∃ v', e = .returned v' ∧ w'.ownsRow base 5 1 v' (l ++ numD n).length (bytesC (l ++ numD n)) ∧ Fr base w w' := by
  obtain ⟨i0, hi, hz0, hz1, hz2⟩ := info_parts info5
  have HO := Lib.hid hown
  clear hown
  go_enter Tryd.func14, Tryd.ntmps14
  go_wp2_with fail
  go_loopw [0, 1] (fun b x wr => ∃ (f m : Nat) (pre : List UInt8), x = .int .u64 m ∧ m < 2 ^ (7 * (f + 1)) ∧ m < 18446744073709551616 ∧ Hid (pre ++ numG f m = numD n) ∧ Hid (wr.ownsRow base 5 1 b (l ++ pre).length (bytesC (l ++ pre))) ∧ Fr base w wr) (fun _ x _ => (intOf x).toNat)
  case atStart => exact ⟨9, n, [], rfl, by omega, hn, rfl, by show World.ownsRow _ _ _ _ _ _ _; rw [List.append_nil]; exact HO.out, Fr.refl _ _⟩
  case round =>
    obtain ⟨f, m, pre, rfl, hm, hm64, HP, HR, hbel⟩ := hrel
    have hlen : pre.length ≤ 10 := by
      have e := congrArg List.length HP.out
      have := (numD_len n).2
      rw [List.length_append] at e; omega
    have hlen2 : (l ++ pre).length ≤ 1000010 := by rw [List.length_append]; omega
    have hsz := hbel.size
    by_cases hb7 : 128 ≤ m
    · have hb7' : (128 : Int) ≤ m := by omega
      have hbm := bits_more m
      obtain ⟨f, rfl⟩ : ∃ f', f = f' + 1 := by
        cases f with
        | zero => exact absurd hm (by simp; omega)
        | succ f => exact ⟨f, rfl⟩
      have hm' : m / 128 < 2 ^ (7 * (f + 1)) := by
        have e : 2 ^ (7 * (f + 1 + 1)) = 2 ^ (7 * (f + 1)) * 128 := by rw [show 7 * (f + 1 + 1) = 7 * (f + 1) + 7 by omega, Nat.pow_add]
        rw [e] at hm
        exact Nat.div_lt_of_lt_mul (by rw [Nat.mul_comm]; exact hm)
      have HP' : Hid ((pre ++ [UInt8.ofNat (m % 128 + 128)]) ++ numG f (m / 128) = numD n) := by
        show _ = _
        rw [← HP.out, numG_big hb7, List.append_assoc]; rfl
      clear hm
      go_wp2_with (at_builtin; refine wpList_append_own _ rfl (.tmp 7) (.tmp 11) 34 rfl base 5 i0 (.int .u8 0) 1 1 Tryd.underlying34 hi hz0 hz1 hz2 rfl (by decide) u0 (l ++ pre).length (bytesC (l ++ pre)) rfl (HR.out.alloc _) ⟨wr.heap.size, 0, none⟩ 1 1 [.int .u8 ((m : Int) % 128 + 128)] rfl rfl (news_one wr _) (one_u8 _) (by unfold maxLen; omega) (by omega) (by simp; omega) ?_; intro v1 w1 hown1 hgrow1 hnil1; clear hnil1)
      refine ⟨⟨f, m / 128, pre ++ [UInt8.ofNat (m % 128 + 128)], by go_num, hm', by omega, HP', ?_, (hbel.alloc (by omega) _).grown (HR.out.alloc _) hgrow1 (by simp; omega)⟩, ?_⟩
      · show World.ownsRow _ _ _ _ _ _ _
        rw [← List.append_assoc, List.length_append, bytesC_append, bytesC_of _ (by omega)]
        exact hown1
      · simp [intOf]; omega
    · have hb7' : ¬ (128 : Int) ≤ m := by omega
      have HE : Hid (numD n = pre ++ [UInt8.ofNat m]) := by
        show _ = _
        rw [← HP.out, numG_small (by omega)]
      clear hm
      go_wp2_with (at_builtin; refine wpList_append_own _ rfl (.tmp 15) (.tmp 18) 34 rfl base 5 i0 (.int .u8 0) 1 1 Tryd.underlying34 hi hz0 hz1 hz2 rfl (by decide) u0 (l ++ pre).length (bytesC (l ++ pre)) rfl (HR.out.alloc _) ⟨wr.heap.size, 0, none⟩ 1 1 [.int .u8 (m : Int)] rfl rfl (news_one wr _) (one_u8 _) (by unfold maxLen; omega) (by omega) (by simp; omega) ?_; intro v1 w1 hown1 hgrow1 hnil1; clear hnil1)
      go_ret
      refine ⟨v1, rfl, ?_, (hbel.alloc (by omega) _).grown (HR.out.alloc _) hgrow1 (by simp; omega)⟩
      have h9 := own_join (l := l ++ pre) (m := [UInt8.ofNat m]) (by rw [bytesC_of _ (by omega)]; exact hown1)
      rw [List.append_assoc, List.length_append] at h9
      rw [HE.out]
      exact h9
/-- A row of bytes that the call owns. -/
def OwnB (w : World) (base : Nat) (v : Value) (l : List UInt8) : Prop := w.ownsRow base 5 1 v l.length (bytesC l)
theorem anum (base : Nat) (v : Value) (l : List UInt8) (n : Nat) (hn : n < 18446744073709551616) (w : World) (hown : OwnB w base v l) (hb : base ≤ w.heap.size) (hl : l.length ≤ 1000000) :
    Calls Tryd.prog 14 #[v, .int .u64 n] w fun e w' => ∃ v', e = .returned v' ∧ OwnB w' base v' (l ++ numD n) ∧ Fr base w w' :=
  anum_any base v l n hn w hown hb hl
theorem OwnB.nil (w : World) (base : Nat) : OwnB w base (.slice none 0 0) [] := World.ownsRow_nil w base 5 1
end Go.Proofs.YtgcnpmjpdhgikabDoor
