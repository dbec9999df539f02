/-
  Contract of code.check: what is wrong with an item, or 0. Numbers in groups of seven bits, and the contract of code.appendNumber. Items as they lie in memory; what may be wrong with one; contract of code.keepsToKind.
-/
import Derived.Test.YtchmiiclogmheaaDoorCFrame
namespace Go.Proofs.YtchmiiclogmheaaDoor.C2
open Go.RowKit
/-- A number's groups of seven bits, the lowest first; as many as f + 1 of them. -/
def numG : Nat → Nat → List UInt8
  | 0, n => [UInt8.ofNat n]
  | f + 1, n => if 128 ≤ n then UInt8.ofNat (n % 128 + 128) :: numG f (n / 128) else [UInt8.ofNat n]
/-- A number's bytes. -/
def numD (n : Nat) : List UInt8 := numG 9 n
set_option maxRecDepth 100000 in
theorem numG_len (f : Nat) : ∀ n, 1 ≤ (numG f n).length ∧ (numG f n).length ≤ f + 1 := by
  induction f with
  | zero => intro n; simp [numG]
  | succ f ih =>
    intro n
    unfold numG
    split
    · have := ih (n / 128); simp; omega
    · simp
set_option maxRecDepth 100000 in
theorem numD_len (n : Nat) : 1 ≤ (numD n).length ∧ (numD n).length ≤ 10 := numG_len 9 n
theorem numG_small {f n : Nat} (h : n < 128) : numG f n = [UInt8.ofNat n] := by
  cases f with
  | zero => rfl
  | succ f => unfold numG; rw [if_neg (by omega)]
set_option maxRecDepth 100000 in
theorem numG_big {f n : Nat} (h : 128 ≤ n) : numG (f + 1) n = UInt8.ofNat (n % 128 + 128) :: numG f (n / 128) := by
  conv => lhs; unfold numG
  rw [if_pos h]
set_option maxRecDepth 100000 in
theorem or_more : ∀ r : Fin 256, r.1 ||| 128 = r.1 % 128 + 128 := by decide +kernel
theorem bits_more (n : Nat) : bits .or .u8 ((n : Int) % 256) 128 = ((n % 128 + 128 : Nat) : Int) := by
  have e := u8_or_nat (n % 256) 128 (by omega) (by decide)
  have e2 := or_more ⟨n % 256, by omega⟩
  rw [show (n % 256 ||| 128) = n % 256 % 128 + 128 from e2] at e
  rw [show n % 128 = n % 256 % 128 by omega, ← e]
  rfl
set_option maxRecDepth 100000 in
theorem news_one (w : World) (x : Value) : ∀ j u, [x][j]? = some u → (w.alloc (.cells #[x] 5)).cell? ((⟨w.heap.size, 0, none⟩ : Addr).add j) = some u := by
  intro j u hu
  match j, hu with
  | 0, hu => simp at hu; subst hu; simp [Addr.add]
set_option maxRecDepth 100000 in
theorem one_u8 (x : Int) : ∀ u ∈ [Value.int .u8 x], u.oneCell' = true := by intro u hu; simp at hu; subst hu; rfl
theorem bytesC_of (x : Nat) (h : x < 256) : bytesC [UInt8.ofNat x] = [.int .u8 (x : Int)] := by
  unfold bytesC
  simp only [List.map_cons, List.map_nil]
  rw [toNat_of x h]
set_option maxRecDepth 100000 in
theorem own_join {w : World} {base : Nat} {v : Value} {l m : List UInt8} (h : w.ownsRow base 5 1 v (l.length + m.length) (bytesC l ++ bytesC m)) : w.ownsRow base 5 1 v (l ++ m).length (bytesC (l ++ m)) := by
  rw [List.length_append, bytesC_append]; exact h
/-- Below a block all is as it was; so is every block that is no row of bytes. -/
structure Fr (base : Nat) (w w' : World) : Prop where
  below : Below base w w'
  block : ∀ k, k < w.heap.size → (∀ cs fr, w.heap[k]? ≠ some (.cells cs 5 fr)) → w'.heap[k]? = w.heap[k]?
set_option maxRecDepth 100000 in
theorem Fr.refl (base : Nat) (w : World) : Fr base w w := ⟨Below.refl _ _, fun _ _ _ => rfl⟩
theorem Fr.trans {base : Nat} {a b c : World} (h : Fr base a b) (k : Fr base b c) : Fr base a c :=
  ⟨h.below.trans k.below, fun i hi hn => by
    have e := h.block i hi hn
    exact (k.block i (Nat.lt_of_lt_of_le hi h.below.size) (fun cs fr => by rw [e]; exact hn cs fr)).trans e⟩
set_option maxRecDepth 100000 in
theorem Fr.size {base : Nat} {a b : World} (h : Fr base a b) : a.heap.size ≤ b.heap.size := h.below.size
theorem Fr.of_below {base : Nat} {w w' : World} (h : Below w.heap.size w w') (hb : base ≤ w.heap.size) : Fr base w w' := ⟨h.mono hb, fun k hk _ => h.block k hk⟩
theorem Fr.alloc {base : Nat} {a w : World} (h : Fr base a w) (hB : base ≤ w.heap.size) (o : Obj) : Fr base a (w.alloc o) :=
  h.trans (Fr.of_below ((Below.refl _ _).alloc (Nat.le_refl _) _) hB)
set_option maxRecDepth 100000 in
theorem Fr.grown {base : Nat} {a w w' : World} {v : Value} {n : Nat} {xs : List Value} (h : Fr base a w) (hown : w.ownsRow base 5 1 v n xs) (hg : w.grownBy w' v.ownBlock) (hB : base ≤ w.heap.size) : Fr base a w' := by
  refine h.trans ⟨(Below.refl _ _).grown hg hB (fun k hk => (hown.lt k hk).1), fun k hk hn => hg.block k hk ?_⟩
  intro e
  rcases hown.2 with ⟨h', _⟩ | ⟨g, c, cur, h', hb, hgg, _⟩
  · rw [h'] at e; cases e
  · rw [h'] at e
    have e' : k = g := Option.some.inj e
    subst e'
    exact hn _ _ hgg
set_option maxRecDepth 100000 in
theorem Fr.cell {base : Nat} {w w' : World} (h : Fr base w w') {k : Nat} {cs : Array Value} {t : TypeId} {fr : Nat × Nat} (hk : w.heap[k]? = some (.cells cs t fr)) (ht : t ≠ 5) : w'.heap[k]? = some (.cells cs t fr) := by
  have hl : k < w.heap.size := lt_of_block hk
  rw [h.block k hl (fun cs' fr' e => by rw [hk] at e; injection e with e; injection e with _ e2 _; exact ht e2), hk]
set_option maxRecDepth 100000 in
set_option maxHeartbeats 400000 in
theorem anum_any (base : Nat) (v : Value) (l : List UInt8) (n : Nat) (hn : n < 18446744073709551616) (w : World) (hown : w.ownsRow base 5 1 v l.length (bytesC l)) (hb : base ≤ w.heap.size) (hl : l.length ≤ 1000000) :
    Calls Tryd.prog 83 #[v, .int .u64 n] w fun e w' => ∃ v', e = .returned v' ∧ w'.ownsRow base 5 1 v' (l ++ numD n).length (bytesC (l ++ numD n)) ∧ Fr base w w' := by
  obtain ⟨i0, hi, hz0, hz1, hz2⟩ := info_parts info5
  have HO := Lib.hid hown
  clear hown
  go_enter Tryd.func83, Tryd.ntmps83
  go_wp2_with fail
  go_loopw [0, 1] (fun b x wr => ∃ (f m : Nat) (pre : List UInt8), x = .int .u64 m ∧ m < 2 ^ (7 * (f + 1)) ∧ m < 18446744073709551616 ∧ Hid (pre ++ numG f m = numD n) ∧ Hid (wr.ownsRow base 5 1 b (l ++ pre).length (bytesC (l ++ pre))) ∧ Fr base w wr) (fun _ x _ => (intOf x).toNat)
  case atStart => exact ⟨9, n, [], rfl, by omega, hn, rfl, by show World.ownsRow _ _ _ _ _ _ _; rw [List.append_nil]; exact HO.out, Fr.refl _ _⟩
  case round =>
    obtain ⟨f, m, pre, rfl, hm, hm64, HP, HR, hbel⟩ := hrel
    have hlen : pre.length ≤ 10 := by
      have e := congrArg List.length HP.out
      have := (numD_len n).2
      rw [List.length_append] at e; omega
    have hlen2 : (l ++ pre).length ≤ 1000010 := by rw [List.length_append]; omega
    have hsz := hbel.size
    by_cases hb7 : 128 ≤ m
    · have hb7' : (128 : Int) ≤ m := by omega
      have hbm := bits_more m
      obtain ⟨f, rfl⟩ : ∃ f', f = f' + 1 := by
        cases f with
        | zero => exact absurd hm (by simp; omega)
        | succ f => exact ⟨f, rfl⟩
      have hm' : m / 128 < 2 ^ (7 * (f + 1)) := by
        have e : 2 ^ (7 * (f + 1 + 1)) = 2 ^ (7 * (f + 1)) * 128 := by rw [show 7 * (f + 1 + 1) = 7 * (f + 1) + 7 by omega, Nat.pow_add]
        rw [e] at hm
        exact Nat.div_lt_of_lt_mul (by rw [Nat.mul_comm]; exact hm)
      have HP' : Hid ((pre ++ [UInt8.ofNat (m % 128 + 128)]) ++ numG f (m / 128) = numD n) := by
        show _ = _
        rw [← HP.out, numG_big hb7, List.append_assoc]; rfl
      clear hm
      go_wp2_with (at_builtin; refine wpList_append_own _ rfl (.tmp 7) (.tmp 11) 79 rfl base 5 i0 (.int .u8 0) 1 1 Tryd.underlying79 hi hz0 hz1 hz2 rfl (by decide) u0 (l ++ pre).length (bytesC (l ++ pre)) rfl (HR.out.alloc _) ⟨wr.heap.size, 0, none⟩ 1 1 [.int .u8 ((m : Int) % 128 + 128)] rfl rfl (news_one wr _) (one_u8 _) (by unfold maxLen; omega) (by omega) (by simp; omega) ?_; intro v1 w1 hown1 hgrow1 hnil1; clear hnil1)
      refine ⟨⟨f, m / 128, pre ++ [UInt8.ofNat (m % 128 + 128)], by go_num, hm', by omega, HP', ?_, (hbel.alloc (by omega) _).grown (HR.out.alloc _) hgrow1 (by simp; omega)⟩, ?_⟩
      · show World.ownsRow _ _ _ _ _ _ _
        rw [← List.append_assoc, List.length_append, bytesC_append, bytesC_of _ (by omega)]
        exact hown1
      · simp [intOf]; omega
    · have hb7' : ¬ (128 : Int) ≤ m := by omega
      have HE : Hid (numD n = pre ++ [UInt8.ofNat m]) := by
        show _ = _
        rw [← HP.out, numG_small (by omega)]
      clear hm
      go_wp2_with (at_builtin; refine wpList_append_own _ rfl (.tmp 15) (.tmp 18) 79 rfl base 5 i0 (.int .u8 0) 1 1 Tryd.underlying79 hi hz0 hz1 hz2 rfl (by decide) u0 (l ++ pre).length (bytesC (l ++ pre)) rfl (HR.out.alloc _) ⟨wr.heap.size, 0, none⟩ 1 1 [.int .u8 (m : Int)] rfl rfl (news_one wr _) (one_u8 _) (by unfold maxLen; omega) (by omega) (by simp; omega) ?_; intro v1 w1 hown1 hgrow1 hnil1; clear hnil1)
      go_ret
      refine ⟨v1, rfl, ?_, (hbel.alloc (by omega) _).grown (HR.out.alloc _) hgrow1 (by simp; omega)⟩
      have h9 := own_join (l := l ++ pre) (m := [UInt8.ofNat m]) (by rw [bytesC_of _ (by omega)]; exact hown1)
      rw [List.append_assoc, List.length_append] at h9
      rw [HE.out]
      exact h9
/-- A row of bytes that the call owns. -/
def OwnB (w : World) (base : Nat) (v : Value) (l : List UInt8) : Prop := w.ownsRow base 5 1 v l.length (bytesC l)
set_option maxRecDepth 100000 in
theorem anum (base : Nat) (v : Value) (l : List UInt8) (n : Nat) (hn : n < 18446744073709551616) (w : World) (hown : OwnB w base v l) (hb : base ≤ w.heap.size) (hl : l.length ≤ 1000000) :
    Calls Tryd.prog 83 #[v, .int .u64 n] w fun e w' => ∃ v', e = .returned v' ∧ OwnB w' base v' (l ++ numD n) ∧ Fr base w w' :=
  anum_any base v l n hn w hown hb hl
set_option maxRecDepth 100000 in
theorem OwnB.nil (w : World) (base : Nat) : OwnB w base (.slice none 0 0) [] := World.ownsRow_nil w base 5 1
end Go.Proofs.YtchmiiclogmheaaDoor.C2
namespace Go.Proofs.YtchmiiclogmheaaDoor.C2
open Go.RowKit
/-- An item, with where its list lies. -/
inductive T where
  | mk (k n : Int) (s : ByteArray) (a : Option Addr) (cap : Nat) (l : List T)
def T.k : T → Int | .mk k _ _ _ _ _ => k
def T.n : T → Int | .mk _ n _ _ _ _ => n
def T.s : T → ByteArray | .mk _ _ s _ _ _ => s
def T.a : T → Option Addr | .mk _ _ _ a _ _ => a
def T.cap : T → Nat | .mk _ _ _ _ c _ => c
def T.l : T → List T | .mk _ _ _ _ _ l => l
/-- The item's value. -/
def T.val (t : T) : Value := .agg #[.int .i64 t.k, .int .u64 t.n, .string t.s, .slice t.a t.l.length t.cap]
/-- Its four cells lie at an address. -/
def T.at (t : T) (w : World) (b o : Nat) : Prop :=
  w.cell? ⟨b, o, none⟩ = some (.int .i64 t.k) ∧ w.cell? ⟨b, o + 1, none⟩ = some (.int .u64 t.n) ∧ w.cell? ⟨b, o + 2, none⟩ = some (.string t.s) ∧ w.cell? ⟨b, o + 3, none⟩ = some (.slice t.a t.l.length t.cap)
/-- Its members lie in memory, so many levels down. -/
def InF (w : World) : Nat → T → Prop
  | 0, _ => True
  | f + 1, t => (0 ≤ t.n ∧ t.n ≤ 18446744073709551615 ∧ t.s.size ≤ 140737488355328 ∧ t.l.length ≤ 140737488355328) ∧ (0 < t.l.length → ∃ b o, t.a = some ⟨b, o, none⟩ ∧ ∀ j, (h : j < t.l.length) → t.l[j].at w b (o + j * 4)) ∧ ∀ j, (h : j < t.l.length) → InF w f t.l[j]
set_option maxRecDepth 100000 in
theorem T.at.on {t : T} {w w' : World} {b o : Nat} (h : t.at w b o) (hb : Below w.heap.size w w') : t.at w' b o := by
  have hl := World.block_lt_of_cell? w _ h.1
  exact ⟨(hb.cell hl).trans h.1, (hb.cell (p := ⟨b, o + 1, none⟩) hl).trans h.2.1, (hb.cell (p := ⟨b, o + 2, none⟩) hl).trans h.2.2.1, (hb.cell (p := ⟨b, o + 3, none⟩) hl).trans h.2.2.2⟩
set_option maxRecDepth 100000 in
theorem InF.on {w w' : World} (hb : Below w.heap.size w w') : ∀ {f : Nat} {t : T}, InF w f t → InF w' f t := by
  intro f
  induction f with
  | zero => intro t _; exact trivial
  | succ f ih =>
    intro t h
    refine ⟨h.1, fun h0 => ?_, fun j hj => ih (h.2.2 j hj)⟩
    obtain ⟨b, o, ha, hat⟩ := h.2.1 h0
    exact ⟨b, o, ha, fun j hj => (hat j hj).on hb⟩
/-- The item has what its kind has, and nothing else. -/
def keepsB (k n : Int) (s : ByteArray) (m : Nat) : Bool :=
  if k = 1 then s.toList.isEmpty && decide (m = 0)
  else if k = 2 then decide (n = 0) && decide (m = 0)
  else if k = 3 then decide (n = 0) && s.toList.isEmpty
  else false
def T.keeps (t : T) : Bool := keepsB t.k t.n t.s t.l.length
set_option maxRecDepth 100000 in
theorem len_zero (m : Nat) : ((m : Int) == 0) = decide (m = 0) := by rw [Bool.eq_iff_iff]; simp
theorem ret_bool {a b : Bool} (h : a = b) : Ending.returned (.bool a) = .returned (.bool b) := by rw [h]
set_option maxRecDepth 100000 in
set_option maxHeartbeats 400000 in
theorem keeps_at (k n : Int) (s : ByteArray) (a : Option Addr) (m cap : Nat) (w : World) :
    Calls Tryd.prog 74 #[.agg #[.int .i64 k, .int .u64 n, .string s, .slice a m cap]] w fun e w' => e = .returned (.bool (keepsB k n s m)) ∧ Below w.heap.size w w' := by
  unfold keepsB
  by_cases h1 : k = 1
  · subst h1
    rw [if_pos rfl]
    by_cases h2 : s.toList = []
    · have h2' : s.toList.isEmpty = true := by rw [h2]; rfl
      rw [h2']
      go_enter Tryd.func74, Tryd.ntmps74
      go_wp2_with fail
      go_ret
      exact ⟨ret_bool (len_zero m), (Below.refl _ _).alloc (Nat.le_refl _) _⟩
    · have h2' : s.toList.isEmpty = false := by simp [h2]
      rw [h2']
      go_enter Tryd.func74, Tryd.ntmps74
      go_wp2_with fail
      go_ret
      exact ⟨rfl, (Below.refl _ _).alloc (Nat.le_refl _) _⟩
  · rw [if_neg h1]
    have h1' : (k == 1) = false := beq_eq_false_iff_ne.2 h1
    by_cases h2 : k = 2
    · subst h2
      rw [if_pos rfl]
      by_cases h0 : n = 0
      · rw [decide_eq_true h0]
        go_enter Tryd.func74, Tryd.ntmps74
        go_wp2_with fail
        go_ret
        exact ⟨ret_bool (len_zero m), (Below.refl _ _).alloc (Nat.le_refl _) _⟩
      · rw [decide_eq_false h0]
        go_enter Tryd.func74, Tryd.ntmps74
        go_wp2_with fail
        go_ret
        exact ⟨rfl, (Below.refl _ _).alloc (Nat.le_refl _) _⟩
    · rw [if_neg h2]
      have h2' : (k == 2) = false := beq_eq_false_iff_ne.2 h2
      by_cases h3 : k = 3
      · subst h3
        rw [if_pos rfl]
        by_cases h0 : n = 0
        · rw [decide_eq_true h0]
          go_enter Tryd.func74, Tryd.ntmps74
          go_wp2_with fail
          go_ret
          exact ⟨rfl, (Below.refl _ _).alloc (Nat.le_refl _) _⟩
        · rw [decide_eq_false h0]
          go_enter Tryd.func74, Tryd.ntmps74
          go_wp2_with fail
          go_ret
          exact ⟨rfl, (Below.refl _ _).alloc (Nat.le_refl _) _⟩
      · rw [if_neg h3]
        have h3' : (k == 3) = false := beq_eq_false_iff_ne.2 h3
        go_enter Tryd.func74, Tryd.ntmps74
        go_wp2_with fail
        go_ret
        exact ⟨rfl, (Below.refl _ _).alloc (Nat.le_refl _) _⟩
set_option maxRecDepth 100000 in
theorem keeps_any (t : T) (w : World) : Calls Tryd.prog 74 #[t.val] w fun e w' => e = .returned (.bool t.keeps) ∧ Below w.heap.size w w' := keeps_at _ _ _ _ _ _ w
/-- An item of no kind. -/
def T.zero : T := .mk 0 0 ⟨#[]⟩ none 0 []
/-- The member at a place. -/
def T.m (t : T) (j : Nat) : T := t.l.getD j T.zero
set_option maxRecDepth 100000 in
theorem T.m_eq (t : T) (j : Nat) (h : j < t.l.length) : t.l[j] = t.m j := by
  unfold T.m
  simp [List.getD, List.getElem?_eq_getElem h]
end Go.Proofs.YtchmiiclogmheaaDoor.C2
namespace Go.Proofs.YtchmiiclogmheaaDoor.C2
open Go.RowKit
set_option maxRecDepth 100000 in
set_option maxHeartbeats 400000 in
theorem check_deep (v : Value) (w : World) (k n : Int) (s : ByteArray) (a : Option Addr) (m cap : Nat) (hv : v = .agg #[.int .i64 k, .int .u64 n, .string s, .slice a m cap]) :
    Calls Tryd.prog 50 #[v, .int .i64 9] w fun e w' => e = .returned (.int .i64 21) ∧ Below w.heap.size w w' := by
  subst hv
  go_enter Tryd.func50, Tryd.ntmps50
  go_wp2_with fail
  go_ret
  exact ⟨rfl, (Below.refl _ _).alloc (Nat.le_refl _) _⟩
set_option maxRecDepth 100000 in
set_option maxHeartbeats 400000 in
theorem check_kind (d : Int) (hd : d ≤ 8) (w : World) (k n : Int) (s : ByteArray) (a : Option Addr) (m cap : Nat) (hk : keepsB k n s m = false) :
    Calls Tryd.prog 50 #[.agg #[.int .i64 k, .int .u64 n, .string s, .slice a m cap], .int .i64 d] w fun e w' => e = .returned (.int .i64 20) ∧ Below w.heap.size w w' := by
  have hd' : ¬ 8 < d := by omega
  have hkk := fun w => keeps_at k n s a m cap w
  rw [hk] at hkk
  have HK := Lib.hid hkk
  clear hkk hk
  go_enter Tryd.func50, Tryd.ntmps50
  go_wp2_with fail
  refine (HK.out _).mono ?_
  rintro e w1 ⟨rfl, hb⟩
  go_wp2_with fail
  go_ret
  exact ⟨rfl, ((Below.refl _ _).alloc (Nat.le_refl _) _).trans (hb.mono (by simp))⟩
set_option maxRecDepth 100000 in
theorem bcell4 {w w1 : World} {a b c d : Value} {t : TypeId} {B : Nat} (hb : Below B (w.alloc (.cells #[a, b, c, d] t)) w1) (hB : w.heap.size < B) : w1.cell? ⟨w.heap.size, 0, none⟩ = some a ∧ w1.cell? ⟨w.heap.size, 1, none⟩ = some b ∧ w1.cell? ⟨w.heap.size, 2, none⟩ = some c ∧ w1.cell? ⟨w.heap.size, 3, none⟩ = some d := by
  refine ⟨?_, ?_, ?_, ?_⟩
  · rw [hb.cell hB]; simp
  · rw [hb.cell hB]; simp
  · rw [hb.cell hB]; simp
  · rw [hb.cell hB]; simp
set_option maxRecDepth 100000 in
set_option maxHeartbeats 400000 in
theorem check_long (d : Int) (hd : d ≤ 8) (w : World) (k n : Int) (s : ByteArray) (a : Option Addr) (m cap : Nat) (hk : keepsB k n s m = true) (hm : 16384 < m) (hm' : m ≤ 140737488355328) :
    Calls Tryd.prog 50 #[.agg #[.int .i64 k, .int .u64 n, .string s, .slice a m cap], .int .i64 d] w fun e w' => e = .returned (.int .i64 2) ∧ Below w.heap.size w w' := by
  have hd' : ¬ 8 < d := by omega
  have hm2 : (16384 : Int) < m := by omega
  have hkk := fun w => keeps_at k n s a m cap w
  rw [hk] at hkk
  have HK := Lib.hid hkk
  clear hkk hk
  go_enter Tryd.func50, Tryd.ntmps50
  go_wp2_with fail
  refine (HK.out _).mono ?_
  rintro e w1 ⟨rfl, hb⟩
  obtain ⟨c0, c1, c2, c3⟩ := bcell4 hb (by simp)
  go_wp2_with fail
  go_ret
  exact ⟨rfl, ((Below.refl _ _).alloc (Nat.le_refl _) _).trans (hb.mono (by simp))⟩
/-- The first of so many numbers that is not 0, or 0. -/
def firstE (E : Nat → Int) : Nat → Int
  | 0 => 0
  | m + 1 => if firstE E m = 0 then E m else firstE E m
set_option maxRecDepth 100000 in
theorem firstE_stop (E : Nat → Int) {j m : Nat} (h0 : firstE E j = 0) (hE : E j ≠ 0) (h : j < m) : firstE E m = E j := by
  induction m with
  | zero => omega
  | succ m ih =>
    unfold firstE
    by_cases e : j = m
    · subst e; rw [if_pos h0]
    · rw [ih (by omega), if_neg hE]
set_option maxRecDepth 100000 in
theorem firstE_congr {E F : Nat → Int} {m : Nat} (h : ∀ j, j < m → E j = F j) : firstE E m = firstE F m := by
  induction m with
  | zero => rfl
  | succ m ih => unfold firstE; rw [ih (fun j hj => h j (by omega)), h m (by omega)]
set_option maxRecDepth 100000 in
set_option maxHeartbeats 400000 in
theorem check_step (d : Int) (hd0 : 0 ≤ d) (hd : d ≤ 8) (w : World) (k n : Int) (s : ByteArray) (a : Option Addr) (b o m cap : Nat) (ha : 0 < m → a = some ⟨b, o, none⟩) (hk : keepsB k n s m = true) (hm : m ≤ 16384)
    (K NN : Nat → Int) (S : Nat → ByteArray) (A : Nat → Option Addr) (M C : Nat → Nat) (E : Nat → Int)
    (hc : ∀ j, j < m → w.cell? ⟨b, o + j * 4, none⟩ = some (.int .i64 (K j)) ∧ w.cell? ⟨b, o + j * 4 + 1, none⟩ = some (.int .u64 (NN j)) ∧ w.cell? ⟨b, o + j * 4 + 2, none⟩ = some (.string (S j)) ∧ w.cell? ⟨b, o + j * 4 + 3, none⟩ = some (.slice (A j) (M j) (C j)))
    (H : ∀ j, j < m → ∀ w', Below w.heap.size w w' → Calls Tryd.prog 50 #[.agg #[.int .i64 (K j), .int .u64 (NN j), .string (S j), .slice (A j) (M j) (C j)], .int .i64 (d + 1)] w' fun e w'' => e = .returned (.int .i64 (E j)) ∧ Below w'.heap.size w' w'') :
    Calls Tryd.prog 50 #[.agg #[.int .i64 k, .int .u64 n, .string s, .slice a m cap], .int .i64 d] w fun e w' => e = .returned (.int .i64 (firstE E m)) ∧ Below w.heap.size w w' := by
  have hd' : ¬ 8 < d := by omega
  have hm2 : ¬ (16384 : Int) < m := by omega
  have hkk := fun w => keeps_at k n s a m cap w
  rw [hk] at hkk
  have HK := Lib.hid hkk
  have HH := Lib.hid H
  have HC := Lib.hid hc
  clear hkk hk H hc
  go_enter Tryd.func50, Tryd.ntmps50
  go_wp2_with fail
  refine (HK.out _).mono ?_
  rintro e w1 ⟨rfl, hb⟩
  obtain ⟨c0, c1, c2, c3⟩ := bcell4 hb (by simp)
  have hb1 : Below w.heap.size w w1 := ((Below.refl _ _).alloc (Nat.le_refl _) _).trans (hb.mono (by simp))
  clear hb
  go_wp2_with fail
  go_loopw [23] (fun i wr => ∃ (j : Nat), j ≤ m ∧ i = .int .i64 j ∧ Hid (firstE E j = 0) ∧ Below w.heap.size w wr) (fun i _ => m - (intOf i).toNat)
  case atStart => exact ⟨0, Nat.zero_le _, rfl, rfl, hb1⟩
  case round =>
    clear c0 c1 c2 c3
    obtain ⟨j, hj, rfl, HF, hbel⟩ := hrel
    by_cases hlt : j < m
    · obtain ⟨p0, p1, p2, p3⟩ := HC.out j hlt
      have hbl : b < w.heap.size := World.block_lt_of_cell? w _ p0
      have q0 := (hbel.cell (p := ⟨b, o + j * 4, none⟩) hbl).trans p0
      have q1 := (hbel.cell (p := ⟨b, o + j * 4 + 1, none⟩) hbl).trans p1
      have q2 := (hbel.cell (p := ⟨b, o + j * 4 + 2, none⟩) hbl).trans p2
      have q3 := (hbel.cell (p := ⟨b, o + j * 4 + 3, none⟩) hbl).trans p3
      clear p0 p1 p2 p3
      have ha' := ha (by omega)
      subst ha'
      have hsz := hbel.size
      go_wp2_with fail
      refine (HH.out j hlt _ (hbel.alloc hsz _)).mono ?_
      rintro e w2 ⟨rfl, hb2⟩
      have hb3 : Below w.heap.size w w2 := (hbel.alloc hsz _).trans (hb2.mono (by simp; omega))
      clear hb2
      by_cases hE : E j = 0
      · have HF2 : Hid (firstE E (j + 1) = 0) := by
          show _ = _
          unfold firstE
          rw [if_pos HF.out]; exact hE
        rw [hE]
        clear hE
        go_wp2_with fail
        exact ⟨⟨j + 1, by omega, by go_num, HF2, hb3⟩, by simp [intOf]; omega⟩
      · have HE : Hid (firstE E m = E j) := firstE_stop E HF.out hE hlt
        have hE' : (E j == 0) = false := beq_eq_false_iff_ne.2 hE
        clear hE
        go_wp2_with fail
        go_ret
        exact ⟨ret_int (by rw [HE.out]), hb3⟩
    · have hjm : j = m := by omega
      have HE : Hid (firstE E m = 0) := by rw [← hjm]; exact HF
      clear hjm
      go_wp2_with fail
      go_ret
      exact ⟨ret_int (by rw [HE.out]), hbel⟩
/-- What is wrong with an item: so many levels may be. -/
def wrongF : Nat → T → Int
  | 0, _ => 21
  | f + 1, t => if t.keeps = false then 20 else if 16384 < t.l.length then 2 else firstE (fun j => wrongF f (t.m j)) t.l.length
set_option maxRecDepth 100000 in
theorem InF.mem {w : World} {f : Nat} {t : T} (h : InF w (f + 1) t) {j : Nat} (hj : j < t.l.length) : InF w f (t.m j) := by
  rw [← T.m_eq t j hj]; exact h.2.2 j hj
theorem InF.cells {w : World} {f : Nat} {t : T} (h : InF w (f + 1) t) : ∃ b o, (0 < t.l.length → t.a = some ⟨b, o, none⟩) ∧ ∀ j, j < t.l.length → (t.m j).at w b (o + j * 4) := by
  by_cases h0 : 0 < t.l.length
  · obtain ⟨b, o, ha, hat⟩ := h.2.1 h0
    exact ⟨b, o, fun _ => ha, fun j hj => by rw [← T.m_eq t j hj]; exact hat j hj⟩
  · exact ⟨0, 0, fun h => absurd h h0, fun j hj => absurd hj (by omega)⟩
set_option maxRecDepth 100000 in
theorem check_any (f : Nat) : f ≤ 8 → ∀ (t : T) (w : World), InF w f t →
    Calls Tryd.prog 50 #[t.val, .int .i64 (9 - (f : Int))] w fun e w' => e = .returned (.int .i64 (wrongF f t)) ∧ Below w.heap.size w w' := by
  induction f with
  | zero => intro _ t w _; exact check_deep _ w _ _ _ _ _ _ rfl
  | succ f ih =>
    intro hf t w hin
    unfold wrongF
    by_cases hk : t.keeps = false
    · rw [if_pos hk]
      exact check_kind _ (by omega) w _ _ _ _ _ _ hk
    · rw [if_neg hk]
      have hk' : keepsB t.k t.n t.s t.l.length = true := by
        cases h : t.keeps
        · exact absurd h hk
        · exact h
      by_cases hm : 16384 < t.l.length
      · rw [if_pos hm]
        exact check_long _ (by omega) w _ _ _ _ _ _ hk' hm hin.1.2.2.2
      · rw [if_neg hm]
        obtain ⟨b, o, ha, hat⟩ := hin.cells
        refine check_step _ (by omega) (by omega) w _ _ _ _ b o _ _ ha hk' (by omega) (fun j => (t.m j).k) (fun j => (t.m j).n) (fun j => (t.m j).s) (fun j => (t.m j).a) (fun j => (t.m j).l.length) (fun j => (t.m j).cap) _ hat ?_
        intro j hj w' hb
        have h := ih (by omega) (t.m j) w' ((hin.mem hj).on hb)
        rw [show (9 - ((f + 1 : Nat) : Int)) + 1 = 9 - (f : Int) by omega]
        exact h
end Go.Proofs.YtchmiiclogmheaaDoor.C2
