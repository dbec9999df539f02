/-
  Lists of numbers: the book's SameInts, LendInts and KeptInts.
-/
import Derived.Test.YtlbkmhlpgpfafaaRg
import Derived.Test.YtlbkmhlpgpfafaaAll
namespace Go.Proofs.Ytlbkmhlpgpfafaa
namespace K
open Go.RowKit Go.Joins
theorem info3 : (Try.prog.info? 3).map (fun i => (i.zero, i.size, i.bytes)) = some (some (.int .i64 0), 1, 8) := by kernel_rfl
/-- Numbers as cells. -/
def cellsI (l : List Int) : List Value := l.map (Value.int .i64)
theorem cellsI_len (l : List Int) : (cellsI l).length = l.length := by unfold cellsI; simp
theorem cellsI_getD (xs : List Int) (k : Nat) (h : k < xs.length) : (cellsI xs)[k]? = some (.int .i64 (xs.getD k 0)) := by
  unfold cellsI
  simp [List.getD, List.getElem?_eq_getElem h]
theorem one_new (w : World) (x : Int) : ∀ j u, [Value.int .i64 x][j]? = some u → (w.alloc (.cells #[.int .i64 x] 3)).cell? ((⟨w.heap.size, 0, none⟩ : Addr).add j) = some u := by
  intro j u hu
  match j, hu with
  | 0, hu => simp at hu; subst hu; simp [Addr.add]
theorem own_base {w : World} {base base' : Nat} {e : TypeId} {size : Nat} {v : Value} {n : Nat} {xs : List Value} (h : w.ownsRow base e size v n xs) (hb : base' ≤ base) : w.ownsRow base' e size v n xs := by
  refine ⟨h.1, ?_⟩
  rcases h.2 with h' | ⟨g, c, cur, h1, h2, h3⟩
  · exact Or.inl h'
  · exact Or.inr ⟨g, c, cur, h1, Nat.le_trans hb h2, h3⟩
theorem own_shape {w : World} {base : Nat} {e : TypeId} {size : Nat} {v : Value} {n : Nat} {xs : List Value} (h : w.ownsRow base e size v n xs) (hn : v ≠ .slice none 0 0) : ∃ g c, v = .slice (some ⟨g, 0, none⟩) n c ∧ base ≤ g ∧ n ≤ c ∧ g < w.heap.size ∧ c ≤ 9223372036854775807 := by
  rcases h.2 with ⟨h', _⟩ | ⟨g, c, cur, h', hb, hg, hnc, hm, _⟩
  · exact absurd h' hn
  · exact ⟨g, c, h', hb, hnc, lt_of_block hg, hm⟩
/-- Numbers of a slice lie so in memory. -/
def Ints (w : World) (a : Option Addr) (xs : List Int) : Prop :=
  xs = [] ∨ ∃ b o, a = some ⟨b, o, none⟩ ∧ b < w.heap.size ∧ ∀ j, j < xs.length → w.cell? ⟨b, o + j, none⟩ = some (.int .i64 (xs.getD j 0))
theorem Ints.on {w w' : World} {a : Option Addr} {xs : List Int} (h : Ints w a xs) (hb : Below w.heap.size w w') : Ints w' a xs := by
  rcases h with h | ⟨b, o, rfl, hl, hc⟩
  · exact Or.inl h
  · exact Or.inr ⟨b, o, rfl, Nat.lt_of_lt_of_le hl hb.size, fun j hj => (hb.cell (p := ⟨b, o + j, none⟩) hl).trans (hc j hj)⟩
theorem ints_own {w : World} {B : Nat} {a : Option Addr} {c : Nat} {xs : List Int} (h : w.ownsRow B 3 1 (.slice a xs.length c) xs.length (cellsI xs)) : Ints w a xs := by
  by_cases h0 : xs = []
  · exact Or.inl h0
  · rcases h.2 with ⟨_, h'⟩ | ⟨g, c', cur, h', hb, hg, hnc, hm, _⟩
    · exact absurd (List.eq_nil_of_length_eq_zero h') h0
    · injection h' with e1 e2 e3
      subst e1
      refine Or.inr ⟨g, 0, rfl, lt_of_block hg, fun j hj => ?_⟩
      rw [Nat.zero_add, World.ownsRow.cellAt h j (by omega), cellsI_getD xs j hj]
theorem Ints.get {w : World} {a : Option Addr} {xs : List Int} (h : Ints w a xs) : ∃ b o, 0 < xs.length → a = some ⟨b, o, none⟩ ∧ b < w.heap.size ∧ ∀ j, j < xs.length → w.cell? ⟨b, o + j, none⟩ = some (.int .i64 (xs.getD j 0)) := by
  rcases h with rfl | ⟨b, o, h⟩
  · exact ⟨0, 0, fun h => absurd h (by simp)⟩
  · exact ⟨b, o, fun _ => h⟩
set_option maxHeartbeats 400000 in
theorem sameInts_any (a a' : Option Addr) (cap cap' : Nat) (xs : List Int) (w : World) (hlen : xs.length ≤ 9223372036854775807) (hr : Ints w a xs) (hr' : Ints w a' xs) :
    Calls Try.prog 51 #[.slice a xs.length cap, .slice a' xs.length cap'] w fun e w' => e = .returned (.bool true) ∧ Below w.heap.size w w' := by
  obtain ⟨b, o, hab⟩ := hr.get
  obtain ⟨b', o', hab'⟩ := hr'.get
  go_enter Try.func51, Try.ntmps51
  go_wp2_with fail
  go_loopw [5] (fun i wr => ∃ k n : Nat, k ≤ xs.length ∧ i = .int .i64 k ∧ wr = w.drewN n) (fun i _ => xs.length - (intOf i).toNat)
  case atStart => exact ⟨0, 0, Nat.zero_le _, rfl, rfl⟩
  case round =>
    obtain ⟨k, n, hk, rfl, rfl⟩ := hrel
    by_cases hlt : k < xs.length
    · obtain ⟨rfl, _, hc⟩ := hab (by omega)
      obtain ⟨rfl, _, hc'⟩ := hab' (by omega)
      have c1 := hc k hlt
      have c2 := hc' k hlt
      clear hc hc'
      generalize xs.getD k 0 = x at *
      go_wp2_with fail
      go_quiet (fail)
      go_wp2_with fail
      exact ⟨⟨k + 1, _, by omega, by go_num, rfl⟩, by simp [intOf]; omega⟩
    · go_wp2_with fail
      go_ret
      exact ⟨rfl, below_drewN (Below.refl _ _) _⟩
/-- Numbers that are lent. -/
def LentI (w w' : World) (e : Ending) (xs : List Int) : Prop :=
  ∃ g c, e = .returned (.slice (some ⟨g, 0, none⟩) xs.length c) ∧ xs.length < c ∧ c ≤ 9223372036854775807 ∧ w'.ownsRow w.heap.size 3 1 (.slice (some ⟨g, 0, none⟩) (xs.length + 1) c) (xs.length + 1) (cellsI (xs ++ [-77])) ∧ Below w.heap.size w w'
theorem one_i (xs : List Int) : ∀ u ∈ cellsI xs, u.oneCell' = true := by
  intro u hu
  unfold cellsI at hu
  obtain ⟨x, _, rfl⟩ := List.mem_map.1 hu
  rfl
theorem ints_news {w : World} {ad : Addr} {xs : List Int} (h : Ints w (some ad) xs) (o : Obj) : ∀ j u, (cellsI xs)[j]? = some u → (w.alloc o).cell? (ad.add j) = some u := by
  intro j u hu
  rcases h with rfl | ⟨b, o', hab, hl, hc⟩
  · simp [cellsI] at hu
  · cases hab
    have hj : j < xs.length := by
      rcases Nat.lt_or_ge j xs.length with h' | h'
      · exact h'
      · rw [List.getElem?_eq_none (by rw [cellsI_len]; exact h')] at hu; cases hu
    rw [cellsI_getD xs j hj] at hu
    rw [Go.WideShapes.add_plain]
    exact ((((Below.refl w.heap.size w).alloc (Nat.le_refl _) o).cell (p := ⟨b, o' + j, none⟩) hl).trans (hc j hj)).trans hu
theorem mark_i (w : World) : ∀ j u, (cellsI [-77])[j]? = some u → (w.alloc (.cells #[.int .i64 (-77)] 3)).cell? ((⟨w.heap.size, 0, none⟩ : Addr).add j) = some u := one_new w (-77)
theorem cellsI_append (a b : List Int) : cellsI (a ++ b) = cellsI a ++ cellsI b := by simp [cellsI]
set_option maxRecDepth 100000 in
set_option maxHeartbeats 1600000 in
theorem lendI_some (ad : Addr) (xs : List Int) (cap : Nat) (w : World) (hlen : xs.length * 8 ≤ 140737488351232) (hr : Ints w (some ad) xs) :
    Calls Try.prog 32 #[.slice (some ad) xs.length cap] w fun e w' => LentI w w' e xs := by
  obtain ⟨i0, hi, hz0, hz1, hz2⟩ := info_parts info3
  have HN := Lib.hid (ints_news hr (.cells #[] 3))
  have HL := Lib.hid (cellsI_len xs)
  have HA : Hid (cellsI xs ++ cellsI [-77] = cellsI (xs ++ [-77])) := (cellsI_append xs [-77]).symm
  have hown0 := World.ownsRow_lit (base := w.heap.size) (e := 3) (size := 1) w #[] 0 (Nat.le_refl _) (by decide) rfl
  go_enter Try.func32, Try.ntmps32
  go_wp2_with (first
    | (at_builtin; refine wpList_append_own _ rfl (.tmp 4) (.tmp 5) 29 rfl w.heap.size 3 i0 _ 1 8 Try.underlying29 hi hz0 hz1 hz2 rfl (by decide) (.slice (some ⟨w.heap.size, 0, none⟩) 0 0) 0 [] rfl hown0 ad xs.length cap (cellsI xs) rfl (by rw [HL.out]; omega) HN.out (one_i xs) (by unfold maxLen; omega) (by omega) (by simp) ?_; intro v1 w1 hown1 hgrow1 hnil1; obtain ⟨g1', c1, hv1, hg1, hc1, hs1, hm1⟩ := own_shape hown1 (fun e => by have := hnil1.1 e; simp at this); rw [hv1] at hown1 ⊢; clear hnil1 hv1; simp only [Nat.zero_add, List.nil_append] at hown1 hc1 ⊢)
    | (at_builtin; refine wpList_append_own _ rfl (.tmp 7) (.tmp 8) 29 rfl w.heap.size 3 i0 _ 1 8 Try.underlying29 hi hz0 hz1 hz2 rfl (by decide) (.slice (some ⟨g1', 0, none⟩) xs.length c1) xs.length (cellsI xs) rfl (hown1.alloc _) ⟨w1.heap.size, 0, none⟩ 1 1 (cellsI [-77]) rfl rfl (mark_i w1) (one_i _) (by unfold maxLen; omega) (by omega) (by simp; omega) ?_; intro v2 w2 hown2 hgrow2 hnil2; obtain ⟨g2, c2, hv2, hg2, hc2, hs2, hm2⟩ := own_shape hown2 (fun e => by have := hnil2.1 e; simp at this); rw [hv2] at hown2 ⊢; clear hnil2 hv2))
  have b1 : Below w.heap.size w w1 := ((Below.refl w.heap.size w).alloc (Nat.le_refl _) _).grown hgrow1 (by simp) (by intro k hk; cases hk; exact Nat.le_refl _)
  have b2 : Below w.heap.size w w2 := (b1.alloc b1.size _).grown hgrow2 (by have := b1.size; simp; omega) (by intro k hk; cases hk; exact hg1)
  rw [HA.out] at hown2
  have k1 : (xs.length : Int) ≤ (c2 : Int) := by omega
  have k2 : (0 : Int) ≤ (xs.length : Int) := by omega
  have HO := Lib.hid hown2
  clear hown1 hgrow1 hgrow2 hown0 HN hown2
  go_wp2_with fail
  go_ret
  exact ⟨g2, c2, rfl, by omega, hm2, HO.out, b2⟩
set_option maxRecDepth 100000 in
set_option maxHeartbeats 1600000 in
theorem lendI_none (w : World) :
    Calls Try.prog 32 #[.slice none 0 0] w fun e w' => LentI w w' e [] := by
  obtain ⟨i0, hi, hz0, hz1, hz2⟩ := info_parts info3
  have hown0 := World.ownsRow_lit (base := w.heap.size) (e := 3) (size := 1) w #[] 0 (Nat.le_refl _) (by decide) rfl
  have hmk := mark_i (w.alloc (.cells #[] 3))
  rw [show (w.alloc (.cells #[] 3)).heap.size = w.heap.size + 1 by simp] at hmk
  have HMK := Lib.hid hmk
  clear hmk
  go_enter Try.func32, Try.ntmps32
  go_wp2_with (first
    | (at_builtin; refine wpList_append_own_none rfl (.tmp 4) (.tmp 5) 29 rfl w.heap.size 3 i0 1 Try.underlying29 hi (.slice (some ⟨w.heap.size, 0, none⟩) 0 0) 0 [] rfl hown0 rfl ?_)
    | (at_builtin; refine wpList_append_own _ rfl (.tmp 7) (.tmp 8) 29 rfl w.heap.size 3 i0 _ 1 8 Try.underlying29 hi hz0 hz1 hz2 rfl (by decide) (.slice (some ⟨w.heap.size, 0, none⟩) 0 0) 0 [] rfl (hown0.alloc _) ⟨w.heap.size + 1, 0, none⟩ 1 1 (cellsI [-77]) rfl rfl HMK.out (one_i _) (by decide) (by decide) (by simp; omega) ?_; intro v2 w2 hown2 hgrow2 hnil2; obtain ⟨g2, c2, hv2, hg2, hc2, hs2, hm2⟩ := own_shape hown2 (fun e => by have := hnil2.1 e; simp at this); rw [hv2] at hown2 ⊢; clear hnil2 hv2; simp only [Nat.zero_add] at hown2 hc2 ⊢))
  have b2 : Below w.heap.size w w2 := (((Below.refl w.heap.size w).alloc (Nat.le_refl _) _).alloc (by simp) _).grown hgrow2 (by simp; omega) (by intro k hk; cases hk; exact Nat.le_refl _)
  have k1 : (0 : Int) ≤ (c2 : Int) := by omega
  have HO := Lib.hid hown2
  clear hgrow2 hown0 HMK hown2
  go_wp2_with fail
  go_ret
  exact ⟨g2, c2, rfl, by show 0 < c2; omega, hm2, HO.out, b2⟩
theorem lendI_any (a : Option Addr) (xs : List Int) (cap : Nat) (w : World) (hlen : xs.length * 8 ≤ 140737488351232) (hn : a = none → xs = [] ∧ cap = 0) (hr : Ints w a xs) :
    Calls Try.prog 32 #[.slice a xs.length cap] w fun e w' => LentI w w' e xs := by
  match a, hn, hr with
  | none, hn, _ =>
    obtain ⟨e1, e2⟩ := hn rfl
    subst e1 e2
    exact lendI_none w
  | some ad, _, hr => exact lendI_some ad xs cap w hlen hr
/-- They stand still. -/
def StillI (w : World) (g : Nat) (xs : List Int) : Prop := g < w.heap.size ∧ ∀ j, j < xs.length + 1 → w.cell? ⟨g, j, none⟩ = some (.int .i64 ((xs ++ [-77]).getD j 0))
theorem stillI_own {w : World} {B g c : Nat} {xs : List Int} (h : w.ownsRow B 3 1 (.slice (some ⟨g, 0, none⟩) (xs.length + 1) c) (xs.length + 1) (cellsI (xs ++ [-77]))) : StillI w g xs := by
  refine ⟨(h.lt g rfl).2, fun j hj => ?_⟩
  rw [World.ownsRow.cellAt h j (by omega), cellsI_getD _ j (by simp; omega)]
theorem StillI.on {w w' : World} {g : Nat} {xs : List Int} (h : StillI w g xs) (hb : Below w.heap.size w w') : StillI w' g xs := ⟨Nat.lt_of_lt_of_le h.1 hb.size, fun j hj => (hb.cell (p := ⟨g, j, none⟩) h.1).trans (h.2 j hj)⟩
theorem StillI.ints {w : World} {g : Nat} {xs : List Int} (h : StillI w g xs) : Ints w (some ⟨g, 0, none⟩) xs := by
  refine Or.inr ⟨g, 0, rfl, h.1, fun j hj => ?_⟩
  rw [Nat.zero_add, h.2 j (by omega)]
  simp [List.getD, List.getElem?_append_left hj]
theorem StillI.mark {w : World} {g : Nat} {xs : List Int} (h : StillI w g xs) : w.cell? ⟨g, xs.length, none⟩ = some (.int .i64 (-77)) := by
  rw [h.2 _ (by omega)]
  simp [List.getD]
set_option maxHeartbeats 800000 in
theorem keptI_any (g c : Nat) (a : Option Addr) (xs : List Int) (cap : Nat) (w : World) (hlen : xs.length * 8 ≤ 140737488351232) (hc : xs.length < c) (hs : StillI w g xs) (hr : Ints w a xs) :
    Calls Try.prog 34 #[.slice (some ⟨g, 0, none⟩) xs.length c, .slice a xs.length cap] w fun e w' => e = .returned (.bool true) ∧ Below w.heap.size w w' := by
  have HS := Lib.hid (sameInts_any (some ⟨g, 0, none⟩) a c cap xs w (by omega) hs.ints hr)
  have HST := Lib.hid hs
  have i1 : (xs.length : Int) + 1 ≤ (c : Int) := by omega
  have i2 : xs.length + 1 ≤ c := by omega
  have i3 : (0 : Int) ≤ (xs.length : Int) + 1 := by omega
  have i4 : IntKind.i64.wrap ((xs.length : Int) + 1) = (xs.length : Int) + 1 := by rw [IntKind.wrap_i64]; omega
  have i5 : (xs.length : Int) < (xs.length : Int) + 1 := by omega
  have i6 : ((xs.length : Int) + 1).toNat = xs.length + 1 := by omega
  clear hs hr
  go_enter Try.func34, Try.ntmps34
  go_wp2_with fail
  refine HS.out.mono ?_
  rintro e w1 ⟨rfl, hb1⟩
  have m0 := (HST.out.on hb1).mark
  go_wp2_with fail
  go_ret
  exact ⟨rfl, hb1⟩
end K
end Go.Proofs.Ytlbkmhlpgpfafaa
