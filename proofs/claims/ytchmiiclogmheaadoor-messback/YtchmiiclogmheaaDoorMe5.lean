/-
  Lists of items, as they are made and filled; numbers, lists of numbers.
-/
import Derived.Test.YtchmiiclogmheaaDoorMe4
import Derived.Laws.MakeOwn
namespace Go.Proofs.YtchmiiclogmheaaDoor.C2
open Go.RowKit
def TbV (w : World) (b n : Nat) (ty : TypeId) (V : Nat → Value) : Prop := w.heap[b]? = some (.cells ((List.range n).map V).toArray ty (0, 0))
theorem TbV.lt {w : World} {b n : Nat} {ty : TypeId} {V : Nat → Value} (h : TbV w b n ty V) : b < w.heap.size := lt_of_block h
theorem TbV.same {w w' : World} {b n : Nat} {ty : TypeId} {V : Nat → Value} (h : TbV w b n ty V) (hs : w'.heap[b]? = w.heap[b]?) : TbV w' b n ty V := hs.trans h
theorem TbV.cell {w : World} {b n : Nat} {ty : TypeId} {V : Nat → Value} (h : TbV w b n ty V) {v : Nat} (hv : v < n) : w.cell? ⟨b, v, none⟩ = some (V v) := by
  unfold TbV at h
  simp [World.cell?, h, hv]
theorem TbV.free {w : World} {b n : Nat} {ty : TypeId} {V : Nat → Value} (h : TbV w b n ty V) (v : Nat) : w.frozen? ⟨b, v, none⟩ = false := by
  unfold TbV at h
  simp [World.frozen?, h]
theorem TbV.congr {w : World} {b n : Nat} {ty : TypeId} {V U : Nat → Value} (h : TbV w b n ty V) (e : ∀ v, v < n → V v = U v) : TbV w b n ty U := by
  unfold TbV at *
  rw [h]
  congr 3
  apply List.map_congr_left
  intro v hv
  rw [e v (by simpa using hv)]
def updV (V : Nat → Value) (x : Nat) (d : Value) : Nat → Value := fun y => if y = x then d else V y
theorem updV_self (V : Nat → Value) (x : Nat) (d : Value) : updV V x d x = d := by simp [updV]
theorem updV_ne (V : Nat → Value) {x y : Nat} (d : Value) (h : y ≠ x) : updV V x d y = V y := by simp [updV, h]
theorem tabV_set (n : Nat) (V : Nat → Value) (v : Nat) (x : Value) : ((List.range n).map V).toArray.setIfInBounds v x = ((List.range n).map (updV V v x)).toArray := by
  apply Array.ext'
  simp only [Array.toList_setIfInBounds]
  apply List.ext_getElem?
  intro i
  rw [List.getElem?_set]
  by_cases e : v = i
  · subst e
    by_cases h : v < n
    · simp [h, updV_self]
    · simp [h]
  · rw [if_neg e]
    by_cases h : i < n
    · simp [h, updV_ne V x (fun h : i = v => e h.symm)]
    · simp [h]
theorem TbV.set {w : World} {b n : Nat} {ty : TypeId} {V : Nat → Value} (h : TbV w b n ty V) (v : Nat) (x : Value) : TbV (w.setCell ⟨b, v, none⟩ x) b n ty (updV V v x) := by
  unfold TbV
  rw [heap_setCell_same w b v _ _ _ h, tabV_set]
/-- A number, a list, as items. -/
def nT (x : Int) : T := .mk 1 x ⟨#[]⟩ none 0 []
def lT (a : Option Addr) (c : Nat) (l : List T) : T := .mk 3 0 ⟨#[]⟩ a c l
theorem inS_num {S : Nat → Prop} {w : World} {x : Int} (h0 : 0 ≤ x) (h1 : x ≤ 18446744073709551615) : ∀ f, InS S w f (nT x)
  | 0 => trivial
  | f + 1 => ⟨⟨h0, h1, by show (0 : Nat) ≤ _; omega, by show (0 : Nat) ≤ _; omega⟩, fun h => absurd h (by show ¬ 0 < 0; omega), fun j hj => absurd hj (by show ¬ j < 0; omega)⟩
/-- An item's cells. -/
def T.c4 (t : T) (r : Nat) : Value := if r = 0 then .int .i64 t.k else if r = 1 then .int .u64 t.n else if r = 2 then .string t.s else .slice t.a t.l.length t.cap
/-- Items one behind the other, so many of them filled in. -/
def iF (X : Nat → T) (k i : Nat) : Value := if i / 4 < k then (X (i / 4)).c4 (i % 4) else T.zero.c4 (i % 4)
theorem iF_step (X : Nat → T) (k i : Nat) : updV (updV (updV (updV (iF X k) (k * 4) ((X k).c4 0)) (k * 4 + 1) ((X k).c4 1)) (k * 4 + 2) ((X k).c4 2)) (k * 4 + 3) ((X k).c4 3) i = iF X (k + 1) i := by
  have key : ∀ r, r < 4 → (k * 4 + r) / 4 = k ∧ (k * 4 + r) % 4 = r := fun r hr => by omega
  unfold updV iF
  by_cases h3 : i = k * 4 + 3
  · subst h3
    rw [if_pos rfl, (key 3 (by omega)).1, (key 3 (by omega)).2, if_pos (by omega)]
  · rw [if_neg h3]
    by_cases h2 : i = k * 4 + 2
    · subst h2
      rw [if_pos rfl, (key 2 (by omega)).1, (key 2 (by omega)).2, if_pos (by omega)]
    · rw [if_neg h2]
      by_cases h1 : i = k * 4 + 1
      · subst h1
        rw [if_pos rfl, (key 1 (by omega)).1, (key 1 (by omega)).2, if_pos (by omega)]
      · rw [if_neg h1]
        by_cases h0 : i = k * 4
        · subst h0
          have := key 0 (by omega)
          rw [Nat.add_zero] at this
          rw [if_pos rfl, this.1, this.2, if_pos (by omega)]
        · rw [if_neg h0]
          by_cases h : i / 4 < k
          · rw [if_pos h, if_pos (by omega)]
          · rw [if_neg h, if_neg (by omega)]
theorem info54 : (Tryd.prog.info? 54).map (fun i => (i.zero, i.size, i.bytes)) = some (some (.agg #[.int .i64 0, .int .u64 0, .string ⟨#[]⟩, .slice none 0 0]), 4, 56) := by kernel_rfl
theorem made_items (X : Nat → T) (m : Nat) : madeCells (Value.agg #[.int .i64 0, .int .u64 0, .string ⟨#[]⟩, .slice none 0 0]).cells (m * 4) = ((List.range (m * 4)).map (iF X 0)).toArray := by
  show madeCells #[.int .i64 0, .int .u64 0, .string ⟨#[]⟩, .slice none 0 0] (m * 4) = _
  apply Array.ext'
  unfold madeCells
  rw [Array.toList_map, Array.toList_range]
  refine List.map_congr_left (fun i _ => ?_)
  show (#[Value.int .i64 0, .int .u64 0, .string ⟨#[]⟩, .slice none 0 0] : Array Value)[i % 4]! = _
  unfold iF T.c4 T.zero
  rw [if_neg (by omega)]
  have : i % 4 = 0 ∨ i % 4 = 1 ∨ i % 4 = 2 ∨ i % 4 = 3 := by omega
  rcases this with h | h | h | h <;> rw [h] <;> rfl
/-- A list of items that were filled in lies in memory. -/
theorem inS_list {S : Nat → Prop} {w : World} {g m : Nat} {X : Nat → T} {l : List T} {c : Nat} (h : TbV w g (m * 4) 54 (iF X m)) (hg : S g) (hm8 : m ≤ 140737488355328) (hl : l.length = m) (hX : ∀ j, j < m → X j = l.getD j T.zero) (hI : ∀ j (hj : j < l.length) f, InS S w f l[j]) : ∀ f, InS S w f (lT (some ⟨g, 0, none⟩) c l)
  | 0 => trivial
  | f + 1 => by
    refine ⟨⟨by show (0 : Int) ≤ 0; omega, by show (0 : Int) ≤ _; omega, by show (0 : Nat) ≤ _; omega, by show l.length ≤ _; omega⟩, fun _ => ⟨g, 0, rfl, hg, fun j hj => ?_⟩, fun j hj => hI j hj f⟩
    have hj : j < l.length := hj
    have e : l[j] = X j := by
      rw [hX j (by omega)]
      simp [List.getD, hj]
    show (l[j]).at w g (0 + j * 4)
    rw [e, Nat.zero_add]
    have f : ∀ r, r < 4 → w.cell? ⟨g, j * 4 + r, none⟩ = some ((X j).c4 r) := fun r hr => by
      rw [h.cell (v := j * 4 + r) (by omega)]
      unfold iF
      rw [show (j * 4 + r) / 4 = j by omega, show (j * 4 + r) % 4 = r by omega, if_pos (by omega)]
    exact ⟨f 0 (by omega), f 1 (by omega), f 2 (by omega), f 3 (by omega)⟩
/-- Four cells that were set. -/
theorem four_set {w : World} {p : Nat} {a b c d a' b' c' d' : Value} {t : TypeId} (h : w.heap[p]? = some (.cells #[a, b, c, d] t (0, 0))) : ((((w.setCell ⟨p, 0, none⟩ a').setCell ⟨p, 1, none⟩ b').setCell ⟨p, 2, none⟩ c').setCell ⟨p, 3, none⟩ d').heap[p]? = some (.cells #[a', b', c', d'] t (0, 0)) :=
  heap_setCell_same _ p 3 _ _ d' (heap_setCell_same _ p 2 _ _ c' (heap_setCell_same _ p 1 _ _ b' (heap_setCell_same _ p 0 _ _ a' h)))
theorem four_oth {w : World} {p b : Nat} {a' b' c' d' : Value} (h : b ≠ p) : ((((w.setCell ⟨p, 0, none⟩ a').setCell ⟨p, 1, none⟩ b').setCell ⟨p, 2, none⟩ c').setCell ⟨p, 3, none⟩ d').heap[b]? = w.heap[b]? := by
  rw [Below.heap_setCell _ _ _ _ h, Below.heap_setCell _ _ _ _ h, Below.heap_setCell _ _ _ _ h, Below.heap_setCell _ _ _ _ h]
theorem four_below {w w2 : World} {p q : Nat} {a' b' c' d' : Value} (h : Below p w w2) (hp : p ≤ q) : Below p w ((((w2.setCell ⟨q, 0, none⟩ a').setCell ⟨q, 1, none⟩ b').setCell ⟨q, 2, none⟩ c').setCell ⟨q, 3, none⟩ d') :=
  (((h.setCell (p := ⟨q, 0, none⟩) hp _).setCell (p := ⟨q, 1, none⟩) hp _).setCell (p := ⟨q, 2, none⟩) hp _).setCell (p := ⟨q, 3, none⟩) hp _
theorem cells4 {w : World} {g : Nat} {a b c d : Value} {t : TypeId} (h : w.heap[g]? = some (.cells #[a, b, c, d] t (0, 0))) : (w.cell? ⟨g, 0, none⟩ = some a ∧ w.cell? ⟨g, 1, none⟩ = some b ∧ w.cell? ⟨g, 2, none⟩ = some c ∧ w.cell? ⟨g, 3, none⟩ = some d) ∧ w.frozen? ⟨g, 0, none⟩ = false ∧ w.frozen? ⟨g, 1, none⟩ = false ∧ w.frozen? ⟨g, 2, none⟩ = false ∧ w.frozen? ⟨g, 3, none⟩ = false := by
  simp [World.cell?, World.frozen?, h]
set_option maxRecDepth 100000 in
set_option maxHeartbeats 1600000 in
theorem num_any (x : Int) (w : World) : Calls Tryd.prog 52 #[.int .u64 x] w fun e w' => e = .returned (.agg #[.int .i64 1, .int .u64 x, .string ⟨#[]⟩, .slice none 0 0]) ∧ Below w.heap.size w w' := by
  go_enter Tryd.func52, Tryd.ntmps52
  go_wp2_with fail
  exact bodyPost_ret (v := .agg #[.int .i64 1, .int .u64 x, .string ⟨#[]⟩, .slice none 0 0]) (by simp [results, Tryd.results52, go_sem]) rfl ⟨rfl, (Below.refl _ _).alloc (Nat.le_refl _) _⟩
set_option maxRecDepth 100000 in
set_option maxHeartbeats 1600000 in
theorem list_any (a : Option Addr) (n c : Nat) (w : World) : Calls Tryd.prog 54 #[.slice a n c] w fun e w' => e = .returned (.agg #[.int .i64 3, .int .u64 0, .string ⟨#[]⟩, .slice a n c]) ∧ Below w.heap.size w w' := by
  go_enter Tryd.func54, Tryd.ntmps54
  go_wp2_with fail
  exact bodyPost_ret (v := .agg #[.int .i64 3, .int .u64 0, .string ⟨#[]⟩, .slice a n c]) (by simp [results, Tryd.results54, go_sem]) rfl ⟨rfl, (Below.refl _ _).alloc (Nat.le_refl _) _⟩
set_option maxRecDepth 100000 in
set_option maxHeartbeats 6400000 in
theorem numbers84_any (a : Option Addr) (xs : List Int) (c : Nat) (w : World) (hl : xs.length ≤ 16384) (hx : ∀ j, j < xs.length → 0 ≤ xs.getD j 0 ∧ xs.getD j 0 ≤ 4294967295) (h : Nms .u32 w a xs) : Calls Tryd.prog 84 #[.slice a xs.length c] w fun e w' => ∃ g, e = .returned (lT (some ⟨g, 0, none⟩) xs.length (xs.map nT)).val ∧ (∀ f, InS (fun b => w.heap.size ≤ b ∧ b < w'.heap.size) w' f (lT (some ⟨g, 0, none⟩) xs.length (xs.map nT))) ∧ Below w.heap.size w w' := by
  obtain ⟨b, o, hab⟩ := h.get
  have HA := Lib.hid hab
  have HX := Lib.hid hx
  obtain ⟨X, HXX⟩ : ∃ X : Nat → T, Hid (∀ j, X j = nT (xs.getD j 0)) := ⟨fun j => nT (xs.getD j 0), Lib.hid (fun _ => rfl)⟩
  have HV : Hid (∀ g, (lT (some ⟨g, 0, none⟩) xs.length (xs.map nT)).val = .agg #[.int .i64 3, .int .u64 0, .string ⟨#[]⟩, .slice (some ⟨g, 0, none⟩) xs.length xs.length]) := Lib.hid (fun g => by
    unfold T.val
    rw [show (lT (some ⟨g, 0, none⟩) xs.length (xs.map nT)).l.length = xs.length from List.length_map ..]
    rfl)
  have HFN : Hid (∀ wr, TbV wr (w.heap.size + 1) (xs.length * 4) 54 (iF X xs.length) → ∀ f, InS (fun b => w.heap.size < b ∧ b < wr.heap.size) wr f (lT (some ⟨w.heap.size + 1, 0, none⟩) xs.length (xs.map nT))) := Lib.hid (fun wr ht f => inS_list ht ⟨by omega, ht.lt⟩ (by omega) (List.length_map ..) (fun j hj => by
      rw [HXX.out j]
      simp [List.getD, hj]) (fun j hj f => by
      have hj' : j < xs.length := by rw [List.length_map] at hj; exact hj
      obtain ⟨h0, h1⟩ := hx j hj'
      rw [show (xs.map nT)[j] = nT (xs.getD j 0) by simp [List.getD, hj']]
      exact inS_num h0 (by omega) f) f)
  obtain ⟨i54, hi54, hz54, hs54, hby54⟩ := info_parts info54
  have hmk : ∀ w, (Instr.makeSlice 52 (.int .i64 xs.length) (.int .i64 xs.length)).run Tryd.prog w = .ok (.slice (some ⟨w.heap.size, 0, none⟩) xs.length xs.length) (w.alloc (.cells ((List.range (xs.length * 4)).map (iF X 0)).toArray 54)) := fun w => by
    have := run_make (P := Tryd.prog) w 52 54 i54 (.agg #[.int .i64 0, .int .u64 0, .string ⟨#[]⟩, .slice none 0 0]) Tryd.underlying52 hi54 hz54 .i64 .i64 xs.length xs.length (by omega) (by omega) (by rw [hby54]; omega) (by omega)
    rw [hs54] at this
    rw [this, Int.toNat_natCast, made_items X]
  have HST := Lib.hid (iF_step X)
  obtain ⟨L, HL⟩ := named xs.length
  rw [HL.out] at HA HX HV HFN hl hmk ⊢
  clear h hab hx
  generalize hp : w.heap.size = p at *
  go_enter Tryd.func84, Tryd.ntmps84
  go_wp2_with fail
  have hW : ∀ o, (w.alloc o).heap.size = p + 1 := fun o => by rw [World.size_alloc, hp]
  have HB0 : Hid (Below p w (w.alloc (.cells #[.int .i64 0, .int .u64 0, .string ⟨#[]⟩, .slice none 0 0] 54))) := Lib.hid ((Below.refl _ _).alloc (by omega) _)
  have HR0 := Lib.hid (heap_top w (.cells #[.int .i64 0, .int .u64 0, .string ⟨#[]⟩, .slice none 0 0] 54))
  have hw1 := hW (.cells #[.int .i64 0, .int .u64 0, .string ⟨#[]⟩, .slice none 0 0] 54)
  rw [hp] at HR0
  generalize w.alloc (.cells #[.int .i64 0, .int .u64 0, .string ⟨#[]⟩, .slice none 0 0] 54) = W at *
  have HT0 : Hid (TbV (W.alloc (.cells ((List.range (L * 4)).map (iF X 0)).toArray 54)) (p + 1) (L * 4) 54 (iF X 0)) := by
    have h := heap_top W (.cells ((List.range (L * 4)).map (iF X 0)).toArray 54)
    rw [hw1] at h
    exact h
  have HB1 : Hid (Below p w (W.alloc (.cells ((List.range (L * 4)).map (iF X 0)).toArray 54))) := Lib.hid (HB0.out.alloc (by omega) _)
  have HR1 : Hid ((W.alloc (.cells ((List.range (L * 4)).map (iF X 0)).toArray 54)).heap[p]? = some (.cells #[.int .i64 0, .int .u64 0, .string ⟨#[]⟩, .slice none 0 0] 54)) := Lib.hid ((Below.heap_alloc _ _ _ (by omega)).trans HR0.out)
  generalize W.alloc (.cells ((List.range (L * 4)).map (iF X 0)).toArray 54) = V at *
  clear HB0 HR0 hw1 hmk hW
  go_wp2_with fail
  go_loopw [11] (fun i wr => ∃ k : Nat, k ≤ L ∧ i = .int .i64 k ∧ Hid (TbV wr (p + 1) (L * 4) 54 (iF X k)) ∧ Hid (wr.heap[p]? = some (.cells #[.int .i64 0, .int .u64 0, .string ⟨#[]⟩, .slice none 0 0] 54)) ∧ Hid (Below p w wr)) (fun i _ => L - (intOf i).toNat)
  case atStart => exact ⟨0, Nat.zero_le _, rfl, HT0, HR1, HB1⟩
  case round =>
    clear HT0 HR1 HB1
    obtain ⟨k, hk, rfl, HTR, HRR, HBR⟩ := hrel
    by_cases hlt : k < L
    · have hlt' : (k : Int) < (L : Int) := by omega
      obtain ⟨rfl, hb, hat⟩ := HA.out (by omega)
      have q0 := (HBR.out.cell (p := ⟨b, o + k, none⟩) (by show b < p; omega)).trans (hat k hlt)
      obtain ⟨x0, x1⟩ := HX.out k hlt
      have HSK := Lib.hid (fun i => HST.out k i)
      obtain ⟨Y, hX⟩ := named (xs.getD k 0)
      rw [hX.out] at q0 x0 x1
      have hwx : IntKind.u64.wrap Y = Y := by rw [IntKind.wrap_u64]; omega
      have HNU := Lib.hid (num_any Y wr)
      have hpw : p + 1 < wr.heap.size := HTR.out.lt
      clear hat HA HX
      go_wp2_with fail
      refine HNU.out.mono ?_
      rintro e w2 ⟨rfl, hb2⟩
      have HT2 := Lib.hid (HTR.out.same (hb2.block _ hpw))
      have HR2 := Lib.hid ((hb2.block _ (by omega)).trans HRR.out)
      have HB2 : Hid (Below p w w2) := Lib.hid (HBR.out.trans (hb2.mono (by have := HBR.out.size; omega)))
      clear hb2 HNU HTR HRR HBR q0
      have q0 := HT2.out.free (k * 4)
      have q1 := HT2.out.free (k * 4 + 1)
      have q2 := HT2.out.free (k * 4 + 2)
      have q3 := HT2.out.free (k * 4 + 3)
      have r0 := HT2.out.cell (v := k * 4) (by omega)
      have r1 := HT2.out.cell (v := k * 4 + 1) (by omega)
      have r2 := HT2.out.cell (v := k * 4 + 2) (by omega)
      have r3 := HT2.out.cell (v := k * 4 + 3) (by omega)
      have HT3 : Hid (TbV ((((w2.setCell ⟨p + 1, k * 4, none⟩ (.int .i64 1)).setCell ⟨p + 1, k * 4 + 1, none⟩ (.int .u64 Y)).setCell ⟨p + 1, k * 4 + 2, none⟩ (.string ⟨#[]⟩)).setCell ⟨p + 1, k * 4 + 3, none⟩ (.slice none 0 0)) (p + 1) (L * 4) 54 (iF X (k + 1))) := Lib.hid (((((HT2.out.set (k * 4) (.int .i64 1)).set (k * 4 + 1) (.int .u64 Y)).set (k * 4 + 2) (.string ⟨#[]⟩)).set (k * 4 + 3) (.slice none 0 0)).congr (fun v _ => by
        have h := HSK.out v
        rw [← h]
        rw [HXX.out k, hX.out]
        rfl))
      have HB3 : Hid (Below p w ((((w2.setCell ⟨p + 1, k * 4, none⟩ (.int .i64 1)).setCell ⟨p + 1, k * 4 + 1, none⟩ (.int .u64 Y)).setCell ⟨p + 1, k * 4 + 2, none⟩ (.string ⟨#[]⟩)).setCell ⟨p + 1, k * 4 + 3, none⟩ (.slice none 0 0))) := Lib.hid ((((HB2.out.setCell (p := ⟨p + 1, k * 4, none⟩) (by simp) _).setCell (p := ⟨p + 1, k * 4 + 1, none⟩) (by simp) _).setCell (p := ⟨p + 1, k * 4 + 2, none⟩) (by simp) _).setCell (p := ⟨p + 1, k * 4 + 3, none⟩) (by simp) _)
      have hne : p ≠ p + 1 := by omega
      have HR3 : Hid (((((w2.setCell ⟨p + 1, k * 4, none⟩ (.int .i64 1)).setCell ⟨p + 1, k * 4 + 1, none⟩ (.int .u64 Y)).setCell ⟨p + 1, k * 4 + 2, none⟩ (.string ⟨#[]⟩)).setCell ⟨p + 1, k * 4 + 3, none⟩ (.slice none 0 0)).heap[p]? = some (.cells #[.int .i64 0, .int .u64 0, .string ⟨#[]⟩, .slice none 0 0] 54)) := Lib.hid (by
        rw [Below.heap_setCell _ _ _ _ hne, Below.heap_setCell _ _ _ _ hne, Below.heap_setCell _ _ _ _ hne, Below.heap_setCell _ _ _ _ hne]
        exact HR2.out)
      go_wp2_with fail
      exact ⟨⟨k + 1, by omega, by go_num, HT3, HR3, HB3⟩, by simp [intOf]; omega⟩
    · have hlt' : ¬ (k : Int) < (L : Int) := by omega
      obtain rfl : k = L := by omega
      have HLI := Lib.hid (list_any (some ⟨p + 1, 0, none⟩) k k wr)
      obtain ⟨⟨z0, z1, z2, z3⟩, f0, f1, f2, f3⟩ := cells4 HRR.out
      have hpw : p < wr.heap.size := lt_of_block HRR.out
      clear HA HX HST
      go_wp2_with fail
      refine HLI.out.mono ?_
      rintro e w2 ⟨rfl, hb2⟩
      have HI2 : Hid _ := Lib.hid (HFN.out wr HTR.out)
      have HB2 : Hid (Below p w w2) := Lib.hid (HBR.out.trans (hb2.mono (by have := HBR.out.size; omega)))
      have hr2 := (hb2.block _ hpw).trans HRR.out
      have HR2 := Lib.hid hr2
      have HBL := Lib.hid hb2
      clear hb2 z0 z1 z2 z3 f0 f1 f2 f3 HLI
      obtain ⟨⟨z0, z1, z2, z3⟩, f0, f1, f2, f3⟩ := cells4 hr2
      clear hr2
      go_wp2_with fail
      have hfin := four_set (a' := .int .i64 3) (b' := .int .u64 0) (c' := .string ⟨#[]⟩) (d' := .slice (some ⟨p + 1, 0, none⟩) k k) HR2.out
      have hbel := four_below (q := p) (a' := .int .i64 3) (b' := .int .u64 0) (c' := .string ⟨#[]⟩) (d' := .slice (some ⟨p + 1, 0, none⟩) k k) HB2.out (Nat.le_refl _)
      have hoth := fun b (h : b ≠ p) => four_oth (w := w2) (a' := .int .i64 3) (b' := .int .u64 0) (c' := .string ⟨#[]⟩) (d' := .slice (some ⟨p + 1, 0, none⟩) k k) h
      generalize ((((w2.setCell ⟨p, 0, none⟩ (.int .i64 3)).setCell ⟨p, 1, none⟩ (.int .u64 0)).setCell ⟨p, 2, none⟩ (.string ⟨#[]⟩)).setCell ⟨p, 3, none⟩ (.slice (some ⟨p + 1, 0, none⟩) k k)) = W4 at *
      obtain ⟨⟨y0, y1, y2, y3⟩, _⟩ := cells4 hfin
      refine bodyPost_ret (v := .agg #[.int .i64 3, .int .u64 0, .string ⟨#[]⟩, .slice (some ⟨p + 1, 0, none⟩) k k]) (by simp [results, Tryd.results84, go_sem, y0, y1, y2, y3]) rfl ⟨p + 1, by rw [HV.out], fun f => InS.same (fun b hb => ?_) (HI2.out f), hbel⟩
      have h1 := HBL.out.size
      have h2 := hoth b (by omega)
      have h3 : b < w2.heap.size := by omega
      refine ⟨⟨by omega, ?_⟩, h2.trans (HBL.out.block b hb.2)⟩
      have h4 : w2.heap[b]? = some w2.heap[b] := Array.getElem?_eq_getElem h3
      rw [← h2] at h4
      exact lt_of_block h4
set_option maxRecDepth 100000 in
set_option maxHeartbeats 6400000 in
theorem numbers86_any (a : Option Addr) (xs : List Int) (c : Nat) (w : World) (hl : xs.length ≤ 16384) (hx : ∀ j, j < xs.length → 0 ≤ xs.getD j 0 ∧ xs.getD j 0 ≤ 18446744073709551615) (h : Nms .u64 w a xs) : Calls Tryd.prog 86 #[.slice a xs.length c] w fun e w' => ∃ g, e = .returned (lT (some ⟨g, 0, none⟩) xs.length (xs.map nT)).val ∧ (∀ f, InS (fun b => w.heap.size ≤ b ∧ b < w'.heap.size) w' f (lT (some ⟨g, 0, none⟩) xs.length (xs.map nT))) ∧ Below w.heap.size w w' := by
  obtain ⟨b, o, hab⟩ := h.get
  have HA := Lib.hid hab
  have HX := Lib.hid hx
  obtain ⟨X, HXX⟩ : ∃ X : Nat → T, Hid (∀ j, X j = nT (xs.getD j 0)) := ⟨fun j => nT (xs.getD j 0), Lib.hid (fun _ => rfl)⟩
  have HV : Hid (∀ g, (lT (some ⟨g, 0, none⟩) xs.length (xs.map nT)).val = .agg #[.int .i64 3, .int .u64 0, .string ⟨#[]⟩, .slice (some ⟨g, 0, none⟩) xs.length xs.length]) := Lib.hid (fun g => by
    unfold T.val
    rw [show (lT (some ⟨g, 0, none⟩) xs.length (xs.map nT)).l.length = xs.length from List.length_map ..]
    rfl)
  have HFN : Hid (∀ wr, TbV wr (w.heap.size + 1) (xs.length * 4) 54 (iF X xs.length) → ∀ f, InS (fun b => w.heap.size < b ∧ b < wr.heap.size) wr f (lT (some ⟨w.heap.size + 1, 0, none⟩) xs.length (xs.map nT))) := Lib.hid (fun wr ht f => inS_list ht ⟨by omega, ht.lt⟩ (by omega) (List.length_map ..) (fun j hj => by
      rw [HXX.out j]
      simp [List.getD, hj]) (fun j hj f => by
      have hj' : j < xs.length := by rw [List.length_map] at hj; exact hj
      obtain ⟨h0, h1⟩ := hx j hj'
      rw [show (xs.map nT)[j] = nT (xs.getD j 0) by simp [List.getD, hj']]
      exact inS_num h0 (by omega) f) f)
  obtain ⟨i54, hi54, hz54, hs54, hby54⟩ := info_parts info54
  have hmk : ∀ w, (Instr.makeSlice 52 (.int .i64 xs.length) (.int .i64 xs.length)).run Tryd.prog w = .ok (.slice (some ⟨w.heap.size, 0, none⟩) xs.length xs.length) (w.alloc (.cells ((List.range (xs.length * 4)).map (iF X 0)).toArray 54)) := fun w => by
    have := run_make (P := Tryd.prog) w 52 54 i54 (.agg #[.int .i64 0, .int .u64 0, .string ⟨#[]⟩, .slice none 0 0]) Tryd.underlying52 hi54 hz54 .i64 .i64 xs.length xs.length (by omega) (by omega) (by rw [hby54]; omega) (by omega)
    rw [hs54] at this
    rw [this, Int.toNat_natCast, made_items X]
  have HST := Lib.hid (iF_step X)
  obtain ⟨L, HL⟩ := named xs.length
  rw [HL.out] at HA HX HV HFN hl hmk ⊢
  clear h hab hx
  generalize hp : w.heap.size = p at *
  go_enter Tryd.func86, Tryd.ntmps86
  go_wp2_with fail
  have hW : ∀ o, (w.alloc o).heap.size = p + 1 := fun o => by rw [World.size_alloc, hp]
  have HB0 : Hid (Below p w (w.alloc (.cells #[.int .i64 0, .int .u64 0, .string ⟨#[]⟩, .slice none 0 0] 54))) := Lib.hid ((Below.refl _ _).alloc (by omega) _)
  have HR0 := Lib.hid (heap_top w (.cells #[.int .i64 0, .int .u64 0, .string ⟨#[]⟩, .slice none 0 0] 54))
  have hw1 := hW (.cells #[.int .i64 0, .int .u64 0, .string ⟨#[]⟩, .slice none 0 0] 54)
  rw [hp] at HR0
  generalize w.alloc (.cells #[.int .i64 0, .int .u64 0, .string ⟨#[]⟩, .slice none 0 0] 54) = W at *
  have HT0 : Hid (TbV (W.alloc (.cells ((List.range (L * 4)).map (iF X 0)).toArray 54)) (p + 1) (L * 4) 54 (iF X 0)) := by
    have h := heap_top W (.cells ((List.range (L * 4)).map (iF X 0)).toArray 54)
    rw [hw1] at h
    exact h
  have HB1 : Hid (Below p w (W.alloc (.cells ((List.range (L * 4)).map (iF X 0)).toArray 54))) := Lib.hid (HB0.out.alloc (by omega) _)
  have HR1 : Hid ((W.alloc (.cells ((List.range (L * 4)).map (iF X 0)).toArray 54)).heap[p]? = some (.cells #[.int .i64 0, .int .u64 0, .string ⟨#[]⟩, .slice none 0 0] 54)) := Lib.hid ((Below.heap_alloc _ _ _ (by omega)).trans HR0.out)
  generalize W.alloc (.cells ((List.range (L * 4)).map (iF X 0)).toArray 54) = V at *
  clear HB0 HR0 hw1 hmk hW
  go_wp2_with fail
  go_loopw [11] (fun i wr => ∃ k : Nat, k ≤ L ∧ i = .int .i64 k ∧ Hid (TbV wr (p + 1) (L * 4) 54 (iF X k)) ∧ Hid (wr.heap[p]? = some (.cells #[.int .i64 0, .int .u64 0, .string ⟨#[]⟩, .slice none 0 0] 54)) ∧ Hid (Below p w wr)) (fun i _ => L - (intOf i).toNat)
  case atStart => exact ⟨0, Nat.zero_le _, rfl, HT0, HR1, HB1⟩
  case round =>
    clear HT0 HR1 HB1
    obtain ⟨k, hk, rfl, HTR, HRR, HBR⟩ := hrel
    by_cases hlt : k < L
    · have hlt' : (k : Int) < (L : Int) := by omega
      obtain ⟨rfl, hb, hat⟩ := HA.out (by omega)
      have q0 := (HBR.out.cell (p := ⟨b, o + k, none⟩) (by show b < p; omega)).trans (hat k hlt)
      obtain ⟨x0, x1⟩ := HX.out k hlt
      have HSK := Lib.hid (fun i => HST.out k i)
      obtain ⟨Y, hX⟩ := named (xs.getD k 0)
      rw [hX.out] at q0 x0 x1
      have hwx : IntKind.u64.wrap Y = Y := by rw [IntKind.wrap_u64]; omega
      have HNU := Lib.hid (num_any Y wr)
      have hpw : p + 1 < wr.heap.size := HTR.out.lt
      clear hat HA HX
      go_wp2_with fail
      refine HNU.out.mono ?_
      rintro e w2 ⟨rfl, hb2⟩
      have HT2 := Lib.hid (HTR.out.same (hb2.block _ hpw))
      have HR2 := Lib.hid ((hb2.block _ (by omega)).trans HRR.out)
      have HB2 : Hid (Below p w w2) := Lib.hid (HBR.out.trans (hb2.mono (by have := HBR.out.size; omega)))
      clear hb2 HNU HTR HRR HBR q0
      have q0 := HT2.out.free (k * 4)
      have q1 := HT2.out.free (k * 4 + 1)
      have q2 := HT2.out.free (k * 4 + 2)
      have q3 := HT2.out.free (k * 4 + 3)
      have r0 := HT2.out.cell (v := k * 4) (by omega)
      have r1 := HT2.out.cell (v := k * 4 + 1) (by omega)
      have r2 := HT2.out.cell (v := k * 4 + 2) (by omega)
      have r3 := HT2.out.cell (v := k * 4 + 3) (by omega)
      have HT3 : Hid (TbV ((((w2.setCell ⟨p + 1, k * 4, none⟩ (.int .i64 1)).setCell ⟨p + 1, k * 4 + 1, none⟩ (.int .u64 Y)).setCell ⟨p + 1, k * 4 + 2, none⟩ (.string ⟨#[]⟩)).setCell ⟨p + 1, k * 4 + 3, none⟩ (.slice none 0 0)) (p + 1) (L * 4) 54 (iF X (k + 1))) := Lib.hid (((((HT2.out.set (k * 4) (.int .i64 1)).set (k * 4 + 1) (.int .u64 Y)).set (k * 4 + 2) (.string ⟨#[]⟩)).set (k * 4 + 3) (.slice none 0 0)).congr (fun v _ => by
        have h := HSK.out v
        rw [← h]
        rw [HXX.out k, hX.out]
        rfl))
      have HB3 : Hid (Below p w ((((w2.setCell ⟨p + 1, k * 4, none⟩ (.int .i64 1)).setCell ⟨p + 1, k * 4 + 1, none⟩ (.int .u64 Y)).setCell ⟨p + 1, k * 4 + 2, none⟩ (.string ⟨#[]⟩)).setCell ⟨p + 1, k * 4 + 3, none⟩ (.slice none 0 0))) := Lib.hid ((((HB2.out.setCell (p := ⟨p + 1, k * 4, none⟩) (by simp) _).setCell (p := ⟨p + 1, k * 4 + 1, none⟩) (by simp) _).setCell (p := ⟨p + 1, k * 4 + 2, none⟩) (by simp) _).setCell (p := ⟨p + 1, k * 4 + 3, none⟩) (by simp) _)
      have hne : p ≠ p + 1 := by omega
      have HR3 : Hid (((((w2.setCell ⟨p + 1, k * 4, none⟩ (.int .i64 1)).setCell ⟨p + 1, k * 4 + 1, none⟩ (.int .u64 Y)).setCell ⟨p + 1, k * 4 + 2, none⟩ (.string ⟨#[]⟩)).setCell ⟨p + 1, k * 4 + 3, none⟩ (.slice none 0 0)).heap[p]? = some (.cells #[.int .i64 0, .int .u64 0, .string ⟨#[]⟩, .slice none 0 0] 54)) := Lib.hid (by
        rw [Below.heap_setCell _ _ _ _ hne, Below.heap_setCell _ _ _ _ hne, Below.heap_setCell _ _ _ _ hne, Below.heap_setCell _ _ _ _ hne]
        exact HR2.out)
      go_wp2_with fail
      exact ⟨⟨k + 1, by omega, by go_num, HT3, HR3, HB3⟩, by simp [intOf]; omega⟩
    · have hlt' : ¬ (k : Int) < (L : Int) := by omega
      obtain rfl : k = L := by omega
      have HLI := Lib.hid (list_any (some ⟨p + 1, 0, none⟩) k k wr)
      obtain ⟨⟨z0, z1, z2, z3⟩, f0, f1, f2, f3⟩ := cells4 HRR.out
      have hpw : p < wr.heap.size := lt_of_block HRR.out
      clear HA HX HST
      go_wp2_with fail
      refine HLI.out.mono ?_
      rintro e w2 ⟨rfl, hb2⟩
      have HI2 : Hid _ := Lib.hid (HFN.out wr HTR.out)
      have HB2 : Hid (Below p w w2) := Lib.hid (HBR.out.trans (hb2.mono (by have := HBR.out.size; omega)))
      have hr2 := (hb2.block _ hpw).trans HRR.out
      have HR2 := Lib.hid hr2
      have HBL := Lib.hid hb2
      clear hb2 z0 z1 z2 z3 f0 f1 f2 f3 HLI
      obtain ⟨⟨z0, z1, z2, z3⟩, f0, f1, f2, f3⟩ := cells4 hr2
      clear hr2
      go_wp2_with fail
      have hfin := four_set (a' := .int .i64 3) (b' := .int .u64 0) (c' := .string ⟨#[]⟩) (d' := .slice (some ⟨p + 1, 0, none⟩) k k) HR2.out
      have hbel := four_below (q := p) (a' := .int .i64 3) (b' := .int .u64 0) (c' := .string ⟨#[]⟩) (d' := .slice (some ⟨p + 1, 0, none⟩) k k) HB2.out (Nat.le_refl _)
      have hoth := fun b (h : b ≠ p) => four_oth (w := w2) (a' := .int .i64 3) (b' := .int .u64 0) (c' := .string ⟨#[]⟩) (d' := .slice (some ⟨p + 1, 0, none⟩) k k) h
      generalize ((((w2.setCell ⟨p, 0, none⟩ (.int .i64 3)).setCell ⟨p, 1, none⟩ (.int .u64 0)).setCell ⟨p, 2, none⟩ (.string ⟨#[]⟩)).setCell ⟨p, 3, none⟩ (.slice (some ⟨p + 1, 0, none⟩) k k)) = W4 at *
      obtain ⟨⟨y0, y1, y2, y3⟩, _⟩ := cells4 hfin
      refine bodyPost_ret (v := .agg #[.int .i64 3, .int .u64 0, .string ⟨#[]⟩, .slice (some ⟨p + 1, 0, none⟩) k k]) (by simp [results, Tryd.results86, go_sem, y0, y1, y2, y3]) rfl ⟨p + 1, by rw [HV.out], fun f => InS.same (fun b hb => ?_) (HI2.out f), hbel⟩
      have h1 := HBL.out.size
      have h2 := hoth b (by omega)
      have h3 : b < w2.heap.size := by omega
      refine ⟨⟨by omega, ?_⟩, h2.trans (HBL.out.block b hb.2)⟩
      have h4 : w2.heap[b]? = some w2.heap[b] := Array.getElem?_eq_getElem h3
      rw [← h2] at h4
      exact lt_of_block h4
end Go.Proofs.YtchmiiclogmheaaDoor.C2
