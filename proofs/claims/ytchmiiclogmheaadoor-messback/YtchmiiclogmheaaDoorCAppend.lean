/-
  Contract of code.appendItem: the bytes of an item behind others, as far as there may be bytes.
-/
import Derived.Test.YtchmiiclogmheaaDoorCCheck
import Derived.Test.YtchmiiclogmheaaDoorCBody
namespace Go.Proofs.YtchmiiclogmheaaDoor.C2
open Go.RowKit
set_option maxRecDepth 100000 in
theorem OwnB.alloc {w : World} {base : Nat} {v : Value} {l : List UInt8} (h : OwnB w base v l) (o : Obj) : OwnB (w.alloc o) base v l := World.ownsRow.alloc h o
theorem OwnB.lt {w : World} {base : Nat} {v : Value} {l : List UInt8} (h : OwnB w base v l) : ∀ k, v.ownBlock = some k → base ≤ k := fun k hk => (World.ownsRow.lt h k hk).1
theorem OwnB.join {w : World} {base : Nat} {v : Value} {l m : List UInt8} (h : w.ownsRow base 5 1 v (l.length + m.length) (bytesC l ++ bytesC m)) : OwnB w base v (l ++ m) := own_join h
set_option maxRecDepth 100000 in
theorem OwnB.on {w w' : World} {base : Nat} {v : Value} {l : List UInt8} (h : OwnB w base v l) (hb : Below w.heap.size w w') : OwnB w' base v l := by
  refine ⟨h.1, ?_⟩
  rcases h.2 with h' | ⟨g, c, cur, h', hb', hg, rest⟩
  · exact Or.inl h'
  · exact Or.inr ⟨g, c, cur, h', hb', (hb.block g (lt_of_block hg)).trans hg, rest⟩
set_option maxRecDepth 100000 in
theorem named {α : Type} (a : α) : ∃ x, Hid (a = x) := ⟨a, Lib.hid rfl⟩
theorem OwnB.shape {w : World} {base : Nat} {v : Value} {l : List UInt8} (h : OwnB w base v l) : ∃ p c, v = .slice p l.length c := by
  rcases h.2 with ⟨h', h0⟩ | ⟨g, c, cur, h', _⟩
  · exact ⟨none, 0, by rw [h0]; exact h'⟩
  · exact ⟨_, c, h'⟩
set_option maxRecDepth 100000 in
theorem heap_top (w : World) (o : Obj) : (w.alloc o).heap[w.heap.size]? = some o := by
  show (w.heap.push o)[w.heap.size]? = some o
  exact Array.getElem?_push_size
set_option maxRecDepth 100000 in
theorem box4 {base : Nat} {w w1 : World} {a b c d : Value} (h : Fr base (w.alloc (.cells #[a, b, c, d] 54)) w1) : w1.cell? ⟨w.heap.size, 0, none⟩ = some a ∧ w1.cell? ⟨w.heap.size, 1, none⟩ = some b ∧ w1.cell? ⟨w.heap.size, 2, none⟩ = some c ∧ w1.cell? ⟨w.heap.size, 3, none⟩ = some d := by
  have e : w1.heap[w.heap.size]? = (w.alloc (.cells #[a, b, c, d] 54)).heap[w.heap.size]? :=
    h.block _ (by simp) (fun cs fr e => by rw [heap_top] at e; injection e with e; injection e with _ e2 _; exact absurd e2 (by decide))
  refine ⟨?_, ?_, ?_, ?_⟩
  · rw [World.cell?_of_block (w := w.alloc (.cells #[a, b, c, d] 54)) e]; simp
  · rw [World.cell?_of_block (w := w.alloc (.cells #[a, b, c, d] 54)) e]; simp
  · rw [World.cell?_of_block (w := w.alloc (.cells #[a, b, c, d] 54)) e]; simp
  · rw [World.cell?_of_block (w := w.alloc (.cells #[a, b, c, d] 54)) e]; simp
set_option maxRecDepth 100000 in
set_option maxHeartbeats 6400000 in
theorem app_num (base : Nat) (v : Value) (acc : List UInt8) (n : Nat) (hn : n < 18446744073709551616) (s : ByteArray) (a : Option Addr) (m cap : Nat) (w : World) (hown : OwnB w base v acc) (hb : base ≤ w.heap.size) (hl : acc.length ≤ 262144) :
    Calls Tryd.prog 51 #[v, .agg #[.int .i64 1, .int .u64 n, .string s, .slice a m cap]] w fun e w' => ∃ v', e = .returned v' ∧ OwnB w' base v' ((acc ++ [1]) ++ numD n) ∧ Fr base w w' := by
  obtain ⟨i0, hi, hz0, hz1, hz2⟩ := info_parts info5
  have HO := Lib.hid hown
  clear hown
  go_enter Tryd.func51, Tryd.ntmps51
  go_wp2_with (at_builtin; refine wpList_append_own _ rfl (.tmp 7) (.tmp 11) 79 rfl base 5 i0 (.int .u8 0) 1 1 Tryd.underlying79 hi hz0 hz1 hz2 rfl (by decide) v acc.length (bytesC acc) rfl ((HO.out.alloc _).alloc _) ⟨w.heap.size + 1, 0, none⟩ 1 1 [.int .u8 1] rfl rfl (by have h := news_one (w.alloc (.cells #[.int .i64 1, .int .u64 n, .string s, .slice a m cap] 54)) (.int .u8 1); simpa using h) (one_u8 _) (by unfold maxLen; omega) (by omega) (by simp; omega) ?_; intro v1 w1 hown1 hgrow1 hnil1; clear hnil1; have hfr1 : Fr base (w.alloc (.cells #[.int .i64 1, .int .u64 n, .string s, .slice a m cap] 54)) w1 := (((Fr.refl base _).alloc (by simp; omega) _).grown ((HO.out.alloc _).alloc _) hgrow1 (by simp; omega)); obtain ⟨q0, q1, q2, q3⟩ := box4 hfr1; have HO1 : Hid (OwnB w1 base v1 (acc ++ [1])) := OwnB.join (m := [1]) hown1; clear hown1 hgrow1)
  refine (anum base v1 (acc ++ [1]) n hn w1 HO1.out (by have := hfr1.size; simp at this; omega) (by simp; omega)).mono ?_
  rintro e w2 ⟨v2, rfl, hown2, hfr2⟩
  have HO2 := Lib.hid hown2
  clear hown2
  go_wp2_with fail
  go_ret
  exact ⟨v2, rfl, HO2.out, ((Fr.refl base w).alloc hb _).trans (hfr1.trans hfr2)⟩
set_option maxRecDepth 100000 in
theorem le_maxLen {a b : Nat} (h : a ≤ 262155) (h2 : b ≤ 262144) : a + b ≤ maxLen := by unfold maxLen; omega
theorem le_room {a b : Nat} (h : a ≤ 262155) (h2 : b ≤ 262144) : a + b ≤ 140737488355328 := by omega
theorem text_join {w : World} {base : Nat} {v : Value} {l m : List UInt8} {s : ByteArray} (h1 : bytesC m = Lib.strCells s) (h2 : m.length = s.size) (h : w.ownsRow base 5 1 v (l.length + s.size) (bytesC l ++ Lib.strCells s)) : OwnB w base v (l ++ m) := OwnB.join (by rw [h1, h2]; exact h)
set_option maxRecDepth 100000 in
set_option maxHeartbeats 6400000 in
theorem app_text (base : Nat) (v : Value) (acc : List UInt8) (n : Int) (s : ByteArray) (hs : s.size ≤ 140737488355328) (a : Option Addr) (m cap : Nat) (w : World) (hown : OwnB w base v acc) (hb : base ≤ w.heap.size) (hl : acc.length ≤ 262144) :
    Calls Tryd.prog 51 #[v, .agg #[.int .i64 2, .int .u64 n, .string s, .slice a m cap]] w fun e w' => ∃ v', e = .returned v' ∧ OwnB w' base v' (((acc ++ [2]) ++ numD s.size) ++ s.data.toList.take 262144) ∧ Fr base w w' := by
  obtain ⟨i0, hi, hz0, hz1, hz2⟩ := info_parts info5
  have HO := Lib.hid hown
  clear hown
  go_enter Tryd.func51, Tryd.ntmps51
  go_wp2_with (at_builtin; refine wpList_append_own _ rfl (.tmp 7) (.tmp 11) 79 rfl base 5 i0 (.int .u8 0) 1 1 Tryd.underlying79 hi hz0 hz1 hz2 rfl (by decide) v acc.length (bytesC acc) rfl ((HO.out.alloc _).alloc _) ⟨w.heap.size + 1, 0, none⟩ 1 1 [.int .u8 2] rfl rfl (by have h := news_one (w.alloc (.cells #[.int .i64 2, .int .u64 n, .string s, .slice a m cap] 54)) (.int .u8 2); simpa using h) (one_u8 _) (by unfold maxLen; omega) (by omega) (by simp; omega) ?_; intro v1 w1 hown1 hgrow1 hnil1; clear hnil1; have hfr1 : Fr base (w.alloc (.cells #[.int .i64 2, .int .u64 n, .string s, .slice a m cap] 54)) w1 := (((Fr.refl base _).alloc (by simp; omega) _).grown ((HO.out.alloc _).alloc _) hgrow1 (by simp; omega)); obtain ⟨q0, q1, q2, q3⟩ := box4 hfr1; have HO1 : Hid (OwnB w1 base v1 (acc ++ [2])) := OwnB.join (m := [2]) hown1; clear hown1 hgrow1)
  refine (anum base v1 (acc ++ [2]) s.size (by omega) w1 HO1.out (by have := hfr1.size; simp at this; omega) (by simp; omega)).mono ?_
  rintro e w2 ⟨v2, rfl, hown2, hfr2⟩
  have HO2 := Lib.hid hown2
  have hfr := hfr1.trans hfr2
  clear hown2 q0 q1 q2 q3
  obtain ⟨q0, q1, q2, q3⟩ := box4 hfr
  have hsz : w.heap.size + 1 ≤ w2.heap.size := by have := hfr.size; simp at this; omega
  have hms : (s.extract 0 (min (s.size : Int) 262144).toNat).size ≤ 262144 := by rw [extract_size]; omega
  have hm0 : (0 : Int) ≤ min (s.size : Int) 262144 := by omega
  have hm1 : min (s.size : Int) 262144 ≤ s.size := by omega
  have HM : Hid (bytesC (s.data.toList.take 262144) = Lib.strCells (s.extract 0 (min (s.size : Int) 262144).toNat) ∧ (s.data.toList.take 262144).length = (s.extract 0 (min (s.size : Int) 262144).toNat).size) := by
    have e : (s.extract 0 (min (s.size : Int) 262144).toNat).data.toList = s.data.toList.take 262144 := by
      rw [extract_list, List.drop_zero, Nat.sub_zero]
      by_cases h : s.size ≤ 262144
      · rw [List.take_of_length_le (by simp; omega), List.take_of_length_le (by simp; omega)]
      · rw [show (min (s.size : Int) 262144).toNat = 262144 by omega]
    refine ⟨?_, ?_⟩
    · rw [bytesC_str, e]
    · rw [← e]; simp
  have hlen2 : ((acc ++ [2]) ++ numD s.size).length ≤ 262155 := by
    have := (numD_len s.size).2
    simp; omega
  obtain ⟨L2, HL2⟩ := named ((acc ++ [2]) ++ numD s.size)
  rw [HL2.out] at HO2 hlen2
  have hown2 : w2.ownsRow base 5 1 v2 L2.length (bytesC L2) := HO2.out
  have hmn : (if (262144 : Int) < s.size then (262144 : Int) else (s.size : Int)) = min (s.size : Int) 262144 := by split <;> omega
  go_wp2_with (at_builtin; refine Lib.wpList_append_own_string _ rfl (.tmp 29) (.tmp 36) 79 9 rfl base 5 i0 Tryd.underlying79 Tryd.underlying9 hi hz0 hz1 hz2 v2 L2.length (bytesC L2) rfl hown2 _ rfl ?_ ?_ ?_ ?_; exact le_maxLen hlen2 hms; exact le_room hlen2 hms; exact Nat.le_trans hb (by omega); intro v3 w3 hown3 hgrow3 hnil3; clear hnil3; have HO3 := Lib.hid (text_join HM.out.1 HM.out.2 hown3); have hfr3 : Fr base w2 w3 := (Fr.refl _ _).grown hown2 hgrow3 (by omega); clear hown3 hgrow3)
  go_ret
  exact ⟨v3, rfl, by rw [HL2.out]; exact HO3.out, ((Fr.refl base w).alloc hb _).trans (hfr.trans hfr3)⟩
/-- Members put behind, one after the other, as long as there may be bytes. -/
def loopF (R : Nat → List UInt8 → List UInt8) : Nat → List UInt8 → List UInt8
  | 0, x => x
  | j + 1, x => if 262144 < (loopF R j x).length then loopF R j x else R j (loopF R j x)
set_option maxRecDepth 100000 in
theorem loopF_succ (R : Nat → List UInt8 → List UInt8) (j : Nat) (x : List UInt8) : loopF R (j + 1) x = if 262144 < (loopF R j x).length then loopF R j x else R j (loopF R j x) := rfl
theorem loopF_stop (R : Nat → List UInt8 → List UInt8) (x : List UInt8) {j m : Nat} (h : 262144 < (loopF R j x).length) (hm : j ≤ m) : loopF R m x = loopF R j x := by
  induction m with
  | zero => have : j = 0 := by omega
            subst this; rfl
  | succ m ih =>
    by_cases e : j = m + 1
    · subst e; rfl
    · have e1 := ih (by omega)
      rw [loopF_succ, e1, if_pos h]
set_option maxRecDepth 100000 in
set_option maxHeartbeats 6400000 in
theorem app_list (base : Nat) (v : Value) (acc : List UInt8) (n : Int) (s : ByteArray) (a : Option Addr) (b o m cap : Nat) (ha : 0 < m → a = some ⟨b, o, none⟩) (hm : m ≤ 16384) (w : World) (hown : OwnB w base v acc) (hb : base ≤ w.heap.size) (hl : acc.length ≤ 262144)
    (K NN : Nat → Int) (S : Nat → ByteArray) (A : Nat → Option Addr) (M C : Nat → Nat) (R : Nat → List UInt8 → List UInt8)
    (hR : ∀ j, j < m → ∀ x, x.length ≤ 262144 → (R j x).length ≤ 600000)
    (hc : ∀ j, j < m → b < base ∧ w.cell? ⟨b, o + j * 4, none⟩ = some (.int .i64 (K j)) ∧ w.cell? ⟨b, o + j * 4 + 1, none⟩ = some (.int .u64 (NN j)) ∧ w.cell? ⟨b, o + j * 4 + 2, none⟩ = some (.string (S j)) ∧ w.cell? ⟨b, o + j * 4 + 3, none⟩ = some (.slice (A j) (M j) (C j)))
    (H : ∀ j, j < m → ∀ (v' : Value) (x : List UInt8) (w' : World), Below base w w' → OwnB w' base v' x → base ≤ w'.heap.size → x.length ≤ 262144 → Calls Tryd.prog 51 #[v', .agg #[.int .i64 (K j), .int .u64 (NN j), .string (S j), .slice (A j) (M j) (C j)]] w' fun e w'' => ∃ v'', e = .returned v'' ∧ OwnB w'' base v'' (R j x) ∧ Fr base w' w'') :
    Calls Tryd.prog 51 #[v, .agg #[.int .i64 3, .int .u64 n, .string s, .slice a m cap]] w fun e w' => ∃ v', e = .returned v' ∧ OwnB w' base v' (loopF R m ((acc ++ [3]) ++ numD m)) ∧ Fr base w w' := by
  obtain ⟨i0, hi, hz0, hz1, hz2⟩ := info_parts info5
  have HO := Lib.hid hown
  have HH := Lib.hid H
  have HC := Lib.hid hc
  have HRL := Lib.hid hR
  clear hown H hc hR
  go_enter Tryd.func51, Tryd.ntmps51
  go_wp2_with (at_builtin; refine wpList_append_own _ rfl (.tmp 7) (.tmp 11) 79 rfl base 5 i0 (.int .u8 0) 1 1 Tryd.underlying79 hi hz0 hz1 hz2 rfl (by decide) v acc.length (bytesC acc) rfl ((HO.out.alloc _).alloc _) ⟨w.heap.size + 1, 0, none⟩ 1 1 [.int .u8 3] rfl rfl (by have h := news_one (w.alloc (.cells #[.int .i64 3, .int .u64 n, .string s, .slice a m cap] 54)) (.int .u8 3); simpa using h) (one_u8 _) (by unfold maxLen; omega) (by omega) (by simp; omega) ?_; intro v1 w1 hown1 hgrow1 hnil1; clear hnil1; have hfr1 : Fr base (w.alloc (.cells #[.int .i64 3, .int .u64 n, .string s, .slice a m cap] 54)) w1 := (((Fr.refl base _).alloc (by simp; omega) _).grown ((HO.out.alloc _).alloc _) hgrow1 (by simp; omega)); obtain ⟨q0, q1, q2, q3⟩ := box4 hfr1; have HO1 : Hid (OwnB w1 base v1 (acc ++ [3])) := OwnB.join (m := [3]) hown1; clear hown1 hgrow1)
  refine (anum base v1 (acc ++ [3]) m (by omega) w1 HO1.out (by have := hfr1.size; simp at this; omega) (by simp; omega)).mono ?_
  rintro e w2 ⟨v2, rfl, hown2, hfr2⟩
  have HO2 := Lib.hid hown2
  have hfr := hfr1.trans hfr2
  clear hown2 q0 q1 q2 q3
  obtain ⟨q0, q1, q2, q3⟩ := box4 hfr
  have hsz : w.heap.size + 1 ≤ w2.heap.size := by have := hfr.size; simp at this; omega
  have hlen2 : ((acc ++ [3]) ++ numD m).length ≤ 262155 := by
    have := (numD_len m).2
    simp; omega
  obtain ⟨L2, HL2⟩ := named ((acc ++ [3]) ++ numD m)
  have HL3 : Hid (acc ++ 3 :: numD m = L2) := by
    show _ = _
    rw [← HL2.out]; simp
  rw [HL2.out] at HO2 hlen2
  have hfrw : Fr base w w2 := ((Fr.refl base w).alloc hb _).trans hfr
  clear hfr hfr1 hfr2 HO1
  go_wp2_with fail
  go_loopw [0, 47] (fun bb i wr => ∃ (j : Nat) (x : List UInt8), j ≤ m ∧ i = .int .i64 j ∧ Hid (loopF R j L2 = x) ∧ x.length ≤ 600000 ∧ Hid (OwnB wr base bb x) ∧ Fr base w wr) (fun _ i _ => m - (intOf i).toNat)
  case atStart => exact ⟨0, L2, Nat.zero_le _, rfl, rfl, by omega, HO2, hfrw⟩
  case round =>
    clear q0 q1 q2 q3
    obtain ⟨j, x, hj, rfl, HX, hx, HW, hfw⟩ := hrel
    obtain ⟨p, c, hu⟩ := HW.out.shape
    subst hu
    by_cases hlt : j < m
    · obtain ⟨hbl, p0, p1, p2, p3⟩ := HC.out j hlt
      have q0 := (hfw.below.cell (p := ⟨b, o + j * 4, none⟩) hbl).trans p0
      have q1 := (hfw.below.cell (p := ⟨b, o + j * 4 + 1, none⟩) hbl).trans p1
      have q2 := (hfw.below.cell (p := ⟨b, o + j * 4 + 2, none⟩) hbl).trans p2
      have q3 := (hfw.below.cell (p := ⟨b, o + j * 4 + 3, none⟩) hbl).trans p3
      clear p0 p1 p2 p3
      have ha' := ha (by omega)
      subst ha'
      have hsz2 := hfw.size
      by_cases hlen : 262144 < x.length
      · have hlen' : (262144 : Int) < x.length := by omega
        have HE : Hid (loopF R m L2 = x) := by
          show _ = _
          rw [loopF_stop R L2 (j := j) (by rw [HX.out]; exact hlen) hj]; exact HX.out
        go_wp2_with fail
        go_ret
        exact ⟨_, rfl, by rw [HL3.out, HE.out]; exact HW.out.alloc _, hfw.alloc (by omega) _⟩
      · have hlen' : ¬ (262144 : Int) < x.length := by omega
        have HE : Hid (loopF R (j + 1) L2 = R j x) := by
          show _ = _
          rw [loopF_succ, HX.out, if_neg hlen]
        have hRl := HRL.out j hlt x (by omega)
        go_wp2_with fail
        refine (HH.out j hlt _ x _ (hfw.below.alloc (by omega) _) (HW.out.alloc _) (by simp; omega) (by omega)).mono ?_
        rintro e w3 ⟨v3, rfl, hown3, hfr3⟩
        have HO3 := Lib.hid hown3
        clear hown3
        go_wp2_with fail
        exact ⟨⟨j + 1, R j x, by omega, by go_num, HE, hRl, HO3, (hfw.alloc (by omega) _).trans hfr3⟩, by simp [intOf]; omega⟩
    · have hjm : j = m := by omega
      have HE : Hid (loopF R m L2 = x) := by rw [← hjm]; exact HX
      clear hjm
      go_wp2_with fail
      go_ret
      exact ⟨_, rfl, by first | (rw [HL3.out, HE.out]; exact HW.out) | (rw [HL2.out, HE.out]; exact HW.out), hfw⟩
/-- What appendItem makes of bytes and an item. -/
def appF : Nat → List UInt8 → T → List UInt8
  | 0, acc, _ => acc
  | f + 1, acc, t => if t.k = 1 then (acc ++ [1]) ++ numD t.n.toNat else if t.k = 2 then ((acc ++ [2]) ++ numD t.s.size) ++ t.s.data.toList.take 262144 else loopF (fun j x => appF f x (t.m j)) t.l.length ((acc ++ [3]) ++ numD t.l.length)
set_option maxRecDepth 100000 in
theorem loopF_len {R : Nat → List UInt8 → List UInt8} {m : Nat} (hR : ∀ j, j < m → ∀ x, x.length ≤ 262144 → (R j x).length ≤ 600000) {x : List UInt8} (hx : x.length ≤ 600000) : (loopF R m x).length ≤ 600000 := by
  induction m with
  | zero => exact hx
  | succ m ih =>
    rw [loopF_succ]
    split
    · exact ih (fun j hj => hR j (by omega))
    · exact hR m (by omega) _ (by omega)
set_option maxRecDepth 100000 in
theorem appF_len (f : Nat) : ∀ (t : T) (x : List UInt8), x.length ≤ 262144 → (appF f x t).length ≤ 600000 := by
  induction f with
  | zero => intro t x h; unfold appF; omega
  | succ f ih =>
    intro t x h
    unfold appF
    split
    · have := (numD_len t.n.toNat).2; simp; omega
    · split
      · have := (numD_len t.s.size).2
        have h2 : (t.s.data.toList.take 262144).length ≤ 262144 := List.length_take_le _ _
        simp only [List.length_append, List.length_cons, List.length_nil] at *
        omega
      · apply loopF_len (fun j _ y hy => ih _ y hy)
        have := (numD_len t.l.length).2; simp; omega
set_option maxRecDepth 100000 in
theorem keeps_kind {t : T} (h : t.keeps = true) : t.k = 1 ∨ t.k = 2 ∨ t.k = 3 := by
  unfold T.keeps keepsB at h
  by_cases h1 : t.k = 1
  · exact Or.inl h1
  · rw [if_neg h1] at h
    by_cases h2 : t.k = 2
    · exact Or.inr (Or.inl h2)
    · rw [if_neg h2] at h
      by_cases h3 : t.k = 3
      · exact Or.inr (Or.inr h3)
      · rw [if_neg h3] at h; cases h
set_option maxRecDepth 100000 in
theorem firstE_zero {E : Nat → Int} {m : Nat} (h : firstE E m = 0) : ∀ j, j < m → E j = 0 := by
  intro j hj
  by_cases e : E j = 0
  · exact e
  · have h0 : firstE E j = 0 ∨ firstE E j ≠ 0 := by omega
    rcases h0 with h0 | h0
    · rw [firstE_stop E h0 e hj] at h; exact absurd h e
    · exfalso
      have : ∀ k, firstE E (j + k) = firstE E j := by
        intro k
        induction k with
        | zero => rfl
        | succ k ih => show (if firstE E (j + k) = 0 then _ else _) = _; rw [if_neg (by rw [ih]; exact h0)]; exact ih
      have e2 := this (m - j)
      rw [show j + (m - j) = m by omega, h] at e2
      exact h0 e2.symm
set_option maxRecDepth 100000 in
theorem wrong_parts {f : Nat} {t : T} (h : wrongF (f + 1) t = 0) : t.keeps = true ∧ t.l.length ≤ 16384 ∧ ∀ j, j < t.l.length → wrongF f (t.m j) = 0 := by
  unfold wrongF at h
  by_cases hk : t.keeps = false
  · rw [if_pos hk] at h; omega
  · rw [if_neg hk] at h
    by_cases hm : 16384 < t.l.length
    · rw [if_pos hm] at h; omega
    · rw [if_neg hm] at h
      exact ⟨by cases e : t.keeps; exact absurd e hk; rfl, by omega, firstE_zero h⟩
set_option maxRecDepth 100000 in
/-- The items' blocks lie below a block. -/
theorem InF.low {w : World} {f : Nat} {t : T} (h : InF w (f + 1) t) : ∃ b o, (0 < t.l.length → t.a = some ⟨b, o, none⟩) ∧ ∀ j, j < t.l.length → b < w.heap.size ∧ (t.m j).at w b (o + j * 4) := by
  obtain ⟨b, o, ha, hat⟩ := h.cells
  exact ⟨b, o, ha, fun j hj => ⟨World.block_lt_of_cell? w _ (hat j hj).1, hat j hj⟩⟩
set_option maxRecDepth 100000 in
theorem append_any (f : Nat) : ∀ (W : World) (t : T), InF W f t → wrongF f t = 0 → ∀ (v : Value) (acc : List UInt8) (w : World), Below W.heap.size W w → OwnB w W.heap.size v acc → W.heap.size ≤ w.heap.size → acc.length ≤ 262144 →
    Calls Tryd.prog 51 #[v, t.val] w fun e w' => ∃ v', e = .returned v' ∧ OwnB w' W.heap.size v' (appF f acc t) ∧ Fr W.heap.size w w' := by
  induction f with
  | zero => intro W t _ h; unfold wrongF at h; omega
  | succ f ih =>
    intro W t hin hw v acc w hb hown hB hl
    obtain ⟨hk, hm, hmem⟩ := wrong_parts hw
    unfold appF
    rcases keeps_kind hk with h | h | h
    · rw [if_pos h]
      have h1 := hin.1.1
      have h2 := hin.1.2.1
      have := app_num W.heap.size v acc t.n.toNat (by omega) t.s t.a t.l.length t.cap w hown hB hl
      rw [Int.toNat_of_nonneg h1, ← h] at this
      exact this
    · rw [if_neg (by omega), if_pos h]
      have := app_text W.heap.size v acc t.n t.s hin.1.2.2.1 t.a t.l.length t.cap w hown hB hl
      rw [← h] at this
      exact this
    · rw [if_neg (by omega), if_neg (by omega)]
      obtain ⟨b, o, ha, hat⟩ := hin.low
      have := app_list W.heap.size v acc t.n t.s t.a b o t.l.length t.cap ha hm w hown hB hl (fun j => (t.m j).k) (fun j => (t.m j).n) (fun j => (t.m j).s) (fun j => (t.m j).a) (fun j => (t.m j).l.length) (fun j => (t.m j).cap) (fun j x => appF f x (t.m j)) (fun j _ x hx => appF_len f _ x hx)
        (fun j hj => ⟨(hat j hj).1, (hat j hj).2.on hb⟩) (fun j hj v' x w' hb' ho' hB' hx' => ih W (t.m j) (hin.mem hj) (hmem j hj) v' x w' (hb.trans hb') ho' hB' hx')
      rw [← h] at this
      exact this
end Go.Proofs.YtchmiiclogmheaaDoor.C2
